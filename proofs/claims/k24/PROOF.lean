import PyProof.Rows.All
import Wide.All
import OpenK.AllK
import Wide.FinOn
import Lean
import PyProof.EqAt
import PyProof.EqKinds
import PyProof.TupleCall
import PySem.Challenge.RW_camplay_k24_rings_counted
set_option Elab.async false
set_option linter.all false
set_option maxRecDepth 100000
set_option maxHeartbeats 4000000
open List (all_cons all_eq_true any_cons any_eq_true append_nil cons_append cons_ne_nil ext_getElem ext_getElem? filterMap_cons filterMap_cons_none filterMap_cons_some filter_append filter_cons filter_nil flatMap_append flatMap_cons flatMap_nil flatten_cons foldl_append foldl_cons getD_eq_getElem?_getD getElem_map getElem_mem getElem_range getElem_take length_cons length_filter_le length_map length_nil length_pos_iff length_range length_replicate length_set length_singleton length_take length_zip lookup_cons map_append map_congr_left map_cons map_id map_map map_nil map_take mem_append mem_append_left mem_append_right mem_cons mem_cons_of_mem mem_cons_self mem_filter mem_filterMap mem_flatMap mem_iff_getElem mem_map mem_of_mem_take mem_range mem_singleton nil_append nodup_append nodup_cons nodup_nil not_mem_nil of_mem_zip pairwise_cons pairwise_iff_getElem pairwise_map pairwise_singleton range_succ replicate_succ size_toArray sum_append sum_cons sum_nil take_length take_sublist)
abbrev vz:=@List.getElem?_eq_getElem
abbrev vy:=@List.getD_eq_getElem?_getD
abbrev vx:=@List.getElem?_eq_some_iff
abbrev vv:=@List.getElem?_map
abbrev vt:=@List.length_map
abbrev vq:=@List.mem_cons_self
abbrev vp:=@List.mem_cons_of_mem
abbrev vo:=@List.mem_singleton
abbrev vn:=@List.length_append
abbrev vm:=@List.mem_of_getElem?
abbrev vk:=@List.map_append
abbrev vj:=@List.length_take
abbrev vi:=@List.mem_append
abbrev vh:=@Option.map_eq_some_iff
abbrev vg:=@Int.emod_lt_of_pos
abbrev vf:=@Int.emod_nonneg
abbrev ve:=@if_pos
abbrev vd:=@if_neg
abbrev vc:=@Nat.le_refl
abbrev vb:=@Nat.zero_le
abbrev va:=@Int.le_refl
abbrev vA:=@List.getElem?_append_left
abbrev vB:=@List.getElem?_append_right
abbrev vC:=@Nat.lt_of_le_of_lt
abbrev vD:=@Nat.ne_of_lt
abbrev vE:=@Bool.false_ne_true
abbrev vF:=@decide_eq_true
abbrev vG:=@decide_eq_false
abbrev vH:=@PySem.Heap.lt_size
abbrev vI:=@PySem.Heap.get?_push_of_some
abbrev vJ:=@List.mem_map
abbrev vK:=@Option.some.inj
abbrev vL:=@Int.mul_nonneg
abbrev vM:=@Nat.ne_of_gt
abbrev vO:=@List.length_cons
abbrev vR:=@List.getElem?_eq_none
abbrev vS:=@Int.mul_le_mul_of_nonneg_right
abbrev vU:=@Nat.le_trans
abbrev vW:=@Nat.le_of_lt
abbrev vX:=@Nat.lt_trans
abbrev vZ:=@List.mem_range
abbrev v2:=@List.take_length
abbrev v3:=@List.map_map
abbrev v4:=@List.foldl_cons
abbrev v6:=@List.map_cons
abbrev v7:=@List.sum_cons
abbrev v8:=@List.mem_of_mem_take
abbrev v9:=@Int.zero_add
abbrev uz:=@Int.add_zero
abbrev uu:=@List.getElem?_take_of_lt
abbrev ut:=@List.nodup_cons
abbrev uk:=@PySem.wpAny_bind
abbrev uh:=@PySem.wpAny_pure
abbrev ug:=@absurd
theorem uf:1<=PySem.sizeLine:=by decide
theorem ue:2<=PySem.sizeLine:=by decide
theorem ud:3<=PySem.sizeLine:=by decide
theorem uc:4<=PySem.sizeLine:=by decide
theorem ub:5<=PySem.sizeLine:=by decide
abbrev Frg := PySem.W.Frag
namespace L2
open PySem PySem.Spec PyProof.Rows
noncomputable abbrev Key:=Sum Int Str
noncomputable def keyIs:Key->Value->Bool
 | .inl k,v=>Value.isInt k v
 | .inr x,v=>Value.isStrOf x v
noncomputable def keyH(w:World):Key->Int
 | .inl k=>hashInt k
 | .inr x=>hashStr w x
theorem Ji:∀{k:Key} {v:Value},keyIs k v=true->(∃i t,k=Sum.inl i/\v=Value.int i t)\/(∃x t,k=Sum.inr x/\v=Value.str x t)
 | .inl i,v,h=>by
  obtain⟨t,e⟩:=Value.isInt_shape (k:=i) (v:=v) h;exact .inl ⟨i,t,rfl,e⟩
 | .inr x,v,h=>by
  obtain⟨t,e⟩:=Value.isStrOf_shape (x:=x) (v:=v) h;exact .inr ⟨x,t,rfl,e⟩
theorem Kl(i:Int)(t:Tok):keyIs (.inl i) (.int i t)=true:=by simp[keyIs,Value.isInt]
theorem Km(x:Str)(t:Tok):keyIs (.inr x) (.str x t)=true:=by simp[keyIs,Value.isStrOf]
theorem j3i(a b:Int):decide ((Sum.inl a:Key)=Sum.inl b)=(a==b):=by
 by_cases e:a=b
 ·subst e;simp
 ·have h:¬(Sum.inl a:Key)=Sum.inl b:=fun q=>e (Sum.inl.inj q)
  rw[vG h];exact(beq_eq_false_iff_ne.mpr e).symm
theorem j3l(a b:Str):decide ((Sum.inr a:Key)=Sum.inr b)=decide (a=b):=by
 by_cases e:a=b
 ·subst e;simp
 ·have h:¬(Sum.inr a:Key)=Sum.inr b:=fun q=>e (Sum.inr.inj q)
  rw[vG h,vG e]
theorem j3j(a:Int)(b:Str):decide ((Sum.inl a:Key)=Sum.inr b)=false:=vG (fun q=>nomatch q)
theorem j3k(a:Str)(b:Int):decide ((Sum.inr a:Key)=Sum.inl b)=false:=vG (fun q=>nomatch q)
noncomputable def mixKind(prog:Program)(w:World):PySem.KeyKind prog w Key where
 is:=keyIs
 hash:=keyH w
 inj:=fun v a b ha hb=>by
  rcases Ji ha with⟨i,t,rfl,rfl⟩ | ⟨x,t,rfl,rfl⟩
  ·rcases Ji hb with⟨j,u,rfl,e⟩ | ⟨y,u,rfl,e⟩
   ·injection e with e1 _;rw[e1]
   ·exact nomatch e
  ·rcases Ji hb with⟨j,u,rfl,e⟩ | ⟨y,u,rfl,e⟩
   ·exact nomatch e
   ·injection e with e1 _;rw[e1]
 byValue:=fun k v h=>by
  rcases Ji h with⟨i,t,rfl,rfl⟩ | ⟨x,t,rfl,rfl⟩<;>rfl
 pyHash:=fun hv h=>by
  rcases Ji hv with⟨i,t,rfl,rfl⟩ | ⟨x,t,rfl,rfl⟩
  ·exact wpAny_pyHash_int h
  ·exact wpAny_pyHash_str h
 eqBool:=fun hu hv h=>by
  rcases Ji hu with⟨i,t,rfl,rfl⟩ | ⟨x,t,rfl,rfl⟩
  ·rcases Ji hv with⟨j,u,rfl,rfl⟩ | ⟨y,u,rfl,rfl⟩
   ·rw[j3i]at h;exact wpAny_eqBool_int h
   ·rw[j3j]at h;exact SeqAt.EqAt.int_str i t y u _ _ _ _ h
  ·rcases Ji hv with⟨j,u,rfl,rfl⟩ | ⟨y,u,rfl,rfl⟩
   ·rw[j3k]at h;exact SeqAt.EqAt.str_int x t j u _ _ _ _ h
   ·rw[j3l]at h;exact wpAny_eqBool_str h
 «strs»:=fun k x t v h=>by
  rcases Ji h with⟨i,u,rfl,e⟩ | ⟨y,u,rfl,e⟩
  ·exact nomatch e
  ·injection e with e1 _;subst e1;cases v<;>rfl
theorem Wx(prog:Program)(w:World)(i:Int)(t:Tok):(mixKind prog w).is (.inl i) (.int i t)=true:=Kl i t
theorem Wy(prog:Program)(w:World)(x:Str)(t:Tok):(mixKind prog w).is (.inr x) (.str x t)=true:=Km x t
inductive V where
 | non | bl (b:Bool) | int (i:Int) | str (x:Str) | byt (b:Array UInt8) | flt (b:UInt64) | ref (a:Addr) | ty (n:String)
 deriving DecidableEq
noncomputable def RelV:V->Value->Prop
 | .non,u=>u=Value.none
 | .bl b,u=>u=Value.bool b
 | .int i,u=>∃t,u=Value.int i t
 | .str x,u=>∃t,u=Value.str x t
 | .byt b,u=>∃t,u=Value.bytes b t
 | .flt b,u=>∃t,u=Value.float b t
 | .ref a,u=>u=Value.ref a
 | .ty n,u=>u=Value.type n
noncomputable abbrev Vals:List V->List Value->Prop:=Paired RelV
theorem Vals.length{xs:List V}{us:List Value}(r:Vals xs us):xs.length=us.length:=Paired.length r
theorem Vals.get:∀{xs:List V} {us:List Value} {i:Nat} {x:V},Vals xs us->xs[i]?=some x->∃u,us[i]?=some u/\RelV x u
 | _,_,_,_,.nil,e=>by simp at e
 | _,_,0,_,.cons r _,e=>by simp at e;subst e;exact⟨_,rfl,r⟩
 | _,_,i+1,x,.cons _ t,e=>by
  obtain⟨u,a,b⟩:=Vals.get (i:=i) (x:=x) t (by simpa using e);exact⟨u,by simpa using a,b⟩
theorem Vals.set{x:V}{u:Value}(r:RelV x u):∀{xs:List V} {us:List Value} (i:Nat),Vals xs us->Vals (xs.set i x) (us.set i u)
 | _,_,_,.nil=>.nil
 | _,_,0,.cons _ t=>.cons r t
 | _,_,i+1,.cons q t=>.cons q (Vals.set r i t)
theorem Vals.append:∀{xs ys:List V} {us a:List Value},Vals xs us->Vals ys a->Vals (xs++ys) (us++a)
 | _,_,_,_,.nil,s=>s
 | _,_,_,_,.cons r t,s=>.cons r (Vals.append t s)
theorem Vals.take:∀{xs:List V} {us:List Value} (n:Nat),Vals xs us->Vals (xs.take n) (us.take n)
 | _,_,0,_=>.nil
 | _,_,_+1,.nil=>.nil
 | _,_,n+1,.cons r t=>.cons r (Vals.take n t)
theorem Vals.drop:∀{xs:List V} {us:List Value} (n:Nat),Vals xs us->Vals (xs.drop n) (us.drop n)
 | _,_,0,r=>r
 | _,_,_+1,.nil=>.nil
 | _,_,n+1,.cons _ t=>Vals.drop n t
noncomputable def RelO:Option V->Option Value->Prop
 | some v,some u=>RelV v u
 | none,none=>True
 | _,_=>False
noncomputable def KV{κ:Type}:List (κ×V)->List (κ×Value)->Prop:=Paired fun(p:κ×V) (q:κ×Value)=>p.1=q.1/\RelV p.2 q.2
noncomputable def kV:Key->V
 | .inl i=>.int i
 | .inr x=>.str x
inductive HO where
 | lst (xs:List V)
 | tup (xs:List V)
 | dK (kvs:List (Key×V)) | dT (kvs:List (List Key×V))
 | set (S:Int->Bool) (n:Nat)
 | ins (C dx:Addr) (fs:List (Str×V))
 | own (x:Addr)
 | xd (fs:List (Str×V))
 | met (f x:Addr)
 | rng (lo hi:Int)
 | frz (o:Obj) (u:HO)
 | tbl (ps:Array Value)
 | ext (φ:Heap->Prop)
noncomputable abbrev Hp:=Addr->Option HO
noncomputable def upd(H:Hp)(a:Addr)(o:HO):Hp:=fun b=>if b=a then some o else H b
theorem jC{H:Hp}{a:Addr}{o:HO}:upd H a o a=some o:=by unfold upd;rw[ve rfl]
theorem jh{H:Hp}{a b:Addr}{o:HO}(h:b≠a):upd H a o b=H b:=by unfold upd;rw[vd h]
theorem Jl{H:Hp}{a b:Addr}{o u:HO}(h:H a=some o)(h':H b=some u)(d:o≠u):a≠b:=by
 intro e;subst e;rw[h]at h';exact d (vK h')
theorem je{H:Hp}{a b:Addr}{o:HO}(h:H a=some o)(h':H b=none):a≠b:=by
 intro e;subst e;rw[h]at h';cases h'
section
variable(P:Program)(w:World)
noncomputable def ObjOk(H:Hp)(h:Heap)(a:Addr):HO->Prop
 | .lst xs=>xs.length<=sizeLine/\∃(its:List Value) (n:Nat),Vals xs its/\h.get? a=some {cls:=.type "list",data:=.seq its.toArray n}
 | .tup xs=>xs.length<=sizeLine/\∃its:List Value,Vals xs its/\IsTup h a its.toArray
 | .dK kvs=>kvs.length<=sizeLine/\(a==sysModules)=false/\∃vs,KV kvs vs/\h.DictOf (mixKind P w) a vs
 | .dT kvs=>kvs.length<=sizeLine/\(a==sysModules)=false/\∃xs:List (List Key×Addr×Value),
   Paired (fun(p:List Key×V) (q:List Key×Addr×Value)=>p.1=q.1/\H q.2.1=some (.tup (p.1.map kV))/\RelV p.2 q.2.2) kvs xs/\
   ∃o es ep,h.get? a=some o/\o.ExactDict/\o.data = .dict es ep/\es.toList=xs.map (entryOfKey (tupleKind (mixKind P w)))/\(xs.map (·.1)).Nodup
 | .set S n=>h.SetOf (intKind P w) a S n
 | .ins C dx fs=>H dx=some (.own a)/\fs.length<=1000/\dx≠a/\h.get? a=some (PySem.W.instObj C dx)/\
   ∃mA,h.Ns1 dx mA/\(∀f,RelO (fs.lookup f) (mA f))/\PySem.Within mA (fs.map (·.1))
 | .own _=>∃o,h.get? a=some o
 | .xd fs=>∃mA,h.Ns1 a mA/\∀f,RelO (fs.lookup f) (mA f)
 | .rng lo hi=>∃t u v,h.get? a=some {cls:=.type "range",data:=.fields #[.int lo t,.int hi u,.int 1 v]}
 | .frz o u=>h.get? a=some o/\ObjOk H h a u
 | .tbl ps=>h.get? a=some {cls:=.none,data:=.fields ps}
 | .met f x=>h.get? a=some (PySem.W.methodObj (.ref f) (.ref x))
 | .ext φ=>φ h/\(∃o,h.get? a=some o)/\∀h1 h2:Heap,φ h1->(∀o,h1.get? a=some o->h2.get? a=some o)->φ h2
def HOk(H:Hp)(h:Heap):Prop:=∀a o,H a=some o->ObjOk P w H h a o
end
section
variable{P:Program}{w:World}{H H':Hp}{h h':Heap}{a:Addr}{o:HO}
theorem ObjOk.lt(x:ObjOk P w H h a o):a<h.objs.size:=by
 cases o with
 | lst xs=>obtain⟨_,_,_,_,e⟩:=x;exact vH e
 | tup xs=>obtain⟨_,_,_,p⟩:=x;exact p.lt
 | dK kvs=>obtain⟨_,_,_,_,o,_,_,e,_⟩:=x;exact vH e
 | dT kvs=>obtain⟨_,_,_,_,o,_,_,e,_⟩:=x;exact vH e
 | set S n=>obtain⟨o,_,_,_,e,_⟩:=x;exact vH e
 | ins C dx fs=>obtain⟨_,_,_,e,_⟩:=x;exact vH e
 | own y=>obtain⟨_,e⟩:=x;exact vH e
 | xd fs=>obtain⟨_,⟨_,_,_,e,_⟩,_⟩:=x;exact vH e
 | rng lo hi=>obtain⟨_,_,_,e⟩:=x;exact vH e
 | frz ob u=>obtain⟨e,_⟩:=x;exact vH e
 | tbl ps=>exact vH (show h.get? a=some _ from x)
 | met f y=>exact vH (show h.get? a=some _ from x)
 | ext φ=>obtain⟨_,⟨_,e⟩,_⟩:=x;exact vH e
theorem Paired.mapP{e g:Type}{F G:e->g->Prop}:∀{c:List e} {d:List g},Paired F c d->(∀a b,F a b->G a b)->Paired G c d
 | _,_,.nil,_=>.nil
 | _,_,.cons r t,f=>.cons (f _ _ r) (Paired.mapP t f)
theorem ObjOk.stay(x:ObjOk P w H h a o)(k:∀b u,(b=a\/H b=some (.own a))->h.get? b=some u->h'.get? b=some u)
  (D:∀b,H b=some (.own a)->H' b=some (.own a)) (E:∀b xs,H b=some (.tup xs)->H' b=some (.tup xs)):ObjOk P w H' h' a o:=by
 induction o with
 | lst xs=>obtain⟨z,l,n,r,e⟩:=x;exact⟨z,l,n,r,k _ _ (.inl rfl) e⟩
 | tup xs=>obtain⟨z,l,r,g,e,c⟩:=x;exact⟨z,l,r,g,k _ _ (.inl rfl) e,c⟩
 | dK kvs=>obtain⟨z,y,G,r,g,j,i,e,c⟩:=x;exact⟨z,y,G,r,g,j,i,k _ _ (.inl rfl) e,c⟩
 | dT kvs=>
  obtain⟨z,y,xs,r,g,j,i,e,c⟩:=x;exact⟨z,y,xs,Paired.mapP r fun p q z=>⟨z.1,E _ _ z.2.1,z.2.2⟩,g,j,i,k _ _ (.inl rfl) e,c⟩
 | set S n=>obtain⟨g,j,i,t,e,c⟩:=x;exact⟨g,j,i,t,k _ _ (.inl rfl) e,c⟩
 | ins C dx fs=>
  obtain⟨d,z,F,e,m,⟨s,j,i,B,c⟩,r⟩:=x;exact⟨D _ d,z,F,k _ _ (.inl rfl) e,m,⟨s,j,i,k _ _ (.inr d) B,c⟩,r⟩
 | own y=>obtain⟨g,e⟩:=x;exact⟨g,k _ _ (.inl rfl) e⟩
 | xd fs=>obtain⟨m,⟨s,j,i,e,c⟩,r⟩:=x;exact⟨m,⟨s,j,i,k _ _ (.inl rfl) e,c⟩,r⟩
 | rng lo hi=>obtain⟨t,u,v,e⟩:=x;exact⟨t,u,v,k _ _ (.inl rfl) e⟩
 | frz g u ih=>obtain⟨e,q⟩:=x;exact⟨k _ _ (.inl rfl) e,ih q⟩
 | tbl ps=>
  have e:h.get? a=some {cls:=.none,data:=.fields ps}:=x;show h'.get? a=some {cls:=.none,data:=.fields ps};exact k a _ (.inl rfl) e
 | met f y=>
  have e:h.get? a=some (PySem.W.methodObj (.ref f) (.ref y)):=x;show h'.get? a=some (PySem.W.methodObj (.ref f) (.ref y));exact k a _ (.inl rfl) e
 | ext φ=>obtain⟨p,⟨o,e⟩,A⟩:=x;exact⟨A _ _ p fun o q=>k _ _ (.inl rfl) q,⟨o,k _ _ (.inl rfl) e⟩,A⟩
theorem HOk.lt(x:HOk P w H h)(e:H a=some o):a<h.objs.size:=(x a o e).lt
theorem HOk.fresh(x:HOk P w H h)(e:h.objs.size<=a):H a=none:=by
 cases q:H a with
 | none=>rfl
 | some u=>exact ug (Nat.lt_of_lt_of_le (x.lt q) e) (Nat.lt_irrefl _)
theorem HOk.kept(x:HOk P w H h)(k:∀b u,h.get? b=some u->h'.get? b=some u):HOk P w H h':=fun a o e=>
 (x a o e).stay (fun b u _ q=>k b u q) (fun _ q=>q) fun _ _ q=>q
theorem HOk.laid(x:HOk P w H h)(k:∀b u,h.get? b=some u->h'.get? b=some u)(i:h.objs.size<=a)(d:ObjOk P w (upd H a o) h' a o):HOk P w (upd H a o) h':=fun b u e=>by
 have g:=x.fresh i;by_cases f:b=a
 ·subst f;rw[jC]at e;cases e;exact d
 ·rw[jh f]at e;exact(x b u e).stay (fun c v _ q=>k c v q) (fun c q=>by rw[jh (je q g)];exact q) fun c j q=>by rw[jh (je q g)];exact q
end
def Rd(H:Hp)(a:Addr)(u:HO):Prop:=H a=some u\/∃o,H a=some (.frz o u)
theorem Rd.ok{P:Program}{w:World}{H:Hp}{h:Heap}{a:Addr}{u:HO}(r:Rd H a u)(x:HOk P w H h):ObjOk P w H h a u:=by
 rcases r with r | ⟨o,r⟩
 ·exact x a u r
 ·obtain⟨_,q⟩:=x a _ r;exact q
noncomputable def Mut:Option HO->Prop
 | some (.lst _)=>True
 | some (.dK _)=>True
 | some (.dT _)=>True
 | some (.set _ _)=>True
 | some (.ins _ _ _)=>True
 | some (.ext _)=>True
 | _=>False
section
variable{P:Program}{w:World}{H:Hp}{h h':Heap}{x e:Addr}{o':HO}
theorem HOk.write(t:HOk P w H h)(j:Mut (H x))(o:e=x\/H e=some (.own x))(k:∀b u,b≠e->h.get? b=some u->h'.get? b=some u)(m:∃u,h'.get? e=some u)
  (n:ObjOk P w (upd H x o') h' x o'):HOk P w (upd H x o') h':=fun b u q=>by
 have d:∀c y,H c=some (.own y)->c≠x:=fun c y r z=>by subst z;rw[r]at j;exact j
 have f:∀c l,H c=some (.tup l)->c≠x:=fun c l r z=>by subst z;rw[r]at j;exact j
 by_cases g:b=x
 ·subst g;rw[jC]at q;cases q;exact n
 ·rw[jh g]at q;by_cases a:b=e
  ·have p:H b=some (.own x):=by
    rcases o with z | z
    ·exact ug (a.trans z) g
    ·rw[a];exact z
   rw[q]at p;cases p;obtain⟨v,s⟩:=m;exact⟨v,by rw[a];exact s⟩
  ·refine(t b u q).stay (fun c v i r=>k c v ?_ r) (fun c r=>by rw[jh (d c b r)];exact r) fun c l r=>by rw[jh (f c l r)];exact r
   rcases i with rfl | i
   ·exact a
   ·rintro rfl;rcases o with z | z
    ·exact d c b i z
    ·rw[i]at z;cases z;exact g rfl
end
structure Un(fs ex:List Addr)(H H':Hp)(h h':Heap):Prop where
 keep:∀b o,h.get? b=some o->H b=none->b∉fs->b∉ex->h'.get? b=some o
 slot:∀b o,h.get? b=some o->H b=none->b∈fs->b∉ex->∃sl,h'.get? b=some {o with slots:=sl}
 free:∀b o,h.get? b=some o->H b=none->b∉ex->H' b=none
 there:∀b o,h.get? b=some o->b∉ex->∃o',h'.get? b=some o'
 tups:∀b xs,H b=some (.tup xs)->H' b=some (.tup xs)
 frzs:∀b o u,H b=some (.frz o u)->H' b=some (.frz o u)
 tbls:∀b ps,H b=some (.tbl ps)->∃more,H' b=some (.tbl (ps++more))
section
variable{fs fs' ex ex':List Addr}{H H1 H2:Hp}{h h1 h2 h':Heap}{a x e:Addr}{o:HO}
theorem Un.any(u:Un fs ex H H1 h h1){b:Addr}{a:Obj}(q:h.get? b=some a)(n:H b=none)(d:b∉ex):∃e,h1.get? b=some {a with slots:=e}:=by
 by_cases c:b∈fs
 ·exact u.slot b a q n c d
 ·exact⟨a.slots,u.keep b a q n c d⟩
theorem Un.kept(k:∀b u,h.get? b=some u->h'.get? b=some u):Un fs ex H H h h':=
 ⟨fun b a q _ _ _=>k b a q,fun b a q _ _ _=>⟨a.slots,k b a q⟩,fun _ _ _ n _=>n,fun b a q _=>⟨a,k b a q⟩,fun _ _ q=>q,fun _ _ _ q=>q,fun _ c q=>⟨#[],by rw[q];simp⟩⟩
theorem Un.refl:Un fs ex H H h h:=Un.kept fun _ _ q=>q
theorem Un.laid(k:∀b u,h.get? b=some u->h'.get? b=some u)(d:h.objs.size<=a)(c:H a=none):Un fs ex H (upd H a o) h h' where
 keep:=fun b u q _ _ _=>k b u q
 slot:=fun b u q _ _ _=>⟨u.slots,k b u q⟩
 free:=fun b u q n _=>by rw[jh (vD (Nat.lt_of_lt_of_le (vH q) d))];exact n
 there:=fun b u q _=>⟨u,k b u q⟩
 tups:=fun b e q=>by rw[jh (je q c)];exact q
 frzs:=fun b u e q=>by rw[jh (je q c)];exact q
 tbls:=fun b f q=>⟨#[],by rw[jh (je q c),q];simp⟩
theorem Un.write(c:Mut (H x))(j:e=x\/H e=some (.own x))(k:∀b u,b≠e->h.get? b=some u->h'.get? b=some u)(d:∃u,h'.get? e=some u):Un fs ex H (upd H x o) h h':=by
 have i:∀b,H b=none->b≠x:=fun b n z=>by subst z;rw[n]at c;exact c
 have g:∀b,H b=none->b≠e:=fun b n z=>by
  subst z;rcases j with r | r
  ·exact i b n r
  ·rw[n]at r;cases r
 have f:∀b u,H b=some u->¬Mut (some u)->b≠x:=fun b u q l z=>by subst z;rw[q]at c;exact l c
 refine⟨fun b u q n _ _=>k b u (g b n) q,fun b u q n _ _=>⟨u.slots,k b u (g b n) q⟩,fun b u q n _=>by rw[jh (i b n)];exact n,fun b u q _=>?_,
  fun b m q=>by rw[jh (f b _ q fun z=>z)];exact q,fun b u m q=>by rw[jh (f b _ q fun z=>z)];exact q,fun b p q=>⟨#[],by rw[jh (f b _ q fun z=>z),q];simp⟩⟩
 by_cases a:b=e
 ·subst a;exact d
 ·exact⟨u,k b u a q⟩
end
noncomputable def trk(h:Heap)(H:Hp):List Addr:=(List.range h.objs.size).filter fun a=>(H a).isSome
noncomputable def hidT(h:Heap)(H:Hp):Heap:=PySem.W.hideAll h (trk h H)
theorem X4(h:Heap)(H:Hp):(hidT h H).objs.size=h.objs.size:=PySem.W.hideAll_size _ _
theorem j0W{h:Heap}{H:Hp}{b:Addr}{o:Obj}(e:h.get? b=some o)(n:H b=none):(hidT h H).get? b=some o:=
 PySem.W.hideAll_get _ e fun a=>by
  have q:(H b).isSome=true:=(mem_filter.mp a).2;rw[n]at q;simp at q
theorem j2K{h:Heap}{H:Hp}{b:Addr}{o:Obj}(e:(hidT h H).get? b=some o):h.get? b=some o/\H b=none:=by
 have a:h.get? b=some o:=PySem.W.of_hideAll (trk h H) e;refine⟨a,?_⟩;cases q:H b with
 | none=>rfl
 | some x=>
  have c:b∈trk h H:=mem_filter.mpr ⟨vZ.mpr (vH a),by simp[q]⟩;have z:(hidT h H).get? b=none:=PySem.W.hideAll_none (trk h H) c;rw[z]at e;cases e
structure Mod(K:Frg)(mg:Str->Option Value)(base:Heap):Prop where
 kin:K.In base
 glob:base.Ns mainGlobals mg
 blt:∃mb,base.Ns builtinsNs mb/\∀x:Str,x≠"__name__"->mb x=bootBuiltins x
 nolimit:base.NoLimit
structure Cx where
 prog:Program
 w:World
 K:Frg
 mg:Str->Option Value
 base:Heap
 A:Around
 N:List Str
 s₀:Shared
 H₀:Hp
 env:Env
 outer:List Env
 stack:List Env
 ex:List Addr
 fn:Str->Bool
 calm:Bool
 pn:List (Addr×Obj)
 xe:Value->Shared->Prop
noncomputable def frs(l:List Env):List Addr:=l.filterMap (·.frame)
noncomputable abbrev Cx.fs(X:Cx):List Addr:=frs X.outer
def Vis(sc:Scope)(x:Str):Prop:=sc.names.lookup x=some .local\/sc.names.lookup x=some .cell\/sc.names.lookup x=some .free
def Loc(sc:Scope)(x:Str):Prop:=sc.names.lookup x=some .local\/sc.names.lookup x=some .cell
def Look(env:Env)(h:Heap)(m:Str->Option Value)(x:Str)(u:Value):Prop:=
 (env.kindOf x=some .local/\m x=some u)\/((env.kindOf x=some .cell\/env.kindOf x=some .free)/\∃c,env.cells.lookup x=some c/\h.IsCell c (some u))
structure Cx.Ok(X:Cx):Prop where
 mod:Mod X.K X.mg X.base
 kind:X.env.scope.kind = .function
 glob:X.env.globals=mainGlobals
 blt:X.env.builtins=builtinsNs
 above:X.s₀.heap.objs.size<=X.env.locals
 inj:∀x y c,X.env.cells.lookup x=some c->X.env.cells.lookup y=some c->x=y
 has:∀x,(X.env.kindOf x=some .cell\/X.env.kindOf x=some .free)->∃c,X.env.cells.lookup x=some c
 cab:∀x c,X.fn x=true->X.env.cells.lookup x=some c->X.s₀.heap.objs.size<=c
 hd:X.calm=true->X.A.handled=none
 frames:X.A.frames=some X.stack
 stk:X.stack=X.outer\/(X.stack=X.env::X.outer/\X.env.frame=some X.env.locals)
 exf:∀b∈X.ex,b≠X.env.locals/\∀x c,X.env.cells.lookup x=some c->c≠b
 bs:∀b o,X.base.get? b=some o->X.s₀.heap.get? b=some o/\X.H₀ b=none
 bsz:X.base.objs.size<=X.s₀.heap.objs.size
 noex:∀b o,X.base.get? b=some o->b∉X.ex
 exfs:∀b∈X.ex,b∉X.fs
 funs:X.s₀.heap.FunFrames X.base X.outer
 frf:∀b∈X.fs,X.H₀ b=none
structure Inv(X:Cx)(pins:List (Addr×Obj))(σ:List (Option V))(H:Hp)(s:Shared):Prop where
 ok:X.Ok
 os:s.os=X.s₀.os
 bare:AllBare s.gens
 base:Un X.fs X.ex X.H₀ H X.s₀.heap s.heap
 loc:∃m,s.heap.Ns X.env.locals m/\∀(i:Nat) (x:Str) (v:V),X.N[i]?=some x->σ[i]?=some (some v)->Vis X.env.scope x->∃u,RelV v u/\Look X.env s.heap m x u
 cell:∀x c,X.env.cells.lookup x=some c->∃v,s.heap.IsCell c v
 free:H X.env.locals=none
 freeC:∀x c,X.env.cells.lookup x=some c->H c=none
 pin:∀p∈X.pn++pins,s.heap.get? p.1=some p.2/\H p.1=none/\p.1≠X.env.locals/\p.1∉X.fs/\∀v,p.2.data≠.cell v
 hok:HOk X.prog X.w H s.heap
 len:σ.length=X.N.length
section
variable{X:Cx}{pins:List (Addr×Obj)}{σ:List (Option V)}{H H':Hp}{s:Shared}{h':Heap}
theorem Cx.Ok.nofr(c:X.Ok){b:Addr}{o:Obj}(e:X.base.get? b=some o):b∉X.fs:=fun a=>by
 have:=(c.funs.mem a).1;rw[e]at this;cases this
theorem Inv.bs(I:Inv X pins σ H s):∀b o,X.base.get? b=some o->s.heap.get? b=some o/\H b=none:=fun b o e=>
 ⟨I.base.keep b o (I.ok.bs b o e).1 (I.ok.bs b o e).2 (I.ok.nofr e) (I.ok.noex b o e),I.base.free b o (I.ok.bs b o e).1 (I.ok.bs b o e).2 (I.ok.noex b o e)⟩
theorem Inv.bk(I:Inv X pins σ H s):∀b o,X.base.get? b=some o->s.heap.get? b=some o:=fun b o e=>(I.bs b o e).1
theorem Inv.mod(I:Inv X pins σ H s):Mod X.K X.mg X.base:=I.ok.mod
theorem Inv.kIn(I:Inv X pins σ H s):X.K.In s.heap:=I.ok.mod.kin.keeps I.bk
theorem Inv.lt(I:Inv X pins σ H s):X.env.locals<s.heap.objs.size:=let ⟨_,hn,_⟩:=I.loc;hn.lt
theorem Inv.sz(I:Inv X pins σ H s):X.s₀.heap.objs.size<=s.heap.objs.size:=vU I.ok.above (vW I.lt)
theorem Inv.nofs(I:Inv X pins σ H s){a:Addr}(h:s.heap.objs.size<=a):a∉X.fs:=fun b=>by
 obtain⟨_,o,c,_⟩:=I.ok.funs.mem b;exact ug (Nat.lt_of_lt_of_le (vH c) (vU I.sz h)) (Nat.lt_irrefl _)
theorem Inv.cne(I:Inv X pins σ H s):∀x c,X.env.cells.lookup x=some c->c≠X.env.locals:=fun x c e z=>by
 obtain⟨v,o,f,d⟩:=I.cell x c e;obtain⟨m,⟨i,h,g,b,a,_⟩,_⟩:=I.loc;rw[z,b]at f;cases f;rw[a]at d;cases d
theorem Inv.funs(I:Inv X pins σ H s):s.heap.FunFrames X.base X.outer:=by
 have a:∀(l:List Env),(∀b∈frs l,b∈X.fs)->X.s₀.heap.FunFrames X.base l->s.heap.FunFrames X.base l:=by
  intro l
  induction l with
  | nil=>intro _ _;trivial
  | cons env r ih=>
   intro g j;obtain⟨i,⟨L,o,f,k,m,h⟩,n⟩:=j;have c:L∈X.fs:=g L (by unfold frs;rw[filterMap_cons,f];exact vq);obtain⟨p,e⟩:=I.base.slot L o m (I.ok.frf L c) c fun z=>I.ok.exfs L z c
   exact⟨i,⟨L,_,f,k,e,h⟩,ih (fun b d=>g b (by unfold frs;rw[filterMap_cons,f];exact vp _ d)) n⟩
 exact a X.outer (fun _ d=>d) I.ok.funs
theorem Inv.stack(I:Inv X pins σ H s):s.heap.FunFrames X.base X.stack:=by
 rcases I.ok.stk with e | ⟨e,a⟩
 ·rw[e];exact I.funs
 ·rw[e];obtain⟨m,b,_⟩:=I.loc;refine .cons (by rw[I.ok.kind];decide) a b ?_ I.funs;exact Heap.get?_none_of_le (vU I.ok.bsz I.ok.above)
theorem Inv.stkSub(I:Inv X pins σ H s):∀b∈frs X.stack,b∈X.env.locals::X.fs:=fun b a=>by
 rcases I.ok.stk with e | ⟨e,c⟩
 ·rw[e]at a;exact vp _ a
 ·rw[e]at a;unfold frs at a;rw[filterMap_cons,c]at a;exact a
theorem Inv.stkFree(I:Inv X pins σ H s):∀b∈frs X.stack,H b=none:=fun b a=>by
 rcases mem_cons.mp (I.stkSub b a)with e | a
 ·rw[e];exact I.free
 ·obtain⟨_,o,c,_⟩:=I.ok.funs.mem a;exact I.base.free b o c (I.ok.frf b a) fun z=>I.ok.exfs b z a
theorem Inv.step{g':Array GenState}{t':Nat}{d':Drawn}{ch:List Addr}(I:Inv X pins σ H s)
  (h:∀b∈ch,(b∈X.ex\/X.s₀.heap.objs.size<=b)/\b≠X.env.locals/\(∀x c,X.env.cells.lookup x=some c->c≠b)/\∀p∈X.pn++pins,p.1≠b)
  (j:∀b o,b≠X.env.locals->b∉X.fs->b∉ch->s.heap.get? b=some o->H b=none->h'.get? b=some o)
  (A:∀b o,b≠X.env.locals->b∈X.fs->b∉ch->s.heap.get? b=some o->H b=none->∃N,h'.get? b=some {o with slots:=N}) (f:∀b o,b∉ch->s.heap.get? b=some o->H b=none->H' b=none)
  (C:∀b o,b∉ch->s.heap.get? b=some o->∃o',h'.get? b=some o')
  (K:∀b xs,H b=some (.tup xs)->H' b=some (.tup xs)) (F:∀b o u,H b=some (.frz o u)->H' b=some (.frz o u)) (J:∀b ps,H b=some (.tbl ps)->∃more,H' b=some (.tbl (ps++more)))
  (ns:∀m,s.heap.Ns X.env.locals m->h'.Ns X.env.locals m) (M:HOk X.prog X.w H' h') (U:AllBare g') :
  Inv X pins σ H' {s with heap:=h',gens:=g',drawn:=d',toks:=t'}:=by
 have G:∀b o,X.s₀.heap.get? b=some o->b≠X.env.locals:=fun b o e=>vD (Nat.lt_of_lt_of_le (vH e) I.ok.above)
 have y:∀b o,X.s₀.heap.get? b=some o->b∉X.ex->b∉ch:=fun b o e a B=>by
  rcases(h b B).1 with z | z
  ·exact a z
  ·exact ug (Nat.lt_of_lt_of_le (vH e) z) (Nat.lt_irrefl _)
 have g:∀x c,X.env.cells.lookup x=some c->∀v,s.heap.IsCell c v->h'.IsCell c v:=fun x c e v ⟨o,D,L⟩=>by
  have t:c∉ch:=fun z=>(h c z).2.2.1 x c e rfl
  by_cases P:c∈X.fs
  ·obtain⟨N,q⟩:=A c o (I.cne x c e) P t D (I.freeC x c e);exact⟨_,q,L⟩
  ·exact⟨o,j c o (I.cne x c e) P t D (I.freeC x c e),L⟩
 refine⟨I.ok,I.os,U,⟨fun b o e n B a=>?_,fun b o e n B a=>?_,fun b o e n a=>?_,fun b o e a=>?_,fun b xs e=>K b xs (I.base.tups b xs e),fun b o xs e=>F b o xs (I.base.frzs b o xs e),fun b ps e=>?_⟩,?_,fun x c e=>?_,?_,fun x c e=>?_,fun p Q=>?_,M,I.len⟩
 ·exact j b o (G b o e) B (y b o e a) (I.base.keep b o e n B a) (I.base.free b o e n a)
 ·obtain⟨N,w⟩:=I.base.slot b o e n B a;obtain⟨O,E⟩:=A b _ (G b o e) B (y b o e a) w (I.base.free b o e n a);exact⟨O,E⟩
 ·obtain⟨o',w⟩:=I.base.there b o e a;exact f b o' (y b o e a) w (I.base.free b o e n a)
 ·obtain⟨o',w⟩:=I.base.there b o e a;exact C b o' (y b o e a) w
 ·obtain⟨Z,w⟩:=I.base.tbls b ps e;obtain⟨m2,E⟩:=J b _ w;exact⟨Z++m2,by rw[E,Array.append_assoc]⟩
 ·obtain⟨m,Y,W⟩:=I.loc;refine⟨m,ns m Y,fun i x v w E T=>?_⟩;obtain⟨u,r,l⟩:=W i x v w E T;refine⟨u,r,?_⟩;rcases l with l | ⟨k,c,e,z⟩
  ·exact .inl l
  ·exact .inr ⟨k,c,e,g x c e _ z⟩
 ·obtain⟨v,z⟩:=I.cell x c e;exact⟨v,g x c e v z⟩
 ·obtain⟨m,⟨o,_,_,D,_⟩,_⟩:=I.loc;exact f _ o (fun z=>(h _ z).2.1 rfl) D I.free
 ·obtain⟨v,o,D,L⟩:=I.cell x c e;exact f c o (fun z=>(h c z).2.2.1 x c e rfl) D (I.freeC x c e)
 ·obtain⟨e,n,R,S,d⟩:=I.pin p Q;have t:p.1∉ch:=fun z=>(h p.1 z).2.2.2 p Q rfl
  exact⟨j p.1 p.2 R S t e n,f p.1 p.2 t e n,R,S,d⟩
theorem Inv.un{t':Nat}(I:Inv X pins σ H s)(u:Un X.fs [] H H' s.heap h')(g:HOk X.prog X.w H' h'):Inv X pins σ H' {s with heap:=h',toks:=t'}:=by
 obtain⟨m,⟨o,p,l,h,r⟩,_⟩:=id I.loc;obtain⟨v,i⟩:=u.any h I.free (by simp);exact I.step (g':=s.gens) (d':=s.drawn) (ch:=[]) (fun _ z=>nomatch z) (fun b o _ f _ e n=>u.keep b o e n f (by simp)) (fun b o _ f _ e n=>u.slot b o e n f (by simp)) (fun b o _ e n=>u.free b o e n (by simp)) (fun b o _ e=>u.there b o e (by simp)) u.tups u.frzs u.tbls (fun q j=>by
  obtain⟨t,d,c,a,k⟩:=j;rw[h]at a;cases a;exact⟨_,d,c,i,k⟩) g I.bare
theorem Inv.call{g':Array GenState}{t':Nat}{d':Drawn}{ch:List Addr}(I:Inv X pins σ H s)(u:Un (frs X.stack) ch H H' s.heap h')(j:HOk X.prog X.w H' h')(q:AllBare g')
  (d:∀b∈ch,(b∈X.ex\/X.s₀.heap.objs.size<=b)/\b≠X.env.locals/\(∀x c,X.env.cells.lookup x=some c->c≠b)/\∀p∈X.pn++pins,p.1≠b) :
  Inv X pins σ H' {s with heap:=h',gens:=g',drawn:=d',toks:=t'}:=by
 obtain⟨m,⟨o,y,w,k,r⟩,_⟩:=id I.loc;obtain⟨C,i⟩:=u.any k I.free fun z=>(d _ z).2.1 rfl
 exact I.step (ch:=ch) d (fun b o i l a e n=>u.keep b o e n (fun z=>(mem_cons.mp (I.stkSub b z)).elim i l) a) (fun b o _ _ a e n=>u.any e n a) (fun b o a e n=>u.free b o e n a) (fun b o a e=>u.there b o e a) u.tups u.frzs u.tbls (fun A t=>by
  obtain⟨B,h,g,f,v⟩:=t;rw[k]at f;cases f;exact⟨_,h,g,i,v⟩) j q
theorem Inv.turned{t':Nat}{it:Addr}(I:Inv X pins σ H s)(k:∀b o,b≠it->s.heap.get? b=some o->h'.get? b=some o)(y:H it=none)(f:it≠X.env.locals)
  (i:it∈X.ex\/X.s₀.heap.objs.size<=it) (j:∀x c,X.env.cells.lookup x=some c->c≠it) (l:∀p∈X.pn++pins,p.1≠it):Inv X pins σ H {s with heap:=h',toks:=t'}:=by
 have d:∀b u,H b=some u->b≠it:=fun b u e z=>by rw[z,y]at e;cases e
 refine I.step (g':=s.gens) (d':=s.drawn) (ch:=[it]) (fun b t=>?_) (fun b o _ _ a e _=>k b o (fun z=>a (by simp[z])) e) (fun b o _ _ a e _=>⟨o.slots,k b o (fun z=>a (by simp[z])) e⟩) (fun _ _ _ _ n=>n)
  (fun b o a e=>⟨o,k b o (fun z=>a (by simp[z])) e⟩) (fun _ _ e=>e) (fun _ _ _ e=>e) (fun b B e=>⟨#[],by rw[e];simp⟩) (fun m w=>?_) (fun b u e=>?_) I.bare
 ·have e:b=it:=by simpa using t
  subst e;exact⟨i,f,j,l⟩
 ·obtain⟨o,h,g,A,r⟩:=w;exact⟨o,h,g,k _ o (Ne.symm f) A,r⟩
 ·refine(I.hok b u e).stay (fun c v a q=>k c v ?_ q) (fun _ q=>q) fun _ _ q=>q
  rcases a with z | z
  ·rw[z];exact d b u e
  ·exact d c _ z
theorem Inv.tok(I:Inv X pins σ H s)(t:Nat):Inv X pins σ H {s with toks:=t}:=I.un (h':=s.heap) (t':=t) Un.refl I.hok
theorem Inv.kept{t':Nat}(I:Inv X pins σ H s)(k:∀b u,s.heap.get? b=some u->h'.get? b=some u):Inv X pins σ H {s with heap:=h',toks:=t'}:=I.un (Un.kept k) (I.hok.kept k)
theorem Inv.laid{a:Addr}{o:HO}{t':Nat}(I:Inv X pins σ H s)(k:∀b u,s.heap.get? b=some u->h'.get? b=some u)(c:s.heap.objs.size<=a)(d:ObjOk X.prog X.w (upd H a o) h' a o) :
  Inv X pins σ (upd H a o) {s with heap:=h',toks:=t'}:=I.un (Un.laid k c (I.hok.fresh c)) (I.hok.laid k c d)
theorem Inv.write{x e:Addr}{o:HO}{t':Nat}(I:Inv X pins σ H s)(f:Mut (H x))(d:e=x\/H e=some (.own x))(k:∀b u,b≠e->s.heap.get? b=some u->h'.get? b=some u)(a:∃u,h'.get? e=some u)
  (c:ObjOk X.prog X.w (upd H x o) h' x o):Inv X pins σ (upd H x o) {s with heap:=h',toks:=t'}:=I.un (Un.write f d k a) (I.hok.write f d k a c)
theorem Inv.weak{σ':List (Option V)}(I:Inv X pins σ H s)(d:σ'.length=σ.length)(w:∀(i:Nat) v,σ'[i]?=some (some v)->σ[i]?=some (some v)):Inv X pins σ' H s:=
 ⟨I.ok,I.os,I.bare,I.base,let ⟨m,hn,hl'⟩:=I.loc;⟨m,hn,fun i x v a b c=>hl' i x v a (w i v b) c⟩,I.cell,I.free,I.freeC,I.pin,I.hok,d.trans I.len⟩
theorem Inv.pins_of{pins':List (Addr×Obj)}(I:Inv X pins σ H s)(h:∀p∈pins',s.heap.get? p.1=some p.2/\H p.1=none/\p.1≠X.env.locals/\p.1∉X.fs/\∀v,p.2.data≠.cell v):Inv X pins' σ H s:=
 ⟨I.ok,I.os,I.bare,I.base,I.loc,I.cell,I.free,I.freeC,fun p a=>(vi.mp a).elim (fun z=>I.pin p (mem_append_left _ z)) (h p),I.hok,I.len⟩
theorem Wz{N:List Str}(e:N.Nodup){i j:Nat}{x:Str}(a:N[i]?=some x)(b:N[j]?=some x):i=j:=by
 obtain⟨f,c⟩:=vx.mp a;obtain⟨g,d⟩:=vx.mp b;exact(List.getElem_inj e).mp (c.trans d.symm)
theorem Kt{M:Model}{A:Around}{E:Value->Shared->Prop}{i:Nat}{x:Str}{v:V}{u:Value}{Q:Unit->Shared->Prop}(I:Inv X pins σ H s)(hN:X.N.Nodup)(hi:X.N[i]?=some x)(w:Loc X.env.scope x)(r:RelV v u)
  (h:∀s',Inv X pins (σ.set i (some v)) H s'->(∃a,Heap.SameBut a s.heap s'.heap/\(a=X.env.locals\/X.env.cells.lookup x=some a))->Q () s') (hf:X.fn x=true\/X.env.scope.names.lookup x=some .local:=by first | exact .inl rfl | exact .inr rfl | assumption):wpAny M A (storeName X.env x u) Q E s:=by
 obtain⟨m,hn,hl⟩:=id I.loc;have R:(X.env.scope.kind == .class||(X.env.scope.kind == .module&&X.env.locals != X.env.globals))=false:=by rw[I.ok.kind];rfl
 have D:i<σ.length:=by rw[I.len];exact(vx.mp hi).1
 have G:=I.cne;have l:∀{a:Addr} {N:Heap},(∃o,s.heap.get? a=some o/\H a=none)->Heap.SameBut a s.heap N->HOk X.prog X.w H N:=fun {a N} ha f b ob e=>by
  obtain⟨_,_,B⟩:=ha;refine(I.hok b ob e).stay (fun c Y t q=>(f.2 c ?_).trans q) (fun _ q=>q) fun _ _ q=>q
  rintro rfl;rcases t with rfl | t
  ·rw[B]at e;cases e
  ·rw[B]at t;cases t
 rcases w with F | F
 ·refine wpAny_storeName_local F hn (fun N a0 f=>?_) R;obtain⟨oL,_,_,a1,_⟩:=id hn;refine h _ ⟨I.ok,I.os,I.bare,⟨fun b o e n J w=>?_,fun b o e n J w=>?_,I.base.free,fun b o e w=>?_,I.base.tups,I.base.frzs,I.base.tbls⟩,⟨_,a0,fun j y v' g C Z=>?_⟩,fun y c e=>?_,I.free,I.freeC,fun p hp=>?_,l ⟨oL,a1,I.free⟩ f,by simpa using I.len⟩ ⟨_,f,.inl rfl⟩
  ·exact(f.2 b (vD (Nat.lt_of_lt_of_le (vH e) I.ok.above))).trans (I.base.keep b o e n J w)
  ·obtain⟨sl,g⟩:=I.base.slot b o e n J w;exact⟨sl,(f.2 b (vD (Nat.lt_of_lt_of_le (vH e) I.ok.above))).trans g⟩
  ·obtain⟨o',g⟩:=I.base.there b o e w;exact⟨o',(f.2 b (vD (Nat.lt_of_lt_of_le (vH e) I.ok.above))).trans g⟩
  ·by_cases L:j=i
   ·subst L;rw[hi]at g;cases g;rw[List.getElem?_set_self D]at C;cases C;exact⟨u,r,.inl ⟨F,by simp⟩⟩
   ·rw[List.getElem?_set_ne (Ne.symm L)]at C;obtain⟨u',r',q⟩:=hl j y v' g C Z;refine⟨u',r',?_⟩;rcases q with⟨k,e⟩ | ⟨k,c,e,z⟩
    ·refine .inl ⟨k,?_⟩;have:y≠x:=fun e=>L (Wz hN g (e▸hi))
     simp[this,e]
    ·exact .inr ⟨k,c,e,z.sameBut f (G y c e)⟩
  ·obtain⟨Y,z⟩:=I.cell y c e;exact⟨Y,z.sameBut f (G y c e)⟩
  ·obtain⟨e,n,W,nf,d⟩:=I.pin p hp;exact⟨(f.2 p.1 W).trans e,n,W,nf,d⟩
 ·have K:X.fn x=true:=by
   rcases hf with z | z
   ·exact z
   ·rw[z]at F;cases F
  obtain⟨c,t⟩:=I.ok.has x (.inl F);obtain⟨Y,z⟩:=I.cell x c t;refine wpAny_storeName_cell I.ok.kind F t z (fun N O f=>?_);obtain⟨oc,S,T⟩:=id z;refine h {s with heap:=N} ⟨I.ok,I.os,I.bare,⟨fun b o e n J w=>?_,fun b o e n J w=>?_,I.base.free,fun b o e w=>?_,I.base.tups,I.base.frzs,I.base.tbls⟩,⟨m,hn.sameBut f (Ne.symm (G x c t)),fun j y v' g C Z=>?_⟩,fun y U e=>?_,I.free,I.freeC,fun p hp=>?_,l ⟨oc,S,I.freeC x c t⟩ f,by simpa using I.len⟩ ⟨c,f,.inr t⟩
  ·exact(f.2 b (vD (Nat.lt_of_lt_of_le (vH e) (I.ok.cab x c K t)))).trans (I.base.keep b o e n J w)
  ·obtain⟨sl,g⟩:=I.base.slot b o e n J w;exact⟨sl,(f.2 b (vD (Nat.lt_of_lt_of_le (vH e) (I.ok.cab x c K t)))).trans g⟩
  ·obtain⟨o',g⟩:=I.base.there b o e w;exact⟨o',(f.2 b (vD (Nat.lt_of_lt_of_le (vH e) (I.ok.cab x c K t)))).trans g⟩
  ·by_cases L:j=i
   ·subst L;rw[hi]at g;cases g;rw[List.getElem?_set_self D]at C;cases C;exact⟨u,r,.inr ⟨.inl F,c,t,O⟩⟩
   ·rw[List.getElem?_set_ne (Ne.symm L)]at C;obtain⟨u',r',q⟩:=hl j y v' g C Z;refine⟨u',r',?_⟩;rcases q with q | ⟨k,U,e,z'⟩
    ·exact .inl q
    ·refine .inr ⟨k,U,e,z'.sameBut f ?_⟩;rintro rfl;exact L (Wz hN g (I.ok.inj _ _ _ e t▸hi))
  ·by_cases P:U=c
   ·subst P;exact⟨_,O⟩
   ·obtain⟨w2,z2⟩:=I.cell y U e;exact⟨w2,z2.sameBut f P⟩
  ·obtain⟨e,n,W,nf,d⟩:=I.pin p hp;refine⟨(f.2 p.1 ?_).trans e,n,W,nf,d⟩;intro q;rw[q,S]at e;have q':oc=p.2:=vK e;exact d Y (by rw[<-q'];exact T)
theorem kr{M:Model}{A:Around}{E:Value->Shared->Prop}{i:Nat}{x:Str}{v:V}{u:Value}{Q:Unit->Shared->Prop}(I:Inv X pins σ H s)(b:X.N.Nodup)(hi:X.N[i]?=some x)(d:Loc X.env.scope x)(r:RelV v u)
  (h:∀s',Inv X pins (σ.set i (some v)) H s'->Q () s') (c:X.fn x=true\/X.env.scope.names.lookup x=some .local:=by first | exact .inl rfl | exact .inr rfl | assumption):wpAny M A (storeName X.env x u) Q E s:=
 Kt I b hi d r (fun s' a _=>h s' a) c
theorem Inv.call'{s':Shared}{ch:List Addr}(I:Inv X pins σ H s)(g:s'.os=s.os)(u:Un (frs X.stack) ch H H' s.heap s'.heap)(d:HOk X.prog X.w H' s'.heap)(f:AllBare s'.gens)
  (a:∀b∈ch,(b∈X.ex\/X.s₀.heap.objs.size<=b)/\b≠X.env.locals/\(∀x c,X.env.cells.lookup x=some c->c≠b)/\∀p∈X.pn++pins,p.1≠b):Inv X pins σ H' s':=by
 obtain⟨i,g',d',t',h⟩:=s';have e:h=s.os:=g;subst e;exact I.call (g':=g') (t':=t') (d':=d') u d f a
end
noncomputable abbrev XK:=Value->Option Addr->Hp->Prop
noncomputable abbrev St:=List (Option V)
noncomputable abbrev VK:=V->Hp->Prop
noncomputable abbrev TE:=St->Hp->VK->Prop
noncomputable abbrev TT:=St->Hp->(Bool->Hp->Prop)->Prop
noncomputable abbrev TA:=St->Hp->(List V->Hp->Prop)->Prop
structure Ends where
 nx:St->Hp->Prop
 rt:VK
 bk:St->Hp->Prop:=fun _ _=>False
 ct:St->Hp->Prop:=fun _ _=>False
noncomputable abbrev TS:=Ends->St->Hp->Prop
def EP(X:Cx)(pins:List (Addr×Obj))(σ:St)(Q:VK)(u:Value)(s':Shared):Prop:=∃v H',Inv X pins σ H' s'/\RelV v u/\Q v H'
def TP(X:Cx)(pins:List (Addr×Obj))(σ:St)(Q:Bool->Hp->Prop)(b:Bool)(s':Shared):Prop:=∃H',Inv X pins σ H' s'/\Q b H'
def AP(X:Cx)(pins:List (Addr×Obj))(σ:St)(Q:List V->Hp->Prop)(us:List Value)(s':Shared):Prop:=∃vs H',Inv X pins σ H' s'/\Vals vs us/\Q vs H'
def SP(X:Cx)(pins:List (Addr×Obj))(D:Ends)(f:Flow)(s':Shared):Prop:=
 match f with
 | .next=>∃σ' H',Inv X pins σ' H' s'/\D.nx σ' H'
 | .brk=>∃σ' H',Inv X pins σ' H' s'/\D.bk σ' H'
 | .cont=>∃σ' H',Inv X pins σ' H' s'/\D.ct σ' H'
 | .ret u=>∃v σ' H',Inv X pins σ' H' s'/\RelV v u/\D.rt v H'
def PE(X:Cx)(e:Expr)(t:TE):Prop:=
 ∀(pins:List (Addr×Obj)) (s:Shared) (σ:St) (H:Hp) (Q:VK),Inv X pins σ H s->t σ H Q->wpAny (model X.prog X.w) X.A (eval e X.env) (EP X pins σ Q) X.xe s
def PT(X:Cx)(e:Expr)(t:TT):Prop:=
 ∀(pins:List (Addr×Obj)) (s:Shared) (σ:St) (H:Hp) (Q:Bool->Hp->Prop),Inv X pins σ H s->t σ H Q->wpAny (model X.prog X.w) X.A (isTrue e X.env (eval e X.env)) (TP X pins σ Q) X.xe s
def PW(X:Cx)(e:Expr)(t:TT):Prop:=
 ∀(whole:Sem Value) (pins:List (Addr×Obj)) (s:Shared) (σ:St) (H:Hp) (Q:Bool->Hp->Prop),Inv X pins σ H s->t σ H Q->wpAny (model X.prog X.w) X.A (isTrue e X.env whole) (TP X pins σ Q) X.xe s
theorem PW.pt{X:Cx}{e:Expr}{t:TT}(h:PW X e t):PT X e t:=h _
def PA(X:Cx)(es:List Expr)(t:TA):Prop:=
 ∀(pos:Pos) (pins:List (Addr×Obj)) (s:Shared) (σ:St) (H:Hp) (Q:List V->Hp->Prop),Inv X pins σ H s->t σ H Q->wpAny (model X.prog X.w) X.A (spliced (backTo pos (starEach es X.env))) (AP X pins σ Q) X.xe s
def PS(X:Cx)(st:Stmt)(t:TS):Prop:=
 ∀(pins:List (Addr×Obj)) (s:Shared) (σ:St) (H:Hp) (D:Ends),Inv X pins σ H s->t D σ H->wpAny (model X.prog X.w) X.A (exec st X.env) (SP X pins D) X.xe s
def PSs(X:Cx)(st:List Stmt)(t:TS):Prop:=
 ∀(pins:List (Addr×Obj)) (s:Shared) (σ:St) (H:Hp) (D:Ends),Inv X pins σ H s->t D σ H->wpAny (model X.prog X.w) X.A (execs st X.env) (SP X pins D) X.xe s
theorem thn{c:Type}{t:Sem c}{Q b:c->Shared->Prop}{M:Model}{A:Around}{E:Value->Shared->Prop}{s:Shared}(h:wpAny M A t Q E s)(d:∀a s,Q a s->b a s):wpAny M A t b E s:=wpAny_mono h d fun _ _ x=>x
section
variable{X:Cx}
def tVar(i:Nat):TE:=fun σ H Q=>∃v,σ[i]?=some (some v)/\Q v H
def tC(v:V):TE:=fun _ H Q=>Q v H
theorem j3B{i:Nat}{x:Str}{j:Pos}(n:X.N[i]?=some x)(t:Vis X.env.scope x)(hd:(x==("__debug__" : Str))=false:=by decide)(g:(x==("__classdict__" : Str))=false:=by decide):PE X (.Name x j) (tVar i):=by
 intro f s w H Q I h;obtain⟨v,e,h⟩:=h;obtain⟨m,q,o⟩:=I.loc;obtain⟨u,r,l⟩:=o i x v n e t;have b:EP X f w Q u s:=⟨v,H,I,r,h⟩
 rcases l with⟨d,p⟩ | ⟨d,c,k,a⟩
 ·exact wpAny_Name (wpAny_loadName_local I.ok.kind d q p b) hd
 ·rcases d with d | d
  ·exact wpAny_Name (wpAny_loadName_cell I.ok.kind d k a b) hd
  ·exact wpAny_Name (wpAny_loadName_free I.ok.kind d k a b g) hd
theorem jd{i j pos}:PE X (.Constant (.int i) j pos) (tC (.int i)):=fun _ _ _ H _ I h=>wpAny_Constant_int ⟨.int i,H,I.tok _,⟨_,rfl⟩,h⟩
theorem j1t{b j pos}:PE X (.Constant (.bool b) j pos) (tC (.bl b)):=fun _ _ _ H _ I h=>Constant_bool ⟨.bl b,H,I,rfl,h⟩
theorem j1v{j pos}:PE X (.Constant .none j pos) (tC .non):=fun _ _ _ H _ I h=>Constant_none ⟨.non,H,I,rfl,h⟩
theorem jB{x j pos}:PE X (.Constant (.str x) j pos) (tC (.str x)):=fun _ _ _ H _ I h=>Calls.Constant_str ⟨.str x,H,I.tok _,⟨_,rfl⟩,h⟩
def Gl(X:Cx)(x:Str):Prop:=X.env.kindOf x=some .globalImplicit
theorem KS{E:Value->Shared->Prop}{a:List (Addr×Obj)}{s:Shared}{e:St}{H:Hp}{x:Str}{u:Value}{b:Pos}{Q:Value->Shared->Prop}(I:Inv X a e H s)(c:Gl X x)(d:X.mg x=some u)(h:Q u s)
  (hd:(x==("__debug__" : Str))=false:=by decide):wpAny (model X.prog X.w) X.A (eval (.Name x b) X.env) Q E s:=
 Calls.Name_function_global I.ok.kind c (Calls.loadGlobal_global (by rw[I.ok.glob];exact I.mod.glob.keeps I.bk) d h) hd
theorem ZQ{E:Value->Shared->Prop}{a:List (Addr×Obj)}{s:Shared}{j:St}{H:Hp}{x:Str}{u:Value}{b:Pos}{Q:Value->Shared->Prop}(I:Inv X a j H s)(e:Gl X x)(f:X.mg x=none)(i:bootBuiltins x=some u)(h:Q u s)
  (g:x≠"__name__":=by decide) (hd:(x==("__debug__" : Str))=false:=by decide):wpAny (model X.prog X.w) X.A (eval (.Name x b) X.env) Q E s:=by
 obtain⟨k,c,d⟩:=I.mod.blt;exact Calls.Name_function_global I.ok.kind e (Calls.loadGlobal_builtin (by rw[I.ok.glob];exact I.mod.glob.keeps I.bk) f (by rw[I.ok.blt];exact c.keeps I.bk) ((d x g).trans i) h) hd
theorem j2P{x:Str}{v:V}{u:Value}{a:Pos}(b:Gl X x)(c:X.mg x=some u)(r:RelV v u)(hd:(x==("__debug__" : Str))=false:=by decide):PE X (.Name x a) (tC v):=
 fun _ _ _ H _ I h=>KS I b c ⟨v,H,I,r,h⟩ hd
theorem XA{x:Str}{v:V}{u:Value}{a:Pos}(b:Gl X x)(c:X.mg x=none)(e:bootBuiltins x=some u)(r:RelV v u)(d:x≠"__name__":=by decide)(hd:(x==("__debug__" : Str))=false:=by decide):PE X (.Name x a) (tC v):=
 fun _ _ _ H _ I h=>ZQ I b c e ⟨v,H,I,r,h⟩ d hd
variable{a b:Expr}{ta tb:TE}{pos:Pos}
def tB(t:TE):TT:=fun σ H Q=>t σ H fun x H1=>∃c,x = .bl c/\Q c H1
theorem j3I{e:Expr}{t:TE}(h:PE X e t)(g:∀a,isTrue e X.env a=(do let v <-a;standAt e.pos;holding [v] (truthy v)):=by intro _;rfl):PT X e (tB t):=by
 intro b s l H Q I i;refine isTrue_plain (thn (h b s l H _ I i) fun v m ⟨x,c,f,k,j⟩=>?_) (g _);obtain⟨d,rfl,q⟩:=j;cases k;exact wpAny_truthy_bool ⟨c,f,q⟩
variable{tA tB':TT}{rest:List Expr}
def tAnd(t u:TT):TT:=fun σ H Q=>t σ H fun c H1=>if c=true then u σ H1 Q else Q false H1
def tOr(t u:TT):TT:=fun σ H Q=>t σ H fun c H1=>if c=true then Q true H1 else u σ H1 Q
def tNot(t:TT):TT:=fun σ H Q=>t σ H fun c H1=>Q (!c) H1
theorem qB(d:PT X a tA):PW X (.BoolOp .And [a] pos) tA:=by
 intro i b s f H Q I h;refine isTrue_and (thn (d b s f H Q I h) fun c g e=>?_);cases c with
 | true=>exact isTrue_and_nil e
 | false=>exact e
theorem wA(d:PT X a tA):PW X (.BoolOp .Or [a] pos) tA:=by
 intro i b s f H Q I h;refine isTrue_or (thn (d b s f H Q I h) fun c g e=>?_);cases c with
 | false=>exact isTrue_or_nil e
 | true=>exact e
theorem Qd(j:PT X a tA)(k:PW X (.BoolOp .And (b::rest) pos) tB'):PW X (.BoolOp .And (a::b::rest) pos) (tAnd tA tB'):=by
 intro m d s i H Q I h;refine isTrue_and (thn (j d s i H _ I h) fun c l ⟨e,f,g⟩=>?_);cases c with
 | true=>exact k m d l i e Q f g
 | false=>exact⟨e,f,g⟩
theorem WJ(j:PT X a tA)(k:PW X (.BoolOp .Or (b::rest) pos) tB'):PW X (.BoolOp .Or (a::b::rest) pos) (tOr tA tB'):=by
 intro m d s i H Q I h;refine isTrue_or (thn (j d s i H _ I h) fun c l ⟨e,f,g⟩=>?_);cases c with
 | true=>exact⟨e,f,g⟩
 | false=>exact k m d l i e Q f g
theorem xL(e:PT X a tA):PT X (.UnaryOp .Not a pos) (tNot tA):=by
 intro b s f H Q I h;exact isTrue_not (e b s f H (fun c d=>Q (!c) d) I h)
def tAndV(ta tb:TE):TE:=fun σ H Q=>ta σ H fun x H1=>∃c,x = .bl c/\if c=true then tb σ H1 Q else Q (.bl false) H1
def tNotV(ta:TE):TE:=fun σ H Q=>ta σ H fun x H1=>∃c,x = .bl c/\Q (.bl (!c)) H1
theorem j3A{op}{t:TE}(h:PE X a t):PE X (.BoolOp op [a] pos) t:=fun b s d H Q I c=>BoolOp_one (h b s d H Q I c)
theorem j3y(j:PE X a ta)(k:PE X (.BoolOp .And (b::rest) pos) tb):PE X (.BoolOp .And (a::b::rest) pos) (tAndV ta tb):=by
 intro d s i H Q I h;refine BoolOp_and (thn (j d s i H _ I h) fun v m ⟨x,f,g,l,e⟩=>?_);obtain⟨c,rfl,e⟩:=e;cases l;refine wpAny_truthy_bool ?_;cases c with
 | true=>exact k d m i f Q g e
 | false=>exact⟨.bl false,f,g,rfl,e⟩
theorem j3z(g:PE X a ta):PE X (.UnaryOp .Not a pos) (tNotV ta):=by
 intro b s j H Q I h;refine UnaryOp_ (thn (g b s j H _ I h) fun v k ⟨x,e,f,i,d⟩=>?_);obtain⟨c,rfl,d⟩:=d;cases i;exact not_of (wpAny_truthy_bool ⟨.bl (!c),e,f,rfl,d⟩)
def tIf(t:TT)(ta tb:TE):TE:=fun σ H Q=>t σ H fun c H1=>if c=true then ta σ H1 Q else tb σ H1 Q
theorem yz{c:Expr}(n:PT X c tA)(l:PE X a ta)(m:PE X b tb):PE X (.IfExp c a b pos) (tIf tA ta tb):=by
 intro e s f H Q I h;refine wpAny_IfExp (thn (n e s f H _ I h) fun d k ⟨g,i,j⟩=>?_);cases d with
 | true=>exact l e k f g Q i j
 | false=>exact m e k f g Q i j
end
def SqL(K:Frg)(H:Hp)(a:Addr)(xs:List V):Prop:=
 Rd H a (.lst xs)\/
  ∃(o:Obj) (its:Array Value) (n:Nat),K.lookup a=some o/\o.cls = .type "list"/\o.dict=none/\o.data = .seq its n/\its.size<=sizeLine/\Vals xs its.toList
def SqT(K:Frg)(H:Hp)(a:Addr)(xs:List V):Prop:=
 Rd H a (.tup xs)\/
  ∃(o:Obj) (its:Array Value) (n:Nat),K.lookup a=some o/\o.cls = .type "tuple"/\o.data = .seq its n/\its.size<=sizeLine/\Vals xs its.toList
noncomputable def absV:Value->Option V
 | .none=>some .non
 | .bool b=>some (.bl b)
 | .int i _=>some (.int i)
 | .str x _=>some (.str x)
 | .bytes b _=>some (.byt b)
 | .float b _=>some (.flt b)
 | .ref a=>some (.ref a)
 | .type n=>some (.ty n)
 | _=>none
theorem RelV.abs{x:V}{u:Value}(r:RelV x u):absV u=some x:=by
 cases x with
 | non=>cases r;rfl
 | bl _=>cases r;rfl
 | int _=>obtain⟨t,rfl⟩:=r;rfl
 | str _=>obtain⟨t,rfl⟩:=r;rfl
 | byt _=>obtain⟨t,rfl⟩:=r;rfl
 | flt _=>obtain⟨t,rfl⟩:=r;rfl
 | ref _=>cases r;rfl
 | ty _=>cases r;rfl
theorem RelV.inj{x y:V}{u:Value}(r:RelV x u)(q:RelV y u):x=y:=vK (r.abs.symm.trans q.abs)
theorem Vals.inj:∀{xs ys:List V} {us:List Value},Vals xs us->Vals ys us->xs=ys
 | _,_,_,.nil,.nil=>rfl
 | _,_,_,.cons r t,.cons r' t'=>by rw[r.inj r',Vals.inj t t']
section
variable{X:Cx}{pins:List (Addr×Obj)}{σ:St}{H:Hp}{s:Shared}{a:Addr}{xs ys:List V}
theorem SqL.of{K:Frg}(h:H a=some (.lst xs)):SqL K H a xs:=.inl (.inl h)
theorem SqT.of{K:Frg}(h:H a=some (.tup xs)):SqT K H a xs:=.inl (.inl h)
theorem Inv.list(I:Inv X pins σ H s)(h:SqL X.K H a xs):∃b:List Value,Vals xs b/\PlainL s.heap a b.toArray/\xs.length<=sizeLine:=by
 rcases h with h | ⟨o,b,n,f,c,d,g,i,r⟩
 ·obtain⟨z,b,n,r,e⟩:=h.ok I.hok;exact⟨b,r,⟨_,n,e,rfl,rfl,rfl⟩,z⟩
 ·refine⟨b.toList,r,⟨o,n,I.kIn a o f,c,d,by simpa using g⟩,?_⟩;have e:=r.length;simp only[Array.length_toList]at e;lia
theorem Inv.tuple(I:Inv X pins σ H s)(h:SqT X.K H a xs):∃b:List Value,Vals xs b/\IsTup s.heap a b.toArray/\xs.length<=sizeLine:=by
 rcases h with h | ⟨o,b,n,d,c,f,g,r⟩
 ·obtain⟨z,b,r,p⟩:=h.ok I.hok;exact⟨b,r,p,z⟩
 ·refine⟨b.toList,r,⟨o,I.kIn a o d,c,n,by simpa using f⟩,?_⟩;have e:=r.length;simp only[Array.length_toList]at e;lia
theorem Inv.list_inj(I:Inv X pins σ H s)(h:SqL X.K H a xs)(h':SqL X.K H a ys):xs=ys:=by
 obtain⟨c,r,⟨o,n,e,_,_,d⟩,_⟩:=I.list h;obtain⟨b,i,⟨k,j,g,_,_,f⟩,_⟩:=I.list h';rw[e]at g;cases g;rw[d]at f;injection f with d1 _;have:c=b:=by simpa using congrArg Array.toList d1
 subst this;exact r.inj i
theorem Inv.tuple_inj(I:Inv X pins σ H s)(h:SqT X.K H a xs)(h':SqT X.K H a ys):xs=ys:=by
 obtain⟨c,r,⟨o,e,_,n,d⟩,_⟩:=I.tuple h;obtain⟨b,i,⟨k,g,_,j,f⟩,_⟩:=I.tuple h';rw[e]at g;cases g;rw[d]at f;injection f with d1 _;have:c=b:=by simpa using congrArg Array.toList d1
 subst this;exact r.inj i
end
noncomputable abbrev Cx.wish(X:Cx)(E:Value->Shared->Prop):Cx:={X with xe:=E}
noncomputable abbrev Cx.nox(X:Cx):Cx:=X.wish fun _ _=>False
theorem Cx.Ok.wish{X:Cx}(a:X.Ok)(E:Value->Shared->Prop):(X.wish E).Ok:=
 ⟨a.mod,a.kind,a.glob,a.blt,a.above,a.inj,a.has,a.cab,a.hd,a.frames,a.stk,a.exf,a.bs,a.bsz,a.noex,a.exfs,a.funs,a.frf⟩
theorem Cx.Ok.unwish{X:Cx}{E:Value->Shared->Prop}(a:(X.wish E).Ok):X.Ok:=
 ⟨a.mod,a.kind,a.glob,a.blt,a.above,a.inj,a.has,a.cab,a.hd,a.frames,a.stk,a.exf,a.bs,a.bsz,a.noex,a.exfs,a.funs,a.frf⟩
section
variable{X:Cx}{pins:List (Addr×Obj)}{σ:St}{H:Hp}{s:Shared}{E:Value->Shared->Prop}
theorem Inv.wish(I:Inv X pins σ H s)(E:Value->Shared->Prop):Inv (X.wish E) pins σ H s:=⟨I.ok.wish E,I.os,I.bare,I.base,I.loc,I.cell,I.free,I.freeC,I.pin,I.hok,I.len⟩
theorem Inv.unwish(I:Inv (X.wish E) pins σ H s):Inv X pins σ H s:=⟨I.ok.unwish,I.os,I.bare,I.base,I.loc,I.cell,I.free,I.freeC,I.pin,I.hok,I.len⟩
theorem SP.unwish{D:Ends}{f:Flow}{s':Shared}(h:SP (X.wish E) pins D f s'):SP X pins D f s':=by
 cases f with
 | next=>obtain⟨a,b,I,q⟩:=h;exact⟨a,b,I.unwish,q⟩
 | brk=>obtain⟨a,b,I,q⟩:=h;exact⟨a,b,I.unwish,q⟩
 | cont=>obtain⟨a,b,I,q⟩:=h;exact⟨a,b,I.unwish,q⟩
 | ret u=>obtain⟨v,a,b,I,r,q⟩:=h;exact⟨v,a,b,I.unwish,r,q⟩
theorem PSs.nox{st:List Stmt}{t:TS}(h:PSs X.nox st t):PSs X st t:=fun a s c H D I b=>
 wpAny_mono (h a s c H D (I.wish _) b) (fun _ _ q=>q.unwish) fun _ _ z=>False.elim z
end
section
variable{X:Cx}{st:Stmt}{rest:List Stmt}{t u:TS}{e:Expr}{te:TE}{pos:Pos}
def tNext:TS:=fun D σ H=>D.nx σ H
def tSeq(t u:TS):TS:=fun D σ H=>t {D with nx:=u D} σ H
theorem jw:PSs X [] tNext:=fun _ _ a H _ I h=>wpAny_execs_nil ⟨a,H,I,h⟩
theorem jb(e:PS X st t)(g:PSs X rest u):PSs X (st::rest) (tSeq t u):=by
 intro a s j H D I h;refine wpAny_execs_cons (thn (e a s j H {D with nx:=u D} I h) fun f i q=>?_);cases f with
 | next=>
  obtain⟨b,c,d,q⟩:=q;exact g a i b c D d q
 | ret v=>exact q
 | brk=>exact q
 | cont=>exact q
theorem jg(b:PS X st t):PSs X [st] t:=by
 intro a s c H D I h;refine wpAny_execs_cons (thn (b a s c H D I h) fun f d q=>?_);cases f with
 | next=>exact wpAny_execs_nil q
 | ret v=>exact q
 | brk=>exact q
 | cont=>exact q
theorem Inv.quiet{a:List (Addr×Obj)}{b:St}{H:Hp}{s:Shared}(I:Inv X a b H s):interactive X.env=false:=by simp[interactive,I.ok.kind]
def tDrop(te:TE):TS:=fun D σ H=>te σ H fun _ H1=>D.nx σ H1
theorem jZ(f:PE X e te)(g:swapsWith e none pos.line X.env=pure false:=by rfl):PS X (.Expr e pos) (tDrop te):=by
 intro a s b H D I h;exact wpAny_Expr_any (thn (f a s b H _ I h) fun v k ⟨x,c,d,j,i⟩=>⟨b,c,d,i⟩) I.quiet g
def tRet(te:TE):TS:=fun D σ H=>te σ H D.rt
theorem jA(f:PE X e te):PS X (.Return (some e) pos) (tRet te):=by
 intro a s b H D I h;exact wpAny_Return_some (thn (f a s b H _ I h) fun v j ⟨x,c,d,i,g⟩=>⟨x,b,c,d,i,g⟩)
def tIfS(c:TT)(t u:TS):TS:=fun D σ H=>c σ H fun b H1=>if b=true then t D σ H1 else u D σ H1
theorem j2{c:Expr}{a b:List Stmt}{l:TT}(o:PT X c l)(m:PSs X a t)(n:PSs X b u):PS X (.If c a b pos) (tIfS l t u):=by
 intro e s f H D I h;refine wpAny_If (thn (o e s f H _ I h) fun d k ⟨g,i,j⟩=>?_);cases d with
 | true=>exact m e k f g D i j
 | false=>exact n e k f g D i j
def tNever:TS:=fun _ _ _=>False
theorem yB:PS X st tNever:=fun _ _ _ _ _ _ h=>h.elim
end
noncomputable abbrev TG:=V->St->Hp->(St->Hp->Prop)->Prop
noncomputable abbrev TGs:=List V->St->Hp->(St->Hp->Prop)->Prop
def PG(X:Cx)(target:Expr)(t:TG):Prop:=
 ∀(pins:List (Addr×Obj)) (s:Shared) (σ:St) (H:Hp) (v:V) (u:Value) (Q:St->Hp->Prop),Inv X pins σ H s->RelV v u->t v σ H Q->
  wpAny (model X.prog X.w) X.A (assign target X.env u) (fun _ s'=>∃σ' H',Inv X pins σ' H' s'/\Q σ' H') X.xe s
def PGs(X:Cx)(ts:List Expr)(t:TGs):Prop:=
 ∀(pins:List (Addr×Obj)) (s:Shared) (σ:St) (H:Hp) (vs:List V) (us:List Value) (Q:St->Hp->Prop),Inv X pins σ H s->Vals vs us->t vs σ H Q->
  wpAny (model X.prog X.w) X.A (assignInOrder ((assignEach ts X.env).map (·.2)) us) (fun _ s'=>∃σ' H',Inv X pins σ' H' s'/\Q σ' H') X.xe s
noncomputable abbrev TSet:=V->V->V->Hp->(Hp->Prop)->Prop
def PSet(X:Cx)(t:TSet):Prop:=
 ∀(pins:List (Addr×Obj)) (s:Shared) (σ:St) (H:Hp) (o i v:V) (ov iv u:Value) (Q:Hp->Prop),Inv X pins σ H s->RelV o ov->RelV i iv->RelV v u->t o i v H Q->
  wpAny (model X.prog X.w) X.A (setItem ov iv u) (fun _ s'=>∃H',Inv X pins σ H' s'/\Q H') X.xe s
noncomputable abbrev TIp:=V->V->Hp->VK->Prop
def PIp(X:Cx)(op:Operator)(t:TIp):Prop:=
 ∀(pins:List (Addr×Obj)) (s:Shared) (σ:St) (H:Hp) (x y:V) (v u:Value) (Q:VK),Inv X pins σ H s->RelV x v->RelV y u->t x y H Q->
  wpAny (model X.prog X.w) X.A (inplaceOp op v u) (EP X pins σ Q) X.xe s
section
variable{X:Cx}{pos:Pos}
def gName(i:Nat):TG:=fun v σ H Q=>Q (σ.set i (some v)) H
theorem ju{i:Nat}{x:Str}(c:X.N.Nodup)(hi:X.N[i]?=some x)(e:Loc X.env.scope x)(d:X.fn x=true\/X.env.scope.names.lookup x=some .local:=by first | exact .inl rfl | exact .inr rfl | assumption):PG X (.Name x pos) (gName i):=by
 intro a s g H v u Q I r h;exact wpAny_assign_Name (kr I c hi e r (fun f b=>⟨_,H,b,h⟩) d)
def gNil:TGs:=fun vs σ H Q=>vs=[]/\Q σ H
def gCons(t:TG)(u:TGs):TGs:=fun vs σ H Q=>∃v r,vs=v::r/\t v σ H fun σ' H'=>u r σ' H' Q
theorem JP:PGs X [] gNil:=by
 intro a s b H d c Q I r h;obtain⟨e,h⟩:=h;subst e;cases r;exact assignInOrder_nil ⟨b,H,I,h⟩
theorem jF{e:Expr}{b:List Expr}{t:TG}{u:TGs}(i:PG X e t)(j:PGs X b u)
  (k:(assignEach (e::b) X.env).map (·.2)=assign e X.env::(assignEach b X.env).map (·.2):=by rfl):PGs X (e::b) (gCons t u):=by
 intro a s n H q o Q I r h;obtain⟨v,p,g,h⟩:=h;subst g;cases r with
 | cons r rr=>
  rw[k];refine assignInOrder_cons (thn (i a s n H _ _ _ I r h) fun _ m ⟨c,d,f,l⟩=>?_);exact j a m c d _ _ Q f rr l
def gTup(K:Frg)(n:Nat)(t:TGs):TG:=fun v σ H Q=>∃a xs,v = .ref a/\SqT K H a xs/\xs.length=n/\t xs σ H Q
theorem qD{d:List Expr}{k:Nat}{t:TGs}{n:Nat}(q:X.calm=true)(h:PGs X d t)
  (x:(assignEach d X.env).length=n:=by rfl) (f:(assignEach d X.env).findIdx? (·.1)=none:=by rfl):PG X (.Tuple d k pos) (gTup X.K n t):=by
 intro c s j H v u Q I r g;obtain⟨a,C,m,y,w,g⟩:=g;subst m;cases r;obtain⟨B,i,z,D⟩:=I.tuple y;refine assign_Tuple_tuple (I.ok.hd q) z (by simp[x,<-w,i.length]) f fun p A=>?_
 have l:Inv X c j H {s with heap:=p}:=I.kept (t':=s.toks) fun b o e=>A b o (vD (vH e)) e
 exact h c _ j H C _ Q l (by simpa using i) g
def gSub(to ti:TE)(t:TSet):TG:=fun v σ H Q=>to σ H fun o H1=>ti σ H1 fun i H2=>t o i v H2 fun H3=>Q σ H3
theorem Y9{o i:Expr}{e d:TE}{t:TSet}(p:PE X o e)(hi:PE X i d)(q:PSet X t)
  (n:∀v,assign (.Subscript o i pos) X.env v=(do
   let ov <-holding [v] (eval o X.env)
   let b <-holding [v,ov] (eval i X.env)
   standAt pos
   holding [v,ov,b] (setItem ov b v)
   release [v,ov,b] []):=by intro _;rfl):PG X (.Subscript o i pos) (gSub e d t):=by
 intro a s c H v u Q I r h;rw[n];refine uk (wpAny_holding (thn (p a s c H _ I h) fun ov D ⟨x,f,k,B,w⟩=>?_));refine uk (wpAny_holding (thn (hi a D c f _ k w) fun b E ⟨y,g,l,C,z⟩=>?_));refine uk (wpAny_standAt (uk (wpAny_holding (thn (q a E c g x y v ov b u _ l B C r z) fun _ F ⟨j,m,A⟩=>?_))));exact wpAny_release ⟨c,j,m,A⟩
def tAsg(te:TE)(g:TG):TS:=fun D σ H=>te σ H fun x H1=>g x σ H1 D.nx
theorem Zp{b e:Expr}{c:TE}{g:TG}(k:PE X e c)(l:PG X b g)(m:swapsWithSole [b] e pos.line X.env=pure false:=by rfl)(hw:swappedStores [b] e X.env=pure none:=by rfl)
  (j:(assignEach [b] X.env).map (·.2)=[assign b X.env]:=by rfl):PS X (.Assign [b] e pos) (tAsg c g):=by
 intro a s d H D I h;refine wpAny_Assign_stores (thn (k a s d H _ I h) fun v p ⟨x,f,i,o,n⟩=>?_) m hw;rw[j];exact thn (l a p d f x v _ i o n) fun _ r q=>q
theorem jp{i:Nat}{x:Str}{e:Expr}{c:TE}{a:Pos}(j:X.N.Nodup)(hi:X.N[i]?=some x)(n:Loc X.env.scope x)(k:PE X e c)(m:swapsWith e (some (.Name x a)) pos.line X.env=pure false:=by rfl)(l:X.fn x=true\/X.env.scope.names.lookup x=some .local:=by first | exact .inl rfl | exact .inr rfl | assumption) :
  PS X (.Assign [.Name x a] e pos) (tAsg c (gName i)):=by
 intro b s q H D I h;refine wpAny_Assign_Name (thn (k b s q H _ I h) fun v r ⟨y,d,f,p,o⟩=>?_) m;exact kr f j hi n p (fun t g=>⟨_,d,g,o⟩) l
def tAug(i:Nat)(te:TE)(ti:TIp):TS:=fun D σ H=>∃x,σ[i]?=some (some x)/\te σ H fun y H1=>ti x y H1 fun z H2=>D.nx (σ.set i (some z)) H2
theorem xK{i:Nat}{x:Str}{e:Expr}{t:TE}{o:Operator}{A:TIp}{f:Pos}(L:X.N.Nodup)(hi:X.N[i]?=some x)(n:Loc X.env.scope x)(N:PE X e t)(S:PIp X o A)(O:X.fn x=true\/X.env.scope.names.lookup x=some .local:=by first | exact .inl rfl | exact .inr rfl | assumption) :
  PS X (.AugAssign (.Name x f) o e pos) (tAug i t A):=by
 intro a s B H D I h;obtain⟨v,K,h⟩:=h;obtain⟨m,R,P⟩:=I.loc;have p:Vis X.env.scope x:=by rcases n with k | k;exact .inl k;exact .inr (.inl k)
 obtain⟨u,r,l⟩:=P i x v hi K p;refine wpAny_AugAssign_Name ?_;have q:wpAny (model X.prog X.w) X.A (eval e X.env) (fun w g=>wpAny (model X.prog X.w) X.A (inplaceOp o u w) (fun r j=>wpAny (model X.prog X.w) X.A (storeName X.env x r) (fun _=>SP X a D .next) X.xe j) X.xe g) X.xe s:=by
  refine thn (N a s B H _ I h) fun w Z ⟨y,C,F,W,T⟩=>?_
  refine thn (S a Z B C v y u w _ F r W T) fun z s2 ⟨zv,E,G,Y,U⟩=>?_
  exact kr G L hi n Y (fun s3 J=>⟨_,E,J,U⟩) O
 rcases l with⟨b,Q⟩ | ⟨b,c,M,d⟩
 ·exact wpAny_loadName_local I.ok.kind b R Q q
 ·rcases b with b | b
  ·exact wpAny_loadName_cell I.ok.kind b M d q
  ·rcases n with k | k
   ·have:X.env.scope.names.lookup x=some .free:=b;rw[k]at this;cases this
   ·have:X.env.scope.names.lookup x=some .free:=b;rw[k]at this;cases this
noncomputable def ipI(f:Int->Int->Int):TIp:=fun x y H Q=>∃i j,x = .int i/\y = .int j/\Q (.int (f i j)) H
theorem xp:PIp X .Add (ipI fun i j=>i+j):=by
 intro a s g H x y v u Q I d e h;obtain⟨i,j,b,c,q⟩:=h;subst b;subst c;obtain⟨t,rfl⟩:=d;obtain⟨f,rfl⟩:=e;exact iadd_int ⟨.int _,H,I.tok _,⟨_,rfl⟩,q⟩
end
section
variable{X:Cx}{pos:Pos}
def tWhile(c:TT)(tb:TS):TS:=fun D σ H=>∃W:Nat->St->Hp->Prop,(∃m,W m σ H)/\∀m σ H,W m σ H->
 c σ H fun b H1=>if b=true then∃N:St->Hp->Prop,(∀σ' H',N σ' H'->∃m',m'<m/\W m' σ' H')/\tb {D with nx:=N,ct:=N,bk:=D.nx} σ H1 else D.nx σ H1
theorem j1x{c:Expr}{g:List Stmt}{C:TT}{B:TS}(A:PassesOwn (model X.prog X.w) X.A X.env X.xe)(G:PT X c C)(F:PSs X g B):PS X (.While c g [] pos) (tWhile C B):=by
 intro a s Q H D I h;obtain⟨W,⟨J,O⟩,j⟩:=h;refine wpAny_While (codeAny_whileLoop (fun n K=>∃k u,Inv X a k u K/\W n k u) ?_ J ⟨Q,H,I,O⟩);rintro n L ⟨e,w,E,P⟩;refine wpAny_passesOwn A (thn (G a L e w _ E (j n e w P)) fun b M ⟨x,y,l⟩=>?_);cases b with
 | true=>
  obtain⟨N,z,l⟩:=l;rw[ve rfl];refine wpAny_passesOwn A (thn (F a M e x _ y l) fun f R m=>?_);cases f with
  | next=>
   obtain⟨d,i,o,r⟩:=m;obtain⟨q,p,t⟩:=z d i r;exact⟨q,p,d,i,o,t⟩
  | cont=>
   obtain⟨d,i,o,r⟩:=m;obtain⟨q,p,t⟩:=z d i r;exact⟨q,p,d,i,o,t⟩
  | brk=>exact m
  | ret v=>exact m
 | false=>
  rw[vd vE];exact wpAny_execs_nil ⟨e,x,y,l⟩
end
structure It where
 go:Nat->Hp->Prop
 yld:Nat->Hp->V->Hp->Prop
 stop:Nat->Hp->Prop
def FpOk(X:Cx)(pins:List (Addr×Obj))(H:Hp)(b:Addr):Prop:=
 H b=none/\b≠X.env.locals/\b∉X.fs/\(b∈X.ex\/X.s₀.heap.objs.size<=b)/\(∀x c,X.env.cells.lookup x=some c->c≠b)/\∀p∈X.pn++pins,p.1≠b
theorem Inv.fpOk{X:Cx}{a:List (Addr×Obj)}{h:St}{H H':Hp}{s:Shared}{b:Addr}(I:Inv X a h H s)(d:s.heap.objs.size<=b)(f:H' b=none):FpOk X a H' b:=by
 refine⟨f,vM (Nat.lt_of_lt_of_le I.lt d),I.nofs d,.inr (vU I.sz d),fun x c e z=>?_,fun p g z=>?_⟩
 ·obtain⟨v,q⟩:=I.cell x c e;exact ug (Nat.lt_of_lt_of_le q.lt (by rw[z];exact d)) (Nat.lt_irrefl _)
 ·exact ug (Nat.lt_of_lt_of_le (vH (I.pin p g).1) (by rw[z];exact d)) (Nat.lt_irrefl _)
structure Turn(P:Program)(w:World)(K:Frg)(tg:Expr)(J:It)(fp:List Addr)(it:Addr)(tn:Nat->Heap->Prop):Prop where
 mem:it∈fp
 obj:∀i h,tn i h->∀b∈fp,∃o,h.get? b=some o/\∀v,o.data≠.cell v
 keep:∀i h h',tn i h->(∀b∈fp,∀o,h.get? b=some o->h'.get? b=some o)->tn i h'
 item:∀(X:Cx),X.prog=P->X.w=w->X.K=K->X.calm=true->∀(i:Nat) (pins:List (Addr×Obj)) (s:Shared) (σ:St) (H:Hp) (E:Value->Shared->Prop),Inv X pins σ H s->(∀b∈fp,FpOk X pins H b)->tn i s.heap->J.go i H->
  wpAny (model P w) X.A (pyNext (.ref it)) (fun r s1=>∃u,r=some u/\
   wpAny (model P w) X.A (letOwnedTupleGo tg (.ref it) u) (fun _ s2=>∃x H',Inv X pins σ H' s2/\RelV x u/\J.yld i H x H'/\tn (i+1) s2.heap/\∀b∈fp,H' b=none) E s1) E s
 done:∀(X:Cx),X.prog=P->X.w=w->X.K=K->X.calm=true->∀(i:Nat) (pins:List (Addr×Obj)) (s:Shared) (σ:St) (H:Hp) (E:Value->Shared->Prop),Inv X pins σ H s->(∀b∈fp,FpOk X pins H b)->tn i s.heap->J.stop i H->
  wpAny (model P w) X.A (pyNext (.ref it)) (fun r s1=>r=none/\Inv X pins σ H s1) E s
 self:∀(A:Around) (i:Nat) (s:Shared) (Q:Value->Shared->Prop) (E:Value->Shared->Prop),tn i s.heap->Q (.ref it) s->wpAny (model P w) A (pyIter (.ref it)) Q E s
noncomputable abbrev TI:=St->Hp->(It->Hp->Prop)->Prop
def PIE(X:Cx)(pins:List (Addr×Obj))(σ:St)(tg:Expr)(R:It->Hp->Prop)(itv:Value)(s2:Shared):Prop:=
 ∃(it:Addr) (fp:List Addr) (tn:Nat->Heap->Prop) (J:It) (H':Hp),itv = .ref it/\Inv X pins σ H' s2/\Turn X.prog X.w X.K tg J fp it tn/\tn 0 s2.heap/\(∀b∈fp,FpOk X pins H' b)/\R J H'
def PI(X:Cx)(tg iter:Expr)(wi:TI):Prop:=
 ∀(pins:List (Addr×Obj)) (s:Shared) (σ:St) (H:Hp) (R:It->Hp->Prop),Inv X pins σ H s->wi σ H R->
  wpAny (model X.prog X.w) X.A (eval iter X.env) (fun v s1=>wpAny (model X.prog X.w) X.A (pyIter v) (PIE X pins σ tg R) X.xe s1) X.xe s
theorem Xl{M:Model}{A:Around}{E:Value->Shared->Prop}{s:Shared}{b:Expr}{it:Addr}{u:Value}{o:Obj}{n:String}{vs:Array Value}{Q:Unit->Shared->Prop}(e:s.heap.get? it=some o)(c:o.cls = .type n)(hd:o.data = .fields vs)
    (d:["enumerate","zip","dict_itemiterator","dict_reverseitemiterator","odict_iterator","itertools.zip_longest","itertools.pairwise"].contains n=false) (a:Q () s):wpAny M A (letOwnedTupleGo b (.ref it) u) Q E s:=by
  unfold letOwnedTupleGo;cases b<;>first
    | exact uh a
    | (cases u<;>first
        | exact uh a
        | (refine uk (wpAny_load e ?_)
           rw[c,hd];show wpAny M A (if(["enumerate","zip","dict_itemiterator","dict_reverseitemiterator","odict_iterator","itertools.zip_longest","itertools.pairwise"].contains n&&vs[0]?==some (rawInt _))=true then _ else _) Q E s;rw[vd (by intro h;rw[d,Bool.false_and]at h;cases h)];exact uh a))
def Itl(K:Frg)(a:Addr):It:=
 ⟨fun i H=>∃xs x,SqL K H a xs/\xs[i]?=some x,fun i H x H'=>H'=H/\∀xs,SqL K H a xs->xs[i]?=some x,fun i H=>∃xs,SqL K H a xs/\xs.length<=i⟩
def Itt(K:Frg)(a:Addr):It:=
 ⟨fun i H=>∃xs x,SqT K H a xs/\xs[i]?=some x,fun i H x H'=>H'=H/\∀xs,SqT K H a xs->xs[i]?=some x,fun i H=>∃xs,SqT K H a xs/\xs.length<=i⟩
def Itr(lo:Int)(n:Nat):It:=⟨fun i _=>i<n,fun i H x H'=>H'=H/\x = .int (lo+i),fun i _=>n<=i⟩
theorem Ku{P:Program}{w:World}{K:Frg}{tg:Expr}(a it:Addr):Turn P w K tg (Itl K a) [it] it (fun i h=>h.IsListIter it a i) where
 mem:=by simp
 obj:=fun i h f b j=>by
  have e:b=it:=by simpa using j
  subst e;obtain⟨o,e,c,d⟩:=f;exact⟨o,e,fun v z=>by rw[d]at z;cases z⟩
 keep:=fun i h m f k=>f.at fun o e=>k it (by simp) o e
 item:=by
  intro X D G C N i g s O H E I n f F;subst D G C;obtain⟨xs,x,q,J⟩:=F;obtain⟨L,M,p,W⟩:=I.list q;obtain⟨u,T,Y⟩:=M.get J;obtain⟨r,t,S,y,A,B⟩:=n it (by simp);refine wpAny_pyNext_list_item f p.isList (x:=u) (by simpa using T) fun m l Z=>?_
  have Q:Inv X g O H {s with heap:=m}:=I.turned (t':=s.toks) (fun b o j e=>(Z.2 b j).trans e) r t y A B;obtain⟨o,e,c,d⟩:=id l;exact⟨u,rfl,Xl (s:={s with heap:=m}) e c d (by decide) ⟨x,H,Q,Y,⟨rfl,fun ys U=>by rw[I.list_inj U q];exact J⟩,l,fun b j=>(n b j).1⟩⟩
 done:=by
  intro X D G C N i g s O H E I n f F;subst D G C;obtain⟨xs,q,J⟩:=F;obtain⟨L,M,p,W⟩:=I.list q;obtain⟨r,t,S,y,A,B⟩:=n it (by simp);have hl:=M.length;exact wpAny_pyNext_list_end (I.ok.hd N) f p.isList (by simp;lia) fun m R=>⟨rfl,I.turned (t':=s.toks) (fun b o j e=>R b o j e) r t y A B⟩
 self:=fun _ _ _ _ _ f h=>wpAny_pyIter_listiter f h
theorem kz{P:Program}{w:World}{K:Frg}{tg:Expr}(a it:Addr):Turn P w K tg (Itt K a) [it] it (fun i h=>h.IsTupleIter it a i) where
 mem:=by simp
 obj:=fun i h f b j=>by
  have e:b=it:=by simpa using j
  subst e;obtain⟨o,e,c,d⟩:=f;exact⟨o,e,fun v z=>by rw[d]at z;cases z⟩
 keep:=fun i h n f k=>f.at fun o e=>k it (by simp) o e
 item:=by
  intro X F J D N i g s O H E I q f G;subst F J D;obtain⟨xs,x,r,L⟩:=G;obtain⟨l,M,p,W⟩:=I.tuple r;obtain⟨u,T,Y⟩:=M.get L;obtain⟨t,y,S,A,B,C⟩:=q it (by simp);refine wpAny_pyNext_tuple_item f (show s.heap.IsTuple a l.toArray from p) (x:=u) (by simpa using T) fun n m Z=>?_
  have Q:Inv X g O H {s with heap:=n}:=I.turned (t':=s.toks) (fun b o j e=>(Z.2 b j).trans e) t y A B C;obtain⟨o,e,c,d⟩:=id m;exact⟨u,rfl,Xl (s:={s with heap:=n}) e c d (by decide) ⟨x,H,Q,Y,⟨rfl,fun ys U=>by rw[I.tuple_inj U r];exact L⟩,m,fun b j=>(q b j).1⟩⟩
 done:=by
  intro X F J D N i g s O H E I q f G;subst F J D;obtain⟨xs,r,L⟩:=G;obtain⟨l,M,p,W⟩:=I.tuple r;obtain⟨t,y,S,A,B,C⟩:=q it (by simp);have hl:=M.length;exact wpAny_pyNext_tuple_end (I.ok.hd N) f (show s.heap.IsTuple a l.toArray from p) (by simp;lia) fun n R=>⟨rfl,I.turned (t':=s.toks) (fun b o j e=>R b o j e) t y A B C⟩
 self:=fun _ _ _ _ _ f h=>wpAny_pyIter_tupleiter f h
theorem xV{P:Program}{w:World}{K:Frg}{N:Expr}(it:Addr)(lo:Int)(n:Nat):Turn P w K N (Itr lo n) [it] it (fun i h=>IsRangeIter h it (lo+(i:Nat)*1) ((n:Int)-(i:Nat)) 1) where
 mem:=by simp
 obj:=fun i h a b d=>by
  have e:b=it:=by simpa using d
  subst e;exact⟨_,a,fun v z=>by
   have O:Data.fields _=Data.cell v:=z;cases O⟩
 keep:=fun i h g a k=>k it (by simp) _ a
 item:=by
  intro X x B u y i c s D H E I j a A;subst x B u;obtain⟨l,m,J,p,q,r⟩:=j it (by simp);have W:=Walks.range (prog:=X.prog) (w:=X.w) (I.ok.hd y) it lo 1 n;refine W.item i s _ _ A a fun v g C L f M=>?_
  obtain⟨t,rfl⟩:=L;have F:Inv X c D H {s with heap:=g,toks:=C}:=I.turned (fun b o d e=>M b o (by simpa using d) e) l m p q r;refine⟨_,rfl,Xl (s:={s with heap:=g,toks:=C}) (n:="range_iterator") f rfl rfl (by decide) ⟨.int (lo+i),H,F,⟨t,?_⟩,⟨rfl,rfl⟩,f,fun b d=>(j b d).1⟩⟩;rw[Int.mul_one]
 done:=by
  intro X x B u y i c s D H E I j a A;subst x B u;obtain⟨l,m,J,p,q,r⟩:=j it (by simp);exact wpAny_pyNext_range_end (I.ok.hd y) a (by have:n<=i:=A;lia) fun g G=>⟨rfl,I.turned (t':=s.toks) (fun b o d e=>G b o d e) l m p q r⟩
 self:=fun _ _ _ _ _ a h=>wpAny_pyIter_rangeiter a h
section
variable{X:Cx}{tg:Expr}
def iList(K:Frg)(tl:TE):TI:=fun σ H R=>tl σ H fun x H1=>∃a,x = .ref a/\(∃xs,SqL K H1 a xs)/\R (Itl K a) H1
def iTup(K:Frg)(tl:TE):TI:=fun σ H R=>tl σ H fun x H1=>∃a,x = .ref a/\(∃xs,SqT K H1 a xs)/\R (Itt K a) H1
theorem Jh{l:Expr}{g:TE}(k:PE X l g):PI X tg l (iList X.K g):=by
 intro c s u H R I h;refine thn (k c s u H _ I h) fun v f ⟨x,i,d,t,r⟩=>?_
 obtain⟨a,e,⟨z,m⟩,q⟩:=r;subst e;cases t;obtain⟨n,y,p,w⟩:=d.list m;refine wpAny_pyIter_list p.isList ?_;refine⟨f.heap.objs.size,[f.heap.objs.size],_,_,i,rfl,d.kept (t':=f.toks) fun b o e=>vI _ e,Ku a _,⟨_,Heap.get?_push_size _ rfl,rfl,rfl⟩,fun b j=>?_,q⟩;have e:b=f.heap.objs.size:=by simpa using j
 subst e;exact d.fpOk (vc _) (d.hok.fresh (vc _))
theorem wv{l:Expr}{i:TE}(m:PE X l i):PI X tg l (iTup X.K i):=by
 intro c s u H R I h;refine thn (m c s u H _ I h) fun v d ⟨x,j,f,t,r⟩=>?_
 obtain⟨a,e,⟨z,n⟩,q⟩:=r;subst e;cases t;obtain⟨g,y,p,w⟩:=f.tuple n;refine wpAny_pyIter_tuple (show d.heap.IsTuple a g.toArray from p) ?_;refine⟨d.heap.objs.size,[d.heap.objs.size],_,_,j,rfl,f.kept (t':=d.toks) fun b o e=>vI _ e,kz a _,⟨_,Heap.get?_push_size _ rfl,rfl,rfl⟩,fun b k=>?_,q⟩;have e:b=d.heap.objs.size:=by simpa using k
 subst e;exact f.fpOk (vc _) (f.hok.fresh (vc _))
theorem j1D{a:List (Addr×Obj)}{f:St}{H:Hp}{s:Shared}{R:It->Hp->Prop}{E:Value->Shared->Prop}{lo hi:Int}{t u v:Tok}{d:Nat}(I:Inv X a f H s)(i : -(2^62)<=lo)(j:lo<2^62)(k : -(2^62)<=hi)(l:hi<2^62)
  (q:R (Itr lo (hi-lo).toNat) H):wpAny (model X.prog X.w) X.A (pyIter (.ref s.heap.objs.size)) (PIE X a f tg R) E {s with heap:=s.heap.push {cls:=.type "range",data:=.fields #[.int lo t,.int hi u,.int 1 v]},toks:=d}:=by
 refine wpAny_pyIter_range (IsRange.new ..) (small_one i j k l) ?_;have c:Inv X a f H {s with heap:=s.heap.push {cls:=.type "range",data:=.fields #[.int lo t,.int hi u,.int 1 v]},toks:=d}:=I.kept fun b o e=>vI _ e
 refine⟨(s.heap.push {cls:=.type "range",data:=.fields #[.int lo t,.int hi u,.int 1 v]}).objs.size,[(s.heap.push {cls:=.type "range",data:=.fields #[.int lo t,.int hi u,.int 1 v]}).objs.size],_,_,H,rfl,
  c.kept (t':=d) fun b o e=>vI _ e,xV _ lo (hi-lo).toNat,?_,fun b m=>?_,q⟩
 ·have g:lo+((0:Nat):Int)*1=lo:=by simp
  have h:(((hi-lo).toNat:Nat):Int)-((0:Nat):Int)=Builtin.Range.rangeSize lo hi 1:=by rw[rangeSize_one];split<;>lia
  show IsRangeIter _ _ (lo+((0:Nat):Int)*1) ((((hi-lo).toNat:Nat):Int)-((0:Nat):Int)) 1;rw[g,h];exact Heap.get?_push_size _ rfl
 ·have e:b=(s.heap.push {cls:=.type "range",data:=.fields #[.int lo t,.int hi u,.int 1 v]}).objs.size:=by simpa using m
  subst e;exact c.fpOk (vc _) (c.hok.fresh (vc _))
def iRng1(ta:TA):TI:=fun σ H R=>ta σ H fun vs H1=>∃j:Int,vs=[.int j]/\-(2^62)<=j/\j<2^62/\R (Itr 0 j.toNat) H1
theorem JG{a:Expr}{f:TA}{p c:Pos}(k:Gl X "range")(l:X.mg "range"= none)(i:PA X [a] f)(m:starEach [a] X.env=[(false,eval a X.env)]:=by rfl):PI X tg (.Call (.Name "range" p) [a] [] c) (iRng1 f):=by
 intro b s u H R I h;refine Call_ (ZQ I k l boot_range (PyProof.Rows.callWith_type1 (thn (i c b s u H _ I h) fun x w ⟨y,v,g,o,d⟩=>?_) m rfl));obtain⟨j,e,d,n,q⟩:=d;subst e;cases o with
 | cons r rr=>
  cases rr;obtain⟨t,rfl⟩:=r;exact call_range_1 (j1D g (by lia) (by lia) d n (by simpa using q))
def tFor(wi:TI)(g:TG)(tb:TS):TS:=fun D σ H=>wi σ H fun J H1=>∃W:Nat->Nat->St->Hp->Prop,(∃m,W 0 m σ H1)/\∀i m σ H,W i m σ H->
 (J.stop i H/\D.nx σ H)\/(J.go i H/\∃N:St->Hp->Prop,(∀σ' H',N σ' H'->∃m',m'<m/\W (i+1) m' σ' H')/\∀x H',J.yld i H x H'->g x σ H' fun σ2 H2=>tb {D with nx:=N,ct:=N,bk:=D.nx} σ2 H2)
noncomputable def pinsAt(fp:List Addr)(h:Heap):List (Addr×Obj):=fp.filterMap fun b=>(h.get? b).map fun o=>(b,o)
theorem zK{a:List Addr}{h:Heap}{b:Addr}{o:Obj}(c:b∈a)(e:h.get? b=some o):(b,o)∈pinsAt a h:=mem_filterMap.mpr ⟨b,c,by rw[e];rfl⟩
theorem j09{a:List Addr}{h:Heap}{p:Addr×Obj}(f:p∈pinsAt a h):p.1∈a/\h.get? p.1=some p.2:=by
 obtain⟨b,d,e⟩:=mem_filterMap.mp f;cases q:h.get? b with
 | none=>rw[q]at e;cases e
 | some o=>
  rw[q]at e;have c:(b,o)=p:=vK e;subst c;exact⟨d,q⟩
theorem Inv.pinned{a:List (Addr×Obj)}{h:St}{H:Hp}{s:Shared}{c:List Addr}(I:Inv X a h H s)(l:∀b∈c,FpOk X a H b)(m:∀b∈c,∃o,s.heap.get? b=some o/\∀v,o.data≠.cell v):Inv X (a++pinsAt c s.heap) h H s:=
 I.pins_of fun p n=>(vi.mp n).elim (fun z=>I.pin p (mem_append_right _ z)) fun z=>by
  obtain⟨g,e⟩:=j09 z;obtain⟨i,j,k,_⟩:=l p.1 g;obtain⟨o,f,d⟩:=m p.1 g;rw[e]at f;cases f;exact⟨e,i,j,k,d⟩
theorem Inv.unpinned{a pl:List (Addr×Obj)}{b:St}{H:Hp}{s:Shared}(I:Inv X (a++pl) b H s):Inv X a b H s:=I.pins_of fun p c=>I.pin p (mem_append_right _ (mem_append_left _ c))
theorem Jc{q:Expr}{A:List Stmt}{wi:TI}{g:TG}{tb:TS}{Y:Pos}(G:PassesOwn (model X.prog X.w) X.A X.env X.xe)(hc:X.calm=true)(hi:PI X tg q wi)(hg:PG X tg g)(p:PSs X A tb)
  (hs:∀x,foldedSetIterable q X.env x=pure x:=by intro _;rfl):PS X (.For tg q A [] Y) (tFor wi g tb):=by
 intro a s σ H D I h;refine wpAny_For (thn (hi a s σ H _ I h) fun v s1 h1=>thn h1 fun a2 s2 h2=>?_) hs;obtain⟨it,E,tn,J,H2,e,I2,T,a0,f2,W,⟨m0,w0⟩,P⟩:=h2;subst e;have t:∀{z:Hp},(∀b∈E,z b=none)->∀b∈E,FpOk X a z b:=fun hn b p=>⟨hn b p,(f2 b p).2⟩
 refine codeAny_forLoop_any (fun n s'=>∃i w z,Inv X a w z s'/\tn i s'.heap/\(∀b∈E,z b=none)/\W i n w z) ?_ m0 ⟨0,σ,H2,I2,a0,fun b p=>(f2 b p).1,w0⟩;rintro n s3 ⟨i,y,Q,I3,L,F,w3⟩;rcases P i n y Q w3 with⟨O,qn⟩ | ⟨go,N,hN,M⟩
 ·refine wpAny_passesOwn G (thn (T.done X rfl rfl rfl hc i a s3 y Q X.xe I3 (t F) L O) fun r s4 ⟨U,I4⟩=>?_);subst U;exact wpAny_execs_nil ⟨y,Q,I4,qn⟩
 ·refine wpAny_passesOwn G (thn (T.item X rfl rfl rfl hc i a s3 y Q X.xe I3 (t F) L go) fun r s4 ⟨u,U,h4⟩=>?_);subst U;refine wpAny_passesOwn G (thn h4 fun _ s5 ⟨x,H5,I5,r5,y5,C,S⟩=>?_);have R:=I5.pinned (t S) (T.obj _ _ C);refine wpAny_passesOwn G (thn (hg _ s5 y H5 x u _ R r5 (M x H5 y5)) fun _ s6 ⟨a1,H6,I6,q6⟩=>?_);refine wpAny_passesOwn G (thn (p _ s6 a1 H6 _ I6 q6) fun f Z B=>?_);have l:∀{c:St} {j:Hp},Inv X (a++pinsAt E s5.heap) c j Z->N c j->∃m,m<n/\∃i w z,Inv X a w z Z/\tn i Z.heap/\(∀b∈E,z b=none)/\W i m w z:=fun {c j} k K=>by
   obtain⟨m',hm,w7⟩:=hN c j K;refine⟨m',hm,i+1,c,j,k.unpinned,T.keep _ _ _ C fun b p o e=>(k.pin (b,o) (mem_append_right _ (mem_append_right _ (zK p e)))).1,fun b p=>?_,w7⟩;obtain⟨o,e,d⟩:=T.obj _ _ C b p;exact(k.pin (b,o) (mem_append_right _ (mem_append_right _ (zK p e)))).2.1
  cases f with
  | next=>obtain⟨c,j,k,K⟩:=B;exact l k K
  | cont=>obtain⟨c,j,k,K⟩:=B;exact l k K
  | brk=>obtain⟨c,j,k,B⟩:=B;exact⟨c,j,k.unpinned,B⟩
  | ret v=>obtain⟨x7,c,j,k,r7,B⟩:=B;exact⟨x7,c,j,k.unpinned,r7,B⟩
end
theorem J0{K:Frg}{a:Addr}{xs:List V}{g:TG}{j:TS}{D:Ends}{b:St}{H:Hp}(c:Nat->St->Hp->Prop)(k:c 0 b H)(n:∀i b H,i<=xs.length->c i b H->SqL K H a xs)
  (o:∀i x b H,xs[i]?=some x->c i b H->g x b H fun d H2=>j {D with nx:=c (i+1),ct:=c (i+1),bk:=D.nx} d H2) (hd:∀b H,c xs.length b H->D.nx b H) :
  ∃W:Nat->Nat->St->Hp->Prop,(∃m,W 0 m b H)/\∀i m b H,W i m b H->
   ((Itl K a).stop i H/\D.nx b H)\/((Itl K a).go i H/\∃N:St->Hp->Prop,(∀σ' H',N σ' H'->∃h,h<m/\W (i+1) h σ' H')/\∀x H',(Itl K a).yld i H x H'->g x b H' fun d H2=>j {D with nx:=N,ct:=N,bk:=D.nx} d H2):=by
 refine⟨fun i m b H=>m=xs.length-i/\i<=xs.length/\c i b H,⟨xs.length,by simp,vb _,k⟩,?_⟩;rintro i m b H ⟨rfl,l,p⟩;have q:=n i b H l p;by_cases f:i<xs.length
 ·refine .inr ⟨⟨xs,xs[i],q,by simp[f]⟩,c (i+1),fun σ' H' r=>⟨xs.length-(i+1),by lia,rfl,f,r⟩,fun x H' y=>?_⟩;obtain⟨e,y⟩:=y;subst e;exact o i x b _ (y xs q) p
 ·have e:i=xs.length:=by lia
  subst e;exact .inl ⟨⟨xs,q,vc _⟩,hd b H p⟩
theorem j2s{K:Frg}{a:Addr}{xs:List V}{g:TG}{j:TS}{D:Ends}{b:St}{H:Hp}(c:Nat->St->Hp->Prop)(k:c 0 b H)(n:∀i b H,i<=xs.length->c i b H->SqT K H a xs)
  (o:∀i x b H,xs[i]?=some x->c i b H->g x b H fun d H2=>j {D with nx:=c (i+1),ct:=c (i+1),bk:=D.nx} d H2) (hd:∀b H,c xs.length b H->D.nx b H) :
  ∃W:Nat->Nat->St->Hp->Prop,(∃m,W 0 m b H)/\∀i m b H,W i m b H->
   ((Itt K a).stop i H/\D.nx b H)\/((Itt K a).go i H/\∃N:St->Hp->Prop,(∀σ' H',N σ' H'->∃h,h<m/\W (i+1) h σ' H')/\∀x H',(Itt K a).yld i H x H'->g x b H' fun d H2=>j {D with nx:=N,ct:=N,bk:=D.nx} d H2):=by
 refine⟨fun i m b H=>m=xs.length-i/\i<=xs.length/\c i b H,⟨xs.length,by simp,vb _,k⟩,?_⟩;rintro i m b H ⟨rfl,l,p⟩;have q:=n i b H l p;by_cases f:i<xs.length
 ·refine .inr ⟨⟨xs,xs[i],q,by simp[f]⟩,c (i+1),fun σ' H' r=>⟨xs.length-(i+1),by lia,rfl,f,r⟩,fun x H' y=>?_⟩;obtain⟨e,y⟩:=y;subst e;exact o i x b _ (y xs q) p
 ·have e:i=xs.length:=by lia
  subst e;exact .inl ⟨⟨xs,q,vc _⟩,hd b H p⟩
theorem qm{lo:Int}{n:Nat}{g:TG}{h:TS}{D:Ends}{a:St}{H:Hp}(b:Nat->St->Hp->Prop)(j:b 0 a H)
  (k:∀i a H,i<n->b i a H->g (.int (lo+i)) a H fun d H2=>h {D with nx:=b (i+1),ct:=b (i+1),bk:=D.nx} d H2) (hd:∀a H,b n a H->D.nx a H) :
  ∃W:Nat->Nat->St->Hp->Prop,(∃m,W 0 m a H)/\∀i m a H,W i m a H->
   ((Itr lo n).stop i H/\D.nx a H)\/((Itr lo n).go i H/\∃N:St->Hp->Prop,(∀σ' H',N σ' H'->∃f,f<m/\W (i+1) f σ' H')/\∀x H',(Itr lo n).yld i H x H'->g x a H' fun d H2=>h {D with nx:=N,ct:=N,bk:=D.nx} d H2):=by
 refine⟨fun i m a H=>m=n-i/\i<=n/\b i a H,⟨n,by simp,vb _,j⟩,?_⟩;rintro i m a H ⟨rfl,o,p⟩;by_cases c:i<n
 ·refine .inr ⟨c,b (i+1),fun σ' H' l=>⟨n-(i+1),by lia,rfl,c,l⟩,fun x H' y=>?_⟩;obtain⟨e,y⟩:=y;subst e y;exact k i a _ c p
 ·have e:i=n:=by lia
  subst e;exact .inl ⟨vc _,hd a H p⟩
noncomputable abbrev R2:=V->V->Hp->VK->Prop
def OpR(X:Cx)(f:Value->Value->Sem Value)(r:R2):Prop:=
 ∀(pins:List (Addr×Obj)) (s:Shared) (σ:St) (H:Hp) (x y:V) (v u:Value) (Q:VK),Inv X pins σ H s->RelV x v->RelV y u->r x y H Q->
  wpAny (model X.prog X.w) X.A (f v u) (EP X pins σ Q) X.xe s
def UnR(X:Cx)(f:Value->Sem Value)(r:V->Hp->VK->Prop):Prop:=
 ∀(pins:List (Addr×Obj)) (s:Shared) (σ:St) (H:Hp) (x:V) (v:Value) (Q:VK),Inv X pins σ H s->RelV x v->r x H Q->
  wpAny (model X.prog X.w) X.A (f v) (EP X pins σ Q) X.xe s
def CallR(X:Cx)(f:Value)(r:List V->Hp->VK->Prop):Prop:=
 ∀(pins:List (Addr×Obj)) (s:Shared) (σ:St) (H:Hp) (xs:List V) (us:List Value) (Q:VK),Inv X pins σ H s->Vals xs us->r xs H Q->
  wpAny (model X.prog X.w) X.A (call f us) (EP X pins σ Q) X.xe s
def TruR(X:Cx)(r:V->Hp->(Bool->Hp->Prop)->Prop):Prop:=
 ∀(pins:List (Addr×Obj)) (s:Shared) (σ:St) (H:Hp) (x:V) (v:Value) (Q:Bool->Hp->Prop),Inv X pins σ H s->RelV x v->r x H Q->
  wpAny (model X.prog X.w) X.A (truthy v) (TP X pins σ Q) X.xe s
def tOp(r:R2)(ta tb:TE):TE:=fun σ H Q=>ta σ H fun x H1=>tb σ H1 fun y H2=>r x y H2 Q
def tUn(r:V->Hp->VK->Prop)(ta:TE):TE:=fun σ H Q=>ta σ H fun x H1=>r x H1 Q
def rI(C:Int->Int->Prop)(g:Int->Int->V):R2:=fun x y H Q=>∃i j,x = .int i/\y = .int j/\C i j/\Q (g i j) H
def rI0(g:Int->Int->V):R2:=fun x y H Q=>∃i j,x = .int i/\y = .int j/\Q (g i j) H
noncomputable def rU(g:Int->V):V->Hp->VK->Prop:=fun x H Q=>∃i,x = .int i/\Q (g i) H
section
variable{X:Cx}{a b c:Expr}{ta tb tc:TE}{pos:Pos}
theorem binT(l:PE X a ta)(m:PE X b tb){c:List (Addr×Obj)}{s:Shared}{d:St}{H:Hp}{R:V->V->Hp->Prop}(I:Inv X c d H s)
  (h:ta d H fun x H1=>tb d H1 fun y H2=>R x y H2) {Q:Value->Shared->Prop} {f:Value->Value->Sem Value}
  (n:∀v u i x y H2,Inv X c d H2 i->RelV x v->RelV y u->R x y H2->wpAny (model X.prog X.w) X.A (f v u) Q X.xe i) :
  wpAny (model X.prog X.w) X.A (eval a X.env) (fun v e=>wpAny (model X.prog X.w) X.A (eval b X.env) (fun u g=>wpAny (model X.prog X.w) X.A (f v u) Q X.xe g) X.xe e) X.xe s:=by
 refine thn (l c s d H _ I h) fun v t ⟨x,H1,j,q,o⟩=>?_
 refine thn (m c t d H1 _ j o) fun u i ⟨y,H2,k,r,p⟩=>?_
 exact n v u i x y H2 k q r p
theorem jq{d:Operator}{r:R2}(j:OpR X (binaryOp d) r)(g:PE X a ta)(i:PE X b tb):PE X (.BinOp a d b pos) (tOp r ta tb):=by
 intro c s n H Q I h;exact wpAny_BinOp (binT g i I h fun v u m x y e f k l q=>j c m n e x y v u Q f k l q)
theorem Y8{c:UnaryOp}{r:V->Hp->VK->Prop}(i:UnR X (unaryOp c) r)(g:PE X a ta):PE X (.UnaryOp c a pos) (tUn r ta):=by
 intro b s d H Q I h;exact UnaryOp_ (thn (g b s d H _ I h) fun v l ⟨x,e,f,k,j⟩=>i b l d e x v Q f k j)
theorem opI{f:Value->Value->Sem Value}{C:Int->Int->Prop}{g:Int->Int->Int}
  (a:∀(i j:Int) (t u:Tok) (s:Shared) (Q:Value->Shared->Prop) (E:Value->Shared->Prop),C i j->Q (.int (g i j) s.toks) {s with toks:=s.toks+1}->wpAny (model X.prog X.w) X.A (f (.int i t) (.int j u)) Q E s) :
  OpR X f (rI C fun i j=>.int (g i j)):=by
 intro b s l H x y v u Q I d e h;obtain⟨i,j,rfl,rfl,c,q⟩:=h;obtain⟨t,rfl⟩:=d;obtain⟨k,rfl⟩:=e;exact a i j t k s _ _ c ⟨.int (g i j),H,I.tok _,⟨_,rfl⟩,q⟩
theorem opI0{f:Value->Value->Sem Value}{g:Int->Int->Int}
  (a:∀(i j:Int) (t u:Tok) (s:Shared) (Q:Value->Shared->Prop) (E:Value->Shared->Prop),Q (.int (g i j) s.toks) {s with toks:=s.toks+1}->wpAny (model X.prog X.w) X.A (f (.int i t) (.int j u)) Q E s) :
  OpR X f (rI0 fun i j=>.int (g i j)):=by
 intro b s k H x y v u Q I c d h;obtain⟨i,j,rfl,rfl,q⟩:=h;obtain⟨t,rfl⟩:=c;obtain⟨e,rfl⟩:=d;exact a i j t e s _ _ ⟨.int (g i j),H,I.tok _,⟨_,rfl⟩,q⟩
theorem opB0{f:Value->Value->Sem Value}{g:Int->Int->Bool}
  (a:∀(i j:Int) (t u:Tok) (s:Shared) (Q:Value->Shared->Prop) (E:Value->Shared->Prop),Q (.bool (g i j)) s->wpAny (model X.prog X.w) X.A (f (.int i t) (.int j u)) Q E s) :
  OpR X f (rI0 fun i j=>.bl (g i j)):=by
 intro b s k H x y v u Q I c d h;obtain⟨i,j,rfl,rfl,q⟩:=h;obtain⟨t,rfl⟩:=c;obtain⟨e,rfl⟩:=d;exact a i j t e s _ _ ⟨.bl (g i j),H,I,rfl,q⟩
def CPow(i j:Int):Prop:=0<=j/\j<=1000000/\i.natAbs<2^64
theorem jU:OpR X (binaryOp .Add) (rI0 fun i j=>.int (i+j)):=opI0 fun _ _ _ _ _ _ _ q=>add_int q
theorem Qj:OpR X (binaryOp .Sub) (rI0 fun i j=>.int (i-j)):=opI0 fun _ _ _ _ _ _ _ q=>sub_int q
theorem j9:OpR X (binaryOp .Mod) (rI (fun _ j=>0<j) fun i j=>.int (i%j)):=opI fun i j _ _ _ _ _ a q=>by
 have b:(0:Int)<j:=a;exact mod_int' (by lia) (by rw[Int.fmod_eq_emod_of_nonneg i (by lia)];exact q)
theorem Zo:OpR X (binaryOp .Pow) (rI CPow fun i j=>.int (i^j.toNat)):=opI fun _ _ _ _ _ _ _ a q=>pow_int_small a.1 a.2.1 a.2.2 q
theorem unI{f:Value->Sem Value}{g:Int->Int}
  (a:∀(i:Int) (t:Tok) (s:Shared) (Q:Value->Shared->Prop) (E:Value->Shared->Prop),Q (.int (g i) s.toks) {s with toks:=s.toks+1}->wpAny (model X.prog X.w) X.A (f (.int i t)) Q E s) :
  UnR X f (rU fun i=>.int (g i)):=by
 intro b s d H x v Q I c h;obtain⟨i,rfl,q⟩:=h;obtain⟨t,rfl⟩:=c;exact a i t s _ _ ⟨.int (g i),H,I.tok _,⟨_,rfl⟩,q⟩
theorem Z1:UnR X (unaryOp .USub) (rU fun i=>.int (-i)):=unI fun _ _ _ _ _ q=>neg_int q
end
noncomputable def scal:V->V->Bool
 | .non,.non=>true | .non,.int _=>true | .int _,.non=>true | .non,.bl _=>true | .bl _,.non=>true | .non,.str _=>true | .str _,.non=>true
 | .int _,.int _=>true | .bl _,.bl _=>true | .str _,.str _=>true | .byt _,.byt _=>true
 | .int _,.str _=>true | .str _,.int _=>true | .bl _,.str _=>true | .str _,.bl _=>true
 | _,_=>false
def rEq:R2:=fun x y H Q=>scal x y=true/\Q (.bl (decide (x=y))) H
def rNe:R2:=fun x y H Q=>scal x y=true/\Q (.bl (!decide (x=y))) H
theorem Xf{i j:Int}:decide (V.int i=V.int j)=(i==j):=by
 rw[Bool.eq_iff_iff];simp
theorem j0K{i j:Bool}:decide (V.bl i=V.bl j)=(i==j):=by
 rw[Bool.eq_iff_iff];simp
theorem Xg{i j:Str}:decide (V.str i=V.str j)=(i==j):=by
 rw[Bool.eq_iff_iff];simp
theorem Xe{i j:Array UInt8}:decide (V.byt i=V.byt j)=(i.toList==j.toList):=by
 rw[Bool.eq_iff_iff];cases i;cases j;simp
section
variable{X:Cx}{a b c:Expr}{ta tb tc:TE}{pos:Pos}
theorem j3{a:List (Addr×Obj)}{c:St}{H:Hp}{s:Shared}{Q:VK}{k b:Bool}(I:Inv X a c H s)(q:Q (.bl k) H)(e:k=b):EP X a c Q (.bool b) s:=by
 subst e;exact⟨.bl k,H,I,rfl,q⟩
theorem j5:OpR X (compareOp .Eq) rEq:=by
 intro e s f H x y v u Q I d a h;obtain⟨c,q⟩:=h;cases x with
 | non=>
  cases d;cases y with
  | non=>cases a;exact PySem.EqNone.eq_none_none (j3 I q (by simp))
  | bl j=>cases a;exact PySem.EqNone.eq_none_bool (j3 I q (by simp))
  | int j=>obtain⟨b,rfl⟩:=a;exact PySem.EqNone.eq_none_int (j3 I q (by simp))
  | str j=>obtain⟨b,rfl⟩:=a;exact PySem.EqNone.eq_none_str (j3 I q (by simp))
  | _=>exact ug (show false=true from c) vE
 | bl i=>
  cases d;cases y with
  | non=>cases a;exact PySem.EqNone.eq_bool_none (j3 I q (by simp))
  | bl j=>cases a;exact eq_bool (j3 I q j0K)
  | str j=>obtain⟨b,rfl⟩:=a;exact PySem.EqMixed.eq_bool_str (j3 I q (by simp))
  | _=>exact ug (show false=true from c) vE
 | int i=>
  obtain⟨t,rfl⟩:=d;cases y with
  | non=>cases a;exact PySem.EqNone.eq_int_none (j3 I q (by simp))
  | int j=>obtain⟨b,rfl⟩:=a;exact eq_int (j3 I q Xf)
  | str j=>obtain⟨b,rfl⟩:=a;exact PySem.EqMixed.eq_int_str (j3 I q (by simp))
  | _=>exact ug (show false=true from c) vE
 | str i=>
  obtain⟨t,rfl⟩:=d;cases y with
  | non=>cases a;exact PySem.EqNone.eq_str_none (j3 I q (by simp))
  | bl j=>cases a;exact PySem.EqMixed.eq_str_bool (j3 I q (by simp))
  | int j=>obtain⟨b,rfl⟩:=a;exact PySem.EqMixed.eq_str_int (j3 I q (by simp))
  | str j=>obtain⟨b,rfl⟩:=a;exact eq_str (j3 I q Xg)
  | _=>exact ug (show false=true from c) vE
 | byt i=>
  obtain⟨t,rfl⟩:=d;cases y with
  | byt j=>obtain⟨b,rfl⟩:=a;exact PySem.W.eq_bytes (j3 I q Xe)
  | _=>exact ug (show false=true from c) vE
 | _=>cases y<;>exact ug (show false=true from c) vE
theorem j1p:OpR X (compareOp .NotEq) rNe:=by
 intro e s f H x y v u Q I d a h;obtain⟨c,q⟩:=h;cases x with
 | non=>
  cases d;cases y with
  | non=>cases a;exact PySem.EqNone.ne_none_none (j3 I q (by simp))
  | bl j=>cases a;exact PySem.EqNone.ne_none_bool (j3 I q (by simp))
  | int j=>obtain⟨b,rfl⟩:=a;exact PySem.EqNone.ne_none_int (j3 I q (by simp))
  | str j=>obtain⟨b,rfl⟩:=a;exact PySem.EqNone.ne_none_str (j3 I q (by simp))
  | _=>exact ug (show false=true from c) vE
 | bl i=>
  cases d;cases y with
  | non=>cases a;exact PySem.EqNone.ne_bool_none (j3 I q (by simp))
  | bl j=>cases a;exact ne_bool (j3 I q (congrArg not j0K))
  | str j=>obtain⟨b,rfl⟩:=a;exact PySem.EqMixed.ne_bool_str (j3 I q (by simp))
  | _=>exact ug (show false=true from c) vE
 | int i=>
  obtain⟨t,rfl⟩:=d;cases y with
  | non=>cases a;exact PySem.EqNone.ne_int_none (j3 I q (by simp))
  | int j=>obtain⟨b,rfl⟩:=a;exact ne_int (j3 I q (congrArg not Xf))
  | str j=>obtain⟨b,rfl⟩:=a;exact PySem.EqMixed.ne_int_str (j3 I q (by simp))
  | _=>exact ug (show false=true from c) vE
 | str i=>
  obtain⟨t,rfl⟩:=d;cases y with
  | non=>cases a;exact PySem.EqNone.ne_str_none (j3 I q (by simp))
  | bl j=>cases a;exact PySem.EqMixed.ne_str_bool (j3 I q (by simp))
  | int j=>obtain⟨b,rfl⟩:=a;exact PySem.EqMixed.ne_str_int (j3 I q (by simp))
  | str j=>obtain⟨b,rfl⟩:=a;exact ne_str (j3 I q (congrArg not Xg))
  | _=>exact ug (show false=true from c) vE
 | byt i=>
  obtain⟨t,rfl⟩:=d;cases y with
  | byt j=>obtain⟨b,rfl⟩:=a;exact PySem.W.ne_bytes (j3 I q (congrArg not Xe))
  | _=>exact ug (show false=true from c) vE
 | _=>cases y<;>exact ug (show false=true from c) vE
theorem Zn:OpR X (compareOp .Lt) (rI0 fun i j=>.bl (decide (i<j))):=opB0 fun _ _ _ _ _ _ _ q=>lt_int q
theorem WF:OpR X (compareOp .LtE) (rI0 fun i j=>.bl (decide (i<=j))):=opB0 fun _ _ _ _ _ _ _ q=>le_int q
theorem ZK:OpR X (compareOp .Gt) (rI0 fun i j=>.bl (decide (j<i))):=opB0 fun _ _ _ _ _ _ _ q=>gt_int q
theorem j33:OpR X (compareOp .GtE) (rI0 fun i j=>.bl (decide (j<=i))):=opB0 fun _ _ _ _ _ _ _ q=>ge_int q
theorem j2M:OpR X (compareOp .IsNot) (fun x y H Q=>y = .non/\Q (.bl (!decide (x = .non))) H):=by
 intro a s d H x y v u Q I b c h;obtain⟨rfl,q⟩:=h;cases c;refine isnot_none_gen (j3 I q ?_);cases x<;>first
  | (cases b;rfl)
  | (obtain⟨t,rfl⟩:=b;rfl)
theorem nomark(b:Expr){a:CmpOp}(h:a≠.In:=by decide)(e:a≠.NotIn:=by decide):behindInMarks a b=false:=by
 have c:(a==CmpOp.In)=false:=by cases a<;>first | rfl | exact ug rfl h
 have d:(a==CmpOp.NotIn)=false:=by cases a<;>first | rfl | exact ug rfl e
 cases b<;>simp[behindInMarks,c,d]
theorem j2N{d:CmpOp}{r:R2}(k:OpR X (compareOp d) r)(g:PE X a ta)(i:PE X b tb)(j:behindInMarks d b=false):PE X (.Compare a [d] [b] pos) (tOp r ta tb):=by
 intro c s o H Q I h;exact wpAny_Compare1 (binT g i I h fun v u n x y e f l m q=>k c n o e x y v u Q f l m q) j
def tTest(t:TE):TT:=fun σ H Q=>t σ H fun x H'=>∃k,x = .bl k/\Q k H'
theorem jo{f:CmpOp}{r:R2}(w:OpR X (compareOp f) r)(p:PE X a ta)(q:PE X b tb)(t:behindInMarks f b=false):PT X (.Compare a [f] [b] pos) (tTest (tOp r ta tb)):=by
 intro d s g H Q I h;refine wpAny_isTrue_Compare1 (thn (p d s g H _ I h) fun v G ⟨x,i,m,D,A⟩=>thn (q d G g i _ m A) fun u J ⟨y,j,n,E,B⟩=>
  thn (w d J g j x y v u _ n D E B) fun c K ⟨z,l,o,F,k,e,C⟩=>?_) t
 subst e;cases F;exact wpAny_truthy_bool ⟨l,o,C⟩
def tChain(r r':R2)(ta tb tc:TE):TE:=fun σ H Q=>ta σ H fun x H1=>tb σ H1 fun y H2=>r x y H2 fun z H3=>∃k,z = .bl k/\
 (if k=true then tc σ H3 fun w' H4=>r' y w' H4 Q else Q (.bl false) H3)
theorem j1y{l g:CmpOp}{r p:R2}(O:OpR X (compareOp l) r)(j:OpR X (compareOp g) p)(K:PE X a ta)(L:PE X b tb)(M:PE X c tc)
  (N:lastMarks [l,g] [b,c]=false:=by with_unfolding_all rfl):PT X (.Compare a [l,g] [b,c] pos) (tTest (tChain r p ta tb tc)):=by
 intro f s i H Q I h;refine isTrue_chain (thn (K f s i H _ I h) fun v s1 ⟨x,t,C,W,R⟩=>test_link (thn (L f s1 i t _ C R) fun u s2 ⟨y,w,D,q,S⟩=>
  thn (O f s2 i w x y v u _ D W q S) fun d s3 ⟨z,m,n,Y,k,e,o⟩=>?_)) N
 subst e;cases Y;refine wpAny_truthy_bool ?_;cases k with
 | false=>
  obtain⟨k',G,P⟩:=o;cases G;exact ite_ff ⟨m,n,P⟩
 | true=>
  refine ite_tt (test_last (thn (M f s3 i m _ n o) fun w' s4 ⟨z',A,E,Z,T⟩=>thn (j f s4 i A y z' u w' _ E q Z T) fun d' s5 ⟨z2,B,F,r5,k2,J,U⟩=>?_));subst J;cases r5;exact wpAny_truthy_bool ⟨B,F,U⟩
def TruV(K:Frg)(x:V)(H:Hp)(k:Bool):Prop:=
 match x with
 | .non=>k=false
 | .bl b=>k=b
 | .int i=>k=(i != 0)
 | .str y=>y.length<=sizeLine/\k=((y.length:Int) != 0)
 | .byt y=>y.size<=sizeLine/\k=((y.size:Int) != 0)
 | .ref p=>(∃xs,SqL K H p xs/\k = !xs.isEmpty)\/(∃xs,SqT K H p xs/\k = !xs.isEmpty)\/∃kvs,H p=some (.dK kvs)/\k = !kvs.isEmpty
 | _=>False
theorem xq{κ:Type}{kvs:List (κ×V)}{vs:List (κ×Value)}(r:KV kvs vs):(!vs.isEmpty) = !kvs.isEmpty:=by
 cases r<;>rfl
theorem YZ{xs:List V}{a:List Value}(r:Vals xs a):(!a.toArray.isEmpty) = !xs.isEmpty:=by
 cases r<;>simp
theorem line63:(sizeLine:Nat)<2^63:=by rw[sizeLine_eq];decide
theorem j3P:TruR X (fun x H Q=>∃k,TruV X.K x H k/\Q k H):=by
 intro w s D H x v Q I g h;obtain⟨k,e,q⟩:=h;have B:=line63;have C:sizeLine=16777216:=sizeLine_eq;cases x with
 | non=>
  cases g;have a:k=false:=e;subst a;exact truthy_none ⟨H,I,q⟩
 | bl b=>
  cases g;have a:k=b:=e;subst a;exact wpAny_truthy_bool ⟨H,I,q⟩
 | int i=>
  obtain⟨t,rfl⟩:=g;have a:k=(i != 0):=e;subst a;exact PySem.P.truthy_int ⟨H,I,q⟩
 | str y=>
  obtain⟨t,rfl⟩:=g;obtain⟨A,a⟩:y.length<=sizeLine/\k=((y.length:Int) != 0):=e;subst a;exact PySem.P.truthy_str (by lia) ⟨H,I.tok _,q⟩
 | byt y=>
  obtain⟨t,rfl⟩:=g;obtain⟨A,a⟩:y.size<=sizeLine/\k=((y.size:Int) != 0):=e;subst a;exact PySem.W.truthy_bytes (by lia) ⟨H,I.tok _,q⟩
 | ref p=>
  cases g;have a:(∃f,SqL X.K H p f/\k = !f.isEmpty)\/(∃f,SqT X.K H p f/\k = !f.isEmpty)\/∃c,H p=some (.dK c)/\k = !c.isEmpty:=e;rcases a with⟨f,j,a⟩ | ⟨f,j,a⟩ | ⟨c,j,a⟩
  ·subst a;obtain⟨n,r,o,u⟩:=I.list j;have d:=r.length;exact wpAny_truthy_list o.isList (by simp only[size_toArray];lia) ⟨H,I.tok _,by rw[YZ r];exact q⟩
  ·subst a;obtain⟨n,r,o,u⟩:=I.tuple j;have d:=r.length;exact truthy_tuple o (by simp only[size_toArray];lia) ⟨H,I.tok _,by rw[YZ r];exact q⟩
  ·subst a;obtain⟨u,z,l,r,m⟩:c.length<=sizeLine/\(p==sysModules)=false/\∃l,KV c l/\s.heap.DictOf (mixKind X.prog X.w) p l:=I.hok p _ j;have d:c.length=l.length:=Paired.length r;exact wpAny_truthy_dict z m (by lia) ⟨H,I.tok _,by rw[xq r];exact q⟩
 | _=>exact(show False from e).elim
theorem j1A(f:PE X a ta)(g:∀b,isTrue a X.env b=(do let v <-b;standAt a.pos;holding [v] (truthy v))) :
  PT X a (fun σ H Q=>ta σ H fun x H'=>∃k,TruV X.K x H' k/\Q k H'):=by
 intro c s σ H Q I h;exact isTrue_plain (thn (f c s σ H _ I h) fun v l ⟨x,d,e,j,i⟩=>j3P c l σ d x v Q e j i) (g _)
theorem ZW:OpR X (binaryOp .Add) (fun x y H Q=>∃i j,x = .str i/\y = .str j/\i.length+j.length<=sizeLine/\Q (.str (i++j)) H):=by
 intro a s g H x y v u Q I c d h;obtain⟨i,j,rfl,rfl,b,q⟩:=h;obtain⟨t,rfl⟩:=c;obtain⟨e,rfl⟩:=d;exact add_str (fun e f=>⟨.str (i++j),H,I.tok _,⟨_,rfl⟩,q⟩) b
theorem vals1{x:V}{us:List Value}(r:Vals [x] us):∃u,us=[u]/\RelV x u:=by
 cases r with
 | cons r1 r2=>cases r2;exact⟨_,rfl,r1⟩
theorem vals2{x y:V}{us:List Value}(r:Vals [x,y] us):∃u a,us=[u,a]/\RelV x u/\RelV y a:=by
 cases r with
 | cons r1 r2=>
  cases r2 with
  | cons r3 r4=>cases r4;exact⟨_,_,rfl,r1,r3⟩
theorem YL:CallR X (.builtin "abs") (fun xs H Q=>∃i,xs=[.int i]/\Q (.int (if i<0 then -i else i)) H):=by
 intro a s d H xs c Q I r h;obtain⟨i,rfl,q⟩:=h;obtain⟨u,rfl,t,rfl⟩:=vals1 r;exact call_abs_int fun u b=>⟨.int (if i<0 then -i else i),H,I.tok _,⟨_,rfl⟩,q⟩
theorem XX(c:X.calm=true):CallR X (.builtin "max") (fun xs H Q=>∃i j,xs=[.int i,.int j]/\Q (.int (if j>i then j else i)) H):=by
 intro b s m H xs g Q I r h;obtain⟨i,j,rfl,q⟩:=h;obtain⟨u,l,rfl,⟨t,rfl⟩,⟨e,rfl⟩⟩:=vals2 r;refine max_two_ints (I.ok.hd c) fun d f k=>⟨_,H,I.kept k,?_,q⟩
 by_cases a:j>i
 ·rw[ve a,ve a];exact⟨_,rfl⟩
 ·rw[vd a,vd a];exact⟨_,rfl⟩
theorem yK(c:X.calm=true):CallR X (.builtin "min") (fun xs H Q=>∃i j,xs=[.int i,.int j]/\Q (.int (if j<i then j else i)) H):=by
 intro b s m H xs g Q I r h;obtain⟨i,j,rfl,q⟩:=h;obtain⟨u,l,rfl,⟨t,rfl⟩,⟨e,rfl⟩⟩:=vals2 r;refine min_two_ints (I.ok.hd c) fun d f k=>⟨_,H,I.kept k,?_,q⟩
 by_cases a:j<i
 ·rw[ve a,ve a];exact⟨_,rfl⟩
 ·rw[vd a,vd a];exact⟨_,rfl⟩
def LenV(K:Frg)(x:V)(H:Hp)(n:Nat):Prop:=
 match x with
 | .str y=>y.length<=sizeLine/\n=y.length
 | .byt y=>y.size<=sizeLine/\n=y.size
 | .ref p=>(∃xs,SqL K H p xs/\n=xs.length)\/∃xs,SqT K H p xs/\n=xs.length
 | _=>False
theorem jR:CallR X (.builtin "len") (fun xs H Q=>∃x n,xs=[x]/\LenV X.K x H n/\Q (.int n) H):=by
 intro j s w H xs v Q I r h;obtain⟨x,n,rfl,e,q⟩:=h;obtain⟨u,rfl,i⟩:=vals1 r;have m:=line63;have o:sizeLine=16777216:=sizeLine_eq;cases x with
 | str y=>
  obtain⟨t,rfl⟩:=i;obtain⟨k,b⟩:y.length<=sizeLine/\n=y.length:=e;subst b;exact len_str (by lia) ⟨.int _,H,I.tok _,⟨_,rfl⟩,q⟩
 | byt y=>
  obtain⟨t,rfl⟩:=i;obtain⟨k,b⟩:y.size<=sizeLine/\n=y.size:=e;subst b;exact PySem.W.len_bytes (by lia) ⟨.int _,H,I.tok _,⟨_,rfl⟩,q⟩
 | ref p=>
  cases i;have b:(∃xs,SqL X.K H p xs/\n=xs.length)\/∃xs,SqT X.K H p xs/\n=xs.length:=e;rcases b with⟨xs,c,b⟩ | ⟨xs,c,b⟩
  ·subst b;obtain⟨d,g,f,l⟩:=I.list c;have a:=g.length;exact Calls.call_len_list f.isList (by simp only[size_toArray];lia) ⟨.int xs.length,H,I.tok _,⟨_,by simp only[size_toArray];rw[a]⟩,q⟩
  ·subst b;obtain⟨d,g,f,l⟩:=I.tuple c;have a:=g.length;exact len_tuple f (by simp only[size_toArray];lia) ⟨.int xs.length,H,I.tok _,⟨_,by simp only[size_toArray];rw[a]⟩,q⟩
 | _=>exact(show False from e).elim
end
structure ObjM(h:Heap)(x dx C:Addr)(mA:Str->Option Value):Prop where
 obj:h.get? x=some (PySem.W.instObj C dx)
 ns:h.Ns1 dx mA
 ne:dx≠x
theorem j02{h:Heap}{c:Addr}{f:Str->Option Value}(n:h.Ns1 c f):∃g,h.get? c=some g/\∀name,PySem.W.lookIn name g=some (f name):=by
 obtain⟨o,d,r,m,j,k,_,l⟩:=n;refine⟨o,m,fun name=>?_⟩;have e:=l name;unfold nsFind findBy at e;rw[<-Array.find?_toList]at e;unfold PySem.W.lookIn;rw[j];dsimp only;split
 ·rename_i y q;rw[q]at e;exact congrArg some e
 ·rename_i q;rw[q]at e;have a:d.toList.any (·.refKey)=false:=by
   rw[List.any_eq_false];intro y p;obtain⟨z,t,b⟩:=k y (Array.mem_toList_iff.mp p);simp[DictEntry.refKey,b]
  have i:¬d.toList.any (·.refKey)=true:=by rw[a];exact vE
  rw[vd i];exact congrArg some e
theorem ObjM.look{h:Heap}{x b C:Addr}{c:Str->Option Value}(I:ObjM h x b C c):∃a,PySem.W.InstAt h x (PySem.W.instObj C b) C (some a)/\∀name,PySem.W.lookIn name a=some (c name):=
 let ⟨a,ho,hl⟩:=j02 I.ns
 ⟨a,⟨I.obj,rfl,rfl,ho⟩,hl⟩
section
variable{prog:Program}{w:World}{A:Around}{E:Value->Shared->Prop}{s:Shared}{K:Frg}{x dx C f:Addr}{mA:Str->Option Value}{name:Str}{v:Value}
theorem j2v{a:Bool}{Q:Value->Shared->Prop}(X:K.In s.heap)(I:ObjM s.heap x dx C mA)(d:PySem.W.plainGet K C name=true)(e:PySem.W.hasDictIn K C=true)
  (c:PySem.W.findIn K (.ref C) name=some none) (g:mA name=some v) (b:PySem.W.handedIn v=true) (h:Q v {s with toks:=s.toks+1}) :
  wpAny (model prog w) A (getAttr (.ref x) name a) Q E s:=by
 obtain⟨i,J,f⟩:=I.look;exact PySem.W.get_value X J (PySem.W.plainGet_of d).1 (PySem.W.findObj_own e c rfl (by rw[f,g])) b h
theorem j0V{pl:Sem Bool}{Q:Value×List Value->Shared->Prop}(X:K.In s.heap)(I:ObjM s.heap x dx C mA)(a:PySem.W.plainGet K C name=true)
  (b:PySem.W.findIn K (.ref C) name=some (some (.ref f))) (d:PySem.W.isFn K (.ref f)=true) (e:mA name=none) (h:Q (.ref f,[.ref x]) s) :
  wpAny (model prog w) A (getMethod (.ref x) name pl) Q E s:=by
 obtain⟨g,J,c⟩:=I.look;exact PySem.W.method_fn X J (PySem.W.plainGet_of a).1 (PySem.W.plainGet_of a).2 b (beq_iff_eq.mp d) (by show(PySem.W.lookIn name g).map (·.isSome)=some false;rw[c,e];rfl) h
theorem j2W{ns:List Str}{Q:Unit->Shared->Prop}(X:K.In s.heap)(I:ObjM s.heap x dx C mA)
  (o:PySem.W.findIn K (.ref C) "__setattr__"= some (some (.builtin "object.__setattr__"))) (n:PySem.W.plainOver K C=true) (p:PySem.W.takerIn K C name=some none) (m:PySem.W.hasDictIn K C=true)
  (hw:PySem.Within mA ns) (hsz:ns.length<=sizeLine)
  (h:∀h',ObjM h' x dx C (fun y=>if y=name then some v else mA y)->Heap.SameBut dx s.heap h'->Q () {s with heap:=h',toks:=s.toks+2}) :
  wpAny (model prog w) A (setAttr (.ref x) name v) Q E s:=by
 obtain⟨B,J,u⟩:=I.look;refine PySem.W.set_plain X J o (PySem.W.osa_open (s:={s with toks:=s.toks+1}) (r:=none) X J n p fun b=>?_);obtain⟨t,l,f⟩:=PySem.W.any_some m;have q:s.heap.get? x=some ⟨.ref C,some dx,.plain,#[]⟩:=I.obj;refine uk (uh (uk (uk (wpAny_loadPart q (uk (PySem.W.Looks.here (s:={s with toks:=s.toks+1}) (PySem.W.looks_clsIn X l) ?_))))));rw[f];refine uh (a:=some dx) (uk (uh (uk ?_)));refine wpAny_nsSet1 (s:={s with toks:=s.toks+1}) I.ns fun h' c d=>?_
 obtain⟨z,k,j,i,g,e⟩:=c.count (PySem.Within.cons name v hw);refine uk (wpAny_lookBehind i (by rw[g];exact pastItsLine_dict (vU e (by rw[vO];lia))) ?_);exact uh (h _ ⟨(d.2 _ (Ne.symm I.ne)).trans I.obj,c,I.ne⟩ d)
theorem j1a{R:Result->Shared->Prop}{vs:List Value}{b:List (Str×Value)}(X:K.In s.heap)(e:PySem.W.makesIn K C=true)
  (hi:PySem.W.findIn K (.ref C) "__init__"= some (some (.ref f))) (c:PySem.W.typeIn K (.ref f)=some (.type "function"))
  (h:codeAny (model prog w) (A.under (.builtin "type.__call__" ⟨.ref C::vs,b⟩)) (.call (.ref f) ⟨.ref (s.heap.objs.size+1)::vs,b⟩) (PySem.W.InitBack (s.heap.objs.size+1) R)
   {s with heap:=(s.heap.push PySem.W.emptyDict).push (PySem.W.instObj C s.heap.objs.size)}) :
  codeAny (model prog w) A (.call (.ref C) ⟨vs,b⟩) R s:=by
 obtain⟨i,g,d,t,j⟩:=s;exact PySem.W.make_core (PySem.W.makes_of X e) (PySem.W.looks_findIn X hi) (fun a=>PySem.W.bind_fn X a c) (.inl rfl) h
end
noncomputable def putF(f:Str)(v:V):List (Str×V)->List (Str×V)
 | []=>[(f,v)]
 | (g,x)::r=>if g=f then(g,v)::r else(g,x)::putF f v r
theorem zc(f g:Str)(v:V):∀fs:List (Str×V),(putF f v fs).lookup g=if g=f then some v else fs.lookup g
 | []=>by
  show List.lookup g [(f,v)]=_;by_cases h:g=f
  ·have a:(g==f)=true:=beq_iff_eq.mpr h;simp only[List.lookup,a,if_pos h]
  ·have a:(g==f)=false:=beq_eq_false_iff_ne.mpr h;simp only[List.lookup,a,if_neg h]
 | (k,x)::r=>by
  have c:=zc f g v r;rw[show putF f v ((k,x)::r)=(if k=f then(k,v)::r else(k,x)::putF f v r)from rfl];by_cases b:k=f
  ·rw[ve b];by_cases h:g=k
   ·have a:(g==k)=true:=beq_iff_eq.mpr h;simp only[List.lookup,a,if_pos (h.trans b)]
   ·have a:(g==k)=false:=beq_eq_false_iff_ne.mpr h;simp only[List.lookup,a,if_neg (fun e:g=f=>h (e.trans b.symm))]
  ·rw[vd b];by_cases h:g=k
   ·have a:(g==k)=true:=beq_iff_eq.mpr h;simp only[List.lookup,a,if_neg (fun e:g=f=>b (h.symm.trans e))]
   ·have a:(g==k)=false:=beq_eq_false_iff_ne.mpr h;simp only[List.lookup,a];exact c
theorem yS(f:Str)(v:V):∀fs:List (Str×V),f∈(putF f v fs).map (·.1)/\∀g,g∈fs.map (·.1)->g∈(putF f v fs).map (·.1)
 | []=>⟨by simp[putF],fun g h=>by simp at h⟩
 | (k,x)::r=>by
  obtain⟨b,c⟩:=yS f v r;rw[show putF f v ((k,x)::r)=(if k=f then(k,v)::r else(k,x)::putF f v r)from rfl];by_cases a:k=f
  ·rw[ve a];subst a;exact⟨by simp,fun g h=>by simpa using h⟩
  ·rw[vd a];refine⟨?_,fun g h=>?_⟩
   ·rw[v6];exact vp _ b
   ·rw[v6]at h|-;rcases mem_cons.mp h with e | e
    ·exact mem_cons.mpr (.inl e)
    ·exact vp _ (c g e)
theorem Yg(f:Str)(v:V):∀fs:List (Str×V),(putF f v fs).length<=fs.length+1
 | []=>by simp[putF]
 | (k,x)::r=>by
  have b:=Yg f v r;rw[show putF f v ((k,x)::r)=(if k=f then(k,v)::r else(k,x)::putF f v r)from rfl];by_cases a:k=f
  ·rw[ve a,vO,vO];lia
  ·rw[vd a,vO,vO];lia
theorem RelO.some_of{v:V}{o:Option Value}(r:RelO (some v) o):∃u,o=some u/\RelV v u:=by
 cases o with
 | none=>exact(show False from r).elim
 | some u=>exact⟨u,rfl,r⟩
theorem RelO.none_of{o:Option Value}(r:RelO none o):o=none:=by
 cases o with
 | none=>rfl
 | some u=>exact(show False from r).elim
theorem X3{v:V}{u:Value}(r:RelV v u):PySem.W.handedIn u=true:=by
 cases v with
 | non=>cases(show u=Value.none from r);rfl
 | bl b=>cases(show u=Value.bool b from r);rfl
 | int i=>obtain⟨t,e⟩:=(show∃t,u=Value.int i t from r);cases e;rfl
 | str x=>obtain⟨t,e⟩:=(show∃t,u=Value.str x t from r);cases e;rfl
 | byt b=>obtain⟨t,e⟩:=(show∃t,u=Value.bytes b t from r);cases e;rfl
 | flt b=>obtain⟨t,e⟩:=(show∃t,u=Value.float b t from r);cases e;rfl
 | ref a=>cases(show u=Value.ref a from r);rfl
 | ty n=>cases(show u=Value.type n from r);rfl
section
variable{P:Program}{w:World}{H H':Hp}{h h':Heap}{a C dx:Addr}{fs fs':List (Str×V)}
theorem Yr(b:HOk P w H h)(e:H a=some (.ins C dx fs)):∃mA,ObjM h a dx C mA/\(∀f,RelO (fs.lookup f) (mA f))/\PySem.Within mA (fs.map (·.1))/\fs.length<=1000/\H dx=some (.own a):=by
 obtain⟨d,z,c,g,mA,n,r,q⟩:=(show ObjOk P w H h a (.ins C dx fs)from b a _ e)
 exact⟨mA,⟨g,n,c⟩,r,q,z,d⟩
end
structure Cls(K:Frg)(C:Addr):Prop where
 pg:PySem.W.plainGet K C Str.empty=true
 hd:PySem.W.hasDictIn K C=true
 po:PySem.W.plainOver K C=true
 sa:PySem.W.findIn K (.ref C) "__setattr__"= some (some (.builtin "object.__setattr__"))
theorem Cls.get{K:Frg}{C:Addr}(c:Cls K C)(f:Str):PySem.W.plainGet K C f=true:=c.pg
def NoAttr(K:Frg)(C:Addr)(f:Str):Prop:=PySem.W.findIn K (.ref C) f=some none
theorem NoAttr.taker{K:Frg}{C:Addr}{f:Str}(n:NoAttr K C f):PySem.W.takerIn K C f=some none:=by
 unfold PySem.W.takerIn;rw[show PySem.W.findIn K (.ref C) f=some none from n];rfl
structure Meth(K:Frg)(C:Addr)(m:Str)(f:Addr):Prop where
 at_:PySem.W.findIn K (.ref C) m=some (some (.ref f))
 fn:PySem.W.isFn K (.ref f)=true
 kp:PySem.W.keepIn K (.ref f)=true
section
variable{X:Cx}{pins:List (Addr×Obj)}{σ:St}{H:Hp}{s:Shared}{a C dx:Addr}{fs:List (Str×V)}{f:Str}{v:V}{A:Around}{E:Value->Shared->Prop}
theorem xi{b:Bool}{Q:Value->Shared->Prop}(I:Inv X pins σ H s)(e:H a=some (.ins C dx fs))(c:Cls X.K C)(n:NoAttr X.K C f)(l:fs.lookup f=some v)
  (h:∀u s',Inv X pins σ H s'->RelV v u->Q u s'):wpAny (model X.prog X.w) A (getAttr (.ref a) f b) Q E s:=by
 obtain⟨i,O,r,_,_,_⟩:=Yr I.hok e;obtain⟨u,g,d⟩:=RelO.some_of (v:=v) (o:=i f) (by rw[<-l];exact r f);exact j2v I.kIn O (c.get f) c.hd n g (X3 d) (h u _ (I.tok _) d)
theorem xj{m:Str}{g:Addr}{pl:Sem Bool}{Q:Value×List Value->Shared->Prop}(I:Inv X pins σ H s)(e:H a=some (.ins C dx fs))(c:Cls X.K C)(k:Meth X.K C m g)(l:fs.lookup m=none)
  (h:Q (.ref g,[.ref a]) s):wpAny (model X.prog X.w) A (getMethod (.ref a) m pl) Q E s:=by
 obtain⟨d,O,r,_,_,_⟩:=Yr I.hok e;have b:d m=none:=RelO.none_of (by rw[<-l];exact r m);exact j0V I.kIn O (c.get m) k.at_ k.fn b h
theorem xT{y:V}{u:Value}{Q:Unit->Shared->Prop}(I:Inv X pins σ H s)(e:H a=some (.ins C dx fs))(c:Cls X.K C)(n:NoAttr X.K C f)(D:fs.length<1000)(w:RelV y u)
  (h:∀s',Inv X pins σ (upd H a (.ins C dx (putF f y fs))) s'->Q () s'):wpAny (model X.prog X.w) A (setAttr (.ref a) f u) Q E s:=by
 obtain⟨j,O,r,k,_,i⟩:=Yr I.hok e;have v:(fs.map (·.1)).length<=sizeLine:=by rw[vt,sizeLine_eq];lia
 refine j2W I.kIn O c.sa c.po n.taker c.hd k v fun l d B=>h _ ?_
 have p:∃o,l.get? dx=some o:=let ⟨o,_,_,e',_⟩:=d.ns;⟨o,e'⟩;refine I.write (x:=a) (e:=dx) (by rw[e];exact True.intro) (.inr i) (fun b q m z=>(B.2 b m).trans z) p ?_;refine⟨by rw[jh O.ne];exact i,?_,O.ne,d.obj,_,d.ns,fun g=>?_,fun g t=>?_⟩
 ·have:=Yg f y fs;lia
 ·show RelO ((putF f y fs).lookup g) (if g=f then some u else j g);rw[zc];by_cases q:g=f
  ·rw[ve q,ve q];exact w
  ·rw[vd q,vd q];exact r g
 ·by_cases q:g=f
  ·rw[q];exact(yS f y fs).1
  ·refine(yS f y fs).2 g (k g fun z=>t ?_);show(if g=f then some u else j g)=none;rw[vd q];exact z
theorem Inv.made(I:Inv X pins σ H s):Inv X pins σ (upd (upd H s.heap.objs.size (.own (s.heap.objs.size+1))) (s.heap.objs.size+1) (.ins C s.heap.objs.size []))
  {s with heap:=(s.heap.push PySem.W.emptyDict).push (PySem.W.instObj C s.heap.objs.size)}:=by
 have c:(s.heap.push PySem.W.emptyDict).get? s.heap.objs.size=some PySem.W.emptyDict:=Heap.get?_push_size s.heap rfl;have g:((s.heap.push PySem.W.emptyDict).push (PySem.W.instObj C s.heap.objs.size)).get? (s.heap.objs.size+1)=some (PySem.W.instObj C s.heap.objs.size):=by
  have:=Heap.get?_push_size (s.heap.push PySem.W.emptyDict) (o:=PySem.W.instObj C s.heap.objs.size) rfl
  rwa [Heap.size_push]at this
 have h:(s.heap.push PySem.W.emptyDict).Ns s.heap.objs.size (fun _=>none):=⟨PySem.W.emptyDict,#[],_,c,rfl,(fun e i=>ug i (by simp)),fun _=>rfl⟩
 have f:=I.laid (a:=s.heap.objs.size) (o:=.own (s.heap.objs.size+1)) (h':=s.heap.push PySem.W.emptyDict) (t':=s.toks) (fun b u q=>vI _ q) (vc _) ⟨_,c⟩;refine f.laid (a:=s.heap.objs.size+1) (o:=.ins C s.heap.objs.size []) (t':=s.toks) (fun b u q=>vI _ q) (Nat.le_of_eq (Heap.size_push _ _)) ?_;have d:s.heap.objs.size≠s.heap.objs.size+1:=vD (Nat.lt_succ_self _);refine⟨by rw[jh d,jC],vb _,d,g,fun _=>none,(Heap.Ns1.of_empty h).at fun o q=>vI _ q,fun _=>True.intro,fun y j=>ug rfl j⟩
theorem j2d{prog:Program}{w:World}{env:Env}{e:Expr}{f:Str}{b:Pos}{s:Shared}{Q:Value->Shared->Prop}(c:attributeBase e f env (eval e env)=eval e env)
  (h:wpAny (model prog w) A (eval e env) (fun o a=>wpAny (model prog w) A (getAttr o f true) Q E a) E s):wpAny (model prog w) A (eval (.Attribute e f b) env) Q E s:=
 Attribute_any_ h (by rw[arm_eval_Attribute,c])
end
def tFld(K:Frg)(ta:TE)(f:Str):TE:=fun σ H Q=>ta σ H fun x H1=>∃a C dx fs v,x = .ref a/\H1 a=some (.ins C dx fs)/\Cls K C/\NoAttr K C f/\fs.lookup f=some v/\Q v H1
def sFld(K:Frg)(ta tv:TE)(f:Str):TS:=fun D σ H=>tv σ H fun y H1=>ta σ H1 fun x H2=>∃a C dx fs,x = .ref a/\H2 a=some (.ins C dx fs)/\Cls K C/\NoAttr K C f/\fs.length<1000/\
 D.nx σ (upd H2 a (.ins C dx (putF f y fs)))
section
variable{X:Cx}{o e value:Expr}{f:Str}{pos pos' tpos:Pos}{ta tv:TE}
theorem QL(o:PE X e ta)(m:attributeBase e f X.env (eval e X.env)=eval e X.env):PE X (.Attribute e f pos) (tFld X.K ta f):=by
 intro b s t H Q I h;refine j2d m (thn (o b s t H _ I h) fun u z ⟨x,d,g,r,a,C,w,y,v,k,j,c,n,l,q⟩=>?_);subst k;obtain rfl:u=Value.ref a:=r;exact xi g j c n l fun B A i p=>⟨v,d,i,p,q⟩
theorem wz(p:PE X o ta)(t:PE X value tv)(r:swapsWith value (some (.Attribute o f pos')) pos.line X.env=pure false):PS X (.Assign [.Attribute o f pos'] value pos) (sFld X.K ta tv f):=by
 intro b s d H D I h;refine plainObj_wpAny_Assign_Attribute (thn (t b s d H _ I h) fun u A ⟨y,e,g,z,q⟩=>thn (p b A d e _ g q) fun ov G ⟨x,B,i,w,a,C,E,F,m,k,c,n,l,v⟩=>?_) r;subst m;obtain rfl:ov=Value.ref a:=w;exact xT i k c n l z fun J j=>⟨d,_,j,v⟩
end
section
variable{X:Cx}{pins:List (Addr×Obj)}{σ:St}{H:Hp}{s:Shared}{A:Around}{E:Value->Shared->Prop}{Q:Value->Shared->Prop}{c:Value}{b:Bool}
inductive TyOf(K:Frg)(H:Hp):V->Value->Prop where
 | non:TyOf K H .non (.type "NoneType")
 | bl (x:Bool):TyOf K H (.bl x) (.type "bool")
 | int (i:Int):TyOf K H (.int i) (.type "int")
 | str (x:Str):TyOf K H (.str x) (.type "str")
 | flt (x:UInt64):TyOf K H (.flt x) (.type "float")
 | lst {a:Addr} {xs:List V} (e:H a=some (.lst xs)):TyOf K H (.ref a) (.type "list")
 | frz {a:Addr} {o:Obj} {xs:List V} (e:H a=some (.frz o (.lst xs))):TyOf K H (.ref a) (.type "list")
 | tup {a:Addr} {xs:List V} (e:H a=some (.tup xs)):TyOf K H (.ref a) (.type "tuple")
 | dK {a:Addr} {kvs:List (Key×V)} (e:H a=some (.dK kvs)):TyOf K H (.ref a) (.type "dict")
 | dT {a:Addr} {kvs:List (List Key×V)} (e:H a=some (.dT kvs)):TyOf K H (.ref a) (.type "dict")
 | ins {a C dx:Addr} {fs:List (Str×V)} (e:H a=some (.ins C dx fs)) (cl:Cls K C) (ha:PySem.W.findIn K (.ref C) "__class__"= some (some (.builtin "object.__class__")))
   (hn:PySem.W.specialIn K (.builtin "object.__class__") "__get__"= some (some (.builtin "getset_descriptor.__get__"))) (htk:PySem.W.takesIn K (.builtin "object.__class__")=some true)
   (hm:PySem.W.mroIn K C (.type "object")=some true):TyOf K H (.ref a) (.ref C)
theorem X7{x:V}{u t:Value}(I:Inv X pins σ H s)(d:RelV x u)(m:TyOf X.K H x t)(e:PySem.W.kitOne X.K t c=some b)(h:∀tk,Q (.bool b) {s with toks:=tk}) :
  wpAny (model X.prog X.w) A (call (.builtin "isinstance") [u,c]) Q E s:=by
 cases m with
 | non=>cases(show u=Value.none from d);exact PySem.W.kia_one PySem.W.kitx_none I.kIn True.intro e (fun z=>nomatch z) h
 | bl y=>cases(show u=Value.bool y from d);exact PySem.W.kia_one PySem.W.kitx_bool I.kIn True.intro e (fun z=>nomatch z) h
 | int i=>obtain⟨t,q⟩:=(show∃t,u=Value.int i t from d);cases q;exact PySem.W.kia_one PySem.W.kitx_int I.kIn True.intro e (fun z=>nomatch z) h
 | str y=>obtain⟨t,q⟩:=(show∃t,u=Value.str y t from d);cases q;exact PySem.W.kia_one PySem.W.kitx_str I.kIn True.intro e (fun z=>nomatch z) h
 | flt y=>obtain⟨t,q⟩:=(show∃t,u=Value.float y t from d);cases q;exact PySem.W.kia_one PySem.W.kitx_float I.kIn True.intro e (fun z=>nomatch z) h
 | @lst a g ea=>
  cases(show u=Value.ref a from d);obtain⟨_,_,n,_,f⟩:=(show ObjOk X.prog X.w H s.heap a (.lst g)from I.hok a _ ea)
  exact PySem.W.kia_one PySem.W.kitx_list I.kIn ⟨_,f,rfl⟩ e (fun z=>nomatch z) h
 | @frz a ob g ea=>
  cases(show u=Value.ref a from d);obtain⟨_,_,_,n,_,f⟩:=(show ObjOk X.prog X.w H s.heap a (.frz ob (.lst g))from I.hok a _ ea)
  exact PySem.W.kia_one PySem.W.kitx_list I.kIn ⟨_,f,rfl⟩ e (fun z=>nomatch z) h
 | @tup a g ea=>
  cases(show u=Value.ref a from d);obtain⟨_,_,_,p⟩:=(show ObjOk X.prog X.w H s.heap a (.tup g)from I.hok a _ ea)
  obtain⟨o,f,j,_⟩:=p;exact PySem.W.kia_one PySem.W.kitx_tuple I.kIn ⟨o,f,j⟩ e (fun z=>nomatch z) h
 | @dK a kvs ea=>
  cases(show u=Value.ref a from d);obtain⟨_,_,w,_,p⟩:=(show ObjOk X.prog X.w H s.heap a (.dK kvs)from I.hok a _ ea)
  obtain⟨o,l,k,f,j,_⟩:=p;exact PySem.W.kia_one PySem.W.kitx_dict I.kIn ⟨o,f,j.1⟩ e (fun z=>nomatch z) h
 | @dT a kvs ea=>
  cases(show u=Value.ref a from d);obtain⟨_,_,g,_,o,l,k,f,j,_⟩:=(show ObjOk X.prog X.w H s.heap a (.dT kvs)from I.hok a _ ea)
  exact PySem.W.kia_one PySem.W.kitx_dict I.kIn ⟨o,f,j.1⟩ e (fun z=>nomatch z) h
 | @ins a C dx fs ea cl ha hn htk hm=>
  cases(show u=Value.ref a from d);obtain⟨r,O,_⟩:=Yr I.hok ea;obtain⟨v,J,_⟩:=O.look;exact PySem.W.kia_one (PySem.W.kitx_own (cl.get _) cl.hd ha hn htk hm) I.kIn J e (fun z=>nomatch z) h
end
structure Room(k:Nat)(A:Around):Prop where
 hd:A.handled=none
 dp:A.depth+3*k+5<recursionLimit
 un:A.units+16*k+200<cLine
theorem Room.mono{j k:Nat}{A:Around}(r:Room k A)(h:j<=k):Room j A:=⟨r.hd,by have:=r.dp;lia,by have:=r.un;lia⟩
theorem Room.deeper{k:Nat}{A:Around}(r:Room (k+1) A)(env:Env):Room k (A.deeper env):=
 ⟨r.hd,by have:=r.dp;show A.depth+1+3*k+5<_;lia,by have:=r.un;show A.units+3+16*k+200<_;lia⟩
theorem xz{A:Around}{C:Addr}{us:List Value}{a:List (Str×Value)}:(A.under (.builtin "type.__call__" ⟨.ref C::us,a⟩)).depth=A.depth+1:=by
 first | rfl | simp[Around.under,Code.weight,Code.isCreation,Code.isGuard,Code.isCaller,Code.frames,Code.isFrame,guardIds]
theorem xA{A:Around}{C:Addr}{us:List Value}{a:List (Str×Value)}:(A.under (.builtin "type.__call__" ⟨.ref C::us,a⟩)).units=A.units+1:=by
 first | rfl | simp[Around.under,Code.cUnits,Code.frames,Code.isFrame]
theorem Room.make{k:Nat}{A:Around}(r:Room (k+1) A)(C:Addr)(us:List Value)(a:List (Str×Value)):Room k (A.under (.builtin "type.__call__" ⟨.ref C::us,a⟩)):=
 ⟨r.hd,by have:=r.dp;rw[xz];lia,by have:=r.un;rw[xA];lia⟩
theorem Room.depth{k:Nat}{A:Around}(r:Room k A):A.depth<recursionLimit:=by have:=r.dp;lia
theorem Room.units{k:Nat}{A:Around}(r:Room k A):A.units+64<cLine:=by have:=r.un;lia
def tNil:TA:=fun _ H Q=>Q [] H
def tCons(ta:TE)(tr:TA):TA:=fun σ H Q=>ta σ H fun x H1=>tr σ H1 fun xs H2=>Q (x::xs) H2
section
variable{X:Cx}{e:Expr}{es:List Expr}{te:TE}{t:TA}{pos:Pos}
theorem jc:PA X [] tNil:=fun _ _ _ _ H Q I h=>Calls.spliced_nil ⟨[],H,I,.nil,h⟩
theorem ja(j:PE X e te)(k:PA X es t)(l:starEach (e::es) X.env=(false,eval e X.env)::starEach es X.env:=by rfl):PA X (e::es) (tCons te t):=by
 intro b a s c H Q I h;rw[l];show wpAny _ _ (spliced ((false,eval e X.env)::backTo b (starEach es X.env))) _ _ s;refine Calls.spliced_cons (thn (j a s c H _ I h) fun u q ⟨x,d,g,o,m⟩=>?_);exact thn (k b a q c d _ g m) fun w v ⟨r,f,i,p,n⟩=>⟨x::r,f,i,.cons o p,n⟩
def tTup(t:TA):TE:=fun σ H Q=>t σ H fun xs H1=>xs.length<=sizeLine/\∀p,H1 p=none->Q (.ref p) (upd H1 p (.tup xs))
def tLst(t:TA):TE:=fun σ H Q=>t σ H fun xs H1=>xs.length<=sizeLine/\∀p,H1 p=none->Q (.ref p) (upd H1 p (.lst xs))
theorem jK{x1}(h:PA X es t):PE X (.Tuple es x1 pos) (tTup t):=by
 intro a s l H Q I i;refine wpAny_Tuple_spliced (thn (h pos a s l H _ I i) fun j c ⟨k,d,f,r,z,q⟩=>⟨by rw[<-r.length];exact z,?_⟩);have g:d c.heap.objs.size=none:=f.hok.fresh (vc _);refine⟨.ref c.heap.objs.size,upd d c.heap.objs.size (.tup k),f.laid (t':=c.toks) (fun b u e=>vI _ e) (vc _) ?_,rfl,q _ g⟩;exact⟨z,j,r,⟨_,Heap.get?_push_size _ rfl,rfl,_,rfl⟩⟩
theorem jE(h:PA X es t):PE X (.List es pos) (tLst t):=by
 intro a s l H Q I i;refine wpAny_List_spliced (thn (h pos a s l H _ I i) fun j c ⟨k,d,f,r,z,q⟩=>⟨by rw[<-r.length];exact z,?_⟩);have g:d c.heap.objs.size=none:=f.hok.fresh (vc _);refine⟨.ref c.heap.objs.size,upd d c.heap.objs.size (.lst k),f.laid (t':=c.toks) (fun b u e=>vI _ e) (vc _) ?_,rfl,q _ g⟩;exact⟨z,j,0,r,Heap.get?_push_size _ rfl⟩
end
noncomputable abbrev Sp:=List V->Hp->VK->XK->Prop
noncomputable abbrev CXT:=List Env->Hp->Shared->XK->Value->Shared->Prop
structure Env0(P:Program)(w:World)(K:Frg)(mg:Str->Option Value)(base:Heap)(A:Around)(outer:List Env)(s:Shared)(H:Hp):Prop where
 frames:A.frames=some outer
 mod:Mod K mg base
 bs:∀b o,base.get? b=some o->s.heap.get? b=some o/\H b=none
 bsz:base.objs.size<=s.heap.objs.size
 funs:s.heap.FunFrames base outer
 frf:∀b∈frs outer,H b=none
 hok:HOk P w H s.heap
 bare:AllBare s.gens
def CE(outer:List Env)(P:Program)(w:World)(H:Hp)(s:Shared)(Q:VK)(u:Value)(s':Shared):Prop:=
 ∃v H',s'.os=s.os/\AllBare s'.gens/\Un (frs outer) [] H H' s.heap s'.heap/\HOk P w H' s'.heap/\RelV v u/\Q v H'
def CR(CX:CXT)(outer:List Env)(P:Program)(w:World)(H:Hp)(s:Shared)(Q:VK)(E:XK)(r:Result)(s':Shared):Prop:=
 match r with
 | .ok (.ret u)=>CE outer P w H s Q u s'
 | .ok _=>False
 | .error e=>CX outer H s E e s'
structure FnOk(P:Program)(w:World)(K:Frg)(mg:Str->Option Value)(base:Heap)(CX:CXT)(k:Nat)(f:Addr)(fd:FuncData)(ps:List Str)(sp:Sp):Prop where
 len:∀vs H Q E,sp vs H Q E->vs.length=ps.length
 run:∀(A:Around) (outer:List Env) (s:Shared) (H:Hp) (args:Args) (us:List Value) (vs:List V) (Q:VK) (E:XK),Room k A->Env0 P w K mg base A outer s H->BindsTo s fd args (ps.zip us)->Vals vs us->sp vs H Q E->
  codeAny (model P w) A (.call (.ref f) args) (CR CX outer P w H s Q E) s
theorem FnOk.mono{P:Program}{w:World}{K:Frg}{e:Str->Option Value}{a:Heap}{CX:CXT}{j k:Nat}{f:Addr}{d:FuncData}{ps:List Str}{sp:Sp}(F:FnOk P w K e a CX j f d ps sp)(h:j<=k) :
  FnOk P w K e a CX k f d ps sp:=⟨F.len,fun A b s H c i l Q E g=>F.run A b s H c i l Q E (g.mono h)⟩
theorem Env0.make{P:Program}{w:World}{K:Frg}{c:Str->Option Value}{b:Heap}{A:Around}{a:List Env}{s:Shared}{H:Hp}(e:Env0 P w K c b A a s H)(C:Addr)(us:List Value)(d:List (Str×Value)) :
  Env0 P w K c b (A.under (.builtin "type.__call__" ⟨.ref C::us,d⟩)) a s H:=⟨by first | exact e.frames | (simpa [Around.under,Code.envs,Code.isFrame,pushEnvs]using e.frames),e.mod,e.bs,e.bsz,e.funs,e.frf,e.hok,e.bare⟩
section
variable{X:Cx}{pins:List (Addr×Obj)}{σ:St}{H:Hp}{s s':Shared}
theorem Inv.env0(I:Inv X pins σ H s):Env0 X.prog X.w X.K X.mg X.base X.A X.stack s H:=
 ⟨I.ok.frames,I.ok.mod,I.bs,vU I.ok.bsz I.sz,I.stack,I.stkFree,I.hok,I.bare⟩
theorem Inv.after{Q:VK}{u:Value}(I:Inv X pins σ H s)(h:CE X.stack X.prog X.w H s Q u s'):EP X pins σ Q u s':=by
 obtain⟨v,f,j,a,k,c,r,q⟩:=h;obtain⟨i,g,d,t,e⟩:=s';obtain rfl:e=s.os:=j;exact⟨v,f,I.call (h':=i) (g':=g) (d':=d) (t':=t) (ch:=[]) k c a (fun b z=>ug z (by simp)),r,q⟩
end
def tCall(sp:Sp)(dvs:List V)(E:XK)(t:TA):TE:=fun σ H Q=>t σ H fun vs H1=>sp (vs++dvs) H1 Q E
def tMeth(C:Addr)(m:Str)(sp:Sp)(dvs:List V)(E:XK)(ta:TE)(t:TA):TE:=fun σ H Q=>ta σ H fun x H1=>∃a dx fs,x = .ref a/\H1 a=some (.ins C dx fs)/\fs.lookup m=none/\
 t σ H1 fun vs H2=>sp (x::(vs++dvs)) H2 Q E
def tMake(C:Addr)(sp:Sp)(dvs:List V)(E:XK)(t:TA):TE:=fun σ H Q=>t σ H fun vs H1=>∀x dx,H1 x=none->H1 dx=none->dx≠x->
 sp (.ref x::(vs++dvs)) (upd (upd H1 dx (.own x)) x (.ins C dx [])) (fun v H2=>v = .non/\Q (.ref x) H2) E
def Binds(K:Frg)(fd:FuncData)(ps:List Str)(ds:List Value):Prop:=
 ∀(s:Shared) (us:List Value),K.In s.heap->(us++ds).length=ps.length->BindsTo s fd ⟨us,[]⟩ (ps.zip (us++ds))
theorem Binds.all{K:Frg}{a:FuncData}{ps:List Str}(h:∀us:List Value,us.length=ps.length->bindArgs a ⟨us,[]⟩=pure (ps.zip us)):Binds K a ps []:=fun s us _ b=>by
 rw[append_nil]at b|-;exact .of_eq (h us b)
def Passes(CX:CXT)(X:Cx)(E:XK):Prop:=∀(pins:List (Addr×Obj)) (σ:St) (H:Hp) (s:Shared) (e:Value) (s':Shared),Inv X pins σ H s->CX X.stack H s E e s'->X.xe e s'
section
variable{X:Cx}{CX:CXT}{k:Nat}{f C:Addr}{fd:FuncData}{ps:List Str}{sp:Sp}{dvs:List V}{ds:List Value}{E:XK}{x m:Str}{p pos apos:Pos}{e o:Expr}{es:List Expr}{ta:TE}{t:TA}
theorem j1J{a:List (Addr×Obj)}{c:St}{H:Hp}{s:Shared}{Q:VK}{us:List Value}{vs:List V}(F:FnOk X.prog X.w X.K X.mg X.base CX k f fd ps sp)(j:Room k X.A)(g:Binds X.K fd ps ds)(hd:Vals dvs ds)(l:Passes CX X E)
  (I:Inv X a c H s) (r:Vals vs us) (h:sp (vs++dvs) H Q E):wpAny (model X.prog X.w) X.A (call (.ref f) us) (EP X a c Q) X.xe s:=by
 have d:Vals (vs++dvs) (us++ds):=r.append hd;have i:(us++ds).length=ps.length:=by rw[<-d.length];exact F.len _ _ _ _ h
 refine wpAny_call (codeAny_mono (F.run X.A X.stack s H ⟨us,[]⟩ (us++ds) (vs++dvs) Q E j I.env0 (g s us I.kIn i) d h) fun r m b=>?_);cases r with
 | error e=>exact l a c H s e m I b
 | ok fl=>
  cases fl with
  | ret u=>exact I.after b
  | next=>exact False.elim b
  | brk=>exact False.elim b
  | cont=>exact False.elim b
theorem jr(F:FnOk X.prog X.w X.K X.mg X.base CX k f fd ps sp)(o:Room k X.A)(l:Gl X x)(n:X.mg x=some (.ref f))(m:PySem.W.keepIn X.K (.ref f)=true)(i:Binds X.K fd ps ds)(hd:Vals dvs ds)(u:Passes CX X E)
  (g:PA X (e::es) t) (b:(x==("__debug__" : Str))=false:=by decide) (j:starEach (e::es) X.env=(false,eval e X.env)::starEach es X.env:=by rfl) (c:(backTo pos (starEach es X.env)).any (·.1)=false:=by rfl) :
  PE X (.Call (.Name x p) (e::es) [] pos) (tCall sp dvs E t):=by
 intro a s v H Q I h;refine wpAny_Call_Name_kw (KS I l n ?_ b);refine PySem.W.callWith_K (h₀:=X.base) I.ok.mod.kin m (thn (g pos a s v H _ I h) fun z y ⟨A,w,d,r,q⟩=>⟨d.kIn,?_⟩) j c;exact j1J F o i hd u d r q
theorem j2R{pl:Sem Bool}(B:PE X o ta)(c:Cls X.K C)(n:Meth X.K C m f)(F:FnOk X.prog X.w X.K X.mg X.base CX k f fd ps sp)(D:Room k X.A)(A:Binds X.K fd ps ds)(hd:Vals dvs ds)(J:Passes CX X E)(z:PA X (e::es) t)
  (g:starEach (e::es) X.env=(false,eval e X.env)::starEach es X.env:=by rfl) (d:(backTo pos (starEach es X.env)).any (·.1)=false:=by rfl)
  (G:eval (.Call (.Attribute o m apos) (e::es) [] pos) X.env=(do
   let ov <-eval o X.env
   standAt apos.atName
   let (f,first) <-holding [ov] (getMethod ov m pl)
   callWith pos f first (backTo pos (starEach (e::es) X.env)) (backToKw pos (keywordEach [] X.env))):=by rfl) :
  PE X (.Call (.Attribute o m apos) (e::es) [] pos) (tMeth C m sp dvs E ta t):=by
 intro b s p H Q I h;refine PySem.W.methodCall_KW (pl:=pl) (thn (B b s p H _ I h) fun u M ⟨x,v,i,L,a,O,P,y,w,l,q⟩=>?_) G;subst y;obtain rfl:u=Value.ref a:=L;refine xj i w c n l ?_;refine PySem.W.callWith_K (first:=[.ref a]) (h₀:=X.base) I.ok.mod.kin n.kp (thn (z pos b M p v _ i q) fun us R ⟨vs,N,j,r,K⟩=>⟨j.kIn,?_⟩) g d;exact j1J (us:=.ref a::us) (vs:=.ref a::vs) F D A hd J j (.cons rfl r) K
structure Mk(K:Frg)(C f:Addr):Prop where
 makes:PySem.W.makesIn K C=true
 init:PySem.W.findIn K (.ref C) "__init__"= some (some (.ref f))
 fn:PySem.W.isFn K (.ref f)=true
 kp:PySem.W.keepIn K (.ref C)=true
theorem j1K{b:List (Addr×Obj)}{d:St}{H:Hp}{s:Shared}{Q:VK}{us:List Value}{vs:List V}(M:Mk X.K C f)(F:FnOk X.prog X.w X.K X.mg X.base CX k f fd ps sp)(p:Room (k+1) X.A)(n:Binds X.K fd ps ds)(hd:Vals dvs ds)
  (q:Passes CX X E) (I:Inv X b d H s) (r:Vals vs us)
  (h:∀x dx,H x=none->H dx=none->dx≠x->sp (.ref x::(vs++dvs)) (upd (upd H dx (.own x)) x (.ins C dx [])) (fun v H2=>v = .non/\Q (.ref x) H2) E) :
  wpAny (model X.prog X.w) X.A (call (.ref C) us) (EP X b d Q) X.xe s:=by
 have g:=h (s.heap.objs.size+1) s.heap.objs.size (I.hok.fresh (Nat.le_succ _)) (I.hok.fresh (vc _)) (vD (Nat.lt_succ_self _));have c:=Inv.made (C:=C) I;have i:Vals (V.ref (s.heap.objs.size+1)::(vs++dvs)) (Value.ref (s.heap.objs.size+1)::(us++ds)):=.cons rfl (r.append hd);have o:(Value.ref (s.heap.objs.size+1)::us++ds).length=ps.length:=by
  have e:=i.length;rw[F.len _ _ _ _ g]at e;exact e.symm
 refine wpAny_call (j1a (f:=f) I.kIn M.makes M.init (beq_iff_eq.mp M.fn) (codeAny_mono (F.run _ X.stack _ _ ⟨Value.ref (s.heap.objs.size+1)::us,[]⟩ (Value.ref (s.heap.objs.size+1)::(us++ds)) _ _ E (p.make C us [])
  (c.env0.make C us []) (n _ (Value.ref (s.heap.objs.size+1)::us) c.kIn o) i g) fun r y a=>?_))
 cases r with
 | error e=>exact q b d _ _ e y c a
 | ok fl=>
  cases fl with
  | ret u=>
   obtain⟨v,j,l,w,m,t⟩:=c.after a;subst m;exact⟨w,⟨V.ref (s.heap.objs.size+1),j,l,rfl,t⟩⟩
  | next=>exact False.elim a
  | brk=>exact False.elim a
  | cont=>exact False.elim a
theorem j2Q(M:Mk X.K C f)(F:FnOk X.prog X.w X.K X.mg X.base CX k f fd ps sp)(n:Room (k+1) X.A)(l:Gl X x)(m:X.mg x=some (.ref C))(i:Binds X.K fd ps ds)(hd:Vals dvs ds)(o:Passes CX X E)
  (g:PA X (e::es) t) (b:(x==("__debug__" : Str))=false:=by decide) (j:starEach (e::es) X.env=(false,eval e X.env)::starEach es X.env:=by rfl) (c:(backTo pos (starEach es X.env)).any (·.1)=false:=by rfl) :
  PE X (.Call (.Name x p) (e::es) [] pos) (tMake C sp dvs E t):=by
 intro a s u H Q I h;refine wpAny_Call_Name_kw (KS I l m ?_ b);refine PySem.W.callWith_K (h₀:=X.base) I.ok.mod.kin M.kp (thn (g pos a s u H _ I h) fun y w ⟨z,v,d,r,q⟩=>⟨d.kIn,?_⟩) j c;exact j1K M F n i hd o d r q
end
section
variable{X:Cx}{CX:CXT}{k:Nat}{f C:Addr}{fd:FuncData}{ps ks:List Str}{sp:Sp}{E:XK}{x m:Str}{p pos apos kpos:Pos}{e o:Expr}{es:List Expr}{kws:List Keyword}{te ta:TE}{t tk:TA}{nm:Option Str}
variable{g:List Value->List Value->List Value}{gV:List V->List V->List V}
end
structure FnScope(N P:List Str)(sc:Scope):Prop where
 kind:sc.kind = .function
 co:sc.isCoroutine=false
 gen:sc.isGenerator=false
 nd:N.Nodup
 pre:N.take P.length=P
 par:∀x∈P,sc.names.lookup x=some .local\/sc.names.lookup x=some .cell
 nofree:∀y∈sc.names,y.2≠.free
theorem kY{b:Str->Option NameKind}{x:Str}:∀{a:List (Str×Value)} {m:Str->Option Value},(∀v,(x,v)∉a)->bindL b a m x=m x
 | [],_,_=>rfl
 | (n,v)::r,m,h=>by
  unfold bindL;rw[kY fun w c=>h w (vp _ c)];split
  ·have:x≠n:=by rintro rfl;exact h v vq
   simp[this]
  ·rfl
theorem kU{b:Str->Option NameKind}{x:Str}:∀{a:List (Str×Value)} {m:Str->Option Value},(∀v,(x,v)∉a)->bindC b a m x=m x
 | [],_,_=>rfl
 | (n,v)::r,m,h=>by
  unfold bindC;rw[kU fun w c=>h w (vp _ c)];split
  ·rfl
  ·have:x≠n:=by rintro rfl;exact h v vq
   simp[this]
theorem kW{a:Str->Option NameKind}{x:Str}{v:Value}:∀{P:List Str} {vs:List Value} {i:Nat} {m:Str->Option Value},P.Nodup->P[i]?=some x->vs[i]?=some v->a x=some .local->
  bindL a (P.zip vs) m x=some v
 | [],_,_,_,_,h,_,_=>by simp at h
 | _::_,[],_,_,_,_,h,_=>by simp at h
 | p::P,w::vs,0,m,nd,h1,h2,hk=>by
  simp at h1 h2;subst h1;subst h2;show bindL a ((p,w)::P.zip vs) m p=_;unfold bindL;rw[kY fun v b=>(ut.mp nd).1 (of_mem_zip b).1,ve hk];simp
 | p::P,w::vs,i+1,m,nd,h1,h2,hk=>by
  show bindL a ((p,w)::P.zip vs) m x=_;unfold bindL;exact kW (i:=i) (ut.mp nd).2 (by simpa using h1) (by simpa using h2) hk
theorem kT{a:Str->Option NameKind}{x:Str}{v:Value}:∀{P:List Str} {vs:List Value} {i:Nat} {m:Str->Option Value},P.Nodup->P[i]?=some x->vs[i]?=some v->a x≠some .local->
  bindC a (P.zip vs) m x=some v
 | [],_,_,_,_,h,_,_=>by simp at h
 | _::_,[],_,_,_,_,h,_=>by simp at h
 | p::P,w::vs,0,m,nd,h1,h2,hk=>by
  simp at h1 h2;subst h1;subst h2;show bindC a ((p,w)::P.zip vs) m p=_;unfold bindC;rw[kU fun v b=>(ut.mp nd).1 (of_mem_zip b).1,vd hk];simp
 | p::P,w::vs,i+1,m,nd,h1,h2,hk=>by
  show bindC a ((p,w)::P.zip vs) m x=_;unfold bindC;exact kT (i:=i) (ut.mp nd).2 (by simpa using h1) (by simpa using h2) hk
noncomputable def start(N:List Str)(vs:List V):St:=vs.map some++List.replicate (N.length-vs.length) none
noncomputable def cxOf(CX:CXT)(P:Program)(w:World)(K:Frg)(mg:Str->Option Value)(base:Heap)(N:List Str)(qual:Str)(scope:Scope)(f:Addr)(cd:Value)(A:Around)(outer:List Env)(s:Shared)(H:Hp)(E:XK):Cx where
 prog:=P
 w:=w
 K:=K
 mg:=mg
 base:=base
 A:=A.deeper (envOfC qual scope s.heap.objs.size f cd)
 N:=N
 s₀:=s
 H₀:=H
 env:=envOfC qual scope s.heap.objs.size f cd
 outer:=outer
 stack:=envOfC qual scope s.heap.objs.size f cd::outer
 ex:=[]
 calm:=true
 fn:=fun _=>true
 pn:=[]
 xe:=fun e s'=>wpAny (model P w) (A.deeper (envOfC qual scope s.heap.objs.size f cd)) (leaving (envOfC qual scope s.heap.objs.size f cd) e) (fun _ s''=>CX outer H s E e s'') (fun e' s''=>CX outer H s E e' s'') s'
theorem wZ{a:Scope}{n:Nat}{x:Str}(h:a.names.lookup x=some .cell):∃c,(cellsFrom n a.names []).lookup x=some c:=by
 have q:=PySem.W.cellsFrom_some a.names n [] (.inl h);exact Option.isSome_iff_exists.mp q
theorem X6{CX:CXT}{P:Program}{w:World}{K:Frg}{J:Str->Option Value}{m:Heap}{N ps:List Str}{j:Str}{d:Scope}{f:Addr}{F:Value}{A:Around}{g:List Env}{s O:Shared}{H:Hp}{E:XK}{us:List Value}{vs:List V}
  (S:FnScope N ps d) (hd:A.handled=none) (o:Env0 P w K J m A g s H) (W:vs.length=ps.length) (r:Vals vs us)
  (x:InCallC s s.heap.objs.size (bindL (envOfC j d s.heap.objs.size f F).kindOf (ps.zip us) fun _=>none) (cellsFrom (s.heap.objs.size+1) d.names []) (bindC (envOfC j d s.heap.objs.size f F).kindOf (ps.zip us) fun _=>none) O) :
  Inv (cxOf CX P w K J m N j d f F A g s H E) [] (start N vs) H O:=by
 have R:ps.length<=N.length:=by have:=congrArg List.length S.pre;rw[vj]at this;lia
 obtain⟨G,X,rfl,L⟩:=x.done;have B:∀b:Addr,b∉(cxOf CX P w K J m N j d f F A g s H E).ex:=fun b z=>ug (show b∈([]:List Addr)from z) (by simp)
 refine⟨⟨o.mod,S.kind,rfl,rfl,vc _,fun y z c G l=>?_,fun y t=>?_,fun y c _ h=>?_,fun _=>hd,Around.frames_deeper o.frames,.inr ⟨rfl,rfl⟩,fun b z=>ug z (B b),o.bs,o.bsz,fun b _ _=>B b,fun b z=>ug z (B b),o.funs,o.frf⟩,
  rfl,o.bare,Un.kept L,⟨_,x.toInCall.ns,fun i y v G l U=>?_⟩,fun y c h=>⟨_,x.cell y c h⟩,o.hok.fresh (vc _),fun y c h=>?_,fun p C=>ug (show p∈([]:List (Addr×Obj))from C) (by simp),o.hok.kept L,?_⟩
 ·exact name_of_addr x.apart (PySem.mem_of_lookup G) (PySem.mem_of_lookup l)
 ·have t:d.names.lookup y=some .cell\/d.names.lookup y=some .free:=t;rcases t with t | t
  ·exact wZ t
  ·exact ug rfl (S.nofree _ (PySem.mem_of_lookup t))
 ·exact vW (x.above y c (PySem.mem_of_lookup h))
 ·have I:i<vs.length:=by
   unfold start at l;by_cases I:i<vs.length
   ·exact I
   ·rw[vB (by simpa using I)]at l;rw[List.getElem?_replicate]at l;split at l<;>cases l
  have Q:vs[i]?=some v:=by
   unfold start at l;rw[vA (by simpa using I),vv]at l;cases e:vs[i]? with
   | none=>rw[e]at l;cases l
   | some a=>rw[e]at l;cases l;rfl
  obtain⟨u,M,T⟩:=r.get Q;have C:ps[i]?=some y:=by
   rw[<-S.pre,uu (by lia)];exact G
  have D:ps.Nodup:=by rw[<-S.pre];exact S.nd.sublist (take_sublist _ _)
  refine⟨u,T,?_⟩;rcases S.par y (vm C)with k | k
  ·exact .inl ⟨k,kW D C M k⟩
  ·obtain⟨c,e⟩:=wZ (n:=s.heap.objs.size+1) k;refine .inr ⟨.inl k,c,e,?_⟩;have q:=x.cell y c e;rw[kT D C M (by show d.names.lookup y≠_;rw[k];decide)]at q;exact q
 ·exact o.hok.fresh (vW (x.above y c (PySem.mem_of_lookup h)))
 ·unfold start;show _=N.length;rw[vn,vt,length_replicate];lia
theorem j3U{CX:CXT}{P:Program}{w:World}{K:Frg}{G:Str->Option Value}{h:Heap}{k:Nat}{f:Addr}{name d:Str}{i:Arguments}{j:List Stmt}{a:Scope}{dV kV B pm g Z oc:Value}{X od:Option Addr}
  {R:Array (Option Value)} {N ps:List Str} {sp:Sp} (lk:K.lookup f=some ⟨oc,od,.func (PySem.W.fnOf name d i j a dV kV B pm X g Z),R⟩) (L:PySem.W.codeIn K g d=true) (S:FnScope N ps a)
  (len:∀vs H Q E,sp vs H Q E->vs.length=ps.length)
  (m:∀(A:Around) (c:List Env) (s:Shared) (H:Hp) (vs:List V) (Q:VK) (E:XK),Room k (A.deeper (envOfC d a s.heap.objs.size f g))->sp vs H Q E->
   ∃t,PSs (cxOf CX P w K G h N d a f g A c s H E) j t/\t {nx:=fun _ H'=>Q .non H',rt:=Q} (start N vs) H) :
  FnOk P w K G h CX (k+1) f (PySem.W.fnOf name d i j a dV kV B pm X g Z) ps sp:=by
 refine⟨len,fun A c s H Y us vs Q E M C hb r F=>?_⟩;have hl:=len _ _ _ _ F;have W:K.In s.heap:=C.mod.kin.keeps fun b o e=>(C.bs b o e).1
 have O:s.heap.NoLimit:=C.mod.nolimit.keeps fun b o e=>(C.bs b o e).1
 have p:∀y∈ps.zip us,a.names.lookup y.1=some .local\/(a.names.lookup y.1=some .cell/\((cellsFrom (s.heap.objs.size+1) a.names []).lookup y.1).isSome=true):=fun⟨n,v⟩ hy=>by
  rcases S.par n (of_mem_zip hy).1 with q | q
  ·exact .inl q
  ·exact .inr ⟨q,PySem.W.cellsFrom_some _ _ _ (.inl q)⟩
 refine codeAny_call_function M.depth (W _ _ lk) rfl S.co S.gen rfl (PySem.W.codeRec_of W L) (hb _ _ _ _ ?_);refine wpAny_newFunctionEnv_cells S.kind p fun a0 he s1 x=>?_
 subst he;refine⟨O.keeps x.toInCall.keep,codeAny_func ?_⟩;obtain⟨t,ht,hq⟩:=m A c s H vs Q E (M.deeper _) F;have I:Inv (cxOf CX P w K G h N d a f g A c s H E) [] (start N vs) H s1:=X6 S M.hd C hl r x;refine wpAny_mono (ht [] s1 (start N vs) H _ I hq) (fun fl U z=>?_) fun e U z=>z
 have D:∀{l:St} {H':Hp} {v:V} {u:Value},Inv (cxOf CX P w K G h N d a f g A c s H E) [] l H' U->RelV v u->Q v H'->CE c P w H s Q u U:=
  fun {l H' v u} J T q=>⟨v,H',J.os,J.bare,J.base,J.hok,T,q⟩
 cases fl with
 | ret u=>
  obtain⟨v,l,H',J,T,q⟩:=z;exact D J T q
 | next=>
  obtain⟨l,H',J,q⟩:=z;exact D (v:=V.non) (u:=Value.none) J rfl q
 | brk=>
  obtain⟨_,_,_,q⟩:=z;exact False.elim q
 | cont=>
  obtain⟨_,_,_,q⟩:=z;exact False.elim q
section
variable{X:Cx}{x:Str}{p pos:Pos}{e:Expr}{es:List Expr}{t:TA}{id T:String}{r:List V->Hp->VK->Prop}
def tCB(r:List V->Hp->VK->Prop)(t:TA):TE:=fun σ H Q=>t σ H fun vs H1=>r vs H1 Q
theorem jz(j:CallR X (.builtin id) r)(l:Gl X x)(m:X.mg x=none)(o:bootBuiltins x=some (.builtin id))(i:PA X (e::es) t)(n:x≠"__name__":=by decide)(b:(x==("__debug__" : Str))=false:=by decide)
  (k:starEach (e::es) X.env=(false,eval e X.env)::starEach es X.env:=by rfl) (c:(backTo pos (starEach es X.env)).any (·.1)=false:=by rfl):PE X (.Call (.Name x p) (e::es) [] pos) (tCB r t):=by
 intro a s d H Q I h;refine wpAny_Call_Name_kw (ZQ I l m o ?_ n b);exact PyProof.Rows.callWith_builtin1 (thn (i pos a s d H _ I h) fun w v ⟨y,f,g,u,q⟩=>j a v d f y w Q g u q) k c
theorem JT(j:CallR X (.type T) r)(l:Gl X x)(m:X.mg x=none)(o:bootBuiltins x=some (.type T))(i:PA X (e::es) t)(n:x≠"__name__":=by decide)(b:(x==("__debug__" : Str))=false:=by decide)
  (k:starEach (e::es) X.env=(false,eval e X.env)::starEach es X.env:=by rfl) (c:(backTo pos (starEach es X.env)).any (·.1)=false:=by rfl):PE X (.Call (.Name x p) (e::es) [] pos) (tCB r t):=by
 intro a s d H Q I h;refine wpAny_Call_Name_kw (ZQ I l m o ?_ n b);exact PyProof.Rows.callWith_type1 (thn (i pos a s d H _ I h) fun w v ⟨y,f,g,u,q⟩=>j a v d f y w Q g u q) k c
end
end L2
namespace HT
open PySem PyProof.Rows
section
open PySem.SeqAt
open PySem.AutoSeq1 (wpAny_loadPart')
open PySem.MeetsSeq PySem.MeetsSeq2 PySem.MeetsSeq3
end
section
variable{prog:Program}{w:World}{A:Around}{E:Value->Shared->Prop}{s:Shared}
noncomputable def sIx(n d:Nat):Option Int->Nat
 | none=>d
 | some v=>if v<0 then(v+(n:Int)).toNat else min v.toNat n
theorem j2V(n d k:Nat):sIx n d (some (k:Int))=min k n:=by
 show(if(k:Int)<0 then((k:Int)+(n:Int)).toNat else min (k:Int).toNat n)=min k n;rw[vd (by lia),Int.toNat_natCast]
theorem j3L(n d:Nat)(hd:d<=n)(o:Option Int):sIx n d o<=n:=by
 cases o with
 | none=>exact hd
 | some v=>
  show(if v<0 then(v+(n:Int)).toNat else min v.toNat n)<=n;by_cases a:v<0
  ·rw[ve a];lia
  ·rw[vd a];exact Nat.min_le_right _ _
theorem Xc(v:Int)(n d:Nat):(if v<0 then max (v+(n:Int)) 0 else min v (n:Int))=((sIx n d (some v):Nat):Int):=by
 show(if v<0 then max (v+(n:Int)) 0 else min v (n:Int))=(((if v<0 then(v+(n:Int)).toNat else min v.toNat n):Nat):Int)
 by_cases a:v<0
 ·simp only[if_pos a];lia
 ·simp only[if_neg a];lia
theorem W2(lo hi:Option Int)(n:Nat):Builtin.Slice.sliceAdjust lo hi 1 (n:Int)=(((sIx n 0 lo:Nat):Int),((sIx n n hi:Nat):Int)):=by
 have a:¬((1:Int)<0):=by lia
 unfold Builtin.Slice.sliceAdjust;simp only[a,if_false];refine Prod.ext ?_ ?_
 ·cases lo with
  | none=>rfl
  | some v=>exact Xc v n 0
 ·cases hi with
  | none=>rfl
  | some v=>exact Xc v n n
theorem xJ(i j:Nat):Builtin.Slice.slicePlaces (i:Int) (j:Int) 1=j-i:=by
 unfold Builtin.Slice.slicePlaces;have a:(1:Int)>0:=by lia
 simp only[a,if_true,Int.ediv_one];split<;>lia
theorem slicePart_{v:Value}{o:Option Int}{Q:Option Int->Shared->Prop}(p:IsPart v o)(h:Q o s):wpAny (model prog w) A (Builtin.Slice.slicePartIndex v) Q E s:=by
 cases p with
 | none=>exact slicePart_none h
 | int i t=>exact slicePart_int h
theorem zz{e:Addr}{c d:Value}{lo hi:Option Int}{n:Nat}{Q:Int×Int×Nat->Shared->Prop}(g:s.heap.IsSliceOf e c d .none)(pl:IsPart c lo)(i:IsPart d hi)
  (h:Q (((sIx n 0 lo:Nat):Int),1,sIx n n hi-sIx n 0 lo) s):wpAny (model prog w) A (Builtin.Slice.sliceApplied (.ref e) (pure (n:Int))) Q E s:=by
 obtain⟨j,b,f,a⟩:=id g;unfold Builtin.Slice.sliceApplied Builtin.Slice.sliceFields;refine uk (uk (wpAny_field b a (x:=c) rfl (uk (wpAny_field b a (x:=d) rfl (uk (wpAny_field b a (x:=.none) rfl (uh ?_)))))));refine uk (slicePart_none ?_);show wpAny _ _ (if((1:Int)==0)=true then _ else _) _ _ s;rw[vd (by decide)];refine uk (slicePart_ pl (uk (slicePart_ i (uk (uh ?_)))));show wpAny _ _ (match Builtin.Slice.sliceAdjust lo hi 1 (n:Int)with | (lo,hi)=>pure (lo,(1:Int),Builtin.Slice.slicePlaces lo hi 1)) _ _ s;rw[W2 lo hi n];show wpAny _ _ (pure (((sIx n 0 lo:Nat):Int),(1:Int),Builtin.Slice.slicePlaces ((sIx n 0 lo:Nat):Int) ((sIx n n hi:Nat):Int) 1)) _ _ s;rw[xJ];exact uh h
theorem j1w(xs:Array Value)(i k:Nat):((List.range k).filterMap fun(m:Nat)=>xs[((i:Int)+(m:Int)*1).toNat]?).toArray=((xs.toList.drop i).take k).toArray:=by
 have e:(fun(m:Nat)=>xs[((i:Int)+(m:Int)*1).toNat]?)=fun m=>xs[i+m]?:=by
  funext m;have:((i:Int)+(m:Int)*1).toNat=i+m:=by lia
  rw[this]
 rw[e];have:=pick_run xs i k;rw[List.filterMap_map]at this;have a:((fun x=>xs[x]?)∘fun x=>i+x)=fun m=>xs[i+m]?:=rfl
 rw[a]at this;rw[this]
theorem yk{t g:Addr}{items:Array Value}{j k:Value}{lo hi:Option Int}{Q:Value->Shared->Prop}(b:IsTup s.heap t items)(i:s.heap.IsSliceOf g j k .none)(pl:IsPart j lo)(o:IsPart k hi)
  (hw:¬(sIx items.size 0 lo=0/\sIx items.size items.size hi=items.size))
  (h:Q (.ref s.heap.objs.size) {s with heap:=s.heap.push {cls:=.type "tuple",data:=.seq ((items.toList.drop (sIx items.size 0 lo)).take (sIx items.size items.size hi-sIx items.size 0 lo)).toArray}})
  (hsz:items.size<=sizeLine):wpAny (model prog w) A (getItem (.ref t) (.ref g)) Q E s:=by
 have a:sizeOk (.seq ((items.toList.drop (sIx items.size 0 lo)).take (sIx items.size items.size hi-sIx items.size 0 lo)).toArray):=by
  show((items.toList.drop (sIx items.size 0 lo)).take (sIx items.size items.size hi-sIx items.size 0 lo)).toArray.size<=sizeLine;rw[size_toArray,vj,List.length_drop,Array.length_toList];lia
 have p:sIx items.size items.size hi<=items.size:=j3L _ _ (vc _) hi;obtain⟨n,f,d,l⟩:=id i;have c:s.TypeIs (.ref g) "slice":=⟨n,f,d⟩
 unfold getItem
 try with_reducible refine wpAny_holding ?_
 first | refine uk (uh ?_) | skip
 refine uk (wpAny_sequenceKey b.typeIs (by decide) ?_);refine uk (wpAny_callSpecial?_slot (name:=Str.ofString "__getitem__") b.typeIs PyProof.Rows.slot_tuple_getitem
  (wpAny_call_entry PyProof.Rows.slot_tuple_getitem b.typeIs entry_tuple_getitem ?_ (args_tuple_getitem _ _)))
 show wpAny _ _ (Builtin.Tuple.tupleItemsOf (.ref t) >>= _) _ _ s;refine uk (tupleItemsOf_ b ?_);refine uk (wpAny_typeOf c ?_);rw[ve (by decide)];refine uk (zz i pl o ?_);have e:¬((((sIx items.size 0 lo:Nat):Int)==0&&(1:Int)==1&&(sIx items.size items.size hi-sIx items.size 0 lo)==items.size)=true):=by
  intro q;rw[Bool.and_eq_true,Bool.and_eq_true]at q;have r:((sIx items.size 0 lo:Nat):Int)=0:=eq_of_beq q.1.1;have u:sIx items.size items.size hi-sIx items.size 0 lo=items.size:=eq_of_beq q.2;exact hw ⟨by lia,by lia⟩
 show wpAny _ _ (if(((sIx items.size 0 lo:Nat):Int)==0&&(1:Int)==1&&(sIx items.size items.size hi-sIx items.size 0 lo)==items.size)=true then _ else _) _ _ s;rw[vd e,j1w]
 first
  | exact uk (m:=Builtin.Tuple.tupleExact _) (wpAny_newObj_type (uh ⟨_,rfl,uh h⟩) a)
  | exact uk (m:=Builtin.Tuple.tupleExact _) (wpAny_newObj_type (uk (uh (uh ⟨_,rfl,uh h⟩))) a)
  | exact uk (uk (m:=Builtin.Tuple.tupleExact _) (wpAny_newObj_type (uh (uh ⟨_,rfl,uh h⟩)) a))
  | exact uk (uk (m:=Builtin.Tuple.tupleExact _) (wpAny_newObj_type (uh ⟨_,rfl,uh h⟩) a))
end
end HT
namespace L2
open PySem PySem.Spec PyProof.Rows
noncomputable abbrev TO:=St->Hp->(Option Int->Hp->Prop)->Prop
def PO(X:Cx)(e:Option Expr)(t:TO):Prop:=
 ∀(pins:List (Addr×Obj)) (s:Shared) (σ:St) (H:Hp) (Q:Option Int->Hp->Prop),Inv X pins σ H s->t σ H Q->
  wpAny (model X.prog X.w) X.A (evalPart e X.env) (fun u s'=>∃o H',Inv X pins σ H' s'/\IsPart u o/\Q o H') X.xe s
def tNoPart:TO:=fun _ H Q=>Q none H
def tPart(t:TE):TO:=fun σ H Q=>t σ H fun x H1=>∃i,x = .int i/\Q (some i) H1
theorem intsAre_of{ns:List Int}:∀{us:List Value},Vals (ns.map V.int) us->IntsAre us ns:=by
 induction ns with
 | nil=>intro us r;rw[map_nil]at r;cases r;exact .nil
 | cons n ns ih=>
  intro us r;rw[v6]at r;cases r with
  | cons r1 r2=>
   obtain⟨t,e⟩:=r1;subst e;exact .cons n t (ih r2)
section
variable{X:Cx}{e:Expr}{te:TE}{lo hi:Option Expr}{tl th:TO}{pos p2:Pos}
theorem zf:PO X none tNoPart:=by
 intro a s b H Q I h;rw[evalPart_none];exact uh ⟨none,H,I,.none,h⟩
theorem zg(h:PE X e te):PO X (some e) (tPart te):=by
 intro a s j H Q I d;rw[evalPart_some];refine thn (h a s j H _ I d) fun u k ⟨x,b,c,g,f⟩=>?_
 obtain⟨i,rfl,q⟩:=f;obtain⟨t,rfl⟩:=g;exact⟨some i,b,c,.int i t,q⟩
def SlR(X:Cx)(r:V->Option Int->Option Int->Hp->VK->Prop):Prop:=
 ∀(pins:List (Addr×Obj)) (s:Shared) (σ:St) (H:Hp) (x:V) (v vl vu:Value) (lo hi:Option Int) (sl:Addr) (Q:VK),Inv X pins σ H s->RelV x v->s.heap.IsSliceOf sl vl vu .none->IsPart vl lo->IsPart vu hi->r x lo hi H Q->
  ∃T id,typeLookup (.type T) "__getitem__"= pure (some (.builtin id))/\s.TypeIs v T/\wpAny (model X.prog X.w) X.A (getItem v (.ref sl)) (EP X pins σ Q) X.xe s
theorem SlR.or{r e:V->Option Int->Option Int->Hp->VK->Prop}(h:SlR X r)(h':SlR X e):SlR X (fun x lo hi H Q=>r x lo hi H Q\/e x lo hi H Q):=by
 intro a s k H x v i j lo hi g Q I f b c d q;rcases q with q | q
 ·exact h a s k H x v i j lo hi g Q I f b c d q
 ·exact h' a s k H x v i j lo hi g Q I f b c d q
def tSl(r:V->Option Int->Option Int->Hp->VK->Prop)(te:TE)(tl th:TO):TE:=fun σ H Q=>te σ H fun x H1=>tl σ H1 fun l H2=>th σ H2 fun u H3=>r x l u H3 Q
theorem QH{r:V->Option Int->Option Int->Hp->VK->Prop}(A:SlR X r)(w:PE X e te)(z:PO X lo tl)(C:PO X hi th):PE X (.Subscript e (.Slice lo hi none p2) pos) (tSl r te tl th):=by
 intro a s d H Q I h;refine Subscript_ (thn (w a s d H _ I h) fun v L ⟨x,j,m,K,F⟩=>?_);refine wpAny_Slice (thn (z a L d j _ m F) fun f M ⟨l,k,n,D,G⟩=>thn (C a M d k _ n G) fun g c ⟨u,i,o,E,J⟩=>?_);rw[evalPart_none];refine uh ?_;have p:Inv X a d i {c with heap:=c.heap.push {cls:=.type "slice",data:=.fields #[f,g,.none]}}:=o.kept (t':=c.toks) fun b O q=>vI _ q
 obtain⟨T,N,t,B,y⟩:=A a {c with heap:=c.heap.push {cls:=.type "slice",data:=.fields #[f,g,.none]}} d i x v f g l u c.heap.objs.size Q p K (Heap.IsSliceOf.new ..) D E J;show wpAny (model X.prog X.w) X.A (subscriptTail e (.Slice lo hi none p2) v (.ref c.heap.objs.size)) (EP X a d Q) X.xe {c with heap:=c.heap.push {cls:=.type "slice",data:=.fields #[f,g,.none]}};exact tail_any (ops:=[.ref c.heap.objs.size,v]) B t y (by with_unfolding_all rfl)
noncomputable def cutV(xs:List V)(lo hi:Option Int):List V:=(xs.drop (HT.sIx xs.length 0 lo)).take (HT.sIx xs.length xs.length hi-HT.sIx xs.length 0 lo)
theorem zb(xs:List V)(lo hi:Option Int):(cutV xs lo hi).length<=xs.length:=by
 unfold cutV;rw[vj,List.length_drop];lia
noncomputable def rSlT(K:Frg):V->Option Int->Option Int->Hp->VK->Prop:=fun x lo hi H Q=>∃a xs,x = .ref a/\SqT K H a xs/\
 ¬(HT.sIx xs.length 0 lo=0/\HT.sIx xs.length xs.length hi=xs.length)/\∀p,H p=none->Q (.ref p) (upd H p (.tup (cutV xs lo hi)))
theorem j1O:SlR X (rSlT X.K):=by
 intro k s B H x v z A e f y Q I u l p t h;obtain⟨a,d,rfl,n,m,q⟩:=h;cases u;obtain⟨g,r,i,j⟩:=I.tuple n;have c:g.toArray.size=d.length:=by rw[size_toArray];exact r.length.symm
 refine⟨"tuple",_,PyProof.Rows.slot_tuple_getitem.lookup,i.typeIs,?_⟩;refine HT.yk i l p t (by rw[c];exact m) ?_ (by rw[c];exact j);rw[c];refine⟨.ref s.heap.objs.size,_,I.laid (t':=s.toks) (o:=.tup (cutV d e f)) (fun b w q=>vI _ q) (vc _) ?_,rfl,q _ (I.hok.fresh (vc _))⟩;exact⟨vU (zb d e f) j,_,(r.drop (HT.sIx d.length 0 e)).take (HT.sIx d.length d.length f-HT.sIx d.length 0 e),IsTup.new _ _⟩
end
noncomputable def ixN(n:Nat)(i:Int):Option Nat:=if 0<=i then(if i<n then some i.toNat else none)else if -(n:Int)<=i then some (i+n).toNat else none
noncomputable def atI{α:Type}(xs:List α)(i:Int):Option α:=(ixN xs.length i).bind fun j=>xs[j]?
theorem Xn{n:Nat}{i:Int}{j:Nat}(h:ixN n i=some j):seqIndex? i n=some j/\j<n/\-(n:Int)<=i/\i<n:=by
 unfold ixN at h;by_cases b:0<=i
 ·rw[ve b]at h;by_cases a:i<n
  ·rw[ve a]at h;have e:i.toNat=j:=vK h;exact⟨by rw[seqIndex_of b a,e],by lia,by lia,a⟩
  ·rw[vd a]at h;cases h
 ·rw[vd b]at h;by_cases a : -(n:Int)<=i
  ·rw[ve a]at h;have e:(i+n).toNat=j:=vK h;exact⟨by rw[seqIndex_neg (by lia) a,e],by lia,a,by lia⟩
  ·rw[vd a]at h;cases h
theorem KE{a:Type}{xs:List a}{i:Int}{v:a}(h:atI xs i=some v):∃j,seqIndex? i xs.length=some j/\xs[j]?=some v/\j<xs.length/\-(xs.length:Int)<=i/\i<xs.length:=by
 unfold atI at h;cases e:ixN xs.length i with
 | none=>rw[e]at h;cases h
 | some j=>
  rw[e]at h;obtain⟨b,c,d,f⟩:=Xn e;exact⟨j,b,h,c,d,f⟩
theorem jW{a:Type}{xs:List a}{j:Nat}{v:a}(h:xs[j]?=some v):atI xs (j:Int)=some v:=by
 have b:j<xs.length:=(vx.mp h).1;have e:ixN xs.length (j:Int)=some j:=by
  unfold ixN;rw[ve (by lia),ve (by lia)];simp
 unfold atI;rw[e];exact h
theorem j0B{a:Type}(xs:List a)(v:a):atI (xs++[v]) (-1)=some v:=by
 have b:(xs++[v]).length=xs.length+1:=by simp
 have e:ixN (xs++[v]).length (-1)=some xs.length:=by
  unfold ixN;rw[b,vd (by decide),ve (by lia)];congr 1;lia
 unfold atI;rw[e];show(xs++[v])[xs.length]?=some v;simp
def PlainIx(b:Expr):Prop:=∀o i,subscripted b false o i=operate [o,i] (getItem o i)
def IxR(X:Cx)(r:R2):Prop:=
 ∀(value slice:Expr) (pins:List (Addr×Obj)) (s:Shared) (σ:St) (H:Hp) (x y:V) (v u:Value) (Q:VK),Inv X pins σ H s->RelV x v->RelV y u->r x y H Q->
  subscripted slice false v u=operate [v,u] (getItem v u)->wpAny (model X.prog X.w) X.A (subscriptTail value slice v u) (EP X pins σ Q) X.xe s
def MtR(X:Cx)(id:String)(r:V->List V->Hp->VK->Prop):Prop:=
 ∀(pins:List (Addr×Obj)) (s:Shared) (σ:St) (H:Hp) (x:V) (xs:List V) (v:Value) (us:List Value) (Q:VK),Inv X pins σ H s->RelV x v->Vals xs us->r x xs H Q->
  wpAny (model X.prog X.w) X.A (call (.builtin id) (v::us)) (EP X pins σ Q) X.xe s
section
variable{X:Cx}{a b:Expr}{ta tb:TE}{pos:Pos}
theorem ji{r:R2}(i:IxR X r)(f:PE X a ta)(g:PE X b tb)(j:PlainIx b:=by exact fun _ _=>rfl):PE X (.Subscript a b pos) (tOp r ta tb):=by
 intro c s n H Q I h;exact Subscript_ (binT f g I h fun v u m x y d e k l q=>i a b c m n d x y v u Q e k l q (j _ _))
def rIxL(K:Frg):R2:=fun x y H Q=>∃p xs i v,x = .ref p/\y = .int i/\SqL K H p xs/\atI xs i=some v/\Q v H
def rIxT(K:Frg):R2:=fun x y H Q=>∃p xs i v,x = .ref p/\y = .int i/\SqT K H p xs/\atI xs i=some v/\Q v H
def rIxS:R2:=fun x y H Q=>∃z i c,x = .str z/\y = .int i/\z.length<=sizeLine/\atI z.cps.toList i=some c/\Q (.str ⟨#[c]⟩) H
theorem jv:IxR X (rIxL X.K):=by
 intro l k a s A H x y v u Q I J K h o;obtain⟨p,P,i,z,rfl,rfl,G,E,q⟩:=h;cases J;obtain⟨t,rfl⟩:=K;obtain⟨e,r,f,O⟩:=I.list G;obtain⟨j,c,B,M,C,D⟩:=KE E;obtain⟨w,m,g⟩:=r.get B;have F:=r.length;have N:=line63;have b:EP X a A Q w s:=⟨z,H,I,g,q⟩
 by_cases n:0<=i
 ·have d:i.toNat=j:=by
   rw[seqIndex_of n D]at c;exact vK c
  exact item_listR f.isList n (by lia) (by rw[d];simpa using m) b o
 ·have d:(i+(e.toArray.size:Int)).toNat=j:=by
   rw[seqIndex_neg (by lia) C]at c;rw[size_toArray,<-F];exact vK c
  exact subscriptTail_builtinR (x:=w) f.isList.typeIs slot_list_getitem.lookup
   (wpAny_getItem_list_neg (Q:=fun r L=>r=w/\EP X a A Q r L) f.isList (by lia) (by rw[size_toArray]<;>lia) (by lia) (by rw[d];simpa using m) ⟨rfl,b⟩) o
theorem jt:IxR X (rIxT X.K):=by
 intro e d a s g H x y v u Q I D E h B;obtain⟨p,N,i,z,rfl,rfl,A,n,q⟩:=h;cases D;obtain⟨t,rfl⟩:=E;obtain⟨C,r,f,M⟩:=I.tuple A;obtain⟨j,l,m,G,J,K⟩:=KE n;obtain⟨w,k,c⟩:=r.get m;have o:=r.length;have L:=line63;have b:EP X a g Q w s:=⟨z,H,I,c,q⟩
 exact subscriptTail_builtinR (x:=w) f.typeIs slot_tuple_getitem.lookup
  (getItem_tuple (j:=j) (Q:=fun r F=>r=w/\EP X a g Q r F) f (by lia) (by lia) (by rw[size_toArray,<-o];exact l) (by simpa using k) ⟨rfl,b⟩) B
theorem j0X:IxR X rIxS:=by
 intro b a e s E H x y v u Q I r w h p;obtain⟨z,i,c,rfl,rfl,C,n,q⟩:=h;obtain⟨t,rfl⟩:=r;obtain⟨D,rfl⟩:=w;obtain⟨j,d,k,A,l,m⟩:=KE n;have o:z.cps.toList.length=z.length:=by simp[Str.length]
 rw[o]at d l m;have B:=line63;exact tail_any (typeIs_str s z t) slot_str_getitem.lookup (getItem_str (c:=c) (by
  have f:decide (i < -(2^63:Int))=false:=vG (by lia);have g:decide (i>=2^63)=false:=vG (by lia);rw[f,g,Bool.or_false]) (by rw[d];simpa using k) ⟨.str ⟨#[c]⟩,H,I.tok _,⟨_,rfl⟩,q⟩) p
theorem xB(a:List Value)(n j:Nat)(u:Value):Obj.mapSeq (·.setIfInBounds j u) {cls:=.type "list",data:=.seq a.toArray n}={cls:=.type "list",data:=.seq (a.set j u).toArray n}:=by
 simp[Obj.mapSeq]
theorem Inv.lst{b:List (Addr×Obj)}{c:St}{H:Hp}{s:Shared}{p:Addr}{xs:List V}(I:Inv X b c H s)(h:H p=some (.lst xs)) :
  ∃(a:List Value) (n:Nat),Vals xs a/\s.heap.get? p=some {cls:=.type "list",data:=.seq a.toArray n}/\xs.length<=sizeLine:=by
 obtain⟨z,a,n,r,e⟩:=I.hok p _ h;exact⟨a,n,r,e,z⟩
theorem Inv.lstUpd{a:List (Addr×Obj)}{i:St}{H:Hp}{s:Shared}{p:Addr}{xs ys:List V}{c its':List Value}{n d:Nat}{f:Obj->Obj}(I:Inv X a i H s)(h:H p=some (.lst xs))
  (k:s.heap.get? p=some {cls:=.type "list",data:=.seq c.toArray n}) (g:f {cls:=.type "list",data:=.seq c.toArray n}={cls:=.type "list",data:=.seq its'.toArray d}) (r:Vals ys its') (l:ys.length<=sizeLine) (t:Nat) :
  Inv X a i (upd H p (.lst ys)) {s with heap:=s.heap.update p f,toks:=t}:=by
 have e:(s.heap.update p f).get? p=some {cls:=.type "list",data:=.seq its'.toArray d}:=by
  rw[Heap.get?_update_self f k (by rw[g]<;>rfl),g]
 refine I.write (x:=p) (e:=p) (by rw[h];trivial) (.inl rfl) (fun b u j q=>(Heap.get?_update_other _ _ (Ne.symm j)).trans q) ⟨_,e⟩ ?_;exact⟨l,its',d,r,e⟩
noncomputable def rSetL:V->V->V->Hp->(Hp->Prop)->Prop:=fun o i v H Q=>∃p xs k j,o = .ref p/\i = .int k/\H p=some (.lst xs)/\ixN xs.length k=some j/\Q (upd H p (.lst (xs.set j v)))
theorem set_list:PSet X rSetL:=by
 intro b s E H o i v ov J u Q I B A C h;obtain⟨p,D,k,j,rfl,rfl,x,y,q⟩:=h;cases B;obtain⟨t,rfl⟩:=A;obtain⟨a,n,r,f,z⟩:=I.lst x;obtain⟨c,F,m,w⟩:=Xn y;have e:=r.length;have G:=line63;have g:Inv X b E (upd H p (.lst (D.set j v))) {s with heap:=s.heap.update p (Obj.mapSeq (·.setIfInBounds j u))}:=
  I.lstUpd x f (xB a n j u) (r.set C j) (by rw[length_set];exact z) s.toks
 by_cases l:0<=k
 ·have d:k.toNat=j:=by
   rw[seqIndex_of l w]at c;exact vK c
  exact PySem.W.ki_setAt f l (by lia) (by rw[size_toArray,<-e];exact w) (by rw[d];exact⟨_,g,q⟩)
 ·have d:(k+(a.toArray.size:Int)).toNat=j:=by
   rw[seqIndex_neg (by lia) m]at c;rw[size_toArray,<-e];exact vK c
  exact PySem.W.ki_setBack f (by lia) (by rw[size_toArray,<-e];exact m) (by lia) (by rw[d];exact⟨_,g,q⟩)
theorem wJ(lo hi:Option Int)(n:Nat):(sliceBounds lo hi none n).1=((HT.sIx n 0 lo:Nat):Int)/\(sliceBounds lo hi none n).2.1=((HT.sIx n n hi:Nat):Int)/\(sliceBounds lo hi none n).2.2=1:=by
 refine⟨?_,?_,rfl⟩
 ·cases lo with
  | none=>simp[sliceBounds,HT.sIx]
  | some i=>
   simp only[sliceBounds,HT.sIx,Option.getD_none,show(1:Int)>0 by decide,if_true];by_cases h:i<0
   ·simp only[h,if_true]<;>lia
   ·simp only[h,if_false]<;>lia
 ·cases hi with
  | none=>simp[sliceBounds,HT.sIx]
  | some i=>
   simp only[sliceBounds,HT.sIx,Option.getD_none,show(1:Int)>0 by decide,if_true];by_cases h:i<0
   ·simp only[h,if_true]<;>lia
   ·simp only[h,if_false]<;>lia
theorem kR(a:List Value)(lo hi:Option Int):slicePick a.toArray lo hi none=((a.drop (HT.sIx a.length 0 lo)).take (HT.sIx a.length a.length hi-HT.sIx a.length 0 lo)).toArray:=by
 obtain⟨b,c,d⟩:=wJ lo hi a.toArray.size;unfold slicePick;rw[b,c,d];simp only[sliceRange_one,pick_run,size_toArray]<;>rfl
noncomputable def rSlL(K:Frg):V->Option Int->Option Int->Hp->VK->Prop:=fun x lo hi H Q=>∃a xs,x = .ref a/\SqL K H a xs/\∀p,H p=none->Q (.ref p) (upd H p (.lst (cutV xs lo hi)))
theorem Yz:SlR X (rSlL X.K):=by
 intro i s A H x v y z e f w Q I t j n p h;obtain⟨a,c,rfl,k,q⟩:=h;cases t;obtain⟨m,r,g,l⟩:=I.list k;have d:=r.length;refine⟨"list",_,slot_list_getitem.lookup,g.isList.typeIs,?_⟩;refine wpAny_getItem_list_slice g.isList j n p .none (by simp) ?_ (by rw[size_toArray]<;>lia);rw[kR,<-d];refine⟨.ref s.heap.objs.size,_,I.laid (t':=s.toks) (o:=.lst (cutV c e f)) (fun b u q=>vI _ q) (vc _) ?_,rfl,q _ (I.hok.fresh (vc _))⟩;exact⟨vU (zb c e f) l,_,0,(r.drop (HT.sIx c.length 0 e)).take (HT.sIx c.length c.length f-HT.sIx c.length 0 e),Heap.get?_push_size _ rfl⟩
noncomputable def flatV:V->Bool
 | .non=>true
 | .bl _=>true
 | .int _=>true
 | .str _=>true
 | _=>false
noncomputable def eqV:V->V->Bool
 | .non,.non=>true
 | .bl a,.bl b=>a==b
 | .bl a,.int b=>(if a then 1 else 0)==b
 | .int a,.bl b=>a==(if b then 1 else 0)
 | .int a,.int b=>a==b
 | .str a,.str b=>a==b
 | _,_=>false
theorem j3h{A:Around}{s:Shared}{y x:V}{u v:Value}(f:RelV y u)(c:RelV x v)(g:flatV y=true)(e:flatV x=true):SeqAt.EqAt A s u v (eqV y x):=by
 cases y with
 | non=>
  cases f;cases x with
  | non=>cases c;exact SeqAt.EqAt.same _
  | bl b=>cases c;exact SeqAt.EqAt.none_bool b
  | int b=>obtain⟨t,rfl⟩:=c;exact SeqAt.EqAt.none_int b t
  | str b=>obtain⟨t,rfl⟩:=c;exact SeqAt.EqAt.none_str b t
  | _=>exact ug (show false=true from e) vE
 | bl a=>
  cases f;cases x with
  | non=>cases c;exact SeqAt.EqAt.bool_none a
  | bl b=>cases c;exact SeqAt.EqAt.bool_bool a b
  | int b=>obtain⟨t,rfl⟩:=c;exact SeqAt.EqAt.bool_int a b t
  | str b=>obtain⟨t,rfl⟩:=c;exact SeqAt.EqAt.bool_str a b t
  | _=>exact ug (show false=true from e) vE
 | int a=>
  obtain⟨d,rfl⟩:=f;cases x with
  | non=>cases c;exact SeqAt.EqAt.int_none a d
  | bl b=>cases c;exact SeqAt.EqAt.int_bool a d b
  | int b=>obtain⟨t,rfl⟩:=c;exact SeqAt.EqAt.int_int a d b t
  | str b=>obtain⟨t,rfl⟩:=c;exact SeqAt.EqAt.int_str a d b t
  | _=>exact ug (show false=true from e) vE
 | str a=>
  obtain⟨d,rfl⟩:=f;cases x with
  | non=>cases c;exact SeqAt.EqAt.str_none a d
  | bl b=>cases c;exact SeqAt.EqAt.str_bool a d b
  | int b=>obtain⟨t,rfl⟩:=c;exact SeqAt.EqAt.str_int a d b t
  | str b=>obtain⟨t,rfl⟩:=c;exact SeqAt.EqAt.str_str a d b t
  | _=>exact ug (show false=true from e) vE
 | _=>exact ug (show false=true from g) vE
noncomputable def eqU(x:V)(u:Value):Bool:=match u with
 | .none=>eqV .non x
 | .bool b=>eqV (.bl b) x
 | .int i _=>eqV (.int i) x
 | .str z _=>eqV (.str z) x
 | _=>false
theorem KQ{x y:V}{u:Value}(r:RelV y u)(f:flatV y=true):eqU x u=eqV y x:=by
 cases y with
 | non=>cases r;rfl
 | bl b=>cases r;rfl
 | int i=>obtain⟨t,rfl⟩:=r;rfl
 | str z=>obtain⟨t,rfl⟩:=r;rfl
 | _=>exact ug (show false=true from f) vE
theorem yb{x:V}:∀{xs:List V} {us:List Value},Vals xs us->xs.all flatV=true->us.any (eqU x)=xs.any fun y=>eqV y x
 | _,_,.nil,_=>rfl
 | y::xs,u::us,.cons r t,f=>by
  rw[all_cons,Bool.and_eq_true]at f;rw[any_cons,any_cons,KQ r f.1,yb t f.2]
theorem zu{A:Around}{s:Shared}{x:V}{v:Value}(c:RelV x v)(b:flatV x=true):∀{xs:List V} {us:List Value},Vals xs us->xs.all flatV=true->∀u∈us,SeqAt.EqAt A s u v (eqU x u)
 | _,_,.nil,_=>fun u a=>by cases a
 | y::xs,u::us,.cons r t,f=>fun d a=>by
  rw[all_cons,Bool.and_eq_true]at f;rcases mem_cons.mp a with rfl | a
  ·rw[KQ r f.1];exact j3h r c f.1 b
  ·exact zu c b t f.2 d a
noncomputable def inV(x:V)(xs:List V):Bool:=xs.any fun y=>eqV y x
def rIn(K:Frg)(neg:Bool):R2:=fun x y H Q=>∃p xs,y = .ref p/\(SqL K H p xs\/SqT K H p xs)/\flatV x=true/\xs.all flatV=true/\Q (.bl (if neg then !inV x xs else inV x xs)) H
theorem j0a:OpR X (compareOp .In) (rIn X.K false):=by
 intro g s m H x y v u Q I i k h;obtain⟨p,l,rfl,b,f,c,q⟩:=h;cases k;rcases b with b | b
 ·obtain⟨a,r,e,j⟩:=I.list b;refine SeqAt.in_listAt (eqU x) e.isList (fun w d=>zu i f r c w (by simpa using d)) ⟨.bl _,H,I,rfl,?_⟩;rw[show a.toArray.any (eqU x)=a.any (eqU x) by simp,yb r c];exact q
 ·obtain⟨a,r,e,j⟩:=I.tuple b;refine SeqAt.in_tupleAt (eqU x) e (fun w d=>zu i f r c w (by simpa using d)) ⟨.bl _,H,I,rfl,?_⟩;rw[show a.toArray.any (eqU x)=a.any (eqU x) by simp,yb r c];exact q
theorem wm:OpR X (compareOp .NotIn) (rIn X.K true):=by
 intro g s m H x y v u Q I i k h;obtain⟨p,l,rfl,b,f,c,q⟩:=h;cases k;rcases b with b | b
 ·obtain⟨a,r,e,j⟩:=I.list b;refine SeqAt.notIn_listAt (eqU x) e.isList (fun w d=>zu i f r c w (by simpa using d)) ⟨.bl _,H,I,rfl,?_⟩;rw[show a.toArray.any (eqU x)=a.any (eqU x) by simp,yb r c];exact q
 ·obtain⟨a,r,e,j⟩:=I.tuple b;refine SeqAt.notIn_tupleAt (eqU x) e (fun w d=>zu i f r c w (by simpa using d)) ⟨.bl _,H,I,rfl,?_⟩;rw[show a.toArray.any (eqU x)=a.any (eqU x) by simp,yb r c];exact q
theorem KL:CallR X (.type "list") (fun xs H Q=>∃p ys,xs=[.ref p]/\(SqL X.K H p ys\/SqT X.K H p ys)/\∀l,H l=none->Q (.ref l) (upd H l (.lst ys))):=by
 intro t s B H xs C Q I r h;obtain⟨p,ys,rfl,j,q⟩:=h;obtain⟨u,rfl,A⟩:=vals1 r;cases A;have g:∀(a:List Value),Vals ys a->ys.length<=sizeLine->∀(c:Heap) (d:Nat),(∀b z,s.heap.get? b=some z->c.get? b=some z)->
   c.get? s.heap.objs.size=some {cls:=.type "list",dict:=none,data:=.seq a.toArray d,slots:=#[]}->EP X t B Q (.ref s.heap.objs.size) {s with heap:=c}:=fun a f k c d m e=>
  ⟨.ref s.heap.objs.size,_,I.laid (t':=s.toks) m (vc _) (show ObjOk X.prog X.w _ c _ (.lst ys)from⟨k,a,d,f,e⟩),rfl,q _ (I.hok.fresh (vc _))⟩
 rcases j with j | j
 ·obtain⟨a,f,y,k⟩:=I.list j;have i:=f.length;obtain⟨o,x,v,n,w⟩:=y.isList;exact call_list_seq p (.inl rfl) x v w (fun c d m e=>g a f k c d m e) (by simp only[size_toArray]<;>lia)
 ·obtain⟨a,f,y,k⟩:=I.tuple j;have i:=f.length;obtain⟨o,x,v,n,w⟩:=y;exact call_list_seq p (.inr rfl) x v w (fun c d m e=>g a f k c d m e) (by simp only[size_toArray]<;>lia)
theorem Qo:CallR X (.type "tuple") (fun xs H Q=>∃p ys,xs=[.ref p]/\((SqL X.K H p ys/\∀l,H l=none->Q (.ref l) (upd H l (.tup ys)))\/(SqT X.K H p ys/\Q (.ref p) H))):=by
 intro a s n H xs x Q I r h;obtain⟨p,ys,rfl,h⟩:=h;obtain⟨u,rfl,w⟩:=vals1 r;cases w;rcases h with⟨f,q⟩ | ⟨f,q⟩
 ·obtain⟨c,i,g,m⟩:=I.list f;have k:=i.length;refine call_tuple_list g.isList (fun d v=>?_) (by simp only[size_toArray]<;>lia);have j:Inv X a n H {s with heap:=d}:=I.kept (t':=s.toks) v;have t:Inv X a n (upd H d.objs.size (.tup ys)) {s with heap:=d.push {cls:=.type "tuple",data:=.seq c.toArray}}:=
   j.laid (t':=s.toks) (fun b o e=>vI _ e) (vc _) (show ObjOk X.prog X.w _ _ _ (.tup ys)from⟨m,c,i,IsTup.new _ _⟩)
  exact⟨.ref d.objs.size,_,t,rfl,q _ (j.hok.fresh (vc _))⟩
 ·obtain⟨c,i,g,m⟩:=I.tuple f;exact call_tuple_same g ⟨.ref p,H,I,rfl,q⟩
def tyV(K:Frg)(T:String)(x:V)(H:Hp):Prop:=match x with
 | .str _=>T = "str"
 | .int _=>T = "int"
 | .ref p=>(T = "list"/\∃xs,SqL K H p xs)\/(T = "tuple"/\∃o,K.lookup p=some o/\o.cls = .type "tuple"/\o.dict=none)\/
   (T = "dict"/\((∃kvs,H p=some (.dK kvs))\/∃kvs,H p=some (.dT kvs)))\/(T = "set"/\∃S n,H p=some (.set S n))
 | _=>False
theorem j21{f:List (Addr×Obj)}{y:St}{H:Hp}{s:Shared}{T:String}{x:V}{v:Value}(I:Inv X f y H s)(r:RelV x v)(g:tyV X.K T x H) :
  s.TypeIs v T/\∀a,v = .ref a->∃l,s.heap.get? a=some l/\l.dict=none:=by
 cases x with
 | str z=>
  obtain⟨t,rfl⟩:=r;cases(show T = "str" from g);exact⟨typeIs_str s z t,fun _ e=>nomatch e⟩
 | int i=>
  obtain⟨t,rfl⟩:=r;cases(show T = "int" from g);exact⟨typeIs_int s i t,fun _ e=>nomatch e⟩
 | ref p=>
  cases r;rcases g with⟨rfl,A,u⟩ | ⟨rfl,o,b,q,j⟩ | ⟨rfl,b⟩ | ⟨rfl,S,n,b⟩
  ·obtain⟨w,_,m,_⟩:=I.list u;refine⟨m.isList.typeIs,fun a e=>?_⟩;cases e;obtain⟨o,n,e,c,j,_⟩:=m;exact⟨o,e,j⟩
  ·refine⟨⟨o,I.kIn p o b,q⟩,fun a e=>?_⟩;cases e;exact⟨o,I.kIn _ o b,j⟩
  ·have z:∃o,s.heap.get? p=some o/\o.ExactDict:=by
    rcases b with⟨k,b⟩ | ⟨k,b⟩
    ·obtain⟨_,_,_,_,o,_,_,e,d,_⟩:=I.hok p _ b;exact⟨o,e,d⟩
    ·obtain⟨_,_,_,_,o,_,_,e,d,_⟩:=I.hok p _ b;exact⟨o,e,d⟩
   obtain⟨o,e,d⟩:=z;refine⟨⟨o,e,d.1⟩,fun a h=>?_⟩;cases h;exact⟨o,e,d.2.1⟩
  ·obtain⟨o,_,_,_,e,d,_⟩:=I.hok p _ b;refine⟨⟨o,e,d.1⟩,fun a h=>?_⟩;cases h;exact⟨o,e,d.2.1⟩
 | _=>exact False.elim g
def tBM0(K:Frg)(T:String)(r:V->List V->Hp->VK->Prop)(to:TE):TE:=fun σ H Q=>to σ H fun x H1=>tyV K T x H1/\r x [] H1 Q
def tBM(K:Frg)(T:String)(r:V->List V->Hp->VK->Prop)(to:TE)(t:TA):TE:=fun σ H Q=>to σ H fun x H1=>tyV K T x H1/\t σ H1 fun xs H2=>r x xs H2 Q
variable{o e:Expr}{es:List Expr}{to:TE}{t:TA}{name:Str}{apos cpos:Pos}{T id:String}{r:V->List V->Hp->VK->Prop}
theorem j1u(p:PlainAttrs T)(d:Slot T name id)(e:typeOf (.builtin id)=pure (.type "method_descriptor"))(m:MtR X id r)(n:PE X o to)
  (b:attributeBase o name X.env (eval o X.env)=eval o X.env:=by rfl) (c:(apos.endLine==cpos.line)=true:=by rfl):PE X (.Call (.Attribute o name apos) [] [] cpos) (tBM0 X.K T r to):=by
 intro a s i H Q I h;refine wpAny_Call_method0_late b c (thn (n a s i H _ I h) fun v t ⟨x,j,f,g,u,q⟩=>?_);obtain⟨k,l⟩:=j21 f g u;exact⟨T,id,p,d,e,k,l,Calls.callWith_builtin rfl (PySem.evalArgs_none (m a t i j x [] v [] Q f g .nil q))⟩
theorem JR(C:PlainAttrs T)(g:Slot T name id)(i:typeOf (.builtin id)=pure (.type "method_descriptor"))(z:MtR X id r)(A:PE X o to)(y:PA X (e::es) t)
  (c:attributeBase o name X.env (eval o X.env)=eval o X.env:=by rfl)
  (f:((backTo cpos (starEach (e::es) X.env)).all (fun x=>!x.1)&&(backToKw cpos (keywordEach [] X.env)).all (fun x=>x.1.isSome)
   && decide ((e::es).length+([]:List Keyword).length+(if([]:List Keyword).isEmpty then 0 else 1)<30))=true:=by rfl)
  (d:(apos.endLine==cpos.line)=true:=by rfl) (B:starEach (e::es) X.env=(false,eval e X.env)::starEach es X.env:=by rfl) (b:(backTo cpos (starEach es X.env)).any (·.1)=false:=by rfl) :
  PE X (.Call (.Attribute o name apos) (e::es) [] cpos) (tBM X.K T r to t):=by
 intro a s j H Q I h;refine wpAny_Call_method_late c f d rfl (thn (A a s j H _ I h) fun v G ⟨x,n,k,m,K,D⟩=>?_);obtain⟨u,w⟩:=j21 k m K;refine⟨T,id,C,g,i,u,w,?_⟩;have l:=y cpos a G j n _ k D;rw[B]at l|-;refine Calls.callWith_builtin (by show(false||(backTo cpos (starEach es X.env)).any (·.1))=false;rw[b]<;>rfl) (Calls.evalArgs_plain ?_);exact thn l fun L J ⟨M,p,q,F,E⟩=>z a J j p x M v L Q q m F E
end
def MtM(X:Cx)(id:String)(r:V->List V->Hp->VK->Prop):Prop:=
 ∀(pins:List (Addr×Obj)) (s:Shared) (σ:St) (H:Hp) (x:V) (xs:List V) (v:Value) (us:List Value) (Q:VK),Inv X pins σ H s->RelV x v->Vals xs us->r x xs H Q->
  wpAny (model X.prog X.w) X.A (call (.builtin id) (v::us)) (EP X pins σ Q) X.xe s
theorem Vals.one:∀{x:V} {us:List Value},Vals [x] us->∃u,us=[u]/\RelV x u
 | _,_,.cons r .nil=>⟨_,rfl,r⟩
theorem Vals.zero:∀{us:List Value},Vals [] us->us=[]
 | _,.nil=>rfl
theorem Vals.dropLast{xs:List V}{us:List Value}(h:Vals xs us):Vals xs.dropLast us.dropLast:=by
 induction h with
 | nil=>exact .nil
 | cons r t ih=>
  cases t with
  | nil=>exact .nil
  | cons q t'=>exact .cons r ih
theorem Vals.rep{xs:List V}{us:List Value}(h:Vals xs us):∀k:Nat,Vals (List.replicate k xs).flatten (List.replicate k us).flatten
 | 0=>.nil
 | k+1=>by
  rw[replicate_succ,replicate_succ,flatten_cons,flatten_cons];exact Vals.append h (Vals.rep h k)
theorem xh{c:Type}(l:List c):l.eraseIdx (l.length-1)=l.dropLast:=by
 induction l with
 | nil=>rfl
 | cons a r ih=>
  cases r with
  | nil=>rfl
  | cons b r=>
   have e:(a::b::r).length-1=((b::r).length-1)+1:=by
    have d:(a::b::r).length=r.length+2:=rfl;have f:(b::r).length=r.length+1:=rfl;lia
   rw[e,List.eraseIdx_cons_succ,ih]
   all_goals rfl
theorem Ki(a:List Value):∀(k:Nat) (acc:List Value),
  List.foldl (fun c d=>c++d) acc.toArray (List.replicate k a.toArray)=(acc++(List.replicate k a).flatten).toArray
 | 0,acc=>by simp
 | k+1,acc=>by
  have e:acc.toArray++a.toArray=(acc++a).toArray:=by simp
  have b:(acc++a)++(List.replicate k a).flatten=acc++(List.replicate (k+1) a).flatten:=by
   rw[replicate_succ,flatten_cons,List.append_assoc]
  rw[<-b,<-Ki a k (acc++a),<-e,replicate_succ,v4]
section
variable{X:Cx}{pins:List (Addr×Obj)}{σ:St}{H:Hp}{s:Shared}{l b:Addr}{xs ys zs:List V}
theorem Inv.lset{a its':List Value}{n:Nat}{f:Array Value->Array Value}{t':Nat}(I:Inv X pins σ H s)(b:H l=some (.lst xs))
  (e:s.heap.get? l=some {cls:=.type "list",data:=.seq a.toArray n}) (d:f a.toArray=its'.toArray) (h:Vals ys its') (i:ys.length<=sizeLine) :
  Inv X pins σ (upd H l (.lst ys)) {s with heap:=s.heap.update l (Obj.mapSeq f),toks:=t'}:=by
 have q:=PySem.IsL.update e f;rw[d]at q;refine I.write (x:=l) (e:=l) (by rw[b];exact trivial) (.inl rfl) (fun j u c g=>(Heap.get?_update_other s.heap (Obj.mapSeq f) (Ne.symm c)).trans g) ⟨_,q⟩ ?_;exact⟨i,its',_,h,q⟩
theorem Inv.lnew{a:List Value}{t':Nat}(I:Inv X pins σ H s)(b:Vals ys a)(c:ys.length<=sizeLine) :
  Inv X pins σ (upd H s.heap.objs.size (.lst ys)) {s with heap:=s.heap.push {cls:=.type "list",data:=.seq a.toArray},toks:=t'}:=
 I.laid (fun _ _ q=>vI _ q) (vc _) ⟨c,a,0,b,Heap.get?_push_size _ rfl⟩
theorem Inv.fresh(I:Inv X pins σ H s):H s.heap.objs.size=none:=I.hok.fresh (vc _)
theorem Inv.lstM(I:Inv X pins σ H s)(b:H l=some (.lst xs)):xs.length<=sizeLine/\∃(a:List Value) (n:Nat),Vals xs a/\xs.length=a.length/\s.heap.get? l=some {cls:=.type "list",data:=.seq a.toArray n}:=by
 obtain⟨z,a,n,r,e⟩:=I.hok l _ b;exact⟨z,a,n,r,r.length,e⟩
theorem notLongL{n:Nat}(h:n<=sizeLine):Builtin.List.listTooLong n=false:=by
 unfold Builtin.List.listTooLong;exact vG (by lia)
end
section
variable{X:Cx}
noncomputable def rAppend:V->List V->Hp->VK->Prop:=fun x vs H Q=>∃l xs y,x = .ref l/\vs=[y]/\H l=some (.lst xs)/\xs.length<sizeLine/\Q .non (upd H l (.lst (xs++[y])))
theorem jO:MtM X "list.append" rAppend:=by
 intro c s p H x m v k Q I g f h;obtain⟨l,o,y,rfl,rfl,b,j,q⟩:=h;cases g;obtain⟨u,rfl,d⟩:=f.one;obtain⟨z,a,n,r,i,e⟩:=I.lstM b;refine call_meets F.slot_list_append ⟨_,e,rfl⟩ F.entry_list_append (F.args_list_append_2 _ _) (PySem.list_append l a.toArray n u (by rw[size_toArray];lia)) ⟨e,?_⟩;refine⟨.non,_,I.lset (its':=a++[u]) b e (by simp) (r.append (.cons d .nil)) ?_,rfl,q⟩;rw[vn,length_singleton];lia
noncomputable def rPop:V->List V->Hp->VK->Prop:=fun x vs H Q=>∃l xs y,x = .ref l/\vs=[]/\H l=some (.lst xs)/\xs[xs.length-1]?=some y/\Q y (upd H l (.lst xs.dropLast))
theorem j3s:MtM X "list.pop" rPop:=by
 intro f s A H x t v p Q I o m h;obtain⟨l,w,y,rfl,rfl,d,j,q⟩:=h;cases o;have b:=m.zero;subst b;obtain⟨z,a,n,r,g,e⟩:=I.lstM d;obtain⟨u,i,k⟩:=r.get j;have c:a.toArray[a.toArray.size-1]?=some u:=by
  show a.toArray[a.length-1]?=some u;rw[<-Array.getElem?_toList,<-g];exact i
 refine call_meets F.slot_list_pop ⟨_,e,rfl⟩ F.entry_list_pop (F.args_list_pop_1 _) (MeetsSeq.list_pop_last l a.toArray n u c (by rw[size_toArray];lia)) ⟨e,?_⟩;refine⟨y,_,I.lset (its':=a.dropLast) d e ?_ r.dropLast ?_,k,q⟩
 ·show a.toArray.eraseIdxIfInBounds (a.toArray.size-1)=a.dropLast.toArray;rw[size_toArray,List.eraseIdxIfInBounds_toArray,xh]
 ·rw[List.length_dropLast];lia
def rCat:R2:=fun x y H Q=>∃l b xs zs,x = .ref l/\y = .ref b/\H l=some (.lst xs)/\H b=some (.lst zs)/\xs.length+zs.length<=sizeLine/\∀p,H p=none->Q (.ref p) (upd H p (.lst (xs++zs)))
theorem zL:OpR X (binaryOp .Add) rCat:=by
 intro d s D H x y v u Q I m o h;obtain⟨l,b,A,C,rfl,rfl,i,hB,t,q⟩:=h;cases m;cases o;obtain⟨z,c,n,r,p,e⟩:=I.lstM i;obtain⟨B,a,w,k,j,f⟩:=I.lstM hB;refine PySem.P.add_list e f ?_ (by rw[size_toArray,size_toArray];lia);have g:c.toArray++a.toArray=(c++a).toArray:=by simp
 rw[g];exact⟨.ref _,_,I.lnew (t':=s.toks) (r.append k) (by rw[vn];lia),rfl,q _ I.fresh⟩
def rRep:R2:=fun x y H Q=>∃l k xs,x = .ref l/\y = .int k/\H l=some (.lst xs)/\-(2^63)<=k/\k<2^63/\xs.length*k.toNat<=sizeLine/\
 ∀p,H p=none->Q (.ref p) (upd H p (.lst (List.replicate k.toNat xs).flatten))
theorem j2D{a:Type}(xs:List a)(k:Nat):(List.replicate k xs).flatten.length=k*xs.length:=by
 induction k with
 | zero=>simp
 | succ k ih=>rw[replicate_succ,flatten_cons,vn,ih,Nat.succ_mul,Nat.add_comm]
theorem j3x:OpR X (binaryOp .Mult) rRep:=by
 intro w s M H x y v u Q I G J h;obtain⟨l,k,L,rfl,rfl,D,B,C,p,q⟩:=h;cases G;obtain⟨t,rfl⟩:=J;obtain⟨z,b,n,r,E,e⟩:=I.lstM D;have g:b.toArray.size*k.toNat<=sizeLine:=by rw[size_toArray,<-E];exact p
 have d:¬b.toArray.size*k.toNat>(2^63-1)/8:=by
  have:(sizeLine:Nat)<=(2^63-1)/8:=by decide
  lia
 have f:¬(!Builtin.List.listFitsIndex k)=true:=by
  rw[fitsIndex_both B C];exact vE
 have c:¬Builtin.List.listTooLong (b.toArray.size*k.toNat)=true:=by
  rw[notLongL g];exact vE
 have i:List.foldl (fun j o=>j++o) #[] (List.replicate (if b.toArray.isEmpty=true then 0 else k.toNat) b.toArray)=(List.replicate k.toNat b).flatten.toArray:=by
  have A:∀m:Nat,List.foldl (fun j o=>j++o) #[] (List.replicate m b.toArray)=(List.replicate m b).flatten.toArray:=fun m=>by
   have:=Ki b m [];rw[nil_append]at this;exact this
  rw[A];cases b with
  | nil=>simp
  | cons a r'=>rw[vd (by simp)]
 refine wpAny_binaryOp_repeat_ref (T:="list") (U:="int") (by decide) ⟨_,e,rfl⟩ (fun K=>typeIs_int K k t) noFill_list_mul F.fills_int_mul F.slot_int_rmul repeat_list F.slot_int_index.lookup
  (call_meets F.slot_int_rmul (typeIs_int s k t) F.entry_int_rmul (F.args_int_rmul_2 _ _) (int___rmul___int_list k t l b.toArray n)
   ⟨e,rfl,⟨_,e,rfl⟩,call_meets F.slot_list_mul ⟨_,e,rfl⟩ F.entry_list_mul (F.args_list_mul_2 _ _) (AutoListH.list___mul___list_int_3 l b.toArray n k t f d c) ⟨e,?_⟩⟩)
 rw[i];exact⟨.ref _,_,I.lnew (t':=s.toks) (r.rep k.toNat) (by rw[j2D,Nat.mul_comm];exact p),rfl,q _ I.fresh⟩
end
section
variable{prog:Program}{w:World}{A:Around}{E:Value->Shared->Prop}{s:Shared}
end
section
variable{X:Cx}
end
end L2
namespace Att
open PySem PySem.W PySem.Calls PyProof.Rows
theorem Yk{P:Params}{h:Heap}:∀(ns:List Int) (vs:List Value),WellAll P h vs (ns.map WData.int)->IntsAre vs ns:=by
 intro ns
 induction ns with
 | nil=>
  intro vs w;rw[map_nil]at w;cases w;exact .nil
 | cons n ns ih=>
  intro vs w;rw[v6]at w;cases w with
  | cons a b=>
   cases a;exact .cons _ _ (ih _ b)
theorem j0n{l:OpenLaw}{n:Nat}(s:l.most=some n){P:Params}{h:Heap}{args:List WData}{c:List Value}
  (b:l.row.toRowW.claim.pre args=true) (j:WellAll P h c args) :
  ∃a vs ns,c=[Value.ref a]/\args=[WData.list (ns.map WData.int)]/\h.get? a=some {cls:=.type "list",data:=.seq vs.toArray}/\IntsAre vs ns/\ns.length<=n:=by
 have i:WShape.hasAll [] args [.list .int]=true:=(pre_splitW b).1;have k:l.pre.holds [] {args:=args}=true:=(pre_splitW b).2;obtain⟨d,r,rfl,m,o⟩:=hasAllW_cons i;obtain rfl:=hasAllW_nil o;obtain⟨u,rfl,p⟩:=hasW_list m;obtain⟨ns,rfl⟩:=items_int p;have e:ns.length<=n:=by
  unfold OpenLaw.pre at k;have f:(WTm.not (.lt (.lit (.int (n:Int))) (.len (.arg 0)))).holds [] {args:=[.list (ns.map .int)]}=true:=by
   have f:=(holds_andW k).1;rw[s]at f;exact f
  have g:=condW_of f (w_not (w_lt w_lit (w_len_list (w_arg rfl))));rw[vt]at g;refine Nat.le_of_not_lt fun q=>?_
  have t:(n:Int)<((ns.length:Nat):Int):=by lia
  first
   | (rw[vF t]at g;exact ug g (by decide))
   | (simp at g;lia)
 cases j with
 | cons w1 w2=>
  cases w2;cases w1 with
  | list ho hall=>exact⟨_,_,ns,rfl,rfl,ho,Yk ns _ hall,e⟩
theorem j0b(l:OpenLaw)(args:List WData):l.row.toRowW.claim.post args (.bool true) args=true:=
 postW_of (r:=l.row.toRowW) (X:=(true==true))
  (show WShape.has [] (.bool true) .bool=true by first | rfl | decide | simp[WShape.has,WShape.arms,WShape.armsAll])
  (show(WTm.eq .res (.lit (.bool true))).value [] {args:=args,res:=some (.bool true),after:=args}=some (.bool (true==true))from w_eq_bool (w_res rfl) w_lit) rfl
section
variable{prog:Program}{w:World}{A:Around}{E:Value->Shared->Prop}{s:Shared}{K:Frag}
end
end Att
namespace L2
open PySem PySem.Spec PyProof.Rows
theorem Kw:∀{vs:List Value} {ns:List Int},IntsAre vs ns->Vals (ns.map V.int) vs
 | _,_,.nil=>.nil
 | _,_,.cons n t h=>.cons ⟨t,rfl⟩ (Kw h)
def Only(H:Hp):Prop:=∀b,H b=none\/∃o xs,H b=some (.frz o (.lst xs))
theorem j12{P:Program}{w:World}{K:Frg}{I R:Str->Option Value}{CX:CXT}{k:Nat}{fa a:Addr}{W:FuncData}{x:Str}{sp:Sp}{c:Shared}{vs:List Value}{ns:List Int}
  (T:K.In c.heap) (C:c.heap.Ns mainGlobals I) (g:c.heap.Ns builtinsNs R) (O:∀x:Str,x≠"__name__"->R x=bootBuiltins x) (B:c.heap.NoLimit) (hg:c.gens = #[])
  (L:c.heap.get? a=some {cls:=.type "list",data:=.seq vs.toArray}) (hi:IntsAre vs ns) (Z:ns.length<=sizeLine) (hr:Room k callerA)
  (F:∀base:Heap,K.In base->base.Ns mainGlobals I->FnOk P w K I base CX k fa W [x] sp) (l:∀(s:Shared) (u:Value),BindsTo s W ⟨[u],[]⟩ [(x,u)])
  (Q:∀H:Hp,Only H->SqL K H a (ns.map V.int)->sp [.ref a] H (fun v _=>v = .bl true) fun _ _ _=>False)
  (N:∀H e s',CX [] H c (fun _ _ _=>False) e s'->False) :
  codeAny (model P w) callerA (.call (.ref fa) ⟨[.ref a],[]⟩) (fun r s'=>r = .ok (.ret (.bool true))/\OldK c.heap s'.heap/\s'.os=c.os/\AllBare s'.gens) c:=by
 have rv:=Kw hi;have G:=hi.length;have j:∀H:Hp,Only H->SqL K H a (ns.map V.int)->HOk P w H c.heap->(∀b,H b≠none->b=a)->(H a≠none->K.lookup a=none)->
   codeAny (model P w) callerA (.call (.ref fa) ⟨[.ref a],[]⟩) (fun r s'=>r = .ok (.ret (.bool true))/\OldK c.heap s'.heap/\s'.os=c.os/\AllBare s'.gens) c:=by
  intro H Y hS D X hK;have f:∀{b:Addr} {o:Obj},c.heap.get? b=some o->H b=none->(hidT c.heap H).get? b=some o:=fun e n=>j0W e n
  have S:∀{b:Addr} {o:Obj} {y:Array DictEntry} {t:Nat},c.heap.get? b=some o->o.data = .dict y t->H b=none:=fun {b o y t} e d=>by
   cases q:H b with
   | none=>rfl
   | some u=>
    have M:b=a:=X b (by rw[q];simp);subst M;rw[L]at e;cases e;have d':Data.seq vs.toArray _=Data.dict y t:=d;cases d'
  have i:∀{b:Addr} {m:Str->Option Value},c.heap.Ns b m->(hidT c.heap H).Ns b m:=fun {b m} ⟨o,y,t,e,d,r⟩=>⟨o,y,t,f e (S e d),d,r⟩
  have A:K.In (hidT c.heap H):=fun b o e=>f (T b o e) (by
   cases q:H b with
   | none=>rfl
   | some u=>
    have M:b=a:=X b (by rw[q];simp);subst M;rw[hK (by rw[q];simp)]at e;cases e)
  have hM:Mod K I (hidT c.heap H):=⟨A,i C,⟨R,i g,O⟩,let ⟨mc,h1,h2⟩:=B;⟨mc,i h1,h2⟩⟩
  have e0:Env0 P w K I (hidT c.heap H) callerA [] c H:=⟨rfl,hM,fun b o e=>j2K e,Nat.le_of_eq (X4 _ _),trivial,fun b g=>ug (show b∈([]:List Addr)from g) (by simp),D,.of_eq hg⟩
  refine codeAny_mono ((F _ A (i C)).run callerA [] c H ⟨[.ref a],[]⟩ [.ref a] [.ref a] _ _ hr e0 (l c (.ref a)) (.cons rfl .nil) (Q H Y hS)) fun r s' h=>?_
  cases r with
  | error e=>exact(N H e s' h).elim
  | ok fl=>
   cases fl with
   | next=>exact False.elim h
   | brk=>exact False.elim h
   | cont=>exact False.elim h
   | ret u=>
    obtain⟨v,H',os,p,un,E,r',q⟩:=h;have q':v = .bl true:=q;subst q';obtain rfl:u=Value.bool true:=r';refine⟨rfl,OldK.of_keep fun b o e=>?_,os,p⟩;cases q:H b with
    | none=>exact un.keep b o e q (by intro z;exact ug (show b∈([]:List Addr)from z) (by simp)) (by simp)
    | some u=>
     rcases Y b with z | ⟨ob,xs,z⟩
     ·rw[q]at z;cases z
     ·have z2:=un.frzs b ob _ z;obtain⟨U,_⟩:=D b _ z;obtain⟨e2,_⟩:=E b _ z2;rw[e]at U;cases U;exact e2
 cases hk:K.lookup a with
 | some o=>
  have e:=T a o hk;rw[L]at e;cases e;refine j (fun _=>none) (fun _=>.inl rfl) (.inr ⟨_,vs.toArray,_,hk,rfl,rfl,rfl,by rw[size_toArray,G];exact Z,by simpa using rv⟩) (fun b u z=>by have J:(none:Option HO)=some u:=z;cases J) (fun b z=>ug rfl z) fun z=>ug rfl z
 | none=>
  refine j (fun b=>if b=a then some (.frz {cls:=.type "list",data:=.seq vs.toArray} (.lst (ns.map V.int)))else none) (fun b=>?_) (.inl (.inr ⟨{cls:=.type "list",data:=.seq vs.toArray},ve rfl⟩)) (fun b u z=>?_) (fun b z=>?_) fun _=>hk
  ·by_cases g:b=a
   ·exact .inr ⟨_,_,ve g⟩
   ·exact .inl (vd g)
  ·by_cases g:b=a
   ·have J:=(ve g).symm.trans z;cases J;subst g;exact⟨L,by rw[vt];exact Z,vs,_,rv,L⟩
   ·have J:=(vd g).symm.trans z;cases J
  ·by_cases g:b=a
   ·exact g
   ·exact ug (vd g) z
noncomputable abbrev KOf{K:Frg}{h:Heap}(_:K.In h):Frg:=K
noncomputable def inClass(s:Stmt)(j:Nat):Stmt:=match s with
 | .ClassDef _ _ _ body _ _ _ _ _ _ _=>body.getD j (.Pass ⟨0,0,0,0⟩)
 | _=>.Pass ⟨0,0,0,0⟩
noncomputable def defArgs(s:Stmt):Arguments:=match s with
 | .FunctionDef _ a _ _ _ _ _ _ _ _=>a
 | _=>{posonlyargs:=[],args:=[],vararg:=none,kwonlyargs:=[],kw_defaults:=[],kwarg:=none,defaults:=[]}
noncomputable def defBody(s:Stmt):List Stmt:=match s with
 | .FunctionDef _ _ b _ _ _ _ _ _ _=>b
 | _=>[]
noncomputable def defScope(s:Stmt):Scope:=match s with
 | .FunctionDef _ _ _ _ _ _ sc _ _ _=>sc
 | _=>{kind:=.function,names:=[],isGenerator:=false,isCoroutine:=false}
noncomputable abbrev CX0:CXT:=fun _ _ _ _ _ _=>False
noncomputable abbrev E0:XK:=fun _ _ _=>False
theorem pass0{X:Cx}:Passes CX0 X E0:=fun _ _ _ _ _ _ _ h=>h.elim
structure Fun(K:Frg)(x qual:Str)(st:Stmt)(f:Addr)(fd:FuncData):Prop where
 ex:∃(oc:Value) (od:Option Addr) (kV doc pm:Value) (an:Option Addr) (cdv ct:Value) (osl:Array (Option Value)),
  fd=PySem.W.fnOf x qual (defArgs st) (defBody st) (defScope st) .none kV doc pm an cdv ct/\K.lookup f=some ⟨oc,od,.func fd,osl⟩/\PySem.W.codeIn K cdv qual=true
 kp:PySem.W.keepIn K (.ref f)=true
section
variable{P:Program}{w:World}{K:Frg}{mg:Str->Option Value}{base:Heap}
theorem Fun.ok{x b:Str}{st:Stmt}{f:Addr}{i:FuncData}{N ps:List Str}{k:Nat}{sp:Sp}(F:Fun K x b st f i)(S:FnScope N ps (defScope st))(len:∀vs H Q E,sp vs H Q E->vs.length=ps.length)
  (d:∀(c:Value) (A:Around) (a:List Env) (s:Shared) (H:Hp) (vs:List V) (Q:VK) (E:XK),Room k (A.deeper (envOfC b (defScope st) s.heap.objs.size f c))->sp vs H Q E->
   ∃t,PSs (cxOf CX0 P w K mg base N b (defScope st) f c A a s H E).nox (defBody st) t/\t {nx:=fun _ H'=>Q .non H',rt:=Q} (start N vs) H):FnOk P w K mg base CX0 (k+1) f i ps sp:=by
 obtain⟨r,u,kV,j,v,o,c,p,n,rfl,m,e⟩:=F.ex;refine j3U m e S len fun A a s H vs Q E l g=>?_
 obtain⟨t,h,q⟩:=d c A a s H vs Q E l g;exact⟨t,h.nox,q⟩
theorem Fun.binds{x a:Str}{st:Stmt}{f:Addr}{i:FuncData}{ps:List Str}(F:Fun K x a st f i)
  (h:∀(kV c g:Value) (d:Option Addr) (b e:Value) (us:List Value),us.length=ps.length->bindArgs (PySem.W.fnOf x a (defArgs st) (defBody st) (defScope st) .none kV c g d b e) ⟨us,[]⟩=pure (ps.zip us)):Binds K i ps []:=by
 obtain⟨m,n,kV,c,g,d,b,e,k,rfl,l,j⟩:=F.ex;exact .all (h kV c g d b e)
theorem jX{x a:Str}{st:Stmt}{f:Addr}{j:Value}{m g:Option Addr}{e:Array (Option Value)}{kV d i b h:Value}(l:K.lookup f=some ⟨j,m,.func (PySem.W.fnOf x a (defArgs st) (defBody st) (defScope st) .none kV d i g b h),e⟩)
  (c:PySem.W.codeIn K b a=true) (k:PySem.W.keepIn K (.ref f)=true):Fun K x a st f (PySem.W.fnOf x a (defArgs st) (defBody st) (defScope st) .none kV d i g b h):=⟨⟨j,m,kV,d,i,g,b,h,e,rfl,l,c⟩,k⟩
end
theorem qO{A:Around}{k:Nat}(a:Room k A):A.units+1<cLine:=vC (Nat.add_le_add_left (by decide:1<=64) _) a.units
section
variable{X:Cx}
theorem pv(i:Nat){x:Str}{b:Pos}(c:X.N[i]?=some x:=by rfl)(d:Vis X.env.scope x:=by first | exact Or.inl rfl | exact Or.inr (Or.inl rfl) | exact Or.inr (Or.inr rfl))(hd:(x==("__debug__" : Str))=false:=by decide)
  (a:(x==("__classdict__" : Str))=false:=by decide):PE X (.Name x b) (tVar i):=j3B c d hd a
end
theorem iteF{A B:Prop}(h:B):if false=true then A else B:=by
 rw[vd vE];exact h
theorem iteT{A B:Prop}(h:A):if true=true then A else B:=by
 rw[ve rfl];exact h
def Same(H H':Hp):Prop:=∀b o,H b=some o->H' b=some o
theorem Same.refl(H:Hp):Same H H:=fun _ _ h=>h
theorem Same.trans{H d e:Hp}(a:Same H d)(b:Same d e):Same H e:=fun c o h=>b c o (a c o h)
theorem Same.seq{K:Frg}{H H':Hp}{a:Addr}{xs:List V}(e:Same H H')(h:SqL K H a xs):SqL K H' a xs:=by
 rcases h with(h | ⟨o,h⟩) | h
 ·exact .inl (.inl (e _ _ h))
 ·exact .inl (.inr ⟨o,e _ _ h⟩)
 ·exact .inr h
section
variable{κ:Type}[DecidableEq κ]
noncomputable def valV(kvs:List (κ×V))(k:κ):Option V:=(kvs.find? fun kv=>decide (kv.1=k)).map (·.2)
noncomputable def putK(kvs:List (κ×V))(k:κ)(v:V):List (κ×V):=
 if(kvs.any fun kv=>decide (kv.1=k))=true then kvs.map (fun kv=>if kv.1=k then(kv.1,v)else kv)else kvs++[(k,v)]
theorem qc{p:κ×V}{r:List (κ×V)}{k:κ}(e:p.1=k):valV (p::r) k=some p.2:=by simp[valV,List.find?_cons,e]
theorem qb{p:κ×V}{r:List (κ×V)}{k:κ}(e:¬p.1=k):valV (p::r) k=valV r k:=by simp[valV,List.find?_cons,e]
theorem yF(k:κ):∀kvs:List (κ×V),(kvs.any fun kv=>decide (kv.1=k))=(valV kvs k).isSome
 | []=>rfl
 | p::r=>by
  rw[any_cons];by_cases e:p.1=k
  ·simp only[qc e,decide_eq_true e,Bool.true_or,Option.isSome_some]
  ·rw[qb e,vG e,Bool.false_or];exact yF k r
theorem WW(k j:κ)(y:V):∀kvs:List (κ×V),valV (kvs.map fun kv=>if kv.1=k then(kv.1,y)else kv) j=(valV kvs j).map fun x=>if j=k then y else x
 | []=>rfl
 | p::r=>by
  have a:=WW k j y r;rw[v6];by_cases h:p.1=k
  ·rw[ve h];by_cases e:p.1=j
   ·rw[qc (p:=(p.1,y)) e,qc e,Option.map_some,ve (e.symm.trans h)]
   ·rw[qb (p:=(p.1,y)) e,qb e,a]
  ·rw[vd h];by_cases e:p.1=j
   ·rw[qc (p:=p) e,qc e,Option.map_some,vd (fun z=>h (e.trans z))]
   ·rw[qb (p:=p) e,qb e,a]
theorem Kv(k j:κ)(y:V):∀kvs:List (κ×V),valV kvs k=none->valV (kvs++[(k,y)]) j=if j=k then some y else valV kvs j
 | [],_=>by
  by_cases e:k=j
  ·rw[ve e.symm];exact qc (p:=(k,y)) e
  ·rw[vd (fun z=>e z.symm)];exact qb (p:=(k,y)) e
 | p::r,hn=>by
  rw[cons_append];have a:¬p.1=k:=fun z=>by rw[qc z]at hn;cases hn
  rw[qb a]at hn;have b:=Kv k j y r hn;by_cases e:p.1=j
  ·rw[qc e,qc e,vd (fun z=>a (e.trans z))]
  ·rw[qb e,qb e,b]
theorem WX(kvs:List (κ×V))(k j:κ)(y:V):valV (putK kvs k y) j=if j=k then some y else valV kvs j:=by
 unfold putK;by_cases a:(kvs.any fun kv=>decide (kv.1=k))=true
 ·rw[ve a,WW];rw[yF]at a;by_cases e:j=k
  ·obtain⟨x,b⟩:=Option.isSome_iff_exists.mp a;rw[ve e,e,b,Option.map_some,ve rfl]
  ·rw[vd e];cases valV kvs j with
   | none=>rfl
   | some x=>rw[Option.map_some,vd e]
 ·rw[vd a];refine Kv k j y kvs ?_;rw[yF]at a;cases q:valV kvs k with
  | none=>rfl
  | some x=>rw[q]at a;exact(a rfl).elim
theorem Zm(kvs:List (κ×V))(k:κ)(v:V):(putK kvs k v).length<=kvs.length+1:=by
 unfold putK;split
 ·rw[vt];lia
 ·rw[vn,vO,length_nil];lia
theorem RelO.isSome_eq{o:Option V}{u:Option Value}(r:RelO o u):o.isSome=u.isSome:=by
 cases o with
 | none=>cases u with
  | none=>rfl
  | some _=>exact(show False from r).elim
 | some _=>cases u with
  | none=>exact(show False from r).elim
  | some _=>rfl
theorem KV.val{kvs:List (κ×V)}{vs:List (κ×Value)}(r:KV kvs vs)(k:κ):RelO (valV kvs k) (valueAt vs k):=by
 unfold KV at r
 induction r with
 | nil=>exact True.intro
 | @cons p q ps qs h t ih=>
  obtain⟨c,d⟩:=h;by_cases e:p.1=k
  ·have a:q.1=k:=c.symm.trans e;have b:valueAt (q::qs) k=some q.2:=by simp[valueAt,List.find?_cons,a]
   rw[qc e,b];exact d
  ·have a:¬q.1=k:=fun z=>e (c.trans z)
   have b:valueAt (q::qs) k=valueAt qs k:=by simp[valueAt,List.find?_cons,a]
   rw[qb e,b];exact ih
theorem KV.any{kvs:List (κ×V)}{vs:List (κ×Value)}(r:KV kvs vs)(k:κ):(kvs.any fun kv=>decide (kv.1=k))=vs.any fun kv=>decide (kv.1=k):=by
 unfold KV at r
 induction r with
 | nil=>rfl
 | cons h t ih=>rw[any_cons,any_cons,ih,h.1]
theorem KV.repl{kvs:List (κ×V)}{vs:List (κ×Value)}(r:KV kvs vs)(k:κ){y:V}{u:Value}(c:RelV y u) :
  KV (kvs.map fun kv=>if kv.1=k then(kv.1,y)else kv) (vs.map fun kv=>if kv.1=k then(kv.1,u)else kv):=by
 unfold KV at r|-
 induction r with
 | nil=>exact .nil
 | @cons p q ps qs h t ih=>
  rw[v6,v6];refine .cons ?_ ih;obtain⟨a,b⟩:=h;by_cases e:p.1=k
  ·rw[ve e,ve (a.symm.trans e)];exact⟨a,c⟩
  ·rw[vd e,vd (fun z=>e (a.trans z))];exact⟨a,b⟩
theorem KV.put{kvs:List (κ×V)}{vs:List (κ×Value)}(r:KV kvs vs)(k:κ){y:V}{u:Value}(a:RelV y u):KV (putK kvs k y) (stored vs k u):=by
 unfold putK stored;rw[r.any k];by_cases e:(vs.any fun kv=>decide (kv.1=k))=true
 ·rw[ve e,ve e];exact r.repl k a
 ·rw[vd e,vd e];exact Paired.snoc r ⟨rfl,a⟩
theorem KV.keys{kvs:List (κ×V)}{vs:List (κ×Value)}(r:KV kvs vs):kvs.map (·.1)=vs.map (·.1):=by
 unfold KV at r
 induction r with
 | nil=>rfl
 | cons h t ih=>rw[v6,v6,ih,h.1]
theorem KV.length{kvs:List (κ×V)}{vs:List (κ×Value)}(r:KV kvs vs):kvs.length=vs.length:=Paired.length r
end
theorem j0Y{P:Program}{w:World}{k:Key}{u:Value}(r:RelV (kV k) u):(mixKind P w).is k u=true:=by
 cases k with
 | inl i=>obtain⟨t,e⟩:=(show∃t,u=Value.int i t from r);subst e;exact Wx P w i t
 | inr x=>obtain⟨t,e⟩:=(show∃t,u=Value.str x t from r);subst e;exact Wy P w x t
theorem Kk{P:Program}{w:World}:∀{ks:List Key} {us:List Value},Vals (ks.map kV) us->ItemsAre (mixKind P w) ks us
 | [],_,r=>by rw[map_nil]at r;cases r;exact .nil
 | k::ks,_,r=>by
  rw[v6]at r;cases r with
  | cons h t=>exact .cons (j0Y h) (Kk t)
noncomputable abbrev KT(H:Hp):List (List Key×V)->List (List Key×Addr×Value)->Prop:=Paired fun p q=>p.1=q.1/\H q.2.1=some (.tup (p.1.map kV))/\RelV p.2 q.2.2
theorem KT.val{H:Hp}{kvs:List (List Key×V)}{xs:List (List Key×Addr×Value)}(r:KT H kvs xs)(k:List Key):RelO (valV kvs k) ((atKey xs k).map (·.2)):=by
 induction r with
 | nil=>exact True.intro
 | @cons p q ps qs h t ih=>
  obtain⟨c,_,d⟩:=h;by_cases e:p.1=k
  ·have a:q.1=k:=c.symm.trans e;have b:atKey (q::qs) k=some q.2:=by simp[atKey,List.find?_cons,a]
   rw[qc e,b];exact d
  ·have a:¬q.1=k:=fun z=>e (c.trans z)
   have b:atKey (q::qs) k=atKey qs k:=by simp[atKey,List.find?_cons,a]
   rw[qb e,b];exact ih
theorem KT.repl{H:Hp}{kvs:List (List Key×V)}{xs:List (List Key×Addr×Value)}(r:KT H kvs xs)(k:List Key){y:V}{u:Value}(d:RelV y u) :
  KT H (kvs.map fun kv=>if kv.1=k then(kv.1,y)else kv) (xs.map (putAt k u)):=by
 induction r with
 | nil=>exact .nil
 | @cons p q ps qs h t ih=>
  rw[v6,v6];refine .cons ?_ ih;obtain⟨a,b,c⟩:=h;unfold putAt;by_cases e:p.1=k
  ·rw[ve e,ve (a.symm.trans e)];exact⟨a,b,d⟩
  ·rw[vd e,vd (fun z=>e (a.trans z))];exact⟨a,b,c⟩
theorem KT.put{H:Hp}{kvs:List (List Key×V)}{xs:List (List Key×Addr×Value)}(r:KT H kvs xs)(k:List Key){b:Addr}{y:V}{u:Value}(c:H b=some (.tup (k.map kV)))(a:RelV y u) :
  KT H (putK kvs k y) (storedH xs k b u):=by
 have e:(kvs.any fun kv=>decide (kv.1=k))=(atKey xs k).isSome:=by
  rw[yF,(r.val k).isSome_eq,Option.isSome_map]
 unfold putK storedH;rw[e];by_cases q:(atKey xs k).isSome=true
 ·rw[ve q,ve q];exact r.repl k a
 ·rw[vd q,vd q];exact Paired.snoc r ⟨rfl,c,a⟩
theorem KT.keeps{H H':Hp}{kvs:List (List Key×V)}{xs:List (List Key×Addr×Value)}(r:KT H kvs xs)(a:∀b ys,H b=some (.tup ys)->H' b=some (.tup ys)):KT H' kvs xs:=
 Paired.mapP r fun _ _ z=>⟨z.1,a _ _ z.2.1,z.2.2⟩
section
variable{P:Program}{w:World}{H:Hp}{h:Heap}{a:Addr}
theorem j34{u:HO}(b:HOk P w H h)(e:Rd H a u):ObjOk P w H h a u:=e.ok b
theorem Xh{kvs:List (Key×V)}(b:HOk P w H h)(e:Rd H a (.dK kvs)):kvs.length<=sizeLine/\(a==sysModules)=false/\∃vs,KV kvs vs/\h.DictOf (mixKind P w) a vs:=
 show ObjOk P w H h a (.dK kvs)from j34 b e
theorem Wc{kvs:List (Key×V)}(b:HOk P w H h)(e:H a=some (.dK kvs)):kvs.length<=sizeLine/\(a==sysModules)=false/\∃vs,KV kvs vs/\h.DictOf (mixKind P w) a vs:=Xh b (.inl e)
theorem xr{ks:List Key}(g:HOk P w H h)(e:H a=some (.tup (ks.map kV))):(tupleKind (mixKind P w)).is h ks a:=by
 obtain⟨_,b,r,o,c,d,n,f⟩:=(show ObjOk P w H h a (.tup (ks.map kV))from g a _ e)
 exact⟨o,b.toArray,n,c,d,f,by simpa using Kk r⟩
theorem j0O{kvs:List (List Key×V)}(d:HOk P w H h)(e:Rd H a (.dT kvs)):kvs.length<=sizeLine/\(a==sysModules)=false/\
  ∃xs,KT H kvs xs/\h.DictOfH (tupleKind (mixKind P w)) a xs:=by
 obtain⟨z,y,xs,r,o,g,f,i,j,k,n,s⟩:=(show ObjOk P w H h a (.dT kvs)from j34 d e)
 refine⟨z,y,xs,r,o,g,f,i,j,k,n,fun x b=>?_,s⟩;have c:∀{l:List (List Key×V)} {m:List (List Key×Addr×Value)},KT H l m->∀x∈m,(tupleKind (mixKind P w)).is h x.1 x.2.1:=by
  intro l m q
  induction q with
  | nil=>intro x b;exact nomatch b
  | @cons p q ps qs hq t ih=>
   intro x b;rcases mem_cons.mp b with e | b
   ·subst e;exact xr d (by rw[<-hq.1];exact hq.2.1)
   ·exact ih x b
 exact c r x b
theorem j3T{kvs:List (List Key×V)}(b:HOk P w H h)(e:H a=some (.dT kvs)):kvs.length<=sizeLine/\(a==sysModules)=false/\
  ∃xs,KT H kvs xs/\h.DictOfH (tupleKind (mixKind P w)) a xs:=j0O b (.inl e)
end
def DGet(H:Hp)(a:Addr)(y:V)(r:Option V):Prop:=
 (∃kvs k,Rd H a (.dK kvs)/\y=kV k/\r=valV kvs k)\/∃kvs k b,Rd H a (.dT kvs)/\y = .ref b/\H b=some (.tup (k.map kV))/\r=valV kvs k
def DPut(H:Hp)(a:Addr)(y v:V)(H':Hp):Prop:=
 (∃kvs k,H a=some (.dK kvs)/\y=kV k/\kvs.length<sizeLine/\H'=upd H a (.dK (putK kvs k v)))\/
 ∃kvs k b,H a=some (.dT kvs)/\y = .ref b/\H b=some (.tup (k.map kV))/\kvs.length<sizeLine/\H'=upd H a (.dT (putK kvs k v))
theorem DGet.k{H:Hp}{a:Addr}{kvs:List (Key×V)}{k:Key}(e:H a=some (.dK kvs)):DGet H a (kV k) (valV kvs k):=.inl ⟨kvs,k,.inl e,rfl,rfl⟩
theorem DPut.k{H:Hp}{a:Addr}{kvs:List (Key×V)}{k:Key}{v:V}(e:H a=some (.dK kvs))(b:kvs.length<sizeLine):DPut H a (kV k) v (upd H a (.dK (putK kvs k v))):=.inl ⟨kvs,k,e,rfl,b,rfl⟩
section
variable{X:Cx}{pins:List (Addr×Obj)}{σ:St}{H:Hp}{s:Shared}{a:Addr}{y v:V}{u r:Value}{o:Option V}{A:Around}{E:Value->Shared->Prop}
theorem Inv.big(I:Inv X pins σ H s):sysModules<s.heap.objs.size:=by
 have h:mainGlobals<s.heap.objs.size:=(I.mod.glob.keeps I.bk).lt;exact vX (by decide) h
theorem XZ{Q:Value->Shared->Prop}(B:A.units+1<cLine)(I:Inv X pins σ H s)(g:DGet H a y (some v))(r:RelV y u)(h:∀f s',Inv X pins σ H s'->RelV v f->Q f s') :
  wpAny (model X.prog X.w) A (getItem (.ref a) u) Q E s:=by
 rcases g with⟨q,k,e,j,l⟩ | ⟨q,k,b,e,j,t,l⟩
 ·subst j;obtain⟨z,w,C,c,i⟩:=Xh I.hok e;obtain⟨f,n,d⟩:=RelO.some_of (v:=v) (o:=valueAt C k) (by rw[l];exact c.val k);exact wpAny_getItem_of (j0Y r) i.mapOf n (h f _ (I.tok _) d)
 ·subst j;cases(show u=Value.ref b from r);obtain⟨z,w,D,c,i⟩:=j0O I.hok e;obtain⟨f,n,d⟩:=RelO.some_of (v:=v) (o:=(atKey D k).map (·.2)) (by rw[l];exact c.val k);obtain⟨p,x,m⟩:=vh.mp n;refine wpAny_getItem_heap (tupleKind_room_in1 B) (xr I.hok t) i x ?_;rw[m];exact h f _ (I.tok _) d
theorem KP{h':Heap}{t':Nat}{d:HO}(I:Inv X pins σ H s)(i:Mut (H a))(h:Heap.SameBut a s.heap h')(g:∃q,h'.get? a=some q)(c:ObjOk X.prog X.w (upd H a d) h' a d) :
  Inv X pins σ (upd H a d) {s with heap:=h',toks:=t'}:=
 I.write (x:=a) (e:=a) i (.inl rfl) (fun b q f z=>(h.2 b f).trans z) g c
theorem YT{P:Program}{w:World}{H':Hp}{h':Heap}{kvs:List (Key×V)}{vs:List (Key×Value)}(z:kvs.length<=sizeLine)(hd:(a==sysModules)=false)(b:KV kvs vs)(c:h'.DictOf (mixKind P w) a vs) :
  ObjOk P w H' h' a (.dK kvs):=⟨z,hd,vs,b,c⟩
theorem X0{H':Hp}{Q:Unit->Shared->Prop}(R:A.units+1<cLine)(I:Inv X pins σ H s)(g:DPut H a y v H')(G:RelV y u)(F:RelV v r)(h:∀s',Inv X pins σ H' s'->Q () s') :
  wpAny (model X.prog X.w) A (setItem (.ref a) u r) Q E s:=by
 rcases g with⟨d,k,e,o,l,n⟩ | ⟨d,k,b,e,o,B,l,n⟩
 ·subst o n;obtain⟨z,p,S,f,m⟩:=Wc I.hok e;have x:S.length<=sizeLine:=by rw[<-f.length];exact z
  have t:(putK d k v).length<=sizeLine:=by have:=Zm d k v;lia
  refine wpAny_setItem_pairs (hsz:=x) (j0Y G) m fun D i w=>h _ ?_
  have P:∃q,D.get? a=some q:=let ⟨q,_,_,j,_⟩:=i;⟨q,j⟩;exact KP I (by rw[e];exact True.intro) w P (YT t p (f.put k F) i)
 ·subst o n;cases(show u=Value.ref b from G);obtain⟨z,p,T,f,m⟩:=j3T I.hok e;have x:T.length<=sizeLine:=by rw[<-Paired.length f];exact z
  have t:(putK d k v).length<=sizeLine:=by have:=Zm d k v;lia
  refine wpAny_setItem_heap (hsz:=x) (tupleKind_room_in1 R) (xr I.hok B) m fun D i w=>h _ ?_
  obtain⟨q,K,J,j,L,M,N,_,O⟩:=i;refine KP I (by rw[e];exact True.intro) w ⟨q,j⟩ ⟨t,p,_,(f.put k B F).keeps fun c U C=>?_,q,K,J,j,L,M,N,O⟩;rw[jh (Jl C e (fun z=>nomatch z))];exact C
end
section
variable{X:Cx}{pins:List (Addr×Obj)}{σ:St}{H:Hp}{s:Shared}{a:Addr}{kvs:List (Key×V)}{k:Key}{u:Value}{A:Around}{E:Value->Shared->Prop}
end
def NoSl(i:Expr):Prop:=∀ov iv,subscripted i false ov iv=operate [ov,iv] (getItem ov iv)
theorem j2Y{prog:Program}{w:World}{A:Around}{E:Value->Shared->Prop}{s:Shared}{env:Env}{b a:Expr}{l:Pos}{T q:String}{Q:Value->Shared->Prop}
  (n:typeLookup (.type T) "__getitem__"= pure (some (.builtin q))) (p:NoSl a)
  (h:wpAny (model prog w) A (eval b env) (fun o e=>wpAny (model prog w) A (eval a env) (fun i c=>c.TypeIs o T/\wpAny (model prog w) A (getItem o i) Q E c) E e) E s) :
  wpAny (model prog w) A (eval (.Subscript b a l) env) Q E s:=by
 refine Subscript_ (wpAny_mono h (fun o e j=>wpAny_mono j (fun i c d=>?_) fun _ _ x=>x) fun _ _ x=>x);obtain⟨m,d⟩:=d;unfold subscriptTail;refine uk ?_;rw[getitemInPython_of_ne m.not_modules];refine uk (wpAny_specialOf m n ?_);have g:wpAny (model prog w) A (subscripted a false o i) (fun r f=>wpAny (model prog w) A (letTemporaryGo b o r >>= fun _=>pure r) Q E f) E c:=by
  rw[p o i];exact wpAny_operating (wpAny_mono d (fun r f k=>uk (wpAny_letTemporaryGo (uh k))) fun _ _ x=>x)
 first
  | exact uh (uk g)
  | exact uk (uh (uk g))
  | exact uk g
theorem Wb{X:Cx}{c:List (Addr×Obj)}{h:St}{H:Hp}{s:Shared}{a:Addr}{y:V}{o:Option V}(I:Inv X c h H s)(g:DGet H a y o):s.TypeIs (.ref a) "dict":=by
 rcases g with⟨f,k,e,_,_⟩ | ⟨f,k,b,e,_,_,_⟩
 ·obtain⟨_,_,i,_,d⟩:=Xh I.hok e;exact d.typeIs
 ·obtain⟨_,_,j,_,d⟩:=j0O I.hok e;exact d.typeIs
def tDGet(td ty:TE):TE:=fun σ H Q=>td σ H fun x H1=>ty σ H1 fun y H2=>∃a v,x = .ref a/\DGet H2 a y (some v)/\Q v H2
def sDPut(td ty tv:TE):TS:=fun D σ H=>tv σ H fun v H1=>td σ H1 fun x H2=>ty σ H2 fun y H3=>∃a H4,x = .ref a/\DPut H3 a y v H4/\D.nx σ H4
section
variable{X:Cx}{o i e value:Expr}{pos pos' tpos:Pos}{td ty tv:TE}
theorem JV(q:X.A.units+1<cLine)(n:PE X o td)(hi:PE X i ty)(p:NoSl i:=by exact fun _ _=>rfl):PE X (.Subscript o i pos) (tDGet td ty):=by
 intro b s e H Q I h;refine j2Y PySem.F.slot_dict_getitem.lookup p (thn (n b s e H _ I h) fun u A ⟨x,f,k,w,r⟩=>thn (hi b A e f _ k r) fun B C ⟨y,j,d,z,a,v,m,g,t⟩=>?_);subst m;obtain rfl:u=Value.ref a:=w;exact⟨Wb d g,XZ q d g z fun E D l c=>⟨v,j,l,c,t⟩⟩
theorem ZD(t:X.A.units+1<cLine)(p:PE X o td)(hi:PE X i ty)(w:PE X value tv)(q:swapsWith value (some (.Subscript o i pos')) pos.line X.env=pure false) :
  PS X (.Assign [.Subscript o i pos'] value pos) (sDPut td ty tv):=by
 intro b s c H D I h;refine wpAny_Assign_Subscript (thn (w b s c H _ I h) fun r G ⟨v,d,j,C,z⟩=>thn (p b G c d _ j z) fun u J ⟨x,e,k,E,A⟩=>thn (hi b J c e _ k A) fun L M ⟨y,K,l,F,a,f,n,g,B⟩=>?_) q;subst n;obtain rfl:u=Value.ref a:=E;exact X0 t l g F C fun N m=>⟨c,f,m,B⟩
end
theorem j0M{P:Program}{w:World}{H:Hp}(h:Heap)(a:sysModules<h.objs.size):ObjOk P w H (h.push {cls:=.type "dict",data:=.dict #[]}) h.objs.size (.dK []):=
 ⟨vb _,beq_eq_false_iff_ne.mpr (Ne.symm (vD a)),[],.nil,Heap.DictOf.new h⟩
def tDNewK:TE:=fun _ H Q=>∀p,H p=none->Q (.ref p) (upd H p (.dK []))
section
variable{X:Cx}{pos:Pos}
theorem yx:PE X (.Dict [] [] pos) tDNewK:=fun b s c H Q I h=>
 wpAny_Dict_empty ⟨.ref s.heap.objs.size,_,I.laid (a:=s.heap.objs.size) (o:=.dK []) (t':=s.toks) (fun _ _ q=>vI _ q) (vc _) (j0M s.heap I.big),rfl,h _ (I.hok.fresh (vc _))⟩
end
noncomputable def mergeK(kvs more:List (Key×V)):List (Key×V):=more.foldl (fun acc kv=>putK acc kv.1 kv.2) kvs
theorem KV.merge:∀{more:List (Key×V)} {a:List (Key×Value)} {kvs:List (Key×V)} {vs:List (Key×Value)},KV more a->KV kvs vs->KV (mergeK kvs more) (merged vs a):=by
 intro more a kvs vs r;unfold KV at r
 induction r generalizing kvs vs with
 | nil=>intro q;exact q
 | @cons p q ps qs h t ih=>
  intro b;have e:KV (putK kvs p.1 p.2) (stored vs q.1 q.2):=by
   have:=b.put p.1 h.2;rw[<-h.1];exact this
  exact ih e
theorem Qq:∀(more kvs:List (Key×V)),(mergeK kvs more).length<=kvs.length+more.length
 | [],kvs=>by show kvs.length<=kvs.length+0;lia
 | p::r,kvs=>by
  have a:=Qq r (putK kvs p.1 p.2);have b:=Zm kvs p.1 p.2;show(mergeK (putK kvs p.1 p.2) r).length<=_;rw[vO];lia
section
variable{X:Cx}{pins:List (Addr×Obj)}{σ:St}{H:Hp}{s:Shared}{a:Addr}{y d:V}{u r:Value}{o:Option V}{A:Around}{E:Value->Shared->Prop}
end
section
variable{X:Cx}{o e f:Expr}{apos cpos:Pos}{td ty tx:TE}
end
section
variable{X:Cx}{pins:List (Addr×Obj)}{σ:St}{H:Hp}{s:Shared}{a:Addr}{kvs:List (Key×V)}{A:Around}{E:Value->Shared->Prop}
end
section
variable{X:Cx}{pins:List (Addr×Obj)}{σ:St}{H:Hp}{s:Shared}{a:Addr}{y:V}{u:Value}{A:Around}{E:Value->Shared->Prop}
end
section
variable{X:Cx}
end
section
variable{κ:Type}[DecidableEq κ]
end
theorem compLoopT{prog:Program}{w:World}{A:Around}{R:Result->Shared->Prop}{s:Shared}{q a j:Expr}{t:List Expr}{d:Scope}{D:Pos}{it acc:Value}{env:Env}(I:Nat->Shared->Prop)
  (E:∀n s,I n s->wpAny (model prog w) A (pyNext it) (fun r e=>match r with
   | none=>R (.ok .next) e
   | some v=>wpAny (model prog w) A (letOwnedTupleGo a it v) (fun _ k=>wpAny (model prog w) A (assign a env v) (fun _ l=>
     wpAny (model prog w) A (forIn t true fun c r=>if r=true then do let C <-isTrue c env (eval c env);pure (ForInStep.yield C)else pure (ForInStep.yield r)) (fun C f=>
      if C=true then wpAny (model prog w) A (eval q env) (fun x o=>
       wpAny (model prog w) A (call (.builtin "list.append") [acc,x]) (fun _ p=>∃m,m<n/\I m p) (fun _ _=>False) o) (fun _ _=>False) f
      else∃m,m<n/\I m f) (fun _ _=>False) l) (fun _ _=>False) k) (fun _ _=>False) e) (fun _ _=>False) s)
  (n:Nat) (h:I n s) :
  codeAny (model prog w) A (.compLoop (.ListComp q [⟨a,j,t,0⟩] d D) 0 it acc env) R s:=by
 refine codeAny_loop rfl I (fun n s F=>?_) n h;show wpAny _ A ((compTurn (.ListComp q [⟨a,j,t,0⟩] d D) 0 it acc env).onRaise (fun x=>do noteFrame x env;theTreesLotGoes x)) _ _ s;refine wpAny_noted ?_;rw[compTurn_list];refine uk (wpAny_standAt (uk (wpAny_mono (E n s F) (fun r e g=>?_) fun _ _ b=>b.elim)));cases r with
 | none=>exact uh g
 | some v=>
  refine uk (wpAny_mono g (fun _ k u=>?_) fun _ _ b=>b.elim);refine uk (wpAny_mono u (fun _ l y=>uk (wpAny_mono y (fun C f i=>?_) fun _ _ b=>b.elim)) fun _ _ b=>b.elim);cases C with
  | false=>exact uh ⟨rfl,i⟩
  | true=>
   exact uk (uk (wpAny_mono i (fun x o z=>uk (wpAny_mono z (fun _ p B=>uh (uh ⟨rfl,B⟩)) fun _ _ b=>b.elim)) fun _ _ b=>b.elim))
def PF(X:Cx)(ifs:List Expr)(t:TT):Prop:=
 ∀(pins:List (Addr×Obj)) (s:Shared) (σ:St) (H:Hp) (Q:Bool->Hp->Prop),Inv X pins σ H s->t σ H Q->
  wpAny (model X.prog X.w) X.A (forIn ifs true fun c r=>if r=true then do let ok <-isTrue c X.env (eval c X.env);pure (ForInStep.yield ok)else pure (ForInStep.yield r)) (TP X pins σ Q) X.xe s
def tYes:TT:=fun _ H Q=>Q true H
theorem QM{X:Cx}:PF X [] tYes:=fun _ _ _ H _ I h=>wpAny_tests_nil ⟨H,I,h⟩
theorem wp{X:Cx}{c:Expr}{t:TT}(b:PT X c t):PF X [c] t:=fun a s d H Q I h=>wpAny_tests_one (b a s d H Q I h)
noncomputable def closL(env:Env):List (Str×NameKind)->List (Str×Addr)->List (Str×Addr)
 | [],acc=>acc
 | (n,k)::r,acc=>closL env r (if k == .free then(n,(env.cells.lookup n).getD 0)::acc else acc)
theorem yf{b:Scope}{env:Env}(h:∀y∈b.names,y.2 = .free->∃c,env.cells.lookup y.1=some c):closureFor b env=pure (closL env b.names []):=by
 have o:∀(names:List (Str×NameKind)) (d:List (Str×Addr)),(∀y∈names,y.2 = .free->∃c,env.cells.lookup y.1=some c)->
   (forIn (m:=Sem) names d fun x r=>(match x with | (name,kind)=>if(kind == .free)=true then do let a <-cellOf env name;pure (ForInStep.yield ((name,a)::r))else pure (ForInStep.yield r)))=pure (closL env names d):=by
  intro names
  induction names with
  | nil=>intro d _;rfl
  | cons y r ih=>
   obtain⟨n,k⟩:=y;intro d e;rw[List.forIn_cons];cases hk:(k==NameKind.free)with
   | true=>
    have f:k = .free:=by simpa using hk
    obtain⟨c,j⟩:=e (n,k) vq f;have l:cellOf env n=pure c:=by unfold cellOf;rw[j]
    simp only[hk,if_true,l,pure_bind,closL,j,Option.getD_some];exact ih _ fun y i=>e y (vp _ i)
   | false=>
    simp only[hk,Bool.false_eq_true,if_false,pure_bind,closL];exact ih _ fun y i=>e y (vp _ i)
 have g:=o b.names [] h;unfold closureFor;simp only[g,pure_bind]
theorem Kb{env:Env}:∀(names:List (Str×NameKind)) (acc:List (Str×Addr)),(∀y∈names,y.2 = .free->∃c,env.cells.lookup y.1=some c)->(∀x c,acc.lookup x=some c->env.cells.lookup x=some c)->
  ∀x c,(closL env names acc).lookup x=some c->env.cells.lookup x=some c
 | [],_,_,ha,x,c,h=>ha x c h
 | (n,k)::r,acc,hh,ha,x,c,h=>by
  refine Kb r _ (fun y d=>hh y (vp _ d)) (fun x c e=>?_) x c h;cases hk:(k==NameKind.free)with
  | false=>rw[hk]at e;exact ha x c e
  | true=>
   rw[hk]at e;have a:k = .free:=by simpa using hk
   obtain⟨f,b⟩:=hh (n,k) vq a;simp only[if_true,b,Option.getD_some]at e;rw[lookup_cons]at e;cases hx:(x==n)with
   | true=>
    rw[hx]at e;have:x=n:=by simpa using hx
    rw[this,b];exact e
   | false=>rw[hx]at e;exact ha x c e
theorem Ka{env:Env}:∀(names:List (Str×NameKind)) (acc:List (Str×Addr)) (x:Str),(∃c,acc.lookup x=some c)->∃c,(closL env names acc).lookup x=some c
 | [],_,_,h=>h
 | (n,k)::r,acc,x,h=>by
  refine Ka r _ x ?_;cases hk:(k==NameKind.free)with
  | false=>exact h
  | true=>
   simp only[if_true];rw[lookup_cons];cases hx:(x==n)with
   | true=>exact⟨_,rfl⟩
   | false=>exact h
theorem yN{env:Env}:∀(names:List (Str×NameKind)) (acc:List (Str×Addr)) (x:Str),(x,NameKind.free)∈names->∃c,(closL env names acc).lookup x=some c
 | [],_,_,h=>by simp at h
 | (n,k)::r,acc,x,h=>by
  rcases mem_cons.mp h with e | h
  ·cases e;refine Ka r _ _ ?_;simp
  ·exact yN r _ x h
theorem Q4{env:Env}:∀{names:List (Str×NameKind)} {x:Str} {k:NameKind},(names.map fun(n,k)=>if(k==NameKind.free&&env.scope.kind == .function&&env.kindOf n==some .cell)then(n,NameKind.cell)else(n,k)).lookup x=some k->
  ∃b,(x,b)∈names/\names.lookup x=some b/\(b=k\/(b = .free/\k = .cell))
 | [],_,_,h=>by simp at h
 | (n,k₀)::r,x,k,h=>by
  have i:=@Q4 env r x k;rw[v6]at h;dsimp only at h;cases hx:x==n with
  | true=>
   have e:x=n:=by simpa using hx
   subst e;refine⟨k₀,vq,by simp,?_⟩;by_cases a:(k₀==NameKind.free&&env.scope.kind == .function&&env.kindOf x==some .cell)=true
   ·rw[ve a]at h;simp only[lookup_cons,beq_self_eq_true]at h;simp only[Bool.and_eq_true,beq_iff_eq]at a;exact .inr ⟨a.1.1,(vK h).symm⟩
   ·rw[vd a]at h;simp only[lookup_cons,beq_self_eq_true]at h;exact .inl (vK h)
  | false=>
   have c:(r.map fun(n,k)=>if(k==NameKind.free&&env.scope.kind == .function&&env.kindOf n==some .cell)then(n,NameKind.cell)else(n,k)).lookup x=some k:=by
    by_cases a:(k₀==NameKind.free&&env.scope.kind == .function&&env.kindOf n==some .cell)=true
    ·rw[ve a]at h;simpa only[lookup_cons,hx]using h
    ·rw[vd a]at h;simpa only[lookup_cons,hx]using h
   obtain⟨b,d,f,g⟩:=i c;exact⟨b,vp _ d,by simpa only[lookup_cons,hx]using f,g⟩
theorem yM:∀(names:List (Str×NameKind)) (n:Nat) (acc:List (Str×Addr)) (x:Str) (c:Addr),(cellsFrom n names acc).lookup x=some c->n<=c\/acc.lookup x=some c
 | [],_,_,_,_,h=>.inr h
 | (y,k)::r,n,acc,x,c,h=>by
  unfold cellsFrom at h;split at h
  ·rcases yM r (n+1) _ x c h with q | q
   ·exact .inl (by lia)
   ·rw[lookup_cons]at q;cases hx:x==y with
    | true=>rw[hx]at q;cases q;exact .inl (vc _)
    | false=>rw[hx]at q;exact .inr q
  ·exact yM r n acc x c h
theorem xc:∀(names:List (Str×NameKind)) (n:Nat) (acc:List (Str×Addr)),(∀x c,acc.lookup x=some c->c<n)->(∀x y c,acc.lookup x=some c->acc.lookup y=some c->x=y)->
  ∀x y c,(cellsFrom n names acc).lookup x=some c->(cellsFrom n names acc).lookup y=some c->x=y
 | [],_,_,_,hi,x,y,c,h1,h2=>hi x y c h1 h2
 | (z,k)::r,n,acc,hb,hi,x,y,c,h1,h2=>by
  unfold cellsFrom at h1 h2;split at h1
  ·rename_i hk;rw[ve hk]at h2;refine xc r (n+1) _ (fun x c e=>?_) (fun x y c b a=>?_) x y c h1 h2
   ·rw[lookup_cons]at e;cases hx:x==z with
    | true=>rw[hx]at e;cases e;exact Nat.lt_succ_self _
    | false=>rw[hx]at e;exact Nat.lt_succ_of_lt (hb x c e)
   ·rw[lookup_cons]at b a;cases hx:x==z with
    | true=>
     rw[hx]at b;cases b;cases hy:y==z with
     | true=>rw[beq_iff_eq.mp hx,beq_iff_eq.mp hy]
     | false=>rw[hy]at a;exact ug (hb y n a) (Nat.lt_irrefl _)
    | false=>
     rw[hx]at b;cases hy:y==z with
     | true=>rw[hy]at a;cases a;exact ug (hb x n b) (Nat.lt_irrefl _)
     | false=>rw[hy]at a;exact hi x y c b a
  ·rename_i hk;rw[vd hk]at h2;exact xc r n acc hb hi x y c h1 h2
theorem KN:∀(names:List (Str×NameKind)) (n:Nat) (acc:List (Str×Addr)) (x:Str),(∃c,acc.lookup x=some c)->∃c,(cellsFrom n names acc).lookup x=some c
 | [],_,_,_,h=>h
 | (y,k)::r,n,acc,x,h=>by
  unfold cellsFrom;split
  ·refine KN r (n+1) _ x ?_;rw[lookup_cons];cases hx:x==y with
   | true=>exact⟨_,rfl⟩
   | false=>exact h
  ·exact KN r n acc x h
theorem xb:∀(names:List (Str×NameKind)) (n:Nat) (acc:List (Str×Addr)) (x:Str),(x,NameKind.cell)∈names->∃c,(cellsFrom n names acc).lookup x=some c
 | [],_,_,_,h=>by simp at h
 | (y,k)::r,n,acc,x,h=>by
  unfold cellsFrom;rcases mem_cons.mp h with e | h
  ·cases e;simp only[beq_self_eq_true,if_true];exact KN r _ _ _ (by simp)
  ·split
   ·exact xb r _ _ x h
   ·exact xb r _ _ x h
theorem xg:∀(names:List (Str×NameKind)) (n:Nat) (acc:List (Str×Addr)) (x:Str),(x,NameKind.cell)∉names->(cellsFrom n names acc).lookup x=acc.lookup x
 | [],_,_,_,_=>rfl
 | (y,k)::r,n,acc,x,h=>by
  have a:(x,NameKind.cell)∉r:=fun q=>h (vp _ q)
  unfold cellsFrom;split
  ·rename_i hk;rw[xg r _ _ x a,lookup_cons];cases hx:x==y with
   | true=>rw[beq_iff_eq.mp hx,beq_iff_eq.mp hk]at h;exact ug vq h
   | false=>rfl
  ·exact xg r n acc x a
theorem xf:∀(names:List (Str×NameKind)) (a n:Nat) (acc:List (Str×Addr)) (x:Str) (c:Addr),a<=n->((x,NameKind.cell)∈names\/∀c,acc.lookup x=some c->a<=c)->(cellsFrom n names acc).lookup x=some c->a<=c
 | [],_,_,_,_,c,_,h,e=>h.elim (fun z=>by simp at z) fun z=>z c e
 | (y,k)::r,a,n,acc,x,c,hn,h,e=>by
  unfold cellsFrom at e;split at e
  ·refine xf r a (n+1) _ x c (by lia) ?_ e;rcases h with h | h
   ·rcases mem_cons.mp h with q | q
    ·cases q;exact .inr fun c q=>by rw[lookup_cons,beq_self_eq_true]at q;cases q;exact hn
    ·exact .inl q
   ·refine .inr fun c q=>?_
    rw[lookup_cons]at q;cases hx:x==y with
    | true=>rw[hx]at q;cases q;exact hn
    | false=>rw[hx]at q;exact h c q
  ·rename_i hk;refine xf r a n acc x c hn ?_ e;rcases h with h | h
   ·rcases mem_cons.mp h with q | q
    ·cases q;exact ug rfl hk
    ·exact .inl q
   ·exact .inr h
theorem YQ:∀(names:List (Str×NameKind)) (h:Heap) (acc:List (Str×Addr)) (x:Str) (c:Addr),(cellsFrom h.objs.size names acc).lookup x=some c->acc.lookup x=some c\/(pushCells h names).IsCell c none
 | [],_,_,_,_,e=>.inl e
 | (y,k)::r,h,acc,x,c,e=>by
  unfold cellsFrom at e;unfold pushCells;split
  ·rename_i hk;rw[ve hk]at e;rw[<-Heap.size_push h {cls:=.type "cell",data:=.cell none}]at e;rcases YQ r _ _ x c e with q | q
   ·rw[lookup_cons]at q;cases hx:x==y with
    | true=>
     rw[hx]at q;cases q;exact .inr ⟨_,pushCells_keeps _ _ _ _ (Heap.get?_push_size _ rfl),rfl⟩
    | false=>rw[hx]at q;exact .inl q
   ·exact .inr q
  ·rename_i hk;rw[vd hk]at e;exact YQ r h acc x c e
theorem envC{M:Model}{A:Around}{E:Value->Shared->Prop}{s:Shared}{a:Scope}{b:Addr}{f:List (Str×Addr)}{c:Str}{env:Env}{Q:Env->Shared->Prop}
  (h:Q (newEnv a s.heap.objs.size b (cellsFrom (s.heap.objs.size+1) a.names f) c none .none (some env) builtinsNs) {s with heap:=pushCells (s.heap.push {cls:=.type "dict",data:=.dict #[]}) a.names}) :
  wpAny M A (newFunctionEnv a b f [] c none .none (some env)) Q E s:=by
 simp only[newFunctionEnv,Option.isSome_some,if_true];refine uk (wpAny_alloc ?_);refine uk (wpAny_layCells _ (fun g d e=>by cases hkc:d==NameKind.cell<;>simp[hkc]) _ _ _ _ ?_);rw[show({s with heap:=s.heap.push {cls:=.type "dict",data:=.dict #[]}}:Shared).heap.objs.size=s.heap.objs.size+1 from Heap.size_push ..];rw[List.forIn_nil];exact uk (uh (uh h))
noncomputable def blk(X:Cx)(scope:Scope)(ow:List Str)(ci:List Nat)(C:Addr)(s₀:Shared)(H₀:Hp)(ex:List Addr)(pn:List (Addr×Obj)):Cx:=
 {X with N:=ow++ci.map fun j=>X.N.getD j "",s₀:=s₀,H₀:=H₀,env:=compEnvC scope (cellsFrom (C+1) scope.names (closL X.env scope.names [])) C X.env,outer:=X.stack,stack:=X.stack,ex:=ex,fn:=fun x=>scope.names.lookup x==some .cell,pn:=pn,xe:=fun _ _=>False}
structure CompScope(X:Cx)(scope:Scope)(ow:List Str)(ci:List Nat):Prop where
 kind:scope.kind = .function
 cell:∀y∈scope.names,y.2 = .cell->scope.names.lookup y.1=some .cell
 names:∀y∈scope.names,y.2 = .local->scope.names.lookup y.1=some .local
 free:∀y∈scope.names,y.2 = .free->X.env.kindOf y.1=some .cell\/X.env.kindOf y.1=some .free
 ix:∀j∈ci,j<X.N.length/\scope.names.lookup (X.N.getD j "")=some .free
noncomputable def compOk(fsc:Scope)(N:List Str)(scope:Scope)(ci:List Nat):Bool:=
 scope.kind == .function&&scope.names.all (fun y=>y.2 != .cell||scope.names.lookup y.1==some .cell)&&scope.names.all (fun y=>y.2 != .local||scope.names.lookup y.1==some .local) &&
 scope.names.all (fun y=>y.2 != .free||fsc.names.lookup y.1==some .cell||fsc.names.lookup y.1==some .free)&&ci.all (fun j=>decide (j<N.length)&&scope.names.lookup (N.getD j "")==some .free)
theorem CompScope.of{X:Cx}{a:Scope}{ow:List Str}{ci:List Nat}(b:Scope)(N:List Str)(d:X.env.scope=b)(f:X.N=N)(h:compOk b N a ci=true):CompScope X a ow ci:=by
 subst d f;unfold compOk at h;simp only[Bool.and_eq_true,all_eq_true,Bool.or_eq_true,bne_iff_ne,ne_eq,beq_iff_eq,decide_eq_true_eq]at h;obtain⟨⟨⟨⟨g,i⟩,k⟩,l⟩,m⟩:=h;refine⟨g,fun y c e=>(i y c).resolve_left fun z=>z e,fun y c e=>?_,fun y c e=>?_,fun j n=>m j n⟩
 ·rcases k y c with z | z
  ·exact ug e z
  ·exact z
 ·rcases l y c with(z | z) | z
  ·exact ug e z
  ·exact .inl z
  ·exact .inr z
theorem JA{X:Cx}{a:Scope}{ow:List Str}{ci:List Nat}{C:Addr}{c:Shared}{b:Hp}{d:List Addr}{pn:List (Addr×Obj)}(N:List Str)(e:X.N=N)(h:(ow++ci.map fun j=>N.getD j "").Nodup):(blk X a ow ci C c b d pn).N.Nodup:=by
 subst e;exact h
noncomputable def capAt(σ:St)(j:Nat):Option V:=match σ[j]? with | some o=>o | none=>none
noncomputable def capS(n:Nat)(ci:List Nat)(σ:St):St:=List.replicate n none++ci.map (capAt σ)
def tComp(wi:TI)(n:Nat)(ci:List Nat)(g:TG)(tf:TT)(te:TE):TE:=fun σ H Q=>wi σ H fun J H1=>∃W:Nat->Nat->List V->Hp->Prop,(∃m,W 0 m [] H1)/\∀i m ys H,W i m ys H->
 (J.stop i H/\ys.length<=sizeLine/\∀p,H p=none->Q (.ref p) (upd H p (.lst ys)))\/
 (J.go i H/\∃N:List V->Hp->Prop,(∀ys' H',N ys' H'->∃m',m'<m/\W (i+1) m' ys' H')/\∀x H',J.yld i H x H'->g x (capS n ci σ) H' fun σ2 H2=>tf σ2 H2 fun b H3=>
  if b=true then te σ2 H3 fun v H4=>ys.length<sizeLine/\N (ys++[v]) H4 else N ys H3)
section
variable{X:Cx}{pins:List (Addr×Obj)}{σ:St}{H:Hp}{s:Shared}{elt iter tg:Expr}{ifs:List Expr}{scope:Scope}{pos:Pos}{ow:List Str}{ci:List Nat}{g:TG}{tf:TT}{te:TE}
theorem CompScope.cells(S:CompScope X scope ow ci)(b:X.Ok):∀y∈scope.names,y.2 = .free->∃c,X.env.cells.lookup y.1=some c:=fun y a e=>b.has y.1 (S.free y a e)
theorem CompScope.sub(S:CompScope X scope ow ci)(a:X.Ok):∀x c,(closL X.env scope.names []).lookup x=some c->X.env.cells.lookup x=some c:=
 Kb scope.names [] (S.cells a) fun _ _ e=>by simp at e
theorem CompScope.cel(S:CompScope X scope ow ci)(a:X.Ok){C:Addr}{x:Str}{c:Addr}(h:(cellsFrom (C+1) scope.names (closL X.env scope.names [])).lookup x=some c):C+1<=c\/X.env.cells.lookup x=some c:=
 (yM _ _ _ _ _ h).imp id (S.sub a x c)
theorem j3e(S:CompScope X scope ow ci)(I:Inv X pins σ H s){C:Addr}{l:List Addr}{pn:List (Addr×Obj)}(f:s.heap.objs.size<=C)
  (a:∀b∈l,b<s.heap.objs.size/\FpOk X pins H b):(blk X scope ow ci C s H l pn).Ok where
 mod:=I.ok.mod
 kind:=S.kind
 glob:=I.ok.glob
 blt:=I.ok.blt
 above:=f
 inj:=xc scope.names (C+1) _ (fun x c e=>by
   obtain⟨v,q⟩:=I.cell x c (S.sub I.ok x c e);exact Nat.lt_succ_of_le (vW (Nat.lt_of_lt_of_le q.lt f))) fun x y c i j=>I.ok.inj x y c (S.sub I.ok x c i) (S.sub I.ok y c j)
 has:=fun x h=>by
  have p:∃k,(relabel scope X.env).names.lookup x=some k/\(k = .cell\/k = .free):=by
   rcases h with h | h
   ·exact⟨_,h,.inl rfl⟩
   ·exact⟨_,h,.inr rfl⟩
  obtain⟨k,u,t⟩:=p;obtain⟨n,m,_,e⟩:=Q4 (env:=X.env) u;have g:n = .cell\/n = .free:=by
   rcases e with e | ⟨e,_⟩
   ·subst e;exact t
   ·exact .inr e
  rcases g with g | g
  ·subst g;exact xb scope.names _ _ x m
  ·subst g;exact KN scope.names _ _ x (yN scope.names [] x m)
 cab:=fun x c h e=>vU (vU f (Nat.le_succ _)) (xf scope.names (C+1) (C+1) _ x c (vc _) (.inl (PySem.mem_of_lookup (beq_iff_eq.mp h))) e)
 hd:=I.ok.hd
 frames:=I.ok.frames
 stk:=.inl rfl
 exf:=fun b d=>⟨vD (Nat.lt_of_lt_of_le (a b d).1 f),fun x c e=>(S.cel I.ok e).elim (fun q z=>Nat.lt_irrefl _ (Nat.lt_of_lt_of_le (z▸(a b d).1) (vU f (vU (Nat.le_succ _) q)))) fun q=>(a b d).2.2.2.2.2.1 x c q⟩
 bs:=I.bs
 bsz:=vU I.ok.bsz I.sz
 noex:=fun b o e d=>by
  obtain⟨_,_,_,r,_⟩:=(a b d).2;rcases r with z | z
  ·exact I.ok.noex b o e z
  ·exact ug (Nat.lt_of_lt_of_le (vH e) (vU I.ok.bsz z)) (Nat.lt_irrefl _)
 exfs:=fun b d z=>by
  obtain⟨_,i,j,_⟩:=(a b d).2;rcases mem_cons.mp (I.stkSub b z)with e | e
  ·exact i e
  ·exact j e
 funs:=I.stack
 frf:=I.stkFree
theorem XV(S:CompScope X scope ow ci)(I:Inv X pins σ H s){C:Addr}{N:List Addr}{a:Heap}{t₁:Nat}{l:Str->Option Value}(E:s.heap.objs.size<=C)
  (G:∀b∈N,b<s.heap.objs.size/\FpOk X pins H b) (hn:a.Ns C l) (k:∀b o,s.heap.get? b=some o->a.get? b=some o)
  (B:∀x c,(cellsFrom (C+1) scope.names (closL X.env scope.names [])).lookup x=some c->(closL X.env scope.names []).lookup x=some c\/a.IsCell c none) :
  Inv (blk X scope ow ci C s H N (X.pn++pins)) [] (capS ow.length ci σ) H {s with heap:=a,toks:=t₁}:=by
 have ok:=j3e (pn:=X.pn++pins) S I E G;refine⟨ok,rfl,I.bare,Un.kept k,⟨l,hn,fun i x v T g U=>?_⟩,fun x c e=>?_,I.hok.fresh E,fun x c e=>(S.cel I.ok e).elim (fun q=>I.hok.fresh (vU E (vU (Nat.le_succ _) q))) (I.freeC x c),fun p hp=>?_,I.hok.kept k,?_⟩
 ·have t:(ow++ci.map fun j=>X.N.getD j "")[i]?=some x:=T;unfold capS at g;by_cases J:i<ow.length
  ·rw[vA (by simpa using J),List.getElem?_replicate,ve J]at g;cases g
  ·rw[vB (by simpa using J),vv,length_replicate]at g;rw[vB (by lia),vv]at t;cases hj:ci[i-ow.length]? with
   | none=>rw[hj]at g;cases g
   | some j=>
    rw[hj]at t g;obtain⟨hl,F⟩:=S.ix j (vm hj);have y:X.N.getD j ""= x:=vK t;have W:X.N[j]?=some x:=by
     rw[<-y,vy,vz hl];rfl
    have Y:σ[j]?=some (some v):=by
     have f:capAt σ j=some v:=vK g;unfold capAt at f;cases q:σ[j]? with
     | none=>rw[q]at f;cases f
     | some o=>rw[q]at f;rw[show o=some v from f]
    rw[y]at F;have h:(x,NameKind.free)∈scope.names:=PySem.mem_of_lookup F;have P:=S.free _ h rfl;obtain⟨m,_,K⟩:=I.loc;have M:Vis X.env.scope x:=by
     rcases P with q | q
     ·exact .inr (.inl q)
     ·exact .inr (.inr q)
    obtain⟨u,r,lk⟩:=K j x v W Y M;refine⟨u,r,.inr ⟨?_,?_⟩⟩
    ·rcases U with q | q | q
     ·obtain⟨k',_,O,D⟩:=Q4 (env:=X.env) q;rw[F]at O;cases O;rcases D with D | ⟨_,D⟩<;>cases D
     ·exact .inl q
     ·exact .inr q
    ·rcases lk with⟨q,_⟩ | ⟨_,c,Z,w⟩
     ·have Q:X.env.kindOf x=some .local:=q;rcases P with z | z<;>(rw[z]at Q;cases Q)
     ·obtain⟨R,A⟩:=yN (env:=X.env) scope.names [] x h;have e:=S.sub I.ok x R A;rw[Z]at e;cases e;refine⟨c,?_,w.keeps k⟩;show(cellsFrom (C+1) scope.names (closL X.env scope.names [])).lookup x=some c;rw[xg scope.names _ _ x fun z=>?_]
      ·exact A
      ·have:=S.cell _ z rfl;rw[F]at this;cases this
 ·rcases B x c e with q | q
  ·obtain⟨v,q⟩:=I.cell x c (S.sub I.ok x c q);exact⟨v,q.keeps k⟩
  ·exact⟨_,q⟩
 ·have L:p∈X.pn++pins:=by
   rcases vi.mp hp with z | z
   ·exact z
   ·cases z
  obtain⟨e,n,ne,nf,d⟩:=I.pin p L;refine⟨k _ _ e,n,vD (Nat.lt_of_lt_of_le (vH e) E),fun z=>?_,d⟩;rcases mem_cons.mp (I.stkSub p.1 z)with q | q
  ·exact ne q
  ·exact nf q
 ·show(capS ow.length ci σ).length=(ow++ci.map fun j=>X.N.getD j "").length;simp[capS]
theorem Inv.forget{σ':St}(I:Inv X pins σ' H s)(n:Nat)(ci:List Nat)(a:St)(c:(capS n ci a).length=X.N.length)(h:∀i v,n<=i->(capS n ci a)[i]?=some (some v)->σ'[i]?=some (some v)):Inv X pins (capS n ci a) H s:=
 I.weak (by rw[c,I.len]) fun i v e=>by
  by_cases b:n<=i
  ·exact h i v b e
  ·unfold capS at e;rw[vA (by simpa using b),List.getElem?_replicate,ve (by lia)]at e;cases e
def GKeeps(n:Nat)(g:TG):Prop:=∀x σ H (Q:St->Hp->Prop),g x σ H Q->g x σ H fun σ2 H2=>(∀(i:Nat) v,n<=i->σ[i]?=some (some v)->σ2[i]?=some (some v))/\Q σ2 H2
theorem qo{n i:Nat}(h:i<n):GKeeps n (gName i):=fun x b H Q q=>⟨fun j v a e=>by rw[List.getElem?_set_ne (by lia)];exact e,q⟩
theorem Xk{K:Frg}{n i j:Nat}(hi:i<n)(p:j<n):GKeeps n (gTup K 2 (gCons (gName i) (gCons (gName j) gNil))):=fun x t H Q q=>by
 obtain⟨a,o,b,c,d,v,r,f,m,l,g,h,q⟩:=q;refine⟨a,o,b,c,d,v,r,f,m,l,g,h,fun k u s e=>?_,q⟩;rw[List.getElem?_set_ne (by lia),List.getElem?_set_ne (by lia)];exact e
theorem YR{E:Value->Shared->Prop}{J:It}{l:List Addr}{it:Addr}{tn:Nat->Heap->Prop}{RR:Value->Addr->Result->Shared->Prop}(hc:X.calm=true)(S:CompScope X scope ow ci)(hk:GKeeps ow.length g)
  (a:∀C G A ex pn,PG (blk X scope ow ci C G A ex pn) tg g/\PF (blk X scope ow ci C G A ex pn) ifs tf/\PE (blk X scope ow ci C G A ex pn) elt te)
  (I:Inv X pins σ H s) (T:Turn X.prog X.w X.K tg J l it tn) (st:tn 0 s.heap) (hf:∀b∈l,FpOk X pins H b) (Z:List V->Hp->Prop)
  (W:Nat->Nat->List V->Hp->Prop) (w0:∃m,W 0 m [] H)
  (aO:∀i m ys H,W i m ys H->(J.stop i H/\ys.length<=sizeLine/\Z ys H)\/
   (J.go i H/\∃N:List V->Hp->Prop,(∀aP H',N aP H'->∃m',m'<m/\W (i+1) m' aP H')/\∀x H',J.yld i H x H'->g x (capS ow.length ci σ) H' fun aQ H2=>tf aQ H2 fun b H3=>
    if b=true then te aQ H3 fun v H4=>ys.length<sizeLine/\N (ys++[v]) H4 else N ys H3))
  (aX:∀D C s' H' m ys,Inv X pins σ (upd H' D (.lst ys)) s'->H' D=none->Z ys H'->s'.heap.Ns C m->s.heap.objs.size<=C->C≠D->H' C=none->RR (.ref D) C (.ok .next) s') :
  wpAny (model X.prog X.w) X.A (newList []) (fun acc aM=>wpAny (model X.prog X.w) X.A (newFunctionEnv scope X.env.globals (closL X.env scope.names []) [] X.env.qual none .none (some X.env)) (fun a6 aN=>
   codeAny (model X.prog X.w) X.A (.compStart (.ListComp elt [⟨tg,iter,ifs,0⟩] scope pos) 0 (.ref it) acc {a6 with scope:=relabel scope X.env}) (RR acc a6.locals) aN) E aM) E s:=by
 refine wpAny_newObj_type (envC ?_);dsimp only;generalize P:({s with heap:=s.heap.push {cls:=.type "list",dict:=none,data:=.seq ([]:List Value).toArray}}:Shared)=s3;have e3:s3.heap=s.heap.push {cls:=.type "list",dict:=none,data:=.seq ([]:List Value).toArray}:=by rw[<-P]
 rw[<-e3];generalize ad:pushCells (s3.heap.push {cls:=.type "dict",data:=.dict #[]}) scope.names=h₁;have k3:∀b o,s.heap.get? b=some o->s3.heap.get? b=some o:=fun b o e=>by rw[e3];exact vI _ e
 have hsz:s3.heap.objs.size=s.heap.objs.size+1:=by rw[e3,Heap.size_push]
 have I3:Inv X pins σ H s3:=by rw[<-P];exact I.kept (t':=s.toks) fun b o e=>vI _ e
 have b3:s3.heap.get? s.heap.objs.size=some {cls:=.type "list",dict:=none,data:=.seq ([]:List Value).toArray}:=by rw[e3];exact Heap.get?_push_size _ rfl
 generalize ac:s.heap.objs.size=D at *;generalize t:s3.heap.objs.size=C at *;have F:D<C:=by lia
 have aq:H D=none:=I.hok.fresh (Nat.le_of_eq ac);have aY:FpOk X pins H D:=I.fpOk (Nat.le_of_eq ac) aq;have ae:∀(b:Addr) o,s.heap.get? b=some o->b<D:=fun b o e=>by rw[<-ac];exact vH e
 have bc:∀(b:Addr) o,s3.heap.get? b=some o->b<C:=fun b o e=>by rw[<-t];exact vH e
 have a8:∀b∈l,b<D:=fun b a=>by
  obtain⟨o,e,_⟩:=T.obj 0 _ st b a;exact ae b o e
 have M:∀b∈D::l,b<s3.heap.objs.size/\FpOk X pins H b:=fun b a=>by
  rw[t];rcases mem_cons.mp a with rfl | a
  ·exact⟨F,aY⟩
  ·exact⟨vX (a8 b a) F,hf b a⟩
 have kk:∀b o,s3.heap.get? b=some o->h₁.get? b=some o:=fun b o e=>by rw[<-ad];exact pushCells_keeps _ _ b o (vI _ e)
 have O:h₁.Ns C fun _=>none:=by rw[<-ad,<-t];exact(Heap.Ns.new s3.heap (.type "dict")).keeps (pushCells_keeps _ _)
 have ax:∀x c,(cellsFrom (C+1) scope.names (closL X.env scope.names [])).lookup x=some c->(closL X.env scope.names []).lookup x=some c\/h₁.IsCell c none:=fun x c e=>by
  rw[<-ad];refine YQ scope.names _ _ x c ?_;rw[Heap.size_push,t];exact e
 obtain⟨hg,au,he⟩:=a C s3 H (D::l) (X.pn++pins);generalize y:blk X scope ow ci C s3 H (D::l) (X.pn++pins)=Y at hg au he;have f:Y.prog=X.prog:=by rw[<-y];rfl
 have Yw:Y.w=X.w:=by rw[<-y];rfl
 have YK:Y.K=X.K:=by rw[<-y];rfl
 have YA:Y.A=X.A:=by rw[<-y];rfl
 have Yc:Y.calm=true:=by rw[<-y];exact hc
 have h:Y.env=compEnvC scope (cellsFrom (C+1) scope.names (closL X.env scope.names [])) C X.env:=by rw[<-y];rfl
 have aa:Y.xe=fun _ _=>False:=by rw[<-y];rfl
 have am:Y.fs=frs X.stack:=by rw[<-y];rfl
 have al:Y.ex=D::l:=by rw[<-y];rfl
 have aV:Y.pn=X.pn++pins:=by rw[<-y];rfl
 have Ys:Y.s₀=s3:=by rw[<-y];rfl
 have YH:Y.H₀=H:=by rw[<-y];rfl
 have YN:(capS ow.length ci σ).length=Y.N.length:=by rw[<-y];show(capS ow.length ci σ).length=(ow++ci.map fun j=>X.N.getD j "").length;simp[capS]
 have af:∀b∈D::l,b≠Y.env.locals/\b∉Y.fs/\b∈Y.ex/\(∀x c,Y.env.cells.lookup x=some c->c≠b)/\∀p∈Y.pn,p.1≠b:=fun b a=>by
  obtain⟨h0,h1,h2,h3,h4,h5⟩:=(M b a).2;refine⟨by rw[h];exact vD (t▸(M b a).1),fun z=>?_,by rw[al];exact a,fun x c e=>?_,by rw[aV];exact h5⟩
  ·rw[am]at z;rcases mem_cons.mp (I.stkSub b z)with q | q
   ·exact h1 q
   ·exact h2 q
  ·rw[h]at e;rcases S.cel I.ok e with q | q
   ·exact fun z=>Nat.lt_irrefl _ (Nat.lt_of_lt_of_le (t▸(M b a).1) (vU (Nat.le_succ _) (z▸q)))
   ·exact h4 x c q
 have aD:D∉l:=fun z=>Nat.lt_irrefl _ (a8 D z)
 have aB:∀s4:Shared,Inv Y [] (capS ow.length ci σ) H s4->tn 0 s4.heap->s4.heap.PlainList D #[]->
   codeAny (model X.prog X.w) X.A (.compLoop (.ListComp elt [⟨tg,iter,ifs,0⟩] scope pos) 0 (.ref it) (.ref D) (compEnvC scope (cellsFrom (C+1) scope.names (closL X.env scope.names [])) C X.env)) (RR (.ref D) C) s4:=by
  intro s4 J4 R ag;obtain⟨m0,w0⟩:=w0;refine compLoopT (fun n s'=>∃i ys k H',Inv Y [] (capS ow.length ci σ) H' s'/\tn i s'.heap/\(∀b∈l,H' b=none)/\H' D=none/\s'.heap.PlainList D k/\Vals ys k.toList/\W i n ys H') ?_ m0
   ⟨0,[],#[],H,J4,R,fun b a=>(hf b a).1,aq,ag,.nil,w0⟩
  rintro n s5 ⟨i,ys,k,H5,J5,aJ,ao,w,⟨aG,b8⟩,U,w5⟩;have vl:ys.length=k.size:=by have:=U.length;simpa using this
  have aE:∀{H':Hp} {s':Shared} {ai:St},Inv Y [] ai H' s'->H' D=none->∀{o:Obj},s'.heap.get? D=some o->(∀v,o.data≠.cell v)->Inv Y [(D,o)] ai H' s':=fun {H' s' ai} K hD o e d=>
   K.pins_of fun p hp=>by
    have ep:p=(D,o):=by simpa using hp
    subst ep;obtain⟨a1,a2,_⟩:=af D vq;exact⟨e,hD,a1,a2,d⟩
  have P5:=aE J5 w b8 (fun v z=>by cases z);have ab:∀{H':Hp},(∀b∈l,H' b=none)->∀{o:Obj},∀b∈l,FpOk Y [(D,o)] H' b:=fun {H'} hn {o} b a=>by
   obtain⟨a1,a2,a3,a4,a5⟩:=af b (vp _ a);refine⟨hn b a,a1,a2,.inl a3,a4,fun p hp=>?_⟩;rcases vi.mp hp with q | q
   ·exact a5 p q
   ·have ep:p=(D,o):=by simpa using q
    subst ep;exact fun z=>aD (by have z':D=b:=z;rw[z'];exact a)
  rcases aO i n ys H5 w5 with⟨aL,aA,z5⟩ | ⟨go,NN,ar,aK⟩
  ·have d:=T.done Y f Yw YK Yc i [(D,_)] s5 _ H5 (fun _ _=>False) P5 (ab ao) aJ aL;rw[YA]at d;refine thn d fun r s6 ⟨hr,J6⟩=>?_
   subst hr;have D6:=(J6.pin (D,_) (mem_append_right _ vq)).1;obtain⟨mC,av,_⟩:=J6.loc;rw[h]at av;have aw:s6.heap.Ns C mC:=av;have b2:H5 C=none:=by have:=J6.free;rw[h]at this;exact this
   refine aX D C s6 H5 mC ys ?_ w z5 aw (vW F) (vM F) b2;have B:=J6.base;rw[am,al,YH,Ys]at B;have aC:∀b o,s.heap.get? b=some o->b≠D/\b≠C:=fun b o e=>⟨vD (ae b o e),vD (vX (ae b o e) F)⟩
   have Q:∀b o,s.heap.get? b=some o->b∉l->b∉D::l:=fun b o e a z=>by
    rcases mem_cons.mp z with q | q
    ·exact(aC b o e).1 q
    ·exact a q
   have uN:Un (frs X.stack) l H (upd H5 D (.lst ys)) s.heap s6.heap:=by
    refine⟨fun b o e n a hx=>B.keep b o (k3 b o e) n a (Q b o e hx),fun b o e n a hx=>B.slot b o (k3 b o e) n a (Q b o e hx),fun b o e n hx=>?_,fun b o e hx=>B.there b o (k3 b o e) (Q b o e hx),fun b xs q=>?_,fun b o u q=>?_,fun b ps q=>?_⟩
    ·rw[jh (aC b o e).1];exact B.free b o (k3 b o e) n (Q b o e hx)
    ·rw[jh (je (B.tups b xs q) w)];exact B.tups b xs q
    ·rw[jh (je (B.frzs b o u q) w)];exact B.frzs b o u q
    ·obtain⟨mo,q'⟩:=B.tbls b ps q;exact⟨mo,by rw[jh (je q' w)];exact q'⟩
   have ay:HOk X.prog X.w H5 s6.heap:=by rw[<-f,<-Yw];exact J6.hok
   have az:HOk X.prog X.w (upd H5 D (.lst ys)) s6.heap:=fun b u e=>by
    by_cases as:b=D
    ·subst as;rw[jC]at e;cases e;exact⟨aA,k.toList,_,U,by simpa using D6⟩
    ·rw[jh as]at e;exact(ay b u e).stay (fun c v _ q=>q) (fun c q=>by rw[jh (je q w)];exact q) fun c xs q=>by rw[jh (je q w)];exact q
   refine I.call' (by rw[J6.os,Ys,<-P]) uN az J6.bare fun b a=>?_
   obtain⟨h0,h1,h2,h3,h4,h5⟩:=hf b a;exact⟨h3,h1,h4,h5⟩
  ·have d:=T.item Y f Yw YK Yc i [(D,_)] s5 _ H5 (fun _ _=>False) P5 (ab ao) aJ go;rw[YA]at d;refine thn d fun r s6 ⟨u,hr,h6⟩=>?_
   subst hr;refine thn h6 fun _ s7 ⟨x,H7,J7,r7,y7,ah,aZ⟩=>?_
   have aS:=J7.pinned (ab aZ) (T.obj _ _ ah);have h8:=hg _ s7 _ H7 x u _ aS r7 (hk _ _ _ _ (aK x H7 y7));rw[f,Yw,YA,h,aa]at h8;refine thn h8 fun _ s8 ⟨aj,H8,J8,b6,q8⟩=>?_
   have h9:=au _ s8 aj H8 _ J8 q8;rw[f,Yw,YA,h,aa]at h9;refine thn h9 fun b s9 ⟨H9,J9,q9⟩=>?_
   have a0:∀{H':Hp} {s':Shared},Inv Y ([(D,({cls:=.type "list",data:=.seq k aG}:Obj))]++pinsAt l s7.heap) aj H' s'->Inv Y [] (capS ow.length ci σ) H' s'/\tn (i+1) s'.heap/\(∀b∈l,H' b=none)/\H' D=none/\s'.heap.get? D=some {cls:=.type "list",data:=.seq k aG}:=fun {H' s'} K=>by
    have pD:=K.pin (D,_) (mem_append_right _ (mem_append_left _ vq));refine⟨(K.pins_of (pins':=[]) (by simp)).forget _ _ _ YN (fun j v hj e=>b6 j v hj e),T.keep _ _ _ ah fun b a o e=>(K.pin (b,o) (mem_append_right _ (mem_append_right _ (zK a e)))).1,fun b a=>?_,pD.2.1,pD.1⟩;obtain⟨o,e,_⟩:=T.obj _ _ ah b a;exact(K.pin (b,o) (mem_append_right _ (mem_append_right _ (zK a e)))).2.1
   cases b with
   | false=>
    rw[vd vE]at q9|-;obtain⟨m',hm,w9⟩:=ar _ _ q9;obtain⟨K9,ba,b0,b4,e9⟩:=a0 J9;exact⟨m',hm,i+1,ys,k,H9,K9,ba,b0,b4,⟨_,e9⟩,U,w9⟩
   | true=>
    rw[ve rfl]at q9|-;have ap:=he _ s9 aj H9 _ J9 q9;rw[f,Yw,YA,h,aa]at ap;refine thn ap fun z aH ⟨v,ak,aR,b9,b5,b7⟩=>?_
    obtain⟨m',hm,bb⟩:=ar _ _ b7;obtain⟨aT,aI,an,a7,aW⟩:=a0 aR;refine wpAny_list_append_plain (hsz:=by rw[<-vl];exact vW b5) ⟨_,aW⟩ fun b1 aF a9=>?_
    obtain⟨a1,a2,a3,a4,a5⟩:=af D vq;have aU:Inv Y [] (capS ow.length ci σ) ak {aH with heap:=b1}:=aT.turned (t':=aH.toks) (fun b o a e=>(a9.2 b a).trans e) a7 a1 (.inl a3) a4 (fun p hp=>a5 p (by simpa using hp));refine⟨m',hm,i+1,ys++[v],k.push z,ak,aU,T.keep _ _ _ aI fun b a o e=>(a9.2 b (fun q=>aD (q▸a))).trans e,an,a7,aF,?_,bb⟩;rw[Array.toList_push];exact U.append (.cons b9 .nil)
 have J4:Inv Y [] (capS ow.length ci σ) H {s3 with heap:=h₁}:=by
  rw[<-y];exact XV (t₁:=s3.toks) S I3 (Nat.le_of_eq t) M O kk ax
 have R:tn 0 h₁:=T.keep _ _ _ st fun b _ o e=>kk b o (k3 b o e)
 have ag:h₁.PlainList D #[]:=⟨_,kk _ _ b3⟩
 have L:=aB _ J4 R ag;subst P;exact codeAny_compStart_list L (T.self _ 0 _ _ _ R L)
variable{wi:TI}
theorem qA(P:X.calm=true)(S:CompScope X scope ow ci)(R:GKeeps ow.length g)(hi:PI X tg iter wi)
  (n:∀C c a ex pn,PG (blk X scope ow ci C c a ex pn) tg g/\PF (blk X scope ow ci C c a ex pn) ifs tf/\PE (blk X scope ow ci C c a ex pn) elt te)
  (Y:∀x,foldedSetIterable iter X.env x=pure x:=by intro _;rfl):PE X (.ListComp elt [⟨tg,iter,ifs,0⟩] scope pos) (tComp wi ow.length ci g tf te):=by
 intro d s u H Q I h;rw[eval_ListComp];refine wpAny_comprehension_free (use:=none) rfl Y (yf (S.cells I.ok)) S.kind S.names (thn (hi d s u H _ I h) fun v s1 L=>thn L fun Z s2 M=>?_);obtain⟨it,fp,tn,J,H2,e,t,T,r,A,W,w0,f⟩:=M;subst e;refine YR (RR:=fun j C=>compPost (model X.prog X.w) X.A X.xe none (EP X d u Q) j C) P S R n t T r A (fun i H=>∀p,H p=none->Q (.ref p) (upd H p (.lst i))) W w0 f fun D C s' H' m i K O z U N l k=>?_
 refine⟨m,U,fun h' q=>⟨.ref D,upd H' D (.lst i),?_,rfl,z D O⟩⟩;obtain⟨w,y,B,E,F,G⟩:=t.fpOk (H':=upd H' D (.lst i)) N (by rw[jh l];exact k);exact K.turned (t':=s'.toks) (fun b o n e=>(q.2 b n).trans e) w y E F G
theorem Yv{i:Nat}{x:Str}{k j:Pos}(hc:X.calm=true)(S:CompScope X scope ow ci)(hk:GKeeps ow.length g)(hN:X.N.Nodup)(E:X.N[i]?=some x)(hx:Loc X.env.scope x)(hi:PI X tg iter wi)
  (w:∀C f c ex pn,PG (blk X scope ow ci C f c ex pn) tg g/\PF (blk X scope ow ci C f c ex pn) ifs tf/\PE (blk X scope ow ci C f c ex pn) elt te)
  (B:swapsWith (.ListComp elt [⟨tg,iter,ifs,0⟩] scope pos) (some (.Name x k)) j.line X.env=pure true:=by rfl)
  (hf:X.fn x=true\/X.env.scope.names.lookup x=some .local:=by first | exact .inl rfl | exact .inr rfl | assumption)
  (hs:∀x,foldedSetIterable iter X.env x=pure x:=by intro _;rfl):PS X (.Assign [.Name x k] (.ListComp elt [⟨tg,iter,ifs,0⟩] scope pos) j) (tAsg (tComp wi ow.length ci g tf te) (gName i)):=by
 intro d s O H D I h;rw[exec_Assign_Name_used _ _ _ _ B];refine uk (wpAny_standAt (uk ?_));show wpAny _ X.A (do let _ <-comprehension (.ListComp elt [⟨tg,iter,ifs,0⟩] scope pos) scope X.env _ (newList []) false (eval iter X.env) (some (assign (.Name x k) X.env))) _ _ s;refine uk (wpAny_mono (wpAny_comprehension_free (use:=some (assign (.Name x k) X.env)) (Q:=fun _ l=>SP X d D .next l) rfl hs (yf (S.cells I.ok)) S.kind S.names
  (thn (hi d s O H _ I h) fun v s1 h1=>thn h1 fun a0 s2 h2=>?_)) (fun _ l hq=>uh (uh hq)) fun _ _ e=>e)
 obtain⟨it,fp,tn,J,H2,e,L,T,F,Y,W,w0,n⟩:=h2;subst e;refine YR (RR:=fun r C=>compPost (model X.prog X.w) X.A X.xe (some (assign (.Name x k) X.env)) (fun _ l=>SP X d D .next l) r C) hc S hk w L T F Y
  (fun G H=>∀p,H p=none->gName i (.ref p) O (upd H p (.lst G)) D.nx) W w0 n fun P C l H' m G K hD z hn hC u t=>?_
 obtain⟨U,M,Z,f3,N,f5⟩:=L.fpOk (H':=upd H' P (.lst G)) hC (by rw[jh u];exact t);show wpAny _ X.A (assign (.Name x k) X.env (.ref P)) _ _ l;refine wpAny_assign_Name (Kt K hN E hx (v:=.ref P) rfl (fun s3 R ⟨a,A,ha⟩=>⟨m,hn.sameBut A ?_,fun h' y=>?_⟩) hf)
 ·rcases ha with q | q
  ·rw[q];exact M
  ·exact fun z=>N x a q z.symm
 ·exact⟨_,_,R.turned (t':=s3.toks) (fun b o w e=>(y.2 b w).trans e) U M f3 N f5,z P hD⟩
theorem ZP{lo:Int}{n k:Nat}{ci:List Nat}{g:TG}{q:TT}{o:TE}{r:St}{H:Hp}{Z:Addr->List V->Hp->Prop}(c:Nat->List V->Hp->Prop)(s:c 0 [] H)
  (t:∀i ys H,i<n->c i ys H->g (.int (lo+i)) (capS k ci r) H fun a H2=>q a H2 fun b h=>if b=true then o a h fun v j=>ys.length<sizeLine/\c (i+1) (ys++[v]) j else c (i+1) ys h)
  (hd:∀ys H,c n ys H->ys.length<=sizeLine/\∀p,H p=none->Z p ys H) :
  ∃W:Nat->Nat->List V->Hp->Prop,(∃m,W 0 m [] H)/\∀i m ys H,W i m ys H->
   ((Itr lo n).stop i H/\ys.length<=sizeLine/\∀p,H p=none->Z p ys H)\/
   ((Itr lo n).go i H/\∃N:List V->Hp->Prop,(∀f H',N f H'->∃l,l<m/\W (i+1) l f H')/\∀x H',(Itr lo n).yld i H x H'->g x (capS k ci r) H' fun a H2=>q a H2 fun b h=>
    if b=true then o a h fun v j=>ys.length<sizeLine/\N (ys++[v]) j else N ys h):=by
 refine⟨fun i m ys H=>m=n-i/\i<=n/\c i ys H,⟨n,by simp,vb _,s⟩,?_⟩;rintro i m ys H ⟨rfl,w,p⟩;by_cases d:i<n
 ·refine .inr ⟨d,c (i+1),fun f H' u=>⟨n-(i+1),by lia,rfl,d,u⟩,fun x H' y=>?_⟩;obtain⟨e,y⟩:=y;subst e y;exact t i ys _ d p
 ·have e:i=n:=by lia
  subst e;exact .inl ⟨vc _,hd ys H p⟩
theorem qi{K:Frg}{a:Addr}{xs:List V}{k:Nat}{ci:List Nat}{g:TG}{r:TT}{o:TE}{s:St}{H:Hp}{Z:Addr->List V->Hp->Prop}(d:Nat->List V->Hp->Prop)(t:d 0 [] H)(w:∀i ys H,i<=xs.length->d i ys H->SqL K H a xs)
  (z:∀i x ys H,xs[i]?=some x->d i ys H->g x (capS k ci s) H fun c H2=>r c H2 fun b h=>if b=true then o c h fun v l=>ys.length<sizeLine/\d (i+1) (ys++[v]) l else d (i+1) ys h)
  (hd:∀ys H,d xs.length ys H->ys.length<=sizeLine/\∀p,H p=none->Z p ys H) :
  ∃W:Nat->Nat->List V->Hp->Prop,(∃m,W 0 m [] H)/\∀i m ys H,W i m ys H->
   ((Itl K a).stop i H/\ys.length<=sizeLine/\∀p,H p=none->Z p ys H)\/
   ((Itl K a).go i H/\∃N:List V->Hp->Prop,(∀f H',N f H'->∃n,n<m/\W (i+1) n f H')/\∀x H',(Itl K a).yld i H x H'->g x (capS k ci s) H' fun c H2=>r c H2 fun b h=>
    if b=true then o c h fun v l=>ys.length<sizeLine/\N (ys++[v]) l else N ys h):=by
 refine⟨fun i m ys H=>m=xs.length-i/\i<=xs.length/\d i ys H,⟨xs.length,by simp,vb _,t⟩,?_⟩;rintro i m ys H ⟨rfl,u,p⟩;have q:=w i ys H u p;by_cases j:i<xs.length
 ·refine .inr ⟨⟨xs,xs[i],q,by simp[j]⟩,d (i+1),fun f H' A=>⟨xs.length-(i+1),by lia,rfl,j,A⟩,fun x H' y=>?_⟩;obtain⟨e,y⟩:=y;subst e;exact z i x ys _ (y xs q) p
 ·have e:i=xs.length:=by lia
  subst e;exact .inl ⟨⟨xs,q,vc _⟩,hd ys H p⟩
end
theorem XB:(10:Nat)^250<2^831:=by decide +kernel
theorem wW{x:Int}(a : -10^250<=x)(b:x<=10^250):Builtin.Int.intBits x<=1048576:=by
 refine vU (PySem.intBits_le_iff.mpr ?_:Builtin.Int.intBits x<=831) (by decide);have:x.natAbs<=10^250:=by lia
 exact vC this XB
theorem mulOk{x y:Int}(a : -10^250<=x)(b:x<=10^250)(c : -10^250<=y)(d:y<=10^250):IntMulOk x y:=.of_bits (wW a b) (wW c d)
section
variable{X:Cx}
theorem Qc:OpR X (binaryOp .Mult) (rI IntMulOk fun i j=>.int (i*j)):=opI fun _ _ _ _ _ _ _ a q=>mul_int q a
def CDivB(_ j:Int):Prop:=0<j/\j<=10^250
theorem cdivB{i j:Int}(a:0<j)(b:j<=10^250):CDivB i j:=⟨a,b⟩
theorem Jb:OpR X (binaryOp .FloorDiv) (rI CDivB fun i j=>.int (i/j)):=opI fun i j _ _ _ _ _ a q=>by
 have b:(0:Int)<j:=a.1;have c:j<=10^250:=a.2;refine floordiv_int (by lia) ?_ (.inl (PyProof.noPylong_of_log2 ?_))
 ·rw[Int.fdiv_eq_ediv_of_nonneg _ (by lia)];exact q
 ·have e:j.natAbs<=10^250:=by lia
  have g:j.natAbs.log2<831:=(Nat.log2_lt (by lia)).mpr (vC e XB);lia
theorem wY:CallR X (.builtin "isinstance") (fun xs H Q=>∃x T t b,xs=[x,.ty T]/\TyOf X.K H x t/\PySem.W.kitOne X.K t (.type T)=some b/\Q (.bl b) H):=by
 intro a s j H xs i Q I r h;obtain⟨x,T,t,b,rfl,ty,e,q⟩:=h;obtain⟨u,f,rfl,d,c⟩:=vals2 r;cases(show f=Value.type T from c);exact X7 I d ty e fun g=>⟨.bl b,H,I.tok _,rfl,q⟩
theorem j0u{prog:Program}{w:World}{A:Around}{E:Value->Shared->Prop}{s:Shared}{l:Addr}{xs:Array (Int×Tok)}{Q:Value->Shared->Prop}(y:A.handled=none)(d:s.heap.IsList l (intItems xs))
  (h:∀h' tk t',(∀b o,s.heap.get? b=some o->h'.get? b=some o)->Q (.int (preSum (numAt xs) xs.size) t') {s with heap:=h',toks:=tk}) :
  wpAny (model prog w) A (call (.builtin "sum") [.ref l]) Q E s:=by
 obtain⟨o,m,B,n,C⟩:=id d;have f:l≠s.heap.objs.size:=vD (vH m);have g:(intItems xs).size=xs.size:=by simp[intItems]
 have W:=(Walks.list (prog:=prog) (w:=w) (A:=A.in1) y s.heap.objs.size l f (intItems xs)).toS;rw[g]at W;refine call_sum_walkAnyS (wpAny_pyIter_list d ?_);refine⟨s.heap.objs.size,_,_,_,_,_,_,numAt xs,rfl,W,⟨⟨_,Heap.get?_push_size _ rfl,rfl,rfl⟩,d.at fun o e=>vI _ e⟩,fun b a=>?_,fun i v x=>intItems_at x,fun z t' c=>?_⟩
 ·rcases mem_cons.mp a with rfl | a
  ·exact vH (Heap.get?_push_size _ rfl)
  ·obtain rfl:=vo.mp a;exact vH (vI _ m)
 ·obtain⟨h',u,p,k,j⟩:=z;have q:u=s.gens:=c.gens;have r:p=s.drawn:=c.drawn;have t:j=s.os:=c.os;subst q r t;exact h h' k t' fun b o e=>c.heap b o (fun a=>ug (vH e) ((vo.mp a)▸Nat.lt_irrefl _)) (vI _ e)
theorem yL(f:X.calm=true):CallR X (.builtin "sum") (fun xs H Q=>∃(p:Addr) (ns:List Int),xs=[.ref p]/\SqL X.K H p (ns.map V.int)/\Q (.int ns.sum) H):=by
 intro e s y H xs w Q I r h;obtain⟨p,ns,rfl,i,q⟩:=h;obtain⟨u,rfl,m⟩:=vals1 r;cases m;obtain⟨a,l,k,o⟩:=I.list i;have c:IntsAre a ns:=intsAre_of l;obtain⟨x,j⟩:=c.allInts.items;have b:numsOf a.toArray.toList=ns:=by rw[show a.toArray.toList=a from rfl,c.numsOf]
 have d:=k.isList;rw[j]at d b;rw[nums_intItems]at b;refine j0u (I.ok.hd f) d fun n v t g=>?_
 rw[preSum_eq,List.take_of_length_le (by simp),b];exact⟨.int ns.sum,H,I.kept g,⟨_,rfl⟩,q⟩
end
end L2
namespace Att
open PySem PySem.W PySem.Calls PyProof.Rows
theorem Yf:∀(ns:List Int) (x:Int),x∈ns->Builtin.Int.intBits x<=WData.weightAll (ns.map WData.int)
 | [],_,h=>by cases h
 | n::r,x,h=>by
  show _<=WData.weight (.int n)+1+WData.weightAll (r.map WData.int);rcases mem_cons.mp h with e | h
  ·subst e;have e:Builtin.Int.intBits x=WData.weight (.int x):=by
    unfold Builtin.Int.intBits WData.weight;rfl
   lia
  ·have:=Yf r x h;lia
theorem KH{l:OpenLaw}{n:Nat}{q:Program}{c:List Str}{C:(Str->Option Value)->Heap->Prop}{D:World->Heap->Prop}{d:DefRec}
  (Q:l.most=some n) (v:d.params.defaults=[])
  (j:∀(w:World) (e b:Shared) (mg A:Str->Option Value) (fa:Addr) (o:Obj) (B t g:Value) (a:Addr) (vs:List Value) (ns:List Int),
   Ground q c [] C w e mg A b.heap->D w b.heap->
   b.heap.get? fa=some o->o.data = .func (docDef d.name d.params d.body d.scope B t g)->b.heap.CodeRec t d.name->mg d.name=some (.ref fa)->
   b.heap.get? a=some {cls:=.type "list",data:=.seq vs.toArray}->IntsAre vs ns->ns.length<=n->(∀x∈ns,Builtin.Int.intBits x<=1048576)->b.gens = #[]->
   codeAny (model l.prog w) callerA (.call (.ref fa) ⟨[.ref a],[]⟩) (fun r s'=>r = .ok (.ret (.bool true))/\OldK b.heap s'.heap/\s'.os=b.os/\AllBare s'.gens) b) :
  WalkO q c C D l.row.toRowW d [] (fun f vs=>PySem.call f vs):=by
 intro w e b mg A G Y fa o B t g I kV R M u F y N E H X s k T z O;obtain rfl:I = .none:=Dflts.none F v;obtain rfl:kV = .none:=Dflts.noKw F;obtain⟨a,vs,ns,rfl,rfl,p,i,m⟩:=j0n Q s z;have h:∀x∈ns,Builtin.Int.intBits x<=1048576:=by
  have U:(WData.list (ns.map WData.int)).weight<=2^20:=(layableW_iff.mp (layW_cons k).1).2.2;intro x W;exact vU (Yf ns x W) U
 refine enter_call (codeAny_mono (j w e b mg A fa o B t g a vs ns G Y R (fd_plain M) u y p i m h N) fun r s' S=>?_);obtain⟨rfl,J,K,L⟩:=S;exact⟨.inl ⟨.bool true,.bool true,[],rfl,fun _=>rfl,.bool true,j0b l _,fun _=>⟨List.Pairwise.nil,fun _ P=>(nomatch P)⟩⟩,J,K,L⟩
end Att
namespace L2
open PySem PySem.Spec PyProof.Rows
theorem j23{l:PySem.W.OpenLaw}{n k:Nat}{q:Program}{i:List Str}{D:(Str->Option Value)->Heap->Prop}{B:World->Heap->Prop}{d:DefRec}{K:Params->Frg}{CX:CXT}{sp:Frg->Sp}{x:Str}
  (Q:l.most=some n) (y:n<=sizeLine) (r:d.params.defaults=[]) (R:Room k callerA)
  (M:∀(w:World) (h:Heap),B w h->(K w.params).In h)
  (F:∀(w:World) (mg:Str->Option Value) (fa:Addr) (h:Heap),(K w.params).In h->h.Ns mainGlobals mg->mg d.name=some (.ref fa)->
   ∃fd:FuncData,(∀(s:Shared) (u:Value),BindsTo s fd ⟨[u],[]⟩ [(x,u)])/\
    ∀base:Heap,(K w.params).In base->base.Ns mainGlobals mg->FnOk l.prog w (K w.params) mg base CX k fa fd [x] (sp (K w.params)))
  (z:∀(K:Frg) (H:Hp) (a:Addr) (ns:List Int),ns.length<=n->(∀x∈ns,Builtin.Int.intBits x<=1048576)->Only H->SqL K H a (ns.map V.int)->sp K [.ref a] H (fun v _=>v = .bl true) fun _ _ _=>False)
  (p:∀(H:Hp) (s:Shared) (e:Value) (s':Shared),CX [] H s (fun _ _ _=>False) e s'->False) :
  PySem.W.WalkO q i D B l.row.toRowW d [] (fun f vs=>PySem.call f vs):=by
 refine Att.KH Q r fun w C m mg W fa o X S E a vs ns G Y U T O t j g b c P=>?_
 have A:=M w _ Y;obtain⟨fd,N,I⟩:=F w mg fa _ A G.T.g t;exact j12 A G.T.g G.T.b G.T.builtins G.T.nolimit P j g (vU b y) R I N (fun H J L=>z _ H a ns b c J L) fun H e s'=>p H m e s'
section
variable{P:Program}{w:World}{K:Frg}{mg:Str->Option Value}{base:Heap}
end
theorem SP.nx{X:Cx}{a:List (Addr×Obj)}{D:Ends}{R:St->Hp->Prop}(b:∀σ' H',R σ' H'->D.nx σ' H'){f:Flow}{s:Shared}(h:SP X a {D with nx:=R} f s):SP X a D f s:=by
 cases f with
 | next=>obtain⟨σ',H',I,q⟩:=h;exact⟨σ',H',I,b _ _ q⟩
 | brk=>exact h
 | cont=>exact h
 | ret u=>exact h
def tIfJ(c:TT)(t u:TS):TS:=fun D σ H=>∃R:St->Hp->Prop,(∀σ' H',R σ' H'->D.nx σ' H')/\tIfS c t u {D with nx:=R} σ H
theorem JU{X:Cx}{e:Pos}{t u:TS}{c:Expr}{a b:List Stmt}{g:TT}(l:PT X c g)(j:PSs X a t)(k:PSs X b u):PS X (.If c a b e) (tIfJ g t u):=by
 intro d s m H D I h;obtain⟨R,i,h⟩:=h;exact thn (j2 l j k d s m H _ I h) fun f n q=>q.nx i
open PySem
theorem Je:bootBuiltins "len"= some (.builtin "len"):=by decide +kernel
theorem KJ:bootBuiltins "max"= some (.builtin "max"):=by decide +kernel
theorem W8:bootBuiltins "min"= some (.builtin "min"):=by decide +kernel
theorem W9:bootBuiltins "sum"= some (.builtin "sum"):=by decide +kernel
theorem ZJ:bootBuiltins "isinstance"= some (.builtin "isinstance"):=by decide +kernel
theorem W7:bootBuiltins "abs"= some (.builtin "abs"):=by decide +kernel
theorem XW:bootBuiltins "sorted"= some (.builtin "sorted"):=by decide +kernel
theorem j3f:bootBuiltins "int"= some (.type "int"):=by decide +kernel
theorem j2e:bootBuiltins "bool"= some (.type "bool"):=by decide +kernel
theorem j2f:bootBuiltins "list"= some (.type "list"):=by decide +kernel
theorem ye:bootBuiltins "tuple"= some (.type "tuple"):=by decide +kernel
theorem yd:bootBuiltins "dict"= some (.type "dict"):=by decide +kernel
theorem KI:bootBuiltins "enumerate"= some (.type "enumerate"):=by decide +kernel
theorem j3g:bootBuiltins "zip"= some (.type "zip"):=by decide +kernel
theorem wX:bootBuiltins "reversed"= some (.type "reversed"):=by decide +kernel
theorem j10(K:Frg)(t:Value)(h:(t==t)=true):PySem.W.kitOne K t t=some true:=by unfold PySem.W.kitOne;rw[ve h]
theorem X8(K:Frg){a b:String}{v:Bool}(c:(Value.type a==Value.type b)=false)(d:PySem.W.kitMeta b=true)(e:PySem.W.subIn [] (.type a) (.type b)=some v):PySem.W.kitOne K (.type a) (.type b)=some v:=by
 unfold PySem.W.kitOne;rw[vd (by rw[c];exact vE)];show(if PySem.W.kitMeta b=true then _ else _)=_;rw[ve d];exact e
theorem X5{K:Frg}:PySem.W.kitOne K (.type "int") (.type "int")=some true:=j10 K _ (by decide +kernel)
theorem xm{K:Frg}:PySem.W.kitOne K (.type "int") (.type "bool")=some false:=X8 K (by decide +kernel) (by decide +kernel) (by decide +kernel)
section
variable{X:Cx}{tg:Expr}
theorem j1N:SlR X (fun x lo hi H Q=>∃z,x = .str z/\z.length<=sizeLine/\Q (.str (Txt.slice z lo hi)) H):=by
 intro b s n H x v p r lo hi o Q I m c g e h;obtain⟨z,rfl,d,q⟩:=h;obtain⟨t,rfl⟩:=m;refine⟨"str",_,F.slot_str_getitem.lookup,typeIs_str _ _ _,?_⟩;have a:∀(lo hi:Option Int),Q (.str (Txt.slice z lo hi)) H->∀f k,EP X b n Q (.str (Txt.slice z lo hi) f) {s with toks:=k}:=fun lo hi q f k=>⟨.str _,H,I.tok _,⟨_,rfl⟩,q⟩
 cases g with
 | none=>
  cases e with
  | none=>exact wpAny_getItem_str_slice (l:=none) (u:=none) (st:=none) c rfl (post_val_or_str ⟨vU (Txt.slice_le z _ _) d,a _ _ q⟩)
  | int j uj=>exact wpAny_getItem_str_slice (l:=none) (u:=some (j,uj)) (st:=none) c rfl (post_val_or_str ⟨vU (Txt.slice_le z _ _) d,a _ _ q⟩)
 | int i ui=>
  cases e with
  | none=>exact wpAny_getItem_str_slice (l:=some (i,ui)) (u:=none) (st:=none) c rfl (post_val_or_str ⟨vU (Txt.slice_le z _ _) d,a _ _ q⟩)
  | int j uj=>exact wpAny_getItem_str_slice (l:=some (i,ui)) (u:=some (j,uj)) (st:=none) c rfl (post_val_or_str ⟨vU (Txt.slice_le z _ _) d,a _ _ q⟩)
theorem rd_str{z:Str}{R:Str->Prop}(h:R z):∃a,V.str z = .str a/\R a:=⟨z,rfl,h⟩
end
section
variable{X:Cx}{K:Frg}
theorem yl(e:X.K=K):IxR X (rIxL K):=by subst e;exact jv
theorem Xp(e:X.K=K):IxR X (rIxT K):=by subst e;exact jt
theorem kZ(e:X.K=K):CallR X (.builtin "len") (fun xs H Q=>∃x n,xs=[x]/\LenV K x H n/\Q (.int n) H):=by subst e;exact jR
theorem ZX(e:X.K=K):OpR X (compareOp .In) (rIn K false):=by subst e;exact j0a
end
mutual
inductive DV(H:Hp):V->PyData->Prop
 | non:DV H .non .none
 | bl (b:Bool):DV H (.bl b) (.bool b)
 | int (i:Int):DV H (.int i) (.int i)
 | str (x:Str):DV H (.str x) (.str x)
 | lst {a:Addr} {xs:List V} {ds:List PyData}:H a=some (.lst xs)->DVs H xs ds->DV H (.ref a) (.list ds)
 | tup {a:Addr} {xs:List V} {ds:List PyData}:H a=some (.tup xs)->DVs H xs ds->DV H (.ref a) (.tuple ds)
inductive DVs(H:Hp):List V->List PyData->Prop
 | nil:DVs H [] []
 | cons {x:V} {d:PyData} {xs:List V} {ds:List PyData}:DV H x d->DVs H xs ds->DVs H (x::xs) (d::ds)
end
section
variable{X:Cx}
mutual
theorem QZ{a:List (Addr×Obj)}{s:Shared}{w:St}{H:Hp}(I:Inv X a w H s):∀{v:V} {d:PyData} {u:Value},DV H v d->RelV v u->∃as,Reads s.heap u d as
 | _,_,_,.non,r=>⟨_,by cases r;exact Reads.none⟩
 | _,_,_,.bl b,r=>⟨_,by cases r;exact Reads.bool b⟩
 | _,_,_,.int i,r=>by obtain⟨t,rfl⟩:=r;exact⟨_,Reads.int i t⟩
 | _,_,_,.str x,r=>by obtain⟨t,rfl⟩:=r;exact⟨_,Reads.str x t⟩
 | _,_,_,.lst e q,r=>by
  cases r;obtain⟨_,f,c,h,l⟩:=I.hok _ _ e;obtain⟨as,g⟩:=yO I q h;exact⟨_,reads_list_at l rfl rfl (by simpa using g)⟩
 | _,_,_,.tup e q,r=>by
  cases r;obtain⟨f,h,p,_⟩:=I.tuple (SqT.of e);obtain⟨o,m,j,n,k⟩:=p;obtain⟨as,g⟩:=yO I q h;exact⟨_,reads_tuple_at m j k (by simpa using g)⟩
theorem yO{b:List (Addr×Obj)}{s:Shared}{e:St}{H:Hp}(I:Inv X b e H s):∀{vs:List V} {ds:List PyData} {us:List Value},DVs H vs ds->Vals vs us->∃as,ReadsAll s.heap us ds as
 | _,_,_,.nil,r=>by cases r;exact⟨_,ReadsAll.nil⟩
 | _,_,_,.cons a q,r=>by
  cases r with
  | cons r1 r2=>
   obtain⟨as,c⟩:=QZ I a r1;obtain⟨f,d⟩:=yO I q r2;exact⟨_,ReadsAll.cons c d⟩
end
theorem Y7(f:X.A.units+64<cLine):OpR X (compareOp .Eq) (fun x y H Q=>∃d e,DV H x d/\DV H y e/\SeqAt.shaped d=true/\SeqAt.shaped e=true/\Q (.bl (PyData.eqv d e)) H):=by
 intro a s p H x y v u Q I j k h;obtain⟨d,e,b,c,l,m,q⟩:=h;obtain⟨n,g⟩:=QZ I b j;obtain⟨o,i⟩:=QZ I c k;exact eq_dataH g i l m f ⟨.bl _,H,I,rfl,q⟩
theorem xF(f:X.A.units+64<cLine):OpR X (compareOp .NotEq) (fun x y H Q=>∃d e,DV H x d/\DV H y e/\SeqAt.shaped d=true/\SeqAt.shaped e=true/\Q (.bl (!PyData.eqv d e)) H):=by
 intro a s p H x y v u Q I j k h;obtain⟨d,e,b,c,l,m,q⟩:=h;obtain⟨n,g⟩:=QZ I b j;obtain⟨o,i⟩:=QZ I c k;exact ne_dataH g i l m f ⟨.bl _,H,I,rfl,q⟩
theorem yJ(o:X.calm=true):CallR X (.builtin "max") (fun xs H Q=>∃(p:Addr) (ns:List Int),xs=[.ref p]/\SqL X.K H p (ns.map V.int)/\0<ns.length/\∀m∈ns,(∀a∈ns,a<=m)->Q (.int m) H):=by
 intro l s K H xs J Q I r h;obtain⟨p,ns,rfl,z,c,q⟩:=h;obtain⟨u,rfl,D⟩:=vals1 r;cases D;obtain⟨A,C,B,_⟩:=I.list z;have i:=intsAre_of C;have k:=B.isList;obtain⟨xs,e⟩:=i.allInts.items;have b:ns=xs.toList.map (·.1):=by rw[<-i.numsOf,<-nums_intItems,<-e]
 have d:0<xs.size:=by
  have f:=c;rw[b,vt,Array.length_toList]at f;exact f
 rw[e]at k;refine max_intList (I.ok.hd o) k d fun v F E y x=>?_
 obtain⟨t,rfl⟩:=intItems_at y;obtain⟨G,n⟩:=argBest_gt (numAt xs) (xs.size-1);refine⟨.int _,H,I.kept (t':=E) x,⟨_,rfl⟩,q _ ?_ fun a g=>?_⟩
 ·rw[b,numAt_eq];exact getD_mem (by rw[vt,Array.length_toList];lia)
 ·rw[b]at g;obtain⟨j,w,rfl⟩:=mem_getD g;rw[vt,Array.length_toList]at w;rw[<-numAt_eq];exact n j (by lia)
end
section
variable{σ:St}{H:Hp}{Q:VK}
theorem rd_dget{b c:TE}(h:b σ H fun x H1=>c σ H1 fun y H2=>∃a v,x = .ref a/\DGet H2 a y (some v)/\Q v H2):tDGet b c σ H Q:=h
end
def TabK(K:Frg)(a:Addr)(D:List (Str×PyProof.Rows.KTD.Dat)):Prop:=PyProof.Rows.KTD.tabLook (PyProof.Rows.KTD.datLooks fun b=>K.lookup b) (fun b=>K.lookup b) a D=true
section
variable{X:Cx}
theorem j3w:OpR X (compareOp .In) (fun x y H Q=>∃a k D,x = .str k/\y = .ref a/\TabK X.K a D/\Q (.bl (PyProof.Rows.KTD.inKeys k D)) H):=by
 intro b s f H x y v u Q I c d h;obtain⟨a,k,D,rfl,rfl,T,q⟩:=h;obtain⟨t,rfl⟩:=c;cases d;exact PyProof.Rows.KTD.in_text (h₀:=s.heap) ⟨PySem.W.kt_text_in I.kIn T,fun _ _ e=>e⟩ ⟨.bl _,H,I.tok _,rfl,q⟩
end
theorem yg{K:Frg}{a:Addr}{xs:List V}{k:Nat}{ci:List Nat}{g:TG}{r:TT}{o:TE}{s:St}{H:Hp}{Z:Addr->List V->Hp->Prop}(d:Nat->List V->Hp->Prop)(t:d 0 [] H)(w:∀i ys H,i<=xs.length->d i ys H->SqT K H a xs)
  (z:∀i x ys H,xs[i]?=some x->d i ys H->g x (capS k ci s) H fun c H2=>r c H2 fun b h=>if b=true then o c h fun v l=>ys.length<sizeLine/\d (i+1) (ys++[v]) l else d (i+1) ys h)
  (hd:∀ys H,d xs.length ys H->ys.length<=sizeLine/\∀p,H p=none->Z p ys H) :
  ∃W:Nat->Nat->List V->Hp->Prop,(∃m,W 0 m [] H)/\∀i m ys H,W i m ys H->
   ((Itt K a).stop i H/\ys.length<=sizeLine/\∀p,H p=none->Z p ys H)\/
   ((Itt K a).go i H/\∃N:List V->Hp->Prop,(∀f H',N f H'->∃n,n<m/\W (i+1) n f H')/\∀x H',(Itt K a).yld i H x H'->g x (capS k ci s) H' fun c H2=>r c H2 fun b h=>
    if b=true then o c h fun v l=>ys.length<sizeLine/\N (ys++[v]) l else N ys h):=by
 refine⟨fun i m ys H=>m=xs.length-i/\i<=xs.length/\d i ys H,⟨xs.length,by simp,vb _,t⟩,?_⟩;rintro i m ys H ⟨rfl,u,p⟩;have q:=w i ys H u p;by_cases j:i<xs.length
 ·refine .inr ⟨⟨xs,xs[i],q,by simp[j]⟩,d (i+1),fun f H' A=>⟨xs.length-(i+1),by lia,rfl,j,A⟩,fun x H' y=>?_⟩;obtain⟨e,y⟩:=y;subst e;exact z i x ys _ (y xs q) p
 ·have e:i=xs.length:=by lia
  subst e;exact .inl ⟨⟨xs,q,vc _⟩,hd ys H p⟩
theorem rd_iTup{K:Frg}{b:TE}{c:St}{H:Hp}{R:It->Hp->Prop}(h:b c H fun x H1=>∃a,x = .ref a/\(∃xs,SqT K H1 a xs)/\R (Itt K a) H1):iTup K b c H R:=h
theorem Qk{K:Frg}{i j:Nat}{a:Addr}{x y:V}{b:St}{H:Hp}{R:St->Hp->Prop}(e:SqT K H a [x,y])(h:gName i x b H fun σ' H'=>gName j y σ' H' R):gTup K 2 (gCons (gName i) (gCons (gName j) gNil)) (.ref a) b H R:=
 ⟨a,[x,y],rfl,e,rfl,x,[y],rfl,y,[],rfl,rfl,h⟩
theorem rd_sub{c b:TE}{t:TSet}{v:V}{a:St}{H:Hp}{R:St->Hp->Prop}(h:c a H fun o H1=>b a H1 fun i H2=>t o i v H2 fun d=>R a d):gSub c b t v a H R:=h
theorem rd_dnew{a:St}{H:Hp}{Q:VK}(h:∀p,H p=none->Q (.ref p) (upd H p (.dK []))):tDNewK a H Q:=h
theorem rd_dput{d f e:TE}{b:St}{H:Hp}{D:Ends}(h:e b H fun v H1=>d b H1 fun x H2=>f b H2 fun y g=>∃a c,x = .ref a/\DPut g a y v c/\D.nx b c):sDPut d f e D b H:=h
theorem rd_bm0{K:Frg}{T:String}{r:V->List V->Hp->VK->Prop}{a:TE}{b:St}{H:Hp}{Q:VK}(h:a b H fun x H1=>tyV K T x H1/\r x [] H1 Q):tBM0 K T r a b H Q:=h
section
variable{X:Cx}{pins:List (Addr×Obj)}{σ:St}{H:Hp}{s:Shared}{h':Heap}
theorem Inv.turnedL{t':Nat}{ch:List Addr}(I:Inv X pins σ H s)(f:∀b∈ch,FpOk X pins H b)(k:∀b o,b∉ch->s.heap.get? b=some o->h'.get? b=some o):Inv X pins σ H {s with heap:=h',toks:=t'}:=by
 have d:∀b u,H b=some u->b∉ch:=fun b u e z=>by rw[(f b z).1]at e;cases e
 refine I.step (g':=s.gens) (d':=s.drawn) (ch:=ch) (fun b t=>?_) (fun b o _ _ a e _=>k b o a e) (fun b o _ _ a e _=>⟨o.slots,k b o a e⟩) (fun _ _ _ _ n=>n)
  (fun b o a e=>⟨o,k b o a e⟩) (fun _ _ e=>e) (fun _ _ _ e=>e) (fun b y e=>⟨#[],by rw[e];simp⟩) (fun m w=>?_) (fun b u e=>?_) I.bare
 ·obtain⟨_,i,_,j,l,p⟩:=f b t;exact⟨j,i,l,p⟩
 ·obtain⟨o,h,g,x,r⟩:=w;exact⟨o,h,g,k _ o (fun z=>(f _ z).2.1 rfl) x,r⟩
 ·refine(I.hok b u e).stay (fun c v a q=>k c v ?_ q) (fun _ q=>q) fun _ _ q=>q
  rcases a with z | z
  ·rw[z];exact d b u e
  ·exact d c _ z
theorem Inv.pair{t':Nat}{ch:List Addr}{x y:V}{u v:Value}(I:Inv X pins σ H s)(c:∀b∈ch,FpOk X pins H b)(h:∀b∈ch,b<s.heap.objs.size)(i:RelV x u)(j:RelV y v)
  (g:h'.get? s.heap.objs.size=some {cls:=.type "tuple",data:=.seq #[u,v]}) (k:∀b o,b∉ch->s.heap.get? b=some o->h'.get? b=some o) :
  Inv X pins σ (upd H s.heap.objs.size (.tup [x,y])) {s with heap:=h',toks:=t'}/\∀b∈ch,FpOk X pins (upd H s.heap.objs.size (.tup [x,y])) b:=by
 have f:∀b∈ch,FpOk X pins (upd H s.heap.objs.size (.tup [x,y])) b:=fun b a=>⟨(jh (vD (h b a))).trans (c b a).1,(c b a).2⟩
 have d:Inv X pins σ (upd H s.heap.objs.size (.tup [x,y])) {s with heap:=s.heap.push {cls:=.type "tuple",data:=.seq #[u,v]},toks:=t'}:=
  I.laid (t':=t') (fun b o e=>vI _ e) (vc _) (show ObjOk X.prog X.w _ _ _ (.tup [x,y])from⟨(by show 2<=sizeLine;decide),[u,v],.cons i (.cons j .nil),IsTup.new _ _⟩)
 refine⟨d.turnedL (h':=h') (t':=t') f fun b o a e=>?_,f⟩;rcases Heap.get?_push_cases e with⟨rfl,rfl⟩ | e
 ·exact g
 ·exact k b o a e
end
def Ite(K:Frg)(a:Addr):It:=
 ⟨fun i H=>∃xs x,SqL K H a xs/\xs[i]?=some x,fun i H x H'=>∃T v,x = .ref T/\H T=none/\H'=upd H T (.tup [.int i,v])/\∀xs,SqL K H a xs->xs[i]?=some v,fun i H=>∃xs,SqL K H a xs/\xs.length<=i⟩
theorem j0w{P:Program}{w:World}{K:Frg}{n:List Expr}{k:Nat}{O:Pos}(a e it:Addr)(t:e≠it) :
  Turn P w K (.Tuple n k O) (Ite K a) [e,it] e (fun i h=>(∃f,IsEnum h e it ((i:Nat):Int) f)/\h.IsListIter it a i) where
 mem:=by simp
 obj:=fun i h j b g=>by
  rcases(by simpa using g:b=e\/b=it)with rfl | rfl
  ·obtain⟨f,l⟩:=j.1;exact⟨_,l,fun v z=>by cases z⟩
  ·obtain⟨o,e,c,d⟩:=j.2;exact⟨o,e,fun v z=>by rw[d]at z;cases z⟩
 keep:=fun i h h' j k=>⟨let ⟨f,l⟩:=j.1;⟨f,k e (by simp) _ l⟩,j.2.at fun o q=>k it (by simp) o q⟩
 item:=by
  intro X D L C S i A s σ H E I G j J;subst D L C;obtain⟨xs,x,B,M⟩:=J;obtain⟨N,Q,p,hz⟩:=I.list B;obtain⟨u,hu,ru⟩:=Q.get M;obtain⟨⟨f,l⟩,m⟩:=j;have le:e<s.heap.objs.size:=vH l;have li:it<s.heap.objs.size:=by obtain⟨o,q,_⟩:=id m;exact vH q
  refine wpAny_pyNext_enum_item l m p.isList (x:=u) (by simpa using hu) t fun h' ho r hT a0 hk=>?_
  obtain⟨U,R⟩:=I.pair (t':=s.toks+1) (ch:=[e,it]) (x:=.int i) (y:=x) G (fun b g=>by rcases(by simpa using g:b=e\/b=it)with rfl | rfl<;>assumption) ⟨s.toks,rfl⟩ ru hT
   (fun b o g q=>hk b o (fun z=>g (by simp[z])) (fun z=>g (by simp[z])) q)
  refine⟨_,rfl,wpAny_letOwnedTupleGo_enum ho fun Z F T=>?_⟩;have W:=U.turnedL (h':=Z) (t':=s.toks+1) (ch:=[e,it]) R fun b o g q=>(T.2 b fun z=>g (by simp[z])).trans q
  exact⟨.ref s.heap.objs.size,_,W,rfl,⟨_,x,rfl,I.hok.fresh (vc _),rfl,fun ys hy=>by rw[I.list_inj hy B];exact M⟩,
   ⟨⟨u,by simpa using F⟩,r.at fun o q=>(T.2 it t.symm).trans q⟩,fun b g=>(R b g).1⟩
 done:=by
  intro X D L C S i A s σ H E I G j J;subst D L C;obtain⟨xs,B,M⟩:=J;obtain⟨N,Q,p,hz⟩:=I.list B;obtain⟨⟨f,l⟩,m⟩:=j;have hl:=Q.length;exact wpAny_pyNext_enum_end (I.ok.hd S) l m p.isList (by simp;lia) fun h' Y=>⟨rfl,I.turnedL (t':=s.toks) (ch:=[e,it]) G fun b o g q=>Y b o (fun z=>g (by simp[z])) q⟩
 self:=fun _ _ _ _ _ j h=>let ⟨_,l⟩:=j.1;wpAny_pyIter_enum l h
def iEnum(K:Frg)(ta:TA):TI:=fun σ H R=>ta σ H fun vs H1=>∃a xs,vs=[.ref a]/\SqL K H1 a xs/\R (Ite K a) H1
theorem wt{X:Cx}{a:Expr}{n:TA}{f:List Expr}{k:Nat}{p i j:Pos}(v:Gl X "enumerate")(x:X.mg "enumerate"= none)(r:PA X [a] n)(z:starEach [a] X.env=[(false,eval a X.env)]:=by rfl) :
  PI X (.Tuple f k j) (.Call (.Name "enumerate" p) [a] [] i) (iEnum X.K n):=by
 intro g s F H R I h;refine Call_ (ZQ I v x KI (PyProof.Rows.callWith_type1 (thn (r i g s F H _ I h) fun L e ⟨M,o,d,D,C⟩=>?_) z rfl));obtain⟨b,N,rfl,y,q⟩:=C;obtain⟨u,rfl,E⟩:=vals1 D;cases E;obtain⟨B,K,p,J⟩:=d.list y;refine call_enumerate_list p.isList fun G m l A w=>?_
 refine wpAny_pyIter_enum m ?_;refine⟨e.heap.objs.size+1,[e.heap.objs.size+1,e.heap.objs.size],_,_,o,rfl,d.kept (t':=e.toks) w,j0w b _ _ (Nat.succ_ne_self _),⟨⟨_,by simpa using m⟩,l⟩,fun c t=>?_,q⟩;rcases(by simpa using t:c=e.heap.objs.size+1\/c=e.heap.objs.size)with rfl | rfl
 ·exact d.fpOk (Nat.le_succ _) (d.hok.fresh (Nat.le_succ _))
 ·exact d.fpOk (vc _) (d.hok.fresh (vc _))
theorem YX{K:Frg}{a:Addr}{xs:List V}{g:TG}{l:TS}{D:Ends}{c:St}{H:Hp}(d:Nat->St->Hp->Prop)(n:d 0 c H)(t:∀i c H,i<=xs.length->d i c H->SqL K H a xs)
  (u:∀i v c H T H',xs[i]?=some v->d i c H->Same H H'->H' T=some (.tup [.int i,v])->g (.ref T) c H' fun f H2=>l {D with nx:=d (i+1),ct:=d (i+1),bk:=D.nx} f H2) (hd:∀c H,d xs.length c H->D.nx c H) :
  ∃W:Nat->Nat->St->Hp->Prop,(∃m,W 0 m c H)/\∀i m c H,W i m c H->
   ((Ite K a).stop i H/\D.nx c H)\/((Ite K a).go i H/\∃N:St->Hp->Prop,(∀σ' H',N σ' H'->∃k,k<m/\W (i+1) k σ' H')/\∀x H',(Ite K a).yld i H x H'->g x c H' fun f H2=>l {D with nx:=N,ct:=N,bk:=D.nx} f H2):=by
 refine⟨fun i m c H=>m=xs.length-i/\i<=xs.length/\d i c H,⟨xs.length,by simp,vb _,n⟩,?_⟩;rintro i m c H ⟨rfl,s,p⟩;have q:=t i c H s p;by_cases j:i<xs.length
 ·refine .inr ⟨⟨xs,xs[i],q,by simp[j]⟩,d (i+1),fun σ' H' w=>⟨xs.length-(i+1),by lia,rfl,j,w⟩,fun x H' y=>?_⟩;obtain⟨T,v,rfl,r,e,y⟩:=y;exact u i v c H T H' (y xs q) p (fun b o h=>by rw[e,jh (je h r)];exact h) (by rw[e];exact jC)
 ·have e:i=xs.length:=by lia
  subst e;exact .inl ⟨⟨xs,q,vc _⟩,hd c H p⟩
theorem rd_iEnum{K:Frg}{b:TA}{c:St}{H:Hp}{R:It->Hp->Prop}(h:b c H fun vs H1=>∃a xs,vs=[.ref a]/\SqL K H1 a xs/\R (Ite K a) H1):iEnum K b c H R:=h
def Itz(K:Frg)(a b:Addr):It:=
 ⟨fun i H=>∃xs x ys y,SqL K H a xs/\xs[i]?=some x/\SqL K H b ys/\ys[i]?=some y,
  fun i H x H'=>∃T u v,x = .ref T/\H T=none/\H'=upd H T (.tup [u,v])/\(∀xs,SqL K H a xs->xs[i]?=some u)/\∀ys,SqL K H b ys->ys[i]?=some v,
  fun i H=>∃xs ys,SqL K H a xs/\SqL K H b ys/\(xs.length<=i\/ys.length<=i)⟩
theorem qu{h:Heap}{a b:Addr}{o u:Obj}(d:h.get? a=some o)(c:h.get? b=some u)(f:o.cls≠u.cls):a≠b:=fun e=>by
 subst e;rw[d]at c;cases c;exact f rfl
theorem j1Z{P:Program}{w:World}{K:Frg}{R:List Expr}{k:Nat}{aa:Pos}(l1 l2 z TI TO l m:Addr)
  (D:∀l1 l2,l1≠z->l1≠TO->l1≠l->l1≠m->l2≠z->l2≠TO->l2≠l->l2≠m->ZipApart z TI TO l m l1 l2) :
  Turn P w K (.Tuple R k aa) (Itz K l1 l2) [z,TI,TO,l,m] z (fun i h=>IsZip h z TI TO .none/\IsPair h TI (.ref l) (.ref m)/\(∃a b,IsPair h TO a b)/\h.IsListIter l l1 i/\h.IsListIter m l2 i) where
 mem:=by simp
 obj:=fun i h J b j=>by
  obtain⟨n,g,⟨a,c,f⟩,F,G⟩:=J;rcases(by simpa using j:b=z\/b=TI\/b=TO\/b=l\/b=m)with rfl | rfl | rfl | rfl | rfl
  ·exact⟨_,n,fun v z=>by cases z⟩
  ·exact⟨_,g,fun v z=>by cases z⟩
  ·exact⟨_,f,fun v z=>by cases z⟩
  ·obtain⟨o,e,c,d⟩:=F;exact⟨o,e,fun v z=>by rw[d]at z;cases z⟩
  ·obtain⟨o,e,c,d⟩:=G;exact⟨o,e,fun v z=>by rw[d]at z;cases z⟩
 keep:=fun i h h' J k=>by
  obtain⟨n,g,⟨a,c,f⟩,F,G⟩:=J;exact⟨k z (by simp) _ n,k TI (by simp) _ g,⟨a,c,k TO (by simp) _ f⟩,F.at fun o q=>k l (by simp) o q,G.at fun o q=>k m (by simp) o q⟩
 item:=by
  intro X hP hw hK hc i T s σ H E I hf J hg;subst hP hw hK;obtain⟨xs,x,ys,y,Y,hx,Z,hy⟩:=hg;obtain⟨a8,rv,p,_⟩:=I.list Y;obtain⟨a9,L,S,_⟩:=I.list Z;obtain⟨u,hu,ru⟩:=rv.get hx;obtain⟨v,hv,ab⟩:=L.get hy;obtain⟨n,g,⟨a,c,f⟩,F,G⟩:=J;obtain⟨o1,n1,B,t,_⟩:=id p;obtain⟨o2,n2,C,A,_⟩:=id S;obtain⟨o3,M,O,_⟩:=id F;obtain⟨o4,N,Q,_⟩:=id G;have r:=D l1 l2 (qu B n (by rw[t];show Value.type "list"≠Value.type "zip";decide)) (qu B f (by rw[t];show Value.type "list"≠Value.type "tuple";decide)) (qu B M (by rw[t,O];decide)) (qu B N (by rw[t,Q];decide))
   (qu C n (by rw[A];show Value.type "list"≠Value.type "zip";decide)) (qu C f (by rw[A];show Value.type "list"≠Value.type "tuple";decide)) (qu C M (by rw[A,O];decide)) (qu C N (by rw[A,Q];decide))
  have lt:∀b∈[z,TI,TO,l,m],b<s.heap.objs.size:=fun b j=>by
   rcases(by simpa using j:b=z\/b=TI\/b=TO\/b=l\/b=m)with rfl | rfl | rfl | rfl | rfl
   ·exact vH n
   ·exact vH g
   ·exact vH f
   ·exact vH M
   ·exact vH N
  refine wpAny_pyNext_zip_item r n g f F G p.isList S.isList (x:=u) (y:=v) (by simpa using hu) (by simpa using hv) fun h' a1 a2 a3 a4 a5 a6 W=>?_
  obtain⟨I1,f1⟩:=I.pair (t':=s.toks) (ch:=[z,TI,TO,l,m]) (x:=x) (y:=y) hf lt ru ab a5
   (fun b o j q=>W b o (fun e=>j (by simp[e])) (fun e=>j (by simp[e])) (fun e=>j (by simp[e])) (fun e=>j (by simp[e])) q)
  refine⟨_,rfl,wpAny_letOwnedTupleGo_zip a1 fun h3 a7 U=>?_⟩;have I2:=I1.turnedL (h':=h3) (t':=s.toks) (ch:=[z,TI,TO,l,m]) f1 fun b o j q=>(U.2 b fun e=>j (by simp[e])).trans q
  exact⟨.ref s.heap.objs.size,_,I2,rfl,⟨_,x,y,rfl,I.hok.fresh (vc _),rfl,(fun ys hy=>by rw[I.list_inj hy Y];exact hx),fun ys a0=>by rw[I.list_inj a0 Z];exact hy⟩,
   ⟨a7,(U.2 TI r.TIz).trans (W TI _ r.TIz r.TITO r.TIi1 r.TIi2 g),⟨_,_,(U.2 TO r.TOz).trans a2⟩,a3.at fun o q=>(U.2 l r.i1z).trans q,a4.at fun o q=>(U.2 m r.i2z).trans q⟩,fun b j=>(f1 b j).1⟩
 done:=by
  intro X hP hw hK hc i T s σ H E I hf J hg;subst hP hw hK;obtain⟨xs,ys,Y,Z,hl⟩:=hg;obtain⟨a8,rv,p,_⟩:=I.list Y;obtain⟨a9,L,S,_⟩:=I.list Z;obtain⟨n,g,⟨a,c,f⟩,F,G⟩:=J;obtain⟨o1,n1,B,t,_⟩:=id p;obtain⟨o2,n2,C,A,_⟩:=id S;obtain⟨o3,M,O,_⟩:=id F;obtain⟨o4,N,Q,_⟩:=id G;have r:=D l1 l2 (qu B n (by rw[t];show Value.type "list"≠Value.type "zip";decide)) (qu B f (by rw[t];show Value.type "list"≠Value.type "tuple";decide)) (qu B M (by rw[t,O];decide)) (qu B N (by rw[t,Q];decide))
   (qu C n (by rw[A];show Value.type "list"≠Value.type "zip";decide)) (qu C f (by rw[A];show Value.type "list"≠Value.type "tuple";decide)) (qu C M (by rw[A,O];decide)) (qu C N (by rw[A,Q];decide))
  have ac:=rv.length;have ad:=L.length;refine wpAny_pyNext_zip_end (I.ok.hd hc) r n g f F G p.isList S.isList ?_ fun h' W=>⟨rfl,I.turnedL (t':=s.toks) (ch:=[z,TI,TO,l,m]) hf fun b o j q=>W b o (fun e=>j (by simp[e])) (fun e=>j (by simp[e])) (fun e=>j (by simp[e])) (fun e=>j (by simp[e])) q⟩
  rcases hl with q | q
  ·exact .inl (by simp;lia)
  ·exact .inr (by simp;lia)
 self:=fun _ _ _ _ _ J h=>wpAny_pyIter_zip J.1 h
theorem zm{n i j:Nat}(h:i≠j):n+i≠n+j:=fun e=>h (Nat.add_left_cancel e)
def iZip(K:Frg)(ta:TA):TI:=fun σ H R=>ta σ H fun vs H1=>∃a b xs ys,vs=[.ref a,.ref b]/\SqL K H1 a xs/\SqL K H1 b ys/\R (Itz K a b) H1
theorem xH{X:Cx}{a b:Expr}{w:TA}{f:List Expr}{k:Nat}{p n o:Pos}(O:Gl X "zip")(Q:X.mg "zip"= none)(M:PA X [a,b] w)(U:starEach [a,b] X.env=[(false,eval a X.env),(false,eval b X.env)]:=by rfl)(l:starEach [b] X.env=[(false,eval b X.env)]:=by rfl) :
  PI X (.Tuple f k o) (.Call (.Name "zip" p) [a,b] [] n) (iZip X.K w):=by
 intro m s σ H R I h;refine Call_ (ZQ I O Q j3g (PyProof.Rows.callWith_type1 (thn (M n m s σ H _ I h) fun us d ⟨vs,x,e,r1,q1⟩=>?_) (by rw[U,l]) (by rw[l];rfl)));obtain⟨u,v,xs,ys,rfl,S,T,q⟩:=q1;cases r1 with
 | cons r rr=>
  cases rr with
  | cons r' rr=>
   cases rr;cases r;cases r';obtain⟨Y,rv,p,hz⟩:=e.list S;obtain⟨Z,a0,p',W⟩:=e.list T;refine call_zip_2 p.isList p'.isList fun h' t y z A B a6 P=>?_
   refine wpAny_pyIter_zip t ?_;refine⟨d.heap.objs.size+4,[d.heap.objs.size+4,d.heap.objs.size+2,d.heap.objs.size+3,d.heap.objs.size,d.heap.objs.size+1],_,_,x,rfl,e.kept (t':=d.toks) P,
    j1Z u v _ _ _ _ _ (fun u v C D E F G J K L=>⟨zm (by decide),zm (by decide),zm (i:=0) (by decide),zm (by decide),zm (by decide),zm (j:=0) (by decide),zm (by decide),zm (j:=0) (by decide),zm (by decide),zm (i:=0) (by decide),C,D,E,F,G,J,K,L⟩),⟨t,y,⟨_,_,z⟩,A,B⟩,fun c N=>?_,q⟩
   have g:d.heap.objs.size<=c:=by
    rcases(by simpa using N:c=d.heap.objs.size+4\/c=d.heap.objs.size+2\/c=d.heap.objs.size+3\/c=d.heap.objs.size\/c=d.heap.objs.size+1)with rfl | rfl | rfl | rfl | rfl<;>lia
   exact e.fpOk g (e.hok.fresh g)
theorem Xj{K:Frg}{a b:Addr}{xs ys:List V}{g:TG}{r:TS}{D:Ends}{c:St}{H:Hp}(d:Nat->St->Hp->Prop)(l:xs.length=ys.length)(s:d 0 c H)(z:∀i c H,i<=xs.length->d i c H->SqL K H a xs/\SqL K H b ys)
  (A:∀i u v c H T H',xs[i]?=some u->ys[i]?=some v->d i c H->Same H H'->H' T=some (.tup [u,v])->g (.ref T) c H' fun f H2=>r {D with nx:=d (i+1),ct:=d (i+1),bk:=D.nx} f H2) (hd:∀c H,d xs.length c H->D.nx c H) :
  ∃W:Nat->Nat->St->Hp->Prop,(∃m,W 0 m c H)/\∀i m c H,W i m c H->
   ((Itz K a b).stop i H/\D.nx c H)\/((Itz K a b).go i H/\∃N:St->Hp->Prop,(∀σ' H',N σ' H'->∃n,n<m/\W (i+1) n σ' H')/\∀x H',(Itz K a b).yld i H x H'->g x c H' fun f H2=>r {D with nx:=N,ct:=N,bk:=D.nx} f H2):=by
 refine⟨fun i m c H=>m=xs.length-i/\i<=xs.length/\d i c H,⟨xs.length,by simp,vb _,s⟩,?_⟩;rintro i m c H ⟨rfl,w,p⟩;obtain⟨q,k⟩:=z i c H w p;by_cases j:i<xs.length
 ·refine .inr ⟨⟨xs,xs[i],ys,ys[i],q,by simp[j],k,by simp⟩,d (i+1),fun σ' H' B=>⟨xs.length-(i+1),by lia,rfl,j,B⟩,fun x H' y=>?_⟩;obtain⟨T,u,v,rfl,t,e,y,C⟩:=y;exact A i u v c H T H' (y xs q) (C ys k) p (fun b o h=>by rw[e,jh (je h t)];exact h) (by rw[e];exact jC)
 ·have e:i=xs.length:=by lia
  subst e;exact .inl ⟨⟨xs,ys,q,k,.inl (vc _)⟩,hd c H p⟩
theorem rd_iZip{K:Frg}{c:TA}{d:St}{H:Hp}{R:It->Hp->Prop}(h:c d H fun vs H1=>∃a b xs ys,vs=[.ref a,.ref b]/\SqL K H1 a xs/\SqL K H1 b ys/\R (Itz K a b) H1):iZip K c d H R:=h
theorem Kd:entryFor table "dict.update.loop"= some Builtin.«dict.update.loop»:=entryFor_of_tree (by kernel_rfl)
theorem zw:plainId "dict.update.loop"= true:=by decide +kernel
theorem j04:typeLookup (.type "list") "keys"= pure none:=by rw[typeLookup_type,builtinLookup_eq_fast];kernel_rfl
section
variable{prog:Program}{w:World}{A:Around}{E:Value->Shared->Prop}{s:Shared}
theorem noKeys{a:Addr}{o:Obj}{xs:Array Value}{k:Nat}{Q:Option Value->Shared->Prop}(n:s.heap.get? a=some o)(m:o.cls = .type "list")(f:o.data = .seq xs k)(hd:o.dict=none)(r:A.handled=none)
  (h:∀h' tk,(∀b o,s.heap.get? b=some o->h'.get? b=some o)->Q none {s with heap:=h',toks:=tk}):wpAny (model prog w) A (getAttr? (.ref a) "keys") Q E s:=by
 obtain⟨c,q,p,v⟩:=o;simp only at m f hd;subst m f hd;obtain⟨t,g,d,tk,u⟩:=s;have l:∀j,(⟨t,g,d,j,u⟩:Shared).TypeIs (.ref a) "list":=fun _=>⟨_,n,rfl⟩
 have x:=sub_AttributeError;have y:=F.slot_list_getattribute.lookup;have z:=F.slot_list_getattribute.bind (.ref a);have B:=am_list_getattr_none;unfold getAttr? getAttrBy? getAttrBy
 repeat (any_goals (first | assumption | exact l _ | ((with_reducible show wpAny _ _ (call (Value.builtin "list.__getattribute__") _ _) _ _ _);refine call_meets F.slot_list_getattribute (l _) am_entry_list_getattribute (F.args_list_getattribute_2 _ _) (meets_getattribute_miss_list a xs k v "keys" _ j04 (by decide +kernel) (by decide +kernel)) ⟨n,r,fun h' j e i=>?_⟩) | wp_step))
 obtain⟨D,G,C⟩:=i.there;show wpAny _ _ (getattributeRaised _ _ _ _ _ _ _) _ _ _;unfold getattributeRaised
 repeat (any_goals (first | assumption | wp_step))
 exact h _ _ i.keeps
variable{K:Type}[DecidableEq K]{knd:KeyKind prog w K}
noncomputable def foldS(acc:List (K×Value))(ps:List (K×Value)):List (K×Value):=ps.foldl (fun acc kv=>stored acc kv.1 kv.2) acc
theorem xU(acc:List (K×Value))(k:K)(v:Value):(stored acc k v).length<=acc.length+1:=by
 unfold stored;split
 ·rw[vt];exact Nat.le_succ _
 ·rw[vn];exact vc _
theorem dul{R:Result->Shared->Prop}{d it l:Addr}{items:List Value}{res:Value}(M:A.handled=none)(g:d≠it)(p:d≠l)(q:it≠l) :
  ∀(ps:List (K×Value)) (i:Nat) (acc:List (K×Value)) (s:Shared),s.heap.IsListIter it l i->s.heap.IsList l items.toArray->(items.length=i+ps.length)->
   (∀j kv,ps[j]?=some kv->∃a key,items[i+j]?=some (.ref a)/\IsTup s.heap a #[key,kv.2]/\knd.is kv.1 key=true/\a≠d/\a≠it)->s.heap.DictOf knd d acc->acc.length+ps.length<=sizeLine->
   (∀h' tk,(∀b o,b≠d->b≠it->s.heap.get? b=some o->h'.get? b=some o)->h'.DictOf knd d (foldS acc ps)->R (.ok (.ret res)) {s with heap:=h',toks:=tk})->
   codeAny (model prog w) A (.builtin "dict.update.loop" ⟨[.ref d,.ref it,rawInt i,res],[]⟩) R s
 | [],i,acc,s,hit,hl,hn,hp,hd,hz,hR=>by
  refine codeAny_builtin Kd ?_;rw[Around.under_plainId zw _];show wpAny _ A.in1 (pyNext (.ref it) >>= _) _ _ s;refine uk (wpAny_pyNext_list_end (A:=A.in1) M hit hl (by simp;simp at hn;lia) fun h' L=>?_);show wpAny _ A.in1 (Builtin.Dict.addKeywords d [] >>= _) _ _ _;refine uk (uh (uh (hR h' s.toks (fun b o _ B e=>L b o B e) ?_)));exact hd.extBut L g
 | kv::ps,i,acc,s,hit,hl,hn,hp,hd,hz,hR=>by
  obtain⟨a,key,U,Z,Y,W,z⟩:=hp 0 kv rfl;refine codeAny_builtin Kd ?_;rw[Around.under_plainId zw _];show wpAny _ A.in1 (pyNext (.ref it) >>= _) _ _ s;refine uk (wpAny_pyNext_list_item (A:=A.in1) hit hl (x:=.ref a) (by simpa using U) fun v r J=>?_);obtain⟨ot,P,oc,n,od⟩:=Z;have m:v.get? a=some ot:=(J.2 a z).trans P;show wpAny _ A.in1 (holding [Value.ref a] _ >>= _) _ _ _;refine uk (wpAny_holding ?_);refine uk (wpAny_tryCatch ?_);unfold Builtin.Dict.pairItems;refine uk (wpAny_typeOf (T:="tuple") ⟨_,m,oc⟩ ?_);show wpAny _ A.in1 (if((Value.type "tuple"== Value.type "list")||(Value.type "tuple"== Value.type "tuple"))=true then _ else _) _ _ _;rw[ve (by decide)];refine uk (wpAny_seqItems m od ?_);refine uh ?_;show wpAny _ A.in1 (holding [key,kv.2] (dictSet d key kv.2)) _ _ _;have C:v.DictOf knd d acc:=hd.extBut (fun b o B e=>(J.2 b B).trans e) g;refine wpAny_holding (wpAny_dictSet_pairs (s:={s with heap:=v}) Y C (fun Q D u=>?_) (by simp at hz;lia));show wpAny _ A.in1 (again _) _ _ _;refine uh ⟨plainId_quiet zw _,?_⟩;have H:∀b o,b≠d->b≠it->s.heap.get? b=some o->Q.get? b=some o:=fun b o c f e=>(u.2 b c).trans ((J.2 b f).trans e)
  have sl:=xU acc kv.1 kv.2;refine dul M g p q ps (i+1) (stored acc kv.1 kv.2) _ (r.at fun o e=>(u.2 it g.symm).trans e) (hl.at fun o e=>H l o p.symm q.symm e) (by simp at hn;lia) (fun j I X=>?_) D (by simp at hz;lia) fun S tk k3 E=>?_
  ·obtain⟨N,t,y,G,F,h,k⟩:=hp (j+1) I (by simpa using X);obtain⟨o',O,r'⟩:=G;exact⟨N,t,by rw[<-y];congr 1;lia,⟨o',H _ _ h k O,r'⟩,F,h,k⟩
  ·exact hR S tk (fun b o c f e=>k3 b o c f (H b o c f e)) E
end
open PySem PySem.W PyProof.Rows
section
variable{n:Nat}{key:Nat->Int}{p:Array Nat}
noncomputable def Tw(n:Nat)(key:Nat->Int){α:Type}:KasT α->(α->Prop)->Prop
 | .ret a,Q=>Q a
 | .ask i j k,Q=>i<n/\j<n/\Tw n key (k (decide (key i<key j))) Q
theorem Tw.bind{b c:Type}{f:b->KasT c}{Q:c->Prop}:∀{t:KasT b},Tw n key t (fun a=>Tw n key (f a) Q)->Tw n key (t.bind f) Q
 | .ret _,h=>h
 | .ask _ _ _,h=>⟨h.1,h.2.1,Tw.bind h.2.2⟩
theorem Tw.mono{d:Type}{Q b:d->Prop}(c:∀a,Q a->b a):∀{t:KasT d},Tw n key t Q->Tw n key t b
 | .ret _,h=>c _ h
 | .ask _ _ _,h=>⟨h.1,h.2.1,Tw.mono c h.2.2⟩
theorem Tw.run{d:Type}{b:Nat->Nat->(Bool->Shared->Prop)->Shared->Prop}{Q:d->Shared->Prop}{s:Shared}(c:∀i j C,i<n->j<n->C (decide (key i<key j)) s->b i j C s) :
  ∀{t:KasT d},Tw n key t (fun a=>Q a s)->t.kasWp b Q s
 | .ret _,h=>h
 | .ask i j k,h=>c i j _ h.1 h.2.1 (Tw.run c h.2.2)
theorem Tw.asks{a:Type}{i j:Nat}{k:Bool->KasT a}{Q:a->Prop}(hi:i<n)(e:j<n)(b:key i<key j->Tw n key (k true) Q)(d:¬key i<key j->Tw n key (k false) Q):Tw n key (.ask i j k) Q:=by
 refine⟨hi,e,?_⟩;by_cases c:key i<key j
 ·rw[vF c];exact b c
 ·rw[vG c];exact d c
def Pk(n:Nat)(p:Array Nat):Prop:=p.toList.Perm (List.range n)
noncomputable def kv(key:Nat->Int)(p:Array Nat)(i:Nat):Int:=key (p.getD i 0)
def Up(key:Nat->Int)(p:Array Nat)(k:Nat):Prop:=∀i j,i<=j->j<k->kv key p i<=kv key p j
def Dn(key:Nat->Int)(p:Array Nat)(k:Nat):Prop:=∀i j,i<=j->j<k->kv key p j<=kv key p i
def Eqs(key:Nat->Int)(p:Array Nat)(m q:Nat):Prop:=∀k,m-(q+1)<=k->k<m->kv key p k=kv key p (m-1)
theorem Pk.size(h:Pk n p):p.size=n:=by have:=h.length_eq;simpa using this
theorem Pk.lt(h:Pk n p)(a:0<n)(i:Nat):p.getD i 0<n:=by
 rw[Array.getD_eq_getD_getElem?];cases e:p[i]? with
 | none=>exact a
 | some x=>exact vZ.mp (h.mem_iff.mp (Array.mem_toList_iff.mpr (Array.mem_of_getElem? e)))
theorem Pk.of(h:Pk n p){q:Array Nat}(a:q.Perm p):Pk n q:=(Array.perm_iff_toList_perm.mp a).trans h
theorem Wo{a b:Array Nat}{i j:Nat}(h:a[i]?=b[j]?):kv key a i=kv key b j:=by
 unfold kv;rw[Array.getD_eq_getD_getElem?,Array.getD_eq_getD_getElem?,h]
theorem xt{i j:Nat}(a:j<=p.size)(k:Nat):kv key (kas_rev p i j) k=if i<=k/\k<j then kv key p (i+j-1-k)else kv key p k:=by
 have h:=getElem?_mirror_all (xs:=p) (i:=i) a k;split
 ·rename_i c;rw[ve c]at h;exact Wo h
 ·rename_i c;rw[vd c]at h;exact Wo h
theorem j3o{src d:Nat}(a:src<p.size)(hd:d<=src)(k:Nat):kv key (bubble p src d) k=if k=src-d then kv key p src else if src-d<k/\k<=src then kv key p (k-1)else kv key p k:=by
 have h:=getElem?_bubble (xs:=p) a d hd k;split
 ·rename_i c;rw[ve c]at h;exact Wo h
 ·rename_i c;rw[vd c]at h;split
  ·rename_i c';rw[ve c']at h;exact Wo h
  ·rename_i c';rw[vd c']at h;exact Wo h
theorem Up.snoc{m:Nat}(h:Up key p m)(d:1<=m)(f:¬kv key p m<kv key p (m-1)):Up key p (m+1):=fun i j a g=>by
 by_cases e:j<m
 ·exact h i j a e
 ·have c:j=m:=by lia
  subst c;by_cases b:i=j
  ·rw[b];exact va _
  ·have:=h i (j-1) (by lia) (by lia);lia
theorem Dn.snoc{m:Nat}(h:Dn key p m)(d:1<=m)(f:kv key p m<=kv key p (m-1)):Dn key p (m+1):=fun i j a g=>by
 by_cases e:j<m
 ·exact h i j a e
 ·have c:j=m:=by lia
  subst c;by_cases b:i=j
  ·rw[b];exact va _
  ·have:=h i (j-1) (by lia) (by lia);lia
theorem j1V(a:Pk n p):∀f m,1<=m->m+f<=n->Up key p m->Tw n key (kas_asc p f m) fun r=>m<=r/\r<=m+f/\Up key p r/\(r<m+f->kv key p r<kv key p (r-1))
 | 0,m,h1,hn,hu=>⟨vc _,vc _,hu,fun h=>ug h (Nat.lt_irrefl _)⟩
 | f+1,m,h1,hn,hu=>by
  refine Tw.asks (a.lt (by lia) _) (a.lt (by lia) _) (fun c=>?_) (fun c=>?_)<;>simp only[Bool.false_eq_true,if_true,if_false]
  ·exact⟨vc _,by lia,hu,fun _=>c⟩
  ·exact Tw.mono (fun r h=>⟨by lia,by lia,h.2.2.1,fun b=>h.2.2.2 (by lia)⟩) (j1V a f (m+1) (by lia) (by lia) (hu.snoc h1 c))
theorem Xt{m q:Nat}(b:m<=p.size)(a:Eqs key p m q)(k:Nat):kv key (kas_rev p (m-(q+1)) m) k=kv key p k:=by
 rw[xt b];split
 ·rename_i c;rw[a k c.1 c.2,a _ (by lia) (by lia)]
 ·rfl
theorem wK:∀f (p:Array Nat) m q,Pk n p->1<=m->m+f<=n->q+1<=m->Dn key p m->Eqs key p m q->
  Tw n key (kas_desc f p m q) fun r=>Pk n r.1/\m<=r.2.1/\r.2.1<=m+f/\Dn key r.1 r.2.1/\r.2.2+1<=r.2.1/\Eqs key r.1 r.2.1 r.2.2
 | 0,p,m,q,hp,h1,hn,hq,hd,he=>⟨hp,vc _,vc _,hd,hq,he⟩
 | f+1,p,m,q,hp,h1,hn,hq,hd,he=>by
  have t:=hp.size;refine Tw.asks (hp.lt (by lia) _) (hp.lt (by lia) _) (fun c=>?_) (fun c=>?_)<;>simp only[Bool.false_eq_true,if_true,if_false]
  ·have c:kv key p m<kv key p (m-1):=c;split
   ·have g:=Xt (key:=key) (p:=p) (m:=m) (q:=q) (by lia) he;have d:Pk n (kas_rev p (m-(q+1)) m):=hp.of (mirror_perm _ _ _ _);refine Tw.mono (fun r h=>⟨h.1,by lia,by lia,h.2.2.2⟩) (wK f _ (m+1) 0 d (by lia) (by lia) (by lia) (fun i j b s=>?_) fun k l o=>?_)
    ·rw[g,g];exact hd.snoc h1 (by lia) i j b s
    ·rw[show k=m+1-1 by lia]
   ·refine Tw.mono (fun r h=>⟨h.1,by lia,by lia,h.2.2.2⟩) (wK f p (m+1) 0 hp (by lia) (by lia) (by lia) (hd.snoc h1 (by lia)) fun k l o=>?_);rw[show k=m+1-1 by lia]
  ·have c:¬kv key p m<kv key p (m-1):=c;refine Tw.asks (hp.lt (by lia) _) (hp.lt (by lia) _) (fun a=>?_) (fun a=>?_)<;>simp only[Bool.false_eq_true,if_true,if_false]
   ·exact⟨hp,vc _,Nat.le_add_right m (f+1),hd,hq,he⟩
   ·have a:¬kv key p (m-1)<kv key p m:=a;refine Tw.mono (fun r h=>⟨h.1,by lia,by lia,h.2.2.2⟩) (wK f p (m+1) (q+1) hp (by lia) (by lia) (by lia) (hd.snoc h1 (by lia)) fun k l o=>?_);rw[Nat.add_sub_cancel];by_cases e:k=m
    ·rw[e]
    ·rw[he k (by lia) (by lia)];lia
theorem j1X{m:Nat}(c:Pk n p)(d:1<=m)(g:m<=n)(hd:Dn key p m):Tw n key (kas_tail3 m n p) fun r=>Pk n r.2/\1<=r.1/\r.1<=n/\Up key r.2 r.1:=by
 have k:=c.size;have a:Pk n (kas_rev p 0 m):=c.of (mirror_perm _ _ _ _);have b:=xt (key:=key) (p:=p) (i:=0) (j:=m) (by lia);refine Tw.bind (Tw.mono (fun r h=>?_) (j1V a (n-m) m d (by lia) fun i j e f=>?_))
 ·exact⟨a,by lia,by lia,h.2.2.1⟩
 ·rw[b,b,ve ⟨vb _,by lia⟩,ve ⟨vb _,f⟩];exact hd _ _ (by lia) (by lia)
theorem j1W{m:Nat}(s:Pk n p)(t:m+1<=n)(hd:Dn key p (m+1)):Tw n key (kas_descPart m n p) fun r=>Pk n r.2/\1<=r.1/\r.1<=n/\Up key r.2 r.1:=by
 refine Tw.bind (Tw.mono (fun r h=>?_) (wK (n-(m+1)) p (m+1) 0 s (by lia) (by lia) (by lia) hd fun k u v=>by rw[show k=m+1-1 by lia]));obtain⟨a,b,c,d,e,g⟩:=h;have w:=a.size;split
 ·have l:=Xt (key:=key) (p:=r.1) (m:=r.2.1) (q:=r.2.2) (by lia) g;exact j1X (a.of (mirror_perm _ _ _ _)) (by lia) (by lia) fun i j f o=>by rw[l,l];exact d i j f o
 ·exact j1X a (by lia) (by lia) d
theorem j2Z(g:Pk n p)(t:1<=n):Tw n key (kas_count n p) fun r=>Pk n r.2/\1<=r.1/\r.1<=n/\Up key r.2 r.1:=by
 have y:=g.size;refine Tw.bind (Tw.mono (fun r h=>?_) (j1V (key:=key) g (n-1) 1 (by lia) (by lia) fun i j l m=>by rw[show i=j by lia];exact va _));obtain⟨a,b,c,d⟩:=h;split
 ·exact⟨g,a,by lia,c⟩
 rename_i hne;have w:r<n:=by
  have:r≠n:=fun e=>hne (by rw[e];simp)
  lia
 have d:=d (by lia);split
 ·refine Tw.asks (g.lt (by lia) _) (g.lt (by lia) _) (fun q=>?_) (fun q=>?_)<;>simp only[Bool.false_eq_true,if_true,if_false]
  ·exact⟨g,a,by lia,c⟩
  ·have q:¬kv key p 0<kv key p (r-1):=q;have v:=xt (key:=key) (p:=p) (i:=0) (j:=r) (by lia);have f:∀i,i<r->kv key p i=kv key p (r-1):=fun i u=>by
    have t:=c 0 i (vb _) u;have x:=c i (r-1) (by lia) (by lia);lia
   have k:∀i,kv key (kas_rev p 0 r) i=kv key p i:=fun i=>by
    rw[v];split
    ·rename_i q';rw[f _ q'.2,f _ (by lia)]
    ·rfl
   refine j1W (g.of (mirror_perm _ _ _ _)) (by lia) fun i j l m=>?_
   rw[k,k];by_cases e:j=r
   ·by_cases o:i=r
    ·rw[e,o];exact va _
    ·rw[e,f i (by lia)];lia
   ·rw[f i (by lia),f j (by lia)];exact va _
 ·have s:r=1:=by lia
  subst s;refine j1W g (by lia) fun i j l m=>?_
  rcases(by lia:(i=0/\j=0)\/(i=0/\j=1)\/(i=1/\j=1))with⟨rfl,rfl⟩ | ⟨rfl,rfl⟩ | ⟨rfl,rfl⟩
  ·exact va _
  ·have:kv key p 1<kv key p (1-1):=d;exact Int.le_of_lt this
  ·exact va _
theorem wL{k:Nat}(e:Pk n p)(c:k<n)(g:Up key p k):∀f l r,l<=r->r<=k->r-l<=f->(∀i,i<l->kv key p i<=kv key p k)->(∀i,r<=i->i<k->kv key p k<kv key p i)->
  Tw n key (kas_place p k f l r) fun m=>m<=k/\(∀i,i<m->kv key p i<=kv key p k)/\∀i,m<=i->i<k->kv key p k<kv key p i
 | 0,l,r,h1,h2,h3,a,b=>⟨by lia,a,fun i d=>b i (by lia)⟩
 | f+1,l,r,h1,h2,h3,a,b=>by
  unfold kas_place;split
  ·exact⟨by lia,a,fun i d=>b i (by lia)⟩
  refine Tw.asks (e.lt (by lia) _) (e.lt (by lia) _) (fun q=>?_) (fun q=>?_)<;>simp only[Bool.false_eq_true,if_true,if_false]
  ·have q:kv key p k<kv key p ((l+r)/2):=q;exact wL e c g f l _ (by lia) (by lia) (by lia) a fun i d h=>by
    have:=g ((l+r)/2) i d h;lia
  ·have q:¬kv key p k<kv key p ((l+r)/2):=q;exact wL e c g f _ r (by lia) h2 (by lia) (fun i d=>by
    have:=g i ((l+r)/2) (by lia) (by lia);lia) b
theorem j35:∀f (p:Array Nat) k,Pk n p->k+f<=n->Up key p k->Tw n key (kas_bin f p k) fun q=>Pk n q/\Up key q (k+f)
 | 0,p,k,hp,hn,hu=>⟨hp,hu⟩
 | f+1,p,k,hp,hn,hu=>by
  have t:=hp.size;refine Tw.bind (Tw.mono (fun l h=>?_) (wL hp (by lia) hu k 0 k (vb _) (vc _) (by lia) (fun i o=>ug o (Nat.not_lt_zero _)) fun i e m=>ug e (by lia)));obtain⟨a,b,c⟩:=h;have g:=j3o (key:=key) (p:=p) (src:=k) (d:=k-l) (by lia) (by lia);refine Tw.mono (fun q h=>⟨h.1,by rw[show k+(f+1)=k+1+f by lia];exact h.2⟩) (j35 f _ (k+1) (hp.of (bubble_perm _ _ _)) (by lia) fun i j r s=>?_);rw[g,g,show k-(k-l)=l by lia]
  repeat' split
  all_goals first
   | exact va _
   | (exfalso;lia)
   | exact Int.le_of_lt (c _ (by lia) (by lia))
   | exact b _ (by lia)
   | exact hu _ _ (by lia) (by lia)
   | (have e:=b i (by lia);have m:=c (j-1) (by lia) (by lia);lia)
theorem j3O(f:1<=n):Tw n key (kas_sort n) fun q=>Pk n q/\Up key q n:=by
 have g:Pk n (List.toArray (List.range n)):=List.Perm.refl _;refine Tw.bind (Tw.mono (fun r h=>?_) (j2Z (key:=key) g f));obtain⟨a,b,c,d⟩:=h;split
 ·refine Tw.mono (fun q h=>⟨h.1,?_⟩) (j35 (n-max r.1 1) r.2 (max r.1 1) a (by lia) (by rw[show max r.1 1=r.1 by lia];exact d));have e:max r.1 1+(n-max r.1 1)=n:=by lia
  rw[e]at h;exact h.2
 ·have e:r.1=n:=by lia
  exact⟨a,by rw[<-e];exact d⟩
end
section
variable{prog:Program}{w:World}{A:Around}{E:Value->Shared->Prop}{s:Shared}
def PrAt(h:Heap)(as:List Addr)(key:Nat->Int):Prop:=∀i a,as[i]?=some a->∃o t u n,h.get? a=some o/\o.cls = .type "tuple"/\o.data = .seq #[.int (key i) t,u] n
theorem PrAt.keep{h h':Heap}{as:List Addr}{key:Nat->Int}(x:PrAt h as key)(k:∀a∈as,∀o,h.get? a=some o->h'.get? a=some o):PrAt h' as key:=fun i a e=>by
 obtain⟨o,t,u,n,q,r⟩:=x i a e;exact⟨o,t,u,n,k a (vm e) _ q,r⟩
theorem j3Z{as:List Addr}{key:Nat->Int}(x:PrAt s.heap as key)(d:∀i j,i<as.length->j<as.length->key i=key j->i=j){i j:Nat}{C:Bool->Shared->Prop}(hi:i<as.length)(b:j<as.length)
  (h:C (decide (key i<key j)) s):kas_ask prog w A (tuples' true) (as.map Value.ref) i j C s:=by
 unfold kas_ask;obtain⟨o,t,u,n,k,B,f⟩:=x i _ (vz hi);obtain⟨y,z,m,E,l,D,g⟩:=x j _ (vz b);have p:(as.map Value.ref).getD i Value.none = .ref as[i]:=by rw[vy,vv,vz hi];rfl
 have q:(as.map Value.ref).getD j Value.none = .ref as[j]:=by rw[vy,vv,vz b];rfl
 rw[p,q];refine kat_lt k f l g ?_;show KatLex prog w A true _ C [(.int (key i) t,.int (key j) z),(u,m)] 0 s;refine kat_cons (wpAny_eqBool_int ?_);by_cases c:key i=key j
 ·have v:=d i j hi b c;subst v;rw[beq_self_eq_true];have r:u=m:=by
   have e:o=y:=vK (k.symm.trans l);subst e;have e:=f.symm.trans g;injection e with e _;have:=congrArg (fun a:Array Value=>a[1]?) e;simpa using this
  subst r;refine kat_yes (kat_cons (SeqAt.EqAt.same _ _ _ _ _ ?_));refine kat_yes (kat_nil ?_);rw[vG (Int.lt_irrefl _)]at h;exact h
 ·rw[beq_false_of_ne c];exact kat_no (oneLt_int h)
theorem XC{h:Heap}{key:Nat->Int}:∀{as:List Addr} (_:PrAt h as key),∃fs,KatTups h (as.map Value.ref) fs/\fs.length=as.length/\∀v∈fs,∃n t,v=Value.int n t
 | [],_=>⟨[],KatTups.nil,rfl,fun v g=>nomatch g⟩
 | a::r,x=>by
  obtain⟨o,t,u,n,q,c,d⟩:=x 0 a rfl;obtain⟨fs,k,l,f⟩:=XC (key:=fun i=>key (i+1)) (as:=r) fun i b e=>x (i+1) b (by simpa using e)
  refine⟨.int (key 0) t::fs,KatTups.cons q c d rfl k,by rw[vO,l,vO],fun v g=>?_⟩;rcases mem_cons.mp g with rfl | g
  ·exact⟨_,_,rfl⟩
  ·exact f v g
theorem j30(vs:List Value):(vs.toArray.zip vs.toArray).map (·.2)=vs.toArray:=by
 apply Array.toList_inj.mp;rw[Array.toList_map,Array.toList_zip];exact List.map_snd_zip (vc _)
theorem j0d(vs:List Value):(List.range vs.length).map (fun i=>vs.getD i Value.none)=vs:=by
 refine ext_getElem (by simp) fun i b a=>?_
 rw[getElem_map,getElem_range,vy,vz a];rfl
theorem j1C:∀{l:List Int},l.length<2->l.Pairwise (·<=·)
 | [],_=>.nil
 | [_],_=>pairwise_singleton _ _
 | _::_::_,h=>ug h (by rw[vO,vO];lia)
theorem j1P{a:Addr}{as:List Addr}{key:Nat->Int}{c0:Nat}{P:PySem.Fin->Shared->Prop}(d:s.heap.get? a=some (seqObj "list" (as.map Value.ref).toArray c0))(S:a∉as)(x:PrAt s.heap as key)
  (U:∀i j,i<as.length->j<as.length->key i=key j->i=j) (O:as.length<64)
  (D:∀(q:List Nat) (h':Heap) (c:Nat),q.Perm (List.range as.length)->(q.map key).Pairwise (·<=·)->(∀b o,b≠a->s.heap.get? b=some o->h'.get? b=some o)->
   h'.get? a=some (seqObj "list" ((q.map fun i=>as.getD i 0).map Value.ref).toArray c)->P (.done (.ret .none)) {s with heap:=h'}) :
  wpAny (model prog w) A (Builtin.«list.sort» ⟨[.ref a],[]⟩) P E s:=by
 have a5:a<s.heap.objs.size:=vH d;obtain⟨u,k⟩:∃u,(s.heap.update a (Obj.mapSeq fun _=>(#[]:Array Value))).get? a=some (seqObj "list" #[] u):=⟨_,get?_update_seq d fun _=>#[]⟩
 have X:=Heap.SameBut.update s.heap a (Obj.mapSeq fun _=>(#[]:Array Value));rw[list_sort_plain];refine uk (listItems_at (s:=s) d rfl ?_);refine uk (listUpdate_at (s:=s) d rfl ?_ (by rw[size_toArray,vt,sizeLine_eq];lia) (vb _));refine uk (seqEpoch_at (n:=u) k rfl ?_);refine uk (wpAny_newTuple ?_ (by show(as.map Value.ref).length<=_;rw[vt,sizeLine_eq];lia));refine uk (wpAny_newList ?_ (vb (sizeLine)));refine wpAny_holding ?_;generalize Y:((s.heap.update a (Obj.mapSeq fun _=>(#[]:Array Value))).push (seqObj "tuple" (as.map Value.ref).toArray 0)).push (seqObj "list" #[] 0)=hX;have kX:∀b o,b≠a->s.heap.get? b=some o->hX.get? b=some o:=fun b o y e=>by
  rw[<-Y];exact vI _ (vI _ ((X.2 b y).trans e))
 have F:hX.get? a=some (seqObj "list" #[] u):=by
  rw[<-Y];exact vI _ (vI _ k)
 have xX:PrAt hX as key:=x.keep fun b y o e=>kX b o (fun z=>S (z▸y)) e
 show wpAny (model prog w) A _ P E {s with heap:=hX};dsimp only;have K:(as.map Value.ref).toArray.size=as.length:=by rw[size_toArray,vt]
 have H:∀q:List Nat,q.Perm (List.range as.length)->(List.map (fun i=>(as.map Value.ref).getD i Value.none) q)=(q.map fun i=>as.getD i 0).map Value.ref:=fun q M=>by
  rw[v3];refine map_congr_left fun i B=>?_
  have hl:i<as.length:=vZ.mp (M.mem_iff.mp B);show(as.map Value.ref).getD i Value.none=Value.ref (as.getD i 0);rw[vy,vy,vv,vz hl];rfl
 have g:∀(q:List Nat),q.Perm (List.range as.length)->(q.map key).Pairwise (·<=·)->∀r:Array Value,r=(List.map (fun i=>(as.map Value.ref).getD i Value.none) q).toArray->
   P (.done (.ret .none)) {s with heap:=hX.update a (Obj.mapSeq fun _=>r)}:=fun q M hs r ho=>by
  subst ho;have o2:=get?_update_seq F fun _=>(List.map (fun i=>(as.map Value.ref).getD i Value.none) q).toArray
  have J:=Heap.SameBut.update hX a (Obj.mapSeq fun _=>(List.map (fun i=>(as.map Value.ref).getD i Value.none) q).toArray);rw[H q M]at o2 J|-;exact D q _ _ M hs (fun b o y e=>(J.2 b y).trans (kX b o y e)) o2
 by_cases l:(as.map Value.ref).toArray.size<2
 ·rw[ve l,ve l];refine uk (uh ?_);rw[StateT.run_pure];refine uk (uh ?_);dsimp only;refine uk (seqEpoch_at (n:=u) F rfl ?_);have eo:(arrOf (SortSt.mk' general' ((as.map Value.ref).toArray.zip (as.map Value.ref).toArray) #[] 7 none)).map (·.2)=(List.map (fun i=>(as.map Value.ref).getD i Value.none) (List.range as.length)).toArray:=by
   have e:=j0d (as.map Value.ref);rw[vt]at e;rw[e];exact j30 _
  rw[eo];refine uk (listUpdate_at (s:={s with heap:=hX}) F rfl ?_ (vb _) (by rw[size_toArray,vt,length_range,sizeLine_eq];lia));simp only[bne_self_eq_false,Bool.false_eq_true,if_false];refine uh (g (List.range as.length) (List.Perm.refl _) ?_ _ rfl);rw[K]at l;exact j1C (by rw[vt,length_range];exact l)
 ·rw[vd l,vd l];rw[K]at l;obtain⟨fs,kt,kl,ki⟩:=XC xX;have a0:hX=({s with heap:=hX}:Shared).heap:=rfl;refine uk (kat_kind (s:={s with heap:=hX}) (T:=Value.type "int") kt (by lia) (fun v hv=>?_) (by decide) ?_)
  ·obtain⟨m,t,rfl⟩:=ki v hv;exact Looks.of_pure rfl
  refine uk (wpAny_mono (kat_run (s:={s with heap:=hX}) (ks:=as.map Value.ref) (vs:=as.map Value.ref) (κ:=tuples' true) (Q:=fun f I=>∃p:Array Nat,Pk as.length p/\Up key p as.length/\arrOf f=p.map (kas_item ((as.map Value.ref).toArray.zip (as.map Value.ref).toArray))/\failedOf f=none/\I={s with heap:=hX}) (G:=fun p I=>Pk as.length p/\Up key p as.length/\I={s with heap:=hX})
   rfl (by rw[vt];lia) (by rw[vt];exact O) (fun p f I _ a2 a3 N=>⟨p,N.1,N.2.1,a2,a3,N.2.2⟩) ?_) ?_ fun _ _ e=>e)
  ·rw[vt];exact Tw.run (n:=as.length) (key:=key) (fun i j C B L hC=>j3Z xX U B L hC) (Tw.mono (fun q h=>⟨h.1,h.2,rfl⟩) (j3O (key:=key) (by lia)))
  rintro⟨⟨⟩,f⟩ I ⟨p,Z,hu,R,hf,rfl⟩;dsimp only;rw[kat_snds rfl R];refine uk (seqEpoch_at (n:=u) F rfl ?_);have W:=Z.size;refine uk (listUpdate_at (s:={s with heap:=hX}) F rfl ?_ (vb _) (by rw[size_toArray,vt,Array.length_toList,W,sizeLine_eq];lia));rw[hf];simp only[bne_self_eq_false,Bool.false_eq_true,if_false];refine uh (g p.toList Z ?_ _ rfl);refine pairwise_map.mpr (pairwise_iff_getElem.mpr fun i j B L a1=>?_);rw[Array.length_toList]at B L;have:=hu i j (by lia) (by lia);unfold kv at this;rw[Array.getD_eq_getD_getElem?,Array.getD_eq_getD_getElem?,Array.getElem?_eq_getElem B,Array.getElem?_eq_getElem L]at this;exact this
end
open PySem PySem.Spec PySem.W PyProof.Rows
section
variable{X:Cx}{pins:List (Addr×Obj)}{σ:St}{H:Hp}{s:Shared}
def NewA(X:Cx)(pins:List (Addr×Obj))(T:Addr):Prop:=X.s₀.heap.objs.size<=T/\T≠X.env.locals/\(∀x c,X.env.cells.lookup x=some c->c≠T)/\∀p∈X.pn++pins,p.1≠T
theorem Inv.newA(I:Inv X pins σ H s){T:Addr}(a:s.heap.objs.size<=T):NewA X pins T:=by
 obtain⟨_,b,_,_,c,d⟩:=I.fpOk (H':=fun _=>none) a rfl;exact⟨vU I.sz a,b,c,d⟩
theorem ObjOk.obj{P:Program}{w:World}{h:Heap}{a:Addr}{o:HO}(x:ObjOk P w H h a o):∃u,h.get? a=some u:=by
 cases o with
 | lst xs=>obtain⟨_,_,_,_,e⟩:=x;exact⟨_,e⟩
 | tup xs=>obtain⟨_,_,_,u,e,_⟩:=x;exact⟨u,e⟩
 | dK kvs=>obtain⟨_,_,_,_,u,_,_,e,_⟩:=x;exact⟨u,e⟩
 | dT kvs=>obtain⟨_,_,_,_,u,_,_,e,_⟩:=x;exact⟨u,e⟩
 | set S n=>obtain⟨u,_,_,_,e,_⟩:=x;exact⟨u,e⟩
 | ins C dx fs=>obtain⟨_,_,_,e,_⟩:=x;exact⟨_,e⟩
 | own y=>exact x
 | xd fs=>obtain⟨_,⟨u,_,_,e,_⟩,_⟩:=x;exact⟨u,e⟩
 | rng lo hi=>obtain⟨_,_,_,e⟩:=x;exact⟨_,e⟩
 | frz u v=>exact⟨_,x.1⟩
 | tbl ps=>exact⟨_,x⟩
 | met f y=>exact⟨_,x⟩
 | ext φ=>exact x.2.1
theorem Inv.none_at{a:Heap}(I:Inv X pins σ H s)(c:∀b o,s.heap.get? b=some o->a.get? b=some o):H a.objs.size=none:=by
 cases e:H a.objs.size with
 | none=>rfl
 | some u=>
  obtain⟨v,q⟩:=(I.hok _ _ e).obj;exact ug (vH (c _ _ q)) (Nat.lt_irrefl _)
theorem Inv.newB{a:Heap}(I:Inv X pins σ H s)(h:∀b o,s.heap.get? b=some o->a.get? b=some o):NewA X pins a.objs.size:=by
 have f:∀b o,s.heap.get? b=some o->b<a.objs.size:=fun b o e=>vH (h b o e)
 obtain⟨m,⟨o,_,_,d,_⟩,_⟩:=I.loc;have g:=f _ _ d;refine⟨vW (vC I.ok.above g),vM g,fun x c e=>?_,fun p i=>vD (f _ _ (I.pin p i).1)⟩;obtain⟨v,o,d,_⟩:=I.cell x c e;exact vD (f _ _ d)
theorem Inv.track{T:Addr}{o:HO}(I:Inv X pins σ H s)(h:H T=none)(d:NewA X pins T)(g:ObjOk X.prog X.w (upd H T o) s.heap T o):Inv X pins σ (upd H T o) s:=by
 have a:∀b u,H b=some u->b≠T:=fun b u e z=>by rw[z,h]at e;cases e
 refine I.step (h':=s.heap) (H':=upd H T o) (g':=s.gens) (d':=s.drawn) (t':=s.toks) (ch:=[T]) (fun b f=>?_) (fun b o _ _ _ e _=>e) (fun b o _ _ _ e _=>⟨o.slots,e⟩) (fun b u f _ n=>?_) (fun b u _ e=>⟨u,e⟩)
  (fun b k e=>(jh (a _ _ e)).trans e) (fun b u v e=>(jh (a _ _ e)).trans e) (fun b j e=>⟨#[],by rw[jh (a _ _ e),e];simp⟩) (fun m i=>i) (fun b u e=>?_) I.bare
 ·have e:b=T:=by simpa using f
  subst e;exact⟨.inr d.1,d.2.1,d.2.2.1,d.2.2.2⟩
 ·exact(jh fun z=>f (by simp[z])).trans n
 ·by_cases z:b=T
  ·subst z;rw[jC]at e;cases e;exact g
  ·rw[jh z]at e;exact(I.hok b u e).stay (fun c v _ q=>q) (fun c q=>(jh (a _ _ q)).trans q) fun c l q=>(jh (a _ _ q)).trans q
theorem Inv.trackAll:∀(e:List (Addr×HO)) {H:Hp},Inv X pins σ H s->(∀p∈e,H p.1=none/\NewA X pins p.1/\∀H',ObjOk X.prog X.w H' s.heap p.1 p.2)->(e.map (·.1)).Nodup->∃H',Inv X pins σ H' s/\Same H H'/\∀p∈e,H' p.1=some p.2
 | [],H,I,_,_=>⟨H,I,Same.refl _,fun p d=>nomatch d⟩
 | w::r,H,I,h,nd=>by
  obtain⟨a,b,c⟩:=h w vq;rw[v6,ut]at nd;have g:=I.track a b (c _);obtain⟨H',i,f,m⟩:=Inv.trackAll r g (fun p d=>by
   obtain⟨j,k,l⟩:=h p (vp _ d);exact⟨(jh fun z:p.1=w.1=>nd.1 (by rw[<-z];exact vJ.mpr ⟨p,d,rfl⟩)).trans j,k,l⟩) nd.2
  have n:Same H (upd H w.1 w.2):=fun b u q=>(jh (je q a)).trans q
  refine⟨H',i,n.trans f,fun p d=>?_⟩;rcases mem_cons.mp d with rfl | d
  ·exact f _ _ jC
  ·exact m p d
end
section
variable{X:Cx}
theorem valsR:∀as:List Addr,Vals (as.map V.ref) (as.map Value.ref)
 | []=>.nil
 | _::r=>.cons rfl (valsR r)
theorem KV.get{κ:Type}:∀{kvs:List (κ×V)} {vs:List (κ×Value)} {i:Nat} {p:κ×V},KV kvs vs->kvs[i]?=some p->∃q,vs[i]?=some q/\p.1=q.1/\RelV p.2 q.2
 | _,_,_,_,.nil,e=>by simp at e
 | _,_,0,_,.cons r _,e=>by simp at e;subst e;exact⟨_,rfl,r⟩
 | _,_,i+1,p,.cons _ t,e=>by
  obtain⟨q,a,b⟩:=KV.get (i:=i) (p:=p) t (by simpa using e);exact⟨q,by simpa using a,b⟩
theorem j06:MtR X "dict.update" (fun x vs H Q=>∃d o kvs more,x = .ref d/\vs=[.ref o]/\H d=some (.dK kvs)/\H o=some (.dK more)/\d≠o/\kvs.length+more.length<=sizeLine/\Q .non (upd H d (.dK (mergeK kvs more)))):=by
 intro l s G H x vs v D Q I B A h;obtain⟨d,o,kvs,more,rfl,rfl,k,p,g,y,q⟩:=h;cases B;obtain⟨u,rfl,z⟩:=vals1 A;cases z;obtain⟨E,e,i,m,b⟩:=Wc I.hok k;obtain⟨F,f,j,n,c⟩:=Wc I.hok p;refine call_meetsIn PySem.F.slot_dict_update b.typeIs PySem.F.entry_dict_update (PySem.F.args_dict_update_2 _ _) (meets_dict_update (mixKind X.prog X.w) d o g f) ⟨i,j,b,c,by rw[<-m.length,<-n.length];exact y,fun r a _ w=>?_⟩;have t:∃q,r.get? d=some q:=let ⟨q,_,_,hq,_⟩:=a;⟨q,hq⟩;have C:=Qq more kvs;exact⟨.non,_,KP (t':=s.toks) I (by rw[k];exact True.intro) w t (YT (by lia) e (n.merge m) a),rfl,q⟩
noncomputable def IView(v d:Addr):HO:=.ext fun h=>h.get? v=some {cls:=.type "dict_items",data:=.fields #[.ref d]}
theorem j1e:MtR X "dict.items" (fun x vs H Q=>∃d kvs,x = .ref d/\vs=[]/\H d=some (.dK kvs)/\∀v,H v=none->Q (.ref v) (upd H v (IView v d))):=by
 intro i s y H x vs v t Q I m l h;obtain⟨d,kvs,rfl,rfl,j,q⟩:=h;cases m;have f:=l.zero;subst f;obtain⟨w,c,g,r,a⟩:=Wc I.hok j;refine call_meetsIn PySem.F.slot_dict_items a.typeIs PySem.F.entry_dict_items (PySem.F.args_dict_items_1 (.ref d)) (meets_dict_items (mixKind X.prog X.w) d c) ⟨⟨g,a⟩,?_⟩;have e:(s.heap.push {cls:=.type "dict_items",data:=.fields #[.ref d]}).get? s.heap.objs.size=some {cls:=.type "dict_items",data:=.fields #[.ref d]}:=Heap.get?_push_size _ rfl;exact⟨.ref s.heap.objs.size,_,I.laid (t':=s.toks) (o:=IView s.heap.objs.size d) (fun b u q=>vI _ q) (vc _) (show ObjOk X.prog X.w _ _ _ (IView s.heap.objs.size d)from⟨e,⟨_,e⟩,fun n p q k=>k _ q⟩),rfl,q _ (I.hok.fresh (vc _))⟩
noncomputable def iiK(p:Int×Int):Key×V:=(Sum.inl p.1,.int p.2)
theorem KM(hc:X.calm=true):CallR X (.builtin "sorted") (fun xs H Q=>∃(v d:Addr) (kvs:List (Int×Int)),xs=[.ref v]/\H v=some (IView v d)/\H d=some (.dK (kvs.map iiK))/\kvs.length<64/\
  ∀(l:Addr) (as:List Addr) (R:List (Int×Int)) (H':Hp),Same H H'->H l=none->H' l=some (.lst (as.map V.ref))->(∀a∈as,H a=none)->R.Perm kvs->(R.map (·.1)).Pairwise (·<=·)->as.length=R.length->(∀(i:Nat) (a:Addr) (p:Int×Int),as[i]?=some a->R[i]?=some p->H' a=some (.tup [.int p.1,.int p.2]))->Q (.ref l) H'):=by
 intro y s σ H xs us Q I r h;obtain⟨v,d,kvs,rfl,ev,ed,a0,q⟩:=h;obtain⟨u,rfl,ru⟩:=vals1 r;cases ru;obtain⟨z1,a5,N,r1,G⟩:=Wc I.hok ed;have hv:s.heap.get? v=some {cls:=.type "dict_items",data:=.fields #[.ref d]}:=(I.hok v _ ev).1;obtain⟨ep,da⟩:=G.dictAt;have lv:=r1.length;rw[vt]at lv;have nd:(kvs.map (·.1)).Nodup:=by
  have S:(N.map (·.1)).Nodup:=let ⟨_,_,_,_,_,_,_,_,hn⟩:=G;hn;rw[<-r1.keys,v3]at S;refine pairwise_map.mpr ((pairwise_map.mp S).imp fun {a b} h e=>h ?_);show(Sum.inl a.1:Key)=Sum.inl b.1;rw[e]
 refine Calls.call_function_entry kind_sorted plain_sorted entry_sorted (args_sorted1 (.ref v)) ?_;unfold Builtin.«sorted»;refine uk (m:=checkCount "sorted" 1 1 1) (uh ?_);refine uk (kdx_collect (knd:=mixKind X.prog X.w) (kvs:=N) (ep:=ep) (A:=X.A.in1) (I.ok.hd hc) ⟨_,hv,rfl,rfl⟩ da (by rw[<-lv,sizeLine_eq];lia) fun g tk as P C J=>?_);rw[<-lv]at C;refine uk (wpAny_newList ?_ (by rw[vt,C,sizeLine_eq];lia));have K:(g.push (seqObj "list" (as.map Value.ref).toArray 0)).get? g.objs.size=some (seqObj "list" (as.map Value.ref).toArray 0):=Heap.get?_push_size _ rfl;have D:g.objs.size∉as:=fun z=>Nat.lt_irrefl _ (J.there z)
 have E:∀i p,kvs[i]?=some p->(fun i=>(kvs.getD i (0,0)).1) i=p.1/\(fun i=>(kvs.getD i (0,0)).2) i=p.2:=fun i p e=>by
  dsimp only;rw[vy,e];exact⟨rfl,rfl⟩
 have xQ:∀i a,as[i]?=some a->∃t u,(g.push (seqObj "list" (as.map Value.ref).toArray 0)).get? a=some {cls:=.type "tuple",data:=.seq #[.int ((fun i=>(kvs.getD i (0,0)).1) i) t,.int ((fun i=>(kvs.getD i (0,0)).2) i) u]}:=fun i a e=>by
  obtain⟨ky,k,x,O,w,e3⟩:=J.pairs i a e;have f:i<kvs.length:=by rw[<-C];exact(vx.mp e).1
  obtain⟨w',e4,a4⟩:=KV.get r1 (i:=i) (p:=iiK kvs[i]) (by rw[vv,vz f];rfl);rw[O]at e4;cases e4;obtain⟨ek,T,ex⟩:=a4;have U:k=Sum.inl kvs[i].1:=ek.symm;subst U;have W:x = .int kvs[i].2 T:=ex;subst W;obtain⟨Y,Z⟩:=E i _ (vz f);rw[show(fun i=>(kvs.getD i (0,0)).1) i=kvs[i].1 from Y,show(fun i=>(kvs.getD i (0,0)).2) i=kvs[i].2 from Z];rcases Ji (show keyIs (Sum.inl kvs[i].1) ky=true from w)with⟨n,t,q1,q2⟩ | ⟨n,t,q1,q2⟩
  ·cases q1;subst q2;exact⟨t,T,vI _ e3⟩
  ·cases q1
 have xP:PrAt (g.push (seqObj "list" (as.map Value.ref).toArray 0)) as (fun i=>(kvs.getD i (0,0)).1):=fun i a e=>by
  obtain⟨t,u,z⟩:=xQ i a e;exact⟨_,t,_,_,z,rfl,rfl⟩
 have a1:∀i j,i<as.length->j<as.length->(fun i=>(kvs.getD i (0,0)).1) i=(fun i=>(kvs.getD i (0,0)).1) j->i=j:=fun i j f B e=>by
  rw[C]at f B;obtain⟨Y,_⟩:=E i _ (vz f);obtain⟨Z,_⟩:=E j _ (vz B);rw[Y,Z]at e;rcases Nat.lt_trichotomy i j with z | z | z
  ·exact ug e (by have:=pairwise_iff_getElem.mp nd i j (by rw[vt];exact f) (by rw[vt];exact B) z;simpa using this)
  ·exact z
  ·exact ug e.symm (by have:=pairwise_iff_getElem.mp nd j i (by rw[vt];exact B) (by rw[vt];exact f) z;simpa using this)
 refine uk (wpAny_holding (wpAny_call_entry slot_list_sort ⟨_,K,rfl⟩ entry_list_sort (j1P (s:={s with heap:=g.push (seqObj "list" (as.map Value.ref).toArray 0),toks:=tk}) K D xP a1 (by rw[C];exact a0) fun M F c hq hs kk o2=>⟨_,rfl,?_⟩) (args_list_sort _)));refine uh ⟨_,rfl,?_⟩;have a2:∀b o,s.heap.get? b=some o->b<g.objs.size:=fun b o e=>vH (P b o e)
 have k2:∀b o,s.heap.get? b=some o->F.get? b=some o:=fun b o e=>kk b o (vD (a2 b o e)) (vI _ (P b o e))
 have I2:Inv X y σ H {s with heap:=F,toks:=tk}:=I.kept (t':=tk) k2;have hB:H g.objs.size=none:=I.none_at P;have nB:=I.newB P;have ha:∀a∈as,H a=none/\NewA X y a:=fun a h=>⟨I.hok.fresh (vW (J.above a h)),I.newA (vW (J.above a h))⟩
 have L:∀i∈M,i<as.length:=fun i f=>vZ.mp (hq.mem_iff.mp f)
 have a3:(((g.objs.size,HO.lst ((M.map fun i=>as.getD i 0).map V.ref))::(List.range as.length).map fun i=>(as.getD i 0,HO.tup [.int (kvs.getD i (0,0)).1,.int (kvs.getD i (0,0)).2])).map (·.1)).Nodup:=by
  rw[v6,ut,v3];have w:(List.range as.length).map ((fun x=>x.1)∘fun i=>(as.getD i 0,HO.tup [.int (kvs.getD i (0,0)).1,.int (kvs.getD i (0,0)).2]))=as:=ext_getElem (by simp) fun i g F=>by
   rw[getElem_map,getElem_range];show as.getD i 0=_;rw[vy,vz F];rfl
  rw[w];exact⟨D,J.rise.imp fun h=>vD h⟩
 obtain⟨H',I3,s3,k3⟩:=I2.trackAll ((g.objs.size,HO.lst ((M.map fun i=>as.getD i 0).map V.ref))::(List.range as.length).map fun i=>(as.getD i 0,HO.tup [.int (kvs.getD i (0,0)).1,.int (kvs.getD i (0,0)).2])) (fun p hp=>by
  rcases mem_cons.mp hp with rfl | hp
  ·refine⟨hB,nB,fun H'=>⟨?_,_,c,valsR _,o2⟩⟩;rw[vt,vt,hq.length_eq,length_range,C,sizeLine_eq];lia
  ·obtain⟨i,f,rfl⟩:=vJ.mp hp;have f:=vZ.mp f;have e:as[i]?=some (as.getD i 0):=by rw[vy,vz f];rfl
   obtain⟨t1,T,eo⟩:=xQ i _ e;have hm:=vm e;obtain⟨S,n2⟩:=ha _ hm;exact⟨S,n2,fun H'=>⟨(by show 2<=sizeLine;decide),[_,_],.cons ⟨t1,rfl⟩ (.cons ⟨T,rfl⟩ .nil),⟨_,kk _ _ (fun z=>D (z▸hm)) eo,rfl,_,rfl⟩⟩⟩) a3
 ·refine⟨.ref g.objs.size,H',I3,rfl,q g.objs.size (M.map fun i=>as.getD i 0) (M.map fun i=>kvs.getD i (0,0)) H' s3 hB (k3 _ vq) (fun a h=>?_) ?_ ?_ (by rw[vt,vt]) fun i a p O w=>?_⟩
  ·obtain⟨i,f,rfl⟩:=vJ.mp h;have e:as[i]?=some (as.getD i 0):=by rw[vy,vz (L i f)];rfl
   exact(ha _ (vm e)).1
  ·have e:=hq.map fun i=>kvs.getD i (0,0)
   rw[C]at e;have w:(List.range kvs.length).map (fun i=>kvs.getD i (0,0))=kvs:=ext_getElem (by simp) fun i g F=>by
    rw[getElem_map,getElem_range,vy,vz F];rfl
   rw[w]at e;exact e
  ·rw[v3];exact hs
  ·rw[vv]at O w;obtain⟨j,B,rfl⟩:=vh.mp O;rw[B]at w;cases w;exact k3 _ (vp _ (vJ.mpr ⟨j,vZ.mpr (L j (vm B)),rfl⟩))
end
theorem ZG:∀{as:List Addr} {us:List Value},Vals (as.map V.ref) us->us=as.map Value.ref
 | [],_,r=>by cases r;rfl
 | a::as,_,r=>by
  cases r with
  | cons r1 r2=>rw[ZG r2,show _=Value.ref a from r1];rfl
theorem WH{h:Heap}:∀{as:List Addr} {kvs:List (Int×Int)},as.length=kvs.length->(∀(i:Nat) (a:Addr) (q:Int×Int),as[i]?=some a->kvs[i]?=some q->∃t u,IsTup h a #[.int q.1 t,.int q.2 u])->
  ∃ps:List (Key×Value),KV (kvs.map iiK) ps/\ps.length=kvs.length/\∀(j:Nat) (kv:Key×Value),ps[j]?=some kv->∃a key,as[j]?=some a/\IsTup h a #[key,kv.2]/\keyIs kv.1 key=true
 | [],[],_,_=>⟨[],.nil,rfl,fun j kv e=>by simp at e⟩
 | [],_::_,l,_=>by simp at l
 | _::_,[],l,_=>by simp at l
 | a::as,q::kvs,l,f=>by
  obtain⟨ps,o,p,r⟩:=WH (as:=as) (kvs:=kvs) (by simpa using l) fun i a q m n=>f (i+1) a q (by simpa using m) (by simpa using n)
  obtain⟨t,u,e⟩:=f 0 a q rfl rfl;refine⟨(Sum.inl q.1,.int q.2 u)::ps,.cons ⟨rfl,u,rfl⟩ o,by rw[vO,p,vO],fun j kv c=>?_⟩;cases j with
  | zero=>simp at c;subst c;exact⟨a,_,rfl,e,Kl _ _⟩
  | succ j=>obtain⟨b,s,d,g,k⟩:=r j kv (by simpa using c);exact⟨b,s,by simpa using d,g,k⟩
section
variable{X:Cx}
theorem xa(G:X.calm=true):CallR X (.type "dict") (fun xs H Q=>∃(p:Addr) (as:List Addr) (kvs:List (Int×Int)),xs=[.ref p]/\H p=some (.lst (as.map V.ref))/\as.length=kvs.length/\
  (∀(i:Nat) (a:Addr) (q:Int×Int),as[i]?=some a->kvs[i]?=some q->H a=some (.tup [.int q.1,.int q.2]))/\∀d,H d=none->Q (.ref d) (upd H d (.dK (mergeK [] (kvs.map iiK))))):=by
 intro M s σ H xs us Q I r h;obtain⟨p,as,kvs,rfl,Z,B,ht,q⟩:=h;obtain⟨u,rfl,ru⟩:=vals1 r;cases ru;obtain⟨z,D,n,rv,lv,e⟩:=I.lstM Z;have W:=ZG rv;subst W;rw[vt]at z;have J:p<s.heap.objs.size:=vH e;obtain⟨ps,kp,N,pt⟩:=WH (h:=s.heap) B fun i a q S U=>by
  obtain⟨_,D,r',t'⟩:=I.hok a _ (ht i a q S U);cases r' with
  | cons ra rr=>
   cases rr with
   | cons rb rr=>
    cases rr;obtain⟨t1,rfl⟩:=ra;obtain⟨t2,rfl⟩:=rb;exact⟨t1,t2,t'⟩
 refine callType_codes (Q₁:=fun t g=>t = .ref s.heap.objs.size/\g={s with heap:=s.heap.push {cls:=.type "dict",data:=.dict #[]}}) PySem.F.kt_called_dict (PySem.F.kt_typeCall_dict_1 (.ref p)) PySem.F.entry_dict_init (kt_code_dict_new (.ref p) ⟨rfl,rfl⟩) ?_;rintro t g ⟨rfl,rfl⟩;have c:(s.heap.push {cls:=.type "dict",data:=.dict #[]}).DictOf (mixKind X.prog X.w) s.heap.objs.size []:=Heap.DictOf.new s.heap;have v:∀b o,s.heap.get? b=some o->(s.heap.push {cls:=.type "dict",data:=.dict #[]}).get? b=some o:=fun b o e=>vI _ e
 generalize s.heap.push {cls:=.type "dict",data:=.dict #[]}=h0 at c v;refine⟨c.typeIs (s:={s with heap:=h0}),PySem.F.args_dict_init_2 _ _,?_⟩;unfold Builtin.«dict.__init__»;refine uk ?_;unfold Builtin.Dict.selfAndRest;refine uk (wpAny_notOrdered_dict (c.typeIs (s:={s with heap:=h0})) ?_);show wpAny (model X.prog X.w) _ (pure (s.heap.objs.size,[Value.ref p])) _ _ _;refine uh ?_;show wpAny (model X.prog X.w) _ (Builtin.Dict.updateFrom "dict.__init__" s.heap.objs.size (.ref p) [] .none) _ _ _;unfold Builtin.Dict.updateFrom;refine uk (wpAny_typeOf (T:="list") ⟨_,v _ _ e,rfl⟩ ?_);rw[ve (by decide)];refine uk (noKeys (s:={s with heap:=h0}) (v _ _ e) rfl rfl rfl (I.ok.hd G) fun m tk K=>?_);rw[ve (show(none:Option Value).isNone=true from rfl)];have f:∀b o,s.heap.get? b=some o->m.get? b=some o:=fun b o e=>K b o (v b o e)
 have k:m.DictOf (mixKind X.prog X.w) s.heap.objs.size []:=c.keep K;have w:s.heap.objs.size<m.objs.size:=by obtain⟨_,_,_,hg,_⟩:=k;exact vH hg
 have lp:p<m.objs.size:=vX J w;refine uk (wpAny_rule ?_);refine uk (wpAny_pyIter_list (l:=p) (items:=(as.map Value.ref).toArray) ⟨_,f _ _ e,rfl,n,rfl⟩ ?_);refine uh ⟨plainId_quiet zw _,?_⟩;refine dul (knd:=mixKind X.prog X.w) (A:=X.A.in1) (d:=s.heap.objs.size) (it:=m.objs.size) (l:=p) (items:=as.map Value.ref) (res:=.none) (I.ok.hd G) (vD w) (vM J) (vM lp) ps 0 [] _
  ⟨_,Heap.get?_push_size _ rfl,rfl,rfl⟩ ⟨_,vI _ (f _ _ e),rfl,n,rfl⟩ (by rw[vt,B,N,Nat.zero_add]) (fun j kv Y=>?_) (k.push _) (by rw[length_nil,N,<-B,Nat.zero_add];exact z) fun h2 E k2 x=>?_
 ·obtain⟨a,ky,O,⟨o,F,P⟩,R⟩:=pt j kv Y;have L:a<s.heap.objs.size:=vH F;exact⟨a,ky,by rw[Nat.zero_add,vv,O];rfl,⟨o,vI _ (f _ _ F),P⟩,R,vD L,vD (vX L w)⟩
 ·refine⟨rfl,.ref s.heap.objs.size,upd H s.heap.objs.size (.dK (mergeK [] (kvs.map iiK))),I.laid (t':=E) (fun b o y=>k2 b o (vD (vH y)) (vD (vX (vH y) w)) (vI _ (f _ _ y))) (vc _) ?_,rfl,q _ (I.hok.fresh (vc _))⟩;have hm:=Qq (kvs.map iiK) [];rw[length_nil,vt]at hm;have C:(s.heap.objs.size==sysModules)=false:=by
   rw[beq_eq_false_iff_ne];exact vM I.big
  exact YT (by lia) C (kp.merge .nil) x
end
theorem Xi{H:Hp}:∀(ks:List Int),DVs H (ks.map V.int) (ks.map PyData.int)
 | []=>.nil
 | k::r=>.cons (.int k) (Xi r)
theorem j2o(ks:List Int):PyData.eqv (.list (ks.map PyData.int)) (.list [])=decide (ks=[]):=by
 cases ks<;>simp[PyData.eqv,PyData.eqvAll]
theorem j3v{X:Cx}(S:X.A.units+64<cLine):OpR X (compareOp .In) (fun x y H Q=>∃(a l:Addr) (as:List Addr) (hs:List (List Int)),x = .ref a/\y = .ref l/\H a=some (.lst [])/\H l=some (.lst (as.map V.ref))/\as.length=hs.length/\
  (∀(i:Nat) (b:Addr) (ks:List Int),as[i]?=some b->hs[i]?=some ks->H b=some (.lst (ks.map V.int)))/\Q (.bl (hs.any fun ks=>decide (ks=[]))) H):=by
 intro o s U H x y v u Q I L M h;obtain⟨a,l,as,hs,rfl,rfl,t,B,R,D,q⟩:=h;cases L;cases M;obtain⟨F,r,G,T⟩:=I.list (SqL.of B);have A:=ZG r;subst A;obtain⟨N,J⟩:=QZ I (DV.lst t .nil) (show RelV (.ref a) (.ref a)from rfl)
 classical
 have p:∀(i:Nat) (b:Addr) (ks:List Int),as[i]?=some b->hs[i]?=some ks->∃c,Reads s.heap (.ref b) (.list (ks.map PyData.int)) c:=fun i b ks d f=>QZ I (DV.lst (D i b ks d f) (Xi ks)) (show RelV (.ref b) (.ref b)from rfl)
 have n:∀(i:Nat) (b:Addr) (ks:List Int),as[i]?=some b->hs[i]?=some ks->decide (∃c,Reads s.heap (.ref b) (.list []) c)=decide (ks=[]):=fun i b ks d f=>by
  obtain⟨c,m⟩:=p i b ks d f;rw[decide_eq_decide];constructor
  ·rintro⟨O,K⟩;have e:=SeqAt.Reads.unique _ _ _ _ _ (show PyData.canLay0 (.list [])=true from rfl) K m;cases ks with
   | nil=>rfl
   | cons k r=>simp at e
  ·rintro rfl;exact⟨c,m⟩
 refine SeqAt.in_listAt (fun w=>decide (∃c,Reads s.heap w (.list []) c)) G.isList (fun w j=>?_) ⟨.bl _,H,I,rfl,?_⟩
 ·obtain⟨i,g,e⟩:=mem_iff_getElem.mp (show w∈as.map Value.ref by simpa using j);rw[getElem_map]at e;rw[vt]at g;subst e;have d:as[i]?=some as[i]:=vz g;have f:hs[i]?=some hs[i]:=vz (by lia);obtain⟨c,m⟩:=p i _ _ d f;have z:=SeqAt.eqAt_reads _ _ X.A.in1 s _ _ _ _ m J (by show PyData.canLayAll0 _=true;exact ke_canLayAll0 _) rfl (by
   show X.A.in1.units+min (PyData.depthAll _+1) (0+1)<cLine;have P:X.A.in1.units=X.A.units+1:=rfl;lia)
  rw[j2o,<-n i _ _ d f]at z;exact z
 ·have e:(as.map Value.ref).toArray.any (fun w=>decide (∃c,Reads s.heap w (.list []) c))=hs.any fun ks=>decide (ks=[]):=by
   rw[List.any_toArray,List.any_map,Bool.eq_iff_iff,any_eq_true,any_eq_true];constructor
   ·rintro⟨b,C,j⟩;obtain⟨i,g,rfl⟩:=mem_iff_getElem.mp C;exact⟨hs[i],getElem_mem _,by rw[<-n i _ _ (vz g) (vz (by lia))];exact j⟩
   ·rintro⟨ks,E,j⟩;obtain⟨i,g,rfl⟩:=mem_iff_getElem.mp E;refine⟨as[i],getElem_mem _,?_⟩;show decide _=true;rw[n i _ _ (vz (by lia)) (vz g)];exact j
  rw[e];exact q
def Itv(K:Frg)(a:Addr)(n:Nat):It:=
 ⟨fun i H=>∃xs x,SqL K H a xs/\i<n/\xs[n-1-i]?=some x,fun i H x H'=>H'=H/\∀xs,SqL K H a xs->xs[n-1-i]?=some x,fun i _=>i=n⟩
theorem j1Y{P:Program}{w:World}{K:Frg}{tg:Expr}(a it:Addr)(n:Nat):Turn P w K tg (Itv K a n) [it] it (fun i h=>h.IsRevIter it a ((n:Int)-1-(i:Nat))) where
 mem:=by simp
 obj:=fun i h f b j=>by
  have e:b=it:=by simpa using j
  subst e;obtain⟨o,e,c,d⟩:=f;exact⟨o,e,fun v z=>by rw[d]at z;cases z⟩
 keep:=fun i h q f k=>f.at fun o e=>k it (by simp) o e
 item:=by
  intro X F G D J i g s N H E I r f m;subst F G D;obtain⟨xs,x,L,U,M⟩:=m;obtain⟨Z,rv,p,hz⟩:=I.list L;obtain⟨u,W,ru⟩:=rv.get M;obtain⟨t,y,T,A,B,C⟩:=r it (by simp);have e:((n:Int)-1-(i:Nat))=((n-1-i:Nat):Int):=by lia
  rw[e]at f;refine wpAny_pyNext_rev_item f p.isList (x:=u) (by simpa using W) fun q l sb=>?_
  have O:Inv X g N H {s with heap:=q}:=I.turned (t':=s.toks) (fun b o j e=>(sb.2 b j).trans e) t y A B C;have Q:(((n-1-i:Nat):Int)-1)=((n:Int)-1-((i+1:Nat):Int)):=by lia
  rw[Q]at l;obtain⟨o,S,c,d⟩:=id l;exact⟨u,rfl,Xl (s:={s with heap:=q}) S c d (by decide) ⟨x,H,O,ru,⟨rfl,fun ys Y=>by rw[I.list_inj Y L];exact M⟩,l,fun b j=>(r b j).1⟩⟩
 done:=by
  intro X F G D J i g s N H E I r f m;subst F G D;have m:i=n:=m;subst m;obtain⟨t,y,T,A,B,C⟩:=r it (by simp);rw[show((i:Int)-1-(i:Nat)) = -1 by lia]at f;exact wpAny_pyNext_rev_end (I.ok.hd J) f fun q R=>⟨rfl,I.turned (t':=s.toks) (fun b o j e=>R b o j e) t y A B C⟩
 self:=fun _ _ _ _ _ f h=>wpAny_pyIter_revIter f h
def iRev(K:Frg)(ta:TA):TI:=fun σ H R=>ta σ H fun vs H1=>∃a xs,vs=[.ref a]/\SqL K H1 a xs/\R (Itv K a xs.length) H1
theorem j3C{X:Cx}{E a:Expr}{l:TA}{p j:Pos}(v:Gl X "reversed")(x:X.mg "reversed"= none)(r:PA X [a] l)(z:starEach [a] X.env=[(false,eval a X.env)]:=by rfl) :
  PI X E (.Call (.Name "reversed" p) [a] [] j) (iRev X.K l):=by
 intro i s F H R I h;refine Call_ (ZQ I v x wX (PyProof.Rows.callWith_type1 (thn (r j i s F H _ I h) fun J d ⟨K,n,k,B,A⟩=>?_) z rfl));obtain⟨b,m,rfl,y,q⟩:=A;obtain⟨u,rfl,C⟩:=vals1 B;cases C;obtain⟨g,D,p,G⟩:=k.list y;have w:=D.length;refine call_reversed_list p.isList ?_;have f:(d.heap.push (revObj b ((g.toArray.size:Int)-1))).IsRevIter d.heap.objs.size b ((m.length:Int)-1-((0:Nat):Int)):=⟨_,Heap.get?_push_size _ rfl,rfl,by rw[w];simp[revObj]⟩
 refine wpAny_pyIter_revIter (s:={d with heap:=d.heap.push (revObj b ((g.toArray.size:Int)-1))}) f ?_;refine⟨d.heap.objs.size,[d.heap.objs.size],_,_,n,rfl,k.kept (t':=d.toks) fun b o e=>vI _ e,j1Y b _ m.length,f,fun c t=>?_,q⟩;have e:c=d.heap.objs.size:=by simpa using t
 subst e;exact k.fpOk (vc _) (k.hok.fresh (vc _))
theorem j2r{K:Frg}{a:Addr}{xs:List V}{g:TG}{j:TS}{D:Ends}{b:St}{H:Hp}(c:Nat->St->Hp->Prop)(k:c 0 b H)(n:∀i b H,i<=xs.length->c i b H->SqL K H a xs)
  (o:∀i x b H,i<xs.length->xs[xs.length-1-i]?=some x->c i b H->g x b H fun f H2=>j {D with nx:=c (i+1),ct:=c (i+1),bk:=D.nx} f H2) (hd:∀b H,c xs.length b H->D.nx b H) :
  ∃W:Nat->Nat->St->Hp->Prop,(∃m,W 0 m b H)/\∀i m b H,W i m b H->
   ((Itv K a xs.length).stop i H/\D.nx b H)\/((Itv K a xs.length).go i H/\∃N:St->Hp->Prop,(∀σ' H',N σ' H'->∃h,h<m/\W (i+1) h σ' H')/\∀x H',(Itv K a xs.length).yld i H x H'->g x b H' fun f H2=>j {D with nx:=N,ct:=N,bk:=D.nx} f H2):=by
 refine⟨fun i m b H=>m=xs.length-i/\i<=xs.length/\c i b H,⟨xs.length,by simp,vb _,k⟩,?_⟩;rintro i m b H ⟨rfl,l,p⟩;have q:=n i b H l p;by_cases d:i<xs.length
 ·refine .inr ⟨⟨xs,xs[xs.length-1-i],q,d,vz (by lia)⟩,c (i+1),fun σ' H' r=>⟨xs.length-(i+1),by lia,rfl,d,r⟩,fun x H' y=>?_⟩;obtain⟨e,y⟩:=y;subst e;exact o i x b _ d (y xs q) p
 ·have e:i=xs.length:=by lia
  subst e;exact .inl ⟨rfl,hd b H p⟩
theorem rd_iRev{K:Frg}{b:TA}{c:St}{H:Hp}{R:It->Hp->Prop}(h:b c H fun vs H1=>∃a xs,vs=[.ref a]/\SqL K H1 a xs/\R (Itv K a xs.length) H1):iRev K b c H R:=h
section
variable{X:Cx}
def tTru(K:Frg)(ta:TE):TT:=fun σ H Q=>ta σ H fun x H'=>∃k,TruV K x H' k/\Q k H'
theorem j1z{a:Expr}{c:TE}(d:PE X a c)(e:∀b,isTrue a X.env b=(do let v <-b;standAt a.pos;holding [v] (truthy v))):PT X a (tTru X.K c):=j1A d e
end
theorem rd_tru{K:Frg}{a:TE}{b:St}{H:Hp}{Q:Bool->Hp->Prop}(h:a b H fun x H'=>∃k,TruV K x H' k/\Q k H'):tTru K a b H Q:=h
theorem j0I{K:Frg}{a b:Addr}{xs zs:List V}{k:Nat}{ci:List Nat}{g:TG}{z:TT}{w:TE}{A:St}{H:Hp}{Z:Addr->List V->Hp->Prop}(d:Nat->List V->Hp->Prop)(s:xs.length=zs.length)(B:d 0 [] H)(E:∀i ys H,i<=xs.length->d i ys H->SqL K H a xs/\SqL K H b zs)
  (F:∀i u v ys H T H',xs[i]?=some u->zs[i]?=some v->d i ys H->Same H H'->H' T=some (.tup [u,v])->g (.ref T) (capS k ci A) H' fun c H2=>z c H2 fun b j=>if b=true then w c j fun v n=>ys.length<sizeLine/\d (i+1) (ys++[v]) n else d (i+1) ys j)
  (hd:∀ys H,d xs.length ys H->ys.length<=sizeLine/\∀p,H p=none->Z p ys H) :
  ∃W:Nat->Nat->List V->Hp->Prop,(∃m,W 0 m [] H)/\∀i m ys H,W i m ys H->
   ((Itz K a b).stop i H/\ys.length<=sizeLine/\∀p,H p=none->Z p ys H)\/
   ((Itz K a b).go i H/\∃N:List V->Hp->Prop,(∀f H',N f H'->∃t,t<m/\W (i+1) t f H')/\∀x H',(Itz K a b).yld i H x H'->g x (capS k ci A) H' fun c H2=>z c H2 fun b j=>
    if b=true then w c j fun v n=>ys.length<sizeLine/\N (ys++[v]) n else N ys j):=by
 refine⟨fun i m ys H=>m=xs.length-i/\i<=xs.length/\d i ys H,⟨xs.length,by simp,vb _,B⟩,?_⟩;rintro i m ys H ⟨rfl,D,p⟩;obtain⟨q,r⟩:=E i ys H D p;by_cases l:i<xs.length
 ·refine .inr ⟨⟨xs,xs[i],zs,zs[i],q,by simp[l],r,by simp⟩,d (i+1),fun f H' G=>⟨xs.length-(i+1),by lia,rfl,l,G⟩,fun x H' y=>?_⟩;obtain⟨T,u,v,rfl,C,e,y,I⟩:=y;exact F i u v ys H T H' (y xs q) (I zs r) p (fun b o h=>by rw[e,jh (je h C)];exact h) (by rw[e];exact jC)
 ·have e:i=xs.length:=by lia
  subst e;exact .inl ⟨⟨xs,zs,q,r,.inl (vc _)⟩,hd ys H p⟩
section
variable{X:Cx}{e:Expr}{te:TE}
end
theorem j1E{K:Frg}{i j k:Nat}{a:Addr}{x y z:V}{b:St}{H:Hp}{R:St->Hp->Prop}(e:SqT K H a [x,y,z])(h:gName i x b H fun σ' H'=>gName j y σ' H' fun σ' H'=>gName k z σ' H' R):gTup K 3 (gCons (gName i) (gCons (gName j) (gCons (gName k) gNil))) (.ref a) b H R:=
 ⟨a,[x,y,z],rfl,e,rfl,x,[y,z],rfl,y,[z],rfl,z,[],rfl,rfl,h⟩
theorem j3J{K:Frg}{i j k l:Nat}{a:Addr}{x y z w:V}{b:St}{H:Hp}{R:St->Hp->Prop}(e:SqT K H a [x,y,z,w])(h:gName i x b H fun σ' H'=>gName j y σ' H' fun σ' H'=>gName k z σ' H' fun σ' H'=>gName l w σ' H' R):gTup K 4 (gCons (gName i) (gCons (gName j) (gCons (gName k) (gCons (gName l) gNil)))) (.ref a) b H R:=
 ⟨a,[x,y,z,w],rfl,e,rfl,x,[y,z,w],rfl,y,[z,w],rfl,z,[w],rfl,w,[],rfl,rfl,h⟩
section
variable{prog:Program}{w:World}{A:Around}{E:Value->Shared->Prop}{s:Shared}
end
section
variable{X:Cx}{tg:Expr}
end
section
variable{X:Cx}
theorem j05:MtR X "list.index" (fun x vs H Q=>∃(p:Addr) (xs:List V) (y z:V) (j:Nat),x = .ref p/\vs=[y]/\SqL X.K H p xs/\flatV y=true/\xs.all flatV=true/\xs[j]?=some z/\eqV z y=true/\(∀(m:Nat) (c:V),m<j->xs[m]?=some c->eqV c y=false)/\Q (.int j) H):=by
 intro G s σ H x vs v us Q I Z Y h;obtain⟨p,xs,y,z,j,rfl,rfl,U,O,d,f,N,k,q⟩:=h;cases Z;obtain⟨u,rfl,W⟩:=vals1 Y;obtain⟨a,r,J,hz⟩:=I.list U;have lx:=r.length;have jl:=(vx.mp f).1;obtain⟨w',T,w⟩:=r.get f;have P:flatV z=true:=all_eq_true.mp d z (vm f);obtain⟨⟨L,M,B,sl⟩,S,C,n,D⟩:=id J.isList;simp only at C D;subst C D;have g:j<a.toArray.size:=by rw[size_toArray];lia
 have K:sizeLine<2^62:=by decide
 have t:(j:Int)<2^63-1:=by lia
 refine call_meets F.slot_list_index J.isList.typeIs F.entry_list_index (F.args_list_index_2 _ _) (SeqAt.list_indexAt p a.toArray n M sl u (eqU y) j g t ?_ ?_) ⟨S,fun y' o=>zu W O r d y' (by simpa using o),⟨.int j,H,I.tok _,⟨_,rfl⟩,q⟩⟩
 ·have e:a.toArray[j]=w':=by
   have:=vx.mp T;obtain⟨h,e⟩:=this;simpa using e
  rw[e,KQ w P];exact N
 ·intro m E i;have R:m<a.length:=by rw[size_toArray]at E;exact E
  obtain⟨c,b⟩:∃c,xs[m]?=some c:=⟨_,vz (by lia)⟩
  obtain⟨w2,l,A⟩:=r.get b;have e:a.toArray[m]=w2:=by
   obtain⟨h,e⟩:=vx.mp l;simpa using e
  rw[e,KQ A (all_eq_true.mp d c (vm b))];exact k m c i b
end
section
variable{prog:Program}{w:World}{A:Around}{E:Value->Shared->Prop}{s:Shared}
end
section
variable{X:Cx}{pos:Pos}
end
section
variable{σ:St}{H:Hp}{D:Ends}{Q:VK}{ta tb te:TE}
theorem rd_seq{t u:TS}(h:t {D with nx:=u D} σ H):tSeq t u D σ H:=h
theorem rd_asg{g:TG}(h:te σ H fun x H1=>g x σ H1 D.nx):tAsg te g D σ H:=h
theorem rd_v0{v:V}{r:St}(h:Q v H):tVar 0 (some v::r) H Q:=⟨v,rfl,h⟩
theorem rd_n0{a:Option V}{v:V}{r:St}{R:St->Hp->Prop}(h:R (some v::r) H):gName 0 v (a::r) H R:=h
theorem rd_v1{a:Option V}{v:V}{r:St}(h:Q v H):tVar 1 (a::some v::r) H Q:=⟨v,rfl,h⟩
theorem rd_n1{a a1:Option V}{v:V}{r:St}{R:St->Hp->Prop}(h:R (a::some v::r) H):gName 1 v (a::a1::r) H R:=h
theorem rd_v2{a a1:Option V}{v:V}{r:St}(h:Q v H):tVar 2 (a::a1::some v::r) H Q:=⟨v,rfl,h⟩
theorem rd_n2{a a1 a2:Option V}{v:V}{r:St}{R:St->Hp->Prop}(h:R (a::a1::some v::r) H):gName 2 v (a::a1::a2::r) H R:=h
theorem rd_v3{a a1 a2:Option V}{v:V}{r:St}(h:Q v H):tVar 3 (a::a1::a2::some v::r) H Q:=⟨v,rfl,h⟩
theorem rd_n3{a a1 a2 a3:Option V}{v:V}{r:St}{R:St->Hp->Prop}(h:R (a::a1::a2::some v::r) H):gName 3 v (a::a1::a2::a3::r) H R:=h
theorem rd_v4{a a1 a2 a3:Option V}{v:V}{r:St}(h:Q v H):tVar 4 (a::a1::a2::a3::some v::r) H Q:=⟨v,rfl,h⟩
theorem rd_n4{a a1 a2 a3 a4:Option V}{v:V}{r:St}{R:St->Hp->Prop}(h:R (a::a1::a2::a3::some v::r) H):gName 4 v (a::a1::a2::a3::a4::r) H R:=h
theorem rd_v5{a a1 a2 a3 a4:Option V}{v:V}{r:St}(h:Q v H):tVar 5 (a::a1::a2::a3::a4::some v::r) H Q:=⟨v,rfl,h⟩
theorem rd_n5{a a1 a2 a3 a4 a5:Option V}{v:V}{r:St}{R:St->Hp->Prop}(h:R (a::a1::a2::a3::a4::some v::r) H):gName 5 v (a::a1::a2::a3::a4::a5::r) H R:=h
theorem rd_v6{a a1 a2 a3 a4 a5:Option V}{v:V}{r:St}(h:Q v H):tVar 6 (a::a1::a2::a3::a4::a5::some v::r) H Q:=⟨v,rfl,h⟩
theorem rd_n6{a a1 a2 a3 a4 a5 a6:Option V}{v:V}{r:St}{R:St->Hp->Prop}(h:R (a::a1::a2::a3::a4::a5::some v::r) H):gName 6 v (a::a1::a2::a3::a4::a5::a6::r) H R:=h
theorem rd_v7{a a1 a2 a3 a4 a5 a6:Option V}{v:V}{r:St}(h:Q v H):tVar 7 (a::a1::a2::a3::a4::a5::a6::some v::r) H Q:=⟨v,rfl,h⟩
theorem rd_n7{a a1 a2 a3 a4 a5 a6 a7:Option V}{v:V}{r:St}{R:St->Hp->Prop}(h:R (a::a1::a2::a3::a4::a5::a6::some v::r) H):gName 7 v (a::a1::a2::a3::a4::a5::a6::a7::r) H R:=h
theorem rd_v8{a a1 a2 a3 a4 a5 a6 a7:Option V}{v:V}{r:St}(h:Q v H):tVar 8 (a::a1::a2::a3::a4::a5::a6::a7::some v::r) H Q:=⟨v,rfl,h⟩
theorem rd_n8{a a1 a2 a3 a4 a5 a6 a7 a8:Option V}{v:V}{r:St}{R:St->Hp->Prop}(h:R (a::a1::a2::a3::a4::a5::a6::a7::some v::r) H):gName 8 v (a::a1::a2::a3::a4::a5::a6::a7::a8::r) H R:=h
theorem rd_v9{a a1 a2 a3 a4 a5 a6 a7 a8:Option V}{v:V}{r:St}(h:Q v H):tVar 9 (a::a1::a2::a3::a4::a5::a6::a7::a8::some v::r) H Q:=⟨v,rfl,h⟩
theorem rd_n9{a a1 a2 a3 a4 a5 a6 a7 a8 a9:Option V}{v:V}{r:St}{R:St->Hp->Prop}(h:R (a::a1::a2::a3::a4::a5::a6::a7::a8::some v::r) H):gName 9 v (a::a1::a2::a3::a4::a5::a6::a7::a8::a9::r) H R:=h
theorem rd_v10{a a1 a2 a3 a4 a5 a6 a7 a8 a9:Option V}{v:V}{r:St}(h:Q v H):tVar 10 (a::a1::a2::a3::a4::a5::a6::a7::a8::a9::some v::r) H Q:=⟨v,rfl,h⟩
theorem rd_n10{a a1 a2 a3 a4 a5 a6 a7 a8 a9 a10:Option V}{v:V}{r:St}{R:St->Hp->Prop}(h:R (a::a1::a2::a3::a4::a5::a6::a7::a8::a9::some v::r) H):gName 10 v (a::a1::a2::a3::a4::a5::a6::a7::a8::a9::a10::r) H R:=h
theorem rd_v11{a a1 a2 a3 a4 a5 a6 a7 a8 a9 a10:Option V}{v:V}{r:St}(h:Q v H):tVar 11 (a::a1::a2::a3::a4::a5::a6::a7::a8::a9::a10::some v::r) H Q:=⟨v,rfl,h⟩
theorem rd_n11{a a1 a2 a3 a4 a5 a6 a7 a8 a9 a10 a11:Option V}{v:V}{r:St}{R:St->Hp->Prop}(h:R (a::a1::a2::a3::a4::a5::a6::a7::a8::a9::a10::some v::r) H):gName 11 v (a::a1::a2::a3::a4::a5::a6::a7::a8::a9::a10::a11::r) H R:=h
theorem rd_v12{a a1 a2 a3 a4 a5 a6 a7 a8 a9 a10 a11:Option V}{v:V}{r:St}(h:Q v H):tVar 12 (a::a1::a2::a3::a4::a5::a6::a7::a8::a9::a10::a11::some v::r) H Q:=⟨v,rfl,h⟩
theorem rd_n12{a a1 a2 a3 a4 a5 a6 a7 a8 a9 a10 a11 a12:Option V}{v:V}{r:St}{R:St->Hp->Prop}(h:R (a::a1::a2::a3::a4::a5::a6::a7::a8::a9::a10::a11::some v::r) H):gName 12 v (a::a1::a2::a3::a4::a5::a6::a7::a8::a9::a10::a11::a12::r) H R:=h
theorem rd_v13{a a1 a2 a3 a4 a5 a6 a7 a8 a9 a10 a11 a12:Option V}{v:V}{r:St}(h:Q v H):tVar 13 (a::a1::a2::a3::a4::a5::a6::a7::a8::a9::a10::a11::a12::some v::r) H Q:=⟨v,rfl,h⟩
theorem rd_n13{a a1 a2 a3 a4 a5 a6 a7 a8 a9 a10 a11 a12 a13:Option V}{v:V}{r:St}{R:St->Hp->Prop}(h:R (a::a1::a2::a3::a4::a5::a6::a7::a8::a9::a10::a11::a12::some v::r) H):gName 13 v (a::a1::a2::a3::a4::a5::a6::a7::a8::a9::a10::a11::a12::a13::r) H R:=h
theorem rd_v14{a a1 a2 a3 a4 a5 a6 a7 a8 a9 a10 a11 a12 a13:Option V}{v:V}{r:St}(h:Q v H):tVar 14 (a::a1::a2::a3::a4::a5::a6::a7::a8::a9::a10::a11::a12::a13::some v::r) H Q:=⟨v,rfl,h⟩
theorem rd_n14{a a1 a2 a3 a4 a5 a6 a7 a8 a9 a10 a11 a12 a13 a14:Option V}{v:V}{r:St}{R:St->Hp->Prop}(h:R (a::a1::a2::a3::a4::a5::a6::a7::a8::a9::a10::a11::a12::a13::some v::r) H):gName 14 v (a::a1::a2::a3::a4::a5::a6::a7::a8::a9::a10::a11::a12::a13::a14::r) H R:=h
theorem rd_v15{a a1 a2 a3 a4 a5 a6 a7 a8 a9 a10 a11 a12 a13 a14:Option V}{v:V}{r:St}(h:Q v H):tVar 15 (a::a1::a2::a3::a4::a5::a6::a7::a8::a9::a10::a11::a12::a13::a14::some v::r) H Q:=⟨v,rfl,h⟩
theorem rd_n15{a a1 a2 a3 a4 a5 a6 a7 a8 a9 a10 a11 a12 a13 a14 a15:Option V}{v:V}{r:St}{R:St->Hp->Prop}(h:R (a::a1::a2::a3::a4::a5::a6::a7::a8::a9::a10::a11::a12::a13::a14::some v::r) H):gName 15 v (a::a1::a2::a3::a4::a5::a6::a7::a8::a9::a10::a11::a12::a13::a14::a15::r) H R:=h
theorem rd_v16{a a1 a2 a3 a4 a5 a6 a7 a8 a9 a10 a11 a12 a13 a14 a15:Option V}{v:V}{r:St}(h:Q v H):tVar 16 (a::a1::a2::a3::a4::a5::a6::a7::a8::a9::a10::a11::a12::a13::a14::a15::some v::r) H Q:=⟨v,rfl,h⟩
theorem rd_n16{a a1 a2 a3 a4 a5 a6 a7 a8 a9 a10 a11 a12 a13 a14 a15 a16:Option V}{v:V}{r:St}{R:St->Hp->Prop}(h:R (a::a1::a2::a3::a4::a5::a6::a7::a8::a9::a10::a11::a12::a13::a14::a15::some v::r) H):gName 16 v (a::a1::a2::a3::a4::a5::a6::a7::a8::a9::a10::a11::a12::a13::a14::a15::a16::r) H R:=h
theorem rd_const{v:V}(h:Q v H):tC v σ H Q:=h
theorem rd_op{r:R2}(h:ta σ H fun x H1=>tb σ H1 fun y H2=>r x y H2 Q):tOp r ta tb σ H Q:=h
theorem rd_un{r:V->Hp->VK->Prop}(h:ta σ H fun x H1=>r x H1 Q):tUn r ta σ H Q:=h
theorem rd_i0{g:Int->Int->V}{i j:Int}(h:Q (g i j) H):rI0 g (.int i) (.int j) H Q:=⟨i,j,rfl,rfl,h⟩
theorem j40{C:Int->Int->Prop}{g:Int->Int->V}{i j:Int}(c:C i j)(h:Q (g i j) H):rI C g (.int i) (.int j) H Q:=⟨i,j,rfl,rfl,c,h⟩
theorem rd_u{g:Int->V}{i:Int}(h:Q (g i) H):rU g (.int i) H Q:=⟨i,rfl,h⟩
theorem rd_eqI{i j:Int}(h:Q (.bl (decide (i=j))) H):rEq (.int i) (.int j) H Q:=by
 refine⟨rfl,?_⟩;rw[show decide (V.int i=V.int j)=decide (i=j) by simp];exact h
theorem rd_neI{i j:Int}(h:Q (.bl (!decide (i=j))) H):rNe (.int i) (.int j) H Q:=by
 refine⟨rfl,?_⟩;rw[show decide (V.int i=V.int j)=decide (i=j) by simp];exact h
theorem rd_eqS{i j:Str}(h:Q (.bl (decide (i=j))) H):rEq (.str i) (.str j) H Q:=by
 refine⟨rfl,?_⟩;rw[show decide (V.str i=V.str j)=decide (i=j) by simp];exact h
theorem rd_if{c:TT}{t u:TS}(h:c σ H fun b H1=>if b=true then t D σ H1 else u D σ H1):tIfS c t u D σ H:=h
theorem rd_test{R:Bool->Hp->Prop}(h:te σ H fun x H'=>∃k,x = .bl k/\R k H'):tTest te σ H R:=h
theorem rd_tB{R:Bool->Hp->Prop}(h:te σ H fun x H'=>∃k,x = .bl k/\R k H'):tB te σ H R:=h
theorem rd_blP{k:Bool}{R:Bool->Prop}(h:R k):∃a,V.bl k = .bl a/\R a:=⟨k,rfl,h⟩
theorem rd_not{t:TT}{R:Bool->Hp->Prop}(h:t σ H fun c H1=>R (!c) H1):tNot t σ H R:=h
theorem rd_and{t u:TT}{R:Bool->Hp->Prop}(h:t σ H fun c H1=>if c=true then u σ H1 R else R false H1):tAnd t u σ H R:=h
theorem rd_or{t u:TT}{R:Bool->Hp->Prop}(h:t σ H fun c H1=>if c=true then R true H1 else u σ H1 R):tOr t u σ H R:=h
theorem rd_andV(h:ta σ H fun x H1=>∃c,x = .bl c/\if c=true then tb σ H1 Q else Q (.bl false) H1):tAndV ta tb σ H Q:=h
theorem rd_notV(h:ta σ H fun x H1=>∃c,x = .bl c/\Q (.bl (!c)) H1):tNotV ta σ H Q:=h
theorem rd_ifE{t:TT}(h:t σ H fun c H1=>if c=true then ta σ H1 Q else tb σ H1 Q):tIf t ta tb σ H Q:=h
theorem rd_ret(h:te σ H D.rt):tRet te D σ H:=h
theorem rd_next(h:D.nx σ H):tNext D σ H:=h
theorem rd_drop(h:te σ H fun _ H1=>D.nx σ H1):tDrop te D σ H:=h
theorem rd_cb{r:List V->Hp->VK->Prop}{t:TA}(h:t σ H fun vs H1=>r vs H1 Q):tCB r t σ H Q:=h
theorem rd_call{sp:Sp}{a:List V}{E:XK}{t:TA}(h:t σ H fun vs H1=>sp (vs++a) H1 Q E):tCall sp a E t σ H Q:=h
theorem rd_fld{K:Frg}{f:Str}(h:ta σ H fun x H1=>∃a C dx fs v,x = .ref a/\H1 a=some (.ins C dx fs)/\Cls K C/\NoAttr K C f/\fs.lookup f=some v/\Q v H1):tFld K ta f σ H Q:=h
theorem rd_sfld{K:Frg}{f:Str}(h:tb σ H fun y H1=>ta σ H1 fun x H2=>∃a C dx fs,x = .ref a/\H2 a=some (.ins C dx fs)/\Cls K C/\NoAttr K C f/\fs.length<1000/\D.nx σ (upd H2 a (.ins C dx (putF f y fs)))):sFld K ta tb f D σ H:=h
theorem rd_meth{C:Addr}{m:Str}{sp:Sp}{b:List V}{E:XK}{t:TA}(h:ta σ H fun x H1=>∃a dx fs,x = .ref a/\H1 a=some (.ins C dx fs)/\fs.lookup m=none/\t σ H1 fun vs H2=>sp (x::(vs++b)) H2 Q E):tMeth C m sp b E ta t σ H Q:=h
theorem rd_make{C:Addr}{sp:Sp}{a:List V}{E:XK}{t:TA}(h:t σ H fun vs H1=>∀x dx,H1 x=none->H1 dx=none->dx≠x->sp (.ref x::(vs++a)) (upd (upd H1 dx (.own x)) x (.ins C dx [])) (fun v H2=>v = .non/\Q (.ref x) H2) E):tMake C sp a E t σ H Q:=h
theorem rd_nil{R:List V->Hp->Prop}(h:R [] H):tNil σ H R:=h
theorem rd_cons{a:TA}{R:List V->Hp->Prop}(h:ta σ H fun x H1=>a σ H1 fun xs H2=>R (x::xs) H2):tCons ta a σ H R:=h
theorem rd_lst{t:TA}(h:t σ H fun xs H1=>xs.length<=sizeLine/\∀p,H1 p=none->Q (.ref p) (upd H1 p (.lst xs))):tLst t σ H Q:=h
theorem rd_tup{t:TA}(h:t σ H fun xs H1=>xs.length<=sizeLine/\∀p,H1 p=none->Q (.ref p) (upd H1 p (.tup xs))):tTup t σ H Q:=h
theorem rd_chain{r b:R2}{c:TE}(h:ta σ H fun x H1=>tb σ H1 fun y H2=>r x y H2 fun z a=>∃k,z = .bl k/\(if k=true then c σ a fun e d=>b y e d Q else Q (.bl false) a)):tChain r b ta tb c σ H Q:=h
theorem rd_bm{K:Frg}{T:String}{r:V->List V->Hp->VK->Prop}{t:TA}(h:te σ H fun x H1=>tyV K T x H1/\t σ H1 fun xs H2=>r x xs H2 Q):tBM K T r te t σ H Q:=h
theorem rd_sl{r:V->Option Int->Option Int->Hp->VK->Prop}{b a:TO}(h:te σ H fun x H1=>b σ H1 fun l H2=>a σ H2 fun u c=>r x l u c Q):tSl r te b a σ H Q:=h
theorem rd_nopart{R:Option Int->Hp->Prop}(h:R none H):tNoPart σ H R:=h
theorem rd_part{R:Option Int->Hp->Prop}(h:te σ H fun x H1=>∃i,x = .int i/\R (some i) H1):tPart te σ H R:=h
theorem rd_int{i:Int}{R:Int->Prop}(h:R i):∃a,V.int i = .int a/\R a:=⟨i,rfl,h⟩
theorem iteD{p A B:Prop}[Decidable p](a:p->A)(b:¬p->B):if decide p=true then A else B:=by
 by_cases h:p
 ·rw[ve (vF h)];exact a h
 ·rw[vd (by simpa using h)];exact b h
theorem iteN{p A B:Prop}[Decidable p](a:¬p->A)(b:p->B):if(!decide p)=true then A else B:=by
 by_cases h:p
 ·rw[vd (by simpa using h)];exact b h
 ·rw[ve (by simpa using h)];exact a h
theorem rd_rng1{a:TA}{R:It->Hp->Prop}(h:a σ H fun vs H1=>∃j:Int,vs=[.int j]/\-(2^62)<=j/\j<2^62/\R (Itr 0 j.toNat) H1):iRng1 a σ H R:=h
theorem rd_iList{K:Frg}{R:It->Hp->Prop}(h:te σ H fun x H1=>∃a,x = .ref a/\(∃xs,SqL K H1 a xs)/\R (Itl K a) H1):iList K te σ H R:=h
theorem rd_p18(h:Q (.int (10^18)) H):rI CPow (fun i j=>.int (i^j.toNat)) (.int 10) (.int 18) H Q:=⟨10,18,rfl,rfl,⟨by decide,by decide,by decide⟩,h⟩
theorem rd_p30(h:Q (.int (10^30)) H):rI CPow (fun i j=>.int (i^j.toNat)) (.int 10) (.int 30) H Q:=⟨10,30,rfl,rfl,⟨by decide,by decide,by decide⟩,h⟩
theorem rd_p60(h:Q (.int (10^60)) H):rI CPow (fun i j=>.int (i^j.toNat)) (.int 10) (.int 60) H Q:=⟨10,60,rfl,rfl,⟨by decide,by decide,by decide⟩,h⟩
theorem rd_aug{i:Nat}{a:TIp}(h:tVar i σ H fun x H0=>te σ H0 fun y H1=>a x y H1 fun z H2=>gName i z σ H2 D.nx):tAug i te a D σ H:=h
theorem rd_ipI{f:Int->Int->Int}{i j:Int}(h:Q (.int (f i j)) H):ipI f (.int i) (.int j) H Q:=⟨i,j,rfl,rfl,h⟩
theorem rd_for{d:TI}{g:TG}{c:TS} (h:d σ H fun J H1=>∃W:Nat->Nat->St->Hp->Prop,(∃m,W 0 m σ H1)/\∀i m σ H,W i m σ H->
 (J.stop i H/\D.nx σ H)\/(J.go i H/\∃N:St->Hp->Prop,(∀σ' H',N σ' H'->∃b,b<m/\W (i+1) b σ' H')/\∀x H',J.yld i H x H'->g x σ H' fun a H2=>c {D with nx:=N,ct:=N,bk:=D.nx} a H2)):tFor d g c D σ H:=h
theorem rd_comp{j:TI}{n:Nat}{ci:List Nat}{g:TG}{f:TT} (h:j σ H fun J H1=>∃W:Nat->Nat->List V->Hp->Prop,(∃m,W 0 m [] H1)/\∀i m ys H,W i m ys H->
 (J.stop i H/\ys.length<=sizeLine/\∀p,H p=none->Q (.ref p) (upd H p (.lst ys)))\/
 (J.go i H/\∃N:List V->Hp->Prop,(∀a H',N a H'->∃e,e<m/\W (i+1) e a H')/\∀x H',J.yld i H x H'->g x (capS n ci σ) H' fun c H2=>f c H2 fun b d=>
  if b=true then te c d fun v k=>ys.length<sizeLine/\N (ys++[v]) k else N ys d)):tComp j n ci g f te σ H Q:=h
theorem rd_yes{R:Bool->Hp->Prop}(h:R true H):tYes σ H R:=h
theorem J2{n:Nat}{ci:List Nat}{g:TG}{x:V}{σ':St}{R:St->Hp->Prop}(e:capS n ci σ=σ')(h:g x σ' H R):g x (capS n ci σ) H R:=by rw[e];exact h
theorem jG{t:TS}{σ':St}(e:σ=σ')(h:t D σ' H):t D σ H:=by subst e;exact h
theorem XJ{H H':Hp}{p:Addr}{o:HO}(h:H p=none)(e:upd H p o=H'):Same H H':=fun b u q=>by rw[<-e,jh (je q h)];exact q
theorem Qg{H H':Hp}{p:Addr}{o:HO}(e:upd H p o=H'):H' p=some o:=by rw[<-e];exact jC
end
theorem ixLm{K:Frg}{p:Addr}{xs:List V}{i:Int}{v:V}{H:Hp}{Q:VK}(h:SqL K H p xs)(e:atI xs i=some v)(q:Q v H):rIxL K (.ref p) (.int i) H Q:=⟨p,xs,i,v,rfl,rfl,h,e,q⟩
theorem ixTm{K:Frg}{p:Addr}{xs:List V}{i:Int}{v:V}{H:Hp}{Q:VK}(h:SqT K H p xs)(e:atI xs i=some v)(q:Q v H):rIxT K (.ref p) (.int i) H Q:=⟨p,xs,i,v,rfl,rfl,h,e,q⟩
end L2
local macro_rules | `(tactic| walk_at "side") => `(tactic| first | with_reducible assumption | exact L2.cdivB (by lia) (by lia) | exact L2.mulOk (by lia) (by lia) (by lia) (by lia) | exact L2.mulOkC (by first | assumption | exact L2.bits_ediv (by assumption) _) (by lia) (by lia) | lia)
local macro_rules | `(tactic| walk_at $s:str) => do
 let ws:=s.getString.splitOn " "
 if ws.head?==some "f" then
  let vs:=if ws.length==3 then["p"++ws.getD 1 "","hp"++ws.getD 1 "","H"++ws.getD 1 "","s"++ws.getD 1 "",ws.getD 2 ""++ws.getD 1 ""]else ws.drop 1
  let i:=fun(k:Nat)=>Lean.mkIdent (Lean.Name.mkSimple (vs.getD k ""))
  return <-`(tactic| (intro $(i 0):ident $(i 1):ident;generalize eH:L2.upd _ $(i 0) _ = $(i 2):ident;have $(i 3):ident:=L2.XJ $(i 1) eH;have $(i 4):ident:=L2.Qg eH;clear eH))
 if s.getString != "g" then Lean.Macro.throwUnsupported
 let as <-("rd_seq rd_asg rd_op rd_const rd_i0 rd_cons rd_nil rd_call rd_ret rd_if rd_test rd_tB rd_blP rd_not rd_next rd_v0 rd_v1 rd_v2 rd_v3 rd_v4 rd_v5 rd_v6 rd_v7 rd_v8 rd_v9 rd_v10 rd_v11 rd_v12 rd_v13 rd_v14 rd_v15 rd_v16 rd_un rd_u rd_and rd_or rd_andV rd_notV rd_ifE rd_drop rd_cb rd_lst rd_tup rd_chain rd_bm rd_sl rd_nopart rd_part rd_eqI rd_neI rd_eqS rd_str rd_int rd_rng1 rd_iList rd_ipI rd_aug rd_for rd_comp rd_yes rd_dget rd_iTup rd_sub rd_iEnum rd_iZip rd_dnew rd_dput rd_bm0 rd_iRev rd_tru rd_fld rd_sfld rd_meth rd_make rd_n0 rd_n1 rd_n2 rd_n3 rd_n4 rd_n5 rd_n6 rd_n7 rd_n8 rd_n9 rd_n10 rd_n11 rd_n12 rd_n13 rd_n14 rd_n15 rd_n16 rd_p18 rd_p30 rd_p60".splitOn " ").toArray.mapM λn=>`(Lean.Parser.Tactic.tacticSeq| refine $(Lean.mkIdent (Lean.Name.mkStr2 "L2" n)) ?_)
 `(tactic| repeat first | with_reducible (first $[| $as]*) | (with_reducible refine L2.j40 ?c ?_; (case c => ((try dsimp only); walk_at "side"))))
local macro_rules | `(tactic| exists $e) => `(tactic| (walk_at "g"; refine $e))
namespace Fs
end Fs
namespace Rp
noncomputable def ramp(s g b j:Int):Int:=s+(g-s)*j/b
end Rp
namespace Rp
end Rp
namespace Pr
open PySem L2
noncomputable def cell(ns:List Int)(k:Int):Int:=ns.getD k.toNat 0
inductive sp_cell_at(K:Frg)(vs:List V)(H:Hp)(Q:VK)(xk:XK):Prop
 | mk (a:Addr) (ns:List Int) (k:Int) (_:vs=[.ref a,.int k]) (_:SqL K H a (ns.map V.int)) (_:ns.length<=63) (_:0<=k) (_:Q (.int (cell ns k)) H):sp_cell_at K vs H Q xk
def WR:Sp:=fun vs H Q _=>∃i,vs=[.int i]/\Q (.bl true) H
theorem j2b{ns:List Int}{k:Int}(c:0<=k)(h:k<(ns.length:Int)):atI (ns.map V.int) k=some (.int (cell ns k)):=by
 have b:k=((k.toNat:Nat):Int):=by lia
 have a:k.toNat<ns.length:=by lia
 have q:atI (ns.map V.int) ((k.toNat:Nat):Int)=some (.int ns[k.toNat]):=jW (by rw[vv,vz a]<;>rfl);rw[<-b]at q;rw[q];unfold cell;rw[vy,vz a];rfl
end Pr
namespace Pr
open PySem L2
inductive sp_law(K:Frg)(vs:List V)(H:Hp)(Q:VK)(xk:XK):Prop
 | mk (a:Addr) (ns:List Int) (_:vs=[.ref a]) (_:SqL K H a (ns.map V.int)) (_:ns.length<=63) (_:(∀x∈ns,Builtin.Int.intBits x<=1048576)) (_:∀H',Q (.bl true) H'):sp_law K vs H Q xk
end Pr
namespace Pr
open PySem L2
end Pr
namespace Pr
open PySem L2
end Pr
namespace Pr
open PySem L2
end Pr
namespace Pr
open PySem L2
end Pr
namespace Pr
open PySem L2
end Pr
namespace Pr
open PySem L2
end Pr
namespace Ws
open PySem PySem.NumText L2
noncomputable def lets:Str:="abcdefghijklmnopqrstuvwxyz"
noncomputable def among(x z:Str):Bool:=decide (∀c∈x.cps.toList,c∈z.cps.toList)
noncomputable def isW(x:Str):Bool:=decide (1<=x.length/\x.length<=8)&&among x lets
end Ws
namespace Ws
open PySem PySem.NumText L2
end Ws
namespace Ws
open PySem L2
end Ws
namespace Rm
open PySem PySem.NumText PyProof.Rows L2
theorem j2k{x:Str}{lo hi:Option Int}:(Txt.slice x lo hi).length<=x.length:=Txt.slice_le x lo hi
theorem j1c{c:Nat}:c∈Ws.lets.cps.toList↔97<=c/\c<=122:=by
 rw[show Ws.lets.cps.toList=List.range' 97 26 by decide +kernel,List.mem_range'_1];lia
open PySem L2
theorem none_of{H H':Hp}{p:Addr}(s:Same H H')(h:H' p=none):H p=none:=by
 cases e:H p with
 | none=>rfl
 | some u=>rw[s _ _ e]at h;cases h
inductive Fm where
 | hold (n:Int) | ring (x:Str) (n:Int) | rise (x:Str) (h n:Int) | row (ps:List Str) | side (ps:List Str) | again (k:Int) (x:Str)
noncomputable def FormAt(H:Hp)(a:Addr):Fm->Prop
 | .hold n=>H a=some (.tup [.str "hold",.int n])
 | .ring x n=>H a=some (.tup [.str "ring",.str x,.int n])
 | .rise x h n=>H a=some (.tup [.str "raise",.str x,.int h,.int n])
 | .row ps=>∃b,H a=some (.tup [.str "row",.ref b])/\H b=some (.tup (ps.map V.str))
 | .side ps=>∃b,H a=some (.tup [.str "side",.ref b])/\H b=some (.tup (ps.map V.str))
 | .again k x=>H a=some (.tup [.str "again",.int k,.str x])
def PartAt(H:Hp)(a:Addr)(p:Str×Fm):Prop:=∃b,H a=some (.tup [.str p.1,.ref b])/\FormAt H b p.2
def LimbAt(H:Hp)(a:Addr)(p:Str×Int):Prop:=H a=some (.tup [.str p.1,.int p.2])
def All2{α:Type}(R:Addr->α->Prop)(as:List Addr)(xs:List α):Prop:=as.length=xs.length/\∀(i:Nat) (a:Addr) (x:α),as[i]?=some a->xs[i]?=some x->R a x
theorem All2.nil{b:Type}{R:Addr->b->Prop}:All2 R [] []:=⟨rfl,fun i a x h=>by simp at h⟩
theorem All2.mono{b:Type}{R S:Addr->b->Prop}{as:List Addr}{xs:List b}(h:All2 R as xs)(k:∀a x,R a x->S a x):All2 S as xs:=⟨h.1,fun i a x c d=>k a x (h.2 i a x c d)⟩
theorem All2.snoc{f:Type}{R:Addr->f->Prop}{as:List Addr}{xs:List f}{a:Addr}{x:f}(h:All2 R as xs)(k:R a x):All2 R (as++[a]) (xs++[x]):=by
 have j:=h.1;refine⟨by simp[j],fun i b y c d=>?_⟩;by_cases g:i<as.length
 ·rw[vA g]at c;rw[vA (by lia)]at d;exact h.2 i b y c d
 ·rw[vB (by lia)]at c;rw[vB (by lia)]at d;have e:i-as.length=0:=by
   have:=(vx.mp c).1;simp at this;lia
  rw[e]at c;rw[show i-xs.length=0 by lia]at d;simp at c d;subst c d;exact k
theorem All2.get{b:Type}{R:Addr->b->Prop}{as:List Addr}{xs:List b}{i:Nat}{x:b}(h:All2 R as xs)(d:xs[i]?=some x):∃a,as[i]?=some a/\R a x:=by
 have e:=(vx.mp d).1;have f:=h.1;have c:as[i]?=some as[i]:=vz (by lia);exact⟨_,c,h.2 i _ _ c d⟩
section
variable{H H':Hp}{z:Ra}{m:Rr}
end
section
variable{m:Rr}{f:Fm}{ks:List Int}{g:Int}
theorem getD_snoc{a:Type}{l:List a}{x d:a}{j:Nat}(h:j<l.length):(l++[x]).getD j d=l.getD j d:=by
 rw[vy,vy,vA h]
end
theorem getD_in{a:List Str}{n:Nat}(h:n<a.length):a.getD n ⟨#[]⟩∈a:=by
 rw[vy,vz h];exact getElem_mem h
theorem KG{as:List Addr}{i:Int}{a:Addr}(b:0<=i)(h:as[i.toNat]?=some a):atI (as.map V.ref) i=some (.ref a):=by
 have e:atI (as.map V.ref) ((i.toNat:Nat):Int)=some (.ref a):=jW (by rw[vv,h];rfl);rw[Int.toNat_of_nonneg b]at e;exact e
open PySem PySem.Spec PyProof.Rows L2
theorem yT:∀{ks:List Int} {lo hi:Int},ks.Pairwise (· < ·)->(∀k∈ks,lo<=k/\k<hi)->ks.length<=(hi-lo).toNat
 | [],_,_,_,_=>vb _
 | k::r,lo,hi,h,b=>by
  have c:=yT (ks:=r) (lo:=k+1) (hi:=hi) (pairwise_cons.mp h).2 fun x a=>⟨(pairwise_cons.mp h).1 x a,(b x (vp _ a)).2⟩
  have d:=b k vq;rw[vO];lia
theorem X1{H:Hp}{a:Addr}(h:H a=some (.lst [])):DV H (.ref a) (.list []):=.lst h .nil
theorem shp0:SeqAt.shaped (.list [])=true:=PySem.W.ke_shaped_ints []
theorem Xm(n:Int):∀hs:List Int,inV (.int n) (hs.map V.int)=decide (n∈hs)
 | []=>rfl
 | h::r=>by
  have a:=Xm n r;unfold inV at a|-;rw[v6,any_cons,a];have e:eqV (.int h) (.int n)=decide (h=n):=by
   show decide _=_;simp
  rw[e,Bool.eq_iff_iff];simp only[Bool.or_eq_true,decide_eq_true_eq,mem_cons];constructor
  ·rintro(x | x)
   ·exact .inl x.symm
   ·exact .inr x
  ·rintro(x | x)
   ·exact .inl x.symm
   ·exact .inr x
theorem inI(n:Int)(a:List Int):(if false=true then !inV (.int n) (a.map V.int)else inV (.int n) (a.map V.int))=decide (n∈a):=by rw[vd (by decide),Xm]
theorem flats:∀hs:List Int,(hs.map V.int).all flatV=true
 | []=>rfl
 | h::r=>by rw[v6,all_cons,flats r];rfl
theorem take_snoc{a:Type}{l:List a}{i:Nat}{x:a}(h:l[i]?=some x):l.take (i+1)=l.take i++[x]:=by
 rw[List.take_add_one,h];rfl
theorem j0s{c d:List Int}(f:c.Perm d)(g:d.Nodup)(e:c.Pairwise (·<=·)):c.Pairwise (· < ·):=
 (List.Pairwise.and e (f.nodup_iff.mpr g)).imp fun {a b} h=>by have i:=h.1;have j:a≠b:=h.2;lia
def Shp(n:Nat)(d:PyData):Prop:=d.canLay0=true/\d.depth<=n
theorem Shp.int{i:Int}:Shp 0 (.int i):=⟨rfl,vc _⟩
theorem Shp.str{x:Str}(h:PyData.strOk x=true):Shp 0 (.str x):=⟨h,vc _⟩
theorem Shp.mono{n k:Nat}{d:PyData}(h:Shp n d)(a:n<=k):Shp k d:=⟨h.1,vU h.2 a⟩
theorem yD{n:Nat}:∀{ds:List PyData},(∀d∈ds,Shp n d)->PyData.canLayAll0 ds=true/\PyData.depthAll ds<=n
 | [],_=>⟨rfl,vb _⟩
 | d::r,h=>by
  have a:=h d vq;have b:=yD (ds:=r) fun x c=>h x (vp _ c)
  constructor
  ·show(d.canLay0&&PyData.canLayAll0 r)=true;rw[a.1,b.1];rfl
  ·show max d.depth (PyData.depthAll r)<=n;exact Nat.max_le.mpr ⟨a.2,b.2⟩
theorem Shp.lst{n:Nat}{ds:List PyData}(h:∀d∈ds,Shp n d):Shp (n+1) (.list ds):=⟨(yD h).1,Nat.succ_le_succ (yD h).2⟩
theorem Shp.tup{n:Nat}{ds:List PyData}(h:∀d∈ds,Shp n d):Shp (n+1) (.tuple ds):=⟨(yD h).1,Nat.succ_le_succ (yD h).2⟩
theorem Shp.ok{n:Nat}{d:PyData}(h:Shp n d)(a:n<=64):SeqAt.shaped d=true:=by
 unfold SeqAt.shaped;rw[h.1,Bool.true_and];exact vF (vU h.2 a)
theorem zY{x:Str}(h:Ws.isW x=true):PyData.strOk x=true:=by
 unfold Ws.isW Ws.among at h;rw[Bool.and_eq_true]at h;have a:=of_decide_eq_true h.2;unfold PyData.strOk;rw[Array.all_eq_true_iff_forall_mem];intro c b;have:=j1c.mp (a c (by simpa using b));exact vF (by lia)
noncomputable def fmD:Fm->PyData
 | .hold n=>.tuple [.str "hold",.int n]
 | .ring x n=>.tuple [.str "ring",.str x,.int n]
 | .rise x h n=>.tuple [.str "raise",.str x,.int h,.int n]
 | .row ps=>.tuple [.str "row",.tuple (ps.map PyData.str)]
 | .side ps=>.tuple [.str "side",.tuple (ps.map PyData.str)]
 | .again k x=>.tuple [.str "again",.int k,.str x]
noncomputable def partD(p:Str×Fm):PyData:=.tuple [.str p.1,fmD p.2]
noncomputable def limbD(p:Str×Int):PyData:=.tuple [.str p.1,.int p.2]
theorem Qa{H:Hp}:∀(xs:List Str),DVs H (xs.map V.str) (xs.map PyData.str)
 | []=>.nil
 | x::r=>.cons (.str x) (Qa r)
theorem j2l{H:Hp}{a:Addr}{f:Fm}(h:FormAt H a f):DV H (.ref a) (fmD f):=by
 cases f with
 | hold n=>exact .tup h (.cons (.str _) (.cons (.int _) .nil))
 | ring x n=>exact .tup h (.cons (.str _) (.cons (.str _) (.cons (.int _) .nil)))
 | rise x v n=>exact .tup h (.cons (.str _) (.cons (.str _) (.cons (.int _) (.cons (.int _) .nil))))
 | row ps=>obtain⟨b,c,d⟩:=h;exact .tup c (.cons (.str _) (.cons (.tup d (Qa ps)) .nil))
 | side ps=>obtain⟨b,c,d⟩:=h;exact .tup c (.cons (.str _) (.cons (.tup d (Qa ps)) .nil))
 | again k x=>exact .tup h (.cons (.str _) (.cons (.int _) (.cons (.str _) .nil)))
theorem j2n{H:Hp}{a:Addr}{p:Str×Fm}(h:PartAt H a p):DV H (.ref a) (partD p):=by
 obtain⟨b,c,d⟩:=h;exact .tup c (.cons (.str _) (.cons (j2l d) .nil))
theorem j2m{H:Hp}{a:Addr}{p:Str×Int}(h:LimbAt H a p):DV H (.ref a) (limbD p):=.tup h (.cons (.str _) (.cons (.int _) .nil))
theorem All2.tail{c:Type}{R:Addr->c->Prop}{a:Addr}{x:c}{as:List Addr}{xs:List c}(h:All2 R (a::as) (x::xs)):R a x/\All2 R as xs:=
 ⟨h.2 0 a x rfl rfl,Nat.succ.inj h.1,fun i b y d e=>h.2 (i+1) b y (by simpa using d) (by simpa using e)⟩
theorem YU{b:Type}{H:Hp}{R:Addr->b->Prop}{D:b->PyData}(k:∀a x,R a x->DV H (.ref a) (D x)):∀{as:List Addr} {xs:List b},All2 R as xs->DVs H (as.map V.ref) (xs.map D)
 | [],[],_=>.nil
 | [],_::_,h=>by have:=h.1;simp at this
 | _::_,[],h=>by have:=h.1;simp at this
 | _::_,_::_,h=>.cons (k _ _ h.tail.1) (YU k h.tail.2)
noncomputable def FmWs:Fm->Prop
 | .hold n=>0<=n/\n<=10^18
 | .ring x n=>Ws.isW x=true/\0<=n/\n<=10^18
 | .rise x h n=>Ws.isW x=true/\0<=h/\h<=10^18/\0<=n/\n<=10^18
 | .row ps=>ps.length<=8/\∀x∈ps,Ws.isW x=true
 | .side ps=>ps.length<=8/\∀x∈ps,Ws.isW x=true
 | .again k x=>0<=k/\k<=10^18/\Ws.isW x=true
structure BkOk(ls:List (Str×Int))(ps:List (Str×Fm)):Prop where
 l8:ls.length<=8
 ln:∀p∈ls,Ws.isW p.1=true/\0<=p.2/\p.2<=10^18
 p61:ps.length<=61
 pn:∀p∈ps,Ws.isW p.1=true/\FmWs p.2
theorem zy{n:Nat}{xs:List Str}(h:∀x∈xs,Ws.isW x=true):∀d∈xs.map PyData.str,Shp n d:=fun d a=>by
 obtain⟨x,b,rfl⟩:=vJ.mp a;exact(Shp.str (zY (h x b))).mono (vb _)
theorem j1L{f:Fm}(h:FmWs f):Shp 2 (fmD f):=by
 cases f with
 | hold n=>exact(Shp.tup (n:=0) (by rintro d a;simp only[mem_cons,not_mem_nil,or_false]at a;rcases a with rfl | rfl;exact Shp.str (by decide +kernel);exact Shp.int)).mono (by decide)
 | ring x n=>exact(Shp.tup (n:=0) (by rintro d a;simp only[mem_cons,not_mem_nil,or_false]at a;rcases a with rfl | rfl | rfl;exact Shp.str (by decide +kernel);exact Shp.str (zY h.1);exact Shp.int)).mono (by decide)
 | rise x v n=>exact(Shp.tup (n:=0) (by rintro d a;simp only[mem_cons,not_mem_nil,or_false]at a;rcases a with rfl | rfl | rfl | rfl;exact Shp.str (by decide +kernel);exact Shp.str (zY h.1);exact Shp.int;exact Shp.int)).mono (by decide)
 | row ps=>exact Shp.tup (n:=1) (by rintro d a;simp only[mem_cons,not_mem_nil,or_false]at a;rcases a with rfl | rfl;exact(Shp.str (by decide +kernel)).mono (by decide);exact Shp.tup (zy h.2))
 | side ps=>exact Shp.tup (n:=1) (by rintro d a;simp only[mem_cons,not_mem_nil,or_false]at a;rcases a with rfl | rfl;exact(Shp.str (by decide +kernel)).mono (by decide);exact Shp.tup (zy h.2))
 | again k x=>exact(Shp.tup (n:=0) (by rintro d a;simp only[mem_cons,not_mem_nil,or_false]at a;rcases a with rfl | rfl | rfl;exact Shp.str (by decide +kernel);exact Shp.int;exact Shp.str (zY h.2.2))).mono (by decide)
theorem j0p{ls:List (Str×Int)}{ps:List (Str×Fm)}(B:BkOk ls ps):Shp 4 (.list (ps.map partD)):=by
 refine Shp.lst fun d a=>?_
 obtain⟨p,b,rfl⟩:=vJ.mp a;refine Shp.tup fun d a=>?_
 simp only[mem_cons,not_mem_nil,or_false]at a;rcases a with rfl | rfl
 ·exact(Shp.str (zY (B.pn p b).1)).mono (by decide)
 ·exact j1L (B.pn p b).2
theorem j0o{ls:List (Str×Int)}{ps:List (Str×Fm)}(B:BkOk ls ps):Shp 4 (.list (ls.map limbD)):=by
 refine Shp.mono (n:=2) (Shp.lst fun d a=>?_) (by decide);obtain⟨p,b,rfl⟩:=vJ.mp a;refine Shp.tup fun d a=>?_
 simp only[mem_cons,not_mem_nil,or_false]at a;rcases a with rfl | rfl
 ·exact Shp.str (zY (B.ln p b).1)
 ·exact Shp.int
noncomputable def bookD(ls:List (Str×Int))(ps:List (Str×Fm)):PyData:=.tuple [.list (ls.map limbD),.list (ps.map partD)]
theorem ko{ls:List (Str×Int)}{ps:List (Str×Fm)}(B:BkOk ls ps):Shp 5 (bookD ls ps):=by
 refine Shp.tup fun d a=>?_
 simp only[mem_cons,not_mem_nil,or_false]at a;rcases a with rfl | rfl
 ·exact j0o B
 ·exact j0p B
structure BookAt(H:Hp)(b pl pp:Addr)(las pas:List Addr)(ls:List (Str×Int))(ps:List (Str×Fm)):Prop where
 t:H b=some (.tup [.ref pl,.ref pp])
 l:H pl=some (.lst (las.map V.ref))
 la:All2 (LimbAt H) las ls
 p:H pp=some (.lst (pas.map V.ref))
 pa:All2 (PartAt H) pas ps
theorem FormAt.same{H H':Hp}{a:Addr}{f:Fm}(s:Same H H')(h:FormAt H a f):FormAt H' a f:=by
 cases f with
 | row ps=>obtain⟨b,c,d⟩:=h;exact⟨b,s _ _ c,s _ _ d⟩
 | side ps=>obtain⟨b,c,d⟩:=h;exact⟨b,s _ _ c,s _ _ d⟩
 | hold n=>exact s _ _ h
 | ring x n=>exact s _ _ h
 | rise x g n=>exact s _ _ h
 | again x n=>exact s _ _ h
theorem PartAt.same{H H':Hp}{a:Addr}{p:Str×Fm}(s:Same H H')(h:PartAt H a p):PartAt H' a p:=by
 obtain⟨b,c,d⟩:=h;exact⟨b,s _ _ c,FormAt.same s d⟩
theorem BookAt.same{H H':Hp}{b pl e:Addr}{c d:List Addr}{ls:List (Str×Int)}{ps:List (Str×Fm)}(B:BookAt H b pl e c d ls ps)(s:Same H H'):BookAt H' b pl e c d ls ps:=
 ⟨s _ _ B.t,s _ _ B.l,B.la.mono fun a x h=>s _ _ h,s _ _ B.p,B.pa.mono fun a x h=>PartAt.same s h⟩
theorem BookAt.dv{H:Hp}{b pl d:Addr}{a c:List Addr}{ls:List (Str×Int)}{ps:List (Str×Fm)}(B:BookAt H b pl d a c ls ps):DV H (.ref b) (bookD ls ps):=
 .tup B.t (.cons (.lst B.l (YU (fun _ _ h=>j2m h) B.la)) (.cons (.lst B.p (YU (fun _ _ h=>j2n h) B.pa)) .nil))
theorem j0P{ls:List (Str×Int)}{ps:List (Str×Fm)}(B:BkOk ls ps):PyData.eqv (bookD ls ps) (bookD ls ps)=true:=SeqAt.eqv_refl _ (ko B).1
theorem getD_inj{a:List Str}(d:a.Nodup){i j:Nat}(hi:i<a.length)(b:j<a.length)(h:a.getD i ⟨#[]⟩=a.getD j ⟨#[]⟩):i=j:=by
 rw[vy,vy,vz hi,vz b]at h;have c:a[i]=a[j]:=h;rcases Nat.lt_trichotomy i j with q | q | q
 ·exact ug c (pairwise_iff_getElem.mp d i j hi b q)
 ·exact q
 ·exact ug c.symm (pairwise_iff_getElem.mp d j i b hi q)
open PyProof.Rows.KTD (inKeys Dat)
theorem at0{x:V}{xs:List V}:atI (x::xs) 0=some x:=jW (j:=0) rfl
theorem iteB0{b:Bool}{A B:Prop}(e:b=false)(h:B):if b=true then A else B:=by rw[e];exact h
theorem iteB1{b:Bool}{A B:Prop}(e:b=true)(h:A):if b=true then A else B:=by rw[e];exact h
theorem All2.at_ref{e:Type}{R:Addr->e->Prop}{as:List Addr}{xs:List e}{i:Nat}{v:V}(h:All2 R as xs)(c:(as.map V.ref)[i]?=some v):∃a x,v = .ref a/\xs[i]?=some x/\R a x:=by
 rw[vv]at c;obtain⟨a,b,rfl⟩:=vh.mp c;have f:=(vx.mp b).1;have g:=h.1;have d:xs[i]?=some xs[i]:=vz (by lia);exact⟨a,_,rfl,d,h.2 i a _ b d⟩
theorem ZC:∀{n:Nat} {hs:List Int},hs.Nodup->(∀k∈hs,0<=k/\k<(n:Int))->hs.length<=n
 | 0,hs,_,h=>by
  cases hs with
  | nil=>exact vc _
  | cons k r=>have:=h k vq;lia
 | n+1,hs,nd,h=>by
  by_cases e:(n:Int)∈hs
  ·have i:=ZC (n:=n) (nd.erase (n:Int)) fun k a=>by
    have b:=h k (List.mem_of_mem_erase a);have c:k≠(n:Int):=fun z=>nd.not_mem_erase (z▸a)
    lia
   have l:=List.length_erase_of_mem e;lia
  ·have i:=ZC (n:=n) nd fun k a=>by
    have b:=h k a;have c:k≠(n:Int):=fun z=>e (z▸a)
    lia
   lia
noncomputable def Fm.ns:Fm->List Str
 | .row ps=>ps
 | .side ps=>ps
 | .again _ x=>[x]
 | _=>[]
noncomputable def numK(xs:List Str):List (Key×V):=xs.zipIdx.map fun p=>(Sum.inr p.1,.int (p.2:Nat))
theorem j08(xs:List Str)(x:Str):numK (xs++[x])=numK xs++[(Sum.inr x,.int (xs.length:Nat))]:=by
 unfold numK;rw[List.zipIdx_append,vk];simp
theorem j1m(xs:List Str):(numK xs).length=xs.length:=by simp[numK]
theorem Ks(xs:List Str):(numK xs).map (·.1)=xs.map Sum.inr:=by
 unfold numK;rw[v3];have e:∀(k:Nat) (xs:List Str),(xs.zipIdx k).map ((fun x=>x.1)∘fun p:Str×Nat=>((Sum.inr p.1:Key),V.int (p.2:Nat)))=xs.map Sum.inr:=fun k xs=>by
  induction xs generalizing k with
  | nil=>rfl
  | cons x r ih=>rw[List.zipIdx_cons,v6,v6,ih];rfl
 exact e 0 xs
theorem j2J{xs:List Str}{j:Nat}{x:Str}(h:xs[j]?=some x):(numK xs)[j]?=some (Sum.inr x,.int (j:Nat)):=by
 unfold numK;rw[vv,List.getElem?_zipIdx,h];simp
theorem xW:∀{kvs:List (Key×V)} {j:Nat} {k:Key} {v:V},(kvs.map (·.1)).Nodup->kvs[j]?=some (k,v)->valV kvs k=some v
 | [],j,k,v,_,h=>by simp at h
 | p::r,0,k,v,_,h=>by
  simp at h;subst h;unfold valV;simp
 | p::r,j+1,k,v,nd,h=>by
  rw[v6,ut]at nd;have a:r[j]?=some (k,v):=by simpa using h
  have c:p.1≠k:=fun e=>nd.1 (e▸vJ.mpr ⟨(k,v),vm a,rfl⟩)
  have b:=xW nd.2 a;unfold valV at b|-;rw[List.find?_cons,vG c];exact b
theorem WA{xs:List Str}(a:xs.Nodup){j:Nat}{x:Str}(h:xs[j]?=some x):valV (numK xs) (Sum.inr x)=some (.int (j:Nat)):=
 xW (by rw[Ks];exact pairwise_map.mpr (a.imp fun h e=>h (Sum.inr.inj e))) (j2J h)
theorem ka{kvs:List (Key×V)}{k:Key}{v:V}(h:k∉kvs.map (·.1)):putK kvs k v=kvs++[(k,v)]:=by
 unfold putK;rw[vd];intro e;obtain⟨p,b,a⟩:=any_eq_true.mp e;exact h (vJ.mpr ⟨p,b,of_decide_eq_true a⟩)
noncomputable def ixOf:List Str->Str->Nat
 | [],_=>0
 | y::r,x=>if y=x then 0 else ixOf r x+1
theorem Ja:∀{xs:List Str} {j:Nat} {x:Str},xs.Nodup->xs[j]?=some x->ixOf xs x=j
 | [],j,x,_,h=>by simp at h
 | y::r,0,x,_,h=>by
  simp at h;subst h;exact ve rfl
 | y::r,j+1,x,nd,h=>by
  rw[ut]at nd;have a:r[j]?=some x:=by simpa using h
  have b:y≠x:=fun e=>nd.1 (e▸vm a)
  show(if y=x then 0 else ixOf r x+1)=j+1;rw[vd b,Ja nd.2 a]
noncomputable def nmsOf{α:Type}(ps:List (Str×α)):List Str:=ps.map (·.1)
noncomputable def inP(ps:List (Str×Fm))(f:Fm):List Nat:=f.ns.map (ixOf (nmsOf ps))
structure WfB(ls:List (Str×Int))(ps:List (Str×Fm)):Prop where
 ln:(nmsOf ls).Nodup
 l8:ls.length<=8
 pn:(nmsOf ps).Nodup
 p61:ps.length<=61
 f:∀(i:Nat) (p:Str×Fm),ps[i]?=some p->(∀x∈p.2.ns,∃j,j<i/\(nmsOf ps)[j]?=some x)/\p.2.ns.length<=8
 r:∀(i:Nat) (y x:Str) (h n:Int),ps[i]?=some (y,.rise x h n)->∃j:Nat,(nmsOf ls)[j]?=some x
theorem WfB.inP_lt{ls:List (Str×Int)}{ps:List (Str×Fm)}(W:WfB ls ps){i:Nat}{p:Str×Fm}(h:ps[i]?=some p){j:Nat}(a:j∈inP ps p.2):j<i:=by
 obtain⟨x,c,rfl⟩:=vJ.mp a;obtain⟨k,b,e⟩:=(W.f i p h).1 x c;rw[Ja W.pn e];exact b
inductive sp_numbers_of(vs:List V)(H:Hp)(Q:VK)(xk:XK):Prop
 | mk (l:Addr) (as:List Addr) (xs:List Str) (_:vs=[.ref l]) (_:H l=some (.lst (as.map V.ref))) (_:as.length=xs.length) (_:(∀(i:Nat) (a:Addr) (x:Str),as[i]?=some a->xs[i]?=some x->∃r,H a=some (.tup [.str x,r]))) (_:xs.Nodup) (_:xs.length<=100) (_:∀(d:Addr) (H':Hp),Same H H'->H d=none->H' d=some (.dK (numK xs))->Q (.ref d) H'):sp_numbers_of vs H Q xk
inductive sp_names_in(vs:List V)(H:Hp)(Q:VK)(xk:XK):Prop
 | mk (a:Addr) (f:Fm) (_:vs=[.ref a]) (_:FormAt H a f) (_:∀(b:Addr) (H':Hp),Same H H'->H' b=some (.tup (f.ns.map V.str))->Q (.ref b) H'):sp_names_in vs H Q xk
def ListsAt(H:Hp)(as:List Addr)(M:List (List Int)):Prop:=All2 (fun a ks=>H a=some (.lst (ks.map V.int))) as M
theorem All2.monoM{c:Type}{R S:Addr->c->Prop}{as:List Addr}{xs:List c}(h:All2 R as xs)(k:∀a∈as,∀x,R a x->S a x):All2 S as xs:=⟨h.1,fun i a x b d=>k a (vm b) x (h.2 i a x b d)⟩
inductive sp_inner(vs:List V)(H:Hp)(Q:VK)(xk:XK):Prop
 | mk (b pl pp:Addr) (las pas:List Addr) (ls:List (Str×Int)) (ps:List (Str×Fm)) (_:vs=[.ref b]) (_:BookAt H b pl pp las pas ls ps) (_:WfB ls ps) (_:∀(l:Addr) (as:List Addr) (H':Hp),Same H H'->H l=none->H' l=some (.lst (as.map V.ref))->(∀a∈as,H a=none)->ListsAt H' as (ps.map fun p=>(inP ps p.2).map fun j:Nat=>(j:Int))->Q (.ref l) H'):sp_inner vs H Q xk
def PrsAt(H:Hp)(bs:List Addr)(e:List (Int×Int)):Prop:=All2 (fun b q=>H b=some (.tup [.int q.1,.int q.2])) bs e
def EndsAt(H:Hp)(as:List Addr)(E:List (List (Int×Int))):Prop:=All2 (fun a e=>∃bs,H a=some (.lst (bs.map V.ref))/\PrsAt H bs e) as E
def LastIn(E:List (List (Int×Int)))(is:List Nat)(k v:Int):Prop:=∃pre j post,is=pre++j::post/\(k,v)∈E.getD j []/\∀j'∈post,∀v',(k,v')∉E.getD j' []
def EndIs(ls:List (Str×Int))(ps:List (Str×Fm))(E:List (List (Int×Int)))(f:Fm)(k v:Int):Prop:=LastIn E (inP ps f) k v\/∃x n,f = .rise x v n/\k=(ixOf (nmsOf ls) x:Nat)
def EndOk(ls:List (Str×Int))(ps:List (Str×Fm))(E:List (List (Int×Int))):Prop:=∀(i:Nat) (p:Str×Fm) (e:List (Int×Int)),ps[i]?=some p->E[i]?=some e->(e.map (·.1)).Pairwise (· < ·)/\∀k v,(k,v)∈e↔EndIs ls ps E p.2 k v
inductive sp_ends(vs:List V)(H:Hp)(Q:VK)(xk:XK):Prop
 | mk (b pl pp:Addr) (las pas:List Addr) (ls:List (Str×Int)) (ps:List (Str×Fm)) (_:vs=[.ref b]) (_:BookAt H b pl pp las pas ls ps) (_:WfB ls ps) (_:∀(l:Addr) (as:List Addr) (E:List (List (Int×Int))) (H':Hp),Same H H'->H l=none->H' l=some (.lst (as.map V.ref))->(∀a∈as,H a=none)->E.length=ps.length->EndsAt H' as E->EndOk ls ps E->Q (.ref l) H'):sp_ends vs H Q xk
def MovOk(ls:List (Str×Int))(ps:List (Str×Fm))(M:List (List Int)):Prop:=∀(i:Nat) (p:Str×Fm) (ks:List Int),ps[i]?=some p->M[i]?=some ks->ks.Pairwise (· < ·)/\∀k,k∈ks↔(∃j∈inP ps p.2,k∈M.getD j [])\/∃x h n,p.2 = .rise x h n/\k=(ixOf (nmsOf ls) x:Nat)
inductive sp_moved(vs:List V)(H:Hp)(Q:VK)(xk:XK):Prop
 | mk (b pl pp:Addr) (las pas:List Addr) (ls:List (Str×Int)) (ps:List (Str×Fm)) (_:vs=[.ref b]) (_:BookAt H b pl pp las pas ls ps) (_:WfB ls ps) (_:∀(l:Addr) (as:List Addr) (M:List (List Int)) (H':Hp),Same H H'->H l=none->H' l=some (.lst (as.map V.ref))->(∀a∈as,H a=none)->M.length=ps.length->ListsAt H' as M->MovOk ls ps M->Q (.ref l) H'):sp_moved vs H Q xk
theorem j22:∀{a b:List Int},a.Pairwise (· < ·)->b.Pairwise (· < ·)->(∀k,k∈a↔k∈b)->a=b
 | [],[],_,_,_=>rfl
 | [],y::s,_,_,h=>ug ((h y).mpr vq) (by simp)
 | x::r,[],_,_,h=>ug ((h x).mp vq) (by simp)
 | x::r,y::s,ha,hb,h=>by
  rw[pairwise_cons]at ha hb;have e:x=y:=by
   rcases mem_cons.mp ((h x).mp vq)with q | q
   ·exact q
   ·rcases mem_cons.mp ((h y).mpr vq)with d | d
    ·exact d.symm
    ·have f:=hb.1 x q;have g:=ha.1 y d;lia
  subst e;congr 1;refine j22 ha.2 hb.2 fun k=>⟨fun c=>?_,fun c=>?_⟩
  ·rcases mem_cons.mp ((h k).mp (vp _ c))with q | q
   ·have:=ha.1 k c;lia
   ·exact q
  ·rcases mem_cons.mp ((h k).mpr (vp _ c))with q | q
   ·have:=hb.1 k c;lia
   ·exact q
theorem getD_map{E:List (List (Int×Int))}(j:Nat):(E.map fun e=>e.map (·.1)).getD j []=(E.getD j []).map (·.1):=by
 rw[vy,vy,vv];cases E[j]?<;>rfl
theorem K1{k:Int}{e:List (Int×Int)}:k∈e.map (·.1)↔∃v,(k,v)∈e:=by
 constructor
 ·intro h;obtain⟨p,a,rfl⟩:=vJ.mp h;exact⟨p.2,a⟩
 ·rintro⟨v,h⟩;exact vJ.mpr ⟨_,h,rfl⟩
theorem Yt{E:List (List (Int×Int))}{k:Int}:∀{is:List Nat},(∃v,LastIn E is k v)↔∃j∈is,∃v,(k,v)∈E.getD j []
 | []=>⟨fun⟨v,b,j,a,e,_⟩=>by cases b<;>simp at e,fun⟨j,h,_⟩=>by simp at h⟩
 | i::r=>by
  have p:=Yt (E:=E) (k:=k) (is:=r);constructor
  ·rintro⟨v,b,j,a,e,c,m⟩;exact⟨j,by rw[e];simp,v,c⟩
  ·rintro⟨j,d,v,n⟩;by_cases q:∃j∈r,∃v,(k,v)∈E.getD j []
   ·obtain⟨l,b,g,a,e,c,m⟩:=p.mpr q;exact⟨l,i::b,g,a,by rw[e];rfl,c,m⟩
   ·rcases mem_cons.mp d with rfl | d
    ·exact⟨v,[],j,r,rfl,n,fun g o l f=>q ⟨g,o,l,f⟩⟩
    ·exact ug ⟨j,d,v,n⟩ q
theorem j3q{ls:List (Str×Int)}{ps:List (Str×Fm)}{E:List (List (Int×Int))}(s:E.length=ps.length)(h:EndOk ls ps E):MovOk ls ps (E.map fun e=>e.map (·.1)):=fun i p t q d=>by
 rw[vv]at d;obtain⟨e,o,rfl⟩:=vh.mp d;obtain⟨a,b⟩:=h i p e q o;refine⟨a,fun k=>?_⟩;rw[K1];constructor
 ·rintro⟨v,r⟩;rcases(b k v).mp r with z | ⟨x,n,f,g⟩
  ·obtain⟨j,l,m,c⟩:=Yt.mp ⟨v,z⟩;exact .inl ⟨j,l,by rw[getD_map];exact K1.mpr ⟨m,c⟩⟩
  ·exact .inr ⟨x,v,n,f,g⟩
 ·rintro(⟨j,l,d⟩ | ⟨x,h,n,f,g⟩)
  ·rw[getD_map]at d;obtain⟨m,c⟩:=K1.mp d;obtain⟨v,z⟩:=Yt.mpr ⟨j,l,m,c⟩;exact⟨v,(b k v).mpr (.inl z)⟩
  ·exact⟨h,(b k h).mpr (.inr ⟨x,n,f,g⟩)⟩
theorem Xo{xs:List Str}{x:Str}(h:x∈xs):ixOf xs x<xs.length:=by
 induction xs with
 | nil=>exact nomatch h
 | cons y r ih=>
  show(if y=x then 0 else ixOf r x+1)<r.length+1;split
  ·lia
  ·rename_i hne;rcases mem_cons.mp h with e | e
   ·exact ug e.symm hne
   ·have:=ih e;lia
theorem Wg{ls:List (Str×Int)}{ps:List (Str×Fm)}(W:WfB ls ps){E:List (List (Int×Int))}(s:E.length<=ps.length)(h:EndOk ls ps E):∀(i:Nat),∀q∈E.getD i [],0<=q.1/\q.1<(ls.length:Int):=by
 intro i
 induction i using Nat.strongRecOn with
 | ind i ih=>
  intro q a;rw[vy]at a;cases e:E[i]? with
  | none=>rw[e]at a;exact nomatch a
  | some ev=>
   rw[e]at a;have r:=(vx.mp e).1;have f:ps[i]?=some ps[i]:=vz (by lia);obtain⟨_,b⟩:=h i _ ev f e;rcases(b q.1 q.2).mp a with⟨m,j,k,c,d,_⟩ | ⟨x,n,c,d⟩
   ·exact ih j (W.inP_lt f (by rw[c];simp)) _ d
   ·have g:ps[i]?=some (ps[i].1,.rise x q.2 n):=by rw[f,<-c]
    obtain⟨j,l⟩:=W.r i _ _ _ _ g;have o:=Xo (vm l);have p:(nmsOf ls).length=ls.length:=vt _;rw[d];lia
theorem Wh{ls:List (Str×Int)}{ps:List (Str×Fm)}(W:WfB ls ps){E:List (List (Int×Int))}(f:E.length<=ps.length)(h:EndOk ls ps E){i:Nat}{e:List (Int×Int)}(c:E[i]?=some e):e.length<=8:=by
 have hi:=(vx.mp c).1;have a:=(h i _ e (vz (by lia)) c).1;have b:=Wg W f h i;rw[vy,c]at b;have z:=yT (ks:=e.map (·.1)) (lo:=0) (hi:=ls.length) a fun k d=>by
  obtain⟨q,g,rfl⟩:=vJ.mp d;exact b q g
 rw[vt]at z;have:=W.l8;lia
noncomputable def putI(kvs:List (Int×Int))(k v:Int):List (Int×Int):=if k∈kvs.map (·.1)then kvs.map (fun q=>if q.1=k then(q.1,v)else q)else kvs++[(k,v)]
noncomputable def mergeI(kvs more:List (Int×Int)):List (Int×Int):=more.foldl (fun acc q=>putI acc q.1 q.2) kvs
theorem j1B(kvs:List (Int×Int))(k v:Int):putK (kvs.map iiK) (Sum.inl k) (.int v)=(putI kvs k v).map iiK:=by
 have e:(((kvs.map iiK).any fun kv=>decide (kv.1=(Sum.inl k:Key)))=true)↔k∈kvs.map (·.1):=by
  rw[List.any_map,any_eq_true];constructor
  ·rintro⟨q,a,h⟩;have b:(Sum.inl q.1:Key)=Sum.inl k:=of_decide_eq_true h;exact vJ.mpr ⟨q,a,Sum.inl.inj b⟩
  ·intro h;obtain⟨q,a,rfl⟩:=vJ.mp h;exact⟨q,a,vF rfl⟩
 unfold putK putI;by_cases c:k∈kvs.map (·.1)
 ·rw[ve (e.mpr c),ve c,v3,v3];refine map_congr_left fun q _=>?_
  show(if(Sum.inl q.1:Key)=Sum.inl k then _ else _)=iiK (if q.1=k then(q.1,v)else q);by_cases z:q.1=k
  ·rw[ve z,ve (by rw[z])];rfl
  ·rw[vd z,vd (fun w=>z (Sum.inl.inj w))]
 ·rw[vd (fun w=>c (e.mp w)),vd c,vk];rfl
theorem ZT:∀(more kvs:List (Int×Int)),mergeK (kvs.map iiK) (more.map iiK)=(mergeI kvs more).map iiK
 | [],kvs=>rfl
 | q::r,kvs=>by
  show mergeK (putK (kvs.map iiK) (Sum.inl q.1) (.int q.2)) (r.map iiK)=(mergeI (putI kvs q.1 q.2) r).map iiK;rw[j1B,ZT r]
theorem j0c(kvs:List (Int×Int))(k v:Int)(d:(kvs.map (·.1)).Nodup):((putI kvs k v).map (·.1)).Nodup:=by
 unfold putI;split
 ·rw[v3];have e:kvs.map ((fun x=>x.1)∘fun q=>if q.1=k then(q.1,v)else q)=kvs.map (·.1):=map_congr_left fun q _=>by
   show(if q.1=k then(q.1,v)else q).1=q.1;split<;>rfl
  rw[e];exact d
 ·rename_i c;rw[vk,nodup_append];exact⟨d,pairwise_singleton _ _,fun a f b g e=>c (by rw[show k=b from(vo.mp g).symm,<-e];exact f)⟩
theorem j1d{kvs:List (Int×Int)}{k v a b:Int}:(a,b)∈putI kvs k v↔(a=k/\b=v)\/(a≠k/\(a,b)∈kvs):=by
 unfold putI;split
 ·rename_i c;rw[vJ];constructor
  ·rintro⟨q,d,e⟩;by_cases z:q.1=k
   ·rw[ve z]at e;cases e;exact .inl ⟨z,rfl⟩
   ·rw[vd z]at e;subst e;exact .inr ⟨z,d⟩
  ·rintro(⟨rfl,rfl⟩ | ⟨f,g⟩)
   ·obtain⟨q,d,e⟩:=vJ.mp c;exact⟨q,d,by rw[ve e,e]⟩
   ·exact⟨(a,b),g,by rw[vd f]⟩
 ·rename_i c;rw[vi];constructor
  ·rintro(h | h)
   ·exact .inr ⟨fun e=>c (e▸vJ.mpr ⟨(a,b),h,rfl⟩),h⟩
   ·cases vo.mp h;exact .inl ⟨rfl,rfl⟩
  ·rintro(⟨rfl,rfl⟩ | ⟨_,h⟩)
   ·exact .inr (vo.mpr rfl)
   ·exact .inl h
theorem Kp:∀{more kvs:List (Int×Int)},(kvs.map (·.1)).Nodup->(more.map (·.1)).Nodup->((mergeI kvs more).map (·.1)).Nodup/\∀k v,(k,v)∈mergeI kvs more↔(k,v)∈more\/((∀c,(k,c)∉more)/\(k,v)∈kvs)
 | [],kvs,nd,_=>⟨nd,fun k v=>⟨fun h=>.inr ⟨(fun _ h=>nomatch h),h⟩,fun h=>h.elim (fun h=>nomatch h) (·.2)⟩⟩
 | q::r,kvs,nd,nm=>by
  rw[v6,ut]at nm;obtain⟨a,b⟩:=Kp (more:=r) (kvs:=putI kvs q.1 q.2) (j0c _ _ _ nd) nm.2;refine⟨a,fun k v=>(b k v).trans ?_⟩;rw[j1d];have i:∀c,(q.1,c)∉r:=fun c h=>nm.1 (vJ.mpr ⟨_,h,rfl⟩)
  constructor
  ·rintro(h | ⟨f,⟨rfl,rfl⟩ | ⟨g,j⟩⟩)
   ·exact .inl (vp _ h)
   ·exact .inl vq
   ·refine .inr ⟨fun c d=>?_,j⟩;rcases mem_cons.mp d with e | e
    ·exact g (by rw[<-e])
    ·exact f c e
  ·rintro(h | ⟨f,g⟩)
   ·rcases mem_cons.mp h with e | e
    ·refine .inr ⟨fun c d=>?_,.inl ⟨by rw[<-e],by rw[<-e]⟩⟩;rw[<-e]at i;exact i c d
    ·exact .inl e
   ·refine .inr ⟨fun c d=>f c (vp _ d),.inr ⟨fun e=>?_,g⟩⟩;exact f q.2 (by rw[e];exact vq)
theorem xC{d:List (Int×Int)}(b:(d.map (·.1)).Nodup):mergeI [] d=d:=by
 have e:∀(r a:List (Int×Int)),((a++r).map (·.1)).Nodup->mergeI a r=a++r:=by
  intro r
  induction r with
  | nil=>intro a _;exact(append_nil _).symm
  | cons q r ih=>
   intro a b;have c:q.1∉a.map (·.1):=fun h=>by
    rw[vk,nodup_append]at b;exact b.2.2 q.1 h q.1 (by simp) rfl
   show mergeI (putI a q.1 q.2) r=_;unfold putI;rw[vd c,ih (a++[(q.1,q.2)]) (by rw[List.append_assoc];exact b),List.append_assoc];rfl
 exact e d [] b
theorem X9{E:List (List (Int×Int))}{is:List Nat}{j:Nat}{k v:Int}:LastIn E (is++[j]) k v↔(k,v)∈E.getD j []\/((∀m,(k,m)∉E.getD j [])/\LastIn E is k v):=by
 constructor
 ·rintro⟨c,i,a,e,g,l⟩;rcases List.eq_nil_or_concat a with rfl | ⟨b,x,rfl⟩
  ·have f:=List.append_inj' (show is++[j]=c++[i]from e) rfl;have n:j=i:=by simpa using f.2
   rw[n];exact .inl g
  ·have p:is++[j]=(c++i::b)++[x]:=by rw[e];simp
   have f:=List.append_inj' p rfl;have n:j=x:=by simpa using f.2
   subst n;exact .inr ⟨l j (by simp),c,i,b,f.1,g,fun o d=>l o (by simp[d])⟩
 ·rintro(h | ⟨g,c,i,a,e,l,q⟩)
  ·exact⟨is,j,[],rfl,h,(fun _ h=>nomatch h)⟩
  ·refine⟨c,i,a++[j],by rw[e];simp,l,fun o d m=>?_⟩;rcases vi.mp d with z | z
   ·exact q o z m
   ·rw[vo.mp z];exact g m
theorem yp{E d:List (List (Int×Int))}{is:List Nat}(h:∀j∈is,E.getD j []=d.getD j []){k v:Int}:LastIn E is k v->LastIn d is k v:=by
 rintro⟨c,j,b,e,g,i⟩;refine⟨c,j,b,e,by rw[<-h j (by rw[e];simp)];exact g,fun f a=>?_⟩;rw[<-h f (by rw[e];simp[a])];exact i f a
theorem EndOk.snoc{ls:List (Str×Int)}{ps:List (Str×Fm)}(W:WfB ls ps){E:List (List (Int×Int))}{p:Str×Fm}{e:List (Int×Int)}(h:EndOk ls ps E)(u:ps[E.length]?=some p)(o:(e.map (·.1)).Pairwise (· < ·))
  (r:∀k v,(k,v)∈e↔EndIs ls ps E p.2 k v):EndOk ls ps (E++[e]):=fun i q f g c=>by
 have t:i<=E.length:=by
  have:=(vx.mp c).1;rw[vn]at this;exact Nat.le_of_lt_succ this
 have ext:∀j∈inP ps q.2,E.getD j []=(E++[e]).getD j []:=fun j l=>(getD_snoc (by have:=W.inP_lt g l;lia)).symm
 have d:∀k v,EndIs ls ps E q.2 k v↔EndIs ls ps (E++[e]) q.2 k v:=fun k v=>by
  unfold EndIs;exact⟨fun h=>h.imp (yp ext) id,fun h=>h.imp (yp fun j l=>(ext j l).symm) id⟩
 by_cases s:i<E.length
 ·rw[vA s]at c;obtain⟨a,b⟩:=h i q f g c;exact⟨a,fun k v=>(b k v).trans (d k v)⟩
 ·have n:i=E.length:=by lia
  subst n;rw[vB (vc _),Nat.sub_self]at c;have m:e=f:=by simpa using c
  subst m;rw[u]at g;cases g;exact⟨o,fun k v=>(r k v).trans (d k v)⟩
theorem j0Z{H:Hp}{a:Addr}{f:Fm}(h:FormAt H a f)(d:∀x v n,f≠.rise x v n):∃k xs,H a=some (.tup (.str k::xs))/\decide (k=("raise" : Str))=false:=by
 cases f with
 | hold n=>exact⟨_,_,h,by decide +kernel⟩
 | ring x n=>exact⟨_,_,h,by decide +kernel⟩
 | rise x v n=>exact ug rfl (d x v n)
 | row ps=>obtain⟨b,c,_⟩:=h;exact⟨_,_,c,by decide +kernel⟩
 | side ps=>obtain⟨b,c,_⟩:=h;exact⟨_,_,c,by decide +kernel⟩
 | again k x=>exact⟨_,_,h,by decide +kernel⟩
noncomputable def kv0(ls:List (Str×Int)):Fm->List (Int×Int)
 | .rise x h _=>[((ixOf (nmsOf ls) x:Nat),h)]
 | _=>[]
theorem j2y{ls:List (Str×Int)}{f:Fm}(a:∀x v n,f≠.rise x v n):kv0 ls f=[]:=by
 cases f with
 | rise x v n=>exact ug rfl (a x v n)
 | _=>rfl
theorem K2{ls:List (Str×Int)}{f:Fm}{k v:Int}:(k,v)∈kv0 ls f↔∃x n,f = .rise x v n/\k=(ixOf (nmsOf ls) x:Nat):=by
 cases f with
 | rise x h n=>
  constructor
  ·intro a;cases vo.mp a;exact⟨x,n,rfl,rfl⟩
  ·rintro⟨c,b,e,rfl⟩;injection e with e1 e2 e3;subst e1 e2;exact vo.mpr rfl
 | _=>exact⟨(fun h=>nomatch h),fun⟨_,_,e,_⟩=>nomatch e⟩
theorem j3m{ps:List (Str×Fm)}{ls:List (Str×Int)}(f:Fm):inP ps f=[]\/kv0 ls f=[]:=by
 cases f with
 | rise x h n=>exact .inl rfl
 | _=>exact .inr rfl
theorem j3n{ls:List (Str×Int)}(f:Fm):((kv0 ls f).map (·.1)).Nodup:=by
 cases f with
 | rise x h n=>exact pairwise_singleton _ _
 | _=>exact .nil
inductive sp_check_side(vs:List V)(H:Hp)(Q:VK)(xk:XK):Prop
 | mk (r:Int) (l ll:Addr) (as las:List Addr) (M:List (List Int)) (_:vs=[.int r,.ref l,.ref ll]) (_:H l=some (.lst (as.map V.ref))) (_:ListsAt H as M) (_:(∀ks∈M,ks≠[])) (_:M.length<=8) (_:H ll=some (.lst (las.map V.ref))) (_:(∀k:Int,(M.filter fun ks=>decide (k∈ks)).length<=1)) (_:∀H',Same H H'->Q .non H'):sp_check_side vs H Q xk
noncomputable def LenIs:Fm->List Int->Int->Prop
 | .hold n,_,g=>g=n
 | .ring _ n,_,g=>g=n
 | .rise _ _ n,_,g=>g=n
 | .row _,gs,g=>g=gs.sum
 | .side _,gs,g=>g∈gs/\∀x∈gs,x<=g
 | .again k _,gs,g=>∃y,gs.head?=some y/\g=k*y
noncomputable def LenPre:Fm->List Int->Prop
 | .side _,gs=>gs≠[]
 | .again k _,gs=>∃y r,gs=y::r/\0<=k/\k<=10^18/\0<=y/\y<=10^60
 | _,_=>True
inductive sp_length_of(vs:List V)(H:Hp)(Q:VK)(xk:XK):Prop
 | mk (a l:Addr) (f:Fm) (gs:List Int) (_:vs=[.ref a,.ref l]) (_:FormAt H a f) (_:H l=some (.lst (gs.map V.int))) (_:LenPre f gs) (_:∀g,LenIs f gs g->Q (.int g) H):sp_length_of vs H Q xk
structure Snd(ls:List (Str×Int))(ps:List (Str×Fm))(gs:List Int)(hs:List (List Int)):Prop where
 w:WfB ls ps
 gl:gs.length=ps.length
 gb:∀i,i<ps.length->0<=gs.getD i 0/\gs.getD i 0<=10^60
 mv:∀M:List (List Int),M.length=ps.length->MovOk ls ps M->∀i,i<ps.length->M.getD i []=hs.getD i []
 ln:∀(i:Nat) (p:Str×Fm),ps[i]?=some p->LenPre p.2 ((inP ps p.2).map fun j=>gs.getD j 0)/\∀g,LenIs p.2 ((inP ps p.2).map fun j=>gs.getD j 0) g->g=gs.getD i 0
 sd:∀(i:Nat) (p:Str×Fm) (qs:List Str),ps[i]?=some p->p.2 = .side qs->(∀j∈inP ps p.2,hs.getD j []≠[])/\∀k:Int,(((inP ps p.2).map fun j=>hs.getD j []).filter fun ks=>decide (k∈ks)).length<=1
inductive sp_lengths(vs:List V)(H:Hp)(Q:VK)(xk:XK):Prop
 | mk (b pl pp:Addr) (las pas:List Addr) (ls:List (Str×Int)) (ps:List (Str×Fm)) (gs:List Int) (hs:List (List Int)) (_:vs=[.ref b]) (_:BookAt H b pl pp las pas ls ps) (_:Snd ls ps gs hs) (_:∀(l:Addr) (H':Hp),Same H H'->H l=none->H' l=some (.lst (gs.map V.int))->Q (.ref l) H'):sp_lengths vs H Q xk
theorem any_empty{M:List (List Int)}(h:∀ks∈M,ks≠[]):(M.any fun ks=>decide (ks=[]))=false:=by
 rw[List.any_eq_false];intro ks a;simpa using h ks a
theorem j2x{gs:List Int}{i:Nat}(h:i<gs.length):gs.take (i+1)=gs.take i++[gs.getD i 0]:=by
 refine take_snoc ?_;rw[vy,vz h];rfl
theorem j3V{gs:List Int}{i j:Nat}(hi:i<=gs.length)(a:j<i):atI ((gs.take i).map V.int) (j:Int)=some (.int (gs.getD j 0)):=by
 refine jW ?_;rw[vv,List.getElem?_take,ve a,vy,vz (by lia)];rfl
theorem j0J{xs:List V}{k:Nat}:cutV xs none (some (k:Int))=xs.take k:=by
 unfold cutV;rw[show HT.sIx xs.length 0 none=0 from rfl,HT.j2V,List.drop_zero,Nat.sub_zero,List.take_eq_take_iff];lia
theorem j2G{ls:List (Str×Int)}{ps:List (Str×Fm)}(W:WfB ls ps){M:List (List Int)}(m:M.length=ps.length)(h:MovOk ls ps M):∀(i:Nat),∀k∈M.getD i [],0<=k/\k<(ls.length:Int):=by
 intro i
 induction i using Nat.strongRecOn with
 | ind i ih=>
  intro k a;rw[vy]at a;cases e:M[i]? with
  | none=>rw[e]at a;exact nomatch a
  | some ks=>
   rw[e]at a;have l:=(vx.mp e).1;have d:ps[i]?=some ps[i]:=vz (by lia);obtain⟨_,b⟩:=h i _ ks d e;rcases(b k).mp a with⟨j,c,f⟩ | ⟨x,v,n,g,rfl⟩
   ·exact ih j (W.inP_lt d c) k f
   ·obtain⟨j,c⟩:=W.r i (ps[i]).1 x v n (by rw[d,<-g]);rw[Ja W.ln c];have:=(vx.mp c).1;unfold nmsOf at this;rw[vt]at this;lia
theorem Xw{ls:List (Str×Int)}{ps:List (Str×Fm)}(W:WfB ls ps){M:List (List Int)}(d:M.length=ps.length)(h:MovOk ls ps M){i:Nat}{ks:List Int}(c:M[i]?=some ks):ks.length<=8:=by
 have hi:=(vx.mp c).1;have a:=(h i _ ks (vz (by lia)) c).1;have b:=j2G W d h i;rw[vy,c]at b;have z:=yT (ks:=ks) (lo:=0) (hi:=ls.length) a b;have:=W.l8;lia
theorem FormAt.keep{H H':Hp}{a:Addr}{f:Fm}(k:∀c xs,H c=some (.tup xs)->H' c=some (.tup xs))(h:FormAt H a f):FormAt H' a f:=by
 cases f with
 | row ps=>obtain⟨c,b,d⟩:=h;exact⟨c,k _ _ b,k _ _ d⟩
 | side ps=>obtain⟨c,b,d⟩:=h;exact⟨c,k _ _ b,k _ _ d⟩
 | hold n=>exact k _ _ h
 | ring x n=>exact k _ _ h
 | rise x g n=>exact k _ _ h
 | again x n=>exact k _ _ h
theorem PartAt.keep{H H':Hp}{a:Addr}{p:Str×Fm}(k:∀c xs,H c=some (.tup xs)->H' c=some (.tup xs))(h:PartAt H a p):PartAt H' a p:=by
 obtain⟨b,d,e⟩:=h;exact⟨b,k _ _ d,FormAt.keep k e⟩
theorem All2.set{f:Type}{R:Addr->f->Prop}{as:List Addr}{xs:List f}(h:All2 R as xs){k:Nat}{a:Addr}{x:f}(g:R a x):All2 R (as.set k a) (xs.set k x):=by
 refine⟨by rw[length_set,length_set];exact h.1,fun i b y c d=>?_⟩;rw[List.getElem?_set]at c d;by_cases e:k=i
 ·rw[ve e]at c d;split at c
  ·split at d
   ·cases c;cases d;exact g
   ·cases d
  ·cases c
 ·rw[vd e]at c d;exact h.2 i b y c d
section
variable{ls:List (Str×Int)}{x:Str}{f:Fm}
end
theorem j0A{xs:List Nat}{i:Int}{c:Nat}(a:0<=i)(h:xs[i.toNat]?=some c):atI xs i=some c:=by
 have q:∀k:Nat,xs[k]?=some c->atI xs (k:Int)=some c:=fun k d=>by
  obtain⟨b,rfl⟩:=vx.mp d;unfold atI ixN;simp[b]
 have:=q i.toNat h;rw[Int.toNat_of_nonneg a]at this;exact this
noncomputable abbrev Pc:=Nat×Int×Int
noncomputable abbrev Pr4:=Nat×Int×Int×Option Int
noncomputable def rowPc(gs:List Int):List Nat->Int->List Pc
 | [],_=>[]
 | j::r,b=>(j,1,b)::rowPc gs r (b+gs.getD j 0)
noncomputable def pcsI(gs:List Int)(f:Fm)(is:List Nat):List Pc:=
 match f with
 | .again k _=>match is with
  | []=>[]
  | j::_=>(j,1,0)::(if 1<k then[(j,k-1,gs.getD j 0)]else[])
 | .row _=>rowPc gs is 0
 | _=>is.map fun j=>(j,1,0)
def PcsAt(H:Hp)(as:List Addr)(qs:List Pc):Prop:=All2 (fun a q=>H a=some (.tup [.int (q.1:Nat),.int q.2.1,.int q.2.2])) as qs
def PssAt(H:Hp)(as:List Addr)(qss:List (List Pc)):Prop:=All2 (fun a qs=>∃bs,H a=some (.lst (bs.map V.ref))/\PcsAt H bs qs) as qss
inductive sp_pieces_in(vs:List V)(H:Hp)(Q:VK)(xk:XK):Prop
 | mk (a l s:Addr) (f:Fm) (is:List Nat) (gs:List Int) (_:vs=[.ref a,.ref l,.ref s]) (_:FormAt H a f) (_:H l=some (.lst ((is.map fun j:Nat=>(j:Int)).map V.int))) (_:H s=some (.lst (gs.map V.int))) (_:is.length<=8) (_:(∀j∈is,j<gs.length)) (_:(∀k x,f = .again k x->is≠[])) (_:∀(p:Addr) (as:List Addr) (H':Hp),Same H H'->H p=none->H' p=some (.lst (as.map V.ref))->PcsAt H' as (pcsI gs f is)->Q (.ref p) H'):sp_pieces_in vs H Q xk
inductive sp_pieces_of(vs:List V)(H:Hp)(Q:VK)(xk:XK):Prop
 | mk (b pl pp s:Addr) (las pas:List Addr) (ls:List (Str×Int)) (ps:List (Str×Fm)) (gs:List Int) (_:vs=[.ref b,.ref s]) (_:BookAt H b pl pp las pas ls ps) (_:WfB ls ps) (_:H s=some (.lst (gs.map V.int))) (_:gs.length=ps.length) (_:∀(l:Addr) (as:List Addr) (H':Hp),Same H H'->H l=none->H' l=some (.lst (as.map V.ref))->PssAt H' as (ps.map fun p=>pcsI gs p.2 (inP ps p.2))->(∀a∈as,H a=none)->Q (.ref l) H'):sp_pieces_of vs H Q xk
noncomputable def ov(gs:List Int)(t:Int)(q:Pc):Int:=if q.2.1<(t-q.2.2)/gs.getD q.1 0 then q.2.1 else(t-q.2.2)/gs.getD q.1 0
noncomputable def prg1(gs:List Int)(t:Int)(q:Pc):Option Pr4:=
 if q.2.2<=t then some (q.1,q.2.2,ov gs t q,if ov gs t q<q.2.1 then some (t-q.2.2-ov gs t q*gs.getD q.1 0)else none)else none
noncomputable def prg(gs:List Int)(t:Int)(qs:List Pc):List Pr4:=qs.filterMap (prg1 gs t)
noncomputable def optV:Option Int->V
 | none=>.non
 | some r=>.int r
def PrgAt(H:Hp)(as:List Addr)(ys:List Pr4):Prop:=All2 (fun a y=>H a=some (.tup [.int (y.1:Nat),.int y.2.1,.int y.2.2.1,optV y.2.2.2])) as ys
def PcOk(gs:List Int)(q:Pc):Prop:=q.1<gs.length/\1<=gs.getD q.1 0/\gs.getD q.1 0<=10^60/\1<=q.2.1/\q.2.1<=10^18/\0<=q.2.2/\q.2.2<=10^62
inductive sp_progress(vs:List V)(H:Hp)(Q:VK)(xk:XK):Prop
 | mk (l s:Addr) (t:Int) (bs:List Addr) (qs:List Pc) (gs:List Int) (_:vs=[.ref l,.ref s,.int t]) (_:H l=some (.lst (bs.map V.ref))) (_:PcsAt H bs qs) (_:H s=some (.lst (gs.map V.int))) (_:qs.length<=8) (_:(∀q∈qs,PcOk gs q)) (_:0<=t) (_:t<=10^62) (_:∀(p:Addr) (as:List Addr) (H':Hp),Same H H'->H p=none->H' p=some (.lst (as.map V.ref))->PrgAt H' as (prg gs t qs)->Q (.ref p) H'):sp_progress vs H Q xk
def GonAt(H:Hp)(as:List Addr)(xs:List (Nat×Int)):Prop:=All2 (fun a x=>H a=some (.tup [.int (x.1:Nat),.int x.2])) as xs
noncomputable def wth1(gs:List Int)(y:Pr4):List (Nat×Int):=(if 0<y.2.2.1 then[(y.1,gs.getD y.1 0)]else[])++(match y.2.2.2 with | some r=>[(y.1,r)] | none=>[])
noncomputable def wth(gs:List Int)(t:Int)(qs:List Pc):List (Nat×Int):=(prg gs t qs).flatMap (wth1 gs)
noncomputable def reachL(pc:Nat->List Pc)(gs:List Int):Nat->Nat->Int->List (Nat×Int)
 | 0,i,t=>[(i,t)]
 | n+1,i,t=>if gs.getD i 0<=t\/pc i=[]then[(i,t)]else(wth gs t (pc i)).flatMap fun x=>reachL pc gs n x.1 x.2
noncomputable def nodesL(pc:Nat->List Pc)(gs:List Int):Nat->Nat->Int->Nat
 | 0,_,_=>1
 | n+1,i,t=>if gs.getD i 0<=t\/pc i=[]then 1 else 1+((wth gs t (pc i)).map fun x=>nodesL pc gs n x.1 x.2).sum
noncomputable def pcB(ps:List (Str×Fm))(gs:List Int)(i:Nat):List Pc:=match ps[i]? with | some p=>pcsI gs p.2 (inP ps p.2) | none=>[]
section
variable{gs:List Int}{t:Int}
theorem ZB{is:List Nat}{b:Int}{q:Pc}(h:q∈rowPc gs is b):q.1∈is/\q.2.1=1:=by
 induction is generalizing b with
 | nil=>exact nomatch h
 | cons j r ih=>
  rcases mem_cons.mp h with rfl | h
  ·exact⟨vq,rfl⟩
  ·obtain⟨a,b⟩:=ih h;exact⟨vp _ a,b⟩
theorem j01(is:List Nat)(b:Int):(rowPc gs is b).length=is.length:=by
 induction is generalizing b with
 | nil=>rfl
 | cons j r ih=>rw[rowPc,vO,vO,ih]
theorem Yj{is:List Nat}{b:Int}{q:Pc}(d:∀j∈is,0<=gs.getD j 0/\gs.getD j 0<=10^60)(h:q∈rowPc gs is b):b<=q.2.2/\q.2.2<=b+10^60*is.length:=by
 induction is generalizing b with
 | nil=>exact nomatch h
 | cons j r ih=>
  have g:=d j vq;rw[vO];rcases mem_cons.mp h with rfl | h
  ·have:(0:Int)<=10^60*((r.length+1:Nat):Int):=vL (by decide) (by lia);exact⟨va _,by show b<=_;lia⟩
  ·obtain⟨a,c⟩:=ih (fun k e=>d k (vp _ e)) h;refine⟨by lia,?_⟩;rw[show((r.length+1:Nat):Int)=(r.length:Int)+1 by lia,Int.mul_add];lia
theorem Y1{f:Fm}{is:List Nat}{q:Pc}(h:q∈pcsI gs f is):q.1∈is:=by
 unfold pcsI at h;split at h
 ·split at h
  ·exact nomatch h
  ·rcases mem_cons.mp h with rfl | h
   ·exact vq
   ·split at h
    ·rw[vo.mp h];exact vq
    ·exact nomatch h
 ·exact(ZB h).1
 ·obtain⟨j,a,rfl⟩:=vJ.mp h;exact a
theorem j14{f:Fm}{is:List Nat}(a:is.length<=8):(pcsI gs f is).length<=8:=by
 unfold pcsI;split
 ·split
  ·exact vb _
  ·split<;>simp
 ·rw[j01];exact a
 ·rw[vt];exact a
theorem yt{a:List Pc}{y:Pr4}(h:y∈prg gs t a):∃q∈a,prg1 gs t q=some y:=mem_filterMap.mp h
theorem j2C(a:List Pc):(prg gs t a).length<=a.length:=List.length_filterMap_le _ _
theorem WI{q:Pc}{y:Pr4}(h:prg1 gs t q=some y):y.1=q.1:=by
 unfold prg1 at h;split at h
 ·cases h;rfl
 ·cases h
theorem Xv{b:List Pc}{x:Nat×Int}(h:x∈wth gs t b):∃q∈b,x.1=q.1:=by
 obtain⟨y,d,a⟩:=mem_flatMap.mp h;obtain⟨q,c,e⟩:=yt d;refine⟨q,c,?_⟩;rw[<-WI e];unfold wth1 at a;rcases vi.mp a with z | z
 ·split at z
  ·rw[vo.mp z]
  ·exact nomatch z
 ·split at z
  ·rw[vo.mp z]
  ·exact nomatch z
end
section
variable{ls:List (Str×Int)}{ps:List (Str×Fm)}{gs:List Int}
theorem zM(W:WfB ls ps){i:Nat}{q:Pc}(h:q∈pcB ps gs i):q.1<i:=by
 unfold pcB at h;split at h
 ·rename_i p hp;exact W.inP_lt hp (Y1 h)
 ·exact nomatch h
theorem yZ(W:WfB ls ps){i:Nat}{t:Int}{x:Nat×Int}(h:x∈wth gs t (pcB ps gs i)):x.1<i:=by
 obtain⟨q,a,e⟩:=Xv h;rw[e];exact zM W a
theorem zl{a c:Type}{f g:a->List c}:∀{l:List a},(∀x∈l,f x=g x)->l.flatMap f=l.flatMap g
 | [],_=>rfl
 | x::r,h=>by rw[flatMap_cons,flatMap_cons,h x vq,zl fun y b=>h y (vp _ b)]
theorem kc(W:WfB ls ps):∀{n m i:Nat} {t:Int},i<n->i<m->reachL (pcB ps gs) gs n i t=reachL (pcB ps gs) gs m i t
 | 0,_,_,_,h,_=>ug h (Nat.not_lt_zero _)
 | _,0,_,_,_,h=>ug h (Nat.not_lt_zero _)
 | n+1,m+1,i,t,h1,h2=>by
  unfold reachL;split
  ·rfl
  ·exact zl fun x a=>by
    have:=yZ W a;exact kc W (by lia) (by lia)
theorem Y3(W:WfB ls ps):∀{n m i:Nat} {t:Int},i<n->i<m->nodesL (pcB ps gs) gs n i t=nodesL (pcB ps gs) gs m i t
 | 0,_,_,_,h,_=>ug h (Nat.not_lt_zero _)
 | _,0,_,_,_,h=>ug h (Nat.not_lt_zero _)
 | n+1,m+1,i,t,h1,h2=>by
  unfold nodesL;split
  ·rfl
  ·congr 2;exact map_congr_left fun x a=>by
    have:=yZ W a;exact Y3 W (by lia) (by lia)
noncomputable def reach(ps:List (Str×Fm))(gs:List Int)(i:Nat)(t:Int):List (Nat×Int):=reachL (pcB ps gs) gs (i+1) i t
noncomputable def nodes(ps:List (Str×Fm))(gs:List Int)(i:Nat)(t:Int):Nat:=nodesL (pcB ps gs) gs (i+1) i t
theorem qE{i:Nat}{t:Int}(h:gs.getD i 0<=t\/pcB ps gs i=[]):reach ps gs i t=[(i,t)]:=by
 unfold reach reachL;rw[ve h]
theorem zO(W:WfB ls ps){i:Nat}{t:Int}(h:¬(gs.getD i 0<=t\/pcB ps gs i=[])):reach ps gs i t=(wth gs t (pcB ps gs i)).flatMap fun x=>reach ps gs x.1 x.2:=by
 unfold reach;rw[reachL,vd h];exact zl fun x a=>by
  have:=yZ W a;exact kc W (by lia) (by lia)
theorem ZU{i:Nat}{t:Int}(h:gs.getD i 0<=t\/pcB ps gs i=[]):nodes ps gs i t=1:=by
 unfold nodes nodesL;rw[ve h]
theorem Y4(W:WfB ls ps){i:Nat}{t:Int}(h:¬(gs.getD i 0<=t\/pcB ps gs i=[])):nodes ps gs i t=1+((wth gs t (pcB ps gs i)).map fun x=>nodes ps gs x.1 x.2).sum:=by
 unfold nodes;rw[nodesL,vd h];congr 2;exact map_congr_left fun x a=>by
  have:=yZ W a;exact Y3 W (by lia) (by lia)
theorem Kr(i:Nat)(t:Int):1<=nodes ps gs i t:=by
 unfold nodes nodesL;split<;>lia
end
section
variable{gs:List Int}{t:Int}
noncomputable def wq(gs:List Int)(t:Int)(q:Pc):List (Nat×Int):=match prg1 gs t q with | some y=>wth1 gs y | none=>[]
theorem zZ:wth gs t []=[]:=rfl
theorem QK(q:Pc)(a:List Pc):wth gs t (q::a)=wq gs t q++wth gs t a:=by
 unfold wth prg wq;rw[filterMap_cons];cases prg1 gs t q with
 | none=>rfl
 | some y=>rfl
theorem XR{q:Pc}(h:t<q.2.2):wq gs t q=[]:=by
 unfold wq prg1;rw[vd (by lia)]
theorem wM{j:Nat}{b:Int}(d:1<=gs.getD j 0)(h:b<=t):wq gs t (j,1,b)=if gs.getD j 0<=t-b then[(j,gs.getD j 0)]else[(j,t-b)]:=by
 have c:wq gs t (j,1,b)=wth1 gs (j,b,ov gs t (j,1,b),if ov gs t (j,1,b)<1 then some (t-b-ov gs t (j,1,b)*gs.getD j 0)else none):=by
  unfold wq prg1;rw[ve (show b<=t from h)]
 rw[c];generalize a:gs.getD j 0=g at d|-;have e:ov gs t (j,1,b)=if g<=t-b then 1 else 0:=by
  show(if(1:Int)<(t-b)/gs.getD j 0 then(1:Int)else(t-b)/gs.getD j 0)=_;rw[a];by_cases z:g<=t-b
  ·rw[ve z];have:1<=(t-b)/g:=by
    rw[Int.le_ediv_iff_mul_le (by lia)];lia
   split<;>lia
  ·rw[vd z];have:(t-b)/g=0:=Int.ediv_eq_zero_of_lt (by lia) (by lia);rw[this];rfl
 by_cases z:g<=t-b
 ·rw[ve z]at e;rw[ve z,e];unfold wth1;simp;rw[<-vy];exact a
 ·rw[vd z]at e;rw[vd z,e];unfold wth1;simp
theorem XS{q:Pc}(h:q.2.2<=t):wq gs t q=(if 0<ov gs t q then[(q.1,gs.getD q.1 0)]else[])++(if ov gs t q<q.2.1 then[(q.1,t-q.2.2-ov gs t q*gs.getD q.1 0)]else[]):=by
 unfold wq prg1;rw[ve h];show wth1 gs _=_;unfold wth1;congr 1;show(match(if ov gs t q<q.2.1 then some (t-q.2.2-ov gs t q*gs.getD q.1 0)else none)with | some r=>[(q.1,r)] | none=>[])=_;split<;>rename_i e<;>split at e
 ·cases e;rw[ve (by assumption)]
 ·cases e
 ·cases e
 ·rw[vd (by assumption)]
theorem kA:∀{a:List Pc},(∀q∈a,t<q.2.2)->wth gs t a=[]
 | [],_=>rfl
 | q::r,h=>by rw[QK,XR (h q vq),kA fun q b=>h q (vp _ b)];rfl
theorem WL{is:List Nat}{b:Int}(a:∀j∈is,0<=gs.getD j 0/\gs.getD j 0<=10^60)(h:t<b):wth gs t (rowPc gs is b)=[]:=
 kA fun q c=>by have:=(Yj a c).1;lia
theorem kf{j:Nat}{r:List Nat}{b:Int}(a:∀k∈j::r,1<=gs.getD k 0/\gs.getD k 0<=10^60)(h:b<=t):wth gs t (rowPc gs (j::r) b)=if gs.getD j 0<=t-b then(j,gs.getD j 0)::wth gs t (rowPc gs r (b+gs.getD j 0))else[(j,t-b)]:=by
 have g:=a j vq;rw[rowPc,QK,wM g.1 h];split
 ·rfl
 ·rw[WL (fun k c=>by have:=a k (vp _ c);lia) (by lia)];rfl
theorem j1U{a:Type}{f g:a->Nat}:∀{l:List a},(∀x∈l,f x<=g x)->(l.map f).sum<=(l.map g).sum
 | [],_=>vc _
 | x::r,h=>by
  rw[v6,v6,v7,v7];have:=h x vq;have:=j1U (l:=r) fun y b=>h y (vp _ b)
  lia
theorem XG{N:Nat×Int->Nat}{B:Nat}:∀{is:List Nat} {b:Int},(∀k∈is,1<=gs.getD k 0/\gs.getD k 0<=10^60)->(∀k∈is,N (k,gs.getD k 0)=1)->(∀k∈is,∀r,0<=r->N (k,r)<=B)->((wth gs t (rowPc gs is b)).map N).sum<=is.length+B
 | [],b,_,_,_=>vb _
 | j::r,b,hg,h1,h2=>by
  by_cases h:b<=t
  ·rw[kf hg h];split
   ·rw[v6,v7,h1 j vq,vO];have:=XG (N:=N) (B:=B) (is:=r) (b:=b+gs.getD j 0) (fun k a=>hg k (vp _ a)) (fun k a=>h1 k (vp _ a)) fun k a=>h2 k (vp _ a)
    lia
   ·have:=h2 j vq (t-b) (by lia);simp;lia
  ·rw[WL (fun k a=>by have:=hg k a;lia) (by lia)];exact vb _
theorem kq{is:List Nat}(a:∀k∈is,1<=gs.getD k 0)(c:0<=t):wth gs t (is.map fun j=>(j,1,0))=is.map fun j=>if gs.getD j 0<=t then(j,gs.getD j 0)else(j,t):=by
 induction is with
 | nil=>rfl
 | cons j r ih=>
  rw[v6,QK,wM (a j vq) c,ih fun k b=>a k (vp _ b),v6,Int.sub_zero];split<;>rfl
theorem XU{N:Nat×Int->Nat}{B:Nat}{j:Nat}{k:Int}(l:1<=gs.getD j 0)(f:0<=t)(b:N (j,gs.getD j 0)=1)(d:∀r,0<=r->N (j,r)<=B) :
  ((wth gs t ((j,1,0)::(if 1<k then[(j,k-1,gs.getD j 0)]else[]))).map N).sum<=2+B:=by
 rw[QK,wM l f,Int.sub_zero,vk,sum_append];by_cases z:gs.getD j 0<=t
 ·rw[ve z];have a:((wth gs t (if 1<k then[(j,k-1,gs.getD j 0)]else[])).map N).sum<=1+B:=by
   split
   ·rw[QK,zZ,append_nil,XS (show gs.getD j 0<=t from z),vk,sum_append];have g:(((if 0<ov gs t (j,k-1,gs.getD j 0)then[(j,gs.getD j 0)]else[]):List (Nat×Int)).map N).sum<=1:=by
     split
     ·simp;rw[<-vy,b];exact vc _
     ·simp
    have h:(((if ov gs t (j,k-1,gs.getD j 0)<k-1 then[(j,t-gs.getD j 0-ov gs t (j,k-1,gs.getD j 0)*gs.getD j 0)]else[]):List (Nat×Int)).map N).sum<=B:=by
     split
     ·have m:ov gs t (j,k-1,gs.getD j 0)=(t-gs.getD j 0)/gs.getD j 0:=by
       show(if k-1<(t-gs.getD j 0)/gs.getD j 0 then k-1 else(t-gs.getD j 0)/gs.getD j 0)=_;rename_i c;have i:(if k-1<(t-gs.getD j 0)/gs.getD j 0 then k-1 else(t-gs.getD j 0)/gs.getD j 0)<k-1:=c;split at i
       ·lia
       ·rename_i z;rw[vd z]
      have:=d (t-gs.getD j 0-ov gs t (j,k-1,gs.getD j 0)*gs.getD j 0) (by
       rw[m];have:=Int.ediv_mul_le (t-gs.getD j 0) (show gs.getD j 0≠0 by lia);lia)
      simp;exact this
     ·simp
    have o:((if 0<ov gs t (j,k-1,gs.getD j 0)then[((j,k-1,gs.getD j 0):Pc).1].map fun a=>(a,gs.getD a 0)else[]):List (Nat×Int))=if 0<ov gs t (j,k-1,gs.getD j 0)then[(j,gs.getD j 0)]else[]:=rfl
    exact Nat.add_le_add g h
   ·exact vb _
  have:(([(j,gs.getD j 0)]:List (Nat×Int)).map N).sum=1:=by
   simp;rw[<-vy,b]
  lia
 ·rw[vd z];have e:wth gs t (if 1<k then[(j,k-1,gs.getD j 0)]else[])=[]:=by
   split
   ·exact kA fun q n=>by rw[vo.mp n];show t<gs.getD j 0;lia
   ·rfl
  rw[e];have:=d t f;simp;lia
end
theorem len_sub{a b:List Int}(c:a.Nodup)(f:∀x∈a,x∈b):a.length<=b.length:=by
 induction a generalizing b with
 | nil=>exact vb _
 | cons x r ih=>
  rw[ut]at c;have g:=f x vq;have:=ih (b:=b.erase x) c.2 fun y h=>by
   have d:y≠x:=fun e=>c.1 (e▸h)
   exact(List.mem_erase_of_ne d).mpr (f y (vp _ h))
  rw[List.length_erase_of_mem g]at this;have:0<b.length:=List.length_pos_of_mem g;rw[vO];lia
section
variable{ls:List (Str×Int)}{ps:List (Str×Fm)}{gs:List Int}{hs:List (List Int)}
theorem Kj(S:Snd ls ps gs hs)(a:hs.length=ps.length){i:Nat}(hi:i<ps.length):hs[i]?=some (hs.getD i []):=by
 rw[vy,vz (by lia)];rfl
theorem j3t(S:Snd ls ps gs hs)(e:hs.length=ps.length)(M:MovOk ls ps hs){i:Nat}{p:Str×Fm}(c:ps[i]?=some p){j:Nat}(d:j∈inP ps p.2):(hs.getD j []).length<=(hs.getD i []).length:=by
 have f:=(vx.mp c).1;have l:=S.w.inP_lt c d;obtain⟨_,b⟩:=M i p _ c (Kj S e f);obtain⟨a,_⟩:=M j _ _ (vz (show j<ps.length by lia)) (Kj S e (by lia));exact len_sub (a.imp fun h=>by lia) fun k g=>(b k).mpr (.inl ⟨j,d,g⟩)
theorem j1M(S:Snd ls ps gs hs)(v:hs.length=ps.length)(M:MovOk ls ps hs){i:Nat}{p:Str×Fm}{x:List Str}(f:ps[i]?=some p)(e:p.2 = .side x):((inP ps p.2).map fun j=>(hs.getD j []).length).sum<=(hs.getD i []).length:=by
 have A:=(vx.mp f).1;obtain⟨_,t⟩:=S.sd i p x f e;obtain⟨_,b⟩:=M i p _ f (Kj S v A);have C:=fun j=>S.w.inP_lt (j:=j) f
 have D:∀d:List Nat,(∀j∈d,j<ps.length)->(∀k:Int,((d.map fun j=>hs.getD j []).filter fun s=>decide (k∈s)).length<=1)->(d.flatMap fun j=>hs.getD j []).Nodup:=fun d=>by
  induction d with
  | nil=>exact fun _ _=>.nil
  | cons j r ih=>
   intro l u;rw[flatMap_cons];have E:(hs.getD j []).Nodup:=by
    obtain⟨a,_⟩:=M j _ _ (vz (l j vq)) (Kj S v (l j vq));exact a.imp fun h=>by lia
   refine nodup_append.mpr ⟨E,ih (fun k c=>l k (vp _ c)) fun k=>?_,fun a y b z g=>?_⟩
   ·have:=u k;rw[v6,filter_cons]at this;split at this
    ·rw[vO]at this;lia
    ·exact this
   ·subst g;obtain⟨B,o,q⟩:=mem_flatMap.mp z;have:=u a;rw[v6,filter_cons,ve (vF y),vO]at this;have F:0<((r.map fun j=>hs.getD j []).filter fun s=>decide (a∈s)).length:=List.length_pos_of_mem (mem_filter.mpr ⟨vJ.mpr ⟨B,o,rfl⟩,vF q⟩);lia
 have n:=D (inP ps p.2) (fun j m=>by have:=C j m;lia) t;have w:=len_sub (b:=hs.getD i []) n fun k c=>by
  obtain⟨j,m,c⟩:=mem_flatMap.mp c;exact(b k).mpr (.inl ⟨j,m,c⟩)
 rw[List.length_flatMap]at w;exact w
theorem XN{a:Type}{f:a->Nat}{c:Nat}:∀{l:List a},(l.map fun x=>c*f x).sum=c*(l.map f).sum
 | []=>rfl
 | x::r=>by rw[v6,v6,v7,v7,XN,Nat.mul_add]
theorem j1l(S:Snd ls ps gs hs)(z:hs.length=ps.length)(M:MovOk ls ps hs)(F:∀i,i<ps.length->1<=gs.getD i 0):∀i t,i<ps.length->0<=t->nodes ps gs i t<=9*(i+1)*max 1 (hs.getD i []).length:=by
 intro i
 induction i using Nat.strongRecOn with
 | ind i ih=>
  intro t G y;have W:=S.w;have B:1<=max 1 (hs.getD i []).length:=Nat.le_max_left _ _;by_cases a:gs.getD i 0<=t\/pcB ps gs i=[]
  ·rw[ZU a];have:1*1<=9*(i+1)*max 1 (hs.getD i []).length:=Nat.mul_le_mul (by lia) B;lia
  rw[Y4 W a];obtain⟨p,o⟩:∃p,ps[i]?=some p:=⟨_,vz G⟩
  have c:pcB ps gs i=pcsI gs p.2 (inP ps p.2):=by unfold pcB;rw[o]
  have q:=fun j=>W.inP_lt (j:=j) o
  have h:∀k∈inP ps p.2,1<=gs.getD k 0/\gs.getD k 0<=10^60:=fun k m=>by
   have:=q k m;exact⟨F k (by lia),(S.gb k (by lia)).2⟩
  have H:(inP ps p.2).length<=8:=by unfold inP;rw[vt];exact(W.f i p o).2
  have b:∀k∈inP ps p.2,nodes ps gs k (gs.getD k 0)=1:=fun k _=>ZU (.inl (va _))
  have hB:∀k∈inP ps p.2,∀r,0<=r->nodes ps gs k r<=9*i*max 1 (hs.getD i []).length:=fun k m r w=>by
   have l:=q k m;have:=ih k l r (by lia) w;have s:=j3t S z M o m;refine vU this (Nat.mul_le_mul (by lia) ?_);exact Nat.max_le.mpr ⟨Nat.le_max_left _ _,vU s (Nat.le_max_right _ _)⟩
  have f:∀X:Nat,X<=8+9*i*max 1 (hs.getD i []).length->1+X<=9*(i+1)*max 1 (hs.getD i []).length:=fun X J=>by
   rw[Nat.mul_add,Nat.add_mul];have:9*1*1<=9*1*max 1 (hs.getD i []).length:=Nat.mul_le_mul (vc _) B;lia
  rw[c];cases e:p.2 with
  | again k x=>
   have d:inP ps p.2=[ixOf (nmsOf ps) x]:=by rw[e];rfl
   rw[e]at d;rw[d];have g:ixOf (nmsOf ps) x∈inP ps p.2:=by rw[e,d];exact vq
   refine f _ (vU (XU (N:=fun x=>nodes ps gs x.1 x.2) (h _ g).1 y (b _ g) (hB _ g)) (by lia))
  | row xs=>
   rw[e]at h b hB H;exact f _ (vU (XG (N:=fun x=>nodes ps gs x.1 x.2) h b hB) (by lia))
  | side xs=>
   have E:=j1M S z M o e;obtain⟨D,_⟩:=S.sd i p xs o e;rw[show pcsI gs (.side xs) (inP ps (.side xs))=(inP ps (.side xs)).map fun j=>(j,1,0)from rfl];rw[e]at h b E D q;rw[kq (fun k m=>(h k m).1) y,v3];have A:((inP ps (.side xs)).map ((fun x=>nodes ps gs x.1 x.2)∘fun j=>if gs.getD j 0<=t then(j,gs.getD j 0)else(j,t))).sum<=((inP ps (.side xs)).map fun j=>9*i*(hs.getD j []).length).sum:=by
    refine j1U fun j u=>?_
    have l:=q j u;have I:1<=(hs.getD j []).length:=length_pos_iff.mpr (D j u);have C:∀r,0<=r->nodes ps gs j r<=9*i*(hs.getD j []).length:=fun r w=>by
     have:=ih j l r (by lia) w;rw[Nat.max_eq_right I]at this;exact vU this (Nat.mul_le_mul (by lia) (vc _))
    show nodes ps gs (if gs.getD j 0<=t then(j,gs.getD j 0)else(j,t)).1 (if gs.getD j 0<=t then(j,gs.getD j 0)else(j,t)).2<=_;split
    ·exact C _ (by have:=h j u;lia)
    ·exact C _ y
   rw[XN]at A;refine f _ (vU A (vU (Nat.mul_le_mul (vc (9*i)) (vU E (Nat.le_max_right 1 _))) (Nat.le_add_left _ _)))
  | hold n=>
   exact ug (.inr (by rw[c,e];rfl)) a
  | ring x n=>
   exact ug (.inr (by rw[c,e];rfl)) a
  | rise x v n=>
   exact ug (.inr (by rw[c,e];rfl)) a
end
structure Sn(ls:List (Str×Int))(ps:List (Str×Fm))(gs:List Int)(hs:List (List Int)):Prop where
 s:Snd ls ps gs hs
 hl:hs.length=ps.length
 m:MovOk ls ps hs
 g1:∀i,i<ps.length->1<=gs.getD i 0
 ne:1<=ps.length
 l18:∀q∈ls,0<=q.2/\q.2<=10^18
 r18:∀(i:Nat) (y x:Str) (v n:Int),ps[i]?=some (y,.rise x v n)->0<=v/\v<=10^18/\1<=n/\n<=10^18
 a18:∀(i:Nat) (y x:Str) (k:Int),ps[i]?=some (y,.again k x)->1<=k/\k<=10^18
section
variable{ls:List (Str×Int)}{ps:List (Str×Fm)}{gs:List Int}{hs:List (List Int)}
theorem Sn.g(N:Sn ls ps gs hs){i:Nat}(hi:i<ps.length):1<=gs.getD i 0/\gs.getD i 0<=10^60:=⟨N.g1 i hi,(N.s.gb i hi).2⟩
theorem Sn.i8(N:Sn ls ps gs hs){i:Nat}{p:Str×Fm}(a:ps[i]?=some p):(inP ps p.2).length<=8:=by
 unfold inP;rw[vt];exact(N.s.w.f i p a).2
theorem Sn.pcOk(N:Sn ls ps gs hs){i:Nat}{q:Pc}(h:q∈pcB ps gs i):PcOk gs q:=by
 have u:=zM N.s.w h;have n:=h;unfold pcB at h;split at h
 case h_2=>exact nomatch h
 rename_i p hp;have o:=(vx.mp hp).1;have g:=N.g (show q.1<ps.length by lia);have t:=N.i8 hp;have a:∀k∈inP ps p.2,0<=gs.getD k 0/\gs.getD k 0<=10^60:=fun k d=>by
  have:=N.s.w.inP_lt hp d;have:=N.g (show k<ps.length by lia);lia
 refine⟨by rw[N.s.gl];lia,g.1,g.2,?_⟩;unfold pcsI at h;split at h
 ·rename_i k x e;have f:=N.a18 i p.1 x k (by rw[hp,<-e]);split at h
  ·exact nomatch h
  ·rename_i j r ein;have c:=a j (by rw[ein];exact vq);rcases mem_cons.mp h with rfl | h
   ·exact⟨(by show(1:Int)<=1;decide),(by show(1:Int)<=10^18;decide),(by show(0:Int)<=0;decide),(by show(0:Int)<=10^62;decide)⟩
   ·split at h
    ·rw[vo.mp h];refine⟨?_,?_,c.1,?_⟩
     ·show 1<=k-1;lia
     ·show k-1<=_;lia
     ·show gs.getD j 0<=_;lia
    ·exact nomatch h
 ·obtain⟨b,l⟩:=Yj a h;have m:=(ZB h).2;refine⟨by lia,by lia,b,?_⟩;have:(10:Int)^60*((inP ps p.2).length:Int)<=10^60*8:=Int.mul_le_mul_of_nonneg_left (by lia) (by decide);lia
 ·obtain⟨j,s,rfl⟩:=vJ.mp h;exact⟨(by show(1:Int)<=1;decide),(by show(1:Int)<=10^18;decide),(by show(0:Int)<=0;decide),(by show(0:Int)<=10^62;decide)⟩
theorem j1q{t:Int}{q:Pc}(c:PcOk gs q)(h:q.2.2<=t):0<=ov gs t q/\ov gs t q<=q.2.1/\ov gs t q*gs.getD q.1 0<=t-q.2.2/\0<=ov gs t q*gs.getD q.1 0:=by
 obtain⟨_,e,_,f,_,_⟩:=c;have d:0<=(t-q.2.2)/gs.getD q.1 0:=Int.ediv_nonneg (by lia) (by lia);have b:=Int.ediv_mul_le (t-q.2.2) (show gs.getD q.1 0≠0 by lia);have a:0<=ov gs t q/\ov gs t q<=q.2.1/\ov gs t q<=(t-q.2.2)/gs.getD q.1 0:=by
  unfold ov;split<;>lia
 refine⟨a.1,a.2.1,?_,vL a.1 (by lia)⟩;exact Int.le_trans (vS a.2.2 (by lia)) b
theorem xY{t:Int}{f:List Pc}(k:∀q∈f,PcOk gs q){x:Nat×Int}(h:x∈wth gs t f):0<=x.2:=by
 obtain⟨y,j,d⟩:=mem_flatMap.mp h;obtain⟨q,i,e⟩:=yt j;have o:=k q i;by_cases c:q.2.2<=t
 case neg=>unfold prg1 at e;rw[vd c]at e;cases e
 have b:=j1q o c;unfold prg1 at e;rw[ve c]at e;have g:=vK e;subst g;unfold wth1 at d;rcases vi.mp d with z | z
 ·have z:x∈(if 0<ov gs t q then[(q.1,gs.getD q.1 0)]else[]):=z;split at z
  ·rw[vo.mp z];exact Int.le_trans (by decide) o.2.1
  ·exact nomatch z
 ·split at z
  ·rename_i r a;rw[vo.mp z];have a:(if ov gs t q<q.2.1 then some (t-q.2.2-ov gs t q*gs.getD q.1 0)else none)=some r:=a;split at a
   ·cases a;show 0<=t-q.2.2-ov gs t q*gs.getD q.1 0;lia
   ·cases a
  ·exact nomatch z
theorem Sn.nodes(N:Sn ls ps gs hs)(a:∀i,i<ps.length->(hs.getD i []).length<=8){i:Nat}{t:Int}(hi:i<ps.length)(b:0<=t):Rm.nodes ps gs i t<=5000:=by
 have:=j1l N.s N.hl N.m N.g1 i t hi b;have c:=N.s.w.p61;have d:=a i hi;have:9*(i+1)*max 1 (hs.getD i []).length<=9*61*8:=Nat.mul_le_mul (by lia) (by lia);lia
end
noncomputable def ringX(ps:List (Str×Fm))(x:Nat×Int):List Str:=match ps[x.1]? with
 | some (_,.ring y _)=>if x.2=0 then[y]else[]
 | _=>[]
noncomputable def ringsW(ps:List (Str×Fm))(gs:List Int)(t:Int):List Str:=(reach ps gs (ps.length-1) t).flatMap (ringX ps)
theorem All2.app{e:Type}{R:Addr->e->Prop}{as d:List Addr}{xs ys:List e}(h:All2 R as xs)(k:All2 R d ys):All2 R (as++d) (xs++ys):=by
 have g:=h.1;refine⟨by rw[vn,vn,h.1,k.1],fun i a x b c=>?_⟩;by_cases f:i<as.length
 ·rw[vA f]at b;rw[vA (by lia)]at c;exact h.2 i a x b c
 ·rw[vB (by lia)]at b;rw[vB (by lia)]at c;exact k.2 _ a x b (by rw[g];exact c)
theorem All2.cons{b:Type}{R:Addr->b->Prop}{a:Addr}{as:List Addr}{x:b}{xs:List b}(h:R a x)(k:All2 R as xs):All2 R (a::as) (x::xs):=All2.app (as:=[a]) (xs:=[x]) (All2.snoc (as:=[]) (xs:=[]) .nil h) k
theorem All2.last{e:Type}{R:Addr->e->Prop}{as:List Addr}{xs:List e}{x:e}(h:All2 R as (xs++[x])):∃c a,as=c++[a]/\All2 R c xs/\R a x:=by
 rcases List.eq_nil_or_concat as with rfl | ⟨c,a,rfl⟩
 ·have:=h.1;simp at this
 ·rw[List.concat_eq_append]at h|-;have g:=h.1;rw[vn,vn]at g;have d:c.length=xs.length:=by simpa using g
  refine⟨c,a,rfl,⟨d,fun i b y f j=>?_⟩,?_⟩
  ·have k:=(vx.mp f).1;exact h.2 i b y (by rw[vA k];exact f) (by rw[vA (by lia)];exact j)
  ·exact h.2 c.length a x (by simp) (by rw[d];simp)
theorem j2c{gs:List Int}{n:Nat}(h:1<=n)(e:gs.length=n):atI (gs.map V.int) (-1)=some (.int (gs.getD (n-1) 0)):=by
 have i:ixN n (-1)=some (n-1):=by
  unfold ixN;simp;lia
 unfold atI;rw[vt,e,i];show(gs.map V.int)[n-1]?=_;rw[vv,vy,vz (by lia)];rfl
section
variable{ls:List (Str×Int)}{ps:List (Str×Fm)}{gs:List Int}{hs:List (List Int)}
theorem j0e(N:Sn ls ps gs hs):∀{i:Nat} {t:Int} {x:Nat×Int},i<ps.length->0<=t->x∈reach ps gs i t->0<=x.2:=by
 intro i
 induction i using Nat.strongRecOn with
 | ind i ih=>
  intro t x e d a;by_cases h:gs.getD i 0<=t\/pcB ps gs i=[]
  ·rw[qE h]at a;rw[vo.mp a];exact d
  ·rw[zO N.s.w h]at a;obtain⟨y,b,a⟩:=mem_flatMap.mp a;have:=yZ N.s.w b;exact ih y.1 this (by lia) (xY (fun q c=>N.pcOk c) b) a
theorem XE{h v n j:Int}(i:0<=h/\h<=10^18)(l:0<=v/\v<=10^18)(k:1<=n)(d:0<=j)(e:j<=n):0<=Rp.ramp h v n j/\Rp.ramp h v n j<=10^18:=by
 unfold Rp.ramp;by_cases c:h<=v
 ·have a:0<=(v-h)*j:=vL (by lia) d;have b:(v-h)*j<=(v-h)*n:=Int.mul_le_mul_of_nonneg_left e (by lia);have f:0<=(v-h)*j/n:=Int.ediv_nonneg a (by lia);have g:(v-h)*j/n<=v-h:=by
   have:=Int.ediv_le_ediv (show 0<n by lia) b;rw[Int.mul_ediv_cancel _ (show n≠0 by lia)]at this;exact this
  lia
 ·have a:(v-h)*j<=0:=Int.mul_nonpos_of_nonpos_of_nonneg (by lia) d;have b:(v-h)*n<=(v-h)*j:=Int.mul_le_mul_of_nonpos_left (by lia) e;have f:(v-h)*j/n<=0:=by
   have:=Int.ediv_le_ediv (show 0<n by lia) a;rw[Int.zero_ediv]at this;exact this
  have g:v-h<=(v-h)*j/n:=by
   have:=Int.ediv_le_ediv (show 0<n by lia) b;rw[Int.mul_ediv_cancel _ (show n≠0 by lia)]at this;exact this
  lia
end
inductive Fn where
 | hold (n:Int) | ring (x:Str) (n:Int) | rise (x:Str) (h n:Int) | row (is:List Nat) | side (is:List Nat) | again (k:Int) (j:Nat)
noncomputable def Fn.js:Fn->List Nat
 | .row is=>is
 | .side is=>is
 | .again _ j=>[j]
 | _=>[]
def Ex(p:Addr)(H H':Hp):Prop:=∀c u,c≠p->H c=some u->H' c=some u
theorem Ex.refl{p:Addr}(H:Hp):Ex p H H:=fun _ _ _ h=>h
theorem Ex.trans{p:Addr}{d e f:Hp}(a:Ex p d e)(b:Ex p e f):Ex p d f:=fun c u n h=>b c u n (a c u n h)
theorem Ex.of{p:Addr}{H H':Hp}(s:Same H H'):Ex p H H':=fun c u _ h=>s c u h
noncomputable def LenN(gs:List Int):Fn->Int->Prop
 | .hold n,g=>g=n
 | .ring _ n,g=>g=n
 | .rise _ _ n,g=>g=n
 | .row is,g=>g=(is.map fun j=>gs.getD j 0).sum
 | .side is,g=>(∃j∈is,g=gs.getD j 0)/\∀j∈is,gs.getD j 0<=g
 | .again k j,g=>g=k*gs.getD j 0
def MovN(L:List Str)(M:List (List Int))(f:Fn)(ks:List Int):Prop:=ks.Pairwise (· < ·)/\∀k,k∈ks↔(∃j∈f.js,k∈M.getD j [])\/∃(x:Str) (h n:Int) (i:Nat),f = .rise x h n/\L[i]?=some x/\k=(i:Int)
def ApartN(M:List (List Int))(is:List Nat):Prop:=(∀j∈is,M.getD j []≠[])/\is.Pairwise fun a b=>∀k∈M.getD a [],¬k∈M.getD b []
noncomputable def PreN(L:List Str)(M:List (List Int))(n:Nat):Fn->Prop
 | .hold m=>1<=m/\m<=10^18
 | .ring x m=>1<=m/\m<=10^18/\Ws.isW x=true
 | .rise x h m=>(∃i:Nat,L[i]?=some x)/\0<=h/\h<=10^18/\1<=m/\m<=10^18
 | .row is=>is≠[]/\is.length<=8/\∀j∈is,j<n
 | .side is=>2<=is.length/\is.length<=8/\(∀j∈is,j<n)/\ApartN M is
 | .again k j=>1<=k/\k<=10^18/\j<n
theorem PreN.js{L:List Str}{M:List (List Int)}{n:Nat}{f:Fn}(h:PreN L M n f):f.js.length<=8/\∀j∈f.js,j<n:=by
 cases f with
 | row is=>exact h.2
 | side is=>exact⟨h.2.1,h.2.2.1⟩
 | again k j=>exact⟨by show 1<=8;lia,fun i a=>by rw[vo.mp a];exact h.2.2⟩
 | hold n=>exact⟨vb _,fun j h=>nomatch h⟩
 | ring x n=>exact⟨vb _,fun j h=>nomatch h⟩
 | rise x v n=>exact⟨vb _,fun j h=>nomatch h⟩
structure DOk(L:List Str)(fs:List Fn)(M:List (List Int))(gs:List Int):Prop where
 ml:M.length=fs.length
 gl:gs.length=fs.length
 f:∀(i:Nat) (f:Fn),fs[i]?=some f->PreN L M i f/\MovN L M f (M.getD i [])/\LenN gs f (gs.getD i 0)
 g:∀i,i<fs.length->1<=gs.getD i 0/\gs.getD i 0<=10^60
noncomputable def toldF(names:List Str):Fn->Fm
 | .hold n=>.hold n
 | .ring x n=>.ring x n
 | .rise x h n=>.rise x h n
 | .row is=>.row (is.map fun j=>names.getD j ⟨#[]⟩)
 | .side is=>.side (is.map fun j=>names.getD j ⟨#[]⟩)
 | .again k j=>.again k (names.getD j ⟨#[]⟩)
theorem Qb{a:Type}{xs:List a}{x d:a}{j:Nat}(h:j<xs.length):(xs++[x]).getD j d=xs.getD j d:=by
 rw[vy,vy,vA h]
theorem Q1{a:Type}{xs:List a}{x d:a}:(xs++[x]).getD xs.length d=x:=by
 rw[vy,vB (vc _),Nat.sub_self];rfl
theorem PreN.ext{L:List Str}{M:List (List Int)}{ks:List Int}{n:Nat}{f:Fn}(q:n<=M.length)(h:PreN L M n f):PreN L (M++[ks]) n f:=by
 cases f with
 | side is=>
  obtain⟨a,b,c,d,e⟩:=h;have g:∀j∈is,(M++[ks]).getD j []=M.getD j []:=fun j i=>Qb (by have:=c j i;lia)
  refine⟨a,b,c,fun j i=>by rw[g j i];exact d j i,?_⟩;exact(List.pairwise_iff_forall_sublist.mpr fun {x y} l=>by
   have o:x∈is:=l.subset vq;have p:y∈is:=l.subset (vp _ vq);rw[g x o,g y p];exact List.pairwise_iff_forall_sublist.mp e l)
 | hold m=>exact h
 | ring x m=>exact h
 | rise x v m=>exact h
 | row is=>exact h
 | again k j=>exact h
theorem MovN.ext{L:List Str}{M:List (List Int)}{ks d:List Int}{f:Fn}(c:∀j∈f.js,j<M.length)(h:MovN L M f d):MovN L (M++[ks]) f d:=by
 refine⟨h.1,fun k=>(h.2 k).trans ?_⟩;have:(∃j∈f.js,k∈M.getD j [])↔∃j∈f.js,k∈(M++[ks]).getD j []:=by
  constructor
  ·rintro⟨j,a,b⟩;exact⟨j,a,by rw[Qb (c j a)];exact b⟩
  ·rintro⟨j,a,b⟩;exact⟨j,a,by rw[Qb (c j a)]at b;exact b⟩
 rw[this]
theorem LenN.ext{gs:List Int}{g' g:Int}{f:Fn}(n:∀j∈f.js,j<gs.length)(h:LenN gs f g):LenN (gs++[g']) f g:=by
 have e:∀j∈f.js,(gs++[g']).getD j 0=gs.getD j 0:=fun j a=>Qb (n j a)
 cases f with
 | hold m=>exact h
 | ring x m=>exact h
 | rise x v m=>exact h
 | row is=>
  show g=(is.map fun j=>(gs++[g']).getD j 0).sum;have d:is.map (fun j=>(gs++[g']).getD j 0)=is.map fun j=>gs.getD j 0:=map_congr_left e
  rw[d];exact h
 | side is=>
  obtain⟨⟨j,a,i⟩,l⟩:=h;exact⟨⟨j,a,by rw[e j a];exact i⟩,fun c b=>by rw[e c b];exact l c b⟩
 | again k j=>
  show g=k*(gs++[g']).getD j 0;rw[e j vq];exact h
theorem DOk.bnd{L:List Str}{fs:List Fn}{M:List (List Int)}{gs:List Int}(D:DOk L fs M gs):∀i,i<fs.length->∀k∈M.getD i [],0<=k/\k<(L.length:Int):=by
 intro i
 induction i using Nat.strongRecOn with
 | ind i ih=>
  intro e k f;obtain⟨a,b,_⟩:=D.f i _ (vz e);rcases(b.2 k).mp f with⟨j,c,d⟩ | ⟨x,h,n,j,_,c,rfl⟩
  ·have:=a.js.2 j c;exact ih j this (by lia) k d
  ·have:=(vx.mp c).1;lia
noncomputable def drawnPs(names:List Str)(fs:List Fn):List (Str×Fm):=(List.range fs.length).map fun i=>(names.getD i ⟨#[]⟩,toldF names (fs.getD i (.hold 0)))
section
variable{L:List Str}{fs:List Fn}{M:List (List Int)}{gs:List Int}{names:List Str}{ls:List (Str×Int)}
theorem JF:(drawnPs names fs).length=fs.length:=by unfold drawnPs;rw[vt,length_range]
theorem q0{i:Nat}{f:Fn}(h:fs[i]?=some f):(drawnPs names fs)[i]?=some (names.getD i ⟨#[]⟩,toldF names f):=by
 unfold drawnPs;have a:=(vx.mp h).1;rw[vv,List.getElem?_range a];have e:fs.getD i (.hold 0)=f:=by rw[vy,h];rfl
 show some (names.getD i ⟨#[]⟩,toldF names (fs.getD i (.hold 0)))=_;rw[e]
theorem qN{i:Nat}{p:Str×Fm}(h:(drawnPs names fs)[i]?=some p):∃f,fs[i]?=some f/\p=(names.getD i ⟨#[]⟩,toldF names f):=by
 have b:=(vx.mp h).1;rw[JF]at b;obtain⟨f,a⟩:∃f,fs[i]?=some f:=⟨_,vz b⟩
 rw[q0 a]at h;exact⟨f,a,(vK h).symm⟩
theorem Kc(c:fs.length<=names.length):nmsOf (drawnPs names fs)=names.take fs.length:=by
 unfold nmsOf drawnPs;rw[v3];refine ext_getElem (by rw[vt,length_range,vj];lia) fun i a b=>?_
 rw[getElem_map,getElem_range,getElem_take];show names.getD i ⟨#[]⟩=_;rw[vy,vz];rfl
theorem j32(b:fs.length<=names.length){j:Nat}(a:j<fs.length):(nmsOf (drawnPs names fs))[j]?=some (names.getD j ⟨#[]⟩):=by
 rw[Kc b,List.getElem?_take,ve a,vy,vz (by lia)];rfl
theorem Wd(a:fs.length<=names.length)(b:names.Nodup):(nmsOf (drawnPs names fs)).Nodup:=by
 rw[Kc a];exact b.sublist (take_sublist _ _)
theorem yi(c:fs.length<=names.length)(d:names.Nodup){f:Fn}(b:∀j∈f.js,j<fs.length):inP (drawnPs names fs) (toldF names f)=f.js:=by
 have e:∀a:List Nat,(∀j∈a,j<fs.length)->(a.map fun j=>names.getD j ⟨#[]⟩).map (ixOf (nmsOf (drawnPs names fs)))=a:=fun a h=>by
  rw[v3]
  conv=>rhs;rw[<-map_id a]
  exact map_congr_left fun j b=>Ja (Wd c d) (j32 c (h j b))
 unfold inP;cases f with
 | row a=>exact e a b
 | side a=>exact e a b
 | again k j=>exact e [j] b
 | hold n=>rfl
 | ring x n=>rfl
 | rise x v n=>rfl
theorem WV(f:Fn):(toldF names f).ns=f.js.map fun j=>names.getD j ⟨#[]⟩:=by cases f<;>rfl
theorem DOk.wf(D:DOk (nmsOf ls) fs M gs)(m:fs.length<=names.length)(s:names.Nodup)(l:(nmsOf ls).Nodup)(l8:ls.length<=8)(d:fs.length<=61):WfB ls (drawnPs names fs):=by
 refine⟨l,l8,Wd m s,by rw[JF];exact d,fun i p g=>?_,fun i y x h n g=>?_⟩
 ·obtain⟨f,c,rfl⟩:=qN g;have t:=(vx.mp c).1;obtain⟨a,_⟩:=D.f i f c;have q:=a.js;refine⟨fun x o=>?_,?_⟩
  ·rw[WV]at o;obtain⟨j,r,rfl⟩:=vJ.mp o;have:=q.2 j r;exact⟨j,this,j32 m (by lia)⟩
  ·rw[WV,vt];exact q.1
 ·obtain⟨f,c,e⟩:=qN g;obtain⟨a,_⟩:=D.f i f c;have b:=(Prod.mk.inj e).2;cases f with
  | rise x' h' n'=>
   have:x=x':=by injection b
   subst this;exact a.1
  | hold n=>cases b
  | ring x n=>cases b
  | row is=>cases b
  | side is=>cases b
  | again k j=>cases b
theorem DOk.mov(D:DOk (nmsOf ls) fs M gs)(o:fs.length<=names.length)(t:names.Nodup)(b:(nmsOf ls).Nodup):MovOk ls (drawnPs names fs) M:=by
 intro i p s q m;obtain⟨f,g,rfl⟩:=qN q;have u:=(vx.mp g).1;obtain⟨c,d,_⟩:=D.f i f g;have r:=c.js.2;have l:M.getD i []=s:=by rw[vy,m];rfl
 rw[l]at d;refine⟨d.1,fun k=>(d.2 k).trans ?_⟩;rw[yi o t fun j a=>by have:=r j a;lia];refine⟨fun h=>h.imp id ?_,fun h=>h.imp id ?_⟩
 ·rintro⟨x,v,n,j,rfl,a,rfl⟩;exact⟨x,v,n,rfl,by rw[Ja b a]⟩
 ·rintro⟨x,v,n,e,rfl⟩;cases f with
  | rise x' h' n'=>
   have:x'=x:=by injection e
   subst this;obtain⟨j,a⟩:=c.1;exact⟨x',h',n',j,rfl,a,by rw[Ja b a]⟩
  | hold n=>cases e
  | ring x n=>cases e
  | row is=>cases e
  | side is=>cases e
  | again k j=>cases e
theorem j2H{ps:List (Str×Fm)}{M c:List (List Int)}(W:WfB ls ps)(h:MovOk ls ps M)(h':MovOk ls ps c)(l:M.length=ps.length)(r:c.length=ps.length):∀i,i<ps.length->c.getD i []=M.getD i []:=by
 intro i
 induction i using Nat.strongRecOn with
 | ind i ih=>
  intro q;have e:ps[i]?=some ps[i]:=vz q;have p:M[i]?=some (M.getD i []):=by rw[vy,vz (by lia)];rfl
  have f:c[i]?=some (c.getD i []):=by rw[vy,vz (by lia)];rfl
  obtain⟨a,b⟩:=h i _ _ e p;obtain⟨n,o⟩:=h' i _ _ e f;refine j22 n a fun k=>(o k).trans (Iff.trans ?_ (b k).symm)
  have m:(∃j∈inP ps (ps[i]).2,k∈c.getD j [])↔∃j∈inP ps (ps[i]).2,k∈M.getD j []:=by
   constructor
   ·rintro⟨j,d,g⟩;have:=W.inP_lt e d;exact⟨j,d,by rw[<-ih j this (by lia)];exact g⟩
   ·rintro⟨j,d,g⟩;have:=W.inP_lt e d;exact⟨j,d,by rw[ih j this (by lia)];exact g⟩
  rw[m]
theorem DOk.sn(D:DOk (nmsOf ls) fs M gs)(C:fs.length<=names.length)(G:names.Nodup)(B:(nmsOf ls).Nodup)(l8:ls.length<=8)(J:fs.length<=61)(f1:1<=fs.length)(X:∀q∈ls,0<=q.2/\q.2<=10^18):Sn ls (drawnPs names fs) gs M:=by
 have W:=D.wf C G B l8 J;have O:=D.mov C G B;have dl:(drawnPs names fs).length=fs.length:=JF;have ml:=D.ml;have gl:=D.gl;refine⟨⟨W,by lia,fun i w=>?_,fun Y T K i w=>j2H W O K (by lia) T i w,fun i p t=>?_,fun i p qs t e=>?_⟩,by lia,O,fun i w=>(D.g i (by lia)).1,by lia,X,fun i y x v n t=>?_,fun i y x k t=>?_⟩
 ·have:=D.g i (by lia);lia
 ·obtain⟨f,m,rfl⟩:=qN t;have w:=(vx.mp m).1;obtain⟨d,_,u⟩:=D.f i f m;have o:=d.js.2;rw[show inP (drawnPs names fs) (names.getD i ⟨#[]⟩,toldF names f).2=f.js from yi C G fun j A=>by have:=o j A;lia];cases f with
  | hold n=>exact⟨trivial,fun g h=>Eq.trans h (Eq.symm u)⟩
  | ring x n=>exact⟨trivial,fun g h=>Eq.trans h (Eq.symm u)⟩
  | rise x v n=>exact⟨trivial,fun g h=>Eq.trans h (Eq.symm u)⟩
  | row is=>exact⟨trivial,fun g h=>Eq.trans h (Eq.symm u)⟩
  | side is=>
   refine⟨fun z=>?_,fun g h=>?_⟩
   ·have p2:=d.1;have:is.length=0:=by rw[<-vt (f:=fun j=>gs.getD j 0)];exact congrArg List.length z
    lia
   ·obtain⟨Q,R⟩:=h;obtain⟨j,A,rfl⟩:=vJ.mp Q;obtain⟨⟨E,s,e'⟩,U⟩:=u;have Z:=U j A;have a2:=R (gs.getD E 0) (vJ.mpr ⟨E,s,rfl⟩);lia
  | again k j=>
   have P:=D.g j (by have:=o j vq;lia);refine⟨⟨gs.getD j 0,[],rfl,Int.le_trans (by decide) d.1,d.2.1,by lia,P.2⟩,fun g h=>?_⟩;obtain⟨y,S,rfl⟩:=h;cases S;exact Eq.symm u
 ·obtain⟨f,m,rfl⟩:=qN t;have w:=(vx.mp m).1;obtain⟨d,_,_⟩:=D.f i f m;have o:=d.js.2;rw[show inP (drawnPs names fs) (names.getD i ⟨#[]⟩,toldF names f).2=f.js from yi C G fun j A=>by have:=o j A;lia];cases f with
  | side is=>
   obtain⟨_,_,_,H,I⟩:=d;refine⟨H,fun k=>?_⟩;have N:∀o:List Nat,o.Pairwise (fun a b=>∀k∈M.getD a [],¬k∈M.getD b [])->((o.map fun j=>M.getD j []).filter fun F=>decide (k∈F)).length<=1:=fun o=>by
    induction o with
    | nil=>exact fun _=>vb _
    | cons j r ih=>
     intro h;rw[pairwise_cons]at h;rw[v6,filter_cons];split
     ·rename_i c;have e:(r.map fun j=>M.getD j []).filter (fun F=>decide (k∈F))=[]:=by
       rw[List.filter_eq_nil_iff];intro F L;obtain⟨E,s,rfl⟩:=vJ.mp L;have:=h.1 E s k (of_decide_eq_true c);simpa using this
      rw[e];exact vc _
     ·exact ih h.2
   exact N is I
  | hold n=>cases e
  | ring x n=>cases e
  | rise x v n=>cases e
  | row is=>cases e
  | again k j=>cases e
 ·obtain⟨f,m,e⟩:=qN t;obtain⟨d,_⟩:=D.f i f m;have l:=(Prod.mk.inj e).2;cases f with
  | rise x' K n'=>
   injection l with e3 e4 e5;subst e3 e4 e5;exact d.2
  | hold n=>cases l
  | ring x n=>cases l
  | row is=>cases l
  | side is=>cases l
  | again k j=>cases l
 ·obtain⟨f,m,e⟩:=qN t;obtain⟨d,_⟩:=D.f i f m;have l:=(Prod.mk.inj e).2;cases f with
  | again k' j=>
   injection l with e3 e4;subst e3;exact⟨d.1,d.2.1⟩
  | rise x' K n'=>cases l
  | hold n=>cases l
  | ring x n=>cases l
  | row is=>cases l
  | side is=>cases l
end
section
variable{z:Sa}
theorem Q0{a b:Str}{v:V}{r:List (Str×V)}(h:¬a=b):(putF b v r).lookup a=r.lookup a:=by rw[zc,vd h]
theorem yP{a:Str}{v:V}{r:List (Str×V)}:(putF a v r).lookup a=some v:=by rw[zc,ve rfl]
theorem Q3(f:Str)(v:V):∀r:List (Str×V),(putF f v r).length<=r.length+1
 | []=>vc _
 | (g,u)::r=>by
  unfold putF;split
  ·exact Nat.le_succ _
  ·rw[vO,vO];have:=Q3 f v r;lia
end
theorem BookAt.less{H:Hp}{a C t:Addr}{fs:List (Str×V)}{b pl s:Addr}{i j:List Addr}{ls:List (Str×Int)}{ps:List (Str×Fm)}(p:H a=some (.ins C t fs))(B:BookAt H b pl s i j ls ps) :
  ∃H0:Hp,(∀H',(∀c u,c≠a->H c=some u->H' c=some u)->Same H0 H')/\(∀{c u},H0 c=some u->c≠a)/\BookAt H0 b pl s i j ls ps:=by
 have f:∀{c:Addr} {g:List V},H c=some (.tup g)->(fun c=>if c=a then none else H c) c=some (.tup g):=fun {c g} h=>by
  show(if c=a then none else H c)=_;rw[vd (fun z=>by rw[z,p]at h;cases h)];exact h
 have q:∀{c:Addr} {g:List V},H c=some (.lst g)->(fun c=>if c=a then none else H c) c=some (.lst g):=fun {c g} h=>by
  show(if c=a then none else H c)=_;rw[vd (fun z=>by rw[z,p]at h;cases h)];exact h
 refine⟨fun c=>if c=a then none else H c,fun H' k c u h=>?_,fun {c u} h=>?_,f B.t,q B.l,B.la.mono fun a x o=>f o,q B.p,B.pa.mono fun a x o=>?_⟩
 ·have h:(if c=a then none else H c)=some u:=h;by_cases e:c=a
  ·rw[ve e]at h;cases h
  ·rw[vd e]at h;exact k c u e h
 ·have h:(if c=a then none else H c)=some u:=h;intro e;rw[ve e]at h;cases h
 ·obtain⟨w,A,d⟩:=o;refine⟨w,f A,?_⟩;cases hx2:x.2 with
  | row r=>rw[hx2]at d;obtain⟨c,l,m⟩:=d;exact⟨c,f l,f m⟩
  | side r=>rw[hx2]at d;obtain⟨c,l,m⟩:=d;exact⟨c,f l,f m⟩
  | hold n=>rw[hx2]at d;exact f d
  | ring y n=>rw[hx2]at d;exact f d
  | rise y v n=>rw[hx2]at d;exact f d
  | again k y=>rw[hx2]at d;exact f d
theorem few{f:Str}{v:V}{r:List (Str×V)}{n:Nat}(h:(putF f v r).length<=n)(k:n<1000):(putF f v r).length<1000:=vC h k
section
variable{a b c d e:Str}{u v w x y:V}
theorem few3:(putF c w (putF b v (putF a u []))).length<1000:=by
 have:=Q3 c w (putF b v (putF a u []));have:=Q3 b v (putF a u []);have:=Q3 a u [];simp at *;lia
end
end Rm
namespace L2
open PySem PySem.Spec PyProof.Rows
structure STb(led:Bool)(n:Nat)(t:SetTable):Prop where
 mask:t.mask=7
 dm:t.dummies = #[]
 ld:t.led=led
 plain:t.plain=true
 up:t.place.toList.Pairwise (· < ·)
 le:∀x∈t.place.toList,x<8
 sz:t.place.size=n
section
variable{led:Bool}{n:Nat}{t:SetTable}
end
section
variable{led:Bool}{n:Nat}{t:SetTable}
end
section
variable{o:Array (Option Nat)}
end
section
variable{prog:Program}{w:World}{A:Around}{E:Value->Shared->Prop}{s:Shared}
end
section
variable{prog:Program}{w:World}{A:Around}{R:Result->Shared->Prop}{I:Addr}{fp wr:List Addr}{G:Array GenState->Array GenState->Prop}{n:Nat}{P:Nat->Value->Prop}{St:Nat->Shared->Prop}
end
open PySem PySem.Spec PySem.W PyProof.Rows
section
variable{prog:Program}{w:World}{A:Around}{E:Value->Shared->Prop}{s:Shared}
end
section
variable{prog:Program}{w:World}{A:Around}{E:Value->Shared->Prop}{s:Shared}
end
section
variable{X:Cx}
end
section
variable{prog:Program}{w:World}{A:Around}{E:Value->Shared->Prop}{s:Shared}
section
variable{R:Result->Shared->Prop}{I:Addr}{fp wr:List Addr}{n:Nat}{P:Nat->Value->Prop}{St:Nat->Heap->Prop}
end
end
section
variable{X:Cx}
theorem j2w{K:Frg}{n i j k:Nat}(hi:i<n)(y:j<n)(z:k<n):GKeeps n (gTup K 3 (gCons (gName i) (gCons (gName j) (gCons (gName k) gNil)))):=fun x B H Q q=>by
 obtain⟨a,w,d,f,g,v,r,h,t,s,l,c,b,o,p,q⟩:=q;refine⟨a,w,d,f,g,v,r,h,t,s,l,c,b,o,p,fun m u A e=>?_,q⟩;rw[List.getElem?_set_ne (by lia),List.getElem?_set_ne (by lia),List.getElem?_set_ne (by lia)];exact e
end
end L2
namespace Rm
open PySem PySem.Spec PyProof.Rows L2
section
variable{L:List Str}{fs:List Fn}{M:List (List Int)}{gs:List Int}{names:List Str}{ls:List (Str×Int)}{n:Nat}
end
noncomputable def setE(es:List (Int×Int))(h:List Int):List Int:=es.foldl (fun h q=>h.set q.1.toNat q.2) h
theorem ZF(q:Int×Int)(r:List (Int×Int))(h:List Int):setE (q::r) h=setE r (h.set q.1.toNat q.2):=rfl
theorem qa:∀(es:List (Int×Int)) (h:List Int),(setE es h).length=h.length
 | [],_=>rfl
 | q::r,h=>by rw[ZF,qa r,length_set]
theorem QJ:∀{es:List (Int×Int)} {h:List Int} {i:Nat},(∀q∈es,0<=q.1)->(∀v,((i:Int),v)∉es)->(setE es h)[i]?=h[i]?
 | [],_,_,_,_=>rfl
 | q::r,h,i,p,n=>by
  rw[ZF,QJ (fun x c=>p x (vp _ c)) (fun v b=>n v (vp _ b))];have:q.1.toNat≠i:=fun e=>by
   have d:=p q vq;have a:q.1=(i:Int):=by lia
   exact n q.2 (by rw[<-a];exact vq)
  rw[List.getElem?_set_ne this]
theorem zX:∀{es:List (Int×Int)} {h:List Int} {i:Nat} {v:Int},(es.map (·.1)).Pairwise (· < ·)->(∀q∈es,0<=q.1)->((i:Int),v)∈es->i<h.length->(setE es h)[i]?=some v
 | [],_,_,_,_,_,m,_=>nomatch m
 | q::r,h,i,v,pw,p,m,hi=>by
  rw[v6,pairwise_cons]at pw;rw[ZF];rcases mem_cons.mp m with e | m
  ·subst e;rw[QJ (fun x a=>p x (vp _ a)) (fun w b=>by
    have:=pw.1 _ (vJ.mpr ⟨_,b,rfl⟩);exact ug this (Int.lt_irrefl _))]
   show(h.set (i:Int).toNat v)[i]?=_;rw[Int.toNat_natCast,List.getElem?_set_self hi]
  ·exact zX pw.2 (fun x a=>p x (vp _ a)) m (by rw[length_set];exact hi)
theorem km{a:List (Int×Int)}(e:(a.map (·.1)).Pairwise (· < ·))(p:∀q∈a,0<=q.1)(h:List Int):setE a (setE a h)=setE a h:=by
 refine ext_getElem? fun i=>?_
 by_cases d:i<h.length
 case neg=>rw[vR (by rw[qa,qa];lia),vR (by rw[qa];lia)]
 by_cases c:∃v,((i:Int),v)∈a
 ·obtain⟨v,b⟩:=c;rw[zX e p b (by rw[qa];exact d),zX e p b d]
 ·rw[QJ p (fun v b=>c ⟨v,b⟩)]
def EN(L:List Str)(fs:List Fn)(n:Nat)(E:List (List (Int×Int))):Prop:=∀(i:Nat) (f:Fn),i<n->fs[i]?=some f->((E.getD i []).map (·.1)).Pairwise (· < ·)/\∀k v,(k,v)∈E.getD i []↔LastIn E f.js k v\/∃x m,f = .rise x v m/\k=(ixOf L x:Nat)
noncomputable def apN(L:List Str)(fs:List Fn)(gs:List Int)(E:List (List (Int×Int)))(h:List Int)(x:Nat×Int):List Int:=
 if gs.getD x.1 0<=x.2 then setE (E.getD x.1 []) h
 else match fs[x.1]? with
  | some (.rise y v n)=>h.set (ixOf L y) (Rp.ramp (h.getD (ixOf L y) 0) v n x.2)
  | _=>h
noncomputable def plN(L:List Str)(names:List Str)(fs:List Fn)(gs:List Int)(E:List (List (Int×Int)))(j:Nat)(t:Int)(h:List Int):List Int:=(reach (drawnPs names fs) gs j t).foldl (apN L fs gs E) h
noncomputable def rgN(names:List Str)(fs:List Fn)(gs:List Int)(j:Nat)(t:Int):List Str:=(reach (drawnPs names fs) gs j t).flatMap (ringX (drawnPs names fs))
noncomputable def wsN(names:List Str)(fs:List Fn)(gs:List Int)(j:Nat)(t:Int):List (Nat×Int):=wth gs t (pcB (drawnPs names fs) gs j)
section
variable{L:List Str}{fs:List Fn}{M:List (List Int)}{gs:List Int}{names:List Str}{ls:List (Str×Int)}{n:Nat}{E:List (List (Int×Int))}
theorem EN.mov(D:DOk L fs M gs)(u:L.Nodup)(e:EN L fs n E)(w:n<=fs.length):∀{i:Nat},i<n->∀q∈E.getD i [],q.1∈M.getD i []:=by
 intro i
 induction i using Nat.strongRecOn with
 | ind i ih=>
  intro s q t;obtain⟨f,c⟩:∃f,fs[i]?=some f:=⟨_,vz (by lia)⟩
  obtain⟨a,b,_⟩:=D.f i f c;rcases((e i f s c).2 q.1 q.2).mp t with⟨v,j,h,o,r,_⟩ | ⟨x,m,l,p⟩
  ·have d:j∈f.js:=by rw[o];simp
   have:=a.js.2 j d;exact(b.2 q.1).mpr (.inl ⟨j,d,ih j this (by lia) _ r⟩)
  ·subst l;obtain⟨⟨k,g⟩,_⟩:=a;refine(b.2 q.1).mpr (.inr ⟨x,q.2,m,k,rfl,g,?_⟩);rw[p,Ja u g]
theorem EN.pos(D:DOk L fs M gs)(c:L.Nodup)(e:EN L fs n E)(a:n<=fs.length){i:Nat}(hi:i<n):∀q∈E.getD i [],0<=q.1:=fun q b=>(D.bnd i (by lia) q.1 (e.mov D c a hi q b)).1
theorem Kn{j:Nat}{r:List Nat}{k v:Int}(h:LastIn E r k v):LastIn E (j::r) k v:=by
 obtain⟨b,i,a,e,c,d⟩:=h;exact⟨j::b,i,a,by rw[e];rfl,c,d⟩
theorem Kf:∀{js:List Nat} {h:List Int} {i:Nat},(∀j∈js,((E.getD j []).map (·.1)).Pairwise (· < ·)/\∀q∈E.getD j [],0<=q.1)->i<h.length->
  (∃v,LastIn E js i v/\(js.foldl (fun h j=>setE (E.getD j []) h) h)[i]?=some v)\/((∀v,¬LastIn E js i v)/\(js.foldl (fun h j=>setE (E.getD j []) h) h)[i]?=h[i]?)
 | [],h,i,_,_=>.inr ⟨fun v ⟨f,j,g,e,_⟩=>by simp at e,rfl⟩
 | j::r,h,i,p,hi=>by
  obtain⟨D,z⟩:=p j vq;rw[v4];rcases Kf (js:=r) (h:=setE (E.getD j []) h) (i:=i) (fun k B=>p k (vp _ B)) (by rw[qa];exact hi)with⟨v,a,b⟩ | ⟨a,b⟩
  ·exact .inl ⟨v,Kn a,b⟩
  ·by_cases c:∃v,((i:Int),v)∈E.getD j []
   ·obtain⟨v,d⟩:=c;refine .inl ⟨v,⟨[],j,r,rfl,d,fun n t o u=>?_⟩,by rw[b];exact zX D z d hi⟩;exact no_last a t u
   ·refine .inr ⟨fun v d=>?_,by rw[b];exact QJ z fun v d=>c ⟨v,d⟩⟩;obtain⟨f,k,g,e,x,A⟩:=d;cases f with
    | nil=>rw[nil_append]at e;cases e;exact c ⟨v,x⟩
    | cons y f=>rw[cons_append]at e;cases e;exact a v ⟨f,k,g,rfl,x,A⟩
where
 no_last:∀{r:List Nat} {i n:Nat} {o:Int},(∀v,¬LastIn E r i v)->n∈r->((i:Int),o)∈E.getD n []->False
  | [],_,_,_,_,m,_=>nomatch m
  | y::r,i,n,o,a,m,d=>by
   have w:∀v,¬LastIn E r i v:=fun v d=>a v (Kn d)
   rcases mem_cons.mp m with e | m
   ·subst e;exact a o ⟨[],n,r,rfl,d,fun C s F l=>no_last w s l⟩
   ·exact no_last w m d
theorem Wk:∀(js:List Nat) (h:List Int),(js.foldl (fun h j=>setE (E.getD j []) h) h).length=h.length
 | [],_=>rfl
 | j::r,h=>by rw[v4,Wk r,qa]
theorem EN.all(D:DOk L fs M gs)(d:L.Nodup)(e:EN L fs n E)(c:n<=fs.length){i:Nat}(hi:i<n){f:Fn}(o:fs[i]?=some f)(u:∀x v m,f≠.rise x v m)(h:List Int):setE (E.getD i []) h=f.js.foldl (fun h j=>setE (E.getD j []) h) h:=by
 have js:=(D.f i f o).1.js.2;obtain⟨a,b⟩:=e i f hi o;have w:∀j∈f.js,((E.getD j []).map (·.1)).Pairwise (· < ·)/\∀q∈E.getD j [],0<=q.1:=fun j s=>by
  have:=js j s;obtain⟨g,r⟩:∃g,fs[j]?=some g:=⟨_,vz (by lia)⟩
  exact⟨(e j g (by lia) r).1,e.pos D d c (by lia)⟩
 refine ext_getElem? fun k=>?_
 by_cases p:k<h.length
 case neg=>rw[vR (by rw[qa];lia),vR (by rw[Wk];lia)]
 rcases Kf w p with⟨v,l,q⟩ | ⟨l,q⟩
 ·rw[q];exact zX a (e.pos D d c hi) ((b _ _).mpr (.inl l)) p
 ·rw[q];refine QJ (e.pos D d c hi) fun v t=>?_
  rcases(b _ _).mp t with z | ⟨x,m,z,_⟩
  ·exact l v z
  ·exact u x v m z
theorem YW{b c a:Type}{g:b->List c}{f:a->c->a}:∀{l:List b} {h:a},(l.flatMap g).foldl f h=l.foldl (fun h x=>(g x).foldl f h) h
 | [],_=>rfl
 | x::r,h=>by rw[flatMap_cons,foldl_append,v4,YW]
theorem Ke{a b c:Type}{g:a->List b}{f:b->List c}:∀{l:List a},(l.flatMap g).flatMap f=l.flatMap fun x=>(g x).flatMap f
 | []=>rfl
 | x::r=>by rw[flatMap_cons,flatMap_append,flatMap_cons,Ke]
theorem Kg{b a:Type}{f g:a->b->a}:∀{l:List b} {h:a},(∀x∈l,∀h,f h x=g h x)->l.foldl f h=l.foldl g h
 | [],_,_=>rfl
 | x::r,h,e=>by rw[v4,v4,e x vq,Kg fun y c=>e y (vp _ c)]
end
section
variable{α β:Type}
end
section
variable{ls:List (Str×Int)}{ps:List (Str×Fm)}{gs:List Int}{hs:List (List Int)}{E:List (List (Int×Int))}{t:Int}
end
theorem j1T{a:Type}{f:a->Nat}:∀{l:List a},(∀x∈l,1<=f x)->l.length<=(l.map f).sum
 | [],_=>vc _
 | x::r,h=>by
  have c:=h x vq;have d:=j1T (l:=r) fun y b=>h y (vp _ b)
  rw[v6,v7,vO];lia
section
variable{ls:List (Str×Int)}{ps:List (Str×Fm)}{gs:List Int}{E:List (List (Int×Int))}{D:List (Nat×Int)}{x:Nat×Int}
theorem j07(W:WfB ls ps){i:Nat}{t:Int}(c:t<gs.getD i 0):1+((wth gs t (pcB ps gs i)).map fun x=>nodes ps gs x.1 x.2).sum<=nodes ps gs i t:=by
 by_cases e:pcB ps gs i=[]
 ·rw[e,ZU (.inr e)];exact vc _
 ·rw[Y4 W (fun h=>h.elim (fun z=>by lia) e)];exact vc _
end
end Rm
namespace L2
open PySem PySem.Spec PySem.W PyProof.Rows HT
section
variable{prog:Program}{w:World}{A:Around}{E:Value->Shared->Prop}{s:Shared}
theorem yj{t e:Addr}{items:Array Value}{g i:Value}{lo hi:Option Int}{Q:Value->Shared->Prop}(a:IsTup s.heap t items)(f:s.heap.IsSliceOf e g i .none)(pl:IsPart g lo)(n:IsPart i hi)
  (j:sIx items.size 0 lo=0) (k:sIx items.size items.size hi=items.size) (h:Q (.ref t) s):wpAny (model prog w) A (getItem (.ref t) (.ref e)) Q E s:=by
 obtain⟨m,d,c,l⟩:=id f;have b:s.TypeIs (.ref e) "slice":=⟨m,d,c⟩
 unfold getItem
 try with_reducible refine wpAny_holding ?_
 first | refine uk (uh ?_) | skip
 refine uk (wpAny_sequenceKey a.typeIs (by decide) ?_);refine uk (wpAny_callSpecial?_slot (name:=Str.ofString "__getitem__") a.typeIs PyProof.Rows.slot_tuple_getitem (wpAny_call_entry PyProof.Rows.slot_tuple_getitem a.typeIs entry_tuple_getitem ?_ (args_tuple_getitem _ _)));show wpAny _ _ (Builtin.Tuple.tupleItemsOf (.ref t) >>= _) _ _ s;refine uk (tupleItemsOf_ a ?_);refine uk (wpAny_typeOf b ?_);rw[ve (by decide)];refine uk (zz f pl n ?_);show wpAny _ _ (if(((sIx items.size 0 lo:Nat):Int)==0&&(1:Int)==1&&(sIx items.size items.size hi-sIx items.size 0 lo)==items.size)=true then _ else _) _ _ s;rw[ve (by rw[j,k];simp)];unfold Builtin.Tuple.tupleIsExact;refine uk (uk (wpAny_typeOf a.typeIs (uh ?_)));rw[ve (by decide)]
 first
  | exact uk (wpAny_rule (uh ⟨_,rfl,uh h⟩))
  | exact uk (wpAny_rule (uk (uh (uh ⟨_,rfl,uh h⟩))))
end
section
variable{X:Cx}
noncomputable def rSlW(K:Frg):V->Option Int->Option Int->Hp->VK->Prop:=fun x lo hi H Q=>∃a xs,x = .ref a/\SqT K H a xs/\HT.sIx xs.length 0 lo=0/\HT.sIx xs.length xs.length hi=xs.length/\Q (.ref a) H
theorem j3M:SlR X (rSlW X.K):=by
 intro e s z H x v w y t o u Q I m i k l h;obtain⟨a,n,rfl,j,f,g,q⟩:=h;cases m;obtain⟨c,r,d,p⟩:=I.tuple j;have b:c.toArray.size=n.length:=by rw[size_toArray];exact r.length.symm
 refine⟨"tuple",_,PyProof.Rows.slot_tuple_getitem.lookup,d.typeIs,?_⟩;exact yj d i k l (by rw[b];exact f) (by rw[b];exact g) ⟨.ref a,H,I,rfl,q⟩
theorem j3N:SlR X (fun x lo hi H Q=>rSlT X.K x lo hi H Q\/rSlW X.K x lo hi H Q):=SlR.or j1O j3M
theorem j2O{K:Frg}{e:Expr}{f:Str}{a:Pos}{b:TE}(g:X.K=K)(d:PE X e b)(c:attributeBase e f X.env (eval e X.env)=eval e X.env):PE X (.Attribute e f a) (tFld K b f):=g▸QL d c
end
end L2
namespace Rm
open PySem PySem.Spec PyProof.Rows L2
structure Tq where
 s:Addr
 p:Addr
 w:Addr
 pa:List Addr
noncomputable def fldR(z:Tq)(g:Int):List (Str×V):=putF "wholes" (.ref z.w) (putF "pieces" (.ref z.p) (putF "last" (.int g) (putF "sizes" (.ref z.s) [])))
section
variable{z:Tq}{g:Int}
theorem ZA:(fldR z g).lookup ("wholes" : Str)=some (.ref z.w):=yP
theorem yQ:(fldR z g).lookup ("pieces" : Str)=some (.ref z.p):=(Q0 (by decide +kernel)).trans yP
theorem j2t:(fldR z g).lookup ("last" : Str)=some (.int g):=(Q0 (by decide +kernel)).trans ((Q0 (by decide +kernel)).trans yP)
theorem Wn:(fldR z g).lookup ("sizes" : Str)=some (.ref z.s):=(Q0 (by decide +kernel)).trans ((Q0 (by decide +kernel)).trans ((Q0 (by decide +kernel)).trans yP))
end
noncomputable def ownW(x:Str):Fm->Int
 | .ring y _=>if y=x then 1 else 0
 | _=>0
noncomputable def wSum(W:List Int)(qs:List Pc):Int:=(qs.map fun q=>q.2.1*W.getD q.1 0).sum
def WPre(ps:List (Str×Fm))(gs:List Int)(x:Str)(W:List Int)(n:Nat):Prop:=W.length=n/\∀(j:Nat) (p:Str×Fm),j<n->ps[j]?=some p->W.getD j 0=ownW x p.2+wSum W (pcB ps gs j)
structure TalAt(C:Addr)(H:Hp)(a:Addr)(z:Tq)(ps:List (Str×Fm))(gs W:List Int):Prop where
 o:∃dx,H a=some (.ins C dx (fldR z (gs.getD (ps.length-1) 0)))
 s:H z.s=some (.lst (gs.map V.int))
 p:H z.p=some (.lst (z.pa.map V.ref))
 pa:PssAt H z.pa (ps.map fun p=>pcsI gs p.2 (inP ps p.2))
 w:H z.w=some (.lst (W.map V.int))
inductive sp_initR(C:Addr)(vs:List V)(H:Hp)(Q:VK)(xk:XK):Prop
 | mk (a dx b pl pp:Addr) (las pas:List Addr) (ls:List (Str×Int)) (ps:List (Str×Fm)) (gs:List Int) (hs:List (List Int)) (x:Str) (_:vs=[.ref a,.ref b,.str x]) (_:H a=some (.ins C dx [])) (_:BookAt H b pl pp las pas ls ps) (_:Sn ls ps gs hs) (_:Ws.isW x=true) (_:(∀p∈ps,FmWs p.2)) (_:∀(z:Tq) (W:List Int) (H':Hp),(∀c u,c≠a->H c=some u->H' c=some u)->WPre ps gs x W ps.length->TalAt C H' a z ps gs W->Q .non H'):sp_initR C vs H Q xk
section
variable{ls:List (Str×Int)}{ps:List (Str×Fm)}{gs:List Int}{hs:List (List Int)}{x:Str}{W:List Int}
theorem j13{l:List Int}(h:∀y∈l,0<=y){y:Int}(c:y∈l):y<=l.sum/\0<=l.sum:=by
 induction l generalizing y with
 | nil=>exact nomatch c
 | cons a r ih=>
  have d:=h a vq;have e:0<=r.sum:=by
   cases r with
   | nil=>exact va _
   | cons b r'=>exact(ih (fun y c=>h y (vp _ c)) vq |>.2)
  rw[v7];rcases mem_cons.mp c with rfl | c
  ·lia
  ·have:=(ih (fun y c=>h y (vp _ c)) c).1;lia
theorem j1b:∀{l:List Int},l≠[]->∃g,g∈l/\∀y∈l,y<=g
 | [],h=>ug rfl h
 | [a],_=>⟨a,vq,fun y d=>by rw[vo.mp d];exact va _⟩
 | a::b::r,_=>by
  obtain⟨g,i,f⟩:=j1b (l:=b::r) (cons_ne_nil _ _);by_cases c:a<=g
  ·exact⟨g,vp _ i,fun y d=>(mem_cons.mp d).elim (fun e=>e▸c) (f y)⟩
  ·exact⟨a,vq,fun y d=>(mem_cons.mp d).elim (fun e=>e▸va _) fun z=>by have:=f y z;lia⟩
theorem Sn.fit(N:Sn ls ps gs hs){i:Nat}{q:Pc}(h:q∈pcB ps gs i):q.2.1*gs.getD q.1 0<=gs.getD i 0:=by
 unfold pcB at h;split at h
 case h_2=>exact nomatch h
 rename_i p hp;have B:=(vx.mp hp).1;have o:=(N.s.ln i p hp).2;have C:=(N.s.ln i p hp).1;have t:∀k∈inP ps p.2,1<=gs.getD k 0:=fun k u=>by
  have:=N.s.w.inP_lt hp u;exact(N.g (show k<ps.length by lia)).1
 have f:∀y∈(inP ps p.2).map fun j=>gs.getD j 0,0<=y:=fun y w=>by
  obtain⟨j,a,rfl⟩:=vJ.mp w;have:=t j a;lia
 have x:=Y1 h;have c:gs.getD q.1 0∈(inP ps p.2).map fun j=>gs.getD j 0:=vJ.mpr ⟨q.1,x,rfl⟩
 unfold pcsI at h;split at h
 ·rename_i k y e;have m:=N.a18 i p.1 y k (by rw[hp,<-e]);split at h
  ·exact nomatch h
  ·rename_i j r ein;have A:=t j (by rw[ein];exact vq);have b:k*gs.getD j 0=gs.getD i 0:=o _ (by rw[e]at ein|-;rw[ein];exact⟨_,rfl,rfl⟩);rw[<-b];rcases mem_cons.mp h with rfl | h
   ·exact vS m.1 (by show 0<=gs.getD j 0;lia)
   ·split at h
    ·rw[vo.mp h];exact vS (show k-1<=k by lia) (by show 0<=gs.getD j 0;lia)
    ·exact nomatch h
 ·rename_i ns e;have b:=o ((inP ps p.2).map fun j=>gs.getD j 0).sum (by rw[e];rfl);rw[(ZB h).2,Int.one_mul,<-b];exact(j13 f c).1
 ·rename_i n1 n2;obtain⟨j,a,rfl⟩:=vJ.mp h;rw[Int.one_mul];cases e:p.2 with
  | side ns=>
   obtain⟨g,s,d⟩:=j1b (l:=(inP ps p.2).map fun j=>gs.getD j 0) (fun z=>by rw[z]at c;exact nomatch c);have b:=o g (by rw[e]at s d|-;exact⟨s,d⟩);rw[<-b];exact d _ c
  | row ns=>exact ug e (n2 ns)
  | again k y=>exact ug e (n1 k y)
  | hold n=>rw[e]at a;exact nomatch a
  | ring y n=>rw[e]at a;exact nomatch a
  | rise y v n=>rw[e]at a;exact nomatch a
theorem XM{b:Type}{f:b->Int}{B:Int}(b0:0<=B):∀{l:List b},(∀y∈l,0<=f y/\f y<=B)->0<=(l.map f).sum/\(l.map f).sum<=l.length*B
 | [],_=>by
  rw[map_nil,sum_nil];exact⟨va _,by show(0:Int)<=(0:Nat)*B;simp⟩
 | a::r,h=>by
  have d:=h a vq;have e:=XM b0 fun y c=>h y (vp _ c)
  rw[v6,v7,vO];have:((r.length+1:Nat):Int)*B=r.length*B+B:=by rw[show((r.length+1:Nat):Int)=(r.length:Int)+1 by lia,Int.add_mul,Int.one_mul]
  lia
theorem wo(N:Sn ls ps gs hs)(i:Nat):(pcB ps gs i).length<=8:=by
 unfold pcB;split
 ·rename_i p hp;exact j14 (N.i8 hp)
 ·exact vb _
theorem WPre.bnd(N:Sn ls ps gs hs){n:Nat}(v:n<=ps.length)(O:WPre ps gs x W n):∀i,i<n->0<=W.getD i 0/\W.getD i 0<=gs.getD i 0*8^(i+1):=by
 intro i
 induction i using Nat.strongRecOn with
 | ind i ih=>
  intro k;obtain⟨p,d⟩:∃p,ps[i]?=some p:=⟨_,vz (by lia)⟩
  have e:=O.2 i p k d;have j:=N.g (show i<ps.length by lia);have C:(0:Int)<8^i:=Int.pow_pos (by decide);have u:1*1<=gs.getD i 0*8^i:=Int.mul_le_mul j.1 (by lia) (by decide) (by lia);have b:=XM (f:=fun q:Pc=>q.2.1*W.getD q.1 0) (B:=gs.getD i 0*8^i) (by lia) (l:=pcB ps gs i) fun q a=>by
   have r:=zM N.s.w a;have g:=N.pcOk a;have w:=ih q.1 r (by lia);refine⟨vL (by have:=g.2.2.2.1;lia) w.1,?_⟩;have f:=N.fit a;have s:(8:Int)^(q.1+1)<=8^i:=by
    have:=Nat.pow_le_pow_right (show 0<8 by decide) (show q.1+1<=i by lia)
    exact_mod_cast this
   have t:0<=q.2.1:=by have:=g.2.2.2.1;lia
   calc q.2.1*W.getD q.1 0<=q.2.1*(gs.getD q.1 0*8^(q.1+1)):=Int.mul_le_mul_of_nonneg_left w.2 t
    _=q.2.1*gs.getD q.1 0*8^(q.1+1):=(Int.mul_assoc ..).symm
    _<=gs.getD i 0*8^(q.1+1):=vS f (Int.le_of_lt (Int.pow_pos (by decide)))
    _<=gs.getD i 0*8^i:=Int.mul_le_mul_of_nonneg_left s (by lia)
  have A:=wo N i;have o:0<=ownW x p.2/\ownW x p.2<=1/\(ownW x p.2=1->pcB ps gs i=[]):=by
   unfold ownW;split
   ·rename_i y m e';split
    ·refine⟨by decide,by decide,fun _=>?_⟩;unfold pcB;rw[d];show pcsI gs p.2 (inP ps p.2)=[]
     rw[e'];rfl
    ·exact⟨by decide,by decide,fun z=>by cases z⟩
   ·exact⟨by decide,by decide,fun z=>by cases z⟩
  rw[e,Int.pow_succ,<-Int.mul_assoc];have h:0<=wSum W (pcB ps gs i)/\wSum W (pcB ps gs i)<=(pcB ps gs i).length*(gs.getD i 0*8^i):=b;by_cases c:ownW x p.2=1
  ·rw[o.2.2 c]at h|-;have:wSum W []=0:=rfl;rw[this];lia
  ·have:((pcB ps gs i).length:Int)*(gs.getD i 0*8^i)<=8*(gs.getD i 0*8^i):=vS (by lia) (by lia);lia
theorem WPre.b250(N:Sn ls ps gs hs){n:Nat}(a:n<=ps.length)(O:WPre ps gs x W n){i:Nat}(hi:i<n):0<=W.getD i 0/\W.getD i 0<=10^200:=by
 have b:=O.bnd N a i hi;have g:=N.g (show i<ps.length by lia);have c:=N.s.w.p61;refine⟨b.1,Int.le_trans b.2 ?_⟩;have d:(8:Int)^(i+1)<=8^61:=by
  have:=Nat.pow_le_pow_right (show 0<8 by decide) (show i+1<=61 by lia)
  exact_mod_cast this
 have:=Int.mul_le_mul g.2 d (Int.le_of_lt (Int.pow_pos (by decide))) (by decide);exact Int.le_trans this (by decide)
theorem j0x{v:Int}{a:List Pc}(h:∀q∈a,q.1<W.length):wSum (W++[v]) a=wSum W a:=by
 unfold wSum;congr 1;refine map_congr_left fun q b=>?_
 rw[vy,vy,vA (h q b)]
theorem WPre.snoc(c:WfB ls ps){n:Nat}(O:WPre ps gs x W n){p:Str×Fm}(d:ps[n]?=some p):WPre ps gs x (W++[ownW x p.2+wSum W (pcB ps gs n)]) (n+1):=by
 have b:=O.1;refine⟨by rw[vn,b];rfl,fun j f g a=>?_⟩;rw[j0x fun q e=>by have:=zM c e;lia];rcases Nat.lt_or_ge j n with z | z
 ·rw[<-O.2 j f z a,vy,vy,vA (by lia)]
 ·have:j=n:=by lia
  subst this;rw[d]at a;cases a;rw[vy,vB (by lia),b,Nat.sub_self];rfl
end
theorem j20{H:Hp}{q:Addr}{f:Fm}{x:Str}(h:FormAt H q f)(j:FmWs f):∃xs:List V,H q=some (.tup xs)/\(xs.length=2\/xs.length=3\/xs.length=4)/\
  ∀(H':Hp) (p:Addr),Same H H'->H' p=some (.tup (xs.take 2))->∃d,DV H' (.ref p) d/\SeqAt.shaped d=true/\PyData.eqv d (.tuple [.str "ring",.str x])=decide (ownW x f=1):=by
 have c:∀y:Str,Ws.isW y=true->Shp 0 (.str y):=fun y w=>Shp.str (zY w)
 have g:∀{a b:PyData},Shp 1 a->Shp 1 b->SeqAt.shaped (.tuple [a,b])=true:=fun t u=>(Shp.tup (n:=1) fun d r=>by
  simp only[mem_cons,not_mem_nil,or_false]at r;rcases r with rfl | rfl
  ·exact t
  ·exact u).ok (by decide)
 have m:∀{d:PyData},Shp 0 d->Shp 1 d:=fun h=>h.mono (by decide)
 have i:∀{y:Str} {a:PyData},(y==("ring" : Str))=false->PyData.eqv (.tuple [.str y,a]) (.tuple [.str "ring",.str x])=false:=fun {y a} e=>by
  show((y==("ring" : Str))&&_)=false;rw[e];rfl
 cases f with
 | hold n=>exact⟨_,h,.inl rfl,fun H' p s e=>⟨_,.tup e (.cons (.str _) (.cons (.int _) .nil)),g (m (c _ (by decide +kernel))) (m .int),by rw[i (by decide +kernel)];rfl⟩⟩
 | ring y n=>
  refine⟨_,h,.inr (.inl rfl),fun H' p s e=>⟨_,.tup e (.cons (.str _) (.cons (.str _) .nil)),g (m (c _ (by decide +kernel))) (m (c _ j.1)),?_⟩⟩;show((("ring" : Str) == "ring")&&((y==x)&&true))=_;rw[beq_self_eq_true,Bool.true_and,Bool.and_true];show(y==x)=decide ((if y=x then(1:Int)else 0)=1);by_cases e:y=x
  ·rw[e,ve rfl];simp
  ·rw[vd e,beq_false_of_ne e];rfl
 | rise y v n=>exact⟨_,h,.inr (.inr rfl),fun H' p s e=>⟨_,.tup e (.cons (.str _) (.cons (.str _) .nil)),g (m (c _ (by decide +kernel))) (m (c _ j.1)),by rw[i (by decide +kernel)];rfl⟩⟩
 | row ns=>
  obtain⟨b,l,o⟩:=h;exact⟨_,l,.inl rfl,fun H' p s e=>⟨_,.tup e (.cons (.str _) (.cons (.tup (s _ _ o) (Qa ns)) .nil)),g (m (c _ (by decide +kernel))) (Shp.tup (zy j.2)),by rw[i (by decide +kernel)];rfl⟩⟩
 | side ns=>
  obtain⟨b,l,o⟩:=h;exact⟨_,l,.inl rfl,fun H' p s e=>⟨_,.tup e (.cons (.str _) (.cons (.tup (s _ _ o) (Qa ns)) .nil)),g (m (c _ (by decide +kernel))) (Shp.tup (zy j.2)),by rw[i (by decide +kernel)];rfl⟩⟩
 | again k y=>exact⟨_,h,.inr (.inl rfl),fun H' p s e=>⟨_,.tup e (.cons (.str _) (.cons (.int _) .nil)),g (m (c _ (by decide +kernel))) (m .int),by rw[i (by decide +kernel)];rfl⟩⟩
theorem cut2{xs:List V}(h:xs.length=3\/xs.length=4):¬(HT.sIx xs.length 0 none=0/\HT.sIx xs.length xs.length (some 2)=xs.length)/\cutV xs none (some 2)=xs.take 2:=by
 unfold cutV;rcases h with e | e<;>rw[e]<;>exact⟨by decide,rfl⟩
theorem j2X{K:Frg}{H:Hp}{a:Addr}{xs:List V}{Q:VK}(e:H a=some (.tup xs))(c:xs.length=2\/xs.length=3\/xs.length=4)(k:∀(b:Addr) (H':Hp),Same H H'->H' b=some (.tup (xs.take 2))->Q (.ref b) H'):rSlT K (.ref a) none (some 2) H Q\/rSlW K (.ref a) none (some 2) H Q:=by
 rcases c with h | h
 ·exact .inr ⟨a,xs,rfl,SqT.of e,by rw[h];rfl,by rw[h];rfl,k a H (Same.refl _) (by rw[List.take_of_length_le (by lia)];exact e)⟩
 ·exact .inl ⟨a,xs,rfl,SqT.of e,(cut2 h).1,fun p d=>k p _ (XJ d rfl) (by rw[(cut2 h).2];exact jC)⟩
end Rm
namespace Ct
def GB(r s g f:Int):Prop:=1<=g/\g ∣ r/\g ∣ s/\∃t,r*f=g+s*t
theorem GB.rep{r s g f y:Int}(G:GB r s g f):(∃p q,y=r*p+s*q)↔g ∣ y:=by
 obtain⟨h,⟨a,c⟩,⟨b,d⟩,t,e⟩:=G;constructor
 ·rintro⟨p,q,rfl⟩;rw[c,d];exact⟨a*p+b*q,by rw[Int.mul_add,Int.mul_assoc,Int.mul_assoc]⟩
 ·rintro⟨k,rfl⟩;refine⟨f*k,-(t*k),?_⟩;rw[<-Int.mul_assoc,e,Int.add_mul,Int.mul_neg,Int.mul_assoc s t k];lia
theorem j2A{r s g f m:Int}(G:GB r s g f):r*(s/g) ∣ m↔r ∣ m/\s ∣ m:=by
 obtain⟨w,⟨a,n⟩,⟨b,c⟩,t,v⟩:=G;have d:g≠0:=by lia
 have l:s/g=b:=by rw[c,Int.mul_ediv_cancel_left _ d]
 rw[l];constructor
 ·rintro⟨k,rfl⟩;refine⟨⟨b*k,Int.mul_assoc _ _ _⟩,⟨a*k,?_⟩⟩;rw[n,c,Int.mul_assoc g a b,Int.mul_comm a b,<-Int.mul_assoc g b a,Int.mul_assoc]
 ·rintro⟨⟨p,o⟩,q,u⟩;refine⟨q*f-p*t,?_⟩;have e:g*m=g*(r*b*(q*f-p*t)):=by
   have h:g*m=(r*f-s*t)*m:=by rw[v];congr 1;lia
   have i:r*f*m=r*f*(s*q):=by rw[<-u]
   have j:s*t*m=s*t*(r*p):=by rw[<-o]
   rw[h,Int.sub_mul,i,j,c];simp only[Int.mul_sub,Int.mul_left_comm,Int.mul_comm]
  exact Int.eq_of_mul_eq_mul_left d e
theorem j0t{r s g f:Int}(e:1<=s)(G:GB r s g f):1<=s/g:=by
 obtain⟨d,_,⟨c,a⟩,_⟩:=G;have b:g≠0:=by lia
 rw[show s/g=c by rw[a,Int.mul_ediv_cancel_left _ b]];by_cases z:c<=0
 ·have:=Int.mul_nonpos_of_nonpos_of_nonneg z (show 0<=g by lia);rw[Int.mul_comm]at this;lia
 ·lia
def Sol(cs:List (Int×Int))(y:Int):Prop:=∀c∈cs,c.2 ∣ y-c.1
structure Rg(cs:List (Int×Int))(B:List Int)(T:Int):Prop where
 t1:1<=T
 lc:∀m,T ∣ m↔∀c∈cs,c.2 ∣ m
 sl:(∃x,B=[x]/\0<=x/\x<T/\Sol cs x)\/(B=[]/\∀y,¬Sol cs y)
end Ct
namespace Rm
open PySem PySem.Spec PyProof.Rows L2
section
variable{ls:List (Str×Int)}{ps:List (Str×Fm)}{gs W:List Int}{hs:List (List Int)}{x:Str}
end
end Rm
namespace Ct
structure Ce(r s a b x y:Int):Prop where
 a1:1<=a
 b0:0<=b
 bs:b<=s
 ar:a<=r\/a<=s
 sg:(0<=x/\y<=0/\b*x-a*y=s)\/(x<=0/\0<=y/\a*y-b*x=s)
 x1 : -s<=x
 x2:x<=s
 y1 : -s<=y
 y2:y<=s
 rx:∃t,r*x=a+s*t
 ry:∃t,r*y=b+s*t
 dv:∀d,d ∣ a->d ∣ b->d ∣ r/\d ∣ s
theorem Ko{b y s:Int}(a:1<=b)(c:0<=y)(h:b*y<=s):y<=s:=by
 have:=vS a c;lia
theorem Ce.step{r s a b x y:Int}(C:Ce r s a b x y)(i:1<=b):Ce r s b (a-a/b*b) y (x-a/b*y):=by
 have g:0<=a/b:=Int.ediv_nonneg (by have:=C.a1;lia) (by lia);have B:=Int.emod_add_mul_ediv a b;have D:=vf a (show b≠0 by lia);have E:=vg a (show 0<b by lia);have F:a/b*b=b*(a/b):=Int.mul_comm ..;have f:0<=a-a/b*b:=by lia
 have n:a-a/b*b<b:=by lia
 generalize G:a/b=m at *;have H:=C.x1;have I:=C.x2;have z:=C.y1;have A:=C.y2;have o:=C.bs;have w:b*(x-m*y)-(a-m*b)*y=b*x-a*y:=by
  rw[Int.mul_sub,Int.sub_mul,Int.mul_left_comm b m y,Int.mul_assoc m b y];lia
 refine⟨i,f,by lia,.inr o,?_,z,A,?_,?_,C.ry,?_,fun d e c=>?_⟩
 ·rcases C.sg with⟨e,c,h⟩ | ⟨e,c,h⟩
  ·refine .inr ⟨c,?_,by lia⟩;have:=Int.mul_nonpos_of_nonneg_of_nonpos g c;lia
  ·refine .inl ⟨c,?_,by lia⟩;have:=vL g c;lia
 ·rcases C.sg with⟨e,c,h⟩ | ⟨e,c,h⟩
  ·have:=Int.mul_nonpos_of_nonneg_of_nonpos g c;lia
  ·have k:0<=m*y-x:=by have:=vL g c;lia
   have p:=vL f c;have q:b*(m*y-x)<=s:=by
    rw[show m*y-x = -(x-m*y) by lia,Int.mul_neg];lia
   have:=Ko i k q;lia
 ·rcases C.sg with⟨e,c,h⟩ | ⟨e,c,h⟩
  ·have k:0<=x-m*y:=by have:=Int.mul_nonpos_of_nonneg_of_nonpos g c;lia
   have p:=Int.mul_nonpos_of_nonneg_of_nonpos f c;exact Ko i k (by lia)
  ·have:=vL g c;lia
 ·obtain⟨t,v⟩:=C.rx;obtain⟨l,j⟩:=C.ry;refine⟨t-m*l,?_⟩;rw[Int.mul_sub,Int.mul_left_comm r m y,v,j,Int.mul_add,Int.mul_sub,Int.mul_left_comm s m l];lia
 ·have u:d ∣ a:=by
   have:=Int.dvd_add c (Int.dvd_trans e (Int.dvd_mul_left m b));rw[show a-m*b+m*b=a by lia]at this;exact this
  exact C.dv d u e
theorem Ce.done{r s a x y:Int}(C:Ce r s a 0 x y):GB r s a x:=by
 obtain⟨b,c⟩:=C.dv a (Int.dvd_refl a) (Int.dvd_zero a);exact⟨C.a1,b,c,C.rx⟩
end Ct
namespace Rm
open PySem PySem.Spec PyProof.Rows L2
section
variable{ls:List (Str×Int)}{ps:List (Str×Fm)}{gs W:List Int}{hs:List (List Int)}{R:Int->Prop}{F:List Int}{S0:List (Nat×Int)}{s:Nat×Int}{x:Str}
end
section
variable{ds:List Mb}{B:List Int}{T b:Int}
end
section
variable{fs:List Fn}{names:List Str}{x:Str}
variable{a:Int}
end
end Rm
namespace Ct
theorem j2z{r s g f:Int}(G:GB r s g f):r/g*s=r*(s/g):=by
 obtain⟨h,⟨a,d⟩,⟨b,e⟩,_⟩:=G;have c:g≠0:=by lia
 rw[d,e,Int.mul_ediv_cancel_left _ c,Int.mul_ediv_cancel_left _ c];simp only[Int.mul_left_comm,Int.mul_comm]
structure Lcm(ls:List Int)(T:Int):Prop where
 t1:1<=T
 d:∀m,T ∣ m↔∀l∈ls,l ∣ m
theorem Lcm.snoc{ls:List Int}{T s g f:Int}(h:Lcm ls T)(d:1<=s)(G:GB T s g f):Lcm (ls++[s]) (T/g*s):=by
 rw[j2z G];have e:=j0t d G;refine⟨by have:=Int.mul_le_mul h.t1 e (by decide) (by have:=h.t1;lia);lia,fun m=>?_⟩;rw[j2A G,h.d];constructor
 ·rintro⟨a,b⟩ l c;rcases vi.mp c with z | z
  ·exact a l z
  ·rw[vo.mp z];exact b
 ·exact fun a=>⟨fun l c=>a l (mem_append_left _ c),a s (mem_append_right _ vq)⟩
end Ct
namespace Rm
open PySem PySem.Spec PyProof.Rows L2
noncomputable def stepR(W:List Int)(r:Nat->Int->Int)(y:Pr4):Int:=y.2.2.1*W.getD y.1 0+(match y.2.2.2 with | some u=>r y.1 u | none=>0)
noncomputable def raL(pc:Nat->List Pc)(gs W:List Int):Nat->Nat->Int->Int
 | 0,_,_=>0
 | n+1,i,t=>if pc i=[]then(if 0<t then W.getD i 0 else 0)else((prg gs t (pc i)).map (stepR W (raL pc gs W n))).sum
noncomputable def RA(ps:List (Str×Fm))(gs W:List Int)(i:Nat)(t:Int):Int:=raL (pcB ps gs) gs W (i+1) i t
noncomputable def cntR(x:Str)(ps:List (Str×Fm))(gs:List Int)(i:Nat)(t:Int):Int:=(((reach ps gs i t).flatMap (ringX ps)).count x:Nat)
theorem zA{a:Type}{f g:a->Int}{l:List a}(h:∀x∈l,f x=g x):(l.map f).sum=(l.map g).sum:=by rw[map_congr_left h]
section
variable{ls:List (Str×Int)}{ps:List (Str×Fm)}{gs W:List Int}{hs:List (List Int)}{x:Str}
theorem wy(a:WfB ls ps){i:Nat}{t:Int}{y:Pr4}(h:y∈prg gs t (pcB ps gs i)):y.1<i:=by
 obtain⟨q,b,e⟩:=yt h;rw[WI e];exact zM a b
theorem wC(a:WfB ls ps):∀{n m i:Nat} {t:Int},i<n->i<m->raL (pcB ps gs) gs W n i t=raL (pcB ps gs) gs W m i t
 | 0,_,_,_,h,_=>ug h (Nat.not_lt_zero _)
 | _,0,_,_,_,h=>ug h (Nat.not_lt_zero _)
 | n+1,m+1,i,t,h1,h2=>by
  unfold raL;split
  ·rfl
  ·refine zA fun y b=>?_
   have:=wy a b;unfold stepR;split
   ·rw[wC a (show y.1<n by lia) (show y.1<m by lia)]
   ·rfl
theorem Zz{i:Nat}{t:Int}(h:pcB ps gs i=[]):RA ps gs W i t=if 0<t then W.getD i 0 else 0:=by
 unfold RA raL;rw[ve h]
noncomputable def cQ(ps:List (Str×Fm))(gs W:List Int)(t:Int)(q:Pc):Int:=if q.2.2<=t then ov gs t q*W.getD q.1 0+(if ov gs t q<q.2.1 then RA ps gs W q.1 (t-q.2.2-ov gs t q*gs.getD q.1 0)else 0)else 0
theorem j1S{f:Pc->Option Pr4}{g:Pr4->Int}{c:Pc->Int}(a:∀q,f q=none->c q=0)(b:∀q y,f q=some y->c q=g y):∀d:List Pc,((d.filterMap f).map g).sum=(d.map c).sum
 | []=>rfl
 | q::r=>by
  rw[v6,v7,<-j1S a b r];cases e:f q with
  | none=>rw[filterMap_cons_none e,a q e,v9]
  | some y=>rw[filterMap_cons_some e,v6,v7,b q y e]
theorem Z9(f:WfB ls ps){i:Nat}{t:Int}(h:¬pcB ps gs i=[]):RA ps gs W i t=((pcB ps gs i).map (cQ ps gs W t)).sum:=by
 have e:RA ps gs W i t=((prg gs t (pcB ps gs i)).map (stepR W (RA ps gs W))).sum:=by
  unfold RA;rw[raL,vd h];refine zA fun y a=>?_
  have:=wy f a;unfold stepR;split
  ·rw[wC f (show y.1<i by lia) (show y.1<y.1+1 by lia)]
  ·rfl
 rw[e];unfold prg;refine j1S (fun q d=>?_) (fun q y a=>?_) _
 ·unfold prg1 at d;unfold cQ;split at d
  ·cases d
  ·rename_i c;rw[vd c]
 ·unfold prg1 at a;unfold cQ;split at a
  ·rename_i c;rw[ve c];injection a with a;subst a;unfold stepR;dsimp only;by_cases b:ov gs t q<q.2.1
   ·rw[ve b,ve b]
   ·rw[vd b,vd b]
  ·cases a
theorem XF{g:Nat->Int}:∀{is:List Nat} {b:Int} {q:Pc},(∀j∈is,0<=gs.getD j 0)->q∈rowPc gs is b->q.2.2+gs.getD q.1 0<=b+(is.map fun j=>gs.getD j 0).sum
 | [],_,_,_,h=>nomatch h
 | j::r,b,q,h0,h=>by
  have e:0<=(r.map fun j=>gs.getD j 0).sum:=by
   cases r with
   | nil=>exact va _
   | cons a s=>
    refine(j13 (l:=(a::s).map fun j=>gs.getD j 0) (fun y d=>?_) (vJ.mpr ⟨a,vq,rfl⟩)).2;obtain⟨k,c,rfl⟩:=vJ.mp d;exact h0 k (vp _ c)
  rw[v6,v7];rcases mem_cons.mp h with rfl | h
  ·show b+gs.getD j 0<=_;lia
  ·have:=XF (g:=g) (fun k c=>h0 k (vp _ c)) h;lia
theorem Sn.fit2(N:Sn ls ps gs hs){i:Nat}{q:Pc}(h:q∈pcB ps gs i):q.2.2+q.2.1*gs.getD q.1 0<=gs.getD i 0:=by
 have m:=N.fit h;by_cases b:q.2.2=0
 ·lia
 unfold pcB at h;split at h
 case h_2=>exact nomatch h
 rename_i p hp;have d:=(N.s.ln i p hp).2;have f:∀k∈inP ps p.2,1<=gs.getD k 0:=fun k l=>by
  have:=N.s.w.inP_lt hp l;have:=(vx.mp hp).1;exact(N.g (show k<ps.length by lia)).1
 unfold pcsI at h;split at h
 ·rename_i k y e;split at h
  ·exact nomatch h
  ·rename_i j r ein;have a:k*gs.getD j 0=gs.getD i 0:=d _ (by rw[e]at ein|-;rw[ein];exact⟨_,rfl,rfl⟩);rcases mem_cons.mp h with rfl | h
   ·exact ug rfl b
   ·split at h
    ·rw[vo.mp h,<-a];show gs.getD j 0+(k-1)*gs.getD j 0<=_;rw[Int.sub_mul];lia
    ·exact nomatch h
 ·rename_i ns e;have a:=d ((inP ps p.2).map fun j=>gs.getD j 0).sum (by rw[e];rfl);have:=XF (g:=fun _=>0) (fun j c=>by have:=f j c;lia) h;rw[(ZB h).2,Int.one_mul,<-a];lia
 ·obtain⟨j,c,rfl⟩:=vJ.mp h;exact ug rfl b
theorem WG{i:Nat}{p:Str×Fm}(a:ps[i]?=some p)(h:¬pcB ps gs i=[]):ownW x p.2=0:=by
 unfold ownW;split
 ·rename_i y n e;exfalso;apply h;unfold pcB;rw[a];show pcsI gs p.2 (inP ps p.2)=[]
  rw[e];rfl
 ·rfl
theorem KD(N:Sn ls ps gs hs):∀i,RA ps gs W i 0=0:=by
 intro i
 induction i using Nat.strongRecOn with
 | ind i ih=>
  by_cases c:pcB ps gs i=[]
  ·rw[Zz c];rfl
  ·rw[Z9 N.s.w c];have:∀q∈pcB ps gs i,cQ ps gs W 0 q=0:=fun q e=>by
    have d:=N.pcOk e;have f:=zM N.s.w e;unfold cQ;split
    ·have b:q.2.2=0:=by have:=d.2.2.2.2.2.1;lia
     have o:ov gs 0 q=0:=by
      unfold ov;rw[b,show(0:Int)-0=0 from rfl,Int.zero_ediv,vd (by have:=d.2.2.2.1;lia)]
     rw[o,b,ve (by have:=d.2.2.2.1;lia),Int.zero_mul,Int.zero_mul,v9,show(0:Int)-0-0=0 from rfl];exact ih q.1 f
    ·rfl
   rw[map_congr_left this];generalize pcB ps gs i=l
   induction l with
   | nil=>rfl
   | cons a r ih2=>rw[v6,v7,ih2];rfl
theorem wU(N:Sn ls ps gs hs)(O:WPre ps gs x W ps.length){i:Nat}(hi:i<ps.length):RA ps gs W i (gs.getD i 0)=W.getD i 0:=by
 have e:=(N.g hi).1;by_cases c:pcB ps gs i=[]
 ·rw[Zz c,ve (by lia)]
 ·rw[Z9 N.s.w c,O.2 i _ hi (vz hi),WG (vz hi) c,v9];unfold wSum;refine zA fun q b=>?_
  have a:=N.pcOk b;have d:=N.fit2 b;have f:=Int.mul_pos (show 0<q.2.1 by have:=a.2.2.2.1;lia) (show 0<gs.getD q.1 0 by have:=a.2.1;lia);unfold cQ;rw[ve (by lia)];have o:ov gs (gs.getD i 0) q=q.2.1:=by
   unfold ov;have:q.2.1<=(gs.getD i 0-q.2.2)/gs.getD q.1 0:=(Int.le_ediv_iff_mul_le (by have:=a.2.1;lia)).mpr (by lia);split<;>lia
  rw[o,vd (Int.lt_irrefl _),uz]
noncomputable def nQ(x:Str)(ps:List (Str×Fm))(gs:List Int)(t:Int)(q:Pc):Int:=if q.2.2<=t/\ov gs t q<q.2.1 then cntR x ps gs q.1 (t-q.2.2-ov gs t q*gs.getD q.1 0)else 0
theorem j1H{i:Nat}{g:Int}(h:1<=g):ringX ps (i,g)=[]:=by
 unfold ringX;split
 ·exact vd (by show¬g=0;lia)
 ·rfl
theorem j2h(a b:List Str):((a++b).count x:Int)=(a.count x:Int)+(b.count x:Int):=by rw[List.count_append];lia
theorem XY(N:Sn ls ps gs hs){i:Nat}{t:Int}(h:¬(gs.getD i 0<=t\/pcB ps gs i=[])):cntR x ps gs i t=((pcB ps gs i).map (nQ x ps gs t)).sum:=by
 unfold cntR;rw[zO N.s.w h];have g:∀b:List Pc,(∀q∈b,q∈pcB ps gs i)->(((((b.filterMap (prg1 gs t)).flatMap (wth1 gs)).flatMap fun y=>reach ps gs y.1 y.2).flatMap (ringX ps)).count x:Int)=(b.map (nQ x ps gs t)).sum:=by
  intro b
  induction b with
  | nil=>intro _;rfl
  | cons q r f=>
   intro d;have l:=N.pcOk (d q vq);have f:=f fun y k=>d y (vp _ k)
   rw[v6,v7,<-f];unfold nQ;by_cases c:q.2.2<=t
   ·have e:prg1 gs t q=some (q.1,q.2.2,ov gs t q,if ov gs t q<q.2.1 then some (t-q.2.2-ov gs t q*gs.getD q.1 0)else none):=ve c;rw[filterMap_cons_some e,flatMap_cons,flatMap_append,flatMap_append,j2h];congr 1;have j:((wth1 gs (q.1,q.2.2,ov gs t q,if ov gs t q<q.2.1 then some (t-q.2.2-ov gs t q*gs.getD q.1 0)else none)).flatMap fun y=>reach ps gs y.1 y.2).flatMap (ringX ps)=if ov gs t q<q.2.1 then(reach ps gs q.1 (t-q.2.2-ov gs t q*gs.getD q.1 0)).flatMap (ringX ps)else[]:=by
     unfold wth1;rw[flatMap_append,flatMap_append];have z:((if 0<ov gs t q then[(q.1,gs.getD q.1 0)]else[]).flatMap fun y:Nat×Int=>reach ps gs y.1 y.2).flatMap (ringX ps)=[]:=by
      split
      ·rw[flatMap_cons,flatMap_nil,append_nil,qE (.inl (va _)),flatMap_cons,flatMap_nil,append_nil];exact j1H l.2.1
      ·rfl
     have m:((if 0<(q.1,q.2.2,ov gs t q,if ov gs t q<q.2.1 then some (t-q.2.2-ov gs t q*gs.getD q.1 0)else none).2.2.1 then[((q.1,q.2.2,ov gs t q,if ov gs t q<q.2.1 then some (t-q.2.2-ov gs t q*gs.getD q.1 0)else none).1,gs.getD q.1 0)]else[]).flatMap fun y:Nat×Int=>reach ps gs y.1 y.2).flatMap (ringX ps)=[]:=z;rw[m,nil_append];by_cases a:ov gs t q<q.2.1
     ·rw[ve a,ve a];show(([(q.1,t-q.2.2-ov gs t q*gs.getD q.1 0)].flatMap fun y:Nat×Int=>reach ps gs y.1 y.2).flatMap (ringX ps))=_;rw[flatMap_cons,flatMap_nil,append_nil]
     ·rw[vd a,vd a];rfl
    rw[j];by_cases a:ov gs t q<q.2.1
    ·rw[ve a,ve ⟨c,a⟩];rfl
    ·rw[vd a,vd fun z=>a z.2];rfl
   ·have e:prg1 gs t q=none:=vd c;rw[filterMap_cons_none e,vd fun z=>c z.1,v9]
 exact g _ fun q d=>d
theorem XL{b:Type}{f g h:b->Int}:∀{l:List b},(∀y∈l,f y=g y+h y)->(l.map f).sum=(l.map g).sum+(l.map h).sum
 | [],_=>rfl
 | a::r,e=>by
  rw[v6,v6,v6,v7,v7,v7,XL fun y c=>e y (vp _ c),e a vq];lia
noncomputable def fQ(w T g:Int)(r:Int->Int)(u:Int):Int:=if u/g<T then u/g*w+r (u%g)else T*w
theorem j2p{w T g:Int}{r c:Int->Int}{u:Int}(k:0<g)(o:0<=u)(l:r 0=0)(n:r g=w)(st:∀v,0<=v->v<g->r (v+1)=r v+c v):fQ w T g r (u+1)=fQ w T g r u+(if u/g<T then c (u%g)else 0):=by
 have e:=Int.emod_add_mul_ediv u g;have h:=vf u (show g≠0 by lia);have i:=vg u k;have f:=st _ h i;unfold fQ;rcases Int.lt_or_le (u%g+1) g with z | z
 ·have d:(u+1)/g=u/g:=by
   rw[show u+1=u%g+1+g*(u/g) by lia,Int.add_mul_ediv_left _ _ (by lia),Int.ediv_eq_zero_of_lt (by lia) z,v9]
  have m:(u+1)%g=u%g+1:=by
   rw[show u+1=u%g+1+g*(u/g) by lia,Int.add_mul_emod_self_left,Int.emod_eq_of_lt (by lia) z]
  rw[d,m];split
  ·rw[f];lia
  ·lia
 ·have j:u%g+1=g:=by lia
  have d:(u+1)/g=u/g+1:=by
   rw[show u+1=0+g*(u/g+1) by rw[Int.mul_add];lia,Int.add_mul_ediv_left _ _ (by lia),Int.zero_ediv,v9]
  have m:(u+1)%g=0:=by
   rw[show u+1=0+g*(u/g+1) by rw[Int.mul_add];lia,Int.add_mul_emod_self_left,Int.zero_emod]
  rw[d,m,l];rw[j,n]at f;by_cases a:u/g<T
  ·rw[ve a,ve a];by_cases b:u/g+1<T
   ·rw[ve b,Int.add_mul];lia
   ·rw[vd b,show T=u/g+1 by lia,Int.add_mul];lia
  ·rw[vd a,vd a,vd (by lia)];lia
theorem j1r{q:Pc}{t:Int}:ov gs t q=if(t-q.2.2)/gs.getD q.1 0<q.2.1 then(t-q.2.2)/gs.getD q.1 0 else q.2.1:=by
 unfold ov;split<;>split<;>lia
theorem wD{u g:Int}:u-u/g*g=u%g:=by
 have:=Int.emod_add_mul_ediv u g;rw[Int.mul_comm (u/g) g];lia
theorem j0H{q:Pc}{t:Int}(a:PcOk gs q)(h:q.2.2<=t):cQ ps gs W t q=fQ (W.getD q.1 0) q.2.1 (gs.getD q.1 0) (RA ps gs W q.1) (t-q.2.2):=by
 unfold cQ fQ;rw[ve h,j1r];by_cases c:(t-q.2.2)/gs.getD q.1 0<q.2.1
 ·rw[ve c,ve c,ve c,wD]
 ·rw[vd c,vd c,vd (Int.lt_irrefl _),uz]
theorem j3Y{q:Pc}{t:Int}(a:PcOk gs q)(h:q.2.2<=t):nQ x ps gs t q=if(t-q.2.2)/gs.getD q.1 0<q.2.1 then cntR x ps gs q.1 ((t-q.2.2)%gs.getD q.1 0)else 0:=by
 unfold nQ;rw[j1r];by_cases c:(t-q.2.2)/gs.getD q.1 0<q.2.1
 ·rw[ve c,ve ⟨h,c⟩,ve c,wD]
 ·rw[vd c,vd (fun z=>Int.lt_irrefl _ z.2),vd c]
theorem j29(N:Sn ls ps gs hs)(O:WPre ps gs x W ps.length):∀(i:Nat),i<ps.length->∀t,0<=t->t<gs.getD i 0->RA ps gs W i (t+1)=RA ps gs W i t+cntR x ps gs i t:=by
 intro i
 induction i using Nat.strongRecOn with
 | ind i ih=>
  intro e t v w;by_cases c:pcB ps gs i=[]
  ·have m:W.getD i 0=ownW x ps[i].2:=by
    rw[O.2 i _ e (vz e),c];exact uz _
   rw[Zz c,Zz c,ve (by lia),m];unfold cntR;rw[qE (.inr c),flatMap_cons,flatMap_nil,append_nil];unfold ringX ownW;rw[vz e];generalize ps[i]=p;obtain⟨y,f⟩:=p;cases f with
   | ring z n=>
    show(if z=x then(1:Int)else 0)=(if 0<t then(if z=x then(1:Int)else 0)else 0)+(((if t=0 then[z]else[]):List Str).count x:Int);by_cases h:t=0
    ·subst h;rw[vd (Int.lt_irrefl _),ve rfl,v9];by_cases d:z=x
     ·rw[ve d,d];simp
     ·rw[vd d,List.count_singleton];simp[d]
    ·rw[ve (show 0<t by lia),vd h];simp
   | _=>simp
  ·rw[Z9 N.s.w c,Z9 N.s.w c,XY N (fun z=>z.elim (fun z=>by lia) c)];refine XL fun q j=>?_
   have a:=N.pcOk j;have o:=zM N.s.w j;have k:q.1<ps.length:=by lia
   have u:=a.2.1;have s:=a.2.2.2.1;by_cases b:q.2.2<=t
   ·rw[j0H a (show q.2.2<=t+1 by lia),j0H a b,j3Y a b,show t+1-q.2.2=t-q.2.2+1 by lia];exact j2p (by lia) (by lia) (KD N q.1) (wU N O k) (ih q.1 o k)
   ·have r:nQ x ps gs t q=0:=vd fun z=>b z.1
    have l:cQ ps gs W t q=0:=vd b;rw[r,l];by_cases g:q.2.2<=t+1
    ·rw[j0H a g,show t+1-q.2.2=0 by lia];unfold fQ;rw[Int.zero_ediv,ve (by lia),Int.zero_mul,Int.zero_emod,KD N]
    ·exact vd g
noncomputable def rsts(ys:List Pr4):List (Nat×Int):=ys.filterMap fun y=>y.2.2.2.map fun r=>(y.1,r)
noncomputable def ovs(W:List Int)(ys:List Pr4):Int:=(ys.map fun y=>y.2.2.1*W.getD y.1 0).sum
theorem WU(r:Nat->Int->Int):∀ys:List Pr4,(ys.map (stepR W r)).sum=ovs W ys+((rsts ys).map fun s=>r s.1 s.2).sum
 | []=>rfl
 | y::t=>by
  have a:=WU r t;unfold ovs rsts at a|-;rw[v6,v7,a,v6,v7];unfold stepR;cases e:y.2.2.2 with
  | none=>
   rw[filterMap_cons_none (by rw[e];rfl)];show y.2.2.1*W.getD y.1 0+0+_=_;lia
  | some u=>
   rw[filterMap_cons_some (b:=(y.1,u)) (by rw[e];rfl),v6,v7];show y.2.2.1*W.getD y.1 0+r y.1 u+_=_+(r y.1 u+_);lia
theorem j27(a:WfB ls ps){i:Nat}{t:Int}:RA ps gs W i t=(if pcB ps gs i=[]then(if 0<t then W.getD i 0 else 0)else 0)+(ovs W (prg gs t (pcB ps gs i))+((rsts (prg gs t (pcB ps gs i))).map fun s=>RA ps gs W s.1 s.2).sum):=by
 by_cases h:pcB ps gs i=[]
 ·rw[Zz h,ve h,h];show _=_+(0+0);lia
 ·rw[vd h,v9,<-WU];unfold RA;rw[raL,vd h];refine zA fun y b=>?_
  have:=wy a b;unfold stepR;split
  ·rw[wC a (show y.1<i by lia) (show y.1<y.1+1 by lia)]
  ·rfl
theorem WM{t:Int}{d:List Pc}{s:Nat×Int}(h:s∈rsts (prg gs t d)):∃q∈d,s.1=q.1/\q.2.2<=t/\ov gs t q<q.2.1/\s.2=t-q.2.2-ov gs t q*gs.getD q.1 0:=by
 obtain⟨y,g,e⟩:=mem_filterMap.mp h;obtain⟨q,f,a⟩:=yt g;obtain⟨r,b,rfl⟩:=vh.mp e;unfold prg1 at a;split at a
 ·rename_i c;injection a with a;subst a;dsimp only at b|-;split at b
  ·rename_i c';exact⟨q,f,rfl,c,c',(vK b).symm⟩
  ·cases b
 ·cases a
theorem WN:∀ys:List Pr4,((rsts ys).map fun x=>nodes ps gs x.1 x.2).sum<=((ys.flatMap (wth1 gs)).map fun x=>nodes ps gs x.1 x.2).sum
 | []=>vc _
 | y::t=>by
  have a:=WN t;unfold rsts at a|-;rw[flatMap_cons,vk,sum_append];unfold wth1;rw[vk,sum_append];cases e:y.2.2.2 with
  | none=>
   rw[filterMap_cons_none (by rw[e];rfl)];unfold wth1 at a;lia
  | some u=>
   rw[filterMap_cons_some (b:=(y.1,u)) (by rw[e];rfl),v6,v7];show nodes ps gs y.1 u+_<=_+(nodes ps gs y.1 u+0)+_;unfold wth1 at a;lia
theorem kg(N:Sn ls ps gs hs){i:Nat}{t:Int}:((rsts (prg gs t (pcB ps gs i))).map fun x=>nodes ps gs x.1 x.2).sum<nodes ps gs i t:=by
 by_cases c:t<gs.getD i 0
 ·have:=j07 N.s.w (gs:=gs) (i:=i) c;have:=WN (ps:=ps) (gs:=gs) (prg gs t (pcB ps gs i));unfold wth at *;lia
 ·have e:rsts (prg gs t (pcB ps gs i))=[]:=by
   apply List.eq_nil_iff_forall_not_mem.mpr;intro s a;obtain⟨q,d,_,g,b,_⟩:=WM a;have f:=N.pcOk d;have h:=N.fit2 d;have:q.2.1<=(t-q.2.2)/gs.getD q.1 0:=(Int.le_ediv_iff_mul_le (by have:=f.2.1;lia)).mpr (by lia);unfold ov at b;split at b<;>lia
  rw[e];exact Kr i t
theorem j2U(N:Sn ls ps gs hs){i:Nat}{t:Int}(hi:i<ps.length)(m:t<=10^61){s:Nat×Int}(h:s∈rsts (prg gs t (pcB ps gs i))):s.1<ps.length/\0<=s.2/\s.2<=10^61:=by
 obtain⟨q,d,l,k,b,e⟩:=WM h;have a:=N.pcOk d;have n:=zM N.s.w d;have f:ov gs t q=(t-q.2.2)/gs.getD q.1 0:=by
  rw[j1r]at b|-;split at b
  ·rename_i c;rw[ve c]
  ·lia
 rw[f,wD]at e;have g:=vf (t-q.2.2) (show gs.getD q.1 0≠0 by have:=a.2.1;lia);have j:=vg (t-q.2.2) (show 0<gs.getD q.1 0 by have:=a.2.1;lia);have:=a.2.2.1;exact⟨by lia,by lia,by lia⟩
inductive sp_aheadR(C:Addr)(vs:List V)(H:Hp)(Q:VK)(xk:XK):Prop
 | mk (a:Addr) (z:Tq) (ls:List (Str×Int)) (ps:List (Str×Fm)) (gs W:List Int) (hs:List (List Int)) (x:Str) (t:Int) (_:vs=[.ref a,.int t]) (_:TalAt C H a z ps gs W) (_:Sn ls ps gs hs) (_:WPre ps gs x W ps.length) (_:0<=t) (_:t<=gs.getD (ps.length-1) 0+1) (_:∀H',Same H H'->Q (.int (RA ps gs W (ps.length-1) t)) H'):sp_aheadR C vs H Q xk
structure AhS(ps:List (Str×Fm))(gs W:List Int)(G to:Int)(S:List (Nat×Int)):Prop where
 e:to+(S.map fun s=>RA ps gs W s.1 s.2).sum=G
 ok:∀s∈S,s.1<ps.length/\0<=s.2/\s.2<=10^61
 n:(S.map fun s=>nodes ps gs s.1 s.2).sum<=5000
theorem AhS.next(N:Sn ls ps gs hs){G c:Int}{a:List (Nat×Int)}{s:Nat×Int}(h:AhS ps gs W G c (a++[s])):AhS ps gs W G (c+(if pcB ps gs s.1=[]then(if 0<s.2 then W.getD s.1 0 else 0)else 0)+ovs W (prg gs s.2 (pcB ps gs s.1))) (a++rsts (prg gs s.2 (pcB ps gs s.1))):=by
 have b:=h.ok s (mem_append_right _ vq);have e:=h.e;have n:=h.n;have f:=kg (i:=s.1) (t:=s.2) N;rw[vk,sum_append,v6,map_nil,v7,sum_nil]at e n;rw[j27 N.s.w]at e;refine⟨?_,fun y d=>?_,?_⟩
 ·rw[vk,sum_append];lia
 ·rcases vi.mp d with z | z
  ·exact h.ok y (mem_append_left _ z)
  ·exact j2U N b.1 b.2.2 z
 ·rw[vk,sum_append];lia
theorem j0h{ys:List Pr4}{k:Nat}{y:Pr4}(h:ys[k]?=some y)(e:y.2.2.2=none):rsts (ys.take (k+1))=rsts (ys.take k):=by
 unfold rsts;rw[take_snoc h,List.filterMap_append,filterMap_cons_none (by rw[e];rfl),List.filterMap_nil,append_nil]
theorem j0i{ys:List Pr4}{k:Nat}{y:Pr4}{r:Int}(h:ys[k]?=some y)(e:y.2.2.2=some r):rsts (ys.take (k+1))=rsts (ys.take k)++[(y.1,r)]:=by
 unfold rsts;rw[take_snoc h,List.filterMap_append,filterMap_cons_some (b:=(y.1,r)) (by rw[e];rfl),List.filterMap_nil]
theorem j1s{ys:List Pr4}{k:Nat}{y:Pr4}(h:ys[k]?=some y):ovs W (ys.take (k+1))=ovs W (ys.take k)+y.2.2.1*W.getD y.1 0:=by
 unfold ovs;rw[take_snoc h,vk,sum_append,v6,map_nil,v7,sum_nil,uz]
theorem j3H(N:Sn ls ps gs hs){i:Nat}{t:Int}{y:Pr4}(h:y∈prg gs t (pcB ps gs i)):0<=y.2.2.1/\y.2.2.1<=10^18:=by
 obtain⟨q,b,e⟩:=yt h;have a:=N.pcOk b;unfold prg1 at e;split at e
 ·rename_i c;injection e with e;subst e;show 0<=ov gs t q/\ov gs t q<=_;have:=Int.ediv_nonneg (show 0<=t-q.2.2 by lia) (show 0<=gs.getD q.1 0 by have:=a.2.1;lia);have:=a.2.2.2.1;have:=a.2.2.2.2.1;unfold ov;split<;>lia
 ·cases e
theorem j28(N:Sn ls ps gs hs)(O:WPre ps gs x W ps.length){i:Nat}(hi:i<ps.length){t:Int}(f:gs.getD i 0<=t):RA ps gs W i t=W.getD i 0:=by
 have e:=(N.g hi).1;by_cases c:pcB ps gs i=[]
 ·rw[Zz c,ve (by lia)]
 ·rw[Z9 N.s.w c,O.2 i _ hi (vz hi),WG (vz hi) c,v9];unfold wSum;refine zA fun q b=>?_
  have a:=N.pcOk b;have d:=N.fit2 b;have g:=Int.mul_pos (show 0<q.2.1 by have:=a.2.2.2.1;lia) (show 0<gs.getD q.1 0 by have:=a.2.1;lia);unfold cQ;rw[ve (by lia)];have o:ov gs t q=q.2.1:=by
   unfold ov;have:q.2.1<=(t-q.2.2)/gs.getD q.1 0:=(Int.le_ediv_iff_mul_le (by have:=a.2.1;lia)).mpr (by lia);split<;>lia
  rw[o,vd (Int.lt_irrefl _),uz]
noncomputable def rungN(x:Str)(ps:List (Str×Fm))(gs:List Int):Nat->Int
 | 0=>0
 | n+1=>rungN x ps gs n+(((ringsW ps gs (n:Int)).count x:Nat):Int)
theorem KC(N:Sn ls ps gs hs)(O:WPre ps gs x W ps.length):∀n:Nat,(n:Int)<=gs.getD (ps.length-1) 0->RA ps gs W (ps.length-1) (n:Int)=rungN x ps gs n
 | 0,_=>KD N _
 | n+1,h=>by
  have a:=N.ne;rw[show((n+1:Nat):Int)=(n:Int)+1 by lia]at h|-;rw[j29 N O _ (by lia) n (by lia) (by lia),KC N O n (by lia)];rfl
theorem j0z(N:Sn ls ps gs hs)(O:WPre ps gs x W ps.length){t:Int}(h:0<=t):RA ps gs W (ps.length-1) t=rungN x ps gs (min t (gs.getD (ps.length-1) 0)).toNat:=by
 have b:=N.ne;have a:=(N.g (show ps.length-1<ps.length by lia)).1;rcases Int.le_total t (gs.getD (ps.length-1) 0)with z | z
 ·rw[show min t (gs.getD (ps.length-1) 0)=t by lia,<-KC N O t.toNat (by lia),Int.toNat_of_nonneg h]
 ·rw[show min t (gs.getD (ps.length-1) 0)=gs.getD (ps.length-1) 0 by lia,<-KC N O _ (by lia),Int.toNat_of_nonneg (by lia),j28 N O (by lia) z,wU N O (by lia)]
theorem j0U{z:Tq}{g:Int}:(fldR z g).lookup ("ahead" : Str)=none:=(Q0 (by decide +kernel)).trans ((Q0 (by decide +kernel)).trans ((Q0 (by decide +kernel)).trans ((Q0 (by decide +kernel)).trans rfl)))
inductive sp_ringC(vs:List V)(H:Hp)(Q:VK)(xk:XK):Prop
 | mk (b pl pp:Addr) (las pas:List Addr) (ls:List (Str×Int)) (ps:List (Str×Fm)) (gs:List Int) (hs:List (List Int)) (x:Str) (t:Int) (_:vs=[.ref b,.str x,.int t]) (_:BookAt H b pl pp las pas ls ps) (_:Sn ls ps gs hs) (_:Ws.isW x=true) (_:(∀p∈ps,FmWs p.2)) (_:0<=t) (_:t<=gs.getD (ps.length-1) 0+1) (_:∀H',Same H H'->Q (.int (rungN x ps gs (min t (gs.getD (ps.length-1) 0)).toNat)) H'):sp_ringC vs H Q xk
end
noncomputable def mixB(c k:Int):Int:=(c%10^30+k*k+1)*314159265358979323846264338327%(10^30+57)
theorem yu(c k:Int):0<=mixB c k/\mixB c k<10^30+57:=⟨vf _ (by decide),vg _ (by decide)⟩
def YB:Sp:=fun vs H Q _=>∃c k:Int,vs=[.int c,.int k]/\0<=k/\k<=10^20/\Q (.int (mixB c k)) H
noncomputable def tkB(x y m:Int):Int×Int×Int:=if 0<x then(x%m,x/m,y)else(mixB ((y+m)*314159265358979323846264338327%(10^30+57)) m/1000%m,x,mixB ((y+m)*314159265358979323846264338327%(10^30+57)) m)
theorem Jd{x y m:Int}(h:1<=m):0<=(tkB x y m).1/\(tkB x y m).1<m:=by
 unfold tkB;split<;>exact⟨vf _ (by lia),vg _ (by lia)⟩
inductive sp_takeB(vs:List V)(H:Hp)(Q:VK)(xk:XK):Prop
 | mk (p:Addr) (x y m:Int) (_:vs=[.ref p,.int m]) (_:H p=some (.lst [.int x,.int y])) (_:1<=m) (_:m<=10^20) (_:0<=y) (_:y<10^30+57) (_:∀H',Ex p H H'->H' p=some (.lst [.int (tkB x y m).2.1,.int (tkB x y m).2.2])->Q (.int (tkB x y m).1) H'):sp_takeB vs H Q xk
noncomputable def abB:Str:=Str.ofString "abcdefghijklnopqrstuvwxyz"
noncomputable def wdB(p k:Nat):Str:=Txt.slice "mm" none (some (p:Int))++(⟨#[abB.cps.toList.getD (k%25) 97]⟩:Str)++(⟨#[if k<25 then 110 else 111]⟩:Str)++Txt.slice "mm" (some (p:Int)) none
inductive sp_wordB(vs:List V)(H:Hp)(Q:VK)(xk:XK):Prop
 | mk (p k:Nat) (_:vs=[.int (p:Nat),.int (k:Nat)]) (_:p<3) (_:k<50) (_:Q (.str (wdB p k)) H):sp_wordB vs H Q xk
theorem w6{x:Str}{a b:Option Int}:(Txt.slice x a b).length<=x.length:=j2k
noncomputable def knK(nm:List Str)(gs:List Int):List (Key×V):=(nm.zip gs).map fun p=>(Sum.inr p.1,.int p.2)
theorem Q2{nm:List Str}{gs:List Int}(h:nm.length=gs.length):(knK nm gs).map (·.1)=nm.map Sum.inr:=by
 unfold knK;rw[v3];have e:((fun x:Key×V=>x.1)∘fun p:Str×Int=>((Sum.inr p.1:Key),V.int p.2))=(fun x:Str=>(Sum.inr x:Key))∘Prod.fst:=rfl;rw[e,<-v3,List.map_fst_zip (by lia)]
theorem yn{nm:List Str}{gs:List Int}(c:nm.Nodup)(h:nm.length=gs.length){j:Nat}(b:j<nm.length):valV (knK nm gs) (Sum.inr (nm.getD j ⟨#[]⟩))=some (.int (gs.getD j 0)):=by
 refine xW (j:=j) (by rw[Q2 h];exact pairwise_map.mpr (c.imp fun h e=>h (Sum.inr.inj e))) ?_;have a:j<gs.length:=by lia
 have e:(nm.zip gs)[j]?=some (nm[j],gs[j]):=List.getElem?_zip_eq_some.mpr ⟨vz b,vz a⟩;unfold knK;rw[vv,e,vy,vy,vz b,vz a];rfl
inductive sp_longB(vs:List V)(H:Hp)(Q:VK)(xk:XK):Prop
 | mk (fa d:Addr) (f:Fn) (nm:List Str) (gs:List Int) (L:List Str) (M:List (List Int)) (_:vs=[.ref fa,.ref d]) (_:FormAt H fa (toldF nm f)) (_:H d=some (.dK (knK nm gs))) (_:nm.Nodup) (_:nm.length=gs.length) (_:PreN L M nm.length f) (_:(∀j,j<nm.length->1<=gs.getD j 0/\gs.getD j 0<=10^60)) (_:∀(g:Int) (H':Hp),Same H H'->LenN gs f g->Q (.int g) H'):sp_longB vs H Q xk
def StrsAt(H:Hp)(as:List Addr)(Ms:List (List Str)):Prop:=All2 (fun a ks=>H a=some (.lst (ks.map V.str))) as Ms
noncomputable def rsB:Fn->List Nat
 | .row is=>is
 | .side is=>is
 | _=>[]
def MovS(Ms:List (List Str))(f:Fn)(ks:List Str):Prop:=ks.Nodup/\∀s,s∈ks↔(∃j∈f.js,s∈Ms.getD j [])\/∃h n,f = .rise s h n
theorem KR(n:Str):∀hs:List Str,inV (.str n) (hs.map V.str)=decide (n∈hs)
 | []=>by simp[inV]
 | h::r=>by
  have a:=KR n r;unfold inV at a|-;rw[v6,any_cons,a];have e:eqV (.str h) (.str n)=decide (h=n):=by
   show(h==n)=_;by_cases c:h=n
   ·subst c;simp
   ·rw[vG c];exact beq_eq_false_iff_ne.mpr c
  rw[e,Bool.eq_iff_iff];simp only[Bool.or_eq_true,decide_eq_true_eq,mem_cons];constructor
  ·rintro(x | x)
   ·exact .inl x.symm
   ·exact .inr x
  ·rintro(x | x)
   ·exact .inl x.symm
   ·exact .inr x
theorem flatB:∀hs:List Str,(hs.map V.str).all flatV=true
 | []=>rfl
 | h::r=>by rw[v6,all_cons,flatB r];rfl
theorem lidxB{xs:List Str}(d:xs.Nodup){j:Nat}(f:j<xs.length):(xs.map V.str)[j]?=some (.str (xs.getD j ⟨#[]⟩))/\eqV (.str (xs.getD j ⟨#[]⟩)) (.str (xs.getD j ⟨#[]⟩))=true/\∀(n:Nat) (z:V),n<j->(xs.map V.str)[n]?=some z->eqV z (.str (xs.getD j ⟨#[]⟩))=false:=by
 have h:xs[j]?=some (xs.getD j ⟨#[]⟩):=by rw[vy,vz f];rfl
 refine⟨by rw[vv,h];rfl,(by show(xs.getD j ⟨#[]⟩==xs.getD j ⟨#[]⟩)=true;exact beq_self_eq_true _),fun n z i c=>?_⟩;rw[vv]at c;obtain⟨w,g,rfl⟩:=vh.mp c;show(w==xs.getD j ⟨#[]⟩)=false;refine beq_eq_false_iff_ne.mpr fun e=>?_
 rw[<-e]at h;have a:=Ja d g;have b:=Ja d h;lia
noncomputable def plB(L ks:List Str):List Int:=((List.range L.length).filter fun i=>decide (L.getD i ⟨#[]⟩∈ks)).map fun i:Nat=>(i:Int)
theorem zN{L ks:List Str}{k:Int}:k∈plB L ks↔∃(i:Nat) (s:Str),L[i]?=some s/\s∈ks/\k=(i:Int):=by
 unfold plB;constructor
 ·intro h;obtain⟨i,d,rfl⟩:=vJ.mp h;obtain⟨a,c⟩:=mem_filter.mp d;have b:=vZ.mp a;refine⟨i,L[i],vz b,?_,rfl⟩;have:=of_decide_eq_true c;rw[vy,vz b]at this;exact this
 ·rintro⟨i,s,a,c,rfl⟩;have b:=(vx.mp a).1;refine vJ.mpr ⟨i,mem_filter.mpr ⟨vZ.mpr b,vF ?_⟩,rfl⟩;rw[vy,a];exact c
theorem j3D{L ks:List Str}:(plB L ks).Pairwise (· < ·):=by
 unfold plB;refine pairwise_map.mpr ?_;refine(List.Pairwise.filter _ (List.pairwise_lt_range (n:=L.length))).imp fun {a b} h=>?_
 lia
def InL(L:List Str)(Ms:List (List Str)):Prop:=∀ks∈Ms,ks.Nodup/\∀s∈ks,s∈L
theorem InL.at'{L:List Str}{Ms:List (List Str)}(I:InL L Ms)(j:Nat):∀s∈Ms.getD j [],s∈L:=fun s a=>by
 rw[vy]at a;cases e:Ms[j]? with
 | none=>rw[e]at a;cases a
 | some ks=>rw[e]at a;exact(I ks (vm e)).2 s a
theorem j15{a b:List Str}(d:a.Nodup)(h:∀x∈a,x∈b):a.length<=b.length:=by
 induction a generalizing b with
 | nil=>exact vb _
 | cons x r ih=>
  rw[ut]at d;have f:=h x vq;have:=ih (b:=b.erase x) d.2 fun y g=>by
   have c:y≠x:=fun e=>d.1 (e▸g)
   exact(List.mem_erase_of_ne c).mpr (h y (vp _ g))
  rw[List.length_erase_of_mem f]at this;have:0<b.length:=List.length_pos_of_mem f;rw[vO];lia
theorem InL.len{L:List Str}{Ms:List (List Str)}(I:InL L Ms){ks:List Str}(h:ks∈Ms):ks.length<=L.length:=j15 (I ks h).1 (I ks h).2
theorem yA{L:List Str}{Ms:List (List Str)}(j:Nat):(Ms.map (plB L)).getD j []=plB L (Ms.getD j []):=by
 rw[vy,vy,vv];cases Ms[j]? with
 | none=>
  show[]=plB L [];refine(List.eq_nil_iff_forall_not_mem.mpr fun k a=>?_).symm;obtain⟨_,_,_,h,_⟩:=zN.mp a;cases h
 | some x=>rfl
theorem j3E{L ks:List Str}(h:∀s∈ks,s∈L)(n:ks≠[]):plB L ks≠[]:=fun z=>by
 obtain⟨s,a⟩:=List.exists_mem_of_ne_nil ks n;obtain⟨i,b⟩:=List.mem_iff_getElem?.mp (h s a);have:=zN.mpr ⟨i,s,b,a,rfl⟩;rw[z]at this;cases this
def ApartS(Ms:List (List Str))(is:List Nat):Prop:=(∀j∈is,Ms.getD j []≠[])/\is.Pairwise fun a b=>∀s∈Ms.getD a [],¬s∈Ms.getD b []
theorem ApartS.n{L:List Str}{Ms:List (List Str)}{is:List Nat}(I:InL L Ms)(h:ApartS Ms is):ApartN (Ms.map (plB L)) is:=by
 refine⟨fun j p=>?_,h.2.imp fun {a b} d k g c=>?_⟩
 ·rw[yA];exact j3E (I.at' j) (h.1 j p)
 ·rw[yA]at g c;obtain⟨i,s,m,n,rfl⟩:=zN.mp g;obtain⟨q,r,f,o,e⟩:=zN.mp c;have l:i=q:=by lia
  subst l;rw[m]at f;cases f;exact d s n o
theorem MovS.n{L:List Str}{Ms:List (List Str)}{f:Fn}{ks:List Str}(h:MovS Ms f ks):MovN L (Ms.map (plB L)) f (plB L ks):=by
 refine⟨j3D,fun k=>?_⟩;rw[zN];constructor
 ·rintro⟨i,s,a,b,rfl⟩;rcases(h.2 s).mp b with⟨j,c,g⟩ | ⟨v,n,e⟩
  ·exact .inl ⟨j,c,by rw[yA];exact zN.mpr ⟨i,s,a,g,rfl⟩⟩
  ·exact .inr ⟨s,v,n,i,e,a,rfl⟩
 ·rintro(⟨j,c,d⟩ | ⟨x,v,n,i,e,a,rfl⟩)
  ·rw[yA]at d;obtain⟨i,s,a,b,rfl⟩:=zN.mp d;exact⟨i,s,a,(h.2 s).mpr (.inl ⟨j,c,b⟩),rfl⟩
  ·exact⟨i,x,a,(h.2 x).mpr (.inr ⟨v,n,e⟩),rfl⟩
theorem MovS.inL{L:List Str}{Ms:List (List Str)}{f:Fn}{ks:List Str}{M:List (List Int)}{n:Nat}(I:InL L Ms)(p:PreN L M n f)(h:MovS Ms f ks):ks.Nodup/\∀s∈ks,s∈L:=by
 refine⟨h.1,fun s c=>?_⟩;rcases(h.2 s).mp c with⟨j,_,b⟩ | ⟨v,n,e⟩
 ·exact I.at' j s b
 ·subst e;obtain⟨⟨i,a⟩,_⟩:=p;exact vm a
theorem DOk.addN{L:List Str}{fs:List Fn}{M:List (List Int)}{gs:List Int}{f:Fn}{ks:List Int}{g:Int}(D:DOk L fs M gs)(q:PreN L M fs.length f)(t:MovN L M f ks)(u:LenN gs f g)(v:1<=g/\g<=10^60):DOk L (fs++[f]) (M++[ks]) (gs++[g]):=by
 have r:=D.ml;have n:=D.gl;refine⟨by simp[r],by simp[n],fun i p d=>?_,fun i k=>?_⟩
 ·by_cases k:i<fs.length
  ·rw[vA k]at d;obtain⟨a,b,c⟩:=D.f i p d;have l:=a.js.2;rw[Qb (by lia),Qb (by lia)];exact⟨a.ext (by lia),b.ext fun j h=>by have:=l j h;lia,c.ext fun j h=>by have:=l j h;lia⟩
  ·rw[vB (by lia)]at d;have o:i=fs.length:=by
    have:=(vx.mp d).1;simp at this;lia
   subst o;rw[Nat.sub_self]at d;have e:p=f:=(vK d).symm;subst e;have l:=q.js.2;have s:(M++[ks]).getD fs.length []=ks:=by rw[<-r];exact Q1
   have m:(gs++[g]).getD fs.length 0=g:=by rw[<-n];exact Q1
   rw[s,m];exact⟨q.ext (by lia),t.ext fun j h=>by have:=l j h;lia,u.ext fun j h=>by have:=l j h;lia⟩
 ·rw[vn]at k;have k:i<fs.length+1:=k;by_cases c:i<fs.length
  ·rw[Qb (by lia)];exact D.g i c
  ·have e:i=fs.length:=by lia
   subst e;have m:(gs++[g]).getD fs.length 0=g:=by rw[<-n];exact Q1
   rw[m];exact v
theorem j2B{L:List Str}{M:List (List Int)}{gs:List Int}{n:Nat}{f:Fn}{g:Int}(p:PreN L M n f)(l:LenN gs f g)(b:∀j,j<n->1<=gs.getD j 0):1<=g:=by
 cases f with
 | hold m=>obtain⟨c,o⟩:=p;have e:g=m:=l;lia
 | ring x m=>obtain⟨c,o,_⟩:=p;have e:g=m:=l;lia
 | rise x v m=>obtain⟨_,_,_,c,o⟩:=p;have e:g=m:=l;lia
 | row is=>
  obtain⟨c,o,d⟩:=p;have e:g=(is.map fun j=>gs.getD j 0).sum:=l;have q:∀a:List Nat,(∀j∈a,j<n)->0<=(a.map fun j=>gs.getD j 0).sum:=fun a=>by
   induction a with
   | nil=>exact fun _=>va _
   | cons j a ih=>
    intro h;rw[v6,v7];have:=b j (h j vq);have:=ih fun i r=>h i (vp _ r)
    lia
  cases is with
  | nil=>exact ug rfl c
  | cons j a=>
   rw[e,v6,v7];have u:=b j (d j vq);have:=q a fun i r=>d i (vp _ r)
   lia
 | side is=>
  obtain⟨_,_,d,_⟩:=p;obtain⟨⟨j,t,e⟩,_⟩:=l;have:=b j (d j t);lia
 | again k j=>
  obtain⟨c,o,d⟩:=p;have e:g=k*gs.getD j 0:=l;have s:=b j d;have:=Int.mul_le_mul c s (by decide) (by lia);lia
theorem LenN.uniq{gs:List Int}{f:Fn}{g g':Int}(h:LenN gs f g)(h':LenN gs f g'):g=g':=by
 cases f with
 | side is=>
  obtain⟨⟨j,b,e⟩,m⟩:=h;obtain⟨⟨c,a,i⟩,d⟩:=h';have:=m c a;have:=d j b;lia
 | hold n=>exact Eq.trans h (Eq.symm h')
 | ring x n=>exact Eq.trans h (Eq.symm h')
 | rise x v n=>exact Eq.trans h (Eq.symm h')
 | row is=>exact Eq.trans h (Eq.symm h')
 | again k j=>exact Eq.trans h (Eq.symm h')
theorem eqvB(xs:List Str):PyData.eqv (.list (xs.map PyData.str)) (.list [])=decide (xs=[]):=by
 cases xs<;>simp[PyData.eqv,PyData.eqvAll]
theorem shpB{xs:List Str}(h:∀x∈xs,Ws.isW x=true):SeqAt.shaped (.list (xs.map PyData.str))=true:=(Shp.lst (n:=0) (zy h)).ok (by decide)
theorem inB(n:Str)(a:List Str):(if false=true then !inV (.str n) (a.map V.str)else inV (.str n) (a.map V.str))=decide (n∈a):=by rw[vd (by decide),KR]
theorem za{nm:List Str}{j:Nat}(h:j<nm.length):atI (nm.map V.str) ((j:Nat):Int)=some (.str (nm.getD j ⟨#[]⟩)):=by
 refine L2.jW ?_;rw[vv,vy,vz h];rfl
structure NmB(nl ml:Addr)(mas:List Addr)(L nm:List Str)(Ms:List (List Str))(H:Hp):Prop where
 en:H nl=some (.lst (nm.map V.str))
 em:H ml=some (.lst (mas.map V.ref))
 am:StrsAt H mas Ms
 il:InL L Ms
 ml:Ms.length=nm.length
 n20:nm.length<=20
 l8:L.length<=8
 w:∀x∈nm,Ws.isW x=true
 lw:∀x∈L,Ws.isW x=true
theorem NmB.same{d c:Addr}{b:List Addr}{L nm:List Str}{Ms:List (List Str)}{H H':Hp}(N:NmB d c b L nm Ms H)(s:Same H H'):NmB d c b L nm Ms H':=
 ⟨s _ _ N.en,s _ _ N.em,N.am.mono fun a x h=>s _ _ h,N.il,N.ml,N.n20,N.l8,N.w,N.lw⟩
theorem NmB.mv{i h:Addr}{a:List Addr}{L nm:List Str}{Ms:List (List Str)}{H:Hp}(N:NmB i h a L nm Ms H){j:Nat}(f:j<nm.length):∃b,a[j]?=some b/\H b=some (.lst ((Ms.getD j []).map V.str))/\(Ms.getD j []).length<=8/\∀x∈Ms.getD j [],Ws.isW x=true:=by
 have e:Ms[j]?=some (Ms.getD j []):=by rw[vy,vz (by rw[N.ml];exact f)];rfl
 obtain⟨b,c,d⟩:=N.am.get e;have:=N.il.len (vm e);have:=N.l8;exact⟨b,c,d,by lia,fun x g=>N.lw x (N.il.at' j x g)⟩
def BdB(H:Hp)(bd:Addr)(b0 b1 b2 b3 b4:Int):Prop:=H bd=some (.lst [.int b0,.int b1,.int b2,.int b3,.int b4])/\1<=b0/\b0<=10^18/\1<=b1/\b1<=10^18/\1<=b2/\b2<=10^18+1/\1<=b3/\b3<=10^18/\1<=b4/\b4<=10^60
structure LmB(pl:Addr)(las:List Addr)(ls:List (Str×Int))(H:Hp):Prop where
 el:H pl=some (.lst (las.map V.ref))
 la:All2 (LimbAt H) las ls
 l1:1<=ls.length
theorem LmB.same{pl:Addr}{b:List Addr}{ls:List (Str×Int)}{H H':Hp}(N:LmB pl b ls H)(s:Same H H'):LmB pl b ls H':=⟨s _ _ N.el,N.la.mono fun a x h=>s _ _ h,N.l1⟩
theorem j1G{H:Hp}{Q:VK}(h:Q (.int (10^12)) H):rI CPow (fun i j=>.int (i^j.toNat)) (.int 10) (.int 12) H Q:=⟨10,12,rfl,rfl,⟨by decide,by decide,by decide⟩,h⟩
noncomputable def atB(n:Int)(len t:Nat):Nat:=(((len:Int)-1-(t:Int)*(1+n%3))%(len:Int)).toNat
noncomputable def nmS(n:Int)(len:Nat)(Ms:List (List Str))(ro:Bool):Nat->List Nat×List Str
 | 0=>([],[])
 | t+1=>if ro=true then(if(t:Int)<1+n/3%5 then((nmS n len Ms ro t).1++[atB n len t],(nmS n len Ms ro t).2)else nmS n len Ms ro t)
  else if Ms.getD (atB n len t) []≠[]/\((Ms.getD (atB n len t) []).filter fun s=>decide (s∈(nmS n len Ms ro t).2))=[]/\(nmS n len Ms ro t).1.length<4 then((nmS n len Ms ro t).1++[atB n len t],(nmS n len Ms ro t).2++Ms.getD (atB n len t) [])else nmS n len Ms ro t
section
variable{n:Int}{len:Nat}{Ms:List (List Str)}{ro:Bool}
theorem W4{t:Nat}(h:1<=len):atB n len t<len:=by
 unfold atB;have a:=vf ((len:Int)-1-(t:Int)*(1+n%3)) (show(len:Int)≠0 by lia);have b:=vg ((len:Int)-1-(t:Int)*(1+n%3)) (show(0:Int)<(len:Int) by lia);lia
theorem j1j(t:Nat):nmS n len Ms ro (t+1)=if ro=true then(if(t:Int)<1+n/3%5 then((nmS n len Ms ro t).1++[atB n len t],(nmS n len Ms ro t).2)else nmS n len Ms ro t)
  else if Ms.getD (atB n len t) []≠[]/\((Ms.getD (atB n len t) []).filter fun s=>decide (s∈(nmS n len Ms ro t).2))=[]/\(nmS n len Ms ro t).1.length<4 then((nmS n len Ms ro t).1++[atB n len t],(nmS n len Ms ro t).2++Ms.getD (atB n len t) [])else nmS n len Ms ro t:=rfl
theorem xD(h:1<=len):∀(t:Nat) (j:Nat),j∈(nmS n len Ms ro t).1->j<len
 | 0,j,hj=>nomatch hj
 | t+1,j,hj=>by
  have a:=xD h t j;unfold nmS at hj;split at hj
  ·split at hj
   ·rcases vi.mp hj with z | z
    ·exact a z
    ·rw[vo.mp z];exact W4 h
   ·exact a hj
  ·split at hj
   ·rcases vi.mp hj with z | z
    ·exact a z
    ·rw[vo.mp z];exact W4 h
   ·exact a hj
theorem j1k(b:∀j,(Ms.getD j []).length<=8):∀t:Nat,(nmS n len Ms ro t).2.length<=8*(nmS n len Ms ro t).1.length
 | 0=>vc _
 | t+1=>by
  have a:=j1k b t;have c:=b (atB n len t);unfold nmS;split
  ·split
   ·rw[vn];show(nmS n len Ms ro t).2.length<=8*(_+1);lia
   ·exact a
  ·split
   ·rw[vn,vn];show _<=8*(_+1);lia
   ·exact a
theorem Yu:∀t:Nat,(nmS n len Ms ro t).1.length<=t/\(nmS n len Ms ro t).1.length<=5
 | 0=>⟨vc _,vb _⟩
 | t+1=>by
  obtain⟨a,b⟩:=Yu t;have d:=vg (n/3) (show(0:Int)<5 by decide);unfold nmS;split
  ·split
   ·rename_i c;rw[vn];exact⟨by show _+1<=_;lia,by show _+1<=5;lia⟩
   ·lia
  ·split
   ·rename_i c;rw[vn];have:=c.2.2;exact⟨by show _+1<=_;lia,by show _+1<=5;lia⟩
   ·lia
theorem j1i(a:ro=true):∀t:Nat,0<t->(nmS n len Ms ro t).1≠[]
 | 0,h=>ug h (by lia)
 | t+1,_=>by
  have b:=vf (n/3) (show(5:Int)≠0 by decide);unfold nmS;rw[ve a];split
  ·intro z;have:=congrArg List.length z;rw[vn]at this;simp at this
  ·rename_i c;exact j1i a t (by lia)
theorem j1h(k:ro=false):∀t:Nat,ApartS Ms (nmS n len Ms ro t).1/\∀s,s∈(nmS n len Ms ro t).2↔∃j∈(nmS n len Ms ro t).1,s∈Ms.getD j []
 | 0=>⟨⟨(fun j h=>nomatch h),.nil⟩,fun s=>⟨(fun h=>nomatch h),fun⟨j,h,_⟩=>nomatch h⟩⟩
 | t+1=>by
  obtain⟨g,i⟩:=j1h k t;unfold nmS;rw[vd (by rw[k];exact vE)];split
  ·rename_i c;obtain⟨l,m,_⟩:=c;refine⟨⟨fun j e=>?_,List.pairwise_append.mpr ⟨g.2,pairwise_singleton ..,fun a o b p s d f=>?_⟩⟩,fun s=>?_⟩
   ·rcases vi.mp e with z | z
    ·exact g.1 j z
    ·rw[vo.mp z];exact l
   ·rw[vo.mp p]at f;have:s∈(Ms.getD (atB n len t) []).filter fun s=>decide (s∈(nmS n len Ms ro t).2):=mem_filter.mpr ⟨f,vF ((i s).mpr ⟨a,o,d⟩)⟩
    rw[m]at this;cases this
   ·rw[vi,i];constructor
    ·rintro(⟨j,e,d⟩ | d)
     ·exact⟨j,mem_append_left _ e,d⟩
     ·exact⟨_,mem_append_right _ vq,d⟩
    ·rintro⟨j,e,d⟩;rcases vi.mp e with z | z
     ·exact .inl ⟨j,z,d⟩
     ·rw[vo.mp z]at d;exact .inr d
  ·exact⟨g,i⟩
end
inductive sp_namedB(vs:List V)(H:Hp)(Q:VK)(xk:XK):Prop
 | mk (n:Int) (nl ml:Addr) (mas:List Addr) (L nm:List Str) (Ms:List (List Str)) (kd:Str) (_:vs=[.int n,.ref nl,.ref ml,.str kd]) (_:NmB nl ml mas L nm Ms H) (_:1<=nm.length) (_:0<=n) (_:n<=10^40) (_:(kd = "row"\/kd = "side")) (_:∀(b:Addr) (H':Hp),Same H H'->H' b=some (.tup (((nmS n nm.length Ms (decide (kd = "row")) nm.length).1.map fun j=>nm.getD j ⟨#[]⟩).map V.str))->Q (.ref b) H'):sp_namedB vs H Q xk
theorem Js{x y m:Int}(a:0<=y)(b:y<10^30+57):0<=(tkB x y m).2.2/\(tkB x y m).2.2<10^30+57:=by
 unfold tkB;split
 ·exact⟨a,b⟩
 ·exact yu _ _
def Off(p:Addr)(H0 H:Hp):Prop:=∀c u,H0 c=some u->c≠p/\H c=some u
theorem Off.ex{p:Addr}{a H H':Hp}(o:Off p a H)(x:Ex p H H'):Off p a H':=fun c u h=>⟨(o c u h).1,x c u (o c u h).1 (o c u h).2⟩
theorem Off.same{p:Addr}{a H:Hp}(o:Off p a H):Same a H:=fun c u h=>(o c u h).2
theorem XO:∀p,p<3->(decide ((List.range 50).map (wdB p)).Nodup&&((List.range 50).map (wdB p)).all fun x=>Ws.isW x)=true:=by decide +kernel
theorem XQ{p i j:Nat}(d:p<3)(hi:i<50)(c:j<50)(e:wdB p i=wdB p j):i=j:=by
 have h:=XO p d;rw[Bool.and_eq_true,decide_eq_true_eq]at h;have a:((List.range 50).map (wdB p))[i]?=some (wdB p i):=by rw[vv,List.getElem?_range hi];rfl
 have b:((List.range 50).map (wdB p))[j]?=some (wdB p i):=by rw[vv,List.getElem?_range c,e];rfl
 have f:=Ja h.1 a;have g:=Ja h.1 b;lia
theorem j36{p i:Nat}(a:p<3)(hi:i<50):Ws.isW (wdB p i)=true:=by
 have h:=XO p a;rw[Bool.and_eq_true,all_eq_true]at h;exact h.2 _ (vJ.mpr ⟨i,vZ.mpr hi,rfl⟩)
noncomputable def lmB(p m:Nat):List Str:=(List.range m).map (wdB p)
theorem j16{p m j:Nat}(h:j<m):(lmB p m)[j]?=some (wdB p j):=by unfold lmB;rw[vv,List.getElem?_range h];rfl
theorem Wp{p m:Nat}:lmB p (m+1)=lmB p m++[wdB p m]:=by unfold lmB;rw[range_succ,vk];rfl
theorem j17{p m:Nat}(c:p<3)(j:m<=9):(lmB p m).Nodup/\∀x∈lmB p m,Ws.isW x=true:=by
 unfold lmB;refine⟨pairwise_map.mpr (List.nodup_range.imp_of_mem fun {a b} d f n e=>n (XQ c (by have:=vZ.mp d;lia) (by have:=vZ.mp f;lia) e)),fun x h=>?_⟩
 ·obtain⟨i,g,rfl⟩:=vJ.mp h;have:=vZ.mp g;exact j36 c (by lia)
noncomputable def ixB(st c m k:Nat):Nat:=if k=c then k%m else st+k
noncomputable def nmB(p st c m:Nat):List Str:=(List.range 17).map fun k=>wdB p (ixB st c m k)
theorem Xy{p st c m:Nat}:(nmB p st c m).length=17:=by unfold nmB;rw[vt,length_range]
theorem Xx{p st c m k:Nat}(h:k<17):(nmB p st c m).getD k ⟨#[]⟩=wdB p (ixB st c m k):=by
 unfold nmB;rw[vy,vv,List.getElem?_range h];rfl
theorem j1g{p st c m:Nat}(f:p<3)(q:1<=m)(r:m<=st)(h:st<=9):(nmB p st c m).Nodup/\∀x∈nmB p st c m,Ws.isW x=true:=by
 have b:∀k,k<17->ixB st c m k<50:=fun k o=>by
  unfold ixB;have:=Nat.mod_lt k (show 0<m by lia);split<;>lia
 unfold nmB;refine⟨pairwise_map.mpr (List.nodup_range.imp_of_mem fun {x y} a d n e=>?_),fun x a=>?_⟩
 ·have a:=vZ.mp a;have d:=vZ.mp d;have:=XQ f (b x a) (b y d) e;unfold ixB at this;have j:=Nat.mod_lt x (show 0<m by lia);have l:=Nat.mod_lt y (show 0<m by lia);refine n ?_;split at this<;>split at this<;>lia
 ·obtain⟨i,g,rfl⟩:=vJ.mp a;exact j36 f (b i (vZ.mp g))
theorem We{names:List Str}{fs:List Fn}{f:Fn}:drawnPs names (fs++[f])=drawnPs names fs++[(names.getD fs.length ⟨#[]⟩,toldF names f)]:=by
 unfold drawnPs;rw[vn,length_singleton,range_succ,vk];congr 1
 ·refine map_congr_left fun j a=>?_
  rw[Qb (vZ.mp a)]
 ·rw[v6,Q1];rfl
theorem kx{L:List Str}{M:List (List Int)}{names:List Str}{n:Nat}{f:Fn}(h:PreN L M n f):toldF (names.take n) f=toldF names f:=by
 have g:∀j,j<n->(names.take n).getD j ⟨#[]⟩=names.getD j ⟨#[]⟩:=fun j a=>by
  rw[vy,vy,uu a]
 have b:=h.js.2;cases f with
 | row is=>exact congrArg Fm.row (map_congr_left fun j a=>g j (b j a))
 | side is=>exact congrArg Fm.side (map_congr_left fun j a=>g j (b j a))
 | again k j=>exact congrArg (Fm.again k) (g j (b j vq))
 | hold n=>rfl
 | ring x n=>rfl
 | rise x v n=>rfl
theorem j11{nm:List Str}{gs:List Int}{x:Str}{g:Int}(h:nm.length=gs.length):knK (nm++[x]) (gs++[g])=knK nm gs++[(Sum.inr x,.int g)]:=by
 unfold knK;rw[List.zip_append h,vk];rfl
theorem Xr{nm:List Str}{gs:List Int}{x:Str}{g:Int}(h:nm.length=gs.length)(n:x∉nm):putK (knK nm gs) (Sum.inr x) (.int g)=knK (nm++[x]) (gs++[g]):=by
 rw[j11 h,ka];rw[Q2 h];intro z;obtain⟨y,a,e⟩:=vJ.mp z;exact n (Sum.inr.inj e▸a)
theorem Xq{nm:List Str}{gs:List Int}(h:nm.length=gs.length):(knK nm gs).length=nm.length:=by
 unfold knK;rw[vt,length_zip];lia
structure BkB(pl nl ml d pp:Addr)(las pas mas:List Addr)(ls:List (Str×Int))(names:List Str)(fs:List Fn)(Ms:List (List Str))(gs:List Int)(b4:Int)(H:Hp):Prop where
 n:NmB nl ml mas (nmsOf ls) (names.take fs.length) Ms H
 l:LmB pl las ls H
 ed:H d=some (.dK (knK (names.take fs.length) gs))
 ep:H pp=some (.lst (pas.map V.ref))
 pa:All2 (PartAt H) pas (drawnPs names fs)
 dk:DOk (nmsOf ls) fs (Ms.map (plB (nmsOf ls))) gs
 gb:∀j,j<fs.length->gs.getD j 0<=b4
 fl:fs.length<=names.length
theorem BkB.same{pl g f d i:Addr}{b e c:List Addr}{ls:List (Str×Int)}{names:List Str}{fs:List Fn}{Ms:List (List Str)}{gs:List Int}{b4:Int}{H H':Hp}(B:BkB pl g f d i b e c ls names fs Ms gs b4 H)(s:Same H H'):BkB pl g f d i b e c ls names fs Ms gs b4 H':=
 ⟨B.n.same s,B.l.same s,s _ _ B.ed,s _ _ B.ep,B.pa.mono fun a x h=>PartAt.same s h,B.dk,B.gb,B.fl⟩
structure SpB(pl nl ml pp bd:Addr)(mas:List Addr):Prop where
 ln:pl≠nl
 lm:pl≠ml
 lp:pl≠pp
 nm:nl≠ml
 np:nl≠pp
 mp:ml≠pp
 bn:bd≠nl
 bm:bd≠ml
 bp:bd≠pp
 ma:∀a∈mas,a≠nl/\a≠ml/\a≠pp
theorem SpB.add{pl d c e f l:Addr}{b:List Addr}(S:SpB pl d c e f b)(h:l≠d/\l≠c/\l≠e):SpB pl d c e f (b++[l]):=
 ⟨S.ln,S.lm,S.lp,S.nm,S.np,S.mp,S.bn,S.bm,S.bp,fun a g=>by
  rcases vi.mp g with z | z
  ·exact S.ma a z
  ·rw[vo.mp z];exact h⟩
theorem BkB.add{pl o n d p K fa l c:Addr}{r i b:List Addr}{ls:List (Str×Int)}{names:List Str}{fs:List Fn}{Ms:List (List Str)}{gs:List Int}{b4 g:Int}{f:Fn}{ks:List Str}{H H':Hp}(B:BkB pl o n d p r i b ls names fs Ms gs b4 H)(S:SpB pl o n p K b)
  (W:FormAt H fa (toldF names f)) (m:PreN (nmsOf ls) (Ms.map (plB (nmsOf ls))) fs.length f) (I:MovS Ms f ks) (G:LenN gs f g) (P:g<=b4) (J:b4<=10^60) (fn:fs.length<names.length) (a0:fs.length<20) (nw:∀x∈names,Ws.isW x=true)
  (k:∀x u,x≠n->x≠o->x≠p->x≠d->H x=some u->H' x=some u) (t:H' n=some (.lst ((b++[l]).map V.ref))) (O:H' l=some (.lst (ks.map V.str))) (v:H' o=some (.lst ((names.take (fs.length+1)).map V.str)))
  (w:H' p=some (.lst ((i++[c]).map V.ref))) (L:H' c=some (.tup [.str (names.getD fs.length ⟨#[]⟩),.ref fa])) (M:H' d=some (.dK (knK (names.take (fs.length+1)) (gs++[g])))) :
  BkB pl o n d p r (i++[c]) (b++[l]) ls names (fs++[f]) (Ms++[ks]) (gs++[g]) b4 H':=by
 have N:=B.n;have E:∀c q,H c=some (.tup q)->H' c=some (.tup q):=fun c q h=>k c _ (Jl h N.em fun z=>by cases z) (Jl h N.en fun z=>by cases z) (Jl h B.ep fun z=>by cases z) (Jl h B.ed fun z=>by cases z) h
 have F:∀{c q},c≠n->c≠o->c≠p->H c=some (.lst q)->H' c=some (.lst q):=fun R T U h=>k _ _ R T U (Jl h B.ed fun z=>by cases z) h
 have s:(fs++[f]).length=fs.length+1:=by rw[vn];rfl
 have D:=B.dk;have Z:=I.inL N.il m;have Q:=j2B m G fun j A=>(D.g j A).1
 have gl:=D.gl;refine⟨⟨?_,t,?_,?_,?_,?_,N.l8,fun x Y=>nw x (v8 Y),N.lw⟩,⟨F S.lm S.ln S.lp B.l.el,B.l.la.mono fun a x h=>E _ _ h,B.l.l1⟩,?_,w,?_,?_,fun j A=>?_,by lia⟩
 ·rw[s];exact v
 ·refine All2.snoc ?_ O;exact All2.monoM N.am fun a y ks h=>F (S.ma a y).2.1 (S.ma a y).1 (S.ma a y).2.2 h
 ·intro C X;rcases vi.mp X with z | z
  ·exact N.il C z
  ·rw[vo.mp z];exact Z
 ·have:=N.ml;rw[vj]at this|-;rw[vn,s];show _+1=_;lia
 ·rw[vj];lia
 ·rw[s];exact M
 ·rw[We];exact All2.snoc (B.pa.mono fun a x h=>PartAt.keep E h) ⟨fa,L,FormAt.keep E W⟩
 ·rw[vk];exact D.addN m I.n G ⟨Q,by lia⟩
 ·rw[s]at A;by_cases z:j<fs.length
  ·rw[Qb (by lia)];exact B.gb j z
  ·have e:j=gs.length:=by lia
   subst e;rw[Q1];exact P
theorem BkB.book{b pl i h d f:Addr}{a c e:List Addr}{ls:List (Str×Int)}{names:List Str}{fs:List Fn}{Ms:List (List Str)}{gs:List Int}{b4:Int}{H:Hp}(B:BkB pl i h d f a c e ls names fs Ms gs b4 H)(g:H b=some (.tup [.ref pl,.ref f])):BookAt H b pl f a c ls (drawnPs names fs):=⟨g,B.l.el,B.l.la,B.ep,B.pa⟩
noncomputable def lastS(gs:List Int)(most:Int)(n:Nat):Nat->List Nat×Int
 | 0=>([],0)
 | t+1=>if((lastS gs most n t).1.length:Int)<5/\(lastS gs most n t).2+gs.getD (n-1-t) 0<=most then((lastS gs most n t).1++[n-1-t],(lastS gs most n t).2+gs.getD (n-1-t) 0)else lastS gs most n t
theorem xu{gs:List Int}{most:Int}{n:Nat}(t:Nat):lastS gs most n (t+1)=if((lastS gs most n t).1.length:Int)<5/\(lastS gs most n t).2+gs.getD (n-1-t) 0<=most then((lastS gs most n t).1++[n-1-t],(lastS gs most n t).2+gs.getD (n-1-t) 0)else lastS gs most n t:=rfl
noncomputable def lastF(gs:List Int)(most:Int)(n:Nat):List Nat:=(lastS gs most n n).1
noncomputable def addW(a:List Str)(s:Str):List Str:=if s∈a then a else a++[s]
noncomputable def addS(Ms:List (List Str))(a:List Str)(j:Nat):List Str:=(Ms.getD j []).foldl addW a
noncomputable def movF(Ms:List (List Str)):Fn->List Str
 | .rise x _ _=>[x]
 | f=>f.js.foldl (addS Ms) []
noncomputable def lenF(gs:List Int):Fn->Int
 | .hold n=>n
 | .ring _ n=>n
 | .rise _ _ n=>n
 | .row is=>(is.map fun j=>gs.getD j 0).sum
 | .side is=>(is.map fun j=>gs.getD j 0).foldl (fun a b=>if a<b then b else a) 0
 | .again k j=>k*gs.getD j 0
theorem Ww:∀(l:List Int) (a:Int),(a<=l.foldl (fun a b=>if a<b then b else a) a)/\(∀x∈l,x<=l.foldl (fun a b=>if a<b then b else a) a)/\(l.foldl (fun a b=>if a<b then b else a) a=a\/l.foldl (fun a b=>if a<b then b else a) a∈l)
 | [],a=>⟨va _,(fun x h=>nomatch h),.inl rfl⟩
 | b::l,a=>by
  obtain⟨f,g,d⟩:=Ww l (if a<b then b else a);rw[v4];refine⟨?_,fun x e=>?_,?_⟩
  ·split at f<;>split<;>lia
  ·rcases mem_cons.mp e with rfl | e
   ·split at f<;>split<;>lia
   ·exact g x e
  ·rcases d with d | d
   ·rw[d];by_cases c:a<b
    ·rw[ve c];exact .inr vq
    ·rw[vd c];exact .inl rfl
   ·exact .inr (vp _ d)
theorem LenN.fn{gs:List Int}{L:List Str}{M:List (List Int)}{n:Nat}{f:Fn}{g:Int}(p:PreN L M n f)(b:∀j,j<n->1<=gs.getD j 0)(h:LenN gs f g):g=lenF gs f:=by
 cases f with
 | side is=>
  obtain⟨⟨j,l,e⟩,m⟩:=h;obtain⟨_,_,s,_⟩:=p;obtain⟨t,r,c⟩:=Ww (is.map fun j=>gs.getD j 0) 0;have a:=r _ (vJ.mpr ⟨j,l,rfl⟩);show g=(is.map fun j=>gs.getD j 0).foldl (fun a b=>if a<b then b else a) 0;rcases c with c | c
  ·have:=b j (s j l);rw[c]at a;have q:gs.getD j 0<=0:=a;lia
  ·obtain⟨o,d,i⟩:=vJ.mp c;have u:=m o d;have i:gs.getD o 0=_:=i;have q:gs.getD j 0<=_:=a;lia
 | hold n=>exact h
 | ring x n=>exact h
 | rise x v n=>exact h
 | row is=>exact h
 | again k j=>exact h
inductive sp_lastG(vs:List V)(H:Hp)(Q:VK)(xk:XK):Prop
 | mk (nl d:Addr) (nm:List Str) (gs:List Int) (most:Int) (_:vs=[.ref nl,.ref d,.int most]) (_:H nl=some (.lst (nm.map V.str))) (_:H d=some (.dK (knK nm gs))) (_:nm.Nodup) (_:nm.length=gs.length) (_:1<=nm.length) (_:nm.length<=20) (_:(∀j,j<nm.length->1<=gs.getD j 0/\gs.getD j 0<=most)) (_:∀(b:Addr) (H':Hp),Same H H'->H' b=some (.tup (((lastF gs most nm.length).map fun j=>nm.getD j ⟨#[]⟩).map V.str))->lastF gs most nm.length≠[]->(lastF gs most nm.length).length<=5->(∀j∈lastF gs most nm.length,j<nm.length)->Q (.ref b) H'):sp_lastG vs H Q xk
inductive sp_movesG(vs:List V)(H:Hp)(Q:VK)(xk:XK):Prop
 | mk (fa nl ml:Addr) (mas:List Addr) (f:Fn) (nm:List Str) (Ms:List (List Str)) (L:List Str) (M:List (List Int)) (_:vs=[.ref fa,.ref nl,.ref ml]) (_:FormAt H fa (toldF nm f)) (_:H nl=some (.lst (nm.map V.str))) (_:H ml=some (.lst (mas.map V.ref))) (_:StrsAt H mas Ms) (_:nm.Nodup) (_:Ms.length=nm.length) (_:nm.length<=20) (_:PreN L M nm.length f) (_:(∀ks∈Ms,ks.length<=8)) (_:∀(l:Addr) (H':Hp),Same H H'->H l=none->H' l=some (.lst ((movF Ms f).map V.str))->MovS Ms f (movF Ms f)->(movF Ms f).length<=80->Q (.ref l) H'):sp_movesG vs H Q xk
noncomputable def wdF(xs:List Str)(k:Int):Str:=xs.getD k.toNat ⟨#[]⟩
theorem j24{xs:List Str}{k:Int}(h:∀x∈xs,Ws.isW x=true)(b:0<=k)(k1:k<(xs.length:Int)):atI (xs.map V.str) k=some (.str (wdF xs k))/\Ws.isW (wdF xs k)=true:=by
 obtain⟨j,rfl⟩:∃j:Nat,k=(j:Int):=⟨k.toNat,by lia⟩
 have a:j<xs.length:=by lia
 have e:wdF xs (j:Int)=xs[j]:=by unfold wdF;rw[Int.toNat_natCast,vy,vz a];rfl
 rw[e];exact⟨L2.jW (by rw[vv,vz a];rfl),h _ (getElem_mem a)⟩
theorem at01F{b0 b1 b2 b3 b4 i:Int}(a:1<=b0/\b0<=10^18)(b:1<=b1/\b1<=10^18)(c:0<=i)(d:i<2):atI [V.int b0,V.int b1,V.int b2,V.int b3,V.int b4] i=some (V.int (if i=0 then b0 else b1))/\1<=(if i=0 then b0 else b1)/\(if i=0 then b0 else b1)<=10^18:=by
 have:i=0\/i=1:=by lia
 rcases this with rfl | rfl
 ·exact⟨rfl,a⟩
 ·exact⟨rfl,b⟩
noncomputable def kkF(n:Int)(nm:List Str):Int:=if nm=[]/\4<n%8 then n/16%5 else n%8
noncomputable def beF(n b0 b1:Int):Int:=1+n/10^12%(if n/8%2=0 then b0 else b1)
noncomputable def formF(n:Int)(nm:List Str)(Ms:List (List Str))(ls:List (Str×Int))(b0 b1 b2 b3:Int):Fn:=
 if kkF n nm<3 then .rise (ls.getD (n/100%(ls.length:Int)).toNat (⟨#[]⟩,0)).1 (n/100/10%b2) (beF n b0 b1)
 else if kkF n nm=4 then .ring (wdF (([("ding" : Str),"dong"]:List Str)++nm.take 1++[("din" : Str)]) (n/100%3)) (beF n b0 b1)
 else if kkF n nm=5 then .row (nmS (n/100) nm.length Ms true nm.length).1
 else if kkF n nm=6/\1<(nmS (n/100) nm.length Ms false nm.length).1.length then .side (nmS (n/100) nm.length Ms false nm.length).1
 else if kkF n nm=7 then .again (1+n/10^12%b3) ((nm.length:Int)-1-n/100%(if(nm.length:Int)<3 then(nm.length:Int)else 3)).toNat
 else .hold (beF n b0 b1)
inductive sp_formG(vs:List V)(H:Hp)(Q:VK)(xk:XK):Prop
 | mk (n:Int) (nl ml pl bd:Addr) (mas las:List Addr) (ls:List (Str×Int)) (nm:List Str) (Ms:List (List Str)) (b0 b1 b2 b3 b4:Int) (_:vs=[.int n,.ref nl,.ref ml,.ref pl,.ref bd]) (_:NmB nl ml mas (nmsOf ls) nm Ms H) (_:LmB pl las ls H) (_:BdB H bd b0 b1 b2 b3 b4) (_:0<=n) (_:n<=10^40) (_:∀(a:Addr) (H':Hp),Same H H'->FormAt H' a (toldF nm (formF n nm Ms ls b0 b1 b2 b3))->PreN (nmsOf ls) (Ms.map (plB (nmsOf ls))) nm.length (formF n nm Ms ls b0 b1 b2 b3)->Q (.ref a) H'):sp_formG vs H Q xk
noncomputable def rowT(n:Int):Nat->Int->Int->List Nat×Int×Int
 | 0,x,y=>([],x,y)
 | t+1,x,y=>((rowT n t x y).1++[(tkB (rowT n t x y).2.1 (rowT n t x y).2.2 n).1.toNat],(tkB (rowT n t x y).2.1 (rowT n t x y).2.2 n).2)
noncomputable def sidT(n:Int)(Ms:List (List Str)):Nat->Int->Int->List Nat×List Str×Int×Int
 | 0,x,y=>([],[],x,y)
 | t+1,x,y=>if Ms.getD (tkB (sidT n Ms t x y).2.2.1 (sidT n Ms t x y).2.2.2 n).1.toNat []≠[]/\((Ms.getD (tkB (sidT n Ms t x y).2.2.1 (sidT n Ms t x y).2.2.2 n).1.toNat []).filter fun s=>decide (s∈(sidT n Ms t x y).2.1))=[]then
   ((sidT n Ms t x y).1++[(tkB (sidT n Ms t x y).2.2.1 (sidT n Ms t x y).2.2.2 n).1.toNat],(sidT n Ms t x y).2.1++Ms.getD (tkB (sidT n Ms t x y).2.2.1 (sidT n Ms t x y).2.2.2 n).1.toNat [],(tkB (sidT n Ms t x y).2.2.1 (sidT n Ms t x y).2.2.2 n).2)
  else((sidT n Ms t x y).1,(sidT n Ms t x y).2.1,(tkB (sidT n Ms t x y).2.2.1 (sidT n Ms t x y).2.2.2 n).2)
noncomputable def namF(x y kd:Int)(n:Nat)(Ms:List (List Str))(b0 b3:Int):Fn:=
 if kd=7 then .again (1+(tkB x y b3).1) (tkB (tkB x y b3).2.1 (tkB x y b3).2.2 (n:Int)).1.toNat
 else if kd=5 then .row (rowT (n:Int) (1+(tkB x y 5).1).toNat (tkB x y 5).2.1 (tkB x y 5).2.2).1
 else if(sidT (n:Int) Ms (2+(tkB x y 3).1).toNat (tkB x y 3).2.1 (tkB x y 3).2.2).1.length<2 then .hold (1+(tkB (sidT (n:Int) Ms (2+(tkB x y 3).1).toNat (tkB x y 3).2.1 (tkB x y 3).2.2).2.2.1 (sidT (n:Int) Ms (2+(tkB x y 3).1).toNat (tkB x y 3).2.1 (tkB x y 3).2.2).2.2.2 b0).1)
 else .side (sidT (n:Int) Ms (2+(tkB x y 3).1).toNat (tkB x y 3).2.1 (tkB x y 3).2.2).1
inductive sp_namingG(vs:List V)(H:Hp)(Q:VK)(xk:XK):Prop
 | mk (p nl ml bd:Addr) (x y kd:Int) (H0:Hp) (mas:List Addr) (L nm:List Str) (Ms:List (List Str)) (b0 b1 b2 b3 b4:Int) (_:vs=[.ref p,.int kd,.ref nl,.ref ml,.ref bd]) (_:H p=some (.lst [.int x,.int y])) (_:0<=y) (_:y<10^30+57) (_:Off p H0 H) (_:NmB nl ml mas L nm Ms H0) (_:1<=nm.length) (_:BdB H0 bd b0 b1 b2 b3 b4) (_:∀(a:Addr) (H':Hp),Ex p H H'->FormAt H' a (toldF nm (namF x y kd nm.length Ms b0 b3))->PreN L (Ms.map (plB L)) nm.length (namF x y kd nm.length Ms b0 b3)->Q (.ref a) H'):sp_namingG vs H Q xk
noncomputable def frmT(x y:Int)(nm:List Str)(Ms:List (List Str))(ls:List (Str×Int))(b0 b1 b2 b3:Int):Fn:=
 let T:=tkB x y 8
 let T2:=tkB T.2.1 T.2.2 2
 let T3:=tkB T2.2.1 T2.2.2 (if T2.1=0 then b0 else b1)
 let T4:=tkB T3.2.1 T3.2.2 (ls.length:Int)
 let T5:=tkB T4.2.1 T4.2.2 b2
 let T6:=tkB T3.2.1 T3.2.2 ((([("ding" : Str),"dong","din"]:List Str)++nm.take 1).length:Nat)
 if 4<T.1/\nm≠[]then namF T.2.1 T.2.2 T.1 nm.length Ms b0 b3
 else if T.1<3 then .rise (ls.getD T4.1.toNat (⟨#[]⟩,0)).1 T5.1 (1+T3.1)
 else if T.1=4 then .ring (wdF (([("ding" : Str),"dong","din"]:List Str)++nm.take 1) T6.1) (1+T3.1)
 else .hold (1+T3.1)
inductive sp_formTG(vs:List V)(H:Hp)(Q:VK)(xk:XK):Prop
 | mk (p nl ml pl bd:Addr) (x y:Int) (H0:Hp) (mas las:List Addr) (ls:List (Str×Int)) (nm:List Str) (Ms:List (List Str)) (b0 b1 b2 b3 b4:Int) (_:vs=[.ref p,.ref nl,.ref ml,.ref pl,.ref bd]) (_:H p=some (.lst [.int x,.int y])) (_:0<=y) (_:y<10^30+57) (_:Off p H0 H) (_:NmB nl ml mas (nmsOf ls) nm Ms H0) (_:LmB pl las ls H0) (_:BdB H0 bd b0 b1 b2 b3 b4) (_:∀(a:Addr) (H':Hp),Ex p H H'->FormAt H' a (toldF nm (frmT x y nm Ms ls b0 b1 b2 b3))->PreN (nmsOf ls) (Ms.map (plB (nmsOf ls))) nm.length (frmT x y nm Ms ls b0 b1 b2 b3)->Q (.ref a) H'):sp_formTG vs H Q xk
theorem j2F{Ms:List (List Str)}{f:Fn}(a:∀b c d,f≠.rise b c d):movF Ms f=f.js.foldl (addS Ms) []:=by
 cases f with
 | rise x h n=>exact ug rfl (a x h n)
 | hold n=>rfl
 | ring x n=>rfl
 | row is=>rfl
 | side is=>rfl
 | again k j=>rfl
theorem j0g{n:Int}{t:Nat}{x y:Int}:rowT n (t+1) x y=((rowT n t x y).1++[(tkB (rowT n t x y).2.1 (rowT n t x y).2.2 n).1.toNat],(tkB (rowT n t x y).2.1 (rowT n t x y).2.2 n).2):=rfl
theorem j0q{n:Int}{Ms:List (List Str)}{t:Nat}{x y:Int}:sidT n Ms (t+1) x y=if Ms.getD (tkB (sidT n Ms t x y).2.2.1 (sidT n Ms t x y).2.2.2 n).1.toNat []≠[]/\((Ms.getD (tkB (sidT n Ms t x y).2.2.1 (sidT n Ms t x y).2.2.2 n).1.toNat []).filter fun s=>decide (s∈(sidT n Ms t x y).2.1))=[]then
   ((sidT n Ms t x y).1++[(tkB (sidT n Ms t x y).2.2.1 (sidT n Ms t x y).2.2.2 n).1.toNat],(sidT n Ms t x y).2.1++Ms.getD (tkB (sidT n Ms t x y).2.2.1 (sidT n Ms t x y).2.2.2 n).1.toNat [],(tkB (sidT n Ms t x y).2.2.1 (sidT n Ms t x y).2.2.2 n).2)
  else((sidT n Ms t x y).1,(sidT n Ms t x y).2.1,(tkB (sidT n Ms t x y).2.2.1 (sidT n Ms t x y).2.2.2 n).2):=rfl
noncomputable abbrev BS:=List Fn×List (List Str)×List Int
noncomputable def cutF(b4:Int)(gs:List Int)(f:Fn):Fn:=if b4<lenF gs f then .hold 1 else f
noncomputable def putS(S:BS)(f:Fn):BS:=(S.1++[f],S.2.1++[movF S.2.1 f],S.2.2++[lenF S.2.2 f])
noncomputable def lstF(e:Bool)(b4:Int)(gs:List Int)(i:Nat)(f:Fn):Fn:=if e=true then .row (lastF gs b4 i)else f
noncomputable def numN(ns:List Int)(i:Nat):Int:=mixB (mixB (Pr.cell ns (1+(0+(i:Int)))) (1+(0+(i:Int)))) (91+(0+(i:Int)))
noncomputable def stN(ns:List Int)(many:Nat)(hd:Int)(ls:List (Str×Int))(names:List Str)(b0 b1 b2 b3 b4:Int):Nat->BS
 | 0=>([],[],[])
 | i+1=>putS (stN ns many hd ls names b0 b1 b2 b3 b4 i) (cutF b4 (stN ns many hd ls names b0 b1 b2 b3 b4 i).2.2 (lstF (decide (i=many/\hd/12%2=0)) b4 (stN ns many hd ls names b0 b1 b2 b3 b4 i).2.2 i
   (formF (numN ns i) (names.take i) (stN ns many hd ls names b0 b1 b2 b3 b4 i).2.1 ls b0 b1 b2 b3)))
theorem WS{ns:List Int}{many:Nat}{hd:Int}{ls:List (Str×Int)}{names:List Str}{b0 b1 b2 b3 b4:Int}(i:Nat):stN ns many hd ls names b0 b1 b2 b3 b4 (i+1)=putS (stN ns many hd ls names b0 b1 b2 b3 b4 i) (cutF b4 (stN ns many hd ls names b0 b1 b2 b3 b4 i).2.2 (lstF (decide (i=many/\hd/12%2=0)) b4 (stN ns many hd ls names b0 b1 b2 b3 b4 i).2.2 i
   (formF (numN ns i) (names.take i) (stN ns many hd ls names b0 b1 b2 b3 b4 i).2.1 ls b0 b1 b2 b3))):=rfl
noncomputable def wB(k:Nat):Int:=([100,1000,10000,100000]:List Int).getD k 100
noncomputable def lsN(hd b2:Int)(m:Nat):List (Str×Int):=(List.range m).map fun k=>(wdB (hd%3).toNat k,hd/wB k%b2)
theorem j18{hd b2:Int}{m:Nat}:lsN hd b2 (m+1)=lsN hd b2 m++[(wdB (hd%3).toNat m,hd/wB m%b2)]:=by unfold lsN;rw[range_succ,vk];rfl
noncomputable def ccN(hd:Int)(many:Nat):Nat:=if hd/24%2=0 then(hd/48%((many:Int)+1)).toNat else 100
theorem j2g{hd:Int}{many i:Nat}(a:many<=16)(h:i<=many):i=ccN hd many↔((i:Int)=hd/48%((many:Int)+1)/\hd/24%2=0):=by
 have b:=vf (hd/48) (show((many:Int)+1)≠0 by lia);have d:=vg (hd/48) (show(0:Int)<(many:Int)+1 by lia);unfold ccN;by_cases c:hd/24%2=0
 ·rw[ve c];lia
 ·rw[vd c];lia
noncomputable def hdN(ns:List Int):Int:=mixB (mixB (Pr.cell ns 0) 0) 90
noncomputable def bkN(ns:List Int)(many:Nat)(b0 b1 b2 b3 b4:Int):List (Str×Int)×List Str×List Fn:=
 (lsN (hdN ns) b2 (1+hdN ns/3%4).toNat,nmB (hdN ns%3).toNat 5 (ccN (hdN ns) many) (1+hdN ns/3%4).toNat,(stN ns many (hdN ns) (lsN (hdN ns) b2 (1+hdN ns/3%4).toNat) (nmB (hdN ns%3).toNat 5 (ccN (hdN ns) many) (1+hdN ns/3%4).toNat) b0 b1 b2 b3 b4 (many+1)).1)
noncomputable def abI(x:Int):Int:=if x<0 then -x else x
noncomputable def celT(ns:List Int)(i:Nat):Int:=abI (Pr.cell ns (1+(0+(i:Int))))
noncomputable def stT(ns:List Int)(many:Nat)(en:Int)(ls:List (Str×Int))(names:List Str)(b0 b1 b2 b3 b4:Int):Nat->BS
 | 0=>([],[],[])
 | i+1=>putS (stT ns many en ls names b0 b1 b2 b3 b4 i) (cutF b4 (stT ns many en ls names b0 b1 b2 b3 b4 i).2.2 (lstF (decide (i=many/\en=1)) b4 (stT ns many en ls names b0 b1 b2 b3 b4 i).2.2 i
   (frmT (if celT ns i<10^18 then 0 else celT ns i) (mixB (celT ns i) (1+(0+(i:Int)))) (names.take i) (stT ns many en ls names b0 b1 b2 b3 b4 i).2.1 ls b0 b1 b2 b3)))
theorem WT{ns:List Int}{many:Nat}{en:Int}{ls:List (Str×Int)}{names:List Str}{b0 b1 b2 b3 b4:Int}(i:Nat):stT ns many en ls names b0 b1 b2 b3 b4 (i+1)=putS (stT ns many en ls names b0 b1 b2 b3 b4 i) (cutF b4 (stT ns many en ls names b0 b1 b2 b3 b4 i).2.2 (lstF (decide (i=many/\en=1)) b4 (stT ns many en ls names b0 b1 b2 b3 b4 i).2.2 i
   (frmT (if celT ns i<10^18 then 0 else celT ns i) (mixB (celT ns i) (1+(0+(i:Int)))) (names.take i) (stT ns many en ls names b0 b1 b2 b3 b4 i).2.1 ls b0 b1 b2 b3))):=rfl
noncomputable def lsT(p:Nat)(b2:Int):Nat->Int->Int->List (Str×Int)×Int×Int
 | 0,x,y=>([],x,y)
 | k+1,x,y=>((lsT p b2 k x y).1++[(wdB p k,(tkB (lsT p b2 k x y).2.1 (lsT p b2 k x y).2.2 b2).1)],(tkB (lsT p b2 k x y).2.1 (lsT p b2 k x y).2.2 b2).2)
theorem j19{p:Nat}{b2:Int}{k:Nat}{x y:Int}:lsT p b2 (k+1) x y=((lsT p b2 k x y).1++[(wdB p k,(tkB (lsT p b2 k x y).2.1 (lsT p b2 k x y).2.2 b2).1)],(tkB (lsT p b2 k x y).2.1 (lsT p b2 k x y).2.2 b2).2):=rfl
noncomputable def t1T(ns:List Int):Int×Int×Int:=tkB (abI (Pr.cell ns 0)/2) 7 3
noncomputable def t2T(ns:List Int)(lm:Int):Int×Int×Int:=tkB (t1T ns).2.1 (t1T ns).2.2 lm
noncomputable def lT(ns:List Int)(lm b2:Int):List (Str×Int)×Int×Int:=lsT (t1T ns).1.toNat b2 (1+(t2T ns lm).1).toNat (t2T ns lm).2.1 (t2T ns lm).2.2
noncomputable def t3T(ns:List Int)(lm b2:Int)(many:Nat):Int×Int×Int:=tkB (lT ns lm b2).2.1 (lT ns lm b2).2.2 (2*(many:Int)+2)
noncomputable def t4T(ns:List Int)(lm b2:Int)(many:Nat):Int×Int×Int:=tkB (t3T ns lm b2 many).2.1 (t3T ns lm b2 many).2.2 2
noncomputable def bkT(ns:List Int)(many:Nat)(b0 b1 b2 b3 b4:Int):List (Str×Int)×List Str×List Fn:=
 ((lT ns 4 b2).1,nmB (t1T ns).1.toNat 5 (t3T ns 4 b2 many).1.toNat (lT ns 4 b2).1.length,(stT ns many (t4T ns 4 b2 many).1 (lT ns 4 b2).1 (nmB (t1T ns).1.toNat 5 (t3T ns 4 b2 many).1.toNat (lT ns 4 b2).1.length) b0 b1 b2 b3 b4 (many+1)).1)
noncomputable def bkF(ns:List Int)(many:Nat)(b0 b1 b2 b3 b4:Int):List (Str×Int)×List Str×List Fn:=if 10^18<=abI (Pr.cell ns 0)then bkT ns many b0 b1 b2 b3 b4 else bkN ns many b0 b1 b2 b3 b4
def yE(F:List Int->Nat->Int->Int->Int->Int->Int->List (Str×Int)×List Str×List Fn)(K:Frg):Sp:=fun vs H Q _=>∃(a bd:Addr) (ns:List Int) (many:Nat) (b0 b1 b2 b3 b4:Int),vs=[.ref a,.int (many:Nat),.ref bd]/\SqL K H a (ns.map V.int)/\ns.length<=63/\2<=many/\many<=16/\BdB H bd b0 b1 b2 b3 b4/\
 ∀(r b pl pp:Addr) (las pas:List Addr) (names:List Str) (ls:List (Str×Int)) (fs:List Fn) (M:List (List Int)) (gs:List Int) (H':Hp),Same H H'->H' r=some (.tup [.ref b,.int (gs.getD (fs.length-1) 0)])->BookAt H' b pl pp las pas ls (drawnPs names fs)->DOk (nmsOf ls) fs M gs->Sn ls (drawnPs names fs) gs M->
  fs.length=many+1->names.length=17->names.Nodup->(∀x∈names,Ws.isW x=true)->1<=ls.length->ls.length<=8->(nmsOf ls).Nodup->(∀x∈nmsOf ls,Ws.isW x=true)->pl≠pp->(∀j,j<fs.length->gs.getD j 0<=b4)->F ns many b0 b1 b2 b3 b4=(ls,names,fs)->Q (.ref r) H'
end Rm
namespace L2
open PySem PySem.Spec PySem.W PyProof.Rows
theorem j3W{P:Program}{w:World}{k:Key}{u:Value}(h:(mixKind P w).is k u=true):RelV (kV k) u:=by
 cases k with
 | inl i=>obtain⟨t,rfl⟩:=Value.isInt_shape (k:=i) h;exact⟨t,rfl⟩
 | inr z=>obtain⟨t,rfl⟩:=Value.isStrOf_shape (x:=z) h;exact⟨t,rfl⟩
section
variable{X:Cx}
end
section
variable{X:Cx}{pins:List (Addr×Obj)}{σ:St}{H:Hp}{s:Shared}{tg:Expr}
theorem Inv.freeze{a:Addr}{kvs:List (Key×V)}(I:Inv X pins σ H s)(e:H a=some (.dK kvs)):∃o,Inv X pins σ (upd H a (.frz o (.dK kvs))) s:=by
 obtain⟨z,l,t,r,o,k,j,i,g⟩:=(show ObjOk X.prog X.w H s.heap a (.dK kvs)from I.hok a _ e)
 have f:∀b u,H b=some u->u≠.dK kvs->b≠a:=fun b u q d z=>by subst z;rw[e]at q;exact d (vK q).symm
 refine⟨o,I.step (h':=s.heap) (g':=s.gens) (d':=s.drawn) (t':=s.toks) (ch:=[]) (fun b h=>nomatch h) (fun b o _ _ _ e _=>e) (fun b o _ _ _ e _=>⟨o.slots,e⟩) (fun b u _ _ n=>(jh fun z=>by subst z;rw[e]at n;cases n).trans n) (fun b u _ e=>⟨u,e⟩)
  (fun b x q=>(jh (f _ _ q fun z=>nomatch z)).trans q) (fun b u v q=>(jh (f _ _ q fun z=>nomatch z)).trans q) (fun b w q=>⟨#[],by rw[jh (f _ _ q fun z=>nomatch z),q];simp⟩) (fun m p=>p) (fun b u q=>?_) I.bare⟩
 by_cases h:b=a
 ·subst h;rw[jC]at q;cases q;exact⟨i,z,l,t,r,o,k,j,i,g⟩
 ·rw[jh h]at q;exact(I.hok b u q).stay (fun c v _ q=>q) (fun c q=>(jh (f _ _ q fun z=>nomatch z)).trans q) fun c y q=>(jh (f _ _ q fun z=>nomatch z)).trans q
def Frz(as:List Addr)(H H':Hp):Prop:=(∀b,b∉as->H' b=H b)/\∀b∈as,∀kvs,H b=some (.dK kvs)->∃o,H' b=some (.frz o (.dK kvs))
theorem Inv.freezeAll:∀(as:List Addr) {H:Hp},Inv X pins σ H s->as.Nodup->(∀b∈as,∃kvs,H b=some (.dK kvs))->∃H',Inv X pins σ H' s/\Frz as H H'
 | [],H,I,_,_=>⟨H,I,fun _ _=>rfl,fun b c=>nomatch c⟩
 | a::as,H,I,nd,h=>by
  rw[ut]at nd;obtain⟨kvs,e⟩:=h a vq;obtain⟨o,g⟩:=I.freeze e;have f:∀b∈as,b≠a:=fun b c z=>nd.1 (by rw[<-z];exact c)
  obtain⟨H',i,d,j⟩:=Inv.freezeAll as g nd.2 fun b c=>by
   obtain⟨k,q⟩:=h b (vp _ c);exact⟨k,(jh (f b c)).trans q⟩
  refine⟨H',i,fun b c=>?_,fun b c k q=>?_⟩
  ·rw[d b fun z=>c (vp _ z),jh fun z=>c (by rw[z];exact vq)]
  ·rcases mem_cons.mp c with rfl | c
   ·rw[e]at q;cases q;exact⟨o,(d b nd.1).trans jC⟩
   ·exact j b c k ((jh (f b c)).trans q)
def tFrz(te:TE):TE:=fun σ H Q=>te σ H fun v H1=>∃as:List Addr,as.Nodup/\(∀b∈as,∃kvs,H1 b=some (.dK kvs))/\∀H2,Frz as H1 H2->Q v H2
theorem xG{e:Expr}{c:TE}(h:PE X e c):PE X e (tFrz c):=by
 intro a s n H Q I q;refine thn (h a s n H _ I q) fun v p ⟨x,o,d,m,g,k,j,l⟩=>?_
 obtain⟨b,f,i⟩:=d.freezeAll g k j;exact⟨x,b,f,m,l b i⟩
def Itk(a:Addr)(o:Obj)(kvs:List (Key×V)):It:=
 ⟨fun i H=>H a=some (.frz o (.dK kvs))/\i<kvs.length,fun i H x H'=>H'=H/\∃q,kvs[i]?=some q/\x=kV q.1,fun i H=>H a=some (.frz o (.dK kvs))/\kvs.length<=i⟩
theorem YY{a:Addr}{o:Obj}{kvs:List (Key×V)}(I:Inv X pins σ H s)(e:H a=some (.frz o (.dK kvs))){d:Array DictEntry}{ep:Nat}(hd:o.data = .dict d ep):kvs.length<=sizeLine/\(a==sysModules)=false/\∃vs,KV kvs vs/\s.heap.DictAt (mixKind X.prog X.w) a vs ep:=by
 obtain⟨f,z,k,vs,r,l,j,i,b,g,c,h⟩:=(show ObjOk X.prog X.w H s.heap a (.frz o (.dK kvs))from I.hok a _ e)
 rw[f]at b;cases b;rw[hd]at c;cases c;exact⟨z,k,vs,r,o,d,f,g,hd,h⟩
theorem j0v{P:Program}{w:World}{K:Frg}{tg:Expr}(a it:Addr)(o:Obj)(kvs:List (Key×V))(U:Array DictEntry)(ep:Nat)(hd:o.data = .dict U ep):Turn P w K tg (Itk a o kvs) [it] it (fun i h=>h.IsKeyIter it a i kvs.length ep) where
 mem:=by simp
 obj:=fun i h f b j=>by
  have e:b=it:=by simpa using j
  subst e;obtain⟨o,e,c,d⟩:=f;exact⟨o,e,fun v z=>by rw[d]at z;cases z⟩
 keep:=fun i h n f k=>f.at fun o e=>k it (by simp) o e
 item:=by
  intro X D J C M i g s O H E I p f F;subst D J C;obtain⟨G,q⟩:=F;obtain⟨z,Y,vs,l,r⟩:=YY I G hd;have N:=vz q;obtain⟨y,R,S,_⟩:=l.get N;obtain⟨t,u,W,x,A,B⟩:=p it (by simp);rw[l.length]at f;refine wpAny_pyNext_dict_item f r (k:=y.1) (v:=y.2) R fun L n Z m sb=>?_
  have Q:Inv X g O H {s with heap:=n}:=I.turned (t':=s.toks) (fun b o j e=>(sb.2 b j).trans e) t u x A B;refine⟨L,rfl,letGo_keyiter (s':={s with heap:=n}) m ⟨kV kvs[i].1,H,Q,by rw[S];exact j3W Z,⟨rfl,_,N,rfl⟩,by rw[l.length];exact m,fun b j=>(p b j).1⟩⟩
 done:=by
  intro X D J C M i g s O H E I p f F;subst D J C;obtain⟨G,q⟩:=F;obtain⟨z,Y,vs,l,r⟩:=YY I G hd;obtain⟨t,u,W,x,A,B⟩:=p it (by simp);rw[l.length]at f q;exact wpAny_pyNext_dict_end (I.ok.hd M) f r (vR q) fun n T=>⟨rfl,I.turned (t':=s.toks) (fun b o j e=>T b o j e) t u x A B⟩
 self:=fun _ _ _ _ _ f h=>wpAny_pyIter_keyiter f h
def iDict(tl:TE):TI:=fun σ H R=>tl σ H fun x H1=>∃a o kvs,x = .ref a/\H1 a=some (.frz o (.dK kvs))/\R (Itk a o kvs) H1
theorem j2T{l:Expr}{n:TE}(y:PE X l n):PI X tg l (iDict n):=by
 intro g s E H R I h;refine thn (y g s E H _ I h) fun v i ⟨x,j,c,C,B⟩=>?_
 obtain⟨a,o,f,e,m,q⟩:=B;subst e;cases C;obtain⟨A,_,_,_,_,F,t,r,d,_,k,_⟩:=(show ObjOk X.prog X.w j i.heap a (.frz o (.dK f))from c.hok a _ m)
 rw[A]at d;cases d;obtain⟨z,u,G,D,p⟩:=YY c m k;refine wpAny_pyIter_dict u p ?_;rw[<-D.length];refine⟨i.heap.objs.size,[i.heap.objs.size],_,_,j,rfl,c.kept (t':=i.toks) fun b o e=>vI _ e,j0v a _ o f t r k,⟨_,Heap.get?_push_size _ rfl,rfl,rfl⟩,fun b w=>?_,q⟩;have e:b=i.heap.objs.size:=by simpa using w
 subst e;exact c.fpOk (vc _) (c.hok.fresh (vc _))
end
theorem j0S{a:Addr}{o:Obj}{kvs:List (Key×V)}{g:TG}{j:TS}{D:Ends}{b:St}{H:Hp}(c:Nat->St->Hp->Prop)(l:c 0 b H)(r:∀i b H,i<=kvs.length->c i b H->H a=some (.frz o (.dK kvs)))
  (s:∀i q b H,kvs[i]?=some q->c i b H->g (kV q.1) b H fun d H2=>j {D with nx:=c (i+1),ct:=c (i+1),bk:=D.nx} d H2) (hd:∀b H,c kvs.length b H->D.nx b H) :
  ∃W:Nat->Nat->St->Hp->Prop,(∃m,W 0 m b H)/\∀i m b H,W i m b H->
   ((Itk a o kvs).stop i H/\D.nx b H)\/((Itk a o kvs).go i H/\∃N:St->Hp->Prop,(∀σ' H',N σ' H'->∃h,h<m/\W (i+1) h σ' H')/\∀x H',(Itk a o kvs).yld i H x H'->g x b H' fun d H2=>j {D with nx:=N,ct:=N,bk:=D.nx} d H2):=by
 refine⟨fun i m b H=>m=kvs.length-i/\i<=kvs.length/\c i b H,⟨kvs.length,by simp,vb _,l⟩,?_⟩;rintro i m b H ⟨rfl,n,p⟩;have q:=r i b H n p;by_cases f:i<kvs.length
 ·refine .inr ⟨⟨q,f⟩,c (i+1),fun σ' H' t=>⟨kvs.length-(i+1),by lia,rfl,f,t⟩,fun x H' y=>?_⟩;obtain⟨e,k,y,rfl⟩:=y;subst e;exact s i k b _ y p
 ·have e:i=kvs.length:=by lia
  subst e;exact .inl ⟨⟨q,vc _⟩,hd b H p⟩
section
variable{σ:St}{H:Hp}{Q:VK}
theorem xN{a:TE}(h:a σ H fun v H1=>∃as:List Addr,as.Nodup/\(∀b∈as,∃kvs,H1 b=some (.dK kvs))/\∀H2,Frz as H1 H2->Q v H2):tFrz a σ H Q:=h
theorem j1F{b:TE}{R:It->Hp->Prop}(h:b σ H fun x H1=>∃a o kvs,x = .ref a/\H1 a=some (.frz o (.dK kvs))/\R (Itk a o kvs) H1):iDict b σ H R:=h
end
section
variable{prog:Program}{w:World}{A:Around}{E:Value->Shared->Prop}{s:Shared}
end
noncomputable def swK(p:Str×V):Key×V:=(Sum.inr p.1,p.2)
theorem pairsW{h:Heap}:∀{as:List Addr} {kvs:List (Str×V)},as.length=kvs.length->(∀(i:Nat) (a:Addr) (q:Str×V),as[i]?=some a->kvs[i]?=some q->∃t u,RelV q.2 u/\IsTup h a #[.str q.1 t,u])->
  ∃ps:List (Key×Value),KV (kvs.map swK) ps/\ps.length=kvs.length/\∀(j:Nat) (kv:Key×Value),ps[j]?=some kv->∃a key,as[j]?=some a/\IsTup h a #[key,kv.2]/\keyIs kv.1 key=true
 | [],[],_,_=>⟨[],.nil,rfl,fun j kv e=>by simp at e⟩
 | [],_::_,l,_=>by simp at l
 | _::_,[],l,_=>by simp at l
 | a::as,q::kvs,l,f=>by
  obtain⟨ps,o,p,r⟩:=pairsW (as:=as) (kvs:=kvs) (by simpa using l) fun i a q m n=>f (i+1) a q (by simpa using m) (by simpa using n)
  obtain⟨t,u,v,e⟩:=f 0 a q rfl rfl;refine⟨(Sum.inr q.1,u)::ps,.cons ⟨rfl,v⟩ o,by rw[vO,p,vO],fun j kv c=>?_⟩;cases j with
  | zero=>simp at c;subst c;exact⟨a,_,rfl,e,Km _ _⟩
  | succ j=>obtain⟨b,s,d,g,k⟩:=r j kv (by simpa using c);exact⟨b,s,by simpa using d,g,k⟩
section
variable{X:Cx}
theorem YO(G:X.calm=true):CallR X (.type "dict") (fun xs H Q=>∃(p:Addr) (as:List Addr) (kvs:List (Str×V)),xs=[.ref p]/\H p=some (.lst (as.map V.ref))/\as.length=kvs.length/\
  (∀(i:Nat) (a:Addr) (q:Str×V),as[i]?=some a->kvs[i]?=some q->H a=some (.tup [.str q.1,q.2]))/\∀d,H d=none->Q (.ref d) (upd H d (.dK (mergeK [] (kvs.map swK))))):=by
 intro M s σ H xs us Q I r h;obtain⟨p,as,kvs,rfl,Z,B,ht,q⟩:=h;obtain⟨u,rfl,ru⟩:=vals1 r;cases ru;obtain⟨z,D,n,rv,lv,e⟩:=I.lstM Z;have W:=ZG rv;subst W;rw[vt]at z;have J:p<s.heap.objs.size:=vH e;obtain⟨ps,kp,N,pt⟩:=pairsW (h:=s.heap) B fun i a q S U=>by
  obtain⟨_,D,r',t'⟩:=I.hok a _ (ht i a q S U);cases r' with
  | cons ra rr=>
   cases rr with
   | cons rb rr=>
    cases rr;obtain⟨t1,rfl⟩:=ra;exact⟨t1,_,rb,t'⟩
 refine callType_codes (Q₁:=fun t g=>t = .ref s.heap.objs.size/\g={s with heap:=s.heap.push {cls:=.type "dict",data:=.dict #[]}}) PySem.F.kt_called_dict (PySem.F.kt_typeCall_dict_1 (.ref p)) PySem.F.entry_dict_init (kt_code_dict_new (.ref p) ⟨rfl,rfl⟩) ?_;rintro t g ⟨rfl,rfl⟩;have c:(s.heap.push {cls:=.type "dict",data:=.dict #[]}).DictOf (mixKind X.prog X.w) s.heap.objs.size []:=Heap.DictOf.new s.heap;have v:∀b o,s.heap.get? b=some o->(s.heap.push {cls:=.type "dict",data:=.dict #[]}).get? b=some o:=fun b o e=>vI _ e
 generalize s.heap.push {cls:=.type "dict",data:=.dict #[]}=h0 at c v;refine⟨c.typeIs (s:={s with heap:=h0}),PySem.F.args_dict_init_2 _ _,?_⟩;unfold Builtin.«dict.__init__»;refine uk ?_;unfold Builtin.Dict.selfAndRest;refine uk (wpAny_notOrdered_dict (c.typeIs (s:={s with heap:=h0})) ?_);show wpAny (model X.prog X.w) _ (pure (s.heap.objs.size,[Value.ref p])) _ _ _;refine uh ?_;show wpAny (model X.prog X.w) _ (Builtin.Dict.updateFrom "dict.__init__" s.heap.objs.size (.ref p) [] .none) _ _ _;unfold Builtin.Dict.updateFrom;refine uk (wpAny_typeOf (T:="list") ⟨_,v _ _ e,rfl⟩ ?_);rw[ve (by decide)];refine uk (noKeys (s:={s with heap:=h0}) (v _ _ e) rfl rfl rfl (I.ok.hd G) fun m tk K=>?_);rw[ve (show(none:Option Value).isNone=true from rfl)];have f:∀b o,s.heap.get? b=some o->m.get? b=some o:=fun b o e=>K b o (v b o e)
 have k:m.DictOf (mixKind X.prog X.w) s.heap.objs.size []:=c.keep K;have w:s.heap.objs.size<m.objs.size:=by obtain⟨_,_,_,hg,_⟩:=k;exact vH hg
 have lp:p<m.objs.size:=vX J w;refine uk (wpAny_rule ?_);refine uk (wpAny_pyIter_list (l:=p) (items:=(as.map Value.ref).toArray) ⟨_,f _ _ e,rfl,n,rfl⟩ ?_);refine uh ⟨plainId_quiet zw _,?_⟩;refine dul (knd:=mixKind X.prog X.w) (A:=X.A.in1) (d:=s.heap.objs.size) (it:=m.objs.size) (l:=p) (items:=as.map Value.ref) (res:=.none) (I.ok.hd G) (vD w) (vM J) (vM lp) ps 0 [] _
  ⟨_,Heap.get?_push_size _ rfl,rfl,rfl⟩ ⟨_,vI _ (f _ _ e),rfl,n,rfl⟩ (by rw[vt,B,N,Nat.zero_add]) (fun j kv Y=>?_) (k.push _) (by rw[length_nil,N,<-B,Nat.zero_add];exact z) fun h2 E k2 x=>?_
 ·obtain⟨a,ky,O,⟨o,F,P⟩,R⟩:=pt j kv Y;have L:a<s.heap.objs.size:=vH F;exact⟨a,ky,by rw[Nat.zero_add,vv,O];rfl,⟨o,vI _ (f _ _ F),P⟩,R,vD L,vD (vX L w)⟩
 ·refine⟨rfl,.ref s.heap.objs.size,upd H s.heap.objs.size (.dK (mergeK [] (kvs.map swK))),I.laid (t':=E) (fun b o y=>k2 b o (vD (vH y)) (vD (vX (vH y) w)) (vI _ (f _ _ y))) (vc _) ?_,rfl,q _ (I.hok.fresh (vc _))⟩;have hm:=Qq (kvs.map swK) [];rw[length_nil,vt]at hm;have C:(s.heap.objs.size==sysModules)=false:=by
   rw[beq_eq_false_iff_ne];exact vM I.big
  exact YT (by lia) C (kp.merge .nil) x
end
section
variable{X:Cx}
theorem YM:CallR X (.type "dict") (fun xs H Q=>∃(p:Addr) (kvs:List (Key×V)),xs=[.ref p]/\(H p=some (.dK kvs)\/∃o,H p=some (.frz o (.dK kvs)))/\∀d,H d=none->Q (.ref d) (upd H d (.dK kvs))):=by
 intro f s w H xs t Q I r h;obtain⟨p,kvs,rfl,j,q⟩:=h;obtain⟨u,rfl,m⟩:=vals1 r;cases m;obtain⟨z,k,v,g,i⟩:=Xh I.hok j;refine kt_call_dict (knd:=mixKind X.prog X.w) k i (by rw[<-g.length];exact z) fun n a l=>?_
 have c:(s.heap.objs.size==sysModules)=false:=by
  rw[beq_eq_false_iff_ne];exact vM I.big
 refine⟨.ref s.heap.objs.size,upd H s.heap.objs.size (.dK kvs),I.laid (t':=s.toks) (fun b o e=>(l.2 b (vD (vH e))).trans (vI _ e)) (vc _) (YT z c g a),rfl,q _ (I.hok.fresh (vc _))⟩
end
open PySem PySem.Spec PyProof.Rows
section
variable{X:Cx}{tg:Expr}
def iBoth(K:Frg)(tl:TE):TI:=fun σ H R=>tl σ H fun x H1=>∃a,x = .ref a/\((∃xs,SqL K H1 a xs)/\R (Itl K a) H1\/(∃xs,SqT K H1 a xs)/\R (Itt K a) H1)
theorem WK{K:Frg}{b:TE}{c:St}{H:Hp}{R:It->Hp->Prop}(h:b c H fun x H1=>∃a,x = .ref a/\((∃xs,SqL K H1 a xs)/\R (Itl K a) H1\/(∃xs,SqT K H1 a xs)/\R (Itt K a) H1)):iBoth K b c H R:=h
theorem j2S{l:Expr}{n:TE}(r:PE X l n):PI X tg l (iBoth X.K n):=by
 intro g s z H R I h;refine thn (r g s z H _ I h) fun v c ⟨x,k,d,m,u⟩=>?_
 obtain⟨a,e,⟨⟨y,j⟩,q⟩ | ⟨⟨y,j⟩,q⟩⟩:=u
 ·subst e;cases m;obtain⟨f,w,p,t⟩:=d.list j;refine wpAny_pyIter_list p.isList ?_;refine⟨c.heap.objs.size,[c.heap.objs.size],_,_,k,rfl,d.kept (t':=c.toks) fun b o e=>vI _ e,Ku a _,⟨_,Heap.get?_push_size _ rfl,rfl,rfl⟩,fun b i=>?_,q⟩;have e:b=c.heap.objs.size:=by simpa using i
  subst e;exact d.fpOk (vc _) (d.hok.fresh (vc _))
 ·subst e;cases m;obtain⟨f,w,p,t⟩:=d.tuple j;refine wpAny_pyIter_tuple (show c.heap.IsTuple a f.toArray from p) ?_;refine⟨c.heap.objs.size,[c.heap.objs.size],_,_,k,rfl,d.kept (t':=c.toks) fun b o e=>vI _ e,kz a _,⟨_,Heap.get?_push_size _ rfl,rfl,rfl⟩,fun b i=>?_,q⟩;have e:b=c.heap.objs.size:=by simpa using i
  subst e;exact d.fpOk (vc _) (d.hok.fresh (vc _))
end
end L2
namespace Rm
open PySem PySem.Spec PyProof.Rows L2
section
variable{L:List Str}{fs:List Fn}{M:List (List Int)}{gs:List Int}{names:List Str}{n:Nat}{E:List (List (Int×Int))}
theorem Qr{j:Nat}{h:List Int}:plN L names fs gs E j (gs.getD j 0) h=setE (E.getD j []) h:=by
 unfold plN;rw[qE (.inl (va _))];show apN L fs gs E h (j,gs.getD j 0)=_;unfold apN;rw[ve (va _)]
theorem ZE{j:Nat}(a:1<=gs.getD j 0):rgN names fs gs j (gs.getD j 0)=[]:=by
 unfold rgN;rw[qE (.inl (va _)),flatMap_cons,flatMap_nil,append_nil];unfold ringX;split
 ·rw[vd (show¬gs.getD j 0=0 by lia)]
 ·rfl
theorem QR(D:DOk L fs M gs)(b:fs.length<=names.length)(d:names.Nodup){k:Nat}{f:Fn}(a:fs[k]?=some f):pcB (drawnPs names fs) gs k=pcsI gs (toldF names f) f.js:=by
 have js:=(D.f k f a).1.js.2;have e:=(vx.mp a).1;unfold pcB;rw[q0 a];show pcsI _ _ _=_;rw[yi b d fun j c=>by have:=js j c;lia]
theorem yY{t:Int}:∀{is:List Nat} {b:Int} {i:Nat},(∀k∈is,1<=gs.getD k 0/\gs.getD k 0<=10^60)->b+((is.take i).map fun j=>gs.getD j 0).sum<=t->wth gs t (rowPc gs is b)=((is.take i).map fun j=>(j,gs.getD j 0))++wth gs t (rowPc gs (is.drop i) (b+((is.take i).map fun j=>gs.getD j 0).sum))
 | [],b,i,_,h=>by simp[rowPc,zZ]
 | j::r,b,0,_,h=>by
  show _=[]++wth gs t (rowPc gs (j::r) (b+0));rw[uz,nil_append]
 | j::r,b,i+1,hg,h=>by
  have g:=hg j vq;have d:∀l:List Nat,(∀k∈l,1<=gs.getD k 0)->0<=(l.map fun j=>gs.getD j 0).sum:=fun l=>by
   induction l with
   | nil=>intro _;exact va _
   | cons x l ih=>
    intro c;rw[v6,v7];have:=ih fun k a=>c k (vp _ a)
    have:=c x vq;lia
  have e:=d (r.take i) fun k a=>(hg k (vp _ (v8 a))).1
  rw[List.take_succ_cons,v6,v7]at h;rw[kf hg (by lia),ve (by lia),List.take_succ_cons,v6,v6,v7,List.drop_succ_cons,yY (is:=r) (i:=i) (fun k a=>hg k (vp _ a)) (by lia),cons_append,Int.add_assoc]
theorem wV{j:Nat}{k t:Int}(p:1<=gs.getD j 0)(k1:1<=k)(a:0<=t)(r:t<=k*gs.getD j 0) :
  (t/gs.getD j 0=0/\wth gs t ((j,1,0)::(if 1<k then[(j,k-1,gs.getD j 0)]else[]))=[(j,t%gs.getD j 0)])\/
  (1<=t/gs.getD j 0/\t/gs.getD j 0<k/\∃z,(z=[]\/z=[(j,gs.getD j 0)])/\wth gs t ((j,1,0)::(if 1<k then[(j,k-1,gs.getD j 0)]else[]))=(j,gs.getD j 0)::z++[(j,t%gs.getD j 0)])\/
  (t/gs.getD j 0=k/\∃z,(z=[]\/z=[(j,gs.getD j 0)])/\wth gs t ((j,1,0)::(if 1<k then[(j,k-1,gs.getD j 0)]else[]))=(j,gs.getD j 0)::z):=by
 rw[QK,wM p a,Int.sub_zero];generalize b:gs.getD j 0=g at *;have u:=Int.emod_add_mul_ediv t g;have v:=vf t (show g≠0 by lia);have w:=vg t (show 0<g by lia);have s:t/g<=k:=by
  have:=Int.ediv_le_ediv (show 0<g by lia) r;rw[Int.mul_ediv_cancel _ (show g≠0 by lia)]at this;exact this
 have m:(t-g)/g=t/g-1:=by
  have:=Int.add_mul_ediv_right t (-1) (show g≠0 by lia);have e:t + -1*g=t-g:=by lia
  rw[e]at this;lia
 by_cases c:g<=t
 case neg=>
  have i:t/g=0:=Int.ediv_eq_zero_of_lt a (by lia);have q:t%g=t:=Int.emod_eq_of_lt a (by lia);refine .inl ⟨i,?_⟩;rw[vd c,q];split
  ·rw[QK,zZ,XR (show t<g by lia)];rfl
  ·rw[zZ];rfl
 have l:1<=t/g:=by
  have:=Int.ediv_le_ediv (show 0<g by lia) c;rw[Int.ediv_self (show g≠0 by lia)]at this;exact this
 rw[ve c];have n:ov gs t (j,k-1,g)=t/g-1:=by
  unfold ov;show(if k-1<(t-g)/gs.getD j 0 then k-1 else(t-g)/gs.getD j 0)=_;rw[b,m];split<;>lia
 have o:t-g-(t/g-1)*g=t%g:=by
  have:(t/g-1)*g=g*(t/g)-g:=by rw[Int.sub_mul,Int.one_mul,Int.mul_comm]
  lia
 by_cases f:1<k
 ·rw[ve f,QK,zZ,append_nil,XS (show g<=t from c),n];show _\/(_/\_/\∃z,_/\[(j,g)]++((if 0<t/g-1 then[(j,gs.getD j 0)]else[])++(if t/g-1<k-1 then[(j,t-g-(t/g-1)*gs.getD j 0)]else[]))=_)\/(_/\∃z,_/\[(j,g)]++((if 0<t/g-1 then[(j,gs.getD j 0)]else[])++(if t/g-1<k-1 then[(j,t-g-(t/g-1)*gs.getD j 0)]else[]))=_);rw[b,o];have d:(if 0<t/g-1 then[(j,g)]else[])=[]\/(if 0<t/g-1 then[(j,g)]else[])=[(j,g)]:=by split<;>simp
  by_cases h:t/g=k
  ·refine .inr (.inr ⟨h,_,d,?_⟩);rw[vd (show¬t/g-1<k-1 by lia),append_nil];rfl
  ·refine .inr (.inl ⟨l,by lia,_,d,?_⟩);rw[ve (show t/g-1<k-1 by lia)];rfl
 ·rw[vd f,zZ];exact .inr (.inr ⟨by lia,[],.inl rfl,rfl⟩)
noncomputable def Fn.comp:Fn->Prop
 | .row _=>True
 | .side _=>True
 | .again _ _=>True
 | _=>False
theorem yR{js:List Nat}{h:List Int}:(js.map fun j=>(j,gs.getD j 0)).foldl (fun h x=>plN L names fs gs E x.1 x.2 h) h=js.foldl (fun h j=>setE (E.getD j []) h) h:=by
 rw[List.foldl_map];exact Kg fun j _ h=>Qr
theorem Yq:∀{js:List Nat},(∀j∈js,1<=gs.getD j 0)->((js.map fun j=>(j,gs.getD j 0)).flatMap fun x=>rgN names fs gs x.1 x.2)=[]
 | [],_=>rfl
 | j::r,h=>by
  rw[v6,flatMap_cons,Yq fun k a=>h k (vp _ a)];show rgN names fs gs j (gs.getD j 0)++[]=[]
  rw[ZE (h j vq)];rfl
theorem KO(D:DOk L fs M gs)(s:fs.length<=names.length)(I:names.Nodup)(p:L.Nodup)(l8:L.length<=8)(y:fs.length<=61)(e:EN L fs n E)(H:n<=fs.length){k:Nat}(R:k<n){f:Fn}(A:fs[k]?=some f)(o:f.comp){t:Int}(K:0<=t)(t1:t<=gs.getD k 0)(h:List Int) :
  plN L names fs gs E k t h=(wsN names fs gs k t).foldl (fun h x=>plN L names fs gs E x.1 x.2 h) h/\rgN names fs gs k t=(wsN names fs gs k t).flatMap fun x=>rgN names fs gs x.1 x.2:=by
 have G:nmsOf (L.map fun x=>(x,(0:Int)))=L:=by
  unfold nmsOf;rw[v3];exact map_id _
 have W:WfB (L.map fun x=>(x,(0:Int))) (drawnPs names fs):=DOk.wf (by rw[G];exact D) s I (by rw[G];exact p) (by rw[vt];exact l8) y;obtain⟨u,Y,l⟩:=D.f k f A;have js:=u.js.2;have d:∀j∈f.js,1<=gs.getD j 0/\gs.getD j 0<=10^60:=fun j b=>D.g j (by have:=js j b;lia)
 have q:=QR D s I A;have X:∀x v m,f≠.rise x v m:=fun x v m h=>by rw[h]at o;exact o
 by_cases c:gs.getD k 0<=t
 case neg=>
  have U:pcB (drawnPs names fs) gs k≠[]:=by
   rw[q];cases f with
   | row is=>
    obtain⟨a,_⟩:=u;cases is with
    | nil=>exact ug rfl a
    | cons j r=>exact cons_ne_nil _ _
   | side is=>
    obtain⟨a,_⟩:=u;cases is with
    | nil=>exact ug a (by decide)
    | cons j r=>exact cons_ne_nil _ _
   | again m j=>exact cons_ne_nil _ _
   | hold m=>exact o.elim
   | ring x m=>exact o.elim
   | rise x v m=>exact o.elim
  have N:=zO W (t:=t) (show¬(gs.getD k 0<=t\/pcB (drawnPs names fs) gs k=[])from fun z=>z.elim c U);unfold plN rgN wsN;rw[N,YW,Ke];exact⟨rfl,rfl⟩
 have O:t=gs.getD k 0:=by lia
 subst O;have lhs:=Qr (L:=L) (names:=names) (fs:=fs) (gs:=gs) (E:=E) (j:=k) (h:=h);have rhs:rgN names fs gs k (gs.getD k 0)=[]:=ZE (D.g k (by lia)).1;rw[lhs,rhs,e.all D p H R A X h];unfold wsN;rw[q];cases f with
 | row is=>
  have d:∀j∈is,1<=gs.getD j 0/\gs.getD j 0<=10^60:=d;have l:gs.getD k 0=(is.map fun j=>gs.getD j 0).sum:=l;have w:wth gs (gs.getD k 0) (pcsI gs (toldF names (.row is)) is)=is.map fun j=>(j,gs.getD j 0):=by
   show wth gs _ (rowPc gs is 0)=_;rw[yY (is:=is) (i:=is.length) d (by rw[v2];lia),v2,List.drop_length];show _++wth gs _ []=_;rw[zZ,append_nil]
  show _=(wth gs (gs.getD k 0) (pcsI gs (toldF names (.row is)) is)).foldl _ h/\_=(wth gs (gs.getD k 0) (pcsI gs (toldF names (.row is)) is)).flatMap _;rw[w,yR,Yq (js:=is) fun j b=>(d j b).1];exact⟨rfl,rfl⟩
 | side is=>
  have d:∀j∈is,1<=gs.getD j 0/\gs.getD j 0<=10^60:=d;obtain⟨_,l⟩:=l;have w:wth gs (gs.getD k 0) (pcsI gs (toldF names (.side is)) is)=is.map fun j=>(j,gs.getD j 0):=by
   show wth gs _ (is.map fun j=>(j,1,0))=_;rw[kq (is:=is) (fun j b=>(d j b).1) K];exact map_congr_left fun j b=>by rw[ve (l j b)]
  show _=(wth gs (gs.getD k 0) (pcsI gs (toldF names (.side is)) is)).foldl _ h/\_=(wth gs (gs.getD k 0) (pcsI gs (toldF names (.side is)) is)).flatMap _;rw[w,yR,Yq (js:=is) fun j b=>(d j b).1];exact⟨rfl,rfl⟩
 | again m j=>
  have l:gs.getD k 0=m*gs.getD j 0:=l;obtain⟨T,_,b⟩:=u;have F:=(d j vq).1;have Z:gs.getD k 0/gs.getD j 0=m:=by rw[l,Int.mul_ediv_cancel _ (show gs.getD j 0≠0 by lia)]
  obtain⟨Q,B⟩:∃g,fs[j]?=some g:=⟨_,vz (by lia)⟩
  have C:=km (e j Q (by lia) B).1 (e.pos D p H (show j<n by lia)) h;show[j].foldl _ h=(wth gs (gs.getD k 0) ((j,1,0)::(if 1<m then[(j,m-1,gs.getD j 0)]else[]))).foldl _ h/\[]=(wth gs (gs.getD k 0) ((j,1,0)::(if 1<m then[(j,m-1,gs.getD j 0)]else[]))).flatMap _;rcases wV F T K (show gs.getD k 0<=m*gs.getD j 0 by lia)with⟨z,_⟩ | ⟨_,z,_⟩ | ⟨_,z,S,P⟩
  ·lia
  ·lia
  ·rw[P];have J:rgN names fs gs j (gs.getD j 0)=[]:=ZE F;rcases S with rfl | rfl
   ·refine⟨Qr.symm,?_⟩;show[]=rgN names fs gs j (gs.getD j 0)++[];rw[J];rfl
   ·constructor
    ·show setE (E.getD j []) h=plN L names fs gs E j (gs.getD j 0) (plN L names fs gs E j (gs.getD j 0) h);rw[Qr,Qr,C]
    ·show[]=rgN names fs gs j (gs.getD j 0)++(rgN names fs gs j (gs.getD j 0)++[]);rw[J];rfl
 | hold m=>exact o.elim
 | ring x m=>exact o.elim
 | rise x v m=>exact o.elim
end
def Agr(S:List Int)(h h':List Int):Prop:=h.length=h'.length/\∀i:Nat,(i:Int)∈S->h[i]?=h'[i]?
def hB(h:List Int):Prop:=∀x∈h,0<=x/\x<=10^18
theorem hB.getD{h:List Int}(b:hB h)(i:Nat):0<=h.getD i 0/\h.getD i 0<=10^18:=by
 rw[vy];cases e:h[i]? with
 | none=>exact⟨va _,(by decide)⟩
 | some x=>exact b x (vm e)
theorem hB.set{h:List Int}(b:hB h){i:Nat}{v:Int}(a:0<=v/\v<=10^18):hB (h.set i v):=fun x c=>by
 rcases List.mem_or_eq_of_mem_set c with z | z
 ·exact b x z
 ·rw[z];exact a
theorem hB.setE:∀{es:List (Int×Int)} {h:List Int},hB h->(∀q∈es,0<=q.2/\q.2<=10^18)->hB (setE es h)
 | [],_,b,_=>b
 | q::r,h,b,e=>by
  rw[ZF];exact hB.setE (b.set (e q vq)) fun x a=>e x (vp _ a)
section
variable{L:List Str}{fs:List Fn}{M:List (List Int)}{gs:List Int}{names:List Str}{n:Nat}{E:List (List (Int×Int))}
theorem ke(D:DOk L fs M gs)(h:L.Nodup){i:Nat}{y:Str}{v m:Int}(g:fs[i]?=some (.rise y v m)):((ixOf L y:Nat):Int)∈M.getD i []/\0<=v/\v<=10^18/\1<=m/\gs.getD i 0=m:=by
 obtain⟨⟨⟨k,a⟩,b,c,d,_⟩,e,f⟩:=D.f i _ g;exact⟨(e.2 _).mpr (.inr ⟨y,v,m,k,rfl,a,by rw[Ja h a]⟩),b,c,d,f⟩
theorem EN.val(D:DOk L fs M gs)(e:EN L fs n E)(s:n<=fs.length):∀{i:Nat},i<n->∀q∈E.getD i [],0<=q.2/\q.2<=10^18:=by
 intro i
 induction i using Nat.strongRecOn with
 | ind i ih=>
  intro k q o;obtain⟨f,b⟩:∃f,fs[i]?=some f:=⟨_,vz (by lia)⟩
  obtain⟨a,_,_⟩:=D.f i f b;rcases((e i f k b).2 q.1 q.2).mp o with⟨p,j,c,g,h,_⟩ | ⟨x,m,d,r⟩
  ·have l:j∈f.js:=by rw[g];simp
   have:=a.js.2 j l;exact ih j this (by lia) _ h
  ·subst d;exact⟨a.2.1,a.2.2.1⟩
theorem W3{h:List Int}{x:Nat×Int}:(apN L fs gs E h x).length=h.length:=by
 unfold apN;split
 ·exact qa _ _
 ·split
  ·exact length_set ..
  ·rfl
theorem j3a(D:DOk L fs M gs)(a:L.Nodup)(e:EN L fs n E)(b:n<=fs.length){h:List Int}{x:Nat×Int}(c:x.1<n){i:Nat}(hi:¬(i:Int)∈M.getD x.1 []):(apN L fs gs E h x)[i]?=h[i]?:=by
 unfold apN;split
 ·exact QJ (e.pos D a b c) fun v d=>hi (e.mov D a b c _ d)
 ·split
  ·rename_i y v m hf;refine List.getElem?_set_ne fun z=>hi ?_
   rw[<-z];exact(ke D a hf).1
  ·rfl
theorem j38(D:DOk L fs M gs)(g:L.Nodup)(e:EN L fs n E)(l:n<=fs.length){S:List Int}{h h':List Int}{x:Nat×Int}(d:x.1<n)(s:∀k∈M.getD x.1 [],k∈S)(a:Agr S h h'):Agr S (apN L fs gs E h x) (apN L fs gs E h' x):=by
 refine⟨by rw[W3,W3];exact a.1,fun i p=>?_⟩;have q:=a.1;unfold apN;split
 ·by_cases c:i<h.length
  case neg=>rw[vR (by rw[qa];lia),vR (by rw[qa];lia)]
  obtain⟨f,j⟩:∃f,fs[x.1]?=some f:=⟨_,vz (by lia)⟩
  by_cases o:∃v,((i:Int),v)∈E.getD x.1 []
  ·obtain⟨v,b⟩:=o;rw[zX (e x.1 f d j).1 (e.pos D g l d) b c,zX (e x.1 f d j).1 (e.pos D g l d) b (by lia)]
  ·rw[QJ (e.pos D g l d) fun v b=>o ⟨v,b⟩,QJ (e.pos D g l d) fun v b=>o ⟨v,b⟩];exact a.2 i p
 ·split
  ·rename_i y v m j;have r:=a.2 (ixOf L y) (s _ (ke D g j).1);rw[vy,vy,r];by_cases c:ixOf L y=i
   ·subst c;rw[List.getElem?_set,List.getElem?_set,ve rfl,ve rfl,q]
   ·rw[List.getElem?_set_ne c,List.getElem?_set_ne c];exact a.2 i p
  ·exact a.2 i p
theorem j39(D:DOk L fs M gs)(g:L.Nodup)(e:EN L fs n E)(a:n<=fs.length){h:List Int}{x:Nat×Int}(d:x.1<n)(k:0<=x.2)(b:hB h):hB (apN L fs gs E h x):=by
 unfold apN;split
 ·exact b.setE (e.val D a d)
 ·rename_i c;split
  ·rename_i y v m hf;obtain⟨_,i,j,f,l⟩:=ke D g hf;exact b.set (XE (b.getD _) ⟨i,j⟩ f k (by lia))
  ·exact b
theorem yX(D:DOk L fs M gs)(e:fs.length<=names.length)(r:names.Nodup)(l:L.Nodup)(l8:L.length<=8)(g:fs.length<=61):∀{j:Nat} {t:Int} {x:Nat×Int},j<fs.length->x∈reach (drawnPs names fs) gs j t->x.1<=j/\∀k∈M.getD x.1 [],k∈M.getD j []:=by
 have m:nmsOf (L.map fun x=>(x,(0:Int)))=L:=by
  unfold nmsOf;rw[v3];exact map_id _
 have W:WfB (L.map fun x=>(x,(0:Int))) (drawnPs names fs):=DOk.wf (by rw[m];exact D) e r (by rw[m];exact l) (by rw[vt];exact l8) g;intro j
 induction j using Nat.strongRecOn with
 | ind j ih=>
  intro t x v d;by_cases c:gs.getD j 0<=t\/pcB (drawnPs names fs) gs j=[]
  ·rw[qE c]at d;rw[vo.mp d];exact⟨vc _,fun k h=>h⟩
  ·rw[zO W c]at d;obtain⟨y,p,d⟩:=mem_flatMap.mp d;obtain⟨f,n⟩:∃f,fs[j]?=some f:=⟨_,vz (by lia)⟩
   have u:=yZ W p;obtain⟨q,o,s⟩:=Xv p;rw[QR D e r n]at o;have i:y.1∈f.js:=by rw[s];exact Y1 o
   obtain⟨a,b⟩:=ih y.1 u (by lia) d;exact⟨by lia,fun k h=>((D.f j f n).2.1.2 k).mpr (.inl ⟨y.1,i,b k h⟩)⟩
theorem reach_pos'(D:DOk L fs M gs)(b:fs.length<=names.length)(h:names.Nodup)(c:L.Nodup)(l8:L.length<=8)(a:fs.length<=61){j:Nat}{t:Int}{x:Nat×Int}(e:j<fs.length)(i:0<=t)(g:x∈reach (drawnPs names fs) gs j t):0<=x.2:=by
 have d:nmsOf (L.map fun x=>(x,(0:Int)))=L:=by
  unfold nmsOf;rw[v3];exact map_id _
 have N:Sn (L.map fun x=>(x,(0:Int))) (drawnPs names fs) gs M:=DOk.sn (by rw[d];exact D) b h (by rw[d];exact c) (by rw[vt];exact l8) a (by lia) fun q f=>by
  obtain⟨x,_,rfl⟩:=vJ.mp f;exact⟨(by show(0:Int)<=0;decide),(by show(0:Int)<=10^18;decide)⟩
 exact j0e N (by rw[JF];exact e) i g
theorem yW{j:Nat}{t:Int}{h:List Int}:(plN L names fs gs E j t h).length=h.length:=by
 unfold plN;generalize reach (drawnPs names fs) gs j t=xs
 induction xs generalizing h with
 | nil=>rfl
 | cons x r ih=>rw[v4,ih,W3]
theorem Wm(D:DOk L fs M gs)(c:L.Nodup)(e:EN L fs n E)(d:n<=fs.length){i:Nat}:∀{xs:List (Nat×Int)} {h:List Int},(∀x∈xs,x.1<n/\¬(i:Int)∈M.getD x.1 [])->(xs.foldl (apN L fs gs E) h)[i]?=h[i]?
 | [],_,_=>rfl
 | x::r,h,hx=>by
  rw[v4,Wm D c e d fun y f=>hx y (vp _ f)];obtain⟨a,b⟩:=hx x vq;exact j3a D c e d a b
theorem Wi(D:DOk L fs M gs)(b:L.Nodup)(e:EN L fs n E)(c:n<=fs.length){S:List Int}:∀{xs:List (Nat×Int)} {h h':List Int},(∀x∈xs,x.1<n/\∀k∈M.getD x.1 [],k∈S)->Agr S h h'->Agr S (xs.foldl (apN L fs gs E) h) (xs.foldl (apN L fs gs E) h')
 | [],_,_,_,a=>a
 | x::r,h,h',hx,a=>by
  rw[v4,v4];obtain⟨p,q⟩:=hx x vq;exact Wi D b e c (fun y d=>hx y (vp _ d)) (j38 D b e c p q a)
theorem Wj(D:DOk L fs M gs)(a:L.Nodup)(e:EN L fs n E)(c:n<=fs.length):∀{xs:List (Nat×Int)} {h:List Int},(∀x∈xs,x.1<n/\0<=x.2)->hB h->hB (xs.foldl (apN L fs gs E) h)
 | [],_,_,b=>b
 | x::r,h,hx,b=>by
  rw[v4];obtain⟨p,q⟩:=hx x vq;exact Wj D a e c (fun y d=>hx y (vp _ d)) (j39 D a e c p q b)
theorem xI(D:DOk L fs M gs)(f:fs.length<=names.length)(l:names.Nodup)(c:L.Nodup)(l8:L.length<=8)(d:fs.length<=61)(e:EN L fs n E)(g:n<=fs.length){j:Nat}{t:Int}{h:List Int}(m:j<n){i:Nat}(hi:¬(i:Int)∈M.getD j []):(plN L names fs gs E j t h)[i]?=h[i]?:=
 Wm D c e g fun x k=>by
  obtain⟨a,b⟩:=yX D f l c l8 d (by lia) k;exact⟨by lia,fun z=>hi (b _ z)⟩
theorem j3F(D:DOk L fs M gs)(f:fs.length<=names.length)(k:names.Nodup)(c:L.Nodup)(l8:L.length<=8)(d:fs.length<=61)(e:EN L fs n E)(g:n<=fs.length){j:Nat}{t:Int}{h h':List Int}(l:j<n)(a:Agr (M.getD j []) h h'):Agr (M.getD j []) (plN L names fs gs E j t h) (plN L names fs gs E j t h'):=
 Wi D c e g (fun x i=>by
  obtain⟨a,b⟩:=yX D f k c l8 d (by lia) i;exact⟨by lia,b⟩) a
theorem j3G(D:DOk L fs M gs)(f:fs.length<=names.length)(i:names.Nodup)(c:L.Nodup)(l8:L.length<=8)(d:fs.length<=61)(e:EN L fs n E)(k:n<=fs.length){j:Nat}{t:Int}{h:List Int}(m:j<n)(l:0<=t)(b:hB h):hB (plN L names fs gs E j t h):=
 Wj D c e k (fun x g=>by
  obtain⟨a,_⟩:=yX D f i c l8 d (by lia) g;exact⟨by lia,reach_pos' D f i c l8 d (by lia) l g⟩) b
theorem WQ(D:DOk L fs M gs)(b:fs.length<=names.length)(j:names.Nodup)(c:L.Nodup)(l8:L.length<=8)(a:fs.length<=61)(e:EN L fs n E)(f:n<=fs.length){S:List Int}:∀{xs:List (Nat×Int)} {h:List Int},(∀x∈xs,x.1<n/\∀k∈M.getD x.1 [],¬k∈S)->Agr S (xs.foldl (fun h x=>plN L names fs gs E x.1 x.2 h) h) h
 | [],_,_=>⟨rfl,fun _ _=>rfl⟩
 | x::r,h,hx=>by
  rw[v4];obtain⟨p,q⟩:=hx x vq;have g:=WQ D b j c l8 a e f (S:=S) (xs:=r) (h:=plN L names fs gs E x.1 x.2 h) fun y l=>hx y (vp _ l)
  refine⟨by rw[g.1,yW],fun i d=>?_⟩;rw[g.2 i d];exact xI D b j c l8 a e f p fun z=>q _ z d
end
theorem j0N{ls:List (Str×Int)}{names:List Str}{fs:List Fn}{M:List (List Int)}{gs:List Int}(D:DOk (nmsOf ls) fs M gs)(s:∀x∈nmsOf ls,Ws.isW x=true)(t:∀x∈names,Ws.isW x=true)(u:fs.length<=names.length):∀p∈drawnPs names fs,FmWs p.2:=by
 have g:∀{j:Nat},j<fs.length->Ws.isW (names.getD j ⟨#[]⟩)=true:=fun h=>t _ (getD_in (by lia))
 intro p r;obtain⟨i,q⟩:=List.mem_iff_getElem?.mp r;obtain⟨f,n,rfl⟩:=qN q;have w:=(vx.mp n).1;have a:=(D.f i f n).1;cases f with
 | hold m=>exact⟨by have:=a.1;lia,a.2⟩
 | ring x m=>exact⟨a.2.2,by have:=a.1;lia,a.2.1⟩
 | rise x v m=>
  obtain⟨⟨j,d⟩,l,b,c,o⟩:=a;exact⟨s x (vm d),l,b,by lia,o⟩
 | row is=>
  obtain⟨_,b,c⟩:=a;refine⟨by rw[vt];exact b,fun x e=>?_⟩;obtain⟨j,d,rfl⟩:=vJ.mp e;exact g (by have:=c j d;lia)
 | side is=>
  obtain⟨_,b,c,_⟩:=a;refine⟨by rw[vt];exact b,fun x e=>?_⟩;obtain⟨j,d,rfl⟩:=vJ.mp e;exact g (by have:=c j d;lia)
 | again k j=>
  obtain⟨l,b,c⟩:=a;exact⟨by lia,b,g (by lia)⟩
section
variable{x:Str}{ps:List (Str×Fm)}{gs:List Int}
end
theorem Kq:∀{kvs:List (Key×V)} {acc:List (Key×V)} {i:Nat} {k:Key} {v:V},(kvs.map (·.1)).Nodup->kvs[i]?=some (k,v)->valV (mergeK acc kvs) k=some v
 | [],_,_,_,_,_,h=>by simp at h
 | q::r,acc,0,k,v,nd,h=>by
  have h:q=(k,v):=vK h;subst h;rw[v6,ut]at nd;have:∀(r:List (Key×V)) (acc:List (Key×V)),k∉r.map (·.1)->valV (mergeK acc r) k=valV acc k:=fun r=>by
   induction r with
   | nil=>intro acc _;rfl
   | cons p r ih=>
    intro acc h;rw[v6,mem_cons,not_or]at h;show valV (mergeK (putK acc p.1 p.2) r) k=_;rw[ih _ h.2,WX,vd h.1]
  show valV (mergeK (putK acc k v) r) k=_;rw[this r _ nd.1,WX,ve rfl]
 | q::r,acc,i+1,k,v,nd,h=>by
  rw[v6,ut]at nd;exact Kq (kvs:=r) (acc:=putK acc q.1 q.2) nd.2 (by simpa using h)
structure DbK(H:Hp)(b pl pp:Addr)(las pas:List Addr)(ls:List (Str×Int))(names:List Str)(fs:List Fn)(M:List (List Int))(gs:List Int):Prop where
 bk:BookAt H b pl pp las pas ls (drawnPs names fs)
 d:DOk (nmsOf ls) fs M gs
 nd:names.Nodup
 fn:fs.length<=names.length
 f20:fs.length<=20
 f1:1<=fs.length
theorem DbK.forms{H:Hp}{b pl p:Addr}{k c:List Addr}{ls:List (Str×Int)}{names:List Str}{fs:List Fn}{M:List (List Int)}{gs:List Int}(B:DbK H b pl p k c ls names fs M gs):∃g:Nat->Addr,∀(i:Nat) (f:Fn),fs[i]?=some f->(∀a,c[i]?=some a->H a=some (.tup [.str (names.getD i ⟨#[]⟩),.ref (g i)]))/\FormAt H (g i) (toldF names f):=by
 have:∀i:Nat,∃j:Addr,∀f:Fn,fs[i]?=some f->(∀a,c[i]?=some a->H a=some (.tup [.str (names.getD i ⟨#[]⟩),.ref j]))/\FormAt H j (toldF names f):=fun i=>by
  cases e:fs[i]? with
  | none=>exact⟨b,fun f h=>by cases h⟩
  | some f=>
   obtain⟨a,o,j,m,n⟩:=B.bk.pa.get (q0 (names:=names) e);refine⟨j,fun r l=>?_⟩;cases l;exact⟨fun q d=>by rw[o]at d;cases d;exact m,n⟩
 exact Classical.axiomOfChoice this
noncomputable def fmK(names:List Str)(g:Nat->Addr)(n:Nat):List (Str×V):=(List.range n).map fun i=>(names.getD i ⟨#[]⟩,.ref (g i))
theorem j0R{names:List Str}{g:Nat->Addr}{n i:Nat}(h:i<n):(fmK names g n)[i]?=some (names.getD i ⟨#[]⟩,.ref (g i)):=by
 unfold fmK;rw[vv,List.getElem?_range h];rfl
theorem j2q{names:List Str}{g:Nat->Addr}{n j:Nat}(c:names.Nodup)(f:n<=names.length)(h:j<n):valV (mergeK [] ((fmK names g n).map swK)) (Sum.inr (names.getD j ⟨#[]⟩))=some (.ref (g j)):=by
 refine Kq (i:=j) ?_ (by rw[vv,j0R h];rfl);rw[v3];unfold fmK;rw[v3];refine pairwise_map.mpr (List.nodup_range.imp_of_mem fun {x y} a b d e=>d ?_);have a:=vZ.mp a;have b:=vZ.mp b;exact getD_inj c (by lia) (by lia) (Sum.inr.inj e)
theorem xM:∀{l:List (Int×Int)} {k v a:Int},(l.map (·.1)).Pairwise (· < ·)->(k,v)∈l->(k,a)∈l->v=a
 | [],_,_,_,_,m,_=>nomatch m
 | q::r,k,v,a,p,m,m'=>by
  rw[v6,pairwise_cons]at p;rcases mem_cons.mp m with e | n<;>rcases mem_cons.mp m' with e' | n'
  ·rw[<-e]at e';cases e';rfl
  ·rw[<-e]at p;exact ug (p.1 _ (vJ.mpr ⟨_,n',rfl⟩)) (Int.lt_irrefl _)
  ·rw[<-e']at p;exact ug (p.1 _ (vJ.mpr ⟨_,n,rfl⟩)) (Int.lt_irrefl _)
  ·exact xM p.2 n n'
theorem j00{E:List (List (Int×Int))}{is:List Nat}{k v l:Int}(s:∀j∈is,((E.getD j []).map (·.1)).Pairwise (· < ·))(a:LastIn E is k v)(b:LastIn E is k l):v=l:=by
 obtain⟨u,j,o,e,g,r⟩:=a;obtain⟨p,t,i,m,d,h⟩:=b;rw[e]at m;have n:=s j (by rw[e];simp);rcases List.append_eq_append_iff.mp m with⟨f,q,c⟩ | ⟨f,q,c⟩
 ·cases f with
  | nil=>
   rw[nil_append]at c;injection c with e3 e4;subst e3;exact xM n g d
  | cons x f=>
   rw[cons_append]at c;injection c with e3 e4;exact ug d (r t (by rw[e4];simp) l)
 ·cases f with
  | nil=>
   rw[nil_append]at c;injection c with e3 e4;subst e3;exact xM n g d
  | cons x f=>
   rw[cons_append]at c;injection c with e3 e4;exact ug g (h j (by rw[e4];simp) v)
section
variable{L:List Str}{fs:List Fn}{M:List (List Int)}{gs:List Int}{names:List Str}{E:List (List (Int×Int))}
open Classical in
theorem EN.ex(D:DOk L fs M gs)(p:L.Nodup):∀n,n<=fs.length->∃E:List (List (Int×Int)),E.length=n/\EN L fs n E
 | 0,_=>⟨[],rfl,fun i f h=>ug h (Nat.not_lt_zero _)⟩
 | n+1,hn=>by
  obtain⟨E,Q,e⟩:=EN.ex D p n (by lia);obtain⟨f,N⟩:∃f,fs[n]?=some f:=⟨_,vz (by lia)⟩
  obtain⟨l,_,_⟩:=D.f n f N;have C:=l.js.2;have R:∀k v,(LastIn E f.js k v\/∃x m,f = .rise x v m/\k=(ixOf L x:Nat))->0<=k/\k<L.length:=by
   rintro k v (h | ⟨x,m,rfl,rfl⟩)
   ·obtain⟨j,d,s,F⟩:=Yt.mp ⟨v,h⟩;exact D.bnd j (by have:=C j d;lia) k (e.mov D p (by lia) (C j d) (k,s) F)
   ·obtain⟨⟨i,t⟩,_⟩:=l;rw[Ja p t];have:=(vx.mp t).1;lia
  have Z:∀k v s,(LastIn E f.js k v\/∃x m,f = .rise x v m/\k=(ixOf L x:Nat))->(LastIn E f.js k s\/∃x m,f = .rise x s m/\k=(ixOf L x:Nat))->v=s:=by
   rintro k v s (h | ⟨x,m,K,rfl⟩) (B | ⟨x',m',o,B⟩)
   ·refine j00 (fun j d=>?_) h B;obtain⟨g,q⟩:∃g,fs[j]?=some g:=⟨_,vz (by have:=C j d;lia)⟩
    exact(e j g (C j d) q).1
   ·rw[o]at h;obtain⟨l,j,w,z,_⟩:=h;simp[Fn.js]at z
   ·rw[K]at B;obtain⟨l,j,w,z,_⟩:=B;simp[Fn.js]at z
   ·rw[K]at o;cases o;rfl
  generalize U:(fun k v=>(LastIn E f.js k v\/∃x m,f = .rise x v m/\k=(ixOf L x:Nat)))=P;have A:∀k v,(LastIn E f.js k v\/∃x m,f = .rise x v m/\k=(ixOf L x:Nat))↔P k v:=fun k v=>by rw[<-U]
  generalize O:((List.range L.length).filterMap fun i:Nat=>if h:∃v,P (i:Int) v then some ((i:Int),Classical.choose h)else none)=r;have X:∀k v,(k,v)∈r↔P k v:=fun k v=>by
   rw[<-O,mem_filterMap];constructor
   ·rintro⟨i,t,z⟩;split at z
    case isTrue h=>
     have z:=vK z;injection z with z1 z2;rw[<-z1,<-z2];exact Classical.choose_spec h
    case isFalse h=>cases z
   ·intro h;obtain⟨b0,b1⟩:=R k v ((A k v).mpr h);refine⟨k.toNat,vZ.mpr (by lia),?_⟩;have S:((k.toNat:Nat):Int)=k:=by lia
    rw[S,dif_pos ⟨v,h⟩];have c:=Classical.choose_spec (⟨v,h⟩:∃v,P k v);rw[Z k _ v ((A k _).mpr c) ((A k v).mpr h)]
  have Y:(r.map (·.1)).Pairwise (· < ·):=by
   rw[<-O,pairwise_map,List.pairwise_filterMap];refine List.pairwise_lt_range.imp fun {a b} W x G y H=>?_
   split at G
   case isFalse=>cases G
   split at H
   case isFalse=>cases H
   rw[<-vK G,<-vK H];show(a:Int)<(b:Int);lia
  have u:∀i,i<n->(E++[r]).getD i []=E.getD i []:=fun i t=>by rw[vy,vy,vA (by lia)]
  have I:(E++[r]).getD n []=r:=by rw[vy,vB (by lia),Q,Nat.sub_self];rfl
  refine⟨E++[r],by rw[vn,Q];rfl,fun i g t q=>?_⟩;have T:=(D.f i g q).1.js.2;have ex:∀j∈g.js,(E++[r]).getD j []=E.getD j []:=fun j d=>u j (by have:=T j d;lia)
  have J:∀k v,(LastIn E g.js k v\/∃x m,g = .rise x v m/\k=(ixOf L x:Nat))↔(LastIn (E++[r]) g.js k v\/∃x m,g = .rise x v m/\k=(ixOf L x:Nat)):=fun k v=>
   or_congr_left ⟨yp fun j d=>(ex j d).symm,yp ex⟩
  rcases Nat.lt_or_ge i n with c | c
  ·rw[u i c];obtain⟨a,b⟩:=e i g c q;exact⟨a,fun k v=>(b k v).trans (J k v)⟩
  ·have:i=n:=by lia
   subst this;rw[N]at q;cases q;rw[I];exact⟨Y,fun k v=>(X k v).trans ((A k v).symm.trans (J k v))⟩
end
structure BkR(L names:List Str)(fs:List Fn)(M:List (List Int))(gs:List Int)(E:List (List (Int×Int))):Prop where
 D:DOk L fs M gs
 hnm:fs.length<=names.length
 nd:names.Nodup
 lnd:L.Nodup
 l8:L.length<=8
 f17:fs.length<=17
 g90:∀j,j<fs.length->gs.getD j 0<=90
 e:EN L fs fs.length E
 w:∀j t,j<fs.length->0<=t->(rgN names fs gs j t).length<=5000
section
variable{L:List Str}{fs:List Fn}{M:List (List Int)}{gs:List Int}{names:List Str}{E:List (List (Int×Int))}
noncomputable def runR(L names:List Str)(fs:List Fn)(gs:List Int)(E:List (List (Int×Int)))(j:Nat)(h:List Int):List (List Int×List Str):=(List.range (gs.getD j 0).toNat).map fun b:Nat=>(plN L names fs gs E j (b:Int) h,rgN names fs gs j (b:Int))
theorem Jm{j:Nat}{h:List Int}:(runR L names fs gs E j h).length=(gs.getD j 0).toNat:=by unfold runR;rw[vt,length_range]
theorem zh{j b:Nat}{h:List Int}(a:(b:Int)<gs.getD j 0):(runR L names fs gs E j h)[b]?=some (plN L names fs gs E j (b:Int) h,rgN names fs gs j (b:Int)):=by
 unfold runR;rw[vv,List.getElem?_range (by lia)];rfl
theorem KU(B:BkR L names fs M gs E){j:Nat}{f:Fn}(c:fs[j]?=some f)(b:f.js=[])(d:∀is,f≠.row is/\f≠.side is)(t:Int)(h:List Int):plN L names fs gs E j t h=apN L fs gs E h (j,t)/\rgN names fs gs j t=ringX (drawnPs names fs) (j,t):=by
 have a:pcB (drawnPs names fs) gs j=[]:=by
  rw[QR B.D B.hnm B.nd c,b];cases f<;>rfl
 unfold plN rgN;rw[qE (.inr a)];exact⟨rfl,by simp⟩
theorem j0j(B:BkR L names fs M gs E){j:Nat}{n:Int}(a:fs[j]?=some (.hold n))(h:List Int):runR L names fs gs E j h=List.replicate n.toNat (h,[])/\setE (E.getD j []) h=h:=by
 have f:=(vx.mp a).1;have g:gs.getD j 0=n:=(B.D.f j _ a).2.2;have e:E.getD j []=[]:=by
  refine List.eq_nil_iff_forall_not_mem.mpr fun q k=>?_
  rcases((B.e j _ f a).2 q.1 q.2).mp k with⟨p,i,d,z,_⟩ | ⟨x,m,z,_⟩
  ·simp[Fn.js]at z
  ·cases z
 refine⟨?_,by rw[e];rfl⟩;refine ext_getElem? fun b=>?_
 rcases Nat.lt_or_ge b n.toNat with c | c
 case inr=>rw[vR (by rw[Jm,g];exact c),vR (by rw[length_replicate];exact c)]
 obtain⟨l,o⟩:=KU B a rfl (fun r=>⟨(fun z=>nomatch z),(fun z=>nomatch z)⟩) (b:Int) h;rw[zh (by lia),l,o,List.getElem?_replicate,ve c];unfold apN ringX;rw[vd (by show¬gs.getD j 0<=(b:Int);lia),a,q0 a];rfl
theorem j0k(B:BkR L names fs M gs E){j:Nat}{x:Str}{n:Int}(a:fs[j]?=some (.ring x n))(h:List Int):runR L names fs gs E j h=(List.replicate n.toNat (h,[])).set 0 (h,[x])/\setE (E.getD j []) h=h:=by
 have f:=(vx.mp a).1;have g:gs.getD j 0=n:=(B.D.f j _ a).2.2;have e:E.getD j []=[]:=by
  refine List.eq_nil_iff_forall_not_mem.mpr fun q k=>?_
  rcases((B.e j _ f a).2 q.1 q.2).mp k with⟨p,i,d,z,_⟩ | ⟨x,m,z,_⟩
  ·simp[Fn.js]at z
  ·cases z
 refine⟨?_,by rw[e];rfl⟩;refine ext_getElem? fun b=>?_
 rcases Nat.lt_or_ge b n.toNat with c | c
 case inr=>rw[vR (by rw[Jm,g];exact c),vR (by rw[length_set,length_replicate];exact c)]
 obtain⟨l,o⟩:=KU B a rfl (fun r=>⟨(fun z=>nomatch z),(fun z=>nomatch z)⟩) (b:Int) h;rw[zh (by lia),l,o];unfold apN ringX;rw[vd (by show¬gs.getD j 0<=(b:Int);lia),a,q0 a];show some (h,if(b:Int)=0 then[x]else[])=_;by_cases z:b=0
 ·subst z;rw[List.getElem?_set_self (by rw[length_replicate];exact c)];rfl
 ·rw[List.getElem?_set_ne (fun q=>z q.symm),List.getElem?_replicate,ve c,vd (by lia)]
noncomputable def riseR(L:List Str)(x:Str)(v n:Int)(h:List Int)(m:Nat):List (List Int×List Str):=(List.range m).map fun b:Nat=>(h.set (ixOf L x) (Rp.ramp (h.getD (ixOf L x) 0) v n (b:Int)),[])
theorem j0l(B:BkR L names fs M gs E){j:Nat}{x:Str}{v n:Int}(a:fs[j]?=some (.rise x v n))(h:List Int):runR L names fs gs E j h=riseR L x v n h n.toNat/\setE (E.getD j []) h=h.set (ixOf L x) v:=by
 have t:=(vx.mp a).1;have g:gs.getD j 0=n:=(B.D.f j _ a).2.2;obtain⟨e,k⟩:=B.e j _ t a;have o:E.getD j []=[(((ixOf L x:Nat):Int),v)]:=by
  have f:(((ixOf L x:Nat):Int),v)∈E.getD j []:=(k _ _).mpr (.inr ⟨x,n,rfl,rfl⟩);have d:∀q∈E.getD j [],q=(((ixOf L x:Nat):Int),v):=fun q u=>by
   rcases(k q.1 q.2).mp u with⟨A,i,l,z,_⟩ | ⟨F,m,z,C⟩
   ·simp[Fn.js]at z
   ·cases z;exact Prod.ext C rfl
  generalize E.getD j []=es at f d e
  match es with
  | []=>cases f
  | [q]=>rw[d q vq]
  | q::q'::r=>
   have p:=d q vq;have s:=d q' (vp _ vq);subst p;subst s;rw[v6,pairwise_cons]at e;exact ug (e.1 _ (by rw[v6];exact vq)) (Int.lt_irrefl _)
 refine⟨?_,by rw[o];rfl⟩;refine ext_getElem? fun b=>?_
 rcases Nat.lt_or_ge b n.toNat with c | c
 case inr=>rw[vR (by rw[Jm,g];exact c),vR (by unfold riseR;rw[vt,length_range];exact c)]
 obtain⟨w,y⟩:=KU B a rfl (fun D=>⟨(fun z=>nomatch z),(fun z=>nomatch z)⟩) (b:Int) h;rw[zh (by lia),w,y];unfold apN ringX riseR;rw[vd (by show¬gs.getD j 0<=(b:Int);lia),a,q0 a,vv,List.getElem?_range c];rfl
noncomputable def seqR(L names:List Str)(fs:List Fn)(gs:List Int)(E:List (List (Int×Int))):List Nat->List Int->List (List Int×List Str)
 | [],_=>[]
 | j::r,h=>runR L names fs gs E j h++seqR L names fs gs E r (setE (E.getD j []) h)
theorem kj{j:Nat}:∀{is:List Nat} {h:List Int},seqR L names fs gs E (is++[j]) h=seqR L names fs gs E is h++runR L names fs gs E j (is.foldl (fun h j=>setE (E.getD j []) h) h)
 | [],h=>by
  show runR L names fs gs E j h++[]=[]++_;rw[append_nil,nil_append];rfl
 | i::r,h=>by
  show runR L names fs gs E i h++seqR L names fs gs E (r++[j]) _=(runR L names fs gs E i h++seqR L names fs gs E r _)++_;rw[kj,List.append_assoc];rfl
theorem wI:∀{is:List Nat} {h:List Int},(∀j∈is,0<=gs.getD j 0)->((seqR L names fs gs E is h).length:Int)=(is.map fun j=>gs.getD j 0).sum
 | [],h,_=>rfl
 | i::r,h,p=>by
  show((runR L names fs gs E i h++seqR L names fs gs E r _).length:Int)=_;have:=p i vq;have b:=wI (is:=r) (h:=setE (E.getD i []) h) fun j a=>p j (vp _ a)
  rw[vn,Jm,v6,v7];lia
theorem xS:∀{is:List Nat} {h:List Int} {t:Nat},(∀j∈is,0<=gs.getD j 0)->(t:Int)<(is.map fun j=>gs.getD j 0).sum->
  ∃(i j u:Nat),is[i]?=some j/\((is.take i).map fun j=>gs.getD j 0).sum+u=t/\(u:Int)<gs.getD j 0/\(seqR L names fs gs E is h)[t]?=some (plN L names fs gs E j u ((is.take i).foldl (fun h j=>setE (E.getD j []) h) h),rgN names fs gs j u)
 | [],h,t,_,z=>by
  have:(t:Int)<0:=z;lia
 | j::r,h,t,p,z=>by
  have g:=p j vq;rw[v6,v7]at z;show∃(i a u:Nat),_/\_/\_/\(runR L names fs gs E j h++seqR L names fs gs E r _)[t]?=_;rcases Int.lt_or_le (t:Int) (gs.getD j 0)with c | c
  ·refine⟨0,j,t,rfl,?_,c,?_⟩
   ·rw[List.take_zero];show(0:Int)+t=t;lia
   ·rw[vA (by rw[Jm];lia),zh c];rfl
  ·obtain⟨i,a,u,b,l,d,e⟩:=xS (is:=r) (h:=setE (E.getD j []) h) (t:=t-(gs.getD j 0).toNat) (fun k f=>p k (vp _ f)) (by lia);refine⟨i+1,a,u,b,?_,d,?_⟩
   ·rw[List.take_succ_cons,v6,v7];lia
   ·rw[vB (by rw[Jm];lia),Jm,e];rfl
theorem j1I(B:BkR L names fs M gs E){k:Nat}{is:List Nat}(e:fs[k]?=some (.row is))(h:List Int):runR L names fs gs E k h=seqR L names fs gs E is h/\setE (E.getD k []) h=is.foldl (fun h j=>setE (E.getD j []) h) h:=by
 have f:=(vx.mp e).1;obtain⟨n,_,g⟩:=B.D.f k _ e;have g:gs.getD k 0=(is.map fun j=>gs.getD j 0).sum:=g;have A:∀j∈is,j<k:=n.js.2;have d:∀j∈is,1<=gs.getD j 0/\gs.getD j 0<=10^60:=fun j a=>B.D.g j (by have:=A j a;lia)
 have l:fs.length<=61:=by have:=B.f17;lia
 refine⟨?_,B.e.all B.D B.lnd (vc _) f e (fun x v m z=>nomatch z) h⟩;have F:=wI (L:=L) (names:=names) (fs:=fs) (gs:=gs) (E:=E) (is:=is) (h:=h) fun j a=>by have:=d j a;lia
 refine ext_getElem? fun b=>?_
 rcases Nat.lt_or_ge b (gs.getD k 0).toNat with c | c
 case inr=>rw[vR (by rw[Jm];exact c),vR (by lia)]
 obtain⟨i,j,u,p,C,D,y⟩:=xS (L:=L) (names:=names) (fs:=fs) (gs:=gs) (E:=E) (is:=is) (h:=h) (t:=b) (fun j a=>by have:=d j a;lia) (by lia);obtain⟨r,s⟩:=KO B.D B.hnm B.nd B.lnd B.l8 l B.e (vc _) f e trivial (t:=(b:Int)) (by lia) (by lia) h;have q:=(vx.mp p).1;have o:is.drop i=j::is.drop (i+1):=by
  rw[List.drop_eq_getElem_cons q];congr 1;exact vK ((vz q).symm.trans p)
 have w:wsN names fs gs k (b:Int)=((is.take i).map fun j=>(j,gs.getD j 0))++[(j,(u:Int))]:=by
  unfold wsN;rw[QR B.D B.hnm B.nd e];show wth gs _ (rowPc gs is 0)=_;rw[yY (is:=is) (i:=i) d (by lia),o,kf (fun k f=>d k (by rw[<-o]at f;exact List.mem_of_mem_drop f)) (by lia),vd (by lia)];congr 3;lia
 rw[zh (by lia),y,r,s,w,foldl_append,flatMap_append,yR,Yq fun j a=>(d j (v8 a)).1];simp
theorem YV(B:BkR L names fs M gs E){j:Nat}(a:j<fs.length)(h:List Int):∀n:Nat,(List.replicate (n+1) j).foldl (fun h j=>setE (E.getD j []) h) h=setE (E.getD j []) h
 | 0=>rfl
 | n+1=>by
  obtain⟨f,b⟩:∃f,fs[j]?=some f:=⟨_,vz a⟩
  rw[List.replicate_succ',foldl_append,YV B a h n];exact km (B.e j f a b).1 (B.e.pos B.D B.lnd (vc _) a) h
theorem YC{j:Nat}:∀n:Nat,((List.replicate n j).map fun j=>gs.getD j 0).sum=(n:Int)*gs.getD j 0
 | 0=>by simp
 | n+1=>by
  rw[replicate_succ,v6,v7,YC n,Int.natCast_add,Int.add_mul];lia
theorem xO(B:BkR L names fs M gs E){k:Nat}{m:Int}{j:Nat}(d:fs[k]?=some (.again m j))(h:List Int):runR L names fs gs E k h=seqR L names fs gs E (List.replicate m.toNat j) h/\setE (E.getD k []) h=(List.replicate m.toNat j).foldl (fun h j=>setE (E.getD j []) h) h:=by
 have p:=(vx.mp d).1;obtain⟨q,_,g⟩:=B.D.f k _ d;have g:gs.getD k 0=m*gs.getD j 0:=g;obtain⟨U,_,Z⟩:=q;have a:j<fs.length:=by lia
 have D:=B.D.g j a;have e:fs.length<=61:=by have:=B.f17;lia
 obtain⟨n,S⟩:∃n:Nat,m.toNat=n+1:=⟨m.toNat-1,by lia⟩
 have J:m=((n+1:Nat):Int):=by lia
 rw[S];refine⟨?_,?_⟩
 rotate_left
 ·rw[B.e.all B.D B.lnd (vc _) p d (fun x v m z=>nomatch z) h,YV B a];rfl
 have s:∀i∈List.replicate (n+1) j,0<=gs.getD i 0:=fun i R=>by rw[(List.mem_replicate.mp R).2];lia
 have W:=wI (L:=L) (names:=names) (fs:=fs) (gs:=gs) (E:=E) (is:=List.replicate (n+1) j) (h:=h) s;rw[YC,<-J]at W;refine ext_getElem? fun b=>?_
 rcases Nat.lt_or_ge b (gs.getD k 0).toNat with c | c
 case inr=>rw[vR (by rw[Jm];exact c),vR (by lia)]
 have k0:=B.D.g k p;obtain⟨i,Y,u,Q,l,F,G⟩:=xS (L:=L) (names:=names) (fs:=fs) (gs:=gs) (E:=E) (is:=List.replicate (n+1) j) (h:=h) (t:=b) s (by rw[YC,<-J];lia);obtain⟨T,A⟩:=vx.mp Q;rw[List.getElem_replicate]at A;subst A;rw[length_replicate]at T;rw[List.take_replicate,Nat.min_eq_left (by lia),YC]at l;rw[List.take_replicate,Nat.min_eq_left (by lia)]at G;obtain⟨N,O⟩:=KO B.D B.hnm B.nd B.lnd B.l8 e B.e (vc _) p d trivial (t:=(b:Int)) (by lia) (by lia) h;have X:(b:Int)/gs.getD j 0=i:=by
  rw[<-l,Int.add_comm,Int.add_mul_ediv_right _ _ (by lia),Int.ediv_eq_zero_of_lt (by lia) F,v9]
 have C:(b:Int)%gs.getD j 0=u:=by
  rw[<-l,Int.add_comm,Int.add_mul_emod_self_right,Int.emod_eq_of_lt (by lia) F]
 have P:wsN names fs gs k (b:Int)=wth gs b ((j,1,0)::(if 1<m then[(j,m-1,gs.getD j 0)]else[])):=by
  unfold wsN;rw[QR B.D B.hnm B.nd d];rfl
 have K:rgN names fs gs j (gs.getD j 0)=[]:=ZE D.1;obtain⟨f,o⟩:∃f,fs[j]?=some f:=⟨_,vz a⟩
 have r:=km (B.e j f a o).1 (B.e.pos B.D B.lnd (vc _) a) h;rw[zh (by lia),G,N,O,P];rcases wV D.1 U (t:=(b:Int)) (by lia) (by lia)with⟨z,w⟩ | ⟨z1,z2,y,H,w⟩ | ⟨z,y,H,w⟩
 ·rw[w,C];have:i=0:=by lia
  subst this;simp
 ·rw[w,C];obtain⟨I,rfl⟩:∃I,i=I+1:=⟨i-1,by lia⟩
  rw[YV B a];rcases H with rfl | rfl
  ·show some (plN L names fs gs E j u (plN L names fs gs E j (gs.getD j 0) h),rgN names fs gs j (gs.getD j 0)++(rgN names fs gs j u++[]))=_;rw[K,Qr,append_nil,nil_append]
  ·show some (plN L names fs gs E j u (plN L names fs gs E j (gs.getD j 0) (plN L names fs gs E j (gs.getD j 0) h)),rgN names fs gs j (gs.getD j 0)++(rgN names fs gs j (gs.getD j 0)++(rgN names fs gs j u++[])))=_;rw[K,Qr,Qr,r,append_nil,nil_append,nil_append]
 ·lia
theorem j3r(B:BkR L names fs M gs E){j:Nat}(f:j<fs.length){t:Int}{h F:List Int}(a:Agr (M.getD j []) F h)(e:h.length=L.length){i:Nat}(hi:i<L.length) :
  (plN L names fs gs E j t F)[i]?=some (if(plN L names fs gs E j t h).getD i 0≠h.getD i 0 then(plN L names fs gs E j t h).getD i 0 else F.getD i 0):=by
 have b:fs.length<=61:=by have:=B.f17;lia
 have g:=a.1;have d:∀{l:List Int},l.length=L.length->l[i]?=some (l.getD i 0):=fun {l} e=>by rw[vy,vz (by lia)];rfl
 by_cases c:(i:Int)∈M.getD j []
 ·rw[(j3F B.D B.hnm B.nd B.lnd B.l8 b B.e (vc _) f a).2 i c,d (by rw[yW,e])];split
  ·rfl
  ·rename_i z;have z:=Decidable.not_not.mp z;rw[z];have:=a.2 i c;rw[d (by lia),d e]at this;exact this.symm
 ·rw[xI B.D B.hnm B.nd B.lnd B.l8 b B.e (vc _) f c,d (by lia)];have:(plN L names fs gs E j t h)[i]?=h[i]?:=xI B.D B.hnm B.nd B.lnd B.l8 b B.e (vc _) f c;rw[d (by rw[yW,e]),d e]at this;rw[vd (by rw[vK this];exact fun z=>z rfl)]
theorem Kh:∀{xs:List (Nat×Int)} {h:List Int},(xs.foldl (fun h x=>plN L names fs gs E x.1 x.2 h) h).length=h.length
 | [],_=>rfl
 | x::r,h=>by rw[v4,Kh,yW]
noncomputable def cutT(gs:List Int)(t:Int)(j:Nat):Nat×Int:=if gs.getD j 0<=t then(j,gs.getD j 0)else(j,t)
theorem j0m(B:BkR L names fs M gs E){k:Nat}{is:List Nat}(a:fs[k]?=some (.side is))(h:List Int){t:Int}(e:0<=t)(o:t<=gs.getD k 0) :
  plN L names fs gs E k t h=(is.map (cutT gs t)).foldl (fun h x=>plN L names fs gs E x.1 x.2 h) h/\rgN names fs gs k t=(is.map (cutT gs t)).flatMap fun x=>rgN names fs gs x.1 x.2:=by
 have m:=(vx.mp a).1;obtain⟨d,_,g⟩:=B.D.f k _ a;have n:∀j∈is,j<k:=d.js.2;have i:∀j∈is,1<=gs.getD j 0:=fun j l=>(B.D.g j (by have:=n j l;lia)).1
 have b:fs.length<=61:=by have:=B.f17;lia
 have c:=KO B.D B.hnm B.nd B.lnd B.l8 b B.e (vc _) m a trivial e o h;have f:wsN names fs gs k t=is.map (cutT gs t):=by
  unfold wsN;rw[QR B.D B.hnm B.nd a];show wth gs _ (is.map fun j=>(j,1,0))=_;rw[kq i e];rfl
 rw[f]at c;exact c
theorem j0r(B:BkR L names fs M gs E){k:Nat}{is:List Nat}(n:fs[k]?=some (.side is)){h:List Int}{t:Int}{i j:Nat}(s:is[i]?=some j):Agr (M.getD j []) (((is.take i).map (cutT gs t)).foldl (fun h x=>plN L names fs gs E x.1 x.2 h) h) h:=by
 have z:=(vx.mp n).1;obtain⟨l,_,g⟩:=B.D.f k _ n;obtain⟨_,_,y,_,o⟩:=l;have d:fs.length<=61:=by have:=B.f17;lia
 have e:∀b,(cutT gs t b).1=b:=fun b=>by unfold cutT;split<;>rfl
 refine WQ B.D B.hnm B.nd B.lnd B.l8 d B.e (vc _) fun x v=>?_
 obtain⟨b,c,rfl⟩:=vJ.mp v;rw[e b];refine⟨by have:=y b (v8 c);lia,fun q u f=>?_⟩;obtain⟨a,r,m⟩:=mem_iff_getElem.mp c;rw[vj]at r;rw[getElem_take]at m;obtain⟨w,p⟩:=vx.mp s;have:=pairwise_iff_getElem.mp o a i (by lia) w (by lia);rw[m,p]at this;exact this q u f
end
theorem Xs{L:List Str}{F:List Int}(f:L.Nodup)(o:L.length=F.length){i:Nat}{x:Str}(d:L[i]?=some x)(v:Int):putK (knK L F) (Sum.inr x) (.int v)=knK L (F.set i v):=by
 obtain⟨s,l⟩:=vx.mp d;have r:=Q2 o;have g:((knK L F).any fun kv=>decide (kv.1=(Sum.inr x:Key)))=true:=by
  rw[any_eq_true];have m:(Sum.inr x:Key)∈(knK L F).map (·.1):=by rw[r];exact vJ.mpr ⟨x,vm d,rfl⟩
  obtain⟨q,p,e⟩:=vJ.mp m;exact⟨q,p,vF e⟩
 unfold putK;rw[ve g];refine ext_getElem? fun k=>?_
 unfold knK;rw[v3,vv,vv];by_cases b:k<L.length
 case neg=>rw[vR (by rw[length_zip];lia),vR (by rw[length_zip,length_set];lia)];rfl
 have n:k<F.length:=by lia
 have a:k<(F.set i v).length:=by rw[length_set];lia
 have h:(L.zip F)[k]?=some (L[k],F[k]):=List.getElem?_zip_eq_some.mpr ⟨vz b,vz n⟩;have j:(L.zip (F.set i v))[k]?=some (L[k],(F.set i v)[k]):=List.getElem?_zip_eq_some.mpr ⟨vz b,vz a⟩;rw[h,j];show some (if(Sum.inr L[k]:Key)=Sum.inr x then((Sum.inr L[k]:Key),V.int v)else((Sum.inr L[k]:Key),V.int F[k]))=some ((Sum.inr L[k]:Key),V.int (F.set i v)[k]);rw[List.getElem_set];by_cases c:i=k
 ·subst c;rw[ve (by rw[l]),ve rfl]
 ·rw[vd,vd c];intro z;have z:L[k]=x:=Sum.inr.inj z;exact c ((Ja f d).symm.trans (Ja f (by rw[vz b,z])))
theorem Y2:∀{kvs acc:List (Key×V)},((acc++kvs).map (·.1)).Nodup->mergeK acc kvs=acc++kvs
 | [],acc,_=>(append_nil _).symm
 | q::r,acc,h=>by
  show mergeK (putK acc q.1 q.2) r=_;rw[ka,Y2]
  ·rw[List.append_assoc];rfl
  ·rw[List.append_assoc];exact h
  ·intro m;rw[vk,v6]at h;exact(nodup_append.mp h).2.2 _ m _ vq rfl
theorem j0L{ls:List (Str×Int)}(a:(nmsOf ls).Nodup):mergeK [] ((ls.map fun q=>(q.1,V.int q.2)).map swK)=knK (nmsOf ls) (ls.map (·.2)):=by
 have e:(ls.map fun q=>(q.1,V.int q.2)).map swK=knK (nmsOf ls) (ls.map (·.2)):=by
  unfold knK nmsOf;rw[v3,List.zip_map',v3];rfl
 rw[e,Y2,nil_append];rw[nil_append,Q2 (by unfold nmsOf;rw[vt,vt])];exact pairwise_map.mpr (a.imp fun h e=>h (Sum.inr.inj e))
theorem KF{xs:List V}{n:Nat}{v:V}(h:1<=n)(e:xs.length=n)(a:xs[n-1]?=some v):atI xs (-1)=some v:=by
 have:xs=xs.take (n-1)++[v]:=by
  rw[<-take_snoc a,show n-1+1=xs.length by lia,v2]
 rw[this];exact j0B _ _
theorem X2(x:V)(n:Nat):(List.replicate n [x]).flatten=List.replicate n x:=by
 induction n with
 | zero=>rfl
 | succ n ih=>rw[replicate_succ,flatten_cons,ih];rfl
theorem w4{xs:List V}{n:Nat}(h:xs.length=n+1):cutV xs none (some (-1))=xs.take n:=by
 have e:HT.sIx xs.length xs.length (some (-1))=n:=by
  show(if(-1:Int)<0 then((-1:Int)+(xs.length:Int)).toNat else min (-1:Int).toNat xs.length)=n;rw[ve (by decide)];lia
 unfold cutV;rw[show HT.sIx xs.length 0 none=0 from rfl,e,List.drop_zero,Nat.sub_zero]
def HtA(H:Hp)(L:List Str)(a:Addr)(h:List Int):Prop:=h.length=L.length/\hB h/\∃o,H a=some (.frz o (.dK (knK L h)))
def RwA(H:Hp)(L:List Str)(a:Addr)(x:List Int×List Str):Prop:=∃d w,H a=some (.tup [.ref d,.ref w])/\HtA H L d x.1/\H w=some (.lst (x.2.map V.str))
def RunA(H:Hp)(L:List Str)(r:Addr)(rows:List (List Int×List Str))(h:List Int):Prop:=∃rl hd ras,H r=some (.tup [.ref rl,.ref hd])/\H rl=some (.lst (ras.map V.ref))/\All2 (RwA H L) ras rows/\HtA H L hd h
section
variable{H H' H0:Hp}{L:List Str}{a:Addr}{h:List Int}{rl:Addr}{ds ras:List Addr}{rows:List (List Int×List Str)}
theorem HtA.same(s:Same H H')(x:HtA H L a h):HtA H' L a h:=⟨x.1,x.2.1,x.2.2.imp fun o e=>s _ _ e⟩
theorem RwA.same(s:Same H H'){x:List Int×List Str}(r:RwA H L a x):RwA H' L a x:=by
 obtain⟨d,w,b,c,e⟩:=r;exact⟨d,w,s _ _ b,c.same s,s _ _ e⟩
theorem RunA.same(s:Same H H')(r:RunA H L a rows h):RunA H' L a rows h:=by
 obtain⟨i,g,b,c,d,e,f⟩:=r;exact⟨i,g,b,s _ _ c,s _ _ d,e.mono fun a x=>RwA.same s,f.same s⟩
theorem HtA.get(x:HtA H L a h)(d:L.Nodup){i:Nat}{y:Str}(b:L[i]?=some y):DGet H a (.str y) (some (.int (h.getD i 0))):=by
 obtain⟨l,_,o,e⟩:=x;obtain⟨c,f⟩:=vx.mp b;have z:L.getD i ⟨#[]⟩=y:=by rw[vy,b];rfl
 have v:=yn d l.symm c;rw[z]at v;exact .inl ⟨_,Sum.inr y,.inr ⟨o,e⟩,rfl,v.symm⟩
structure RwO(H0:Hp)(L:List Str)(rl:Addr)(H:Hp)(ds ras:List Addr)(rows:List (List Int×List Str)):Prop where
 s:Same H0 H
 nr:H0 rl=none
 e:H rl=some (.lst (ras.map V.ref))
 l1:ras.length=rows.length
 l2:ds.length=rows.length
 a:∀(i:Nat) (d c:Addr) (x:List Int×List Str),ds[i]?=some d->ras[i]?=some c->rows[i]?=some x->∃w,w≠rl/\H c=some (.tup [.ref d,.ref w])/\H d=some (.dK (knK L x.1))/\x.1.length=L.length/\hB x.1/\H w=some (.lst (x.2.map V.str))
 nd:ds.Nodup
 nw:∀d∈ds,H0 d=none
theorem RwO.nil(s:Same H0 H)(n:H0 rl=none)(e:H rl=some (.lst [])):RwO H0 L rl H [] [] []:=⟨s,n,e,rfl,rfl,fun i d c x h=>by simp at h,nodup_nil,fun d h=>nomatch h⟩
theorem RwO.opn(R:RwO H0 L rl H ds ras rows){d:Addr}(hd:d∈ds):∃kvs,H d=some (.dK kvs):=by
 obtain⟨i,a,e⟩:=mem_iff_getElem.mp hd;have b:=R.l1;have c:=R.l2;obtain⟨w,_,_,z,_⟩:=R.a i d _ _ (by rw[vz a,e]) (vz (by lia)) (vz (by lia));exact⟨_,z⟩
theorem RwO.push(R:RwO H0 L rl H ds ras rows)(s:Same H H'){d w c:Addr}{W:List Str}(hd:H d=none)(G:H' d=some (.dK (knK L h)))(K:h.length=L.length)(a:hB h)(hw:H w=none)(I:H' w=some (.lst (W.map V.str)))(m:H' c=some (.tup [.ref d,.ref w])) :
  RwO H0 L rl (upd H' rl (.lst ((ras++[c]).map V.ref))) (ds++[d]) (ras++[c]) (rows++[(h,W)]):=by
 have J:=s _ _ R.e;have C:w≠rl:=fun z=>by rw[z,R.e]at hw;cases hw
 have e:∀{b u},H' b=some u->b≠rl->upd H' rl (.lst ((ras++[c]).map V.ref)) b=some u:=fun a n=>(jh n).trans a
 have F:d≠rl:=fun z=>by rw[z,R.e]at hd;cases hd
 have E:c≠rl:=fun z=>by rw[z,J]at m;cases m
 have v:=R.l1;have A:=R.l2;refine⟨fun b u a=>e (s _ _ (R.s _ _ a)) (fun z=>by rw[z,R.nr]at a;cases a),R.nr,jC,?_,?_,fun i l D x g j f=>?_,?_,fun l o=>?_⟩
 ·rw[vn,vn,v];rfl
 ·rw[vn,vn,A];rfl
 ·rcases Nat.lt_or_ge i rows.length with k | k
  ·rw[vA (by lia)]at g j f;obtain⟨S,B,q,r,O,P,Q⟩:=R.a i l D x g j f;refine⟨S,B,e (s _ _ q) fun z=>?_,e (s _ _ r) fun z=>?_,O,P,e (s _ _ Q) B⟩
   ·rw[z,R.e]at q;cases q
   ·rw[z,R.e]at r;cases r
  ·have p:i=rows.length:=by
    have:=(vx.mp f).1;rw[vn]at this;have:i<rows.length+1:=this;lia
   rw[vB (by lia),p,A,Nat.sub_self]at g;rw[vB (by lia),p,v,Nat.sub_self]at j;rw[vB (by lia),p,Nat.sub_self]at f;cases g;cases j;cases f;exact⟨w,C,e m E,e G F,K,a,e I C⟩
 ·refine nodup_append.mpr ⟨R.nd,ut.mpr ⟨(fun z=>nomatch z),nodup_nil⟩,fun x t y M z=>?_⟩;rw[vo.mp M]at z;rw[z]at t;obtain⟨N,k⟩:=R.opn t;rw[hd]at k;cases k
 ·rcases vi.mp o with k | k
  ·exact R.nw l k
  ·rw[vo.mp k];exact none_of R.s hd
theorem RwO.run(R:RwO H0 L rl H ds ras rows)(s:Same H H'){f:Hp}{l p j:Addr}{n:Nat}{x:List Int×List Str}(A:H' l=some (.lst ((ras.take n).map V.ref)))(B:H' p=some (.tup [.ref l,.ref j]))(hd:ds[n]?=some j)(C:rows[n]?=some x)(m:Frz ds H' f):Same H0 f/\RunA f L p (rows.take n) x.1:=by
 have F:=R.l1;have J:=R.l2;have a:∀{c u},H' c=some u->(∀k,u≠.dK k)->f c=some u:=fun {c u} e D=>(m.1 c fun z=>by
  obtain⟨E,k⟩:=R.opn z;rw[s _ _ k]at e;cases e;exact D _ rfl).trans e
 have o:∀(i:Nat) (d:Addr) (x:List Int×List Str),ds[i]?=some d->rows[i]?=some x->HtA f L d x.1:=fun i d x b g=>by
  have q:=(vx.mp b).1;obtain⟨w,_,_,r,t,v,_⟩:=R.a i d _ x b (vz (by lia)) g;exact⟨t,v,m.2 d (vm b) _ (s _ _ r)⟩
 refine⟨fun c u e=>(m.1 c fun z=>?_).trans (s _ _ (R.s _ _ e)),l,j,ras.take n,a B (fun k z=>nomatch z),a A (fun k z=>nomatch z),⟨?_,fun i c y b g=>?_⟩,o n j x hd C⟩
 ·rw[R.nw c z]at e;cases e
 ·rw[vj,vj,F]
 ·have q:=(vx.mp b).1;rw[vj]at q;rw[uu (by lia)]at b g;obtain⟨d,h⟩:∃d,ds[i]?=some d:=⟨_,vz (by lia)⟩
  obtain⟨w,_,G,r,t,v,I⟩:=R.a i d c y h b g;exact⟨d,w,a (s _ _ G) (fun k z=>nomatch z),o i d y h g,a (s _ _ I) (fun k z=>nomatch z)⟩
end
noncomputable def sideR(L names:List Str)(fs:List Fn)(gs:List Int)(E:List (List (Int×Int)))(k:Nat)(h:List Int)(m:Nat):List (List Int×List Str):=(List.range m).map fun t:Nat=>(plN L names fs gs E k (t:Int) h,rgN names fs gs k (t:Int))
theorem j2j{gs:List Int}{t:Int}{j:Nat}(h:t<gs.getD j 0):cutT gs t j=(j,t):=by unfold cutT;rw[vd (by lia)]
theorem j2i{gs:List Int}{t:Int}{j:Nat}(h:gs.getD j 0<=t):cutT gs t j=(j,gs.getD j 0):=by unfold cutT;rw[ve h]
theorem j0Q{a b:List Int}{L:List Str}(e:a.length=L.length)(f:b.length=L.length)(h:∀q,q<L.length->a.getD q 0=b.getD q 0):a=b:=by
 refine ext_getElem (by lia) fun q c d=>?_
 have:=h q (by lia);rw[vy,vy,vz c,vz d]at this;exact this
inductive sp_climbR(vs:List V)(H:Hp)(Q:VK)(xk:XK):Prop
 | mk (fa hd:Addr) (L:List Str) (x:Str) (v n:Int) (h:List Int) (_:vs=[.ref fa,.ref hd]) (_:H fa=some (.tup [.str "raise",.str x,.int v,.int n])) (_:HtA H L hd h) (_:L.Nodup) (_:(∃i:Nat,L[i]?=some x)) (_:L.length<=8) (_:0<=v) (_:v<=10^18) (_:1<=n) (_:n<=90) (_:∀(r:Addr) (H':Hp),Same H H'->RunA H' L r (riseR L x v n h n.toNat) (h.set (ixOf L x) v)->Q (.ref r) H'):sp_climbR vs H Q xk
inductive sp_runR(m:Nat)(vs:List V)(H:Hp)(Q:VK)(xk:XK):Prop
 | mk (b pl pp hd:Addr) (las pas:List Addr) (ls:List (Str×Int)) (names:List Str) (fs:List Fn) (M:List (List Int)) (gs:List Int) (E:List (List (Int×Int))) (h:List Int) (j:Nat) (_:vs=[.ref b,.str (names.getD j ⟨#[]⟩),.ref hd]) (_:BookAt H b pl pp las pas ls (drawnPs names fs)) (_:BkR (nmsOf ls) names fs M gs E) (_:j<fs.length) (_:j<m) (_:HtA H (nmsOf ls) hd h) (_:∀(r:Addr) (H':Hp),Same H H'->RunA H' (nmsOf ls) r (runR (nmsOf ls) names fs gs E j h) (setE (E.getD j []) h)->Q (.ref r) H'):sp_runR m vs H Q xk
theorem Xz{vs:List V}{H:Hp}{Q:VK}{E:XK}:¬sp_runR 0 vs H Q E:=fun z=>by
 rcases z with⟨_,_,_,_,_,_,_,_,_,_,_,_,_,_,_,_,_,_,h,_⟩
 exact ug h (Nat.not_lt_zero _)
inductive sp_besideR(m:Nat)(vs:List V)(H:Hp)(Q:VK)(xk:XK):Prop
 | mk (b pl pp hd nb:Addr) (las pas:List Addr) (ls:List (Str×Int)) (names:List Str) (fs:List Fn) (M:List (List Int)) (gs:List Int) (E:List (List (Int×Int))) (h:List Int) (k:Nat) (is:List Nat) (_:vs=[.ref b,.ref nb,.ref hd]) (_:BookAt H b pl pp las pas ls (drawnPs names fs)) (_:BkR (nmsOf ls) names fs M gs E) (_:fs[k]?=some (.side is)) (_:H nb=some (.tup (is.map fun j=>.str (names.getD j ⟨#[]⟩)))) (_:(∀j∈is,j<m)) (_:HtA H (nmsOf ls) hd h) (_:∀(r:Addr) (H':Hp),Same H H'->RunA H' (nmsOf ls) r (runR (nmsOf ls) names fs gs E k h) (setE (E.getD k []) h)->Q (.ref r) H'):sp_besideR m vs H Q xk
inductive sp_toldR(vs:List V)(H:Hp)(Q:VK)(xk:XK):Prop
 | mk (b pl pp:Addr) (las pas:List Addr) (ls:List (Str×Int)) (names:List Str) (fs:List Fn) (M:List (List Int)) (gs:List Int) (E:List (List (Int×Int))) (_:vs=[.ref b]) (_:BookAt H b pl pp las pas ls (drawnPs names fs)) (_:BkR (nmsOf ls) names fs M gs E) (_:1<=fs.length) (_:hB (ls.map (·.2))) (_:∀(l:Addr) (ras:List Addr) (H':Hp),Same H H'->H' l=some (.lst (ras.map V.ref))->All2 (RwA H' (nmsOf ls)) ras (runR (nmsOf ls) names fs gs E (fs.length-1) (ls.map (·.2))++[(setE (E.getD (fs.length-1) []) (ls.map (·.2)),[])])->Q (.ref l) H'):sp_toldR vs H Q xk
theorem kb{pc:Nat->List Pc}{gs:List Int}:∀(n i:Nat) (t:Int),(reachL pc gs n i t).length<=nodesL pc gs n i t
 | 0,i,t=>vc _
 | n+1,i,t=>by
  unfold reachL nodesL;split
  ·exact vc _
  ·rw[List.length_flatMap];have:∀l:List (Nat×Int),(l.map fun x=>(reachL pc gs n x.1 x.2).length).sum<=(l.map fun x=>nodesL pc gs n x.1 x.2).sum:=fun l=>by
    induction l with
    | nil=>exact vc _
    | cons x r ih=>
     have:=kb (pc:=pc) (gs:=gs) n x.1 x.2;rw[v6,v6,v7,v7];lia
   have:=this (wth gs t (pc i));lia
theorem j0f{ps:List (Str×Fm)}{x:Nat×Int}:(ringX ps x).length<=1:=by
 unfold ringX;split
 ·split
  ·exact vc _
  ·exact vb _
 ·exact vb _
theorem j3K{ls:List (Str×Int)}{names:List Str}{fs:List Fn}{gs:List Int}{M:List (List Int)}(N:Sn ls (drawnPs names fs) gs M)(j:Nat)(t:Int)(f:j<fs.length)(g:0<=t):(rgN names fs gs j t).length<=5000:=by
 have d:∀i,i<(drawnPs names fs).length->(M.getD i []).length<=8:=fun i e=>Xw N.s.w N.hl N.m (Kj N.s N.hl e)
 have a:=N.nodes d (i:=j) (t:=t) (by rw[JF];exact f) g;have b:=kb (pc:=pcB (drawnPs names fs) gs) (gs:=gs) (j+1) j t;have c:∀l:List (Nat×Int),(l.flatMap (ringX (drawnPs names fs))).length<=l.length:=fun l=>by
  induction l with
  | nil=>exact vc _
  | cons x r ih=>
   rw[flatMap_cons,vn,vO];have:=j0f (ps:=drawnPs names fs) (x:=x);lia
 have c:=c (reach (drawnPs names fs) gs j t);unfold rgN;have b:(reach (drawnPs names fs) gs j t).length<=Rm.nodes (drawnPs names fs) gs j t:=b;lia
noncomputable def ddS:Str:="dingdong"
theorem j3R:∀p,p<3->∀k,k<50->wdB p k≠ddS:=by decide +kernel
theorem j1f{p c m:Nat}(d:p<3):∀x∈nmB p 5 c m,x≠ddS:=fun x b=>by
 unfold nmB at b;obtain⟨k,a,rfl⟩:=vJ.mp b;have a:=vZ.mp a;refine j3R p d _ ?_;unfold ixB;have:=Nat.mod_le k m;split<;>lia
def NoDd(f:Fn):Prop:=∀x n,f = .ring x n->x≠ddS
theorem j25{xs:List Str}{k:Int}(h:∀x∈xs,x≠ddS):wdF xs k≠ddS:=by
 unfold wdF;rw[vy];cases e:xs[k.toNat]? with
 | none=>exact(by decide +kernel:(⟨#[]⟩:Str)≠ddS)
 | some x=>exact h x (vm e)
theorem j0T{n:Int}{nm:List Str}{Ms:List (List Str)}{ls:List (Str×Int)}{b0 b1 b2 b3:Int}(h:∀x∈nm,x≠ddS):NoDd (formF n nm Ms ls b0 b1 b2 b3):=fun x m e=>by
 unfold formF at e;split at e
 ·cases e
 split at e
 ·injection e with e1 e2;rw[<-e1];refine j25 fun y a=>?_
  rcases vi.mp a with a | a
  ·rcases vi.mp a with a | a
   ·rcases mem_cons.mp a with rfl | a
    ·decide +kernel
    ·rw[vo.mp a];decide +kernel
   ·exact h y (v8 a)
  ·rw[vo.mp a];decide +kernel
 split at e
 ·cases e
 split at e
 ·cases e
 split at e
 ·cases e
 ·cases e
theorem j2I{x y a:Int}{n:Nat}{Ms:List (List Str)}{b0 b3:Int}:NoDd (namF x y a n Ms b0 b3):=fun z m e=>by
 unfold namF at e;split at e
 ·cases e
 split at e
 ·cases e
 split at e
 ·cases e
 ·cases e
theorem j2u{x y:Int}{nm:List Str}{Ms:List (List Str)}{ls:List (Str×Int)}{b0 b1 b2 b3:Int}(h:∀x∈nm,x≠ddS):NoDd (frmT x y nm Ms ls b0 b1 b2 b3):=fun z m e=>by
 unfold frmT at e;dsimp only at e;split at e
 ·exact j2I z m e
 split at e
 ·cases e
 split at e
 ·injection e with e1 e2;rw[<-e1];refine j25 fun y a=>?_
  rcases vi.mp a with a | a
  ·rcases mem_cons.mp a with rfl | a
   ·decide +kernel
   ·rcases mem_cons.mp a with rfl | a
    ·decide +kernel
    ·rw[vo.mp a];decide +kernel
  ·exact h y (v8 a)
 ·cases e
theorem Xd{b4:Int}{gs:List Int}{f:Fn}(h:NoDd f):NoDd (cutF b4 gs f):=by
 unfold cutF;split
 ·exact fun x n e=>by cases e
 ·exact h
theorem Xu{e:Bool}{b4:Int}{gs:List Int}{i:Nat}{f:Fn}(h:NoDd f):NoDd (lstF e b4 gs i f):=by
 unfold lstF;split
 ·exact fun x n e=>by cases e
 ·exact h
theorem XD{S:BS}{f:Fn}(h:∀g∈S.1,NoDd g)(b:NoDd f):∀g∈(putS S f).1,NoDd g:=fun g a=>by
 rcases vi.mp a with a | a
 ·exact h g a
 ·rw[vo.mp a];exact b
theorem j1Q{ns:List Int}{many:Nat}{hd:Int}{ls:List (Str×Int)}{names:List Str}{b0 b1 b2 b3 b4:Int}(h:∀x∈names,x≠ddS):∀i,∀g∈(stN ns many hd ls names b0 b1 b2 b3 b4 i).1,NoDd g
 | 0=>fun g a=>nomatch a
 | i+1=>by
  rw[WS];exact XD (j1Q h i) (Xd (Xu (j0T fun x b=>h x (v8 b))))
theorem j1R{ns:List Int}{many:Nat}{en:Int}{ls:List (Str×Int)}{names:List Str}{b0 b1 b2 b3 b4:Int}(h:∀x∈names,x≠ddS):∀i,∀g∈(stT ns many en ls names b0 b1 b2 b3 b4 i).1,NoDd g
 | 0=>fun g a=>nomatch a
 | i+1=>by
  rw[WT];exact XD (j1R h i) (Xd (Xu (j2u fun x b=>h x (v8 b))))
theorem j3d{ns:List Int}{many:Nat}{b0 b1 b2 b3 b4:Int}{ls:List (Str×Int)}{names:List Str}{fs:List Fn}(e:bkF ns many b0 b1 b2 b3 b4=(ls,names,fs)):∀g∈fs,NoDd g:=by
 unfold bkF at e;split at e
 ·unfold bkT at e;injection e with e1 e2;injection e2 with e2 e3;rw[<-e3];have b:=Jd (x:=abI (Pr.cell ns 0)/2) (y:=7) (m:=3) (by decide);exact j1R (j1f (by unfold t1T;lia)) _
 ·unfold bkN at e;injection e with e1 e2;injection e2 with e2 e3;rw[<-e3];have b0:=vf (hdN ns) (show(3:Int)≠0 by decide);have b1:=vg (hdN ns) (show(0:Int)<3 by decide);exact j1Q (j1f (by lia)) _
theorem XH{names:List Str}{fs:List Fn}{gs:List Int}(h:∀g∈fs,NoDd g):∀n,rungN ddS (drawnPs names fs) gs n=0
 | 0=>rfl
 | n+1=>by
  show rungN ddS (drawnPs names fs) gs n+(((ringsW (drawnPs names fs) gs (n:Int)).count ddS:Nat):Int)=0;rw[XH h n,List.count_eq_zero.mpr]
  ·rfl
  intro m;unfold ringsW at m;obtain⟨x,_,a⟩:=mem_flatMap.mp m;unfold ringX at a;split at a
  case h_2=>cases a
  case h_1 y z w e=>
   split at a
   case isFalse=>cases a
   have a:=vo.mp a;obtain⟨i,b⟩:∃f,fs[x.1]?=some f:=by
    have:=(vx.mp e).1;rw[JF]at this;exact⟨_,vz this⟩
   rw[q0 b]at e;have e:=congrArg (·.2) (vK e);cases i with
   | ring x' n'=>
    have e:Fm.ring x' n'=Fm.ring z w:=e;injection e with e1 e2;exact h _ (vm b) x' n' rfl (e1.trans a.symm)
   | hold _=>cases e
   | rise _ _ _=>cases e
   | row _=>cases e
   | side _=>cases e
   | again _ _=>cases e
end Rm
namespace L2
inductive IvA2(a0 a1:Prop):Prop | mk:a0->a1->IvA2 a0 a1
inductive IvA3(a0 a1 a2:Prop):Prop | mk:a0->a1->a2->IvA3 a0 a1 a2
inductive IvA4(a0 a1 a2 a3:Prop):Prop | mk:a0->a1->a2->a3->IvA4 a0 a1 a2 a3
inductive IvA5(a0 a1 a2 a3 a4:Prop):Prop | mk:a0->a1->a2->a3->a4->IvA5 a0 a1 a2 a3 a4
inductive IvA6(a0 a1 a2 a3 a4 a5:Prop):Prop | mk:a0->a1->a2->a3->a4->a5->IvA6 a0 a1 a2 a3 a4 a5
inductive IvA7(a0 a1 a2 a3 a4 a5 a6:Prop):Prop | mk:a0->a1->a2->a3->a4->a5->a6->IvA7 a0 a1 a2 a3 a4 a5 a6
inductive IvA10(a0 a1 a2 a3 a4 a5 a6 a7 a8 a9:Prop):Prop | mk:a0->a1->a2->a3->a4->a5->a6->a7->a8->a9->IvA10 a0 a1 a2 a3 a4 a5 a6 a7 a8 a9
inductive IvA14(a0 a1 a2 a3 a4 a5 a6 a7 a8 a9 a10 a11 a12 a13:Prop):Prop | mk:a0->a1->a2->a3->a4->a5->a6->a7->a8->a9->a10->a11->a12->a13->IvA14 a0 a1 a2 a3 a4 a5 a6 a7 a8 a9 a10 a11 a12 a13
inductive IvE1{α0:Type}(p:α0->Prop):Prop | mk (x0) (h:p x0):IvE1 p
inductive IvE2{α0 α1:Type}(p:α0->α1->Prop):Prop | mk (x0 x1) (h:p x0 x1):IvE2 p
inductive IvE3{α0 α1 α2:Type}(p:α0->α1->α2->Prop):Prop | mk (x0 x1 x2) (h:p x0 x1 x2):IvE3 p
inductive IvE4{α0 α1 α2 α3:Type}(p:α0->α1->α2->α3->Prop):Prop | mk (x0 x1 x2 x3) (h:p x0 x1 x2 x3):IvE4 p
inductive IvE5{α0 α1 α2 α3 α4:Type}(p:α0->α1->α2->α3->α4->Prop):Prop | mk (x0 x1 x2 x3 x4) (h:p x0 x1 x2 x3 x4):IvE5 p
inductive IvE6{α0 α1 α2 α3 α4 α5:Type}(p:α0->α1->α2->α3->α4->α5->Prop):Prop | mk (x0 x1 x2 x3 x4 x5) (h:p x0 x1 x2 x3 x4 x5):IvE6 p
inductive IvE7{α0 α1 α2 α3 α4 α5 α6:Type}(p:α0->α1->α2->α3->α4->α5->α6->Prop):Prop | mk (x0 x1 x2 x3 x4 x5 x6) (h:p x0 x1 x2 x3 x4 x5 x6):IvE7 p
inductive IvE8{α0 α1 α2 α3 α4 α5 α6 α7:Type}(p:α0->α1->α2->α3->α4->α5->α6->α7->Prop):Prop | mk (x0 x1 x2 x3 x4 x5 x6 x7) (h:p x0 x1 x2 x3 x4 x5 x6 x7):IvE8 p
inductive IvE9{α0 α1 α2 α3 α4 α5 α6 α7 α8:Type}(p:α0->α1->α2->α3->α4->α5->α6->α7->α8->Prop):Prop | mk (x0 x1 x2 x3 x4 x5 x6 x7 x8) (h:p x0 x1 x2 x3 x4 x5 x6 x7 x8):IvE9 p
inductive IvE10{α0 α1 α2 α3 α4 α5 α6 α7 α8 α9:Type}(p:α0->α1->α2->α3->α4->α5->α6->α7->α8->α9->Prop):Prop | mk (x0 x1 x2 x3 x4 x5 x6 x7 x8 x9) (h:p x0 x1 x2 x3 x4 x5 x6 x7 x8 x9):IvE10 p
end L2
theorem L2.fsc{N P:List PySem.Str}{h:PySem.Scope}(a:h.kind = .function:=by rfl)(b:h.isCoroutine=false:=by rfl)(c:h.isGenerator=false:=by rfl)(d:N.Nodup:=by decide +kernel)(e:N.take P.length=P:=by rfl)(f:∀x∈P,h.names.lookup x=some .local\/h.names.lookup x=some .cell:=by decide +kernel)(g:∀y∈h.names,y.2≠.free:=by decide +kernel):L2.FnScope N P h:=⟨a,b,c,d,e,f,g⟩
structure PySem.W.Fast:Prop where
  (tw11517263156506684616 tw4634966998359223584 tw3559623343330871821 tw18316864496290905545 tw13677571379185164817 tw16808232637364300713 tw9564661341312921959 tw12017314818792530292 tw8287523145067294382 tw2142977300786395373 tw1373402982392829134 tw1101839033419530647 tw14294851505949963187 tw13185233575819601780 tw17411564770199358934 tw2189845126191664254 tw7406599266649748460 tw14750123819776757175 tw13188552729214520072 tw2639293715932086001 tw8362832015696957076 tw17416756643671907182 tw5107045374593639803 tw7045346247369840738 tw8310795008503591392 tw16599428185574039346 tw9469338496573088455 tw3073112075253958958 tw11502322518570678964 tw291016022113632484 tw12650817431613689893 tw5616518881429098612 tw2012398504858188552 tw2760800034415165688 tw14928774465850720281 tw13744018387923095859 tw12663967313280602879 tw9345042466886402671 tw2726964075951466992 tw18145831217743793679 tw12095301153975554231 tw11732182503838050305 tw1155493559489907703 tw8545931729375861083 tw12160534467644857495 tw13290543062614347183 tw12582954660353050563 tw4844509844826693725 tw2672474218418652338 tw12412164603155221284 tw687631813480639830 tw13187844905296172255 tw10362445604275860603 tw11172821089800940897 tw7033244067153379825 tw17795335671491451940 tw14292727292347609725 tw4256949324325661659 tw4722871380715124433 tw17001846062001624265 tw11194100706587207409 tw13860389822475459392 tw1068577038720141192 tw10251717519500751419 tw12746921256552654828 tw820663303398592186 tw2639121933260851540 tw10063532547540751398 tw9805896565438309388 tw6639512264345623302 tw17701370259278977572 tw6461757760842286988 tw16257994528582405949 tw16068189177007974755 tw1407672446750605777 tw6424115994910726108 tw8619218052527543467 tw17728041101839475079 tw16929895145002260770 tw10479890751247517419 tw6235996546189287988 tw6028168083672149788 tw15117878939124742511 tw15761020132197001221 tw3226002508137949420 tw15368930195221105976 tw18186183292027732272 tw12564696662007146148 tw4305920823726247697 tw13738896429067610184 tw5906762664347243613 tw11243897731006922549 tw2304089519741922271 tw3007713252730968613 tw11722031518952130456 tw6768001441089892706 tw7859899786465991421 tw13232913440627382821 tw8237867503780447197 tw1858238526355143499 tw11391182402172043517 tw3266152414521133106 tw16288041510022906951 tw5222291233986130123 tw13419040078388250914 tw18323877670994031369 tw16584275971866907206 tw16996776406932925027 tw1538962122869462482 tw12189417546041146652 tw1359235618703826740 tw3659317784159194263 tw17073976728254349102 tw12144514933584909017 tw13519648411607905276 tw18383387813669362037 tw12269863820527234460 tw4974890775404046707 tw15012420234825504315 tw15518898132799066731 tw4339690598025332474 tw18126639892374130296 tw18298389914994567157 tw489734813696575441 tw8250158733580804055 tw1836157644235618755 tw419337670074277656 tw11775505526714957145 tw12990135190121267716 tw11098552807022161053 tw2809195824092685227 tw14097320714012598189 tw8666380630756057376 tw8228594243424985627 tw13323711205065686517 tw9969513940534630582 tw2348140246321953713 tw10218901872852518110 tw15930382594901886022 tw10200590579193825147 tw17471810118296374379 tw18081261495304484184 tw9561253384028205497 tw8581449692051787277 tw16046577953933728390 tw3841684339630652459 tw4092701599277713422 tw17045854144082065320 tw15269155586213851982 tw390048985302264052 tw2242585623897994161 tw18259797187280856396 tw3491568901902593303 tw15885523342601347202 tw16432892929823088975 tw16445840630314557799 tw12865664130014239505 tw10097139693967271403 tw12377676773450705690 tw16182723521352676886 tw3764522283117289987 tw7116763036370154301 tw14417171815215270695 tw16830761084589068414 tw6478250130777107539 tw15950976573220828760 tw251094400324968497 tw16550597220269802662 tw5939512628215207739 tw7180508732572541946 tw13460200868256586001 tw9484713490693835619 tw11501538990068399669 tw13407745351620177885 tw7188361013481969092 tw9396347320980374358 tw3255692970828827919 tw15680810832657748815 tw8800514655695878415 tw1761046522459482428 tw12461368219409722819 tw11315225592163354746 tw1548931802923074716 tw16600021994028408058 tw5696914915573143295 tw13315771475333356651:True)
theorem Rm.iteE0{b:Bool}{A B:Prop}(h:B)(e:b=false:=by decide +kernel):if b=true then A else B:=Rm.iteB0 e h
theorem Rm.iteE1{b:Bool}{A B:Prop}(h:A)(e:b=true:=by decide +kernel):if b=true then A else B:=Rm.iteB1 e h
namespace K24
open PySem L2 Rm
noncomputable def top(i:Nat):Stmt:=PySem.Challenge.pw_camplay_k24_rings_counted.main.body.getD i (.Pass ⟨0,0,0,0⟩)
noncomputable abbrev zU:Stmt:=top 8
theorem Qs:FnScope ["named","numbers","number","one"] ["named"] (defScope zU):=fsc
noncomputable abbrev ZZ:Stmt:=top 9
theorem WP:FnScope ["form"] ["form"] (defScope ZZ):=fsc
noncomputable abbrev Yx:Stmt:=top 11
theorem Zy:FnScope ["book","numbers","found","name","form"] ["book"] (defScope Yx):=fsc
noncomputable abbrev xR:Stmt:=top 12
theorem zj:FnScope ["book","limbs","found","part","inside","form","left","other"] ["book"] (defScope xR):=fsc
noncomputable abbrev Yy:Stmt:=top 13
theorem kh:FnScope ["book","found","left"] ["book"] (defScope Yy):=fsc
noncomputable abbrev QQ:Stmt:=top 14
theorem zn:FnScope ["row","moves","limbs","number","limb"] ["row","moves","limbs"] (defScope QQ):=fsc
noncomputable abbrev Zw:Stmt:=top 15
theorem wG:FnScope ["form","inside"] ["form","inside"] (defScope Zw):=fsc
noncomputable abbrev zx:Stmt:=top 16
theorem qF:FnScope ["book","moves","found","row","inside","form","length"] ["book"] (defScope zx):=fsc
noncomputable abbrev Zx:Stmt:=top 18
theorem JQ:FnScope ["form","inside","sizes","part","later","found","begin"] ["form","inside","sizes"] (defScope Zx):=fsc
noncomputable abbrev zi:Stmt:=top 19
theorem wH:FnScope ["book","sizes"] ["book","sizes"] (defScope zi):=fsc
noncomputable abbrev Z0:Stmt:=top 20
theorem J3:FnScope ["pieces","sizes","gone","found","part","turns","begin","over","rest"] ["pieces","sizes","gone"] (defScope Z0):=fsc
noncomputable abbrev Jq:Stmt:=(inClass (top 22) 0)
theorem Jn:FnScope ["self","book","word","part","pieces","own"] ["self","book","word"] (defScope Jq):=fsc
noncomputable abbrev Qe:Stmt:=(inClass (top 22) 1)
theorem jJ:FnScope ["self","beat","told","playing","now","other","begin","over","rest"] ["self","beat"] (defScope Qe):=fsc
noncomputable abbrev ZY:Stmt:=top 23
theorem WO:FnScope ["tally","beat"] ["tally","beat"] (defScope ZY):=fsc
noncomputable abbrev zV:Stmt:=top 24
theorem kQ:FnScope ["book","word","beat"] ["book","word","beat"] (defScope zV):=fsc
noncomputable abbrev Q5:Stmt:=top 26
theorem Yn:FnScope ["_law_script","_law_k"] ["_law_script","_law_k"] (defScope Q5):=fsc
noncomputable abbrev zQ:Stmt:=top 27
theorem kO:FnScope ["_law_cell","_law_k"] ["_law_cell","_law_k"] (defScope zQ):=fsc
noncomputable abbrev zT:Stmt:=top 28
theorem kP:FnScope ["_law_found"] ["_law_found"] (defScope zT):=fsc
noncomputable abbrev Zv:Stmt:=top 29
theorem wF:FnScope ["_law_place","_law_k"] ["_law_place","_law_k"] (defScope Zv):=fsc
noncomputable abbrev QP:Stmt:=top 30
theorem Ju:FnScope ["_law_number","_law_names","_law_movers","_law_kind","_law_some","_law_used","_law_j","_law_at","_law_twice"] ["_law_number","_law_names","_law_movers","_law_kind"] (defScope QP):=fsc
noncomputable abbrev Zr:Stmt:=top 31
theorem qr:FnScope ["_law_number","_law_names","_law_movers","_law_limbs","_law_bounds","_law_kind","_law_more","_law_beats","_law_at"] ["_law_number","_law_names","_law_movers","_law_limbs","_law_bounds"] (defScope Zr):=fsc
noncomputable abbrev QI:Stmt:=top 32
theorem wE:FnScope ["_law_form_here","_law_known"] ["_law_form_here","_law_known"] (defScope QI):=fsc
noncomputable abbrev zR:Stmt:=top 33
theorem Jt:FnScope ["_law_form_here","_law_names","_law_movers","_law_inner","_law_found","_law_name","_law_one"] ["_law_form_here","_law_names","_law_movers"] (defScope zR):=fsc
noncomputable abbrev Zs:Stmt:=top 34
theorem Qf:FnScope ["_law_names","_law_known","_law_most","_law_some","_law_total","_law_name"] ["_law_names","_law_known","_law_most"] (defScope Zs):=fsc
noncomputable abbrev Zt:Stmt:=top 35
theorem yC:FnScope ["_law_pool","_law_many","_law_found"] ["_law_pool","_law_many"] (defScope Zt):=fsc
noncomputable abbrev qz:Stmt:=top 36
theorem j7:FnScope ["_law_pool","_law_kind","_law_names","_law_movers","_law_bounds","_law_times","_law_many","_law_some","_law_used","_law_j","_law_at","_law_twice"] ["_law_pool","_law_kind","_law_names","_law_movers","_law_bounds"] (defScope qz):=fsc
noncomputable abbrev Qm:Stmt:=top 37
theorem Jr:FnScope ["_law_pool","_law_names","_law_movers","_law_limbs","_law_bounds","_law_kind","_law_beats","_law_limb","_law_some"] ["_law_pool","_law_names","_law_movers","_law_limbs","_law_bounds"] (defScope Qm):=fsc
noncomputable abbrev Ql:Stmt:=top 38
theorem jy:FnScope ["_law_script","_law_many","_law_bounds","_law_pool","_law_place","_law_limbs","_law_k","_law_called","_law_ended","_law_names","_law_movers","_law_known","_law_parts","_law_cell","_law_own","_law_form_here","_law_name"] ["_law_script","_law_many","_law_bounds"] (defScope Ql):=fsc
noncomputable abbrev Zq:Stmt:=top 39
theorem jN:FnScope ["_law_script","_law_many","_law_bounds","_law_head","_law_limbs","_law_k","_law_height","_law_names","_law_movers","_law_known","_law_parts","_law_number","_law_form_here","_law_name"] ["_law_script","_law_many","_law_bounds"] (defScope Zq):=fsc
noncomputable abbrev qy:Stmt:=top 40
theorem jS:FnScope ["_law_book_here","_law_names","_law_heights","_law_runs","_law_rows","_law_j","_law_now","_law_words","_law_some","_law_behind","_law_there","_law_limb"] ["_law_book_here","_law_names","_law_heights"] (defScope qy):=fsc
noncomputable abbrev Q6:Stmt:=top 41
theorem JS:FnScope ["_law_form_here","_law_heights","_law_rows","_law_start","_law_j","_law_now"] ["_law_form_here","_law_heights"] (defScope Q6):=fsc
noncomputable abbrev zS:Stmt:=top 42
theorem Jg:FnScope ["_law_book_here","_law_name","_law_heights","_law_form_here","_law_rows","_law_inner","_law_one","_law_more"] ["_law_book_here","_law_name","_law_heights"] (defScope zS):=fsc
noncomputable abbrev Zu:Stmt:=top 43
theorem zW:FnScope ["_law_book_here","_law_rows","_law_heights"] ["_law_book_here"] (defScope Zu):=fsc
noncomputable abbrev XI:Stmt:=top 44
theorem zo:FnScope ["_law_script","_law_many","_law_book_here","_law_beats","_law_rows","_law_word_here","_law_due","_law_beat","_law_found"] ["_law_script"] (defScope XI):=fsc
set_option genInjectivity false in
set_option genSizeOf false in
structure Ad where
 qh:Addr
 qk:FuncData
 QU:Addr
 QX:FuncData
 zH:Addr
 zI:FuncData
 YI:Addr
 YS:FuncData
 ya:Addr
 yh:FuncData
 qT:Addr
 qY:FuncData
 Qy:Addr
 QE:FuncData
 zr:Addr
 zt:FuncData
 Qz:Addr
 QF:FuncData
 QA:Addr
 QG:FuncData
 QV:Addr
 QY:FuncData
 j4:Addr
 Jf:FuncData
 Jo:Addr
 Jp:FuncData
 QT:Addr
 QW:FuncData
 qU:Addr
 qZ:FuncData
 Jx:Addr
 JC:FuncData
 JL:Addr
 JN:FuncData
 qS:Addr
 qX:FuncData
 qJ:Addr
 qM:FuncData
 qR:Addr
 qW:FuncData
 Qw:Addr
 QC:FuncData
 qI:Addr
 qL:FuncData
 qg:Addr
 qj:FuncData
 qH:Addr
 qK:FuncData
 JY:Addr
 JZ:FuncData
 qw:Addr
 qx:FuncData
 Jz:Addr
 JE:FuncData
 Jw:Addr
 JB:FuncData
 Qv:Addr
 QB:FuncData
 Qn:Addr
 Qp:FuncData
 Jy:Addr
 JD:FuncData
 JM:Addr
 JO:FuncData
 Qx:Addr
 QD:FuncData
 Xa:Addr
 Wa:FuncData
 jP:Addr
 qt:Addr
structure Txt(K:Frg)(mg:Str->Option Value)(t:Ad):Prop where
 zD:Fun K "numbers_of" "numbers_of" zU t.qh t.qk
 yr:mg "numbers_of"= some (.ref t.qh)
 Z4:Binds K t.qk ["named"] []
 YF:Fun K "names_in" "names_in" ZZ t.QU t.QX
 xw:mg "names_in"= some (.ref t.QU)
 WZ:Binds K t.QX ["form"] []
 Yo:Fun K "inner" "inner" Yx t.zH t.zI
 KZ:mg "inner"= some (.ref t.zH)
 Kz:Binds K t.zI ["book"] []
 j0y:Fun K "ends" "ends" xR t.YI t.YS
 j3p:mg "ends"= some (.ref t.YI)
 j37:Binds K t.YS ["book"] []
 xZ:Fun K "moved" "moved" Yy t.ya t.yh
 j2E:mg "moved"= some (.ref t.ya)
 j26:Binds K t.yh ["book"] []
 Z7:Fun K "check_side" "check_side" QQ t.qT t.qY
 KY:mg "check_side"= some (.ref t.qT)
 Ky:Binds K t.qY ["row","moves","limbs"] []
 Yb:Fun K "length_of" "length_of" Zw t.Qy t.QE
 Wt:mg "length_of"= some (.ref t.Qy)
 wQ:Binds K t.QE ["form","inside"] []
 kS:Fun K "lengths" "lengths" zx t.zr t.zt
 j03:mg "lengths"= some (.ref t.zr)
 XT:Binds K t.zt ["book"] []
 Yd:Fun K "pieces_in" "pieces_in" Zx t.Qz t.QF
 Wu:mg "pieces_in"= some (.ref t.Qz)
 wR:Binds K t.QF ["form","inside","sizes"] []
 Ye:Fun K "pieces_of" "pieces_of" zi t.QA t.QG
 Wv:mg "pieces_of"= some (.ref t.QA)
 wS:Binds K t.QG ["book","sizes"] []
 YG:Fun K "progress" "progress" Z0 t.QV t.QY
 xy:mg "progress"= some (.ref t.QV)
 W0:Binds K t.QY ["pieces","sizes","gone"] []
 Zc:Fun K "__init__" "RingTally.__init__" Jq t.j4 t.Jf
 wN:Meth K t.jP "__init__" t.j4
 Zb:Binds K t.Jf ["self","book","word"] []
 Z5:Fun K "ahead" "RingTally.ahead" Qe t.Jo t.Jp
 ZS:Meth K t.jP "ahead" t.Jo
 Z2:Binds K t.Jp ["self","beat"] []
 YE:Fun K "ahead_of" "ahead_of" ZY t.QT t.QW
 xv:mg "ahead_of"= some (.ref t.QT)
 WY:Binds K t.QW ["tally","beat"] []
 Z8:Fun K "ring_count" "ring_count" zV t.qU t.qZ
 K0:mg "ring_count"= some (.ref t.qU)
 KA:Binds K t.qZ ["book","word","beat"] []
 Jv:Fun K "_law_cell_at" "_law_cell_at" Q5 t.Jx t.JC
 J1:mg "_law_cell_at"= some (.ref t.Jx)
 JW:Binds K t.JC ["_law_script","_law_k"] []
 JK:Fun K "_law_mixed" "_law_mixed" zQ t.JL t.JN
 qq:mg "_law_mixed"= some (.ref t.JL)
 qd:Binds K t.JN ["_law_cell","_law_k"] []
 Z6:Fun K "_law_whole" "_law_whole" zT t.qS t.qX
 KW:mg "_law_whole"= some (.ref t.qS)
 Kx:Binds K t.qX ["_law_found"] []
 Qu:Fun K "_law_word" "_law_word" Zv t.qJ t.qM
 ze:mg "_law_word"= some (.ref t.qJ)
 Q8:Binds K t.qM ["_law_place","_law_k"] []
 QN:Fun K "_law_named" "_law_named" QP t.qR t.qW
 zJ:mg "_law_named"= some (.ref t.qR)
 zB:Binds K t.qW ["_law_number","_law_names","_law_movers","_law_kind"] []
 y9:Fun K "_law_form" "_law_form" Zr t.Qw t.QC
 Wq:mg "_law_form"= some (.ref t.Qw)
 wO:Binds K t.QC ["_law_number","_law_names","_law_movers","_law_limbs","_law_bounds"] []
 Qt:Fun K "_law_long" "_law_long" QI t.qI t.qL
 zd:mg "_law_long"= some (.ref t.qI)
 Q7:Binds K t.qL ["_law_form_here","_law_known"] []
 zC:Fun K "_law_moves" "_law_moves" zR t.qg t.qj
 yq:mg "_law_moves"= some (.ref t.qg)
 Z3:Binds K t.qj ["_law_form_here","_law_names","_law_movers"] []
 Zf:Fun K "_law_last" "_law_last" Zs t.qH t.qK
 Yi:mg "_law_last"= some (.ref t.qH)
 y8:Binds K t.qK ["_law_names","_law_known","_law_most"] []
 jH:Fun K "_law_take" "_law_take" Zt t.JY t.JZ
 jM:mg "_law_take"= some (.ref t.JY)
 jL:Binds K t.JZ ["_law_pool","_law_many"] []
 ZI:Fun K "_law_naming" "_law_naming" qz t.qw t.qx
 kG:mg "_law_naming"= some (.ref t.qw)
 kC:Binds K t.qx ["_law_pool","_law_kind","_law_names","_law_movers","_law_bounds"] []
 zq:Fun K "_law_form_told" "_law_form_told" Qm t.Jz t.JE
 yV:mg "_law_form_told"= some (.ref t.Jz)
 yH:Binds K t.JE ["_law_pool","_law_names","_law_movers","_law_limbs","_law_bounds"] []
 zp:Fun K "_law_book_told" "_law_book_told" Ql t.Jw t.JB
 yU:mg "_law_book_told"= some (.ref t.Jw)
 yG:Binds K t.JB ["_law_script","_law_many","_law_bounds"] []
 Zd:Fun K "_law_book" "_law_book" Zq t.Qv t.QB
 Yh:mg "_law_book"= some (.ref t.Qv)
 y6:Binds K t.QB ["_law_script","_law_many","_law_bounds"] []
 ZH:Fun K "_law_beside" "_law_beside" qy t.Qn t.Qp
 kF:mg "_law_beside"= some (.ref t.Qn)
 kB:Binds K t.Qp ["_law_book_here","_law_names","_law_heights"] []
 Ze:Fun K "_law_climbed" "_law_climbed" Q6 t.Jy t.JD
 Y0:mg "_law_climbed"= some (.ref t.Jy)
 YD:Binds K t.JD ["_law_form_here","_law_heights"] []
 QS:Fun K "_law_run" "_law_run" zS t.JM t.JO
 ZR:mg "_law_run"= some (.ref t.JM)
 ZL:Binds K t.JO ["_law_book_here","_law_name","_law_heights"] []
 Ya:Fun K "_law_told" "_law_told" Zu t.Qx t.QD
 Wr:mg "_law_told"= some (.ref t.Qx)
 wP:Binds K t.QD ["_law_book_here"] []
 j31:Fun K "law" "law" XI t.Xa t.Wa
 j3X:mg "law"= some (.ref t.Xa)
 j41:Binds K t.Wa ["_law_script"] []
 jI:Cls K t.jP
 wT:Mk K t.jP t.j4
 K4:mg "RingTally"= some (.ref t.jP)
 jT:NoAttr K t.jP "sizes"
 Jj:NoAttr K t.jP "last"
 jV:NoAttr K t.jP "pieces"
 jQ:NoAttr K t.jP "wholes"
 j0C:mg "abs"= none
 j3b:mg "bool"= none
 YJ:mg "dict"= none
 Zl:mg "enumerate"= none
 j3S:mg "int"= none
 yc:mg "isinstance"= none
 JJ:mg "len"= none
 j3c:mg "list"= none
 Xb:mg "max"= none
 j0D:mg "min"= none
 qV:mg "range"= none
 W6:mg "reversed"= none
 j0E:mg "sorted"= none
 j0F:mg "sum"= none
 Yp:mg "tuple"= none
 j0G:mg "zip"= none
 KK:mg "MOST_NAMES"= some (.ref t.qt)
 qp:TabK K t.qt [("row",.flat (.int 8)),("side",.flat (.int 4))]
section
variable{P:Program}{w:World}{K:Frg}{mg:Str->Option Value}{base:Heap}{t:Ad}
theorem kM(T:Txt K mg t):FnOk P w K mg base CX0 1 t.qh t.qk ["named"] (sp_numbers_of):=by
 refine T.zD.ok Qs (fun vs H Q E h=>?_) (fun O A o s H vs Q E Y h=>?_)
 ·cases h;subst_vars;rfl
 obtain⟨l,N,xs,rfl,C,X,U,nd,F,q⟩:=h;refine⟨_,(jb (jp (i:=1) Qs.nd rfl (.inl rfl) yx)
  (jb (Jc PassesOwn.never rfl (wt (by rfl) T.Zl (ja (pv 0) jc)) (qD rfl (jF (ju (i:=2) Qs.nd rfl (.inl rfl)) (jF (ju (i:=3) Qs.nd rfl (.inl rfl)) JP)))
   (jg (ZD (qO Y) (pv 1) (ji jt (pv 3) jd) (pv 2) rfl)))
  (jg (jA (pv 1))))),?_⟩
 refine jG (σ':=[some _,none,none,none]) rfl ?_;have sz:(200:Nat)<sizeLine:=by decide
 walk_at"g";walk_at"f d hd H1 s1 t1";exists⟨l,_,rfl,SqL.of (s1 _ _ C),?_⟩;refine YX (xs:=N.map V.ref) (fun i x c=>IvE2 fun(m n:Option V)=>IvA2 (x=[some (.ref l),some (.ref d),m,n]) (Same H c/\c d=some (.dK (numK (xs.take i))))) ⟨_,_,rfl,s1,t1⟩ ?_ ?_ ?_
 ·rintro i x c _ ⟨m,n,rfl,g,f⟩;exact SqL.of (g _ _ C)
 ·rintro i v x c P M I ⟨m,n,rfl,g,f⟩ L tP;rw[vv]at I;obtain⟨a,B,rfl⟩:=vh.mp I;have hi:=(vx.mp B).1;have D:xs[i]?=some xs[i]:=vz (by lia);obtain⟨r,S⟩:=U i a _ B D;have J:=g.trans L;have p:(xs.take i).length=i:=by rw[vj];lia
  refine Qk (SqT.of tP) ?_;exists ixTm (SqT.of (J _ _ S)) rfl ?_;refine⟨d,_,rfl,DPut.k (k:=Sum.inr xs[i]) (L _ _ f) (by rw[j1m,p];lia),?_⟩;have W:(Sum.inr xs[i]:Key)∉(numK (xs.take i)).map (·.1):=fun z=>by
   rw[Ks]at z;obtain⟨y,Z,e⟩:=vJ.mp z;have R:y=xs[i]:=Sum.inr.inj e;subst R;obtain⟨j,G,e⟩:=mem_iff_getElem.mp Z;rw[getElem_take]at e;rw[p]at G;exact ug e (pairwise_iff_getElem.mp nd j i (by lia) (by lia) G)
  refine⟨_,_,rfl,fun b u h=>(jh (je h hd)).trans (J _ _ h),?_⟩;rw[jC,ka W,take_snoc D,j08,p]
 rintro σ' c ⟨m,n,rfl,g,f⟩;rw[vt,X,v2]at f;walk_at"g";exact q d c g hd f
theorem WD(T:Txt K mg t):FnOk P w K mg base CX0 1 t.QU t.QX ["form"] (sp_names_in):=by
 refine T.YF.ok WP (fun i H Q E h=>?_) (fun g A e s H i Q E j h=>?_)
 ·cases h;subst_vars;rfl
 obtain⟨a,f,rfl,d,q⟩:=h;refine⟨_,(jb (j2 (jo j3w (ji jt (pv 0) jd) (j2P (v:=.ref t.qt) (by rfl) T.KK rfl) (by with_unfolding_all rfl))
   (jg (jA (ji jt (pv 0) jd)))
   jw)
  (jg (jA (yz (jo j5 (ji jt (pv 0) jd) jB (nomark _)) (QH j1O (pv 0) (zg jd) zf) (jK jc))))),?_⟩
 refine jG (σ':=[some _]) rfl ?_;have l:(200:Nat)<sizeLine:=by decide
 cases f with
 | hold n=>
  have c:H a=some (.tup _):=d;exists ixTm (SqT.of c) rfl ?_;exists⟨_,_,_,rfl,rfl,T.qp,?_⟩;exists iteE0 ?_;exists ixTm (SqT.of c) rfl ?_;exists iteE0 ?_;exists⟨vb _,?_⟩;walk_at"f b hb H1 s1 t1";exact q b H1 s1 t1
 | ring x n=>
  have c:H a=some (.tup _):=d;exists ixTm (SqT.of c) rfl ?_;exists⟨_,_,_,rfl,rfl,T.qp,?_⟩;exists iteE0 ?_;exists ixTm (SqT.of c) rfl ?_;exists iteE0 ?_;exists⟨vb _,?_⟩;walk_at"f b hb H1 s1 t1";exact q b H1 s1 t1
 | rise x v n=>
  have c:H a=some (.tup _):=d;exists ixTm (SqT.of c) rfl ?_;exists⟨_,_,_,rfl,rfl,T.qp,?_⟩;exists iteE0 ?_;exists ixTm (SqT.of c) rfl ?_;exists iteE0 ?_;exists⟨vb _,?_⟩;walk_at"f b hb H1 s1 t1";exact q b H1 s1 t1
 | row ps=>
  obtain⟨b,c,hb⟩:=d;exists ixTm (SqT.of c) rfl ?_;exists⟨_,_,_,rfl,rfl,T.qp,?_⟩;exists iteE1 ?_;exists ixTm (SqT.of c) rfl ?_;exact q b H (Same.refl _) hb
 | side ps=>
  obtain⟨b,c,hb⟩:=d;exists ixTm (SqT.of c) rfl ?_;exists⟨_,_,_,rfl,rfl,T.qp,?_⟩;exists iteE1 ?_;exists ixTm (SqT.of c) rfl ?_;exact q b H (Same.refl _) hb
 | again k x=>
  have c:H a=some (.tup _):=d;exists ixTm (SqT.of c) rfl ?_;exists⟨_,_,_,rfl,rfl,T.qp,?_⟩;exists iteE0 ?_;exists ixTm (SqT.of c) rfl ?_;exists iteE1 ?_;exists⟨a,_,rfl,SqT.of c,(by show¬(HT.sIx 3 0 (some 2)=0/\HT.sIx 3 3 none=3);decide),?_⟩;walk_at"f b hb H1 s1 t1";exact q b H1 s1 t1
theorem j1n(T:Txt K mg t)(qf:FnOk P w K mg base CX0 1 t.qh t.qk ["named"] (sp_numbers_of))(ZN:FnOk P w K mg base CX0 1 t.QU t.QX ["form"] (sp_names_in)):FnOk P w K mg base CX0 2 t.zH t.zI ["book"] (sp_inner):=by
 refine T.Yo.ok Zy (fun vs H Q E h=>?_) (fun a2 A a1 s H vs Q E hr h=>?_)
 ·cases h;subst_vars;rfl
 obtain⟨b,pl,pp,a3,G,ls,o,rfl,B,W,q⟩:=h;refine⟨_,(jb (jp (i:=1) Zy.nd rfl (.inr rfl) (jr (qf.mono (by decide)) hr (by rfl) T.yr T.zD.kp T.Z4 .nil pass0 (ja (ji jt (pv 0) jd) jc)))
  (jb (jp (i:=2) Zy.nd rfl (.inl rfl) (jE jc))
  (jb (Jc PassesOwn.never rfl (Jh (ji jt (pv 0) jd)) (qD rfl (jF (ju (i:=3) Zy.nd rfl (.inl rfl)) (jF (ju (i:=4) Zy.nd rfl (.inl rfl)) JP)))
   (jg (jZ (JR PySem.F.plainAttrs_list PySem.F.slot_list_append PySem.F.type_list_append jO (pv 2) (ja (qA (ow:=["other"]) (ci:=[1]) rfl (CompScope.of (defScope Yx) ["book","numbers","found","name","form"] rfl rfl (by decide +kernel)) (qo (by decide)) (wv (jr (ZN.mono (by decide)) hr (by rfl) T.xw T.YF.kp T.WZ .nil pass0 (ja (pv 4) jc))) (fun _ _ _ _ _=>⟨(ju (i:=0) (JA ["book","numbers","found","name","form"] rfl (by decide +kernel)) rfl (.inl rfl)),QM,(JV (qO hr) (pv 1) (pv 0))⟩)) jc)))))
  (jg (jA (pv 2)))))),?_⟩
 refine jG (σ':=[some _,none,none,none,none]) rfl ?_;have sz:(200:Nat)<sizeLine:=by decide
 have a4:=W.p61;have pa:=B.pa.1;exists ixTm (SqT.of B.t) rfl ?_;exists⟨pp,G,nmsOf o,rfl,B.p,by rw[nmsOf,vt];exact pa,fun i a x ea U=>?_,W.pn,by rw[nmsOf,vt];lia,fun d H1 I hd ed=>?_⟩
 ·unfold nmsOf at U;rw[vv]at U;obtain⟨p,ep,rfl⟩:=vh.mp U;obtain⟨fb,hb,_⟩:=B.pa.2 i a p ea ep;exact⟨_,hb⟩
 exists⟨vb _,?_⟩;walk_at"f l hl H2 s2 t2";have nl:=none_of I hl;have J:=I.trans s2;exists ixTm (SqT.of (J _ _ B.t)) rfl ?_;refine⟨pp,rfl,⟨_,SqL.of (J _ _ B.p)⟩,?_⟩;refine J0 (xs:=G.map V.ref) (fun i σ f=>IvE3 fun(m:List Addr) (N O:Option V)=>IvA4 (σ=[some (.ref b),some (.ref d),some (.ref l),N,O]) (Same H1 f) (f l=some (.lst (m.map V.ref))) ((∀a∈m,H a=none/\a≠l)/\ListsAt f m ((o.take i).map fun p=>(inP o p.2).map fun j:Nat=>(j:Int))))
  ⟨[],_,_,rfl,s2,t2,(fun a h=>nomatch h),.nil⟩ ?_ ?_ ?_
 ·rintro i σ f _ ⟨m,N,O,rfl,v,z,F,C⟩;exact SqL.of ((I.trans v) _ _ B.p)
 ·rintro i x σ f M ⟨m,N,O,rfl,v,z,F,C⟩;obtain⟨a,p,rfl,Z,fb,Y,hf⟩:=B.pa.at_ref M;have hi:=(vx.mp Z).1;have s0:=I.trans v;obtain⟨wn,w8⟩:=W.f i p Z;have a0:=C.1;rw[vt,vj]at a0;refine Qk (SqT.of (s0 _ _ Y)) ?_;exists⟨.inl ⟨rfl,_,SqL.of z⟩,?_⟩;exists⟨fb,p.2,rfl,FormAt.same s0 hf,fun c L R hc=>?_⟩;refine⟨c,rfl,⟨_,SqT.of hc⟩,?_⟩;refine yg (xs:=p.2.ns.map V.str) (fun j S f=>S=((p.2.ns.take j).map fun x=>(ixOf (nmsOf o) x:Int)).map V.int/\L=f) ⟨rfl,rfl⟩ ?_ ?_ ?_
  ·rintro j S f _ ⟨rfl,rfl⟩;exact SqT.of hc
  ·rintro j x S f M ⟨rfl,rfl⟩;rw[vv]at M;obtain⟨y,X,rfl⟩:=vh.mp M;have hj:=(vx.mp X).1;obtain⟨k,hk,ek⟩:=wn y (vm X);refine J2 (σ':=[none,some _]) rfl ?_;exists iteT ?_;walk_at"g";have g:DGet L d (.str y) (some (.int (k:Nat))):=by
    have g:=DGet.k (k:=Sum.inr y) ((v.trans R) _ _ ed);rw[WA W.pn ek]at g;exact g
   refine⟨d,_,rfl,g,?_⟩;refine⟨by rw[vt,vt,vj];lia,?_,rfl⟩;rw[take_snoc X,vk,vk,<-Ja W.pn ek];rfl
  rintro S f ⟨rfl,rfl⟩;rw[show(p.2.ns.map V.str).length=p.2.ns.length from vt _,v2];refine⟨by rw[vt,vt];lia,?_⟩;walk_at"f 4 t";have r:=R.trans s4;exists⟨l,_,_,rfl,rfl,r _ _ z,by rw[vt];lia,?_⟩;have D:p4≠l:=(je (R _ _ z) hp4).symm;have n4:H p4=none:=none_of (s0.trans R) hp4;refine⟨m++[p4],_,_,rfl,fun c u h=>(jh (je h hl)).trans ((v.trans r) _ _ h),?_,fun c n=>?_,?_⟩
  ·rw[jC,vk];rfl
  ·rcases vi.mp n with e | e
   ·exact F c e
   ·rw[vo.mp e];exact⟨n4,D⟩
  ·rw[take_snoc Z,vk];refine All2.snoc (All2.monoM C fun c n ks h=>(jh (F c n).2).trans (r _ _ h)) ?_;have eq:List.map (fun j:Nat=>(j:Int)) (inP o p.2)=p.2.ns.map fun x=>(ixOf (nmsOf o) x:Int):=by
    unfold inP;rw[v3];rfl
   show upd H4 l _ p4=some (.lst (List.map V.int (List.map (fun j:Nat=>(j:Int)) (inP o p.2))));rw[jh D,t4,eq]
 rintro σ' L ⟨m,N,O,rfl,v,z,F,C⟩;rw[vt,pa,v2]at C;walk_at"g";exact q l m L (I.trans v) nl z (fun a ha=>(F a ha).1) C
theorem j2L(T:Txt K mg t)(qf:FnOk P w K mg base CX0 1 t.qh t.qk ["named"] (sp_numbers_of))(QO:FnOk P w K mg base CX0 2 t.zH t.zI ["book"] (sp_inner)):FnOk P w K mg base CX0 3 t.YI t.YS ["book"] (sp_ends):=by
 refine T.j0y.ok zj (fun vs H Q E h=>?_) (fun aJ A aH s H vs Q E hr h=>?_)
 ·cases h;subst_vars;rfl
 obtain⟨b,pl,pp,an,au,ls,ps,rfl,B,W,q⟩:=h;refine⟨_,(jb (jp (i:=1) zj.nd rfl (.inl rfl) (jr (qf.mono (by decide)) hr (by rfl) T.yr T.zD.kp T.Z4 .nil pass0 (ja (ji jt (pv 0) jd) jc)))
  (jb (jp (i:=2) zj.nd rfl (.inl rfl) (jE jc))
  (jb (Jc PassesOwn.never rfl (xH (by rfl) T.j0G (ja (ji jt (pv 0) jd) (ja (jr (QO.mono (by decide)) hr (by rfl) T.KZ T.Yo.kp T.Kz .nil pass0 (ja (pv 0) jc)) jc))) (qD rfl (jF (ju (i:=3) zj.nd rfl (.inl rfl)) (jF (ju (i:=4) zj.nd rfl (.inl rfl)) JP)))
   (jb (jp (i:=5) zj.nd rfl (.inl rfl) (ji jt (pv 3) jd))
   (jb (jp (i:=6) zj.nd rfl (.inl rfl) yx)
   (jb (JU (jo j5 (ji jt (pv 5) jd) jB (nomark _))
    (jg (ZD (qO hr) (pv 6) (JV (qO hr) (pv 1) (ji jt (pv 5) jd)) (ji jt (pv 5) jd) rfl))
    jw)
   (jb (Jc PassesOwn.never rfl (Jh (pv 4)) (ju (i:=7) zj.nd rfl (.inl rfl))
    (jg (jZ (JR PySem.F.plainAttrs_dict PySem.F.slot_dict_update PySem.F.type_dict_update j06 (pv 6) (ja (JT (xa rfl) (by rfl) T.YJ yd (ja (ji jv (pv 2) (pv 7)) jc)) jc)))))
   (jg (jZ (JR PySem.F.plainAttrs_list PySem.F.slot_list_append PySem.F.type_list_append jO (pv 2) (ja (jz (KM rfl) (by rfl) T.j0E XW (ja (j1u PySem.F.plainAttrs_dict PySem.F.slot_dict_items PySem.F.type_dict_items j1e (pv 6)) jc)) jc)))))))))
  (jg (jA (pv 2)))))),?_⟩
 refine jG (σ':=[some _,none,none,none,none,none,none,none]) rfl ?_;have sz:(200:Nat)<sizeLine:=by decide
 have aM:=W.p61;have l8:=W.l8;have pa:=B.pa.1;have la:=B.la.1;exists ixTm (SqT.of B.t) rfl ?_;exists⟨pl,an,nmsOf ls,rfl,B.l,by rw[nmsOf,vt];exact la,fun i a x ea ex=>?_,W.ln,by rw[nmsOf,vt];lia,fun d H1 s1 hd ed=>?_⟩
 ·unfold nmsOf at ex;rw[vv]at ex;obtain⟨p,ep,rfl⟩:=vh.mp ex;exact⟨_,B.la.2 i a p ea ep⟩
 exists⟨vb _,?_⟩;walk_at"f l hl H2 s2 t2";have nl:=none_of s1 hl;have ac:=s1.trans s2;have aD:d≠l:=je ed hl;exists ixTm (SqT.of (ac _ _ B.t)) rfl ?_;exists⟨b,pl,pp,an,au,ls,ps,rfl,B.same ac,W,fun li am H3 s3 al af aF lia=>?_⟩;walk_at"g";have F:=ac.trans s3;have ao:=lia.1;rw[vt]at ao;have aG:li≠l:=fun z=>by rw[z,t2]at al;cases al
 refine⟨pp,li,_,_,rfl,SqL.of (F _ _ B.p),SqL.of af,?_⟩;have a9:∀{c u},H c=some u->c≠l:=fun h=>je h nl
 have t3:H3 l=some (.lst []):=s3 _ _ t2;refine Xj (xs:=au.map V.ref) (ys:=am.map V.ref) (fun i σ H'=>IvE7 fun(X:List Addr) (E:List (List (Int×Int))) (o3 o4 o5 o6 O:Option V)=>IvA6 (σ=[some (.ref b),some (.ref d),some (.ref l),o3,o4,o5,o6,O]) (∀c u,c≠l->H3 c=some u->H' c=some u) (H' l=some (.lst (X.map V.ref))) (∀a∈X,H a=none/\a≠l) (E.length=i) (EndsAt H' X E/\EndOk ls ps E))
  (by rw[vt,vt];lia) ⟨[],[],_,_,_,_,_,rfl,fun c u _ h=>h,t3,(fun a h=>nomatch h),rfl,.nil,fun i p e _ h=>by simp at h⟩ ?_ ?_ ?_
 ·rintro i σ H' _ ⟨X,E,o3,o4,o5,o6,O,rfl,sm,e1,na,lE,aE,oE⟩;exact⟨SqL.of (sm _ _ (a9 B.p) (F _ _ B.p)),SqL.of (sm _ _ aG af)⟩
 ·rintro i u v σ H' P U hu hv ⟨X,E,o3,o4,o5,o6,O,rfl,sm,e1,na,lE,aE,oE⟩ sP tP;obtain⟨a,p,rfl,hp,fb,ag,hf⟩:=B.pa.at_ref hu;obtain⟨ia,is,rfl,ak,ay⟩:=lia.at_ref hv;rw[vv,hp]at ak;cases ak;have hi:=(vx.mp hp).1;have aA:ia∈am:=by
   rw[vv]at hv;obtain⟨a',ea,e'⟩:=vh.mp hv;injection e' with e';subst e';exact vm ea
  have aq:ia≠l:=fun z=>by have:=aF ia aA;rw[z,t2]at this;cases this
  have C:∀c u,c≠l->H3 c=some u->U c=some u:=fun c u Y h=>sP _ _ (sm _ _ Y h)
  have ah:U a=_:=C _ _ (a9 ag) (F _ _ ag);have Z:U ia=_:=C _ _ aq ay;have aw:U d=_:=C _ _ aD (s3 _ _ (s2 _ _ ed));have I:=sP _ _ e1;have a3:FormAt U fb p.2:=by
   have J:=FormAt.same F hf;generalize p.2=f at J;have np:∀{c:Addr} {xs:List V},H3 c=some (.tup xs)->c≠l:=fun h=>Jl h t3 (fun z=>by cases z)
   cases f with
   | row ps=>obtain⟨c,y,M⟩:=J;exact⟨c,C _ _ (np y) y,C _ _ (np M) M⟩
   | side ps=>obtain⟨c,y,M⟩:=J;exact⟨c,C _ _ (np y) y,C _ _ (np M) M⟩
   | hold n=>exact C _ _ (np J) J
   | ring x n=>exact C _ _ (np J) J
   | rise x g n=>exact C _ _ (np J) J
   | again x n=>exact C _ _ (np J) J
  have w8:=(W.f i p hp).2;have wr:=fun x h n (e:p.2 = .rise x h n)=>W.r i p.1 x h n (by rw[hp,<-e])
  have aB:=fun j=>W.inP_lt (j:=j) hp
  have ad:=Wg W (by lia) oE;have ae:∀(j:Nat) (e:List (Int×Int)),E[j]?=some e->e.length<=8:=fun j e h=>Wh W (by lia) oE h
  refine Qk (SqT.of tP) ?_;exists ixTm (SqT.of ah) rfl ?_;walk_at"g";walk_at"f dl hdl H5 s5 t5";exists⟨fun σ' H6=>σ'=[some (.ref b),some (.ref d),some (.ref l),some (.ref a),some (.ref ia),some (.ref fb),some (.ref dl),O]/\Same U H6/\H6 dl=some (.dK ((kv0 ls p.2).map iiK)),?_,?_⟩
  rotate_left
  ·by_cases a6:∃x h n,p.2 = .rise x h n
   ·obtain⟨x,h,n,e⟩:=a6;rw[e]at a3;have a4:H5 fb=some (.tup [.str "raise",.str x,.int h,.int n]):=s5 _ _ a3;obtain⟨j,N⟩:=wr x h n e;exists ixTm (SqT.of a4) rfl ?_;exists iteE1 ?_;exists ixTm (SqT.of a4) rfl ?_;exists ixTm (SqT.of a4) rfl ?_;have g:DGet H5 d (.str x) (some (.int (j:Nat))):=by
     have g:=DGet.k (k:=Sum.inr x) (s5 _ _ aw);rw[WA W.ln N]at g;exact g
    refine⟨d,_,rfl,g,?_⟩;refine⟨dl,_,rfl,DPut.k (k:=Sum.inl (j:Int)) t5 (by show 0<sizeLine;lia),?_⟩;refine⟨rfl,fun c u h=>(jh (je h hdl)).trans (s5 _ _ h),?_⟩;rw[jC,e];show _=some (HO.dK [iiK ((ixOf (nmsOf ls) x:Nat),h)]);rw[Ja W.ln N];rfl
   ·obtain⟨k,xs,hk,dk⟩:=j0Z a3 fun x v n e=>a6 ⟨x,v,n,e⟩
    exists ixTm (SqT.of (s5 _ _ hk)) (at0) ?_;exists iteB0 dk ?_;exists⟨rfl,s5,?_⟩;rw[j2y fun x v n e=>a6 ⟨x,v,n,e⟩];exact t5
  rintro σ' H6 ⟨rfl,s6,t6⟩;walk_at"g";have ai:=s6 _ _ Z;have a8:∀{c u},U c=some u->c≠dl:=fun h=>je h hdl
  refine⟨ia,rfl,⟨_,SqL.of ai⟩,?_⟩;refine J0 (xs:=((inP ps p.2).map fun j:Nat=>(j:Int)).map V.int) (fun t σ H7=>IvE2 fun(m:List (Int×Int)) (O:Option V)=>IvA5 (σ=[some (.ref b),some (.ref d),some (.ref l),some (.ref a),some (.ref ia),some (.ref fb),some (.ref dl),O]) (Same U H7) (H7 dl=some (.dK (m.map iiK))) ((m.map (·.1)).Nodup) (∀k v,(k,v)∈m↔LastIn E ((inP ps p.2).take t) k v\/(k,v)∈kv0 ls p.2))
   ⟨_,_,rfl,s6,t6,j3n _,fun k v=>⟨.inr,fun h=>h.elim (fun⟨ab,j,a1,e,_⟩=>by cases ab<;>simp at e) id⟩⟩ ?_ ?_ ?_
  ·rintro t σ H7 _ ⟨m,O,rfl,G,t7,D,m7⟩;exact SqL.of (G _ _ Z)
  ·rintro t x σ H7 hx ⟨m,O,rfl,G,t7,D,m7⟩;rw[vv,vv]at hx;obtain⟨jj,az,rfl⟩:=vh.mp hx;obtain⟨j,N,rfl⟩:=vh.mp az;have aK:=aB j (vm N);have e0:kv0 ls p.2=[]:=by
    rcases j3m (ps:=ps) (ls:=ls) p.2 with z | z
    ·rw[z]at N;simp at N
    ·exact z
   rw[e0]at m7;have hE:E[j]?=some (E.getD j []):=by rw[vy,vz (by lia)];rfl
   obtain⟨aj,ax,bs,a2,R⟩:=aE.get hE;have ap:((E.getD j []).map (·.1)).Nodup:=((oE j _ _ (vz (by lia)) hE).1).imp fun h=>Int.ne_of_lt h
   have e8:=ae j _ hE;have k8:m.length<=8:=by
    have z:=ZC (n:=ls.length) D fun k hk=>by
     obtain⟨L,a5,rfl⟩:=vJ.mp hk;rcases(m7 L.1 L.2).mp a5 with⟨ab,i',a1,_,o,_⟩ | o
     ·exact ad i' _ o
     ·exact nomatch o
    rw[vt]at z;lia
   exists⟨.inr (.inr (.inl ⟨rfl,.inl ⟨_,t7⟩⟩)),?_⟩;exists ixLm (SqL.of (G _ _ I)) (KG (i:=(j:Int)) (by lia) ax) ?_;exists⟨aj,bs,E.getD j [],rfl,G _ _ (sP _ _ a2),R.1,fun i' c L y M=>G _ _ (sP _ _ (R.2 i' c L y M)),?_⟩;walk_at"f d2 hd2 H8 s8 t8";walk_at"g";rw[show([]:List (Key×V))=([]:List (Int×Int)).map iiK from rfl,ZT,xC ap]at t8;have n2:dl≠d2:=je t7 hd2;refine⟨dl,d2,_,_,rfl,rfl,s8 _ _ t7,t8,n2,by rw[vt,vt];lia,?_⟩;rw[ZT];obtain⟨mn,mm⟩:=Kp D ap;refine⟨mergeI m (E.getD j []),_,rfl,fun c u h=>(jh (a8 h)).trans (s8 _ _ (G _ _ h)),jC,mn,fun k v=>?_⟩;rw[mm,m7,e0,take_snoc N,X9];constructor
   ·rintro(h | ⟨y,h | h⟩)
    ·exact .inl (.inl h)
    ·exact .inl (.inr ⟨y,h⟩)
    ·exact nomatch h
   ·rintro((h | ⟨y,h⟩) | h)
    ·exact .inl h
    ·exact .inr ⟨y,.inl h⟩
    ·exact nomatch h
  rintro σ' H7 ⟨m,aL,rfl,G,t7,D,m7⟩;rw[vt,vt,v2]at m7;have k8:m.length<=8:=by
   have z:=ZC (n:=ls.length) D fun k hk=>by
    obtain⟨L,a5,rfl⟩:=vJ.mp hk;rcases(m7 L.1 L.2).mp a5 with⟨ab,i',a1,_,o,_⟩ | o
    ·exact ad i' _ o
    ·obtain⟨x,n,e,ek⟩:=K2.mp o;obtain⟨j,N⟩:=wr x _ n e;have h3:=Xo (vm N);have h4:(nmsOf ls).length=ls.length:=vt _;rw[ek];lia
   rw[vt]at z;lia
  exists⟨.inl ⟨rfl,_,SqL.of (G _ _ I)⟩,?_⟩;exists⟨.inr (.inr (.inl ⟨rfl,.inl ⟨_,t7⟩⟩)),dl,_,rfl,rfl,t7,?_⟩;walk_at"f vw hvw H8 s8 t8";exists⟨vw,dl,m,rfl,t8,s8 _ _ t7,by lia,fun r cs ms H9 s9 a7 e9 n9 a0 pw aC av=>?_⟩;walk_at"g";have aI:=aE.1;refine⟨l,_,_,rfl,rfl,s9 _ _ (s8 _ _ (G _ _ I)),by rw[vt];lia,?_⟩;have S:=G.trans (s8.trans s9);have aa:r≠l:=(je (s8 _ _ (G _ _ I)) a7).symm;have nr:H r=none:=by
   cases z:H r with
   | none=>rfl
   | some u=>rw[s8 _ _ (G _ _ (C _ _ aa (F _ _ z)))]at a7;cases a7
  have ar:∀{c:Addr} {xs:List V},H9 c=some (.tup xs)->c≠l:=fun h=>Jl h (S _ _ I) (fun z=>by cases z)
  refine⟨X++[r],E++[ms],_,_,_,_,_,rfl,fun c u Y h=>(jh Y).trans (S _ _ (C _ _ Y h)),?_,fun c Y=>?_,by rw[vn,lE];rfl,?_,?_⟩
  ·rw[jC,vk];rfl
  ·rcases vi.mp Y with z | z
   ·exact na c z
   ·rw[vo.mp z];exact⟨nr,aa⟩
  ·refine All2.snoc (All2.monoM aE fun c Y e h=>?_) ?_
   ·obtain⟨bs,a2,R⟩:=h;refine⟨bs,(jh (na c Y).2).trans (S _ _ (sP _ _ a2)),All2.mono R fun c' L h'=>?_⟩;have h9:=S _ _ (sP _ _ h');exact(jh (ar h9)).trans h9
   ·exact⟨cs,(jh aa).trans e9,aC,fun i' c L y M=>(jh (ar (av i' c L y M))).trans (av i' c L y M)⟩
  ·refine EndOk.snoc W oE (p:=p) (by rw[lE];exact hp) ?_ fun k v=>?_
   ·exact j0s (a0.map _) D pw
   ·rw[a0.mem_iff,m7];exact⟨fun h=>h.imp id K2.mp,fun h=>h.imp id K2.mpr⟩
 rintro σ' H' ⟨X,E,o3,o4,o5,o6,O,rfl,sm,e1,na,lE,aE,oE⟩;rw[vt]at lE;walk_at"g";exact q l X E H' (fun c u h=>sm _ _ (a9 h) (F _ _ h)) nl e1 (fun a ha=>(na a ha).1) (by lia) aE oE
theorem j1o(T:Txt K mg t)(W1:FnOk P w K mg base CX0 3 t.YI t.YS ["book"] (sp_ends)):FnOk P w K mg base CX0 4 t.ya t.yh ["book"] (sp_moved):=by
 refine T.xZ.ok kh (fun vs H Q E h=>?_) (fun a5 A a2 s H vs Q E hr h=>?_)
 ·cases h;subst_vars;rfl
 obtain⟨b,pl,pp,Y,a3,ls,ps,rfl,B,W,q⟩:=h;refine⟨_,(jb (jp (i:=1) kh.nd rfl (.inl rfl) (jE jc))
  (jb (Jc PassesOwn.never rfl (Jh (jr (W1.mono (by decide)) hr (by rfl) T.j3p T.j0y.kp T.j37 .nil pass0 (ja (pv 0) jc))) (ju (i:=2) kh.nd rfl (.inl rfl))
   (jg (jZ (JR PySem.F.plainAttrs_list PySem.F.slot_list_append PySem.F.type_list_append jO (pv 1) (ja (qA (ow:=["limb","height"]) (ci:=[]) rfl (CompScope.of (defScope Yy) ["book","found","left"] rfl rfl (by decide +kernel)) (Xk (by decide) (by decide)) (Jh (pv 2)) (fun _ _ _ _ _=>⟨(qD rfl (jF (ju (i:=0) (JA ["book","found","left"] rfl (by decide +kernel)) rfl (.inl rfl)) (jF (ju (i:=1) (JA ["book","found","left"] rfl (by decide +kernel)) rfl (.inl rfl)) JP))),QM,(pv 0)⟩)) jc)))))
  (jg (jA (pv 1))))),?_⟩
 refine jG (σ':=[some _,none,none]) rfl ?_;have sz:(200:Nat)<sizeLine:=by decide
 have a7:=W.p61;exists⟨vb _,?_⟩;walk_at"f l hl H1 s1 t1";exists⟨b,pl,pp,Y,a3,ls,ps,rfl,B.same s1,W,fun e as E H2 s2 he ee ne lE aE oE=>?_⟩;have I:=aE.1;have a4:=s1.trans s2;have l2:H2 l=some (.lst []):=s2 _ _ t1;have a1:l≠e:=fun z=>by rw[z,he]at t1;cases t1
 refine⟨e,rfl,⟨_,SqL.of ee⟩,?_⟩;refine J0 (xs:=as.map V.ref) (fun i σ n=>IvE2 fun(g:List Addr) (F:Option V)=>IvA4 (σ=[some (.ref b),some (.ref l),F]) (∀c u,c≠l->H2 c=some u->n c=some u) (n l=some (.lst (g.map V.ref))) ((∀c∈g,H1 c=none/\c≠l)/\ListsAt n g ((E.take i).map fun e=>e.map (·.1))))
  ⟨[],_,rfl,fun c u _ h=>h,l2,(fun c h=>nomatch h),.nil⟩ ?_ ?_ ?_
 ·rintro i σ n _ ⟨g,F,rfl,m,p,C,r⟩;exact SqL.of (m _ _ a1.symm ee)
 ·rintro i x σ n S ⟨g,F,rfl,m,p,C,r⟩;obtain⟨a,M,rfl,f,J,O,D⟩:=aE.at_ref S;have hi:=(vx.mp f).1;have X:=r.1;rw[vt,vj]at X;have am:a∈as:=by
   rw[vv]at S;obtain⟨a',ea,L⟩:=vh.mp S;injection L with L;subst L;exact vm ea
  have Z:a≠l:=fun z=>by have:=ne a am;rw[z,t1]at this;cases this
  have v:n a=some (.lst (J.map V.ref)):=m _ _ Z O;have a6:=(oE i _ M (vz (by lia)) f).1;have N:=Wh W (by lia) oE f;exists⟨.inl ⟨rfl,_,SqL.of p⟩,?_⟩;exists⟨a,rfl,⟨_,SqL.of v⟩,?_⟩;refine qi (xs:=J.map V.ref) (fun j G d=>G=((M.take j).map (·.1)).map V.int/\n=d) ⟨rfl,rfl⟩ ?_ ?_ ?_
  ·rintro j G d _ ⟨rfl,rfl⟩;exact SqL.of v
  ·rintro j x G d U ⟨rfl,rfl⟩;obtain⟨c,kv,rfl,y,R⟩:=D.at_ref U;have hj:=(vx.mp y).1;have a0:c≠l:=fun z=>by rw[z,l2]at R;cases R
   refine J2 (σ':=[none,none]) rfl ?_;refine Qk (SqT.of (m _ _ a0 R)) ?_;exists iteT ?_;exists⟨by rw[vt,vt,vj];lia,?_,rfl⟩;rw[take_snoc y,vk,vk];rfl
  rintro G d ⟨rfl,rfl⟩;rw[show(J.map V.ref).length=M.length by rw[vt];exact D.1,v2];refine⟨by rw[vt,vt];lia,?_⟩;walk_at"f 4 t";exists⟨l,_,_,rfl,rfl,s4 _ _ p,by rw[vt];lia,?_⟩;have o:p4≠l:=(je p hp4).symm;have n4:H1 p4=none:=by
   cases z:H1 p4 with
   | none=>rfl
   | some u=>rw[m _ _ o (s2 _ _ z)]at hp4;cases hp4
  refine⟨g++[p4],_,rfl,fun c u k h=>(jh k).trans (s4 _ _ (m _ _ k h)),?_,fun c k=>?_,?_⟩
  ·rw[jC,vk];rfl
  ·rcases vi.mp k with z | z
   ·exact C c z
   ·rw[vo.mp z];exact⟨n4,o⟩
  ·rw[take_snoc f,vk];exact All2.snoc (All2.monoM r fun c k ks h=>(jh (C c k).2).trans (s4 _ _ h)) ((jh o).trans t4)
 rintro σ' H3 ⟨g,F,rfl,m,p,C,r⟩;rw[vt,I,v2]at r;exists q l g (E.map fun e=>e.map (·.1)) H3 (fun c u h=>m _ _ (je h hl) (a4 _ _ h)) hl p (fun c k=>none_of s1 (C c k).1) (by rw[vt];exact lE) r (j3q lE oE)
theorem kL(T:Txt K mg t):FnOk P w K mg base CX0 1 t.qT t.qY ["row","moves","limbs"] (sp_check_side):=by
 refine T.Z7.ok zn (fun vs H Q E h=>?_) (fun S A I s H vs Q E Z h=>?_)
 ·cases h;subst_vars;rfl
 obtain⟨r,l,N,L,F,M,rfl,B,D,ne,R,g,G,q⟩:=h;refine⟨_,(jb (j2 (jo (j3v Z.units) (jE jc) (pv 1) (by with_unfolding_all rfl))
   (jg yB)
   jw)
  (jg (Jc PassesOwn.never rfl (wt (by rfl) T.Zl (ja (pv 2) jc)) (qD rfl (jF (ju (i:=3) zn.nd rfl (.inr rfl)) (jF (ju (i:=4) zn.nd rfl (.inl rfl)) JP)))
   (jg (j2 (jo ZK (jz jR (by rfl) T.JJ Je (ja (qA (ow:=["move"]) (ci:=[3]) rfl (CompScope.of (defScope QQ) ["row","moves","limbs","number","limb"] rfl rfl (by decide +kernel)) (qo (by decide)) (Jh (pv 1)) (fun _ _ _ _ _=>⟨(ju (i:=0) (JA ["row","moves","limbs","number","limb"] rfl (by decide +kernel)) rfl (.inl rfl)),(wp (jo (ZX (K:=K) rfl) (pv 1) (pv 0) (by with_unfolding_all rfl))),j1t⟩)) jc)) jd (nomark _))
    (jg yB)
    jw))))),?_⟩
 refine jG (σ':=[some _,some _,some _,none,none]) rfl ?_;have sz:(200:Nat)<sizeLine:=by decide
 have m:=D.1;exists⟨vb _,?_⟩;walk_at"f 0 t";exists⟨p0,l,L,M,rfl,rfl,t0,s0 _ _ B,m,fun i b e U W=>s0 _ _ (D.2 i b e U W),?_⟩;exists iteB0 (any_empty ne) ?_;exists⟨N,_,rfl,SqL.of (s0 _ _ g),?_⟩;refine YX (xs:=F.map V.ref) (fun i J f=>IvE2 fun(p u:Option V)=>J=[some (.int r),some (.ref l),some (.ref N),p,u]/\Same H f) ⟨_,_,rfl,s0⟩ ?_ ?_ ?_
 ·rintro i J f _ ⟨p,u,rfl,n⟩;exact SqL.of (n _ _ g)
 ·rintro i v J f P O hx ⟨p,u,rfl,n⟩ sP tP;have y:=n.trans sP;refine Qk (SqT.of tP) ?_;exists⟨l,rfl,⟨_,SqL.of (y _ _ B)⟩,?_⟩;refine qi (xs:=L.map V.ref) (fun j z c=>z.length=((M.take j).filter fun e=>decide ((i:Int)∈e)).length/\O=c) ⟨rfl,rfl⟩ ?_ ?_ ?_
  ·rintro j z c _ ⟨_,rfl⟩;exact SqL.of (y _ _ B)
  ·rintro j x z c C ⟨o,rfl⟩;obtain⟨a,e,rfl,k,X⟩:=D.at_ref C;refine J2 (σ':=[none,some _]) rfl ?_;exists⟨a,_,rfl,.inl (SqL.of (y _ _ X)),rfl,flats e,?_⟩;rw[inI];walk_at"g";have Y:((M.take j).filter fun e=>decide ((i:Int)∈e)).length<=8:=vU (length_filter_le _ _) (vU (List.length_take_le' _ _) R);refine iteD (fun d=>?_) (fun d=>?_)
   ·exists⟨by lia,?_,rfl⟩;rw[take_snoc k,filter_append,filter_cons,ve (vF d),vn,vn,o];rfl
   ·refine⟨?_,rfl⟩;rw[take_snoc k,filter_append,filter_cons,vd (by simpa using d),vn,o];rfl
  rintro z c ⟨o,rfl⟩;rw[vt,m,v2]at o;have o1:=G (i:Int);refine⟨by lia,?_⟩;walk_at"f 2 t";exists⟨_,_,rfl,.inl ⟨_,SqL.of t2,rfl⟩,?_⟩;exists iteD (fun d=>?_) (fun d=>?_)
  ·exfalso;lia
  ·walk_at"g";exact⟨_,_,rfl,y.trans s2⟩
 rintro σ' f ⟨p,u,rfl,n⟩;exact q f n
theorem we(T:Txt K mg t):FnOk P w K mg base CX0 1 t.Qy t.QE ["form","inside"] (sp_length_of):=by
 refine T.Yb.ok wG (fun B H Q E h=>?_) (fun o A j s H B Q E C h=>?_)
 ·cases h;subst_vars;rfl
 obtain⟨a,l,f,m,rfl,d,i,e,q⟩:=h;refine⟨_,(jb (j2 (jo j5 (ji jt (pv 0) jd) jB (nomark _))
   (jg (jA (jz (yL rfl) (by rfl) T.j0F W9 (ja (pv 1) jc))))
   jw)
  (jb (j2 (jo j5 (ji jt (pv 0) jd) jB (nomark _))
   (jg (jA (jz (yJ rfl) (by rfl) T.Xb KJ (ja (pv 1) jc))))
   jw)
  (jb (j2 (jo j5 (ji jt (pv 0) jd) jB (nomark _))
   (jg (jA (jq Qc (ji jt (pv 0) jd) (ji jv (pv 1) jd))))
   jw)
  (jg (jA (ji jt (pv 0) (Y8 Z1 jd))))))),?_⟩
 refine jG (σ':=[some _,some _]) rfl ?_;have G:(200:Nat)<sizeLine:=by decide
 cases f with
 | hold n=>
  have c:H a=some (.tup _):=d;exists ixTm (SqT.of c) rfl ?_;exists iteE0 ?_;exists ixTm (SqT.of c) rfl ?_;exists iteE0 ?_;exists ixTm (SqT.of c) rfl ?_;exists iteE0 ?_;exists ixTm (SqT.of c) rfl ?_;exact q _ rfl
 | ring x n=>
  have c:H a=some (.tup _):=d;exists ixTm (SqT.of c) rfl ?_;exists iteE0 ?_;exists ixTm (SqT.of c) rfl ?_;exists iteE0 ?_;exists ixTm (SqT.of c) rfl ?_;exists iteE0 ?_;exists ixTm (SqT.of c) rfl ?_;exact q _ rfl
 | rise x v n=>
  have c:H a=some (.tup _):=d;exists ixTm (SqT.of c) rfl ?_;exists iteE0 ?_;exists ixTm (SqT.of c) rfl ?_;exists iteE0 ?_;exists ixTm (SqT.of c) rfl ?_;exists iteE0 ?_;exists ixTm (SqT.of c) rfl ?_;exact q _ rfl
 | row ps=>
  obtain⟨b,c,z⟩:=d;exists ixTm (SqT.of c) rfl ?_;exists iteE1 ?_;exists⟨l,m,rfl,SqL.of i,?_⟩;exact q _ rfl
 | side ps=>
  obtain⟨b,c,z⟩:=d;exists ixTm (SqT.of c) rfl ?_;exists iteE0 ?_;exists ixTm (SqT.of c) rfl ?_;exists iteE1 ?_;exists⟨l,m,rfl,SqL.of i,length_pos_iff.mpr e,fun g p u=>?_⟩;exact q g ⟨p,u⟩
 | again k x=>
  have c:H a=some (.tup _):=d;obtain⟨y,r,rfl,D,F,I,J⟩:=e;exists ixTm (SqT.of c) rfl ?_;exists iteE0 ?_;exists ixTm (SqT.of c) rfl ?_;exists iteE0 ?_;exists ixTm (SqT.of c) rfl ?_;exists iteE1 ?_;exists ixTm (SqT.of c) rfl ?_;exists ixLm (SqL.of i) (at0) ?_;walk_at"g";exact q _ ⟨y,rfl,rfl⟩
theorem xE(T:Txt K mg t)(QO:FnOk P w K mg base CX0 2 t.zH t.zI ["book"] (sp_inner))(KB:FnOk P w K mg base CX0 4 t.ya t.yh ["book"] (sp_moved))(zF:FnOk P w K mg base CX0 1 t.qT t.qY ["row","moves","limbs"] (sp_check_side))(Zi:FnOk P w K mg base CX0 1 t.Qy t.QE ["form","inside"] (sp_length_of)):FnOk P w K mg base CX0 5 t.zr t.zt ["book"] (sp_lengths):=by
 refine T.kS.ok qF (fun vs H Q E h=>?_) (fun as A ao s H vs Q E hr h=>?_)
 ·cases h;subst_vars;rfl
 obtain⟨b,pl,pp,Z,a7,ls,F,gs,hs,rfl,B,S,q⟩:=h;refine⟨_,(jb (jp (i:=1) qF.nd rfl (.inr rfl) (jr (KB.mono (by decide)) hr (by rfl) T.j2E T.xZ.kp T.j26 .nil pass0 (ja (pv 0) jc)))
  (jb (jp (i:=2) qF.nd rfl (.inr rfl) (jE jc))
  (jb (Jc PassesOwn.never rfl (wt (by rfl) T.Zl (ja (jr (QO.mono (by decide)) hr (by rfl) T.KZ T.Yo.kp T.Kz .nil pass0 (ja (pv 0) jc)) jc)) (qD rfl (jF (ju (i:=3) qF.nd rfl (.inl rfl)) (jF (ju (i:=4) qF.nd rfl (.inl rfl)) JP)))
   (jb (jp (i:=5) qF.nd rfl (.inl rfl) (ji jt (ji jv (ji jt (pv 0) jd) (pv 3)) jd))
   (jb (JU (jo j5 (ji jt (pv 5) jd) jB (nomark _))
    (jg (jZ (jr (zF.mono (by decide)) hr (by rfl) T.KY T.Z7.kp T.Ky .nil pass0 (ja (pv 3) (ja (qA (ow:=["part"]) (ci:=[1]) rfl (CompScope.of (defScope zx) ["book","moves","found","row","inside","form","length"] rfl rfl (by decide +kernel)) (qo (by decide)) (Jh (pv 4)) (fun _ _ _ _ _=>⟨(ju (i:=0) (JA ["book","moves","found","row","inside","form","length"] rfl (by decide +kernel)) rfl (.inl rfl)),QM,(ji (yl (K:=K) rfl) (pv 1) (pv 0))⟩)) (ja (ji jt (pv 0) jd) jc))))))
    jw)
   (jb (jp (i:=6) qF.nd rfl (.inl rfl) (jr (Zi.mono (by decide)) hr (by rfl) T.Wt T.Yb.kp T.wQ .nil pass0 (ja (pv 5) (ja (qA (ow:=["part"]) (ci:=[2]) rfl (CompScope.of (defScope zx) ["book","moves","found","row","inside","form","length"] rfl rfl (by decide +kernel)) (qo (by decide)) (Jh (pv 4)) (fun _ _ _ _ _=>⟨(ju (i:=0) (JA ["book","moves","found","row","inside","form","length"] rfl (by decide +kernel)) rfl (.inl rfl)),QM,(ji (yl (K:=K) rfl) (pv 1) (pv 0))⟩)) jc))))
   (jb (j2 (jo ZK (pv 6) (jq Zo jd jd) (nomark _))
    (jg yB)
    jw)
   (jg (jZ (JR PySem.F.plainAttrs_list PySem.F.slot_list_append PySem.F.type_list_append jO (pv 2) (ja (pv 6) jc)))))))))
  (jg (jA (pv 2)))))),?_⟩
 refine jG (σ':=[some _,none,none,none,none,none,none]) rfl ?_;have sz:(200:Nat)<sizeLine:=by decide
 have W:=S.w;have pa:=B.pa.1;have gl:=S.gl;have ay:=W.p61;exists⟨b,pl,pp,Z,a7,_,_,rfl,B,W,fun lm ab M H1 s1 au ae ax Ml aM oM=>?_⟩;have mg:=S.mv M Ml oM;have ar:=aM.1;exists⟨vb _,?_⟩;walk_at"f l hl H2 s2 t2";have nl:=none_of s1 hl;have a8:=s1.trans s2;exists⟨b,pl,pp,Z,a7,_,_,rfl,B.same a8,W,fun li a3 H3 s3 a2 a1 al lia=>?_⟩;walk_at"g";have a9:=a8.trans s3;have aq:=s2.trans s3;have J:=lia.1;rw[vt]at J;have am:li≠l:=fun z=>by rw[z,t2]at a2;cases a2
 have t3:H3 l=some (.lst []):=s3 _ _ t2;have a6:∀{c u},H c=some u->c≠l:=fun h=>je h nl
 have an:∀{c u},H1 c=some u->c≠l:=fun h=>je h hl
 refine⟨li,_,rfl,SqL.of a1,?_⟩;refine YX (xs:=a3.map V.ref) (fun i σ r=>IvE4 fun(o3 o4 o5 o6:Option V)=>IvA2 (σ=[some (.ref b),some (.ref lm),some (.ref l),o3,o4,o5,o6]) ((∀c u,c≠l->H3 c=some u->r c=some u)/\r l=some (.lst ((gs.take i).map V.int))))
  ⟨_,_,_,_,rfl,fun c u _ h=>h,t3⟩ ?_ ?_ ?_
 ·rintro i σ r _ ⟨o3,o4,o5,o6,rfl,sm,e1⟩;exact SqL.of (sm _ _ am a1)
 ·rintro i v σ r P C hv ⟨o3,o4,o5,o6,rfl,sm,e1⟩ sP tP;obtain⟨X,av,rfl,O,ah⟩:=lia.at_ref hv;have hi:i<F.length:=by
   have:=(vx.mp O).1;rw[vt]at this;exact this
  obtain⟨p,hp⟩:∃p,F[i]?=some p:=⟨_,vz hi⟩
  rw[vv,hp]at O;cases O;obtain⟨a,ea,fb,af,hf⟩:=B.pa.get hp;have aj:X∈a3:=by
   rw[vv]at hv;obtain⟨a',ad,e'⟩:=vh.mp hv;injection e' with e';subst e';exact vm ad
  have a5:X≠l:=fun z=>by have:=al X aj;rw[z,t2]at this;cases this
  have k4:∀c u,c≠l->H3 c=some u->C c=some u:=fun c u I h=>sP _ _ (sm _ _ I h)
  have y:∀c u,H c=some u->C c=some u:=fun c u h=>k4 _ _ (a6 h) (a9 _ _ h)
  have a4:∀c u,H1 c=some u->C c=some u:=fun c u h=>k4 _ _ (an h) (aq _ _ h)
  have o:C X=some (.lst (((inP F p.2).map fun j:Nat=>(j:Int)).map V.int)):=k4 _ _ a5 ah;have ac:=sP _ _ e1;have m:FormAt C fb p.2:=FormAt.same y hf;have Y:=fun j=>W.inP_lt (j:=j) hp
  have w8:(inP F p.2).length<=8:=by unfold inP;rw[vt];exact(W.f i p hp).2
  obtain⟨lp,ak⟩:=S.ln i p hp;have aw:=S.gb i hi;refine Qk (SqT.of tP) ?_;exists ixTm (SqT.of (y _ _ B.t)) rfl ?_;exists ixLm (SqL.of (y _ _ B.p)) (KG (i:=(i:Int)) (by lia) ea) ?_;exists ixTm (SqT.of (y _ _ af)) rfl ?_;exists⟨fun σ' H5=>σ'=[some (.ref b),some (.ref lm),some (.ref l),some (.int i),some (.ref X),some (.ref fb),o6]/\Same C H5,?_,?_⟩
  rotate_left
  ·by_cases U:∃qs,p.2 = .side qs
   ·obtain⟨qs,e⟩:=U;have ap:=S.sd i p qs hp e;generalize inP F p.2=is at o Y ap w8;rw[e]at m;obtain⟨nb,ag,_⟩:=m;exists ixTm (SqT.of ag) rfl ?_;exists iteE1 ?_;exists⟨X,rfl,⟨_,SqL.of o⟩,?_⟩;have aa:∀j∈is,∃c,ab[j]?=some c/\C c=some (.lst ((hs.getD j []).map V.int)):=fun j D=>by
     have jl:=Y j D;obtain⟨c,I,h1⟩:=aM.get (i:=j) (x:=M.getD j []) (by rw[vy,vz (by lia)];rfl);rw[mg j (by lia)]at h1;exact⟨c,I,a4 _ _ h1⟩
    refine qi (xs:=(is.map fun j:Nat=>(j:Int)).map V.int) (fun t G r=>IvE1 fun(L:List Addr)=>IvA2 (G=L.map V.ref) (ListsAt C L ((is.take t).map fun j=>hs.getD j [])/\C=r)) ⟨[],rfl,.nil,rfl⟩ ?_ ?_ ?_
    ·rintro t G r _ ⟨L,rfl,lc,rfl⟩;exact SqL.of o
    ·rintro t x G r hx ⟨L,rfl,lc,rfl⟩;rw[vv,vv]at hx;obtain⟨jj,R,rfl⟩:=vh.mp hx;obtain⟨j,D,rfl⟩:=vh.mp R;obtain⟨c,I,h1⟩:=aa j (vm D);have a0:=lc.1;rw[vt,vj]at a0;refine J2 (σ':=[none,some _]) rfl ?_;exists iteT ?_;exists ixLm (SqL.of (a4 _ _ ae)) (KG (i:=(j:Int)) (by lia) I) ?_;refine⟨by rw[vt];lia,L++[c],by rw[vk];rfl,?_,rfl⟩;rw[take_snoc D,vk];exact All2.snoc lc h1
    rintro G r ⟨L,rfl,lc,rfl⟩;rw[vt,vt,v2]at lc;have a0:=lc.1;rw[vt]at a0;refine⟨by rw[vt];lia,?_⟩;walk_at"f 5 t";exists ixTm (SqT.of (s5 _ _ (y _ _ B.t))) rfl ?_;exists⟨_,p5,pl,L,Z,(is.map fun j=>hs.getD j []),rfl,t5,All2.mono lc fun c ks h=>s5 _ _ h,fun ks ai=>?_,by rw[vt];lia,s5 _ _ (y _ _ B.l),ap.2,fun H6 s6=>?_⟩
    ·obtain⟨j,D,rfl⟩:=vJ.mp ai;exact ap.1 j D
    walk_at"g";exact⟨rfl,s5.trans s6⟩
   ·have kd:∃k xs,C fb=some (.tup (.str k::xs))/\decide (k=("side" : Str))=false:=by
     generalize p.2=f at m U;cases f with
     | side qs=>exact ug ⟨qs,rfl⟩ U
     | hold n=>exact⟨_,_,m,by decide +kernel⟩
     | ring x n=>exact⟨_,_,m,by decide +kernel⟩
     | rise x v n=>exact⟨_,_,m,by decide +kernel⟩
     | row qs=>obtain⟨_,h1,_⟩:=m;exact⟨_,_,h1,by decide +kernel⟩
     | again k x=>exact⟨_,_,m,by decide +kernel⟩
    obtain⟨k,xs,hk,dk⟩:=kd;exists ixTm (SqT.of hk) (at0) ?_;exists iteB0 dk ?_;walk_at"g";exact⟨rfl,Same.refl _⟩
  rintro σ' H5 ⟨rfl,s5⟩;exists⟨X,rfl,⟨_,SqL.of (s5 _ _ o)⟩,?_⟩;have N:=s5 _ _ ac;refine qi (xs:=((inP F p.2).map fun j:Nat=>(j:Int)).map V.int) (fun t G r=>G=(((inP F p.2).take t).map fun j=>gs.getD j 0).map V.int/\H5=r) ⟨rfl,rfl⟩ ?_ ?_ ?_
  ·rintro t G r _ ⟨rfl,rfl⟩;exact SqL.of (s5 _ _ o)
  ·rintro t x G r hx ⟨rfl,rfl⟩;rw[vv,vv]at hx;obtain⟨jj,R,rfl⟩:=vh.mp hx;obtain⟨j,D,rfl⟩:=vh.mp R;have jl:=Y j (vm D);refine J2 (σ':=[none,some _]) rfl ?_;exists iteT ?_;exists ixLm (SqL.of N) (j3V (by lia) jl) ?_;refine⟨by rw[vt,vt,vj];lia,?_,rfl⟩;rw[take_snoc D,vk,vk];rfl
  rintro G r ⟨rfl,rfl⟩;rw[show(((inP F p.2).map fun j:Nat=>(j:Int)).map V.int).length=(inP F p.2).length by rw[vt,vt],v2];refine⟨by rw[vt,vt];lia,?_⟩;walk_at"f 6 t";exists⟨fb,p6,p.2,_,rfl,FormAt.same (s5.trans s6) m,t6,lp,fun g hg=>?_⟩;have eg:=ak g hg;subst eg;exists iteD (fun d=>?_) (fun d=>?_)
  ·exfalso;lia
  exists⟨.inl ⟨rfl,_,SqL.of (s6 _ _ N)⟩,?_⟩;exists⟨l,_,_,rfl,rfl,s6 _ _ N,by rw[vt,vj];lia,?_⟩;refine⟨_,_,_,_,rfl,fun c u I h=>(jh I).trans (s6 _ _ (s5 _ _ (k4 _ _ I h))),?_⟩;rw[jC,j2x (by lia),vk];rfl
 rintro σ' r ⟨o3,o4,o5,o6,rfl,sm,e1⟩;rw[vt,J,<-gl,v2]at e1;walk_at"g";exact q l r (fun c u h=>sm _ _ (a6 h) (a9 _ _ h)) nl e1
theorem wg(T:Txt K mg t):FnOk P w K mg base CX0 1 t.Qz t.QF ["form","inside","sizes"] (sp_pieces_in):=by
 refine T.Yd.ok JQ (fun vs H Q E h=>?_) (fun a5 A a4 s H vs Q E hr h=>?_)
 ·cases h;subst_vars;rfl
 obtain⟨a,l,s0,f,g,C,rfl,o,el,es,i8,hj,a2,q⟩:=h;refine⟨_,(jb (j2 (jo j5 (ji jt (pv 0) jd) jB (nomark _))
   (jb (jp (i:=3) JQ.nd rfl (.inl rfl) (ji jv (pv 1) jd))
   (jb (jp (i:=4) JQ.nd rfl (.inl rfl) (yz (jo ZK (ji jt (pv 0) jd) jd (nomark _)) (jE (ja (jK (ja (pv 3) (ja (jq Qj (ji jt (pv 0) jd) jd) (ja (ji jv (pv 2) (pv 3)) jc)))) jc)) (jE jc)))
   (jg (jA (jq zL (jE (ja (jK (ja (pv 3) (ja jd (ja jd jc)))) jc)) (pv 4))))))
   jw)
  (jb (jp (i:=5) JQ.nd rfl (.inl rfl) (jE jc))
  (jb (jp (i:=6) JQ.nd rfl (.inl rfl) jd)
  (jb (Jc PassesOwn.never rfl (Jh (pv 1)) (ju (i:=3) JQ.nd rfl (.inl rfl))
   (jb (jZ (JR PySem.F.plainAttrs_list PySem.F.slot_list_append PySem.F.type_list_append jO (pv 5) (ja (jK (ja (pv 3) (ja jd (ja (pv 6) jc)))) jc)))
   (jg (j2 (jo j5 (ji jt (pv 0) jd) jB (nomark _))
    (jg (xK (i:=6) JQ.nd rfl (.inl rfl) (ji jv (pv 2) (pv 3)) xp))
    jw))))
  (jg (jA (pv 5))))))),?_⟩
 refine jG (σ':=[some _,some _,some _,none,none,none,none]) rfl ?_;have sz:(10000:Nat)<sizeLine:=by decide
 have S:∀j,j<C.length->C[j]?=some (C.getD j 0):=fun j h=>by
  rw[vy,vz h];rfl
 by_cases ha:∃k x,f = .again k x
 ·obtain⟨k,x,rfl⟩:=ha;have o:H a=some (.tup [.str "again",.int k,.str x]):=o;obtain⟨j,r,rfl⟩:=List.exists_cons_of_ne_nil (a2 k x rfl);have lj:=hj j vq;exists ixTm (SqT.of o) rfl ?_;exists iteE1 ?_;exists ixLm (SqL.of el) (at0) ?_;exists ixTm (SqT.of o) rfl ?_;exists iteD (fun c=>?_) (fun c=>?_)
  ·exists ixTm (SqT.of o) rfl ?_;exists ixLm (SqL.of es) (jW (j:=j) (by rw[vv,S j lj];rfl)) ?_;exists⟨ud,?_⟩;walk_at"f 1 t";exists⟨uf,?_⟩;walk_at"f 2 t";exists⟨ud,?_⟩;walk_at"f 3 t";exists⟨uf,?_⟩;walk_at"f 4 t";exists⟨p4,p2,_,_,rfl,rfl,t4,s4 _ _ (s3 _ _ t2),ue,?_⟩;walk_at"f 5 t";have O:=s1.trans (s2.trans (s3.trans (s4.trans s5)));refine q p5 [p3,p1] _ O (none_of (s1.trans (s2.trans (s3.trans s4))) hp5) t5 ?_;show PcsAt H5 _ ((j,1,0)::(if 1<k then[(j,k-1,C.getD j 0)]else[]));rw[ve c];exact .cons (s5 _ _ (s4 _ _ t3)) (.cons (s5 _ _ (s4 _ _ (s3 _ _ (s2 _ _ t1)))) .nil)
  ·exists⟨vb _,?_⟩;walk_at"f 2 t";exists⟨ud,?_⟩;walk_at"f 3 t";exists⟨uf,?_⟩;walk_at"f 4 t";exists⟨p4,p2,_,_,rfl,rfl,t4,s4 _ _ (s3 _ _ t2),uf,?_⟩;walk_at"f 5 t";have O:=s2.trans (s3.trans (s4.trans s5));refine q p5 [p3] _ O (none_of (s2.trans (s3.trans s4)) hp5) t5 ?_;show PcsAt H5 _ ((j,1,0)::(if 1<k then[(j,k-1,C.getD j 0)]else[]));rw[vd c];exact .cons (s5 _ _ (s4 _ _ t3)) .nil
 have a3:∃W xs,H a=some (.tup (.str W::xs))/\decide (W=("again" : Str))=false/\((decide (W=("row" : Str))=true/\∃xs,f = .row xs)\/(decide (W=("row" : Str))=false/\∀g,pcsI C f g=g.map fun j=>(j,1,0))):=by
  cases f with
  | hold n=>exact⟨_,_,o,by decide +kernel,.inr ⟨by decide +kernel,fun _=>rfl⟩⟩
  | ring x n=>exact⟨_,_,o,by decide +kernel,.inr ⟨by decide +kernel,fun _=>rfl⟩⟩
  | rise x v n=>exact⟨_,_,o,by decide +kernel,.inr ⟨by decide +kernel,fun _=>rfl⟩⟩
  | row ps=>obtain⟨b,F,_⟩:=o;exact⟨_,_,F,by decide +kernel,.inl ⟨by decide +kernel,_,rfl⟩⟩
  | side ps=>obtain⟨b,F,_⟩:=o;exact⟨_,_,F,by decide +kernel,.inr ⟨by decide +kernel,fun _=>rfl⟩⟩
  | again k x=>exact ug ⟨k,x,rfl⟩ ha
 obtain⟨W,xs,Z,dk,y⟩:=a3;exists ixTm (SqT.of Z) (at0) ?_;exists iteB0 dk ?_;exists⟨vb _,?_⟩;walk_at"f p hp H1 s1 t1";walk_at"g";have np:∀{c u},H c=some u->c≠p:=fun h=>je h hp
 refine⟨l,rfl,⟨_,SqL.of (s1 _ _ el)⟩,?_⟩;refine J0 (xs:=(g.map fun j:Nat=>(j:Int)).map V.int) (fun i σ I=>IvE4 fun(o3:Option V) (D:Int) (d:List Addr) (B:List Pc)=>IvA6 (σ=[some (.ref a),some (.ref l),some (.ref s0),o3,none,some (.ref p),some (.int D)]) (Same H I) (I p=some (.lst (d.map V.ref))) (d.length=i) (PcsAt I d B) (((∃xs,f = .row xs)->rowPc C g 0=B++rowPc C (g.drop i) D)/\(¬(∃xs,f = .row xs)->D=0/\B=(g.take i).map fun j=>(j,1,0))))
  ⟨_,0,[],[],rfl,s1,t1,rfl,.nil,fun _=>rfl,fun _=>⟨rfl,rfl⟩⟩ ?_ ?_ ?_
 ·rintro i σ I _ ⟨o3,D,d,B,rfl,X,J,la,hq,F,U⟩;exact SqL.of (X _ _ el)
 ·rintro i v σ I hv ⟨o3,D,d,B,rfl,X,J,la,hq,F,U⟩;rw[vv,vv]at hv;obtain⟨jj,a1,rfl⟩:=vh.mp hv;obtain⟨j,G,rfl⟩:=vh.mp a1;have il:=(vx.mp G).1;have ed:g.drop i=j::g.drop (i+1):=by
   obtain⟨h,rfl⟩:=vx.mp G;exact List.drop_eq_getElem_cons h
  have lj:=hj j (vm G);exists⟨.inl ⟨rfl,_,SqL.of J⟩,?_⟩;exists⟨ud,?_⟩;walk_at"f 2 t";exists⟨p,_,_,rfl,rfl,s2 _ _ J,by rw[vt];lia,?_⟩;have n2:p2≠p:=fun z=>by rw[z,s2 _ _ J]at t2;cases t2
  have s3:Same H (upd H2 p (.lst (d.map V.ref++[.ref p2]))):=fun c u h=>(jh (np h)).trans (s2 _ _ (X _ _ h))
  have e3:upd H2 p (.lst (d.map V.ref++[.ref p2])) p=some (.lst ((d++[p2]).map V.ref)):=by rw[jC,vk];rfl
  have M:PcsAt (upd H2 p (.lst (d.map V.ref++[.ref p2]))) (d++[p2]) (B++[(j,1,D)]):=by
   refine All2.snoc (All2.mono hq fun c x h=>?_) ((jh n2).trans t2);exact(jh (fun z=>by rw[z,J]at h;cases h)).trans (s2 _ _ h)
  generalize upd H2 p (.lst (d.map V.ref++[.ref p2]))=H3 at s3 e3 M|-;exists ixTm (SqT.of (s3 _ _ Z)) (at0) ?_;walk_at"g";rcases y with⟨Y,m,R⟩ | ⟨Y,L⟩
  ·refine iteB1 Y ?_;exists ixLm (SqL.of (s3 _ _ es)) (jW (j:=j) (by rw[vv,S j lj];rfl)) ?_;exists⟨_,_,d++[p2],B++[(j,1,D)],rfl,s3,e3,by rw[vn,la];rfl,M,fun h=>?_,fun h=>ug ⟨m,R⟩ h⟩;rw[F h,ed,List.append_assoc];rfl
  ·refine iteB0 Y ?_;exists⟨_,_,d++[p2],B++[(j,1,D)],rfl,s3,e3,by rw[vn,la];rfl,M,fun h=>?_,fun h=>?_⟩
   ·obtain⟨m,R⟩:=h;subst R;have:=L [0,0];obtain⟨bb,a0,_⟩:=o;rw[a0]at Z;cases Z;exact ug Y (by decide +kernel)
   ·obtain⟨b0,eq⟩:=U h;refine⟨b0,?_⟩;rw[take_snoc G,vk,eq,b0];rfl
 rintro σ' I ⟨o3,D,d,B,rfl,X,J,la,hq,F,U⟩;rw[show((g.map fun j:Nat=>(j:Int)).map V.int).length=g.length by rw[vt,vt]]at F U;exists q p d I X hp J ?_;have e:pcsI C f g=B:=by
  by_cases N:∃xs,f = .row xs
  ·obtain⟨m,rfl⟩:=N;show rowPc C g 0=B;rw[F ⟨m,rfl⟩,List.drop_length];exact append_nil _
  ·rcases y with⟨_,m,R⟩ | ⟨_,L⟩
   ·exact ug ⟨m,R⟩ N
   ·rw[L,(U N).2,v2]
 rw[e];exact hq
theorem wk(T:Txt K mg t)(QO:FnOk P w K mg base CX0 2 t.zH t.zI ["book"] (sp_inner))(Zj:FnOk P w K mg base CX0 1 t.Qz t.QF ["form","inside","sizes"] (sp_pieces_in)):FnOk P w K mg base CX0 3 t.QA t.QG ["book","sizes"] (sp_pieces_of):=by
 refine T.Ye.ok wH (fun vs H Q E h=>?_) (fun a1 A a0 s H vs Q E hr h=>?_)
 ·cases h;subst_vars;rfl
 obtain⟨b,pl,pp,s0,Z,C,ls,D,gs,rfl,B,W,es,gl,q⟩:=h;refine⟨_,(jg (jA (qA (ow:=["part","inside"]) (ci:=[1]) rfl (CompScope.of (defScope zi) ["book","sizes"] rfl rfl (by decide +kernel)) (Xk (by decide) (by decide)) (xH (by rfl) T.j0G (ja (ji jt (pv 0) jd) (ja (jr (QO.mono (by decide)) hr (by rfl) T.KZ T.Yo.kp T.Kz .nil pass0 (ja (pv 0) jc)) jc))) (fun _ _ _ _ _=>⟨(qD rfl (jF (ju (i:=0) (JA ["book","sizes"] rfl (by decide +kernel)) rfl (.inl rfl)) (jF (ju (i:=1) (JA ["book","sizes"] rfl (by decide +kernel)) rfl (.inl rfl)) JP))),QM,(jr (Zj.mono (by decide)) hr (by rfl) T.Wu T.Yd.kp T.wR .nil pass0 (ja (ji (Xp (K:=K) rfl) (pv 0) jd) (ja (pv 1) (ja (pv 2) jc))))⟩)))),?_⟩;refine jG (σ':=[some _,some _]) rfl ?_;have sz:(10000:Nat)<sizeLine:=by decide
 have a5:=W.p61;have pa:=B.pa.1;exists ixTm (SqT.of B.t) rfl ?_;exists⟨b,pl,pp,Z,C,ls,D,rfl,B,W,fun li Y H3 F a2 n a4 lia=>?_⟩;walk_at"g";have y:=lia.1;rw[vt]at y;refine⟨pp,li,_,_,rfl,SqL.of (F _ _ B.p),SqL.of n,?_⟩;refine j0I (xs:=C.map V.ref) (zs:=Y.map V.ref) (fun i J m=>IvE1 fun(d:List Addr)=>IvA4 (J=d.map V.ref) (d.length=i) (Same H3 m) ((∀a∈d,H a=none)/\PssAt m d ((D.take i).map fun p=>pcsI gs p.2 (inP D p.2)))) (by rw[vt,vt];lia) ⟨[],rfl,rfl,Same.refl _,(fun a h=>nomatch h),.nil⟩ ?_ ?_ ?_
 ·rintro i J m _ ⟨d,rfl,G,g,I,l⟩;exact⟨SqL.of (g _ _ (F _ _ B.p)),SqL.of (g _ _ n)⟩
 ·rintro i u v J m T0 H4 hu hv ⟨d,rfl,G,g,I,l⟩ sP tP;have hi:=(vx.mp hu).1;rw[vt]at hi;obtain⟨a,p,rfl,r,fb,R,hf⟩:=B.pa.at_ref hu;obtain⟨ia,is,rfl,o,S⟩:=lia.at_ref hv;rw[vv,r]at o;cases o;have a3:=(vx.mp r).1;have s4:=g.trans sP;have f:=F.trans s4;have i8:(inP D p.2).length<=8:=by unfold inP;rw[vt];exact(W.f i p r).2
  refine J2 (σ':=[none,none,some _]) rfl ?_;refine Qk (SqT.of tP) ?_;exists iteT ?_;exists ixTm (SqT.of (f _ _ R)) rfl ?_;exists⟨fb,ia,s0,p.2,inP D p.2,gs,rfl,FormAt.same f hf,s4 _ _ S,f _ _ es,i8,fun j hj=>by have:=W.inP_lt r hj;lia,fun k x e=>by rw[e];exact cons_ne_nil _ _,fun p5 L H5 s5 U e5 X=>?_⟩;refine⟨by rw[vt];lia,d++[p5],by rw[vk];rfl,by rw[vn,G];rfl,s4.trans s5,fun c hc=>(vi.mp hc).elim (I c) fun z=>by rw[vo.mp z];exact none_of f U,?_⟩;rw[take_snoc r,vk];refine All2.snoc (All2.mono l fun c x h=>?_) ⟨L,e5,X⟩;obtain⟨M,N,O⟩:=h;exact⟨M,s5 _ _ (sP _ _ N),All2.mono O fun c x h=>s5 _ _ (sP _ _ h)⟩
 rintro J m ⟨d,rfl,G,g,I,l⟩;rw[vt]at G l;refine⟨by rw[vt];lia,?_⟩;walk_at"f 4 t";refine q _ d _ (F.trans (g.trans s4)) (none_of (F.trans g) hp4) t4 ?_ I;rw[pa,v2]at l;refine All2.mono l fun c x h=>?_
 obtain⟨M,N,O⟩:=h;exact⟨M,s4 _ _ N,All2.mono O fun c x h=>s4 _ _ h⟩
theorem Za(T:Txt K mg t)(yI:FnOk P w K mg base CX0 5 t.zr t.zt ["book"] (sp_lengths))(Zk:FnOk P w K mg base CX0 3 t.QA t.QG ["book","sizes"] (sp_pieces_of)):FnOk P w K mg base CX0 6 t.j4 t.Jf ["self","book","word"] (sp_initR t.jP):=by
 refine T.Zc.ok Jn (fun vs H Q E h=>?_) (fun aE A au s H vs Q E hr h=>?_)
 ·cases h;subst_vars;rfl
 obtain⟨a,g,b,pl,pp,ad,a1,ls,ps,gs,hs,x,rfl,ha,B,N,wx,wf,q⟩:=h;refine⟨_,(jb (wz (pv 0) (jr (yI.mono (by decide)) hr (by rfl) T.j03 T.kS.kp T.XT .nil pass0 (ja (pv 1) jc)) rfl)
  (jb (wz (pv 0) (ji jv (QL (pv 0) rfl) (Y8 Z1 jd)) rfl)
  (jb (wz (pv 0) (jr (Zk.mono (by decide)) hr (by rfl) T.Wv T.Ye.kp T.wS .nil pass0 (ja (pv 1) (ja (QL (pv 0) rfl) jc))) rfl)
  (jb (wz (pv 0) (jE jc) rfl)
  (jg (Jc PassesOwn.never rfl (xH (by rfl) T.j0G (ja (ji jt (pv 1) jd) (ja (QL (pv 0) rfl) jc))) (qD rfl (jF (ju (i:=3) Jn.nd rfl (.inl rfl)) (jF (ju (i:=4) Jn.nd rfl (.inl rfl)) JP)))
   (jb (jp (i:=5) Jn.nd rfl (.inl rfl) (yz (jo (Y7 hr.units) (QH j3N (ji jt (pv 3) jd) zf (zg jd)) (jK (ja jB (ja (pv 2) jc))) (nomark _)) jd jd))
   (jg (jZ (JR PySem.F.plainAttrs_list PySem.F.slot_list_append PySem.F.type_list_append jO (QL (pv 0) rfl) (ja (jq jU (pv 5) (jz (yL rfl) (by rfl) T.j0F W9 (ja (qA (ow:=["other","turns","begin"]) (ci:=[0]) rfl (CompScope.of (defScope Jq) ["self","book","word","part","pieces","own"] rfl rfl (by decide +kernel)) (j2w (by decide) (by decide) (by decide)) (Jh (pv 4)) (fun _ _ _ _ _=>⟨(qD rfl (jF (ju (i:=0) (JA ["self","book","word","part","pieces","own"] rfl (by decide +kernel)) rfl (.inl rfl)) (jF (ju (i:=1) (JA ["self","book","word","part","pieces","own"] rfl (by decide +kernel)) rfl (.inl rfl)) (jF (ju (i:=2) (JA ["self","book","word","part","pieces","own"] rfl (by decide +kernel)) rfl (.inl rfl)) JP)))),QM,(jq Qc (pv 1) (ji (yl (K:=K) rfl) (j2O (K:=K) rfl (pv 3) rfl) (pv 0)))⟩)) jc))) jc))))))))))),?_⟩
 refine jG (σ':=[some _,some _,some _,none,none,none]) rfl ?_;have sz:(200:Nat)<sizeLine:=by decide
 have W:=N.s.w;have gl:=N.s.gl;have aG:=W.p61;have ne:=N.ne;have av:=B.pa.1;obtain⟨H0,D,n0,B0⟩:=B.less ha;have z0:Same H0 H:=D H fun c u _ h=>h
 exists⟨b,pl,pp,ad,a1,ls,ps,gs,hs,rfl,B,N.s,fun l5 H5 s5 aa e5=>?_⟩;exists⟨a,_,g,[],rfl,s5 _ _ ha,T.jI,T.jT,(by show 0<1000;decide),?_⟩;have o:l5≠a:=fun z=>by rw[z,ha]at aa;cases aa
 generalize e6:upd H5 a _=H6;have k6:∀c u,c≠a->H5 c=some u->H6 c=some u:=fun c u n h=>e6▸(jh n).trans h
 have a6:=Qg e6;clear e6;have z6:Same H0 H6:=D H6 fun c u n h=>k6 _ _ n (s5 _ _ h)
 exists⟨a,_,g,_,_,rfl,a6,T.jI,T.jT,yP,?_⟩;exists ixLm (SqL.of (k6 _ _ o e5)) (j2c ne gl) ?_;exists⟨a,_,g,_,rfl,a6,T.jI,T.Jj,few (Q3 _ _ _) (by decide),?_⟩;generalize e7:upd H6 a _=H7;have k7:∀c u,c≠a->H6 c=some u->H7 c=some u:=fun c u n h=>e7▸(jh n).trans h
 have M:=Qg e7;clear e7;have z7:Same H0 H7:=fun c u h=>k7 _ _ (n0 h) (z6 _ _ h)
 exists⟨a,_,g,_,_,rfl,M,T.jI,T.jT,(Q0 (by decide +kernel)).trans yP,?_⟩;exists⟨b,pl,pp,l5,ad,a1,ls,ps,gs,rfl,B0.same z7,W,k7 _ _ o (k6 _ _ o e5),gl,fun l8 m J G ab e8 U ae=>?_⟩;have n8:l8≠a:=fun z=>by rw[z,M]at ab;cases ab
 exists⟨a,_,g,_,rfl,G _ _ M,T.jI,T.jV,vC (Q3 _ _ _) (vC (Nat.succ_le_succ (Q3 _ _ _)) (by decide)),?_⟩;generalize e9:upd J a _=H9;have k9:∀c u,c≠a->J c=some u->H9 c=some u:=fun c u n h=>e9▸(jh n).trans h
 have a9:=Qg e9;clear e9;exists⟨vb _,?_⟩;walk_at"f pw hpw H10 s10 t10";have nw:pw≠a:=fun z=>by rw[z,a9]at hpw;cases hpw
 exists⟨a,_,g,_,rfl,s10 _ _ a9,T.jI,T.jQ,few3,?_⟩;generalize R:upd H10 a _=H11;have ac:∀c u,c≠a->H10 c=some u->H11 c=some u:=fun c u n h=>R▸(jh n).trans h
 have L:H11 a=some (.ins t.jP g (fldR ⟨l5,l8,pw,m⟩ (gs.getD (ps.length-1) 0))):=Qg R;clear R;have C:∀c u,c≠a->J c=some u->H11 c=some u:=fun c u n h=>ac _ _ n (s10 _ _ (k9 _ _ n h))
 have ah:Same H0 H11:=fun c u h=>C _ _ (n0 h) (G _ _ (z7 _ _ h))
 have F:∀{c u},c≠a->J c=some u->c≠pw:=fun n h=>je (k9 _ _ n h) hpw
 have af:∀{c u},H0 c=some u->c≠pw:=fun h=>F (n0 h) (G _ _ (z7 _ _ h))
 have az:=ac _ _ nw t10;have I:=B0.same ah;exists ixTm (SqT.of I.t) rfl ?_;exists⟨a,_,g,_,_,rfl,L,T.jI,T.jV,yQ,?_⟩;walk_at"g";have aw:=U.1;rw[vt]at aw;refine⟨pp,l8,_,_,rfl,SqL.of I.p,SqL.of (C _ _ n8 e8),?_⟩;refine Xj (xs:=a1.map V.ref) (ys:=m.map V.ref) (fun i σ H'=>IvE4 fun(o3 o4 o5:Option V) (l:List Int)=>IvA3 (σ=[some (.ref a),some (.ref b),some (.str x),o3,o4,o5]) (∀c u,c≠pw->H11 c=some u->H' c=some u) (H' pw=some (.lst (l.map V.int))/\WPre ps gs x l i)) (by rw[vt,vt];lia) ⟨_,_,_,[],rfl,fun c u _ h=>h,az,rfl,fun j p h=>ug h (Nat.not_lt_zero _)⟩ ?_ ?_ ?_
 ·rintro i σ H' _ ⟨o3,o4,o5,l,rfl,f,e,O⟩;exact⟨SqL.of (f _ _ (af B0.p) I.p),SqL.of (f _ _ (F n8 e8) (C _ _ n8 e8))⟩
 ·rintro i u v σ H' T0 a3 hu hv ⟨o3,o4,o5,l,rfl,f,ew,O⟩ sP tP;obtain⟨pa,p,rfl,hp,fb,al,hf⟩:=B0.pa.at_ref hu;obtain⟨c0,qs,rfl,Y,bs,an,a8⟩:=U.at_ref hv;rw[vv,hp]at Y;have ao:=(vx.mp hp).1;have S:qs=pcB ps gs i:=by
   unfold pcB;rw[hp];exact(vK Y).symm
  clear Y;have ai:c0∈m:=by
   rw[vv]at hv;obtain⟨a',ea,e'⟩:=vh.mp hv;injection e' with e';subst e';exact vm ea
  have ar:c0≠a:=fun z=>by have:=ae c0 ai;rw[z,M]at this;cases this
  have a0:∀c u,H0 c=some u->a3 c=some u:=fun c u h=>sP _ _ (f _ _ (af h) (ah _ _ h))
  have ag:∀c u,c≠a->J c=some u->a3 c=some u:=fun c u n h=>sP _ _ (f _ _ (F n h) (C _ _ n h))
  have r:∀{c:Addr} {xs:List V},J c=some (.tup xs)->c≠a:=fun h=>Jl h (G _ _ M) (fun z=>by cases z)
  obtain⟨xs,ak,aq,aA⟩:=j20 (x:=x) hf (wf p (vm hp));refine Qk (SqT.of tP) ?_;exists ixTm (SqT.of (a0 _ _ al)) rfl ?_;exists j2X (a0 _ _ ak) aq fun cc aC ax aj=>?_
  exists⟨ue,?_⟩;walk_at"f 14 t";have s1:=ax.trans s14;obtain⟨d,dv,sh,ev⟩:=aA H14 cc (fun c u h=>s1 _ _ (a0 _ _ h)) (s14 _ _ aj);have ay:SeqAt.shaped (.tuple [.str "ring",.str x])=true:=(Shp.tup (n:=0) (zy (xs:=["ring",x]) fun y Z=>by
   rcases mem_cons.mp Z with rfl | Z
   ·decide +kernel
   ·rw[vo.mp Z];exact wx)).ok (by decide)
  refine⟨d,_,dv,.tup t14 (.cons (.str _) (.cons (.str _) .nil)),sh,ay,?_⟩;refine⟨_,rfl,?_⟩;rw[ev];have as:ownW x p.2=0\/ownW x p.2=1:=by
   unfold ownW;split
   ·split
    ·exact .inr rfl
    ·exact .inl rfl
   ·exact .inl rfl
  have a4:H14 a=_:=s1 _ _ (sP _ _ (f _ _ (Ne.symm nw) L));have a2:H14 pw=_:=s1 _ _ (sP _ _ ew);have a5:H14 c0=_:=s1 _ _ (ag _ _ ar an);have am:=a8.1;have q8:qs.length<=8:=S▸wo N i;have aD:=O.1;refine iteD (fun c=>?A) (fun c=>?B)
  case' A=>have eo:ownW x p.2=1:=c
  case' B=>have eo:ownW x p.2=0:=as.resolve_right c
  all_goals
   exists⟨a,_,g,_,_,rfl,a4,T.jI,T.jQ,ZA,.inl ⟨rfl,_,SqL.of a2⟩,?_⟩;exists⟨c0,rfl,⟨_,SqL.of a5⟩,?_⟩;refine qi (xs:=bs.map V.ref) (fun j ys k=>ys=((qs.take j).map fun q=>q.2.1*l.getD q.1 0).map V.int/\H14=k) ⟨rfl,rfl⟩ ?_ ?_ ?_
   ·rintro j ys k _ ⟨rfl,rfl⟩;exact SqL.of a5
   ·rintro j v ys k ap ⟨rfl,rfl⟩;obtain⟨cq,y,rfl,Z,X⟩:=a8.at_ref ap;have aF:=(vx.mp Z).1;have ym:y∈pcB ps gs i:=S▸vm Z;have aB:=zM W ym;obtain⟨_,_,_,k4,k5,_,_⟩:=N.pcOk ym;have bw:=O.b250 N (vW ao) aB;have ey:l[y.1]?=some (l.getD y.1 0):=by rw[vy,vz (by lia)];rfl
    refine J2 (σ':=[none,none,none,some (.ref a)]) rfl ?_;refine j1E (SqT.of (s1 _ _ (ag _ _ (r X) X))) ?_;exists iteT ?_;exists⟨a,_,g,_,_,rfl,a4,T.jI,T.jQ,ZA,?_⟩;exists ixLm (SqL.of a2) (jW (j:=y.1) (by rw[vv,ey];rfl)) ?_;exists⟨by rw[vt,vt,vj];lia,?_,rfl⟩;rw[take_snoc Z,vk,vk];rfl
   rintro ys k ⟨rfl,rfl⟩;rw[show(bs.map V.ref).length=qs.length from(vt _).trans am,v2];refine⟨by rw[vt,vt];lia,?_⟩;walk_at"f 15 t";exists⟨p15,_,rfl,SqL.of t15,?_⟩;exists⟨pw,_,_,rfl,rfl,s15 _ _ a2,by rw[vt];lia,?_⟩;walk_at"g";have O2:=O.snoc W hp;rw[eo]at O2;refine⟨_,_,_,_,rfl,fun c u X h=>(jh X).trans (s15 _ _ (s1 _ _ (sP _ _ (f _ _ X h)))),?_,O2⟩;rw[jC,vk,<-S];rfl
 ·rintro σ H' ⟨o3,o4,o5,l,rfl,f,ew,O⟩;rw[vt,av]at O;exists q ⟨l5,l8,pw,m⟩ l H' (fun c u n h=>?_) O ⟨⟨g,f _ _ (Ne.symm nw) L⟩,f _ _ (F o (G _ _ (k7 _ _ o (k6 _ _ o e5)))) (C _ _ o (G _ _ (k7 _ _ o (k6 _ _ o e5)))),f _ _ (F n8 e8) (C _ _ n8 e8),?_,ew⟩
  ·have h8:=G _ _ (k7 _ _ n (k6 _ _ n (s5 _ _ h)));exact f _ _ (F n h8) (C _ _ n h8)
  ·refine All2.monoM U fun c X e ⟨bs,h1,h2⟩=>?_
   have r:∀{c:Addr} {xs:List V},J c=some (.tup xs)->c≠a:=fun h=>Jl h (G _ _ M) (fun z=>by cases z)
   have nc:c≠a:=fun z=>by have:=ae c X;rw[z,M]at this;cases this
   exact⟨bs,f _ _ (F nc h1) (C _ _ nc h1),All2.mono h2 fun b' q' h=>f _ _ (F (r h) h) (C _ _ (r h) h)⟩
theorem WE(T:Txt K mg t):FnOk P w K mg base CX0 1 t.QV t.QY ["pieces","sizes","gone"] (sp_progress):=by
 refine T.YG.ok J3 (fun vs H Q E h=>?_) (fun a0 A O s H vs Q E hr h=>?_)
 ·cases h;subst_vars;rfl
 obtain⟨l,s0,b,bs,R,a,rfl,U,X,W,q8,ok,t1,t2,q⟩:=h;refine⟨_,(jb (jp (i:=3) J3.nd rfl (.inl rfl) (jE jc))
  (jb (Jc PassesOwn.never rfl (Jh (pv 0)) (qD rfl (jF (ju (i:=4) J3.nd rfl (.inl rfl)) (jF (ju (i:=5) J3.nd rfl (.inl rfl)) (jF (ju (i:=6) J3.nd rfl (.inl rfl)) JP))))
   (jg (j2 (jo WF (pv 6) (pv 2) (nomark _))
    (jb (jp (i:=7) J3.nd rfl (.inl rfl) (jz (yK rfl) (by rfl) T.j0D W8 (ja (jq Jb (jq Qj (pv 2) (pv 6)) (ji jv (pv 1) (pv 4))) (ja (pv 5) jc))))
    (jb (jp (i:=8) J3.nd rfl (.inl rfl) (yz (jo Zn (pv 7) (pv 5) (nomark _)) (jq Qj (jq Qj (pv 2) (pv 6)) (jq Qc (pv 7) (ji jv (pv 1) (pv 4)))) j1v))
    (jg (jZ (JR PySem.F.plainAttrs_list PySem.F.slot_list_append PySem.F.type_list_append jO (pv 3) (ja (jK (ja (pv 4) (ja (pv 6) (ja (pv 7) (ja (pv 8) jc))))) jc))))))
    jw)))
  (jg (jA (pv 3))))),?_⟩
 refine jG (σ':=[some _,some _,some _,none,none,none,none,none,none]) rfl ?_;have sz:(10000:Nat)<sizeLine:=by decide
 have B:∀j,j<a.length->a[j]?=some (a.getD j 0):=fun j h=>by
  rw[vy,vz h];rfl
 have bl:=X.1;exists⟨vb _,?_⟩;walk_at"f p hp H1 s1 e1";have Z:∀{c u},H c=some u->c≠p:=fun h=>je h hp
 exists⟨l,rfl,⟨_,SqL.of (s1 _ _ U)⟩,?_⟩;refine J0 (xs:=bs.map V.ref) (fun i S m=>IvE6 fun(F G I J L:Option V) (d:List Addr)=>IvA4 (S=[some (.ref l),some (.ref s0),some (.int b),some (.ref p),F,G,I,J,L]) (Same H m) (m p=some (.lst (d.map V.ref))) (d.length<=i/\PrgAt m d (prg a b (R.take i))))
  ⟨_,_,_,_,_,[],rfl,s1,e1,vc _,.nil⟩ ?_ ?_ ?_
 ·rintro i S m _ ⟨F,G,I,J,L,d,rfl,k,e,Y,n⟩;exact SqL.of (k _ _ U)
 ·rintro i v S m hv ⟨F,G,I,J,L,d,rfl,k,e,Y,n⟩;obtain⟨c,x,rfl,N,hc⟩:=X.at_ref hv;have hi:=(vx.mp N).1;have C:=ok x (vm N);have D:=C;obtain⟨x1,g1,g2,n1,n2,b1,b2⟩:=D;have g:prg a b (R.take (i+1))=prg a b (R.take i)++(prg1 a b x).toList:=by
   rw[take_snoc N];unfold prg;rw[List.filterMap_append];congr 1
  refine j1E (SqT.of (k _ _ hc)) ?_;exists iteD (fun r=>?_) (fun r=>?_)
  ·have a2:=j1q C r;exists ixLm (SqL.of (k _ _ W)) (jW (j:=x.1) (by rw[vv,B _ x1];rfl)) ?_;walk_at"g";have eo:(if x.2.1<(b-x.2.2)/a.getD x.1 0 then x.2.1 else(b-x.2.2)/a.getD x.1 0)=ov a b x:=rfl;have a1:(if(b-x.2.2)/a.getD x.1 0>x.2.1 then x.2.1 else(b-x.2.2)/a.getD x.1 0)=ov a b x:=rfl;refine⟨_,_,rfl,?_⟩;rw[eo];exists iteD (fun M=>?_) (fun M=>?_)
   ·exists ixLm (SqL.of (k _ _ W)) (jW (j:=x.1) (by rw[vv,B _ x1];rfl)) ?_;exists⟨.inl ⟨rfl,_,SqL.of e⟩,?_⟩;exists⟨uc,?_⟩;walk_at"f 2 e";exists⟨p,_,_,rfl,rfl,s2 _ _ e,by rw[vt];lia,?_⟩;have o:p2≠p:=fun z=>by rw[z,s2 _ _ e]at e2;cases e2
    refine⟨_,_,_,_,_,d++[p2],rfl,fun c u h=>(jh (Z h)).trans (s2 _ _ (k _ _ h)),by rw[jC,vk];rfl,by rw[vn];show d.length+1<=_;lia,?_⟩;have f:prg1 a b x=some (x.1,x.2.2,ov a b x,some (b-x.2.2-ov a b x*a.getD x.1 0)):=by
     unfold prg1;rw[ve r,ve M]
    rw[g,f];refine All2.snoc (All2.mono n fun c y h=>?_) ((jh o).trans e2);exact(jh (fun z=>by rw[z,e]at h;cases h)).trans (s2 _ _ h)
   ·exists⟨.inl ⟨rfl,_,SqL.of e⟩,?_⟩;exists⟨uc,?_⟩;walk_at"f 2 e";exists⟨p,_,_,rfl,rfl,s2 _ _ e,by rw[vt];lia,?_⟩;have o:p2≠p:=fun z=>by rw[z,s2 _ _ e]at e2;cases e2
    refine⟨_,_,_,_,_,d++[p2],rfl,fun c u h=>(jh (Z h)).trans (s2 _ _ (k _ _ h)),by rw[jC,vk];rfl,by rw[vn];show d.length+1<=_;lia,?_⟩;have f:prg1 a b x=some (x.1,x.2.2,ov a b x,none):=by
     unfold prg1;rw[ve r,vd M]
    rw[g,f];refine All2.snoc (All2.mono n fun c y h=>?_) ((jh o).trans e2);exact(jh (fun z=>by rw[z,e]at h;cases h)).trans (s2 _ _ h)
  ·exists⟨_,_,_,_,_,d,rfl,k,e,by lia,?_⟩;have f:prg1 a b x=none:=by
    unfold prg1;rw[vd r]
   rw[g,f];show PrgAt m d (_++[]);rw[append_nil];exact n
 rintro σ' m ⟨F,G,I,J,L,d,rfl,k,e,Y,n⟩;rw[vt,bl,v2]at n;walk_at"g";exact q p d m k hp e n
theorem ZV(T:Txt K mg t)(ZO:FnOk P w K mg base CX0 1 t.QV t.QY ["pieces","sizes","gone"] (sp_progress)):FnOk P w K mg base CX0 2 t.Jo t.Jp ["self","beat"] (sp_aheadR t.jP):=by
 refine T.Z5.ok jJ (fun vs H Q E h=>?_) (fun aw A ao s H vs Q E hr h=>?_)
 ·cases h;subst_vars;rfl
 obtain⟨a,z,ls,ps,gs,C,hs,x,Z,rfl,U,N,O,b0,b1,q⟩:=h;refine⟨_,(jb (jp (i:=2) jJ.nd rfl (.inl rfl) jd)
  (jb (jp (i:=3) jJ.nd rfl (.inl rfl) (jE (ja (jK (ja (jq Qj (jz jR (by rfl) T.JJ Je (ja (QL (pv 0) rfl) jc)) jd) (ja (pv 1) jc))) jc)))
  (jb (j1x PassesOwn.never (j1z (pv 3) (fun _=>rfl))
   (jb (jp (i:=4) jJ.nd rfl (.inl rfl) (j1u PySem.F.plainAttrs_list PySem.F.slot_list_pop PySem.F.type_list_pop j3s (pv 3)))
   (jb (JU (PW.pt (Qd (xL (j1z (ji jv (QL (pv 0) rfl) (ji jt (pv 4) jd)) (fun _=>rfl))) (qB (jo ZK (ji jt (pv 4) jd) jd (nomark _)))))
    (jg (xK (i:=2) jJ.nd rfl (.inl rfl) (ji jv (QL (pv 0) rfl) (ji jt (pv 4) jd)) xp))
    jw)
   (jg (Jc PassesOwn.never rfl (Jh (jr (ZO.mono (by decide)) hr (by rfl) T.xy T.YG.kp T.W0 .nil pass0 (ja (ji jv (QL (pv 0) rfl) (ji jt (pv 4) jd)) (ja (QL (pv 0) rfl) (ja (ji jt (pv 4) jd) jc))))) (qD rfl (jF (ju (i:=5) jJ.nd rfl (.inl rfl)) (jF (ju (i:=6) jJ.nd rfl (.inl rfl)) (jF (ju (i:=7) jJ.nd rfl (.inl rfl)) (jF (ju (i:=8) jJ.nd rfl (.inl rfl)) JP)))))
    (jb (xK (i:=2) jJ.nd rfl (.inl rfl) (jq Qc (pv 7) (ji jv (QL (pv 0) rfl) (pv 5))) xp)
    (jg (j2 (jo j2M (pv 8) j1v (nomark _))
     (jg (jZ (JR PySem.F.plainAttrs_list PySem.F.slot_list_append PySem.F.type_list_append jO (pv 3) (ja (jK (ja (pv 5) (ja (pv 8) jc))) jc))))
     jw))))))))
  (jg (jA (pv 2)))))),?_⟩
 refine jG (σ':=[some _,some _,none,none,none,none,none,none,none]) rfl ?_;have sz:(20000:Nat)<sizeLine:=by decide
 have W:=N.s.w;have gl:=N.s.gl;have ne:=N.ne;have wl:=O.1;have ay:=W.p61;have au:=N.g (show ps.length-1<ps.length by lia);have M8:∀i,i<ps.length->(hs.getD i []).length<=8:=fun i hi=>Xw W N.hl N.m (Kj N.s N.hl hi)
 have wb:∀j,j<ps.length->0<=C.getD j 0/\C.getD j 0<=10^60*8^62:=fun j hj=>by
  have b:=O.bnd N (vc _) j hj;have g:=N.g hj;have e:(8:Int)^(j+1)<=8^62:=by
   have:=Nat.pow_le_pow_right (show 0<8 by decide) (show j+1<=62 by lia)
   exact_mod_cast this
  exact⟨b.1,Int.le_trans b.2 (Int.mul_le_mul g.2 e (Int.le_of_lt (Int.pow_pos (by decide))) (by decide))⟩
 obtain⟨dx,ob⟩:=U.o;exists⟨a,_,dx,_,_,rfl,ob,T.jI,T.jT,Wn,?_⟩;exists⟨_,_,rfl,.inl ⟨_,SqL.of U.s,rfl⟩,?_⟩;rw[vt,gl];exists⟨ue,?_⟩;walk_at"f 3 e";exists⟨uf,?_⟩;walk_at"f 4 e";rw[show((ps.length:Nat):Int)-1=((ps.length-1:Nat):Int) by lia]at e3;have aq:=s3.trans s4;have m4:∀{c u},H c=some u->c≠p4:=fun h=>je (s3 _ _ h) hp4
 exists⟨fun m σ l=>IvE8 fun(o4 D F G I:Option V) (d:List Addr) (S:List (Nat×Int)) (R:Int)=>IvA5 (σ=[some (.ref a),some (.int Z),some (.int R),some (.ref p4),o4,D,F,G,I]) (Same H l) (l p4=some (.lst (d.map V.ref))) (GonAt l d S) (AhS ps gs C (Rm.RA ps gs C (ps.length-1) Z) R S/\m=(S.map fun s=>nodes ps gs s.1 s.2).sum),
  ⟨_,none,none,none,none,none,[p3],[(ps.length-1,Z)],0,rfl,aq,e4,All2.snoc (as:=[]) (xs:=[]) .nil (s4 _ _ e3),⟨by simp,fun s aj=>by rw[vo.mp aj];exact⟨by show ps.length-1<_;lia,b0,by show Z<=_;lia⟩,by have:=N.nodes M8 (i:=ps.length-1) (t:=Z) (by lia) b0;simpa using this⟩,rfl⟩,?_⟩
 rintro m σ l ⟨o4,D,F,G,I,d,S,R,rfl,sm,eT,gT,A,rfl⟩;have tl:=gT.1;have af:S.length<=(S.map fun x=>nodes ps gs x.1 x.2).sum:=j1T fun x _=>Kr (ps:=ps) (gs:=gs) x.1 x.2
 have an:=A.n;exists⟨_,.inl ⟨_,SqL.of eT,rfl⟩,?_⟩;rcases List.eq_nil_or_concat S with rfl | ⟨S0,y,rfl⟩
 ·have et:d=[]:=List.length_eq_zero_iff.mp tl;subst et;refine iteF ?_;walk_at"g";have e:=A.e;rw[map_nil,sum_nil,uz]at e;rw[e];exact q _ sm
 rw[List.concat_eq_append]at *;obtain⟨f,ax,rfl,a9,ab⟩:=All2.last gT;rw[vk]at eT|-;refine iteB1 (by simp) ?_;obtain⟨y1,y2,y3⟩:=A.ok y (mem_append_right _ vq);have A':=A.next N;have nx:=kg (i:=y.1) (t:=y.2) N;have a8:([y].map fun s:Nat×Int=>nodes ps gs s.1 s.2).sum=nodes ps gs y.1 y.2:=by simp
 rw[vk,sum_append,a8];have az:=a9.1;rw[vn,length_singleton]at af;refine⟨fun σ l=>IvE8 fun(o4 D F G I:Option V) (d:List Addr) (S:List (Nat×Int)) (R:Int)=>IvA5 (σ=[some (.ref a),some (.int Z),some (.int R),some (.ref p4),o4,D,F,G,I]) (Same H l) (l p4=some (.lst (d.map V.ref))) (GonAt l d S) (AhS ps gs C (Rm.RA ps gs C (ps.length-1) Z) R S/\(S.map fun s=>nodes ps gs s.1 s.2).sum<(S0.map fun s=>nodes ps gs s.1 s.2).sum+nodes ps gs y.1 y.2),
  fun σ' l ⟨o4,D,F,G,I,d,S,R,h1,h2,h3,h4,h5,h6⟩=>⟨_,h6,o4,D,F,G,I,d,S,R,h1,h2,h3,h4,h5,rfl⟩,?_⟩
 exists⟨.inl ⟨rfl,_,SqL.of eT⟩,?_⟩;refine⟨p4,_,.ref ax,rfl,rfl,eT,by simp,?_⟩;rw[show((f.map V.ref)++[ax].map V.ref).dropLast=f.map V.ref by simp];have a3:∀{c:Addr} {xs:List V},l c=some (.tup xs)->c≠p4:=fun h z=>by rw[z,eT]at h;cases h
 have M:Same H (upd l p4 (.lst (f.map V.ref))):=fun c u h=>(jh (m4 h)).trans (sm _ _ h)
 have a2:upd l p4 (.lst (f.map V.ref)) p4=some (.lst (f.map V.ref)):=jC;have aa:GonAt (upd l p4 (.lst (f.map V.ref))) f S0:=All2.mono a9 fun c y h=>(jh (a3 h)).trans h
 have B:=(jh (o:=HO.lst (f.map V.ref)) (a3 ab)).trans ab;generalize upd l p4 (.lst (f.map V.ref))=H5 at M a2 aa B|-;clear a3;have Y:=M _ _ ob;obtain⟨p,hp⟩:∃p,ps[y.1]?=some p:=⟨_,vz y1⟩
 have ag:pcB ps gs y.1=pcsI gs p.2 (inP ps p.2):=by unfold pcB;rw[hp]
 have ai:(ps.map fun p=>pcsI gs p.2 (inP ps p.2))[y.1]?=some (pcB ps gs y.1):=by rw[vv,hp,ag];rfl
 obtain⟨al,a7,bs,ad,hq⟩:=U.pa.get ai;have ac:=hq.1;have ap:=wo N y.1;have iw:∀{j:Nat},j<ps.length->atI (C.map V.int) (j:Int)=some (.int (C.getD j 0)):=fun {j} hj=>jW (j:=j) (by rw[vv,vz (by lia),vy,vz (by lia)];rfl)
 generalize eX:(if pcB ps gs y.1=[]then(if 0<y.2 then C.getD y.1 0 else 0)else 0)=X at A';exists⟨fun σ' H6=>σ'=[some (.ref a),some (.int Z),some (.int (R+X)),some (.ref p4),some (.ref ax),D,F,G,I]/\H5=H6,?_,?_⟩
 rotate_left
 ·exists⟨a,_,dx,_,_,rfl,Y,T.jI,T.jV,yQ,?_⟩;exists ixTm (SqT.of B) rfl ?_;exists ixLm (SqL.of (M _ _ U.p)) (jW (j:=y.1) (by rw[vv,a7];rfl)) ?_;exists⟨_,.inl ⟨_,SqL.of (M _ _ ad),rfl⟩,?_⟩;by_cases cb:pcB ps gs y.1=[]
  ·have eb:bs=[]:=List.length_eq_zero_iff.mp (by rw[ac,cb];rfl);subst eb;refine iteT ?_;exists ixTm (SqT.of B) rfl ?_;exists iteD (fun c=>?_) (fun c=>?_)
   ·exists⟨a,_,dx,_,_,rfl,Y,T.jI,T.jQ,ZA,?_⟩;exists ixTm (SqT.of B) rfl ?_;exists ixLm (SqL.of (M _ _ U.w)) (iw y1) ?_;walk_at"g";rw[ve cb,ve (by lia)]at eX;exact⟨by rw[eX],rfl⟩
   ·walk_at"g";rw[ve cb,vd (by lia)]at eX;exact⟨by rw[<-eX,uz],rfl⟩
  ·have ak:¬bs.map V.ref=[]:=fun z=>by
    have:=congrArg List.length z;rw[vt,ac]at this;exact cb (List.length_eq_zero_iff.mp this)
   refine iteB0 (by simpa using ak) ?_;refine iteF ?_;walk_at"g";rw[vd cb]at eX;exact⟨by rw[<-eX,uz],rfl⟩
 rintro σ' H6 ⟨rfl,rfl⟩;exists⟨a,_,dx,_,_,rfl,Y,T.jI,T.jV,yQ,?_⟩;exists ixTm (SqT.of B) rfl ?_;exists ixLm (SqL.of (M _ _ U.p)) (jW (j:=y.1) (by rw[vv,a7];rfl)) ?_;exists⟨a,_,dx,_,_,rfl,Y,T.jI,T.jT,Wn,?_⟩;exists ixTm (SqT.of B) rfl ?_;exists⟨al,z.s,y.2,bs,pcB ps gs y.1,gs,rfl,M _ _ ad,All2.mono hq fun c x h=>M _ _ h,M _ _ U.s,ap,fun u hu=>N.pcOk hu,y2,by lia,fun p6 a1 H6 s6 ae e6 g6=>?_⟩;have ah:GonAt H6 f S0:=All2.mono aa fun c y h=>s6 _ _ h
 have a5:=s6 _ _ a2;have a0:=g6.1;have n6:p6≠p4:=fun z=>by rw[z,a2]at ae;cases ae
 have av:=j2C (gs:=gs) (t:=y.2) (pcB ps gs y.1);have a4:=M.trans s6;refine⟨p6,rfl,⟨_,SqL.of e6⟩,?_⟩;refine J0 (xs:=a1.map V.ref) (fun k σ l=>IvE5 fun(D F G I:Option V) (d:List Addr)=>IvA4 (σ=[some (.ref a),some (.int Z),some (.int (R+X+ovs C ((prg gs y.2 (pcB ps gs y.1)).take k))),some (.ref p4),some (.ref ax),D,F,G,I]) (∀c u,c≠p4->H6 c=some u->l c=some u) (l p4=some (.lst (d.map V.ref))) (d.length<=f.length+k/\GonAt l d (S0++rsts ((prg gs y.2 (pcB ps gs y.1)).take k))))
  ⟨_,_,_,_,f,by rw[show ovs C ((prg gs y.2 (pcB ps gs y.1)).take 0)=0 from rfl,uz],fun c u _ h=>h,a5,vc _,by rw[show rsts ((prg gs y.2 (pcB ps gs y.1)).take 0)=[]from rfl,append_nil];exact ah⟩ ?_ ?_ ?_
 ·rintro k σ l _ ⟨D,F,G,I,d,rfl,n,_⟩;exact SqL.of (n _ _ n6 e6)
 ·rintro k v σ H7 hv ⟨D,F,G,I,d,rfl,n,J,ar,L⟩;obtain⟨c,u,rfl,hu,hc⟩:=g6.at_ref hv;have ku:=(vx.mp hu).1;have um:=vm hu;have ul:=wy W um;have uo:=j3H N um;have wu:=wb u.1 (by lia);have am:c≠p4:=fun z=>by rw[z,a5]at hc;cases hc
  refine j3J (SqT.of (n _ _ am hc)) ?_;exists⟨a,_,dx,_,_,rfl,n _ _ (m4 ob) (a4 _ _ ob),T.jI,T.jQ,ZA,?_⟩;exists ixLm (SqL.of (n _ _ (m4 U.w) (a4 _ _ U.w))) (iw (by lia)) ?_;walk_at"g";have eo:=j1s (W:=C) hu;cases er:u.2.2.2 with
  | none=>
   refine⟨rfl,_,rfl,?_⟩;refine iteB0 (by simp[optV]) ?_;exists⟨_,_,_,_,d,by rw[eo,Int.add_assoc],n,J,by lia,?_⟩;rw[j0h hu er];exact L
  | some r=>
   refine⟨rfl,_,rfl,?_⟩;refine iteB1 (by simp[optV]) ?_;exists⟨.inl ⟨rfl,_,SqL.of J⟩,?_⟩;exists⟨ue,?_⟩;walk_at"f 8 e";have a6:=s8 _ _ J;exists⟨p4,_,_,rfl,rfl,a6,by rw[vt];lia,?_⟩;have nt:∀{c:Addr} {xs:List V},H8 c=some (.tup xs)->c≠p4:=fun h z=>by rw[z,a6]at h;cases h
   exists⟨_,_,_,_,d++[p8],by rw[eo,Int.add_assoc],fun c u hc h=>(jh hc).trans (s8 _ _ (n _ _ hc h)),by rw[jC,vk];rfl,by rw[vn,length_singleton];lia,?_⟩;rw[j0i hu er,<-List.append_assoc];exact All2.snoc (All2.mono L fun c y h=>(jh (nt (s8 _ _ h))).trans (s8 _ _ h)) ((jh (nt e8)).trans e8)
 ·rintro σ H7 ⟨D,F,G,I,d,rfl,n,J,ar,L⟩;rw[show(a1.map V.ref).length=(prg gs y.2 (pcB ps gs y.1)).length by rw[vt];exact a0,v2]at L;rw[show(a1.map V.ref).length=(prg gs y.2 (pcB ps gs y.1)).length by rw[vt];exact a0,v2];exists⟨_,_,_,_,_,d,_,_,rfl,fun c u h=>n _ _ (m4 h) (a4 _ _ h),J,L,A',?_⟩;rw[vk,sum_append];lia
theorem WC(T:Txt K mg t)(r:FnOk P w K mg base CX0 2 t.Jo t.Jp ["self","beat"] (sp_aheadR t.jP)):FnOk P w K mg base CX0 3 t.QT t.QW ["tally","beat"] (sp_aheadR t.jP):=by
 refine T.YE.ok WO (fun v H Q E h=>?_) (fun k A b s H v Q E m h=>?_)
 ·cases h;subst_vars;rfl
 obtain⟨a,z,o,p,l,j,n,x,u,rfl,d,N,O,e,f,q⟩:=h;refine⟨_,(jb (j2 (xL (j1y WF WF jd (pv 1) (jq jU (QL (pv 0) rfl) jd)))
   (jg yB)
   jw)
  (jg (jA (j2R (pv 0) T.jI T.ZS (r.mono (by decide)) m T.Z2 .nil pass0 (ja (pv 1) jc))))),?_⟩
 refine jG (σ':=[some _,some _]) rfl ?_;obtain⟨g,i⟩:=d.o;exists iteB1 (vF e) ?_;exists⟨a,_,g,_,_,rfl,i,T.jI,T.Jj,j2t,?_⟩;exists iteN (fun c=>ug f c) (fun _=>?_);exists⟨a,g,_,rfl,i,j0U,?_⟩;walk_at"g";exact⟨a,z,o,p,l,j,n,x,u,rfl,d,N,O,e,f,q⟩
theorem kN(T:Txt K mg t)(C:FnOk P w K mg base CX0 6 t.j4 t.Jf ["self","book","word"] (sp_initR t.jP))(D:FnOk P w K mg base CX0 3 t.QT t.QW ["tally","beat"] (sp_aheadR t.jP)):FnOk P w K mg base CX0 8 t.qU t.qZ ["book","word","beat"] (sp_ringC):=by
 refine T.Z8.ok kQ (fun X H Q E h=>?_) (fun G A f s H X Q E m h=>?_)
 ·cases h;subst_vars;rfl
 obtain⟨b,M,R,e,g,p,r,k,n,x,U,rfl,y,N,J,I,j,F,q⟩:=h;refine⟨_,(jg (jA (jr (D.mono (by decide)) m (by rfl) T.xv T.YE.kp T.WY .nil pass0 (ja (j2Q T.wT (C.mono (by decide)) m (by rfl) T.K4 T.Zb .nil pass0 (ja (pv 0) (ja (pv 1) jc))) (ja (pv 2) jc))))),?_⟩;refine jG (σ':=[some _,some _,some _]) rfl ?_;walk_at"g";intro o a l d Z;have v:Same H (upd (upd H a (.own o)) o (.ins t.jP a [])):=fun c u h=>(jh (je h l)).trans ((jh (je h d)).trans h)
 refine⟨o,a,b,M,R,e,g,p,r,k,n,x,rfl,jC,y.same v,N,J,I,fun z W B L O A=>⟨rfl,?_⟩⟩;have i:Same H B:=fun c u h=>L _ _ (je h l) (v _ _ h)
 exists⟨o,z,p,r,k,W,n,x,U,rfl,A,N,O,j,F,fun Y S=>?_⟩;rw[j0z N O j];exact q _ (i.trans S)
theorem kK(T:Txt K mg t):FnOk P w K mg base CX0 1 t.qS t.qX ["_law_found"] (Pr.WR):=by
 refine T.Z6.ok kP (fun c H Q E h=>?_) (fun b A a s H c Q E d h=>?_)
 ·obtain⟨i,rfl,q⟩:=h;rfl
 obtain⟨i,rfl,q⟩:=h;refine⟨_,(jg (jA (j3y (jz wY (by rfl) T.yc ZJ (ja (pv 0) (ja (XA (v:=.ty "int") (by rfl) T.j3S j3f rfl) jc))) (j3A (j3z (jz wY (by rfl) T.yc ZJ (ja (pv 0) (ja (XA (v:=.ty "bool") (by rfl) T.j3b j2e rfl) jc)))))))),?_⟩;refine jG (σ':=[some _]) rfl ?_;exists⟨_,_,_,_,rfl,.int i,X5,?_⟩;exists iteT ?_;exists⟨_,_,_,_,rfl,.int i,xm,?_⟩;walk_at"g";exact q
theorem Yl(T:Txt K mg t):FnOk P w K mg base CX0 1 t.Jx t.JC ["_law_script","_law_k"] (Pr.sp_cell_at K):=by
 refine T.Jv.ok Yn (fun l H Q E h=>?_) (fun f A b s H l Q E m h=>?_)
 ·cases h;subst_vars;rfl
 obtain⟨a,j,k,rfl,d,i,g,q⟩:=h;refine⟨_,(jb (j2 (jo Zn (pv 1) (jz jR (by rfl) T.JJ Je (ja (pv 0) jc)) (nomark _))
   (jg (jA (ji jv (pv 0) (pv 1))))
   jw)
  (jg (jA jd))),?_⟩
 refine jG (σ':=[some _,some _]) rfl ?_;exists⟨_,_,rfl,.inl ⟨_,d,rfl⟩,?_⟩;exists iteD (fun c=>?_) (fun c=>?_)
 ·walk_at"g";exact⟨a,_,k,_,rfl,rfl,d,Pr.j2b g (by rw[vt]at c;exact c),q⟩
 ·walk_at"g";have e:Pr.cell j k=0:=by
   rw[vt]at c;unfold Pr.cell;rw[vy,vR (by lia)];rfl
  rw[e]at q;exact q
theorem kH(T:Txt K mg t):FnOk P w K mg base CX0 1 t.JL t.JN ["_law_cell","_law_k"] (YB):=by
 refine T.JK.ok kO (fun f H Q E h=>?_) (fun e A d s H f Q E g h=>?_)
 ·obtain⟨c,k,rfl,a,b,q⟩:=h;rfl
 obtain⟨c,k,rfl,a,b,q⟩:=h;refine⟨_,(jg (jA (jq j9 (jq Qc (jq jU (jq jU (jq j9 (pv 0) (jq Zo jd jd)) (jq Qc (pv 1) (pv 1))) jd) jd) (jq jU (jq Zo jd jd) jd)))),?_⟩;refine jG (σ':=[some _,some _]) rfl ?_;have j:=vf c (show(10^30:Int)≠0 by decide);have l:=vg c (show(0:Int)<10^30 by decide);have i:0<=k*k/\k*k<=10^40:=⟨vL a a,by have:=Int.mul_le_mul b b a (by decide);lia⟩
 walk_at"g";exact q
theorem wd(T:Txt K mg t):FnOk P w K mg base CX0 1 t.qJ t.qM ["_law_place","_law_k"] (sp_wordB):=by
 refine T.Qu.ok wF (fun g H Q E h=>?_) (fun d A b s H g Q E m h=>?_)
 ·cases h;subst_vars;rfl
 obtain⟨p,k,rfl,j,i,q⟩:=h;refine⟨_,(jg (jA (jq ZW (jq ZW (jq ZW (QH j1N jB zf (zg (pv 0))) (ji j0X jB (jq j9 (pv 1) jd))) (ji j0X jB (jq Jb (pv 1) jd))) (QH j1N jB (zg (pv 0)) zf)))),?_⟩;refine jG (σ':=[some _,some _]) rfl ?_;have r:(200:Nat)<sizeLine:=by decide
 have e:(Str.ofString "abcdefghijklnopqrstuvwxyz").cps.toList[((k%25:Nat):Int).toNat]?=some (abB.cps.toList.getD (k%25) 97):=by
  have l:(Str.ofString "abcdefghijklnopqrstuvwxyz").cps.toList.length=25:=by decide +kernel
  show _=some ((Str.ofString "abcdefghijklnopqrstuvwxyz").cps.toList.getD (k%25) 97);rw[Int.toNat_natCast,vy,vz (by lia)];rfl
 have n:(Txt.slice (Str.ofString "mm") none (some ((p:Nat):Int))).length<=4:=vU w6 (by decide +kernel);have o:(Txt.slice (Str.ofString "mm") (some ((p:Nat):Int)) none).length<=4:=vU w6 (by decide +kernel);have a:∀c,(⟨#[c]⟩:Str).length=1:=fun c=>rfl
 exists⟨(by decide +kernel),?_⟩;walk_at"g";rw[show((k:Nat):Int)%25=((k%25:Nat):Int) by lia];refine⟨_,_,_,rfl,rfl,(by decide +kernel),j0A (by lia) e,?_⟩;refine⟨_,_,rfl,rfl,by rw[a];lia,?_⟩;walk_at"g";have f:atI (Str.ofString "nopq").cps.toList (((k:Nat):Int)/25)=some (if k<25 then 110 else 111):=by
  by_cases c:k<25
  ·rw[ve c,show((k:Nat):Int)/25=0 by lia];decide +kernel
  ·rw[vd c,show((k:Nat):Int)/25=1 by lia];decide +kernel
 refine⟨_,_,(if k<25 then 110 else 111),rfl,rfl,(by decide +kernel),?_,?_⟩
 ·exact f
 refine⟨_,_,rfl,rfl,by rw[Str.length_append,a,a];lia,?_⟩;exists⟨(by decide +kernel),?_⟩;refine⟨_,_,rfl,rfl,by rw[Str.length_append,Str.length_append,a,a];lia,?_⟩;exact q
theorem kJ(T:Txt K mg t):FnOk P w K mg base CX0 1 t.qR t.qW ["_law_number","_law_names","_law_movers","_law_kind"] (sp_namedB):=by
 refine T.QN.ok Ju (fun vs H Q E h=>?_) (fun a5 A a3 s H vs Q E hr h=>?_)
 ·cases h;subst_vars;rfl
 obtain⟨n,nl,ml,a1,L,m,Ms,o,rfl,N,n1,n0,n2,hk,q⟩:=h;refine⟨_,(jb (jp (i:=4) Ju.nd rfl (.inl rfl) (jE jc))
  (jb (jp (i:=5) Ju.nd rfl (.inr rfl) (jE jc))
  (jb (Jc PassesOwn.never rfl (JG (by rfl) T.qV (ja (jz jR (by rfl) T.JJ Je (ja (pv 1) jc)) jc)) (ju (i:=6) Ju.nd rfl (.inl rfl))
   (jb (jp (i:=7) Ju.nd rfl (.inl rfl) (jq j9 (jq Qj (jq Qj (jz jR (by rfl) T.JJ Je (ja (pv 1) jc)) jd) (jq Qc (pv 6) (jq jU jd (jq j9 (pv 0) jd)))) (jz jR (by rfl) T.JJ Je (ja (pv 1) jc))))
   (jb (Yv (i:=8) (ow:=["_law_one"]) (ci:=[5]) rfl (CompScope.of (defScope QP) ["_law_number","_law_names","_law_movers","_law_kind","_law_some","_law_used","_law_j","_law_at","_law_twice"] rfl rfl (by decide +kernel)) (qo (by decide)) Ju.nd rfl (.inl rfl) (Jh (ji jv (pv 2) (pv 7))) (fun _ _ _ _ _=>⟨(ju (i:=0) (JA ["_law_number","_law_names","_law_movers","_law_kind","_law_some","_law_used","_law_j","_law_at","_law_twice"] rfl (by decide +kernel)) rfl (.inl rfl)),(wp (jo (ZX (K:=K) rfl) (pv 0) (pv 1) (by with_unfolding_all rfl))),(pv 0)⟩))
   (jb (JU (PW.pt (Qd (jo j5 (pv 3) jB (nomark _)) (qB (jo Zn (pv 6) (jq jU jd (jq j9 (jq Jb (pv 0) jd) jd)) (nomark _)))))
    (jg (jZ (JR PySem.F.plainAttrs_list PySem.F.slot_list_append PySem.F.type_list_append jO (pv 4) (ja (ji jv (pv 1) (pv 7)) jc))))
    jw)
   (jg (j2 (PW.pt (Qd (jo j5 (pv 3) jB (nomark _)) (Qd (jo (xF hr.units) (ji jv (pv 2) (pv 7)) (jE jc) (nomark _)) (Qd (jo (Y7 hr.units) (pv 8) (jE jc) (nomark _)) (qB (jo Zn (jz jR (by rfl) T.JJ Je (ja (pv 4) jc)) jd (nomark _)))))))
    (jb (jZ (JR PySem.F.plainAttrs_list PySem.F.slot_list_append PySem.F.type_list_append jO (pv 4) (ja (ji jv (pv 1) (pv 7)) jc)))
    (jg (jp (i:=5) Ju.nd rfl (.inr rfl) (jq zL (pv 5) (ji jv (pv 2) (pv 7))))))
    jw))))))
  (jg (jA (JT Qo (by rfl) T.Yp ye (ja (pv 4) jc))))))),?_⟩
 refine jG (σ':=[some _,some _,some _,some _,none,none,none,none,none]) rfl ?_;have sz:(200:Nat)<sizeLine:=by decide
 have a6:=N.n20;have m8:∀j,(Ms.getD j []).length<=8:=fun j=>by
  by_cases h:j<m.length
  ·exact(N.mv h).choose_spec.2.2.1
  ·rw[vy,vR (by have:=N.ml;lia)];exact vb _
 exists⟨vb _,?_⟩;walk_at"f ps hps H1 s1 t1";exists⟨vb _,?_⟩;walk_at"f pu hpu H2 s2 t2";have R:=s1.trans s2;have B:∀{c u},H c=some u->c≠ps:=fun h=>je h hps
 have a4:pu≠ps:=(je t1 hpu).symm;exists⟨_,_,rfl,.inl ⟨_,SqL.of (R _ _ N.en),rfl⟩,?_⟩;rw[vt];exists⟨_,rfl,by lia,by lia,?_⟩;refine qm (fun t σ p=>IvE4 fun(o6 o7 o8:Option V) (e:Addr)=>IvA4 (σ=[some (.int n),some (.ref nl),some (.ref ml),some (.str o),some (.ref ps),some (.ref e),o6,o7,o8]) (e≠ps) (∀c u,H c=some u->p c=some u) (p ps=some (.lst (((nmS n m.length Ms (decide (o = "row")) t).1.map fun j=>m.getD j ⟨#[]⟩).map V.str))/\p e=some (.lst ((nmS n m.length Ms (decide (o = "row")) t).2.map V.str)))) ⟨_,_,_,pu,rfl,a4,R,s2 _ _ t1,t2⟩ ?_ ?_
 ·rintro t σ H3 ht ⟨o6,o7,o8,e,rfl,g,C,I,X⟩;have m0:=vf n (show(3:Int)≠0 by decide);have m1:=vg n (show(0:Int)<3 by decide);exists⟨_,_,rfl,.inl ⟨_,SqL.of (C _ _ N.en),rfl⟩,?_⟩;rw[vt];exists⟨_,_,rfl,.inl ⟨_,SqL.of (C _ _ N.en),rfl⟩,?_⟩;rw[vt];walk_at"g";have J:((m.length:Int)-1-(0+(t:Int))*(1+n%3))%(m.length:Int)=((atB n m.length t:Nat):Int):=by
   unfold atB;have a:=vf ((m.length:Int)-1-(t:Int)*(1+n%3)) (show(m.length:Int)≠0 by lia);rw[v9];lia
  rw[J];have W:=W4 (n:=n) (t:=t) n1;have d:=j1j (n:=n) (len:=m.length) (Ms:=Ms) (ro:=decide (o = "row")) t;have us:=j1k (n:=n) (len:=m.length) (ro:=decide (o = "row")) m8 t;have sl:=Yu (n:=n) (len:=m.length) (Ms:=Ms) (ro:=decide (o = "row")) t;generalize nmS n m.length Ms (decide (o = "row")) t=S at I X d us sl;generalize atB n m.length t=j at W d|-;clear J;obtain⟨ma,a0,v,a2,mw⟩:=N.mv W;have aM:atI (a1.map V.ref) ((j:Nat):Int)=some (.ref ma):=jW (by rw[vv,a0];rfl);refine ixLm (SqL.of (C _ _ N.em)) (aM) ?_;refine⟨ma,rfl,⟨_,SqL.of (C _ _ v)⟩,?_⟩;refine qi (xs:=(Ms.getD j []).map V.str) (fun i ys p=>ys=(((Ms.getD j []).take i).filter fun s=>decide (s∈S.2)).map V.str/\H3=p) ⟨rfl,rfl⟩ ?_ ?_ ?_
  ·rintro i ys p _ ⟨rfl,rfl⟩;exact SqL.of (C _ _ v)
  ·rintro i x ys p Y ⟨rfl,rfl⟩;rw[vv]at Y;obtain⟨k,M,rfl⟩:=vh.mp Y;have ik:=(vx.mp M).1;refine J2 (σ':=[none,some _]) rfl ?_;exists⟨e,_,rfl,.inl (SqL.of X),rfl,flatB _,?_⟩;rw[inB];walk_at"g";rw[take_snoc M,filter_append];have lf:(((Ms.getD j []).take i).filter fun s=>decide (s∈S.2)).length<=8:=vU (length_filter_le _ _) (by rw[vj];lia);refine iteD (fun c=>?_) (fun c=>?_)
   ·exists⟨by rw[vt];lia,?_,rfl⟩;rw[vk,filter_cons,ve (vF c),filter_nil];rfl
   ·refine⟨?_,rfl⟩;rw[filter_cons,vd (by rw[vG c];exact vE),filter_nil,append_nil]
  rintro ys p ⟨rfl,rfl⟩;rw[show((Ms.getD j []).map V.str).length=(Ms.getD j []).length from vt _,v2];have lf:((Ms.getD j []).filter fun s=>decide (s∈S.2)).length<=8:=vU (length_filter_le _ _) a2;have wf:∀x∈(Ms.getD j []).filter (fun s=>decide (s∈S.2)),Ws.isW x=true:=fun x Y=>mw x (mem_filter.mp Y).1
  refine⟨by rw[vt];lia,?_⟩;walk_at"f 5 t";have k5:Same H H5:=fun c u h=>s5 _ _ (C _ _ h)
  have y:=s5 _ _ I;have r:=s5 _ _ X;have n5:p5≠ps:=(je I hp5).symm;exists⟨fun σ' p=>IvE1 fun(U:List Nat)=>IvA4 (σ'=[some (.int n),some (.ref nl),some (.ref ml),some (.str o),some (.ref ps),some (.ref e),some (.int (0+(t:Int))),some (.int (j:Nat)),some (.ref p5)]) (∀c u,c≠ps->H5 c=some u->p c=some u) (p ps=some (.lst ((U.map fun j=>m.getD j ⟨#[]⟩).map V.str))) ((o = "row"->U=(nmS n m.length Ms (decide (o = "row")) (t+1)).1/\(nmS n m.length Ms (decide (o = "row")) (t+1)).2=S.2)/\(o≠"row"->U=S.1)),?_,?_⟩
  rotate_left
  ·exists iteD (fun c=>?_) (fun c=>?_)
   ·rw[ve (vF c)]at d;exists iteD (fun c2=>?_) (fun c2=>?_)
    ·rw[ve (by lia)]at d;exists⟨.inl ⟨rfl,_,SqL.of y⟩,?_⟩;exists ixLm (SqL.of (k5 _ _ N.en)) (za W) ?_;exists⟨ps,_,_,rfl,rfl,y,by rw[vt,vt];lia,?_⟩;refine⟨S.1++[j],rfl,fun c u hc h=>(jh hc).trans h,?_,fun _=>by rw[d];exact⟨rfl,rfl⟩,fun h=>ug c h⟩;rw[jC,vk,vk];rfl
    ·rw[vd (by lia)]at d;walk_at"g";exact⟨S.1,rfl,fun c u _ h=>h,y,fun _=>by rw[d];exact⟨rfl,rfl⟩,fun h=>ug c h⟩
   ·walk_at"g";exact⟨S.1,rfl,fun c u _ h=>h,y,fun h=>ug h c,fun _=>rfl⟩
  rintro σ' H6 ⟨U,rfl,G,D,O,F⟩;have l:Same H H6:=fun c u h=>G _ _ (B h) (k5 _ _ h)
  exists iteD (fun c=>?_) (fun c=>?_)
  ·have nr:o≠"row":=fun z=>by rw[z]at c;exact ug c (by decide +kernel)
   obtain rfl:=F nr;rw[vd (by rw[vG nr];exact vE)]at d;exists ixLm (SqL.of (l _ _ N.em)) (aM) ?_;exists⟨vb _,?_⟩;walk_at"f 7 t";refine⟨_,_,.lst (s7 _ _ (l _ _ v)) (Qa _),X1 t7,shpB mw,shp0,?_⟩;rw[eqvB];exists iteN (fun d1=>?_) (fun d1=>?_)
   ·exists⟨vb _,?_⟩;walk_at"f 8 t";have f:=s7.trans s8;refine⟨_,_,.lst (f _ _ (G _ _ n5 t5)) (Qa _),X1 t8,shpB wf,shp0,?_⟩;rw[eqvB];exists iteD (fun d2=>?_) (fun d2=>?_)
    ·exists⟨_,_,rfl,.inl ⟨_,SqL.of (f _ _ D),rfl⟩,?_⟩;rw[vt,vt];exists iteD (fun d3=>?_) (fun d3=>?_)
     ·rw[ve ⟨d1,d2,by lia⟩]at d;exists⟨.inl ⟨rfl,_,SqL.of (f _ _ D)⟩,?_⟩;exists ixLm (SqL.of (f _ _ (l _ _ N.en))) (za W) ?_;exists⟨ps,_,_,rfl,rfl,f _ _ D,by rw[vt,vt];lia,?_⟩;generalize eG:upd H8 ps _=H9;have e9:H9 ps=some (.lst (((S.1++[j]).map fun j=>m.getD j ⟨#[]⟩).map V.str)):=by
       rw[vk,vk];exact Qg eG
      have Z:∀c u,c≠ps->H6 c=some u->H9 c=some u:=fun c u hc h=>eG▸(jh hc).trans (f c u h)
      clear eG;exists ixLm (SqL.of (Z _ _ (B N.em) (l _ _ N.em))) (aM) ?_;refine⟨e,ma,_,_,rfl,rfl,Z _ _ g (G _ _ g r),Z _ _ (B v) (l _ _ v),by rw[vt,vt];lia,?_⟩;walk_at"f 10 t";exists⟨_,_,_,p10,rfl,(je e9 hp10).symm,fun c u h=>s10 _ _ (Z _ _ (B h) (l _ _ h)),by rw[d];exact s10 _ _ e9,by rw[d,vk];exact t10⟩
     ·rw[vd (fun z=>d3 (by lia))]at d;walk_at"g";exact⟨_,_,_,e,rfl,g,fun c u h=>f _ _ (l _ _ h),by rw[d];exact f _ _ D,by rw[d];exact f _ _ (G _ _ g r)⟩
    ·rw[vd (fun z=>d2 z.2.1)]at d;walk_at"g";exact⟨_,_,_,e,rfl,g,fun c u h=>f _ _ (l _ _ h),by rw[d];exact f _ _ D,by rw[d];exact f _ _ (G _ _ g r)⟩
   ·rw[vd (fun z=>z.1 d1)]at d;walk_at"g";exact⟨_,_,_,e,rfl,g,fun c u h=>s7 _ _ (l _ _ h),by rw[d];exact s7 _ _ D,by rw[d];exact s7 _ _ (G _ _ g r)⟩
  ·have cr:o = "row":=hk.resolve_right c;obtain⟨r1,r2⟩:=O cr;walk_at"g";exact⟨_,_,_,e,rfl,g,l,by rw[<-r1];exact D,by rw[r2];exact G _ _ g r⟩
 ·rintro σ p ⟨o6,o7,o8,e,rfl,g,C,I,X⟩;exists⟨ps,_,rfl,.inl ⟨SqL.of I,?_⟩⟩;walk_at"f b hb H3 s3 t3";exact q b H3 (fun c u h=>s3 _ _ (C _ _ h)) t3
theorem K6(T:Txt K mg t)(qQ:FnOk P w K mg base CX0 1 t.qR t.qW ["_law_number","_law_names","_law_movers","_law_kind"] (sp_namedB)):FnOk P w K mg base CX0 2 t.Qw t.QC ["_law_number","_law_names","_law_movers","_law_limbs","_law_bounds"] (sp_formG):=by
 refine T.y9.ok qr (fun vs H Q E h=>?_) (fun ai A ab s H vs Q E X h=>?_)
 ·cases h;subst_vars;rfl
 obtain⟨n,R,Y,pl,bd,y,al,u,e,Ms,G,I,b2,b3,b4,rfl,N,Z,Bd,n0,n2,q⟩:=h;refine⟨_,(jb (jp (i:=5) qr.nd rfl (.inl rfl) (jq j9 (pv 0) jd))
  (jb (jp (i:=6) qr.nd rfl (.inl rfl) (jq Jb (pv 0) jd))
  (jb (jp (i:=7) qr.nd rfl (.inl rfl) (jq jU jd (jq j9 (jq Jb (pv 0) (jq Zo jd jd)) (ji jv (pv 4) (jq j9 (jq Jb (pv 0) jd) jd)))))
  (jb (JU (PW.pt (Qd (jo (Y7 X.units) (pv 1) (jE jc) (nomark _)) (qB (jo ZK (pv 5) jd (nomark _)))))
   (jg (jp (i:=5) qr.nd rfl (.inl rfl) (jq j9 (jq Jb (pv 0) jd) jd)))
   jw)
  (jb (j2 (jo Zn (pv 5) jd (nomark _))
   (jg (jA (jK (ja jB (ja (ji jt (ji jv (pv 3) (jq j9 (pv 6) (jz jR (by rfl) T.JJ Je (ja (pv 3) jc)))) jd) (ja (jq j9 (jq Jb (pv 6) jd) (ji jv (pv 4) jd)) (ja (pv 7) jc)))))))
   jw)
  (jb (j2 (jo j5 (pv 5) jd (nomark _))
   (jg (jA (jK (ja jB (ja (ji jv (jq zL (jq zL (jE (ja jB (ja jB jc))) (QH Yz (pv 1) zf (zg jd))) (jE (ja jB jc))) (jq j9 (pv 6) jd)) (ja (pv 7) jc))))))
   jw)
  (jb (j2 (jo j5 (pv 5) jd (nomark _))
   (jg (jA (jK (ja jB (ja (jr (qQ.mono (by decide)) X (by rfl) T.zJ T.QN.kp T.zB .nil pass0 (ja (pv 6) (ja (pv 1) (ja (pv 2) (ja jB jc))))) jc)))))
   jw)
  (jb (j2 (PW.pt (Qd (jo j5 (pv 5) jd (nomark _)) (qB (jo ZK (jz jR (by rfl) T.JJ Je (ja (jr (qQ.mono (by decide)) X (by rfl) T.zJ T.QN.kp T.zB .nil pass0 (ja (pv 6) (ja (pv 1) (ja (pv 2) (ja jB jc))))) jc)) jd (nomark _)))))
   (jg (jA (jK (ja jB (ja (jr (qQ.mono (by decide)) X (by rfl) T.zJ T.QN.kp T.zB .nil pass0 (ja (pv 6) (ja (pv 1) (ja (pv 2) (ja jB jc))))) jc)))))
   jw)
  (jb (j2 (jo j5 (pv 5) jd (nomark _))
   (jb (jp (i:=8) qr.nd rfl (.inl rfl) (jq Qj (jq Qj (jz jR (by rfl) T.JJ Je (ja (pv 1) jc)) jd) (jq j9 (pv 6) (jz (yK rfl) (by rfl) T.j0D W8 (ja jd (ja (jz jR (by rfl) T.JJ Je (ja (pv 1) jc)) jc))))))
   (jg (jA (jK (ja jB (ja (jq jU jd (jq j9 (jq Jb (pv 0) (jq Zo jd jd)) (ji jv (pv 4) jd))) (ja (ji jv (pv 1) (pv 8)) jc)))))))
   jw)
  (jg (jA (jK (ja jB (ja (pv 7) jc)))))))))))))),?_⟩
 refine jG (σ':=[some _,some _,some _,some _,some _,none,none,none,none]) rfl ?_;have sz:(200:Nat)<sizeLine:=by decide
 have am:=N.n20;have l1:=Z.l1;have aa:=Z.la.1;obtain⟨eb,a0,a1,a2,a3,ac,ad,ae,af,ag,ah⟩:=Bd;have k0:=vf n (show(8:Int)≠0 by decide);have k1:=vg n (show(0:Int)<8 by decide);have i0:=vf (n/8) (show(2:Int)≠0 by decide);have i1:=vg (n/8) (show(0:Int)<2 by decide);obtain⟨M,a4,a5⟩:=at01F (b2:=b2) (b3:=b3) (b4:=b4) ⟨a0,a1⟩ ⟨a2,a3⟩ i0 i1;have d:formF n e Ms u G I b2 b3=_:=formF.eq_1 ..;have l:beF n G I=1+n/10^12%(if n/8%2=0 then G else I):=rfl;generalize(if n/8%2=0 then G else I)=bx at M a4 a5 l;rw[l]at d;generalize formF n e Ms u G I b2 b3=F at d q;have m0:0<=n/100:=by lia
 have m1:n/100<=10^40:=by lia
 have v0:=vf (n/10^12) (show bx≠0 by lia);have v1:=vg (n/10^12) (show 0<bx by lia);exists j1G ?_;exists ixLm (SqL.of eb) (M) ?_;exists⟨fun σ' H'=>IvE1 fun(D:Int)=>IvA5 (σ'=[some (.int n),some (.ref R),some (.ref Y),some (.ref pl),some (.ref bd),some (.int D),some (.int (n/100)),some (.int (1+n/10^12%bx)),none]) (Same H H') (0<=D) (D<8) ((4<D->1<=e.length)/\kkF n e=D),?_,?_⟩
 rotate_left
 ·exists⟨vb _,?_⟩;walk_at"f e3 he3 H3 s3 t3";refine⟨_,_,.lst (s3 _ _ N.en) (Qa _),X1 t3,shpB N.w,shp0,?_⟩;rw[eqvB];exists iteD (fun c=>?_) (fun c=>?_)
  ·exists iteD (fun W=>?_) (fun W=>?_)
   ·walk_at"g";have U:=vf (n/16) (show(5:Int)≠0 by decide);have w1:=vg (n/16) (show(0:Int)<5 by decide);exact⟨_,rfl,s3,U,by lia,fun h=>ug h (by lia),ve ⟨c,W⟩⟩
   ·walk_at"g";exact⟨_,rfl,s3,k0,k1,fun h=>ug h W,vd fun z=>W z.2⟩
  ·walk_at"g";exact⟨_,rfl,s3,k0,k1,fun _=>length_pos_iff.mpr c,vd fun z=>c z.1⟩
 rintro σ' H1 ⟨D,rfl,g,aj,ak,kn,a6⟩;rw[a6]at d;have o:=N.same g;have m:=Z.same g;have L:=g _ _ eb;exists iteD (fun c=>?_) (fun c=>?_)
 ·exists⟨_,_,rfl,.inl ⟨_,SqL.of m.el,rfl⟩,?_⟩;rw[vt,aa];walk_at"g";have U:=vf (n/100) (show(u.length:Int)≠0 by lia);have w1:=vg (n/100) (show(0:Int)<(u.length:Int) by lia);rw[ve c]at d;generalize n/100%(u.length:Int)=r at U w1 d|-;obtain⟨j,rfl⟩:∃j:Nat,r=(j:Int):=⟨r.toNat,by lia⟩
  have C:j<u.length:=by lia
  obtain⟨lk,a8,a7⟩:=m.la.get (vz C);refine ixLm (SqL.of m.el) (jW (j:=j) (by rw[vv,a8];rfl)) ?_;exists ixTm (SqT.of a7) rfl ?_;exists ixLm (SqL.of L) rfl ?_;walk_at"g";have h0:=vf (n/100/10) (show b2≠0 by lia);have h1:=vg (n/100/10) (show 0<b2 by lia);refine⟨uc,?_⟩;walk_at"f b6 hb6 H6 s6 t6";have ef:F = .rise u[j].1 (n/100/10%b2) (1+n/10^12%bx):=by
   rw[d,Int.toNat_natCast,vy,vz C];rfl
  rw[ef]at q;refine q b6 H6 (g.trans s6) t6 ⟨⟨j,?_⟩,h0,by lia,by lia,by lia⟩;unfold nmsOf;rw[vv,vz C];rfl
 rw[vd c]at d;exists iteD (fun c4=>?_) (fun c4=>?_)
 ·exists⟨ue,?_⟩;walk_at"f b3 hb3 H3 s3 t3";exists⟨R,_,rfl,SqL.of (s3 _ _ o.en),?_⟩;walk_at"f b4 hb4 H4 s4 t4";have cl:=zb (e.map V.str) none (some 1);rw[vt]at cl;refine⟨b3,b4,_,_,rfl,rfl,s4 _ _ t3,t4,by show 2+_<=sizeLine;lia,?_⟩;walk_at"f b5 hb5 H5 s5 t5";exists⟨uf,?_⟩;walk_at"f b6 hb6 H6 s6 t6";refine⟨b5,b6,_,_,rfl,rfl,s6 _ _ t5,t6,by rw[vn];show 2+_+1<=sizeLine;lia,?_⟩;walk_at"f b7 hb7 H7 s7 t7";walk_at"g";have U:=vf (n/100) (show(3:Int)≠0 by decide);have w1:=vg (n/100) (show(0:Int)<3 by decide);rw[ve c4]at d;have a9:∀x∈([("ding" : Str),"dong"]:List Str)++e.take 1++[("din" : Str)],Ws.isW x=true:=fun v hv=>by
   rcases vi.mp hv with z | z
   ·rcases vi.mp z with z | z
    ·rcases mem_cons.mp z with rfl | z
     ·decide +kernel
     ·rw[vo.mp z];decide +kernel
    ·exact N.w v (v8 z)
   ·rw[vo.mp z];decide +kernel
  have ex:[V.str "ding",V.str "dong"]++cutV (e.map V.str) none (some 1)++[V.str "din"]=(([("ding" : Str),"dong"]:List Str)++e.take 1++[("din" : Str)]).map V.str:=by
   rw[show(some 1:Option Int)=some ((1:Nat):Int)from rfl,j0J,vk,vk,map_take];rfl
  obtain⟨p,ww⟩:=j24 (k:=n/100%3) a9 U (by rw[vn,vn];show _<(((2+_+1:Nat)):Int);lia);rw[<-ex]at p;generalize wdF (([("ding" : Str),"dong"]:List Str)++e.take 1++[("din" : Str)]) (n/100%3)=w' at p ww d;refine ixLm (SqL.of t7) (p) ?_;exists⟨ud,?_⟩;walk_at"f b8 hb8 H8 s8 t8";rw[d]at q;exact q b8 H8 (g.trans (s3.trans (s4.trans (s5.trans (s6.trans (s7.trans s8)))))) t8 ⟨by lia,by lia,ww⟩
 rw[vd c4]at d;exists iteD (fun c5=>?_) (fun c5=>?_)
 ·have f:=kn (by lia);rw[ve c5]at d;rw[d]at q;exists⟨_,R,Y,y,_,e,Ms,"row",rfl,o,f,m0,m1,.inl rfl,fun b2 H2 S J=>?_⟩;exists⟨ue,?_⟩;walk_at"f b6 hb6 H6 s6 t6";have ln:=Yu (n:=n/100) (len:=e.length) (Ms:=Ms) (ro:=decide (("row" : Str) = "row")) e.length;rw[show decide (("row" : Str) = "row")=true by decide +kernel]at ln J;refine q b6 H6 (g.trans (S.trans s6)) ⟨b2,t6,s6 _ _ J⟩ ⟨j1i rfl _ f,by lia,xD f _⟩
 rw[vd c5]at d;have O:decide (("side" : Str) = "row")=false:=by decide +kernel
 exists iteD (fun c6=>?_) (fun c6=>?_)
 ·have f:=kn (by lia);exists⟨_,R,Y,y,_,e,Ms,"side",rfl,o,f,m0,m1,.inr rfl,fun b2 H2 S J=>?_⟩;have ln:=Yu (n:=n/100) (len:=e.length) (Ms:=Ms) (ro:=decide (("side" : Str) = "row")) e.length;rw[O]at ln J;refine⟨_,_,rfl,.inr ⟨_,SqT.of J,rfl⟩,?_⟩;rw[vt,vt];exists iteD (fun c7=>?_) (fun c7=>?_)
  ·rw[ve ⟨c6,by lia⟩]at d;rw[d]at q;exists⟨_,R,Y,y,_,e,Ms,"side",rfl,o.same S,f,m0,m1,.inr rfl,fun b3 H3 s3 e3=>?_⟩;exists⟨ue,?_⟩;walk_at"f b6 hb6 H6 s6 t6";rw[O]at e3;refine q b6 H6 (g.trans (S.trans (s3.trans s6))) ⟨b3,t6,s6 _ _ e3⟩ ⟨by lia,by lia,xD f _,(j1h rfl _).1.n N.il⟩
  ·rw[vd (fun z=>c7 (by have:=z.2;lia)),vd (by lia)]at d;rw[d]at q;exists iteD (fun B=>?_) (fun B=>?_)
   ·exact ug B (by lia)
   exists⟨ue,?_⟩;walk_at"f b6 hb6 H6 s6 t6";exact q b6 H6 (g.trans (S.trans s6)) t6 ⟨by lia,by lia⟩
 rw[vd (fun z=>c6 z.1)]at d;refine iteF ?_;exists iteD (fun B=>?_) (fun B=>?_)
 ·have f:=kn (by lia);rw[ve B]at d;exists⟨_,_,rfl,.inl ⟨_,SqL.of o.en,rfl⟩,?_⟩;rw[vt];exists⟨_,_,rfl,.inl ⟨_,SqL.of o.en,rfl⟩,?_⟩;rw[vt];refine⟨_,_,rfl,?_⟩;dsimp only;walk_at"g";obtain⟨j,ej,C⟩:∃j:Nat,(e.length:Int)-1-n/100%(if(e.length:Int)<3 then(e.length:Int)else 3)=(j:Int)/\j<e.length:=by
   have a:=vf (n/100) (show(if(e.length:Int)<3 then(e.length:Int)else 3)≠0 by split<;>lia);have b:=vg (n/100) (show 0<(if(e.length:Int)<3 then(e.length:Int)else 3) by split<;>lia);generalize n/100%(if(e.length:Int)<3 then(e.length:Int)else 3)=z at a b|-;refine⟨((e.length:Int)-1-z).toNat,?_,?_⟩
   ·split at b<;>lia
   ·split at b<;>lia
  rw[ej,Int.toNat_natCast]at d;rw[d]at q;rw[ej];refine j1G ?_;exists ixLm (SqL.of L) rfl ?_;walk_at"g";have h0:=vf (n/10^12) (show b3≠0 by lia);have h1:=vg (n/10^12) (show 0<b3 by lia);refine ixLm (SqL.of o.en) (za C) ?_;exists⟨ud,?_⟩;walk_at"f b6 hb6 H6 s6 t6";exact q b6 H6 (g.trans s6) t6 ⟨by lia,by lia,C⟩
 rw[vd B]at d;rw[d]at q;exists⟨ue,?_⟩;walk_at"f b6 hb6 H6 s6 t6";exact q b6 H6 (g.trans s6) t6 ⟨by lia,by lia⟩
theorem K8(T:Txt K mg t):FnOk P w K mg base CX0 1 t.qI t.qL ["_law_form_here","_law_known"] (sp_longB):=by
 refine T.Qt.ok wE (fun vs H Q E h=>?_) (fun O A J s H vs Q E G h=>?_)
 ·cases h;subst_vars;rfl
 obtain⟨C,d,f,o,F,L,M,rfl,y,R,Y,Z,p,S,q⟩:=h;refine⟨_,(jb (j2 (jo j5 (ji jt (pv 0) jd) jB (nomark _))
   (jg (jA (jz (yL rfl) (by rfl) T.j0F W9 (ja (qA (ow:=["_law_name"]) (ci:=[1]) rfl (CompScope.of (defScope QI) ["_law_form_here","_law_known"] rfl rfl (by decide +kernel)) (qo (by decide)) (wv (ji jt (pv 0) jd)) (fun _ _ _ _ _=>⟨(ju (i:=0) (JA ["_law_form_here","_law_known"] rfl (by decide +kernel)) rfl (.inl rfl)),QM,(JV (qO G) (pv 1) (pv 0))⟩)) jc))))
   jw)
  (jb (j2 (jo j5 (ji jt (pv 0) jd) jB (nomark _))
   (jg (jA (jz (yJ rfl) (by rfl) T.Xb KJ (ja (qA (ow:=["_law_name"]) (ci:=[1]) rfl (CompScope.of (defScope QI) ["_law_form_here","_law_known"] rfl rfl (by decide +kernel)) (qo (by decide)) (wv (ji jt (pv 0) jd)) (fun _ _ _ _ _=>⟨(ju (i:=0) (JA ["_law_form_here","_law_known"] rfl (by decide +kernel)) rfl (.inl rfl)),QM,(JV (qO G) (pv 1) (pv 0))⟩)) jc))))
   jw)
  (jb (j2 (jo j5 (ji jt (pv 0) jd) jB (nomark _))
   (jg (jA (jq Qc (ji jt (pv 0) jd) (JV (qO G) (pv 1) (ji jt (pv 0) jd)))))
   jw)
  (jg (jA (ji jt (pv 0) (jq Qj (jz jR (by rfl) T.JJ Je (ja (pv 0) jc)) jd))))))),?_⟩
 refine jG (σ':=[some _,some _]) rfl ?_;have sz:(200:Nat)<sizeLine:=by decide
 have u:∀j,j<o.length->DGet H d (.str (o.getD j ⟨#[]⟩)) (some (.int (F.getD j 0))):=fun j l=>by
  have g:=DGet.k (k:=Sum.inr (o.getD j ⟨#[]⟩)) R;rw[yn Y Z l]at g;exact g
 obtain⟨D,c⟩:=p.js;cases f with
 | hold n=>
  have a:H C=some (.tup _):=y;exists ixTm (SqT.of a) rfl ?_;exists iteE0 ?_;exists ixTm (SqT.of a) rfl ?_;exists iteE0 ?_;exists ixTm (SqT.of a) rfl ?_;exists iteE0 ?_;exists⟨_,_,rfl,.inr ⟨_,SqT.of a,rfl⟩,?_⟩;exists ixTm (SqT.of a) rfl ?_;exact q _ H (Same.refl _) rfl
 | ring x n=>
  have a:H C=some (.tup _):=y;exists ixTm (SqT.of a) rfl ?_;exists iteE0 ?_;exists ixTm (SqT.of a) rfl ?_;exists iteE0 ?_;exists ixTm (SqT.of a) rfl ?_;exists iteE0 ?_;exists⟨_,_,rfl,.inr ⟨_,SqT.of a,rfl⟩,?_⟩;exists ixTm (SqT.of a) rfl ?_;exact q _ H (Same.refl _) rfl
 | rise x h n=>
  have a:H C=some (.tup _):=y;exists ixTm (SqT.of a) rfl ?_;exists iteE0 ?_;exists ixTm (SqT.of a) rfl ?_;exists iteE0 ?_;exists ixTm (SqT.of a) rfl ?_;exists iteE0 ?_;exists⟨_,_,rfl,.inr ⟨_,SqT.of a,rfl⟩,?_⟩;exists ixTm (SqT.of a) rfl ?_;exact q _ H (Same.refl _) rfl
 | row is=>
  obtain⟨b,a,z⟩:=y;have D:is.length<=8:=D;have c:∀j∈is,j<o.length:=c;exists ixTm (SqT.of a) rfl ?_;exists iteE1 ?_;exists ixTm (SqT.of a) rfl ?_;refine⟨b,rfl,⟨_,SqT.of z⟩,?_⟩;refine yg (xs:=(is.map fun j=>o.getD j ⟨#[]⟩).map V.str) (fun t r m=>r=((is.take t).map fun j=>F.getD j 0).map V.int/\H=m) ⟨rfl,rfl⟩ ?_ ?_ ?_
  ·rintro t r m _ ⟨rfl,rfl⟩;exact SqT.of z
  ·rintro t v r m B ⟨rfl,rfl⟩;rw[vv,vv]at B;obtain⟨x,I,rfl⟩:=vh.mp B;obtain⟨j,l,rfl⟩:=vh.mp I;have X:=(vx.mp l).1;refine J2 (σ':=[none,some (.ref d)]) rfl ?_;exists iteT ?_;exists⟨d,_,rfl,u j (c j (vm l)),?_⟩;refine⟨by rw[vt,vt,vj];lia,?_,rfl⟩;rw[take_snoc l,vk,vk];rfl
  rintro r m ⟨rfl,rfl⟩;rw[show((is.map fun j=>o.getD j ⟨#[]⟩).map V.str).length=is.length by rw[vt,vt],v2];refine⟨by rw[vt,vt];lia,?_⟩;walk_at"f 1 t";exists⟨p1,_,rfl,SqL.of t1,?_⟩;exact q _ H1 s1 rfl
 | side is=>
  obtain⟨b,a,z⟩:=y;have D:is.length<=8:=D;have c:∀j∈is,j<o.length:=c;have i2:=p.1;exists ixTm (SqT.of a) rfl ?_;exists iteE0 ?_;exists ixTm (SqT.of a) rfl ?_;exists iteE1 ?_;exists ixTm (SqT.of a) rfl ?_;refine⟨b,rfl,⟨_,SqT.of z⟩,?_⟩;refine yg (xs:=(is.map fun j=>o.getD j ⟨#[]⟩).map V.str) (fun t r m=>r=((is.take t).map fun j=>F.getD j 0).map V.int/\H=m) ⟨rfl,rfl⟩ ?_ ?_ ?_
  ·rintro t r m _ ⟨rfl,rfl⟩;exact SqT.of z
  ·rintro t v r m B ⟨rfl,rfl⟩;rw[vv,vv]at B;obtain⟨x,I,rfl⟩:=vh.mp B;obtain⟨j,l,rfl⟩:=vh.mp I;have X:=(vx.mp l).1;refine J2 (σ':=[none,some (.ref d)]) rfl ?_;exists iteT ?_;exists⟨d,_,rfl,u j (c j (vm l)),?_⟩;refine⟨by rw[vt,vt,vj];lia,?_,rfl⟩;rw[take_snoc l,vk,vk];rfl
  rintro r m ⟨rfl,rfl⟩;rw[show((is.map fun j=>o.getD j ⟨#[]⟩).map V.str).length=is.length by rw[vt,vt],v2];refine⟨by rw[vt,vt];lia,?_⟩;walk_at"f 1 t";exists⟨p1,_,rfl,SqL.of t1,by rw[vt];lia,fun g U W=>?_⟩;obtain⟨j,l,e⟩:=vJ.mp U;exact q g H1 s1 ⟨⟨j,l,e.symm⟩,fun j l=>W _ (vJ.mpr ⟨j,l,rfl⟩)⟩
 | again k j=>
  have a:H C=some (.tup _):=y;have N:=c j vq;have gj:=S j N;have k1:=p.1;have k2:=p.2.1;exists ixTm (SqT.of a) rfl ?_;exists iteE0 ?_;exists ixTm (SqT.of a) rfl ?_;exists iteE0 ?_;exists ixTm (SqT.of a) rfl ?_;exists iteE1 ?_;exists ixTm (SqT.of a) rfl ?_;exists ixTm (SqT.of a) rfl ?_;exists⟨d,_,rfl,u j N,?_⟩;walk_at"g";exact q _ H (Same.refl _) rfl
theorem kI(T:Txt K mg t):FnOk P w K mg base CX0 1 t.qg t.qj ["_law_form_here","_law_names","_law_movers"] (sp_movesG):=by
 refine T.zC.ok Jt (fun vs H Q E h=>?_) (fun ac A aa s H vs Q E hr h=>?_)
 ·cases h;subst_vars;rfl
 obtain⟨C,I,S,a7,f,J,Ms,L,M,rfl,Y,en,em,aM,nd,ln,ae,N,k4,q⟩:=h;refine⟨_,(jb (j2 (jo j5 (ji jt (pv 0) jd) jB (nomark _))
   (jg (jA (jE (ja (ji jt (pv 0) jd) jc))))
   jw)
  (jb (jp (i:=3) Jt.nd rfl (.inl rfl) (jE jc))
  (jb (JU (PW.pt (WJ (jo j5 (ji jt (pv 0) jd) jB (nomark _)) (wA (jo j5 (ji jt (pv 0) jd) jB (nomark _)))))
   (jg (jp (i:=3) Jt.nd rfl (.inl rfl) (JT KL (by rfl) T.j3c j2f (ja (ji jt (pv 0) jd) jc))))
   jw)
  (jb (JU (jo j5 (ji jt (pv 0) jd) jB (nomark _))
   (jg (jp (i:=3) Jt.nd rfl (.inl rfl) (jE (ja (ji jt (pv 0) jd) jc))))
   jw)
  (jb (jp (i:=4) Jt.nd rfl (.inl rfl) (jE jc))
  (jb (Jc PassesOwn.never rfl (Jh (pv 3)) (ju (i:=5) Jt.nd rfl (.inl rfl))
   (jg (Jc PassesOwn.never rfl (Jh (ji jv (pv 2) (JR PySem.F.plainAttrs_list PySem.F.slot_list_index PySem.F.type_list_index j05 (pv 1) (ja (pv 5) jc)))) (ju (i:=6) Jt.nd rfl (.inl rfl))
    (jg (j2 (jo wm (pv 6) (pv 4) (by with_unfolding_all rfl))
     (jg (jZ (JR PySem.F.plainAttrs_list PySem.F.slot_list_append PySem.F.type_list_append jO (pv 4) (ja (pv 6) jc))))
     jw)))))
  (jg (jA (pv 4))))))))),?_⟩
 refine jG (σ':=[some _,some _,some _,none,none,none,none]) rfl ?_;have sz:(200:Nat)<sizeLine:=by decide
 cases f
 case rise x h n=>
  have p:H C=some (.tup _):=Y;exists ixTm (SqT.of p) rfl ?_;exists iteE1 ?_;exists ixTm (SqT.of p) rfl ?_;exists⟨uf,?_⟩;walk_at"f 1 t";refine q p1 H1 s1 hp1 t1 ⟨pairwise_singleton _ _,fun s=>?_⟩ (by show 1<=80;decide);show s∈[x]↔_;rw[vo];constructor
  ·rintro rfl;exact .inr ⟨h,n,rfl⟩
  ·rintro(⟨j,hj,_⟩ | ⟨h',n',e⟩)
   ·exact nomatch hj
   ·injection e with e1;exact e1.symm
 case' hold n=>
  have p:H C=some (.tup _):=Y;exists ixTm (SqT.of p) rfl ?_;exists iteE0 ?_;exists⟨vb _,?_⟩;walk_at"f 1 t";have l:=s1 _ _ p;exists⟨fun σ' g=>IvE1 fun(d:Addr)=>IvA2 (σ'=[some (.ref C),some (.ref I),some (.ref S),some (.ref d),none,none,none]) (Same H g/\g d=some (.lst (((rsB (Fn.hold n)).map fun j=>J.getD j ⟨#[]⟩).map V.str))),?_,?_⟩
  rotate_left
  ·exists ixTm (SqT.of l) rfl ?_;exists iteE0 ?_;exists ixTm (SqT.of l) rfl ?_;exists iteE0 ?_;walk_at"g";exact⟨p1,rfl,s1,t1⟩
  rintro σ' H2 ⟨p2,rfl,m,e2⟩;have B:=m _ _ p;exists⟨fun σ' g=>IvE1 fun(d:Addr)=>IvA2 (σ'=[some (.ref C),some (.ref I),some (.ref S),some (.ref d),none,none,none]) (Same H g/\g d=some (.lst (((Fn.hold n).js.map fun j=>J.getD j ⟨#[]⟩).map V.str))),?_,?_⟩
  rotate_left
  ·exists ixTm (SqT.of B) rfl ?_;exists iteE0 ?_;walk_at"g";exact⟨p2,rfl,m,e2⟩
  rintro σ' H3 ⟨d,rfl,D,R⟩;have X:∀u0 u1 u2,(Fn.hold n)≠.rise u0 u1 u2:=fun _ _ _ z=>by cases z
  clear Y;generalize(Fn.hold n)=f at R X N q
 case' ring x n=>
  have p:H C=some (.tup _):=Y;exists ixTm (SqT.of p) rfl ?_;exists iteE0 ?_;exists⟨vb _,?_⟩;walk_at"f 1 t";have l:=s1 _ _ p;exists⟨fun σ' g=>IvE1 fun(d:Addr)=>IvA2 (σ'=[some (.ref C),some (.ref I),some (.ref S),some (.ref d),none,none,none]) (Same H g/\g d=some (.lst (((rsB (Fn.ring x n)).map fun j=>J.getD j ⟨#[]⟩).map V.str))),?_,?_⟩
  rotate_left
  ·exists ixTm (SqT.of l) rfl ?_;exists iteE0 ?_;exists ixTm (SqT.of l) rfl ?_;exists iteE0 ?_;walk_at"g";exact⟨p1,rfl,s1,t1⟩
  rintro σ' H2 ⟨p2,rfl,m,e2⟩;have B:=m _ _ p;exists⟨fun σ' g=>IvE1 fun(d:Addr)=>IvA2 (σ'=[some (.ref C),some (.ref I),some (.ref S),some (.ref d),none,none,none]) (Same H g/\g d=some (.lst (((Fn.ring x n).js.map fun j=>J.getD j ⟨#[]⟩).map V.str))),?_,?_⟩
  rotate_left
  ·exists ixTm (SqT.of B) rfl ?_;exists iteE0 ?_;walk_at"g";exact⟨p2,rfl,m,e2⟩
  rintro σ' H3 ⟨d,rfl,D,R⟩;have X:∀u0 u1 u2,(Fn.ring x n)≠.rise u0 u1 u2:=fun _ _ _ z=>by cases z
  clear Y;generalize(Fn.ring x n)=f at R X N q
 case' row is=>
  obtain⟨b,p,hb⟩:=Y;exists ixTm (SqT.of p) rfl ?_;exists iteE0 ?_;exists⟨vb _,?_⟩;walk_at"f 1 t";have l:=s1 _ _ p;exists⟨fun σ' g=>IvE1 fun(d:Addr)=>IvA2 (σ'=[some (.ref C),some (.ref I),some (.ref S),some (.ref d),none,none,none]) (Same H g/\g d=some (.lst (((rsB (Fn.row is)).map fun j=>J.getD j ⟨#[]⟩).map V.str))),?_,?_⟩
  rotate_left
  ·exists ixTm (SqT.of l) rfl ?_;exists iteE1 ?_;refine iteT ?_;exists ixTm (SqT.of l) rfl ?_;exists⟨b,_,rfl,.inr (SqT.of (s1 _ _ hb)),?_⟩;walk_at"f 2 t";walk_at"g";exact⟨p2,rfl,s1.trans s2,t2⟩
  rintro σ' H2 ⟨p2,rfl,m,e2⟩;have B:=m _ _ p;exists⟨fun σ' g=>IvE1 fun(d:Addr)=>IvA2 (σ'=[some (.ref C),some (.ref I),some (.ref S),some (.ref d),none,none,none]) (Same H g/\g d=some (.lst (((Fn.row is).js.map fun j=>J.getD j ⟨#[]⟩).map V.str))),?_,?_⟩
  rotate_left
  ·exists ixTm (SqT.of B) rfl ?_;exists iteE0 ?_;walk_at"g";exact⟨p2,rfl,m,e2⟩
  rintro σ' H3 ⟨d,rfl,D,R⟩;have X:∀u0 u1 u2,(Fn.row is)≠.rise u0 u1 u2:=fun _ _ _ z=>by cases z
  generalize(Fn.row is)=f at R X N q;clear p hb
 case' side is=>
  obtain⟨b,p,hb⟩:=Y;exists ixTm (SqT.of p) rfl ?_;exists iteE0 ?_;exists⟨vb _,?_⟩;walk_at"f 1 t";have l:=s1 _ _ p;exists⟨fun σ' g=>IvE1 fun(d:Addr)=>IvA2 (σ'=[some (.ref C),some (.ref I),some (.ref S),some (.ref d),none,none,none]) (Same H g/\g d=some (.lst (((rsB (Fn.side is)).map fun j=>J.getD j ⟨#[]⟩).map V.str))),?_,?_⟩
  rotate_left
  ·exists ixTm (SqT.of l) rfl ?_;exists iteE0 ?_;exists ixTm (SqT.of l) rfl ?_;exists iteE1 ?_;exists ixTm (SqT.of l) rfl ?_;exists⟨b,_,rfl,.inr (SqT.of (s1 _ _ hb)),?_⟩;walk_at"f 2 t";walk_at"g";exact⟨p2,rfl,s1.trans s2,t2⟩
  rintro σ' H2 ⟨p2,rfl,m,e2⟩;have B:=m _ _ p;exists⟨fun σ' g=>IvE1 fun(d:Addr)=>IvA2 (σ'=[some (.ref C),some (.ref I),some (.ref S),some (.ref d),none,none,none]) (Same H g/\g d=some (.lst (((Fn.side is).js.map fun j=>J.getD j ⟨#[]⟩).map V.str))),?_,?_⟩
  rotate_left
  ·exists ixTm (SqT.of B) rfl ?_;exists iteE0 ?_;walk_at"g";exact⟨p2,rfl,m,e2⟩
  rintro σ' H3 ⟨d,rfl,D,R⟩;have X:∀u0 u1 u2,(Fn.side is)≠.rise u0 u1 u2:=fun _ _ _ z=>by cases z
  generalize(Fn.side is)=f at R X N q;clear p hb
 case' again k j=>
  have p:H C=some (.tup _):=Y;exists ixTm (SqT.of p) rfl ?_;exists iteE0 ?_;exists⟨vb _,?_⟩;walk_at"f 1 t";have l:=s1 _ _ p;exists⟨fun σ' g=>IvE1 fun(d:Addr)=>IvA2 (σ'=[some (.ref C),some (.ref I),some (.ref S),some (.ref d),none,none,none]) (Same H g/\g d=some (.lst (((rsB (Fn.again k j)).map fun j=>J.getD j ⟨#[]⟩).map V.str))),?_,?_⟩
  rotate_left
  ·exists ixTm (SqT.of l) rfl ?_;exists iteE0 ?_;exists ixTm (SqT.of l) rfl ?_;exists iteE0 ?_;walk_at"g";exact⟨p1,rfl,s1,t1⟩
  rintro σ' H2 ⟨p2,rfl,m,e2⟩;have B:=m _ _ p;exists⟨fun σ' g=>IvE1 fun(d:Addr)=>IvA2 (σ'=[some (.ref C),some (.ref I),some (.ref S),some (.ref d),none,none,none]) (Same H g/\g d=some (.lst (((Fn.again k j).js.map fun j=>J.getD j ⟨#[]⟩).map V.str))),?_,?_⟩
  rotate_left
  ·exists ixTm (SqT.of B) rfl ?_;exists iteE1 ?_;exists ixTm (SqT.of B) rfl ?_;exists⟨uf,?_⟩;walk_at"f 3 t";walk_at"g";exact⟨p3,rfl,m.trans s3,t3⟩
  rintro σ' H3 ⟨d,rfl,D,R⟩;have X:∀u0 u1 u2,(Fn.again k j)≠.rise u0 u1 u2:=fun _ _ _ z=>by cases z
  clear Y;generalize(Fn.again k j)=f at R X N q
 all_goals
  obtain⟨j8,a8⟩:=N.js;exists⟨vb _,?_⟩;walk_at"f pf hpf H4 s4 t4";have a3:=D.trans s4;have mf:∀{c u},H c=some u->c≠pf:=fun h=>je (D _ _ h) hpf
  have a9:d≠pf:=je R hpf;have ab:=aM.1;exists⟨d,rfl,⟨_,SqL.of (s4 _ _ R)⟩,?_⟩;refine J0 (xs:=(f.js.map fun j=>J.getD j ⟨#[]⟩).map V.str) (fun t σ g=>IvE3 fun(o5 Z:Option V) (U:List Str)=>IvA6 (σ=[some (.ref C),some (.ref I),some (.ref S),some (.ref d),some (.ref pf),o5,Z]) (∀c u,c≠pf->H4 c=some u->g c=some u) (g pf=some (.lst (U.map V.str))) U.Nodup (U.length<=8*t) ((∀s,s∈U↔∃j∈f.js.take t,s∈Ms.getD j [])/\U=(f.js.take t).foldl (addS Ms) [])) ⟨_,_,[],rfl,fun c u _ h=>h,t4,.nil,vc _,(fun s=>⟨(fun h=>nomatch h),fun⟨j,hj,_⟩=>nomatch hj⟩),rfl⟩ ?_ ?_ ?_
  ·rintro t σ g _ ⟨o5,Z,U,rfl,sm,_⟩;exact SqL.of (sm _ _ a9 (s4 _ _ R))
  ·rintro t v σ H5 hv ⟨o5,Z,U,rfl,sm,e5,a2,kl,W,ek⟩;rw[vv,vv]at hv;obtain⟨x,hx,rfl⟩:=vh.mp hv;obtain⟨j,hj,rfl⟩:=vh.mp hx;have tl:=(vx.mp hj).1;have jl:=a8 j (vm hj);obtain⟨l1,l2,l3⟩:=lidxB nd jl;have a4:Ms[j]?=some (Ms.getD j []):=by rw[vy,vz (by lia)];rfl
   have ad:=k4 _ (vm a4);obtain⟨ma,a5⟩:∃ma,a7[j]?=some ma:=⟨_,vz (by lia)⟩
   have a0:=aM.2 j ma _ a5 a4;have k5:∀{c u},H c=some u->H5 c=some u:=fun h=>sm _ _ (mf h) (a3 _ _ h)
   exists⟨.inl ⟨rfl,_,SqL.of (k5 en)⟩,?_⟩;exists⟨I,_,.str _,.str _,j,rfl,rfl,SqL.of (k5 en),rfl,flatB _,l1,l2,l3,?_⟩;exists ixLm (SqL.of (k5 em)) (jW (show(a7.map V.ref)[j]?=some (.ref ma) by rw[vv,a5];rfl)) ?_;refine⟨ma,rfl,⟨_,SqL.of (k5 a0)⟩,?_⟩;refine J0 (xs:=(Ms.getD j []).map V.str) (fun u σ g=>IvE2 fun(Z:Option V) (o:List Str)=>IvA6 (σ=[some (.ref C),some (.ref I),some (.ref S),some (.ref d),some (.ref pf),some (.str (J.getD j ⟨#[]⟩)),Z]) (∀c u,c≠pf->H4 c=some u->g c=some u) (g pf=some (.lst (o.map V.str))) o.Nodup (o.length<=8*t+u) ((∀s,s∈o↔s∈U\/s∈(Ms.getD j []).take u)/\o=((Ms.getD j []).take u).foldl addW U)) ⟨_,U,rfl,sm,e5,a2,kl,(fun s=>⟨.inl,fun h=>h.elim id fun h=>nomatch h⟩),rfl⟩ ?_ ?_ ?_
   ·rintro u σ g _ ⟨Z,o,rfl,O,_⟩;exact SqL.of (O _ _ (mf a0) (a3 _ _ a0))
   ·rintro u v σ H6 hv ⟨Z,o,rfl,O,e6,F,a6,r,G⟩;rw[vv]at hv;obtain⟨y,hy,rfl⟩:=vh.mp hv;have ul:=(vx.mp hy).1;exists⟨pf,_,rfl,.inl (SqL.of e6),rfl,flatB _,?_⟩;rw[ve rfl,KR];refine⟨_,rfl,?_⟩;refine iteN (fun c=>?_) (fun c=>?_)
    ·exists⟨.inl ⟨rfl,_,SqL.of e6⟩,?_⟩;exists⟨pf,_,_,rfl,rfl,e6,by rw[vt];lia,?_⟩;refine⟨_,o++[y],rfl,fun c u hc h=>(jh hc).trans (O _ _ hc h),by rw[jC,vk];rfl,nodup_append.mpr ⟨F,pairwise_singleton _ _,fun a p b hb e=>c (by rw[<-vo.mp hb,<-e];exact p)⟩,by rw[vn,length_singleton];lia,fun s=>?_,by rw[take_snoc hy,foldl_append,<-G];show _=addW o y;unfold addW;rw[vd c]⟩;rw[vi,r,vo,take_snoc hy,vi,vo,or_assoc]
    ·exists⟨_,o,rfl,O,e6,F,by lia,fun s=>?_,by rw[take_snoc hy,foldl_append,<-G];show _=addW o y;unfold addW;rw[ve c]⟩;rw[r,take_snoc hy,vi,vo];refine⟨fun h=>h.elim .inl fun h=>.inr (.inl h),?_⟩;rintro(h | h | rfl)
     ·exact .inl h
     ·exact .inr h
     ·exact(r _).mp c
   ·rintro σ H6 ⟨Z,o,rfl,O,e6,F,a6,r,G⟩;rw[vt]at a6 r G;rw[v2]at r G;exists⟨_,_,o,rfl,O,e6,F,by lia,fun s=>?_,by rw[take_snoc hj,foldl_append,<-ek];exact G⟩;rw[r,W,take_snoc hj];constructor
    ·rintro(⟨j',a1,h⟩ | h)
     ·exact⟨j',mem_append_left _ a1,h⟩
     ·exact⟨j,mem_append_right _ vq,h⟩
    ·rintro⟨j',a1,h⟩;rcases vi.mp a1 with z | z
     ·exact .inl ⟨j',z,h⟩
     ·rw[vo.mp z]at h;exact .inr h
  ·rintro σ H5 ⟨o5,Z,U,rfl,sm,e5,a2,kl,W,ek⟩;rw[show((f.js.map fun j=>J.getD j ⟨#[]⟩).map V.str).length=f.js.length by rw[vt,vt]]at kl W ek;rw[v2]at W ek;rw[<-j2F X]at ek;rw[<-ek]at q;walk_at"g";exact q pf H5 (fun c u h=>sm _ _ (mf h) (a3 _ _ h)) (none_of D hpf) e5 ⟨a2,fun s=>(W s).trans ⟨.inl,fun h=>h.elim id fun⟨h',n',e⟩=>ug e (X _ _ _)⟩⟩ (by lia)
theorem K7(T:Txt K mg t):FnOk P w K mg base CX0 1 t.qH t.qK ["_law_names","_law_known","_law_most"] (sp_lastG):=by
 refine T.Zf.ok Qf (fun vs H Q E h=>?_) (fun a0 A W s H vs Q E Y h=>?_)
 ·cases h;subst_vars;rfl
 obtain⟨nl,d,e,gs,most,rfl,S,R,nd,ng,n1,a1,gb,q⟩:=h;refine⟨_,(jb (jp (i:=3) Qf.nd rfl (.inl rfl) (jE jc))
  (jb (jp (i:=4) Qf.nd rfl (.inl rfl) jd)
  (jb (Jc PassesOwn.never rfl (j3C (by rfl) T.W6 (ja (pv 0) jc)) (ju (i:=5) Qf.nd rfl (.inl rfl))
   (jg (j2 (PW.pt (Qd (jo Zn (jz jR (by rfl) T.JJ Je (ja (pv 3) jc)) jd (nomark _)) (qB (jo WF (jq jU (pv 4) (JV (qO Y) (pv 1) (pv 5))) (pv 2) (nomark _)))))
    (jb (jZ (JR PySem.F.plainAttrs_list PySem.F.slot_list_append PySem.F.type_list_append jO (pv 3) (ja (pv 5) jc)))
    (jg (jp (i:=4) Qf.nd rfl (.inl rfl) (jq jU (pv 4) (JV (qO Y) (pv 1) (pv 5))))))
    jw)))
  (jg (jA (JT Qo (by rfl) T.Yp ye (ja (pv 3) jc))))))),?_⟩
 refine jG (σ':=[some _,some _,some _,none,none,none]) rfl ?_;have sz:(200:Nat)<sizeLine:=by decide
 have y:∀(h:Hp) j,h d=some (.dK (knK e gs))->j<e.length->DGet h d (.str (e.getD j ⟨#[]⟩)) (some (.int (gs.getD j 0))):=fun h j eh hj=>by
  have g:=DGet.k (k:=Sum.inr (e.getD j ⟨#[]⟩)) eh;rw[yn nd ng hj]at g;exact g
 exists⟨vb _,?_⟩;walk_at"f ps hps H1 s1 t1";have l:∀{c u},H c=some u->c≠ps:=fun h=>je h hps
 exists⟨nl,_,rfl,SqL.of (s1 _ _ S),?_⟩;refine j2r (xs:=e.map V.str) (fun t N m=>IvE3 fun(L:Option V) (f:List Nat) (a:Int)=>IvA7 (N=[some (.ref nl),some (.ref d),some (.int most),some (.ref ps),some (.int a),L]) (∀c u,c≠ps->H1 c=some u->m c=some u) (m ps=some (.lst ((f.map fun j=>e.getD j ⟨#[]⟩).map V.str))) (f.length<=5) (∀j∈f,j<e.length) (t=0->f=[]/\a=0) ((0<t->f≠[])/\lastS gs most e.length t=(f,a))) ⟨_,[],0,rfl,fun c u _ h=>h,t1,vb _,(fun j h=>nomatch h),fun _=>⟨rfl,rfl⟩,fun h=>ug h (by lia),rfl⟩ ?_ ?_ ?_
 ·rintro t N m _ ⟨L,f,a,rfl,o,_⟩;exact SqL.of (o _ _ (l S) (s1 _ _ S))
 ·rintro t v N m hi I ⟨L,f,a,rfl,o,p,J,B,z0,M,r⟩;rw[vt]at hi I;rw[vv]at I;obtain⟨x,Z,rfl⟩:=vh.mp I;have ej:x=e.getD (e.length-1-t) ⟨#[]⟩:=by rw[vy,Z];rfl
  subst ej;have C:e.length-1-t<e.length:=by lia
  have F:=xu (gs:=gs) (most:=most) (n:=e.length) t;rw[r]at F;clear Z I r;generalize e.length-1-t=j at C F|-;have k':∀{c u},H c=some u->m c=some u:=fun h=>o _ _ (l h) (s1 _ _ h)
  have g:=gb j C;exists⟨_,_,rfl,.inl ⟨_,SqL.of p,rfl⟩,?_⟩;rw[vt,vt];exists iteD (fun c=>?_) (fun c=>?_)
  ·exists⟨d,_,rfl,y m j (k' R) C,?_⟩;exists iteD (fun G=>?_) (fun G=>?_)
   ·exists⟨.inl ⟨rfl,_,SqL.of p⟩,?_⟩;exists⟨ps,_,_,rfl,rfl,p,by rw[vt,vt];lia,?_⟩;generalize O:upd m ps _=H2;have e2:H2 ps=some (.lst (((f++[j]).map fun j=>e.getD j ⟨#[]⟩).map V.str)):=by
     rw[vk,vk];exact Qg O
    have D:∀c u,c≠ps->H1 c=some u->H2 c=some u:=fun c u X h=>O▸(jh X).trans (o c u X h)
    clear O;exists⟨d,_,rfl,y H2 j (D _ _ (l R) (s1 _ _ R)) C,?_⟩;exists⟨_,f++[j],_,rfl,D,e2,by rw[vn];show _+1<=5;lia,fun j' U=>?_,fun h=>ug h (by lia),(fun _ h=>by simp at h),by rw[F,ve ⟨c,G⟩]⟩;rcases vi.mp U with z | z
    ·exact B j' z
    ·rw[vo.mp z];exact C
   ·exists⟨_,f,a,rfl,o,p,J,B,fun h=>ug h (by lia),fun _ h=>?_,by rw[F,vd fun z=>G z.2]⟩;rcases Nat.eq_zero_or_pos t with z | z
    ·obtain⟨_,rfl⟩:=z0 z;exact G (by lia)
    ·exact M z h
  ·exists⟨_,f,a,rfl,o,p,J,B,fun h=>ug h (by lia),fun _ h=>?_,by rw[F,vd fun z=>c z.1]⟩;rw[h]at c;exact c (by show((0:Nat):Int)<5;lia)
 ·rintro N m ⟨L,f,a,rfl,o,p,J,B,z0,M,r⟩;rw[vt]at M r;have eF:lastF gs most e.length=f:=by unfold lastF;rw[r]
  exists⟨ps,_,rfl,.inl ⟨SqL.of p,?_⟩⟩;walk_at"f b hb H3 s3 t3";rw[eF]at q;exact q b H3 (fun c u h=>s3 _ _ (o _ _ (l h) (s1 _ _ h))) t3 (M (by lia)) J B
theorem wa(T:Txt K mg t)(n:FnOk P w K mg base CX0 1 t.JL t.JN ["_law_cell","_law_k"] (YB)):FnOk P w K mg base CX0 2 t.JY t.JZ ["_law_pool","_law_many"] (sp_takeB):=by
 refine T.jH.ok yC (fun D H Q E h=>?_) (fun k A f s H D Q E l h=>?_)
 ·cases h;subst_vars;rfl
 obtain⟨p,x,y,m,rfl,b,F,z,G,I,q⟩:=h;refine⟨_,(jb (j2 (jo ZK (ji jv (pv 0) jd) jd (nomark _))
   (jb (jp (i:=2) yC.nd rfl (.inl rfl) (jq j9 (ji jv (pv 0) jd) (pv 1)))
   (jb (Zp (jq Jb (ji jv (pv 0) jd) (pv 1)) (Y9 (pv 0) jd set_list))
   (jg (jA (pv 2)))))
   jw)
  (jb (Zp (jq j9 (jq Qc (jq jU (ji jv (pv 0) jd) (pv 1)) jd) (jq jU (jq Zo jd jd) jd)) (Y9 (pv 0) jd set_list))
  (jb (Zp (jr (n.mono (by decide)) l (by rfl) T.qq T.JK.kp T.qd .nil pass0 (ja (ji jv (pv 0) jd) (ja (pv 1) jc))) (Y9 (pv 0) jd set_list))
  (jg (jA (jq j9 (jq Jb (ji jv (pv 0) jd) jd) (pv 1))))))),?_⟩
 refine jG (σ':=[some _,some _,none]) rfl ?_;exists ixLm (SqL.of b) rfl ?_;exists iteD (fun c=>?_) (fun c=>?_)
 ·have e:tkB x y m=(x%m,x/m,y):=ve (by lia);rw[e]at q;exists ixLm (SqL.of b) rfl ?_;exists ixLm (SqL.of b) rfl ?_;exists⟨p,_,_,0,rfl,rfl,b,rfl,?_⟩;walk_at"g";exact q _ (fun c u d h=>(jh d).trans h) jC
 ·have e:tkB x y m=(mixB ((y+m)*314159265358979323846264338327%(10^30+57)) m/1000%m,x,mixB ((y+m)*314159265358979323846264338327%(10^30+57)) m):=vd (by lia);rw[e]at q;exists ixLm (SqL.of b) rfl ?_;exists⟨p,_,_,1,rfl,rfl,b,rfl,?_⟩;have B:=vf ((y+m)*314159265358979323846264338327) (show(10^30+57:Int)≠0 by decide);have C:=vg ((y+m)*314159265358979323846264338327) (show(0:Int)<10^30+57 by decide);generalize(y+m)*314159265358979323846264338327%(10^30+57)=v at B C q|-;generalize a:upd H p _=H1;have g:H1 p=some (.lst [.int x,.int v]):=Qg a;have o:∀c u,c≠p->H c=some u->H1 c=some u:=fun c u d h=>a▸(jh d).trans h
  clear a;exists ixLm (SqL.of g) rfl ?_;exists⟨v,m,rfl,by lia,z,?_⟩;exists⟨p,_,_,1,rfl,rfl,g,rfl,?_⟩;generalize a:upd H1 p _=H2;have j:H2 p=some (.lst [.int x,.int (mixB v m)]):=Qg a;have r:∀c u,c≠p->H c=some u->H2 c=some u:=fun c u d h=>a▸(jh d).trans (o c u d h)
  clear a;exists ixLm (SqL.of j) rfl ?_;walk_at"g";exact q _ r j
theorem Y6(T:Txt K mg t)(jD:FnOk P w K mg base CX0 2 t.JY t.JZ ["_law_pool","_law_many"] (sp_takeB)):FnOk P w K mg base CX0 3 t.qw t.qx ["_law_pool","_law_kind","_law_names","_law_movers","_law_bounds"] (sp_namingG):=by
 refine T.ZI.ok j7 (fun vs H Q E h=>?_) (fun aA A ao s H vs Q E hr h=>?_)
 ·cases h;subst_vars;rfl
 obtain⟨p,nl,ml,bd,x,y,kd,H0,am,L,e,Ms,b0,b1,b2,b3,b4,rfl,ep,y0,y1,O,N,n1,Bd,q⟩:=h;refine⟨_,(jb (j2 (jo j5 (pv 1) jd (nomark _))
   (jb (jp (i:=5) j7.nd rfl (.inl rfl) (jq jU jd (jr (jD.mono (by decide)) hr (by rfl) T.jM T.jH.kp T.jL .nil pass0 (ja (pv 0) (ja (ji jv (pv 4) jd) jc)))))
   (jg (jA (jK (ja jB (ja (pv 5) (ja (ji jv (pv 2) (jr (jD.mono (by decide)) hr (by rfl) T.jM T.jH.kp T.jL .nil pass0 (ja (pv 0) (ja (jz jR (by rfl) T.JJ Je (ja (pv 2) jc)) jc)))) jc)))))))
   jw)
  (jb (j2 (jo j5 (pv 1) jd (nomark _))
   (jb (jp (i:=6) j7.nd rfl (.inl rfl) (jq jU jd (jr (jD.mono (by decide)) hr (by rfl) T.jM T.jH.kp T.jL .nil pass0 (ja (pv 0) (ja jd jc)))))
   (jg (jA (jK (ja jB (ja (JT Qo (by rfl) T.Yp ye (ja (qA (ow:=["_law_j"]) (ci:=[2,0]) rfl (CompScope.of (defScope qz) ["_law_pool","_law_kind","_law_names","_law_movers","_law_bounds","_law_times","_law_many","_law_some","_law_used","_law_j","_law_at","_law_twice"] rfl rfl (by decide +kernel)) (qo (by decide)) (JG (by rfl) T.qV (ja (pv 6) jc)) (fun _ _ _ _ _=>⟨(ju (i:=0) (JA ["_law_pool","_law_kind","_law_names","_law_movers","_law_bounds","_law_times","_law_many","_law_some","_law_used","_law_j","_law_at","_law_twice"] rfl (by decide +kernel)) rfl (.inl rfl)),QM,(ji (yl (K:=K) rfl) (pv 1) (jr (jD.mono (by decide)) hr (by rfl) T.jM T.jH.kp T.jL .nil pass0 (ja (pv 2) (ja (jz (kZ (K:=K) rfl) (by rfl) T.JJ Je (ja (pv 1) jc)) jc))))⟩)) jc)) jc))))))
   jw)
  (jb (jp (i:=7) j7.nd rfl (.inl rfl) (jE jc))
  (jb (jp (i:=8) j7.nd rfl (.inr rfl) (jE jc))
  (jb (Jc PassesOwn.never rfl (JG (by rfl) T.qV (ja (jq jU jd (jr (jD.mono (by decide)) hr (by rfl) T.jM T.jH.kp T.jL .nil pass0 (ja (pv 0) (ja jd jc)))) jc)) (ju (i:=9) j7.nd rfl (.inl rfl))
   (jb (jp (i:=10) j7.nd rfl (.inl rfl) (jr (jD.mono (by decide)) hr (by rfl) T.jM T.jH.kp T.jL .nil pass0 (ja (pv 0) (ja (jz jR (by rfl) T.JJ Je (ja (pv 2) jc)) jc))))
   (jb (Yv (i:=11) (ow:=["_law_one"]) (ci:=[8]) rfl (CompScope.of (defScope qz) ["_law_pool","_law_kind","_law_names","_law_movers","_law_bounds","_law_times","_law_many","_law_some","_law_used","_law_j","_law_at","_law_twice"] rfl rfl (by decide +kernel)) (qo (by decide)) j7.nd rfl (.inl rfl) (Jh (ji jv (pv 3) (pv 10))) (fun _ _ _ _ _=>⟨(ju (i:=0) (JA ["_law_pool","_law_kind","_law_names","_law_movers","_law_bounds","_law_times","_law_many","_law_some","_law_used","_law_j","_law_at","_law_twice"] rfl (by decide +kernel)) rfl (.inl rfl)),(wp (jo (ZX (K:=K) rfl) (pv 0) (pv 1) (by with_unfolding_all rfl))),(pv 0)⟩))
   (jg (j2 (PW.pt (Qd (jo (xF hr.units) (ji jv (pv 3) (pv 10)) (jE jc) (nomark _)) (qB (jo (Y7 hr.units) (pv 11) (jE jc) (nomark _)))))
    (jb (jZ (JR PySem.F.plainAttrs_list PySem.F.slot_list_append PySem.F.type_list_append jO (pv 7) (ja (ji jv (pv 2) (pv 10)) jc)))
    (jg (jp (i:=8) j7.nd rfl (.inr rfl) (jq zL (pv 8) (ji jv (pv 3) (pv 10))))))
    jw)))))
  (jb (j2 (jo Zn (jz jR (by rfl) T.JJ Je (ja (pv 7) jc)) jd (nomark _))
   (jg (jA (jK (ja jB (ja (jq jU jd (jr (jD.mono (by decide)) hr (by rfl) T.jM T.jH.kp T.jL .nil pass0 (ja (pv 0) (ja (ji jv (pv 4) jd) jc)))) jc)))))
   jw)
  (jg (jA (jK (ja jB (ja (JT Qo (by rfl) T.Yp ye (ja (pv 7) jc)) jc))))))))))),?_⟩
 refine jG (σ':=[some _,some _,some _,some _,some _,none,none,none,none,none,none,none]) rfl ?_;have sz:(200:Nat)<sizeLine:=by decide
 have aC:=N.n20;obtain⟨eb,ae,ar,as,au,av,aw,a9,ax,ay,az⟩:=Bd;have d:namF x y kd e.length Ms b0 b3=_:=namF.eq_1 ..;generalize namF x y kd e.length Ms b0 b3=F at d q;exists iteD (fun c=>?_) (fun c=>?_)
 ·rw[ve c]at d;exists ixLm (SqL.of (O _ _ eb).2) rfl ?_;walk_at"g";have r:=Jd (x:=x) (y:=y) a9;refine⟨p,x,y,_,rfl,ep,a9,by lia,y0,y1,fun H1 x1 e1=>?_⟩;have B:=Js (x:=x) (m:=b3) y0 y1;have o1:=O.ex x1;exists⟨_,_,rfl,.inl ⟨_,SqL.of (o1 _ _ N.en).2,rfl⟩,?_⟩;rw[vt];exists⟨p,_,_,_,rfl,e1,by lia,by lia,B.1,B.2,fun H2 x2 e2=>?_⟩;have r2:=Jd (x:=(tkB x y b3).2.1) (y:=(tkB x y b3).2.2) (m:=(e.length:Int)) (by lia);have o2:=o1.ex x2;generalize tkB (tkB x y b3).2.1 (tkB x y b3).2.2 (e.length:Int)=T2 at r2 e2 d|-;obtain⟨j,ej⟩:∃j:Nat,T2.1=(j:Int):=⟨T2.1.toNat,by lia⟩
  rw[ej,Int.toNat_natCast]at d;rw[d]at q;rw[ej]at r2|-;have I:j<e.length:=by lia
  refine ixLm (SqL.of (o2 _ _ N.en).2) (za I) ?_;exists⟨ud,?_⟩;walk_at"f b6 hb6 H6 s6 t6";exact q b6 H6 (x1.trans (x2.trans (.of s6))) t6 ⟨by lia,by lia,I⟩
 rw[vd c]at d;exists iteD (fun c5=>?_) (fun c5=>?_)
 ·rw[ve c5]at d;rw[d]at q;walk_at"g";have r:=Jd (x:=x) (y:=y) (m:=5) (by lia);have B:=Js (x:=x) (m:=5) y0 y1;refine⟨p,x,y,_,rfl,ep,by lia,by lia,y0,y1,fun H1 x1 e1=>?_⟩;generalize tkB x y 5=T at r B e1 q|-;have o1:=O.ex x1;exists⟨_,rfl,by lia,by lia,?_⟩;refine ZP (fun i ys G=>IvE3 fun(f:List Nat) (x y:Int)=>IvA6 (ys=f.map (fun j=>V.str (e.getD j ⟨#[]⟩))) (f.length=i) (∀j∈f,j<e.length) (Ex p H1 G) (G p=some (.lst [.int x,.int y])) ((0<=y/\y<10^30+57)/\rowT (e.length:Int) i T.2.1 T.2.2=(f,x,y))) ⟨[],_,_,rfl,rfl,(fun j h=>nomatch h),.refl _,e1,B,rfl⟩ ?_ ?_
  ·rintro i ys G hi ⟨f,x2,y2,rfl,il,I,xx,ai,yy,eR⟩;have o2:=o1.ex xx;refine J2 (σ':=[none,some _,some _]) rfl ?_;exists iteT ?_;exists⟨_,_,rfl,.inl ⟨_,SqL.of (o2 _ _ N.en).2,rfl⟩,?_⟩;rw[show(e.map V.str).length=e.length from vt _];walk_at"g";have r2:=Jd (x:=x2) (y:=y2) (m:=(e.length:Int)) (by lia);have l:=Js (x:=x2) (m:=(e.length:Int)) yy.1 yy.2;refine⟨p,x2,y2,_,rfl,ai,by lia,by lia,yy.1,yy.2,fun H3 x3 e3=>?_⟩;have S:=j0g (n:=(e.length:Int)) (t:=i) (x:=T.2.1) (y:=T.2.2);rw[eR]at S;generalize tkB x2 y2 (e.length:Int)=T2 at r2 l e3 S|-;obtain⟨j,ej⟩:∃j:Nat,T2.1=(j:Int):=⟨T2.1.toNat,by lia⟩
   rw[ej]at r2|-;have jn:j<e.length:=by lia
   refine ixLm (SqL.of (o2.ex x3 _ _ N.en).2) (za jn) ?_;refine⟨by rw[vt];lia,f++[j],_,_,by rw[vk];rfl,by rw[vn,il];rfl,fun j' o=>?_,xx.trans x3,e3,l,by rw[S,ej];rfl⟩;rcases vi.mp o with z | z
   ·exact I j' z
   ·rw[vo.mp z];exact jn
  rintro ys H3 ⟨f,x3,y3,rfl,il,I,xx,aB,yy,eR⟩;rw[eR]at q;dsimp only at q;refine⟨by rw[vt];lia,?_⟩;walk_at"f b hb H4 s4 t4";exists⟨b,_,rfl,.inl ⟨SqL.of t4,?_⟩⟩;walk_at"f b5 hb5 H5 s5 t5";exists⟨ue,?_⟩;walk_at"f b6 hb6 H6 s6 t6";refine q b6 H6 (x1.trans (xx.trans (.of (s4.trans (s5.trans s6))))) ⟨b5,t6,?_⟩ ⟨fun z=>?_,by lia,I⟩
  ·rw[s6 _ _ t5,v3];rfl
  ·rw[z]at il;have:(0:Nat)=_:=il;lia
 rw[vd c5]at d;exists⟨vb _,?_⟩;walk_at"f ps hps H1 s1 t1";exists⟨vb _,?_⟩;walk_at"f pu hpu H2 s2 t2";have a6:=s1.trans s2;have a2:ps≠p:=(je ep hps).symm;have ad:pu≠p:=(je (s1 _ _ ep) hpu).symm;have ac:∀{c u},H c=some u->c≠ps:=fun h=>je h hps
 have aq:pu≠ps:=(je t1 hpu).symm;walk_at"g";have r:=Jd (x:=x) (y:=y) (m:=3) (by lia);have B:=Js (x:=x) (m:=3) y0 y1;refine⟨p,x,y,_,rfl,a6 _ _ ep,by lia,by lia,y0,y1,fun H3 x3 e3=>?_⟩;generalize tkB x y 3=T at r B e3 d|-;have o3:Off p H0 H3:=fun c u h=>⟨(O c u h).1,x3 _ _ (O c u h).1 (a6 _ _ (O c u h).2)⟩
 have af:=x3 _ _ a2 (s2 _ _ t1);have ag:=x3 _ _ ad t2;have aj:∀{c u},c≠p->H c=some u->H3 c=some u:=fun n h=>x3 _ _ n (a6 _ _ h)
 exists⟨_,rfl,by lia,by lia,?_⟩;refine qm (fun t σ G=>IvE8 fun(o9 a4 a5:Option V) (g:Addr) (f:List Nat) (D:List Str) (x y:Int)=>IvA14 (σ=[some (.ref p),some (.int kd),some (.ref nl),some (.ref ml),some (.ref bd),none,none,some (.ref ps),some (.ref g),o9,a4,a5]) (g≠ps) (g≠p) (Ex p H G) (G ps=some (.lst ((f.map fun j=>e.getD j ⟨#[]⟩).map V.str))) (G g=some (.lst (D.map V.str))) (G p=some (.lst [.int x,.int y])) (0<=y) (y<10^30+57) (f.length<=t) (D.length<=8*t) (∀j∈f,j<e.length) (ApartS Ms f) ((∀s,s∈D↔∃j∈f,s∈Ms.getD j [])/\sidT (e.length:Int) Ms t T.2.1 T.2.2=(f,D,x,y))) ⟨_,_,_,pu,[],[],_,_,rfl,aq,ad,fun c u n h=>aj n h,af,ag,e3,B.1,B.2,vc _,vc _,(fun j h=>nomatch h),⟨(fun j h=>nomatch h),.nil⟩,(fun s=>⟨(fun h=>nomatch h),fun⟨j,h,_⟩=>nomatch h⟩),rfl⟩ ?_ ?_
 ·rintro t σ H4 ht ⟨o9,a4,a5,g,f,D,x4,y4,rfl,a1,a0,C,J,a3,e4,U,W,il,ul,I,ap,M,eS⟩;have t4:t<4:=by lia
  have o4:=O.ex C;exists⟨_,_,rfl,.inl ⟨_,SqL.of (o4 _ _ N.en).2,rfl⟩,?_⟩;rw[vt];walk_at"g";have r2:=Jd (x:=x4) (y:=y4) (m:=(e.length:Int)) (by lia);have l:=Js (x:=x4) (m:=(e.length:Int)) U W;refine⟨p,x4,y4,_,rfl,e4,by lia,by lia,U,W,fun H5 x5 e5=>?_⟩;have S:=j0q (n:=(e.length:Int)) (Ms:=Ms) (t:=t) (x:=T.2.1) (y:=T.2.2);rw[eS]at S;dsimp only at S;generalize tkB x4 y4 (e.length:Int)=T2 at r2 l e5 S|-;obtain⟨j,ej⟩:∃j:Nat,T2.1=(j:Int):=⟨T2.1.toNat,by lia⟩
  rw[ej,Int.toNat_natCast]at S;rw[ej]at r2|-;have al:j<e.length:=by lia
  have a7:=C.trans x5;have o5:=O.ex a7;have X:=x5 _ _ a2 J;have Y:=x5 _ _ a0 a3;clear x5 C o4 J a3 e4 U W;obtain⟨ma,ak,Z,an,mw⟩:=N.mv al;have aM:atI (am.map V.ref) ((j:Nat):Int)=some (.ref ma):=jW (by rw[vv,ak];rfl);exists ixLm (SqL.of (o5 _ _ N.em).2) (aM) ?_;refine⟨ma,rfl,⟨_,SqL.of (o5 _ _ Z).2⟩,?_⟩;refine qi (xs:=(Ms.getD j []).map V.str) (fun i ys G=>ys=(((Ms.getD j []).take i).filter fun s=>decide (s∈D)).map V.str/\H5=G) ⟨rfl,rfl⟩ ?_ ?_ ?_
  ·rintro i ys G _ ⟨rfl,rfl⟩;exact SqL.of (o5 _ _ Z).2
  ·rintro i x ys G hx ⟨rfl,rfl⟩;rw[vv]at hx;obtain⟨k,aa,rfl⟩:=vh.mp hx;have ik:=(vx.mp aa).1;refine J2 (σ':=[none,some _]) rfl ?_;exists⟨g,_,rfl,.inl (SqL.of Y),rfl,flatB _,?_⟩;rw[inB];walk_at"g";rw[take_snoc aa,filter_append];have lf:(((Ms.getD j []).take i).filter fun s=>decide (s∈D)).length<=8:=vU (length_filter_le _ _) (by rw[vj];lia);refine iteD (fun c=>?_) (fun c=>?_)
   ·exists⟨by rw[vt];lia,?_,rfl⟩;rw[vk,filter_cons,ve (vF c),filter_nil];rfl
   ·refine⟨?_,rfl⟩;rw[filter_cons,vd (by rw[vG c];exact vE),filter_nil,append_nil]
  rintro ys G ⟨rfl,rfl⟩;rw[show((Ms.getD j []).map V.str).length=(Ms.getD j []).length from vt _,v2];have lf:((Ms.getD j []).filter fun s=>decide (s∈D)).length<=8:=vU (length_filter_le _ _) an;have wf:∀x∈(Ms.getD j []).filter (fun s=>decide (s∈D)),Ws.isW x=true:=fun x hx=>mw x (mem_filter.mp hx).1
  refine⟨by rw[vt];lia,?_⟩;walk_at"f p5 hp5 H6 s6 t6";have o6:=o5.ex (.of s6);exists ixLm (SqL.of (o6 _ _ N.em).2) (aM) ?_;exists⟨vb _,?_⟩;walk_at"f 7 t";have R:=s6.trans s7;refine⟨_,_,.lst (s7 _ _ (o6 _ _ Z).2) (Qa _),X1 t7,shpB mw,shp0,?_⟩;rw[eqvB];exists iteN (fun d1=>?_) (fun d1=>?_)
  ·exists⟨vb _,?_⟩;walk_at"f 8 t";have v:=R.trans s8;have a8:=a7.trans (.of v);refine⟨_,_,.lst (s8 _ _ (s7 _ _ t6)) (Qa _),X1 t8,shpB wf,shp0,?_⟩;rw[eqvB];exists iteD (fun d2=>?_) (fun d2=>?_)
   ·exists⟨.inl ⟨rfl,_,SqL.of (v _ _ X)⟩,?_⟩;walk_at"g";have o8:=O.ex a8;refine ixLm (SqL.of (o8 _ _ N.en).2) (za al) ?_;exists⟨ps,_,_,rfl,rfl,v _ _ X,by rw[vt,vt];lia,?_⟩;generalize eG:upd H8 ps _=H9;have e9:H9 ps=some (.lst (((f++[j]).map fun j=>e.getD j ⟨#[]⟩).map V.str)):=by
     rw[vk,vk];exact Qg eG
    have k9:∀c u,c≠ps->H8 c=some u->H9 c=some u:=fun c u hc h=>eG▸(jh hc).trans h
    clear eG;have n9:∀{c u},H0 c=some u->H9 c=some u:=fun {c u} h=>k9 _ _ (ac (O _ _ h).2) (o8 _ _ h).2
    exists ixLm (SqL.of (n9 N.em)) (aM) ?_;refine⟨g,ma,_,_,rfl,rfl,k9 _ _ a1 (v _ _ Y),n9 Z,by rw[vt,vt];lia,?_⟩;walk_at"f 10 t";walk_at"g";have ah:=s10 _ _ (k9 _ _ a2.symm (v _ _ e5));refine⟨_,_,_,p10,f++[j],D++Ms.getD j [],_,_,rfl,(je e9 hp10).symm,(je (k9 _ _ a2.symm (v _ _ e5)) hp10).symm,fun c u n h=>s10 _ _ (k9 _ _ (ac h) (a8 _ _ n h)),s10 _ _ e9,by rw[vk];exact t10,ah,l.1,l.2,by rw[vn];show _+1<=_;lia,by rw[vn];lia,fun j' o=>?_,⟨fun j' o=>?_,List.pairwise_append.mpr ⟨ap.2,pairwise_singleton ..,fun a ha b hb s hs ab=>?_⟩⟩,fun s=>?_,by rw[S,ve ⟨d1,d2⟩]⟩
    ·rcases vi.mp o with z | z
     ·exact I j' z
     ·rw[vo.mp z];exact al
    ·rcases vi.mp o with z | z
     ·exact ap.1 j' z
     ·rw[vo.mp z];exact d1
    ·rw[vo.mp hb]at ab;have:s∈(Ms.getD j []).filter fun s=>decide (s∈D):=mem_filter.mpr ⟨ab,vF ((M s).mpr ⟨a,ha,hs⟩)⟩
     rw[d2]at this;cases this
    ·rw[vi,M];constructor
     ·rintro(⟨j',o,hs⟩ | hs)
      ·exact⟨j',mem_append_left _ o,hs⟩
      ·exact⟨_,mem_append_right _ vq,hs⟩
     ·rintro⟨j',o,hs⟩;rcases vi.mp o with z | z
      ·exact .inl ⟨j',z,hs⟩
      ·rw[vo.mp z]at hs;exact .inr hs
   ·walk_at"g";exact⟨_,_,_,g,f,D,_,_,rfl,a1,a0,a8,v _ _ X,v _ _ Y,v _ _ e5,l.1,l.2,by lia,by lia,I,ap,M,by rw[S,vd fun z=>d2 z.2]⟩
  ·walk_at"g";exact⟨_,_,_,g,f,D,_,_,rfl,a1,a0,a7.trans (.of R),R _ _ X,R _ _ Y,R _ _ e5,l.1,l.2,by lia,by lia,I,ap,M,by rw[S,vd fun z=>z.1 d1]⟩
 rintro σ H4 ⟨o9,a4,a5,g,f,D,x4,y4,rfl,a1,a0,C,J,a3,e4,U,W,il,ul,I,ap,M,eS⟩;rw[eS]at d;dsimp only at d;exists⟨_,_,rfl,.inl ⟨_,SqL.of J,rfl⟩,?_⟩;rw[vt,vt];exists iteD (fun c2=>?_) (fun c2=>?_)
 ·rw[ve (show f.length<2 by lia)]at d;rw[d]at q;walk_at"g";have o4:=O.ex C;refine ixLm (SqL.of (o4 _ _ eb).2) rfl ?_;walk_at"g";have r2:=Jd (x:=x4) (y:=y4) ae;refine⟨p,x4,y4,_,rfl,e4,by lia,by lia,U,W,fun H5 x5 e5=>?_⟩;exists⟨ue,?_⟩;walk_at"f b6 hb6 H6 s6 t6";exact q b6 H6 (C.trans (x5.trans (.of s6))) t6 ⟨by lia,by lia⟩
 rw[vd (show¬f.length<2 by lia)]at d;rw[d]at q;exists⟨ps,_,rfl,.inl ⟨SqL.of J,?_⟩⟩;walk_at"f b5 hb5 H5 s5 t5";exists⟨ue,?_⟩;walk_at"f b6 hb6 H6 s6 t6";exact q b6 H6 (C.trans (.of (s5.trans s6))) ⟨b5,t6,s6 _ _ t5⟩ ⟨by lia,by lia,I,ap.n N.il⟩
theorem yw(T:Txt K mg t)(U:FnOk P w K mg base CX0 2 t.JY t.JZ ["_law_pool","_law_many"] (sp_takeB))(zk:FnOk P w K mg base CX0 3 t.qw t.qx ["_law_pool","_law_kind","_law_names","_law_movers","_law_bounds"] (sp_namingG)):FnOk P w K mg base CX0 4 t.Jz t.JE ["_law_pool","_law_names","_law_movers","_law_limbs","_law_bounds"] (sp_formTG):=by
 refine T.zq.ok Jr (fun vs H Q E h=>?_) (fun af A ad s H vs Q E u h=>?_)
 ·cases h;subst_vars;rfl
 obtain⟨p,nl,ml,pl,bd,x,y,H0,ac,ag,B,o,Ms,Y,Z,b2,b3,b4,rfl,ep,y0,y1,of,N,X,Bd,q⟩:=h;refine⟨_,(jb (jp (i:=5) Jr.nd rfl (.inl rfl) (jr (U.mono (by decide)) u (by rfl) T.jM T.jH.kp T.jL .nil pass0 (ja (pv 0) (ja jd jc))))
  (jb (j2 (PW.pt (Qd (jo ZK (pv 5) jd (nomark _)) (qB (jo (xF u.units) (pv 1) (jE jc) (nomark _)))))
   (jg (jA (jr (zk.mono (by decide)) u (by rfl) T.kG T.ZI.kp T.kC .nil pass0 (ja (pv 0) (ja (pv 5) (ja (pv 1) (ja (pv 2) (ja (pv 4) jc))))))))
   jw)
  (jb (jp (i:=6) Jr.nd rfl (.inl rfl) (jq jU jd (jr (U.mono (by decide)) u (by rfl) T.jM T.jH.kp T.jL .nil pass0 (ja (pv 0) (ja (ji jv (pv 4) (jr (U.mono (by decide)) u (by rfl) T.jM T.jH.kp T.jL .nil pass0 (ja (pv 0) (ja jd jc)))) jc)))))
  (jb (j2 (jo Zn (pv 5) jd (nomark _))
   (jb (jp (i:=7) Jr.nd rfl (.inl rfl) (ji jt (ji jv (pv 3) (jr (U.mono (by decide)) u (by rfl) T.jM T.jH.kp T.jL .nil pass0 (ja (pv 0) (ja (jz jR (by rfl) T.JJ Je (ja (pv 3) jc)) jc)))) jd))
   (jg (jA (jK (ja jB (ja (pv 7) (ja (jr (U.mono (by decide)) u (by rfl) T.jM T.jH.kp T.jL .nil pass0 (ja (pv 0) (ja (ji jv (pv 4) jd) jc))) (ja (pv 6) jc))))))))
   jw)
  (jb (j2 (jo j5 (pv 5) jd (nomark _))
   (jb (jp (i:=8) Jr.nd rfl (.inl rfl) (jq zL (jE (ja jB (ja jB (ja jB jc)))) (QH Yz (pv 1) zf (zg jd))))
   (jg (jA (jK (ja jB (ja (ji jv (pv 8) (jr (U.mono (by decide)) u (by rfl) T.jM T.jH.kp T.jL .nil pass0 (ja (pv 0) (ja (jz jR (by rfl) T.JJ Je (ja (pv 8) jc)) jc)))) (ja (pv 6) jc)))))))
   jw)
  (jg (jA (jK (ja jB (ja (pv 6) jc)))))))))),?_⟩
 refine jG (σ':=[some _,some _,some _,some _,some _,none,none,none,none]) rfl ?_;have sz:(200:Nat)<sizeLine:=by decide
 have ah:=N.n20;obtain⟨eb,C,D,G,I,a0,a4,a5,a6,a7,a8⟩:=Bd;have b:frmT x y o Ms B Y Z b2 b3=_:=frmT.eq_1 ..;generalize frmT x y o Ms B Y Z b2 b3=F at b q;walk_at"g";have r:=Jd (x:=x) (y:=y) (m:=8) (by lia);have e:=Js (x:=x) (m:=8) y0 y1;refine⟨p,x,y,_,rfl,ep,by lia,by lia,y0,y1,fun H1 x1 e1=>?_⟩;generalize tkB x y 8=T at r e e1 b|-;have o1:=of.ex x1;exists iteD (fun c=>?_) (fun c=>?_)
 ·exists⟨vb _,?_⟩;walk_at"f e3 he3 H3 s3 t3";have o3:=o1.ex (.of s3);refine⟨_,_,.lst (o3 _ _ N.en).2 (Qa _),X1 t3,shpB N.w,shp0,?_⟩;rw[eqvB];exists iteN (fun d=>?_) (fun d=>?_)
  ·rw[ve ⟨c,d⟩]at b;rw[b]at q;walk_at"g";exact⟨p,nl,ml,bd,_,_,_,H0,ac,_,o,Ms,Y,Z,b2,b3,b4,rfl,s3 _ _ e1,e.1,e.2,o3,N,length_pos_iff.mpr d,⟨eb,C,D,G,I,a0,a4,a5,a6,a7,a8⟩,fun a H' x' hf ae=>q a H' (x1.trans ((Ex.of s3).trans x')) hf ae⟩
  ·rw[vd (fun z=>z.2 d),vd (by lia),vd (by lia)]at b;walk_at"g";have L:=Jd (x:=T.2.1) (y:=T.2.2) (m:=2) (by lia);have f:=Js (x:=T.2.1) (m:=2) e.1 e.2;refine⟨p,_,_,_,rfl,s3 _ _ e1,by lia,by lia,e.1,e.2,fun H4 x4 e4=>?_⟩;generalize tkB T.2.1 T.2.2 2=T2 at L f e4 b|-;have o4:=o3.ex x4;obtain⟨n,l,J⟩:=at01F (b2:=b2) (b3:=b3) (b4:=b4) ⟨C,D⟩ ⟨G,I⟩ L.1 L.2;generalize(if T2.1=0 then Y else Z)=bx at n l J b;rw[b]at q;refine ixLm (SqL.of (o4 _ _ eb).2) (n) ?_;walk_at"g";have r3:=Jd (x:=T2.2.1) (y:=T2.2.2) (m:=bx) l;refine⟨p,_,_,_,rfl,e4,by lia,by lia,f.1,f.2,fun H5 x5 e5=>?_⟩;exists iteD (fun R=>?_) (fun R=>?_)
   ·exact ug R (by lia)
   exists iteD (fun S=>?_) (fun S=>?_)
   ·exact ug S (by lia)
   exists⟨ue,?_⟩;walk_at"f b6 hb6 H6 s6 t6";exact q b6 H6 (x1.trans ((Ex.of s3).trans (x4.trans (x5.trans (.of s6))))) t6 ⟨by lia,by lia⟩
 rw[vd (fun z=>c z.1)]at b;refine iteF ?_;walk_at"g";have L:=Jd (x:=T.2.1) (y:=T.2.2) (m:=2) (by lia);have f:=Js (x:=T.2.1) (m:=2) e.1 e.2;refine⟨p,_,_,_,rfl,e1,by lia,by lia,e.1,e.2,fun H4 x4 e4=>?_⟩;generalize tkB T.2.1 T.2.2 2=T2 at L f e4 b|-;have o4:=o1.ex x4;obtain⟨n,l,J⟩:=at01F (b2:=b2) (b3:=b3) (b4:=b4) ⟨C,D⟩ ⟨G,I⟩ L.1 L.2;generalize(if T2.1=0 then Y else Z)=bx at n l J b;refine ixLm (SqL.of (o4 _ _ eb).2) (n) ?_;walk_at"g";have r3:=Jd (x:=T2.2.1) (y:=T2.2.2) (m:=bx) l;have g:=Js (x:=T2.2.1) (m:=bx) f.1 f.2;refine⟨p,_,_,_,rfl,e4,by lia,by lia,f.1,f.2,fun H5 x5 e5=>?_⟩;generalize tkB T2.2.1 T2.2.2 bx=T3 at r3 g e5 b|-;have o5:=o4.ex x5;have M:=x1.trans (x4.trans x5);have l1:=X.l1;have ab:=X.la.1;have l8:=N.l8;rw[show(nmsOf B).length=B.length from vt _]at l8;exists iteD (fun R=>?_) (fun R=>?_)
 ·rw[ve R]at b;exists⟨_,_,rfl,.inl ⟨_,SqL.of (o5 _ _ X.el).2,rfl⟩,?_⟩;rw[vt,ab];walk_at"g";have W:=Jd (x:=T3.2.1) (y:=T3.2.2) (m:=(B.length:Int)) (by lia);have O:=Js (x:=T3.2.1) (m:=(B.length:Int)) g.1 g.2;refine⟨p,_,_,_,rfl,e5,by lia,by lia,g.1,g.2,fun H6 x6 e6=>?_⟩;generalize tkB T3.2.1 T3.2.2 (B.length:Int)=T4 at W O e6 b|-;obtain⟨j,ej⟩:∃j:Nat,T4.1=(j:Int):=⟨T4.1.toNat,by lia⟩
  rw[ej,Int.toNat_natCast]at b;rw[ej]at W|-;have jl:j<B.length:=by lia
  have o6:=o5.ex x6;obtain⟨lk,aa,a9⟩:=X.la.get (vz jl);refine ixLm (SqL.of (o6 _ _ X.el).2) (jW (j:=j) (by rw[vv,aa];rfl)) ?_;exists ixTm (SqT.of (o6 _ _ a9).2) rfl ?_;exists ixLm (SqL.of (o6 _ _ eb).2) rfl ?_;walk_at"g";have r5:=Jd (x:=T4.2.1) (y:=T4.2.2) (m:=b2) a0;refine⟨p,_,_,_,rfl,e6,by lia,by lia,O.1,O.2,fun H7 x7 e7=>?_⟩;generalize tkB T4.2.1 T4.2.2 b2=T5 at r5 e7 b|-;exists⟨uc,?_⟩;walk_at"f b6 hb6 H8 s8 t8";rw[vy,vz jl]at b;rw[b]at q;refine q b6 H8 (M.trans (x6.trans (x7.trans (.of s8)))) t8 ⟨⟨j,?_⟩,r5.1,by lia,by lia,by lia⟩;unfold nmsOf;rw[vv,vz jl];rfl
 rw[vd R]at b;exists iteD (fun S=>?_) (fun S=>?_)
 ·rw[ve S]at b;exists⟨ud,?_⟩;walk_at"f b3' hb3' H6 s6 t6";exists⟨nl,_,rfl,SqL.of (s6 _ _ (o5 _ _ N.en).2),?_⟩;walk_at"f b4' hb4' H7 s7 t7";have cl:=zb (o.map V.str) none (some 1);rw[vt]at cl;refine⟨b3',b4',_,_,rfl,rfl,s7 _ _ t6,t7,by show 3+_<=sizeLine;lia,?_⟩;walk_at"f b5' hb5' H8 s8 t8";have ex:[V.str "ding",V.str "dong",V.str "din"]++cutV (o.map V.str) none (some 1)=(([("ding" : Str),"dong","din"]:List Str)++o.take 1).map V.str:=by
   rw[show(some 1:Option Int)=some ((1:Nat):Int)from rfl,j0J,vk,map_take];rfl
  rw[ex]at t8;have xl:(([("ding" : Str),"dong","din"]:List Str)++o.take 1).length=3+(o.take 1).length:=vn ..;have ai:(o.take 1).length<=1:=by rw[vj];lia
  have a2:∀x∈([("ding" : Str),"dong","din"]:List Str)++o.take 1,Ws.isW x=true:=fun v hv=>by
   rcases vi.mp hv with z | z
   ·rcases mem_cons.mp z with rfl | z
    ·decide +kernel
    ·rcases mem_cons.mp z with rfl | z
     ·decide +kernel
     ·rw[vo.mp z];decide +kernel
   ·exact N.w v (v8 z)
  generalize([("ding" : Str),"dong","din"]:List Str)++o.take 1=ws at t8 xl a2 b;have a3:=s6.trans (s7.trans s8);have n5:b5'≠p:=(je (s7 _ _ (s6 _ _ e5)) hb5').symm;exists⟨_,_,rfl,.inl ⟨_,SqL.of t8,rfl⟩,?_⟩;walk_at"g";rw[vt];have W:=Jd (x:=T3.2.1) (y:=T3.2.2) (m:=((ws.length:Nat):Int)) (by lia);refine⟨p,_,_,_,rfl,a3 _ _ e5,by lia,by lia,g.1,g.2,fun H9 x9 e9=>?_⟩;generalize tkB T3.2.1 T3.2.2 ((ws.length:Nat):Int)=T4 at W e9 b|-;obtain⟨a1,ww⟩:=j24 (k:=T4.1) a2 W.1 W.2;generalize wdF ws T4.1=w' at a1 ww b;rw[b]at q;refine ixLm (SqL.of (x9 _ _ n5 t8)) (a1) ?_;exists⟨ud,?_⟩;walk_at"f b8 hb8 H10 s10 t10";exact q b8 H10 (M.trans ((Ex.of a3).trans (x9.trans (.of s10)))) t10 ⟨by lia,by lia,ww⟩
 rw[vd S]at b;rw[b]at q;exists⟨ue,?_⟩;walk_at"f b6 hb6 H6 s6 t6";exact q b6 H6 (M.trans (.of s6)) t6 ⟨by lia,by lia⟩
theorem yv(T:Txt K mg t)(j6:FnOk P w K mg base CX0 1 t.Jx t.JC ["_law_script","_law_k"] (Pr.sp_cell_at K))(jY:FnOk P w K mg base CX0 1 t.JL t.JN ["_law_cell","_law_k"] (YB))(JI:FnOk P w K mg base CX0 1 t.qJ t.qM ["_law_place","_law_k"] (sp_wordB))(JH:FnOk P w K mg base CX0 1 t.qI t.qL ["_law_form_here","_law_known"] (sp_longB))(qe:FnOk P w K mg base CX0 1 t.qg t.qj ["_law_form_here","_law_names","_law_movers"] (sp_movesG))(qG:FnOk P w K mg base CX0 1 t.qH t.qK ["_law_names","_law_known","_law_most"] (sp_lastG))(jD:FnOk P w K mg base CX0 2 t.JY t.JZ ["_law_pool","_law_many"] (sp_takeB))(Qi:FnOk P w K mg base CX0 4 t.Jz t.JE ["_law_pool","_law_names","_law_movers","_law_limbs","_law_bounds"] (sp_formTG)):FnOk P w K mg base CX0 5 t.Jw t.JB ["_law_script","_law_many","_law_bounds"] (yE bkT K):=by
 refine T.zp.ok jy (fun vs H Q E h=>?_) (fun bc A b8 s H vs Q E I h=>?_)
 ·obtain⟨a,bd,ns,many,b0,b1,b2,b3,b4,rfl,hS,ac,m2,b6,Bd,q⟩:=h;rfl
 obtain⟨a,bd,ns,many,b0,b1,b2,b3,b4,rfl,hS,ac,m2,b6,Bd,q⟩:=h;refine⟨_,(jb (jp (i:=3) jy.nd rfl (.inl rfl) (jE (ja (jq Jb (jz YL (by rfl) T.j0C W7 (ja (jr (j6.mono (by decide)) I (by rfl) T.J1 T.Jv.kp T.JW .nil pass0 (ja (pv 0) (ja jd jc))) jc)) jd) (ja jd jc))))
  (jb (jp (i:=4) jy.nd rfl (.inl rfl) (jr (jD.mono (by decide)) I (by rfl) T.jM T.jH.kp T.jL .nil pass0 (ja (pv 3) (ja jd jc))))
  (jb (jp (i:=5) jy.nd rfl (.inl rfl) (jE jc))
  (jb (Jc PassesOwn.never rfl (JG (by rfl) T.qV (ja (jq jU jd (jr (jD.mono (by decide)) I (by rfl) T.jM T.jH.kp T.jL .nil pass0 (ja (pv 3) (ja jd jc)))) jc)) (ju (i:=6) jy.nd rfl (.inl rfl))
   (jg (jZ (JR PySem.F.plainAttrs_list PySem.F.slot_list_append PySem.F.type_list_append jO (pv 5) (ja (jK (ja (jr (JI.mono (by decide)) I (by rfl) T.ze T.Qu.kp T.Q8 .nil pass0 (ja (pv 4) (ja (pv 6) jc))) (ja (jr (jD.mono (by decide)) I (by rfl) T.jM T.jH.kp T.jL .nil pass0 (ja (pv 3) (ja (ji jv (pv 2) jd) jc))) jc))) jc)))))
  (jb (jp (i:=7) jy.nd rfl (.inl rfl) (jr (jD.mono (by decide)) I (by rfl) T.jM T.jH.kp T.jL .nil pass0 (ja (pv 3) (ja (jq jU (jq Qc jd (pv 1)) jd) jc))))
  (jb (jp (i:=8) jy.nd rfl (.inl rfl) (jr (jD.mono (by decide)) I (by rfl) T.jM T.jH.kp T.jL .nil pass0 (ja (pv 3) (ja jd jc))))
  (jb (jp (i:=9) jy.nd rfl (.inl rfl) (jE jc))
  (jb (jp (i:=10) jy.nd rfl (.inl rfl) (jE jc))
  (jb (jp (i:=11) jy.nd rfl (.inl rfl) yx)
  (jb (jp (i:=12) jy.nd rfl (.inl rfl) (jE jc))
  (jb (Jc PassesOwn.never rfl (JG (by rfl) T.qV (ja (jq jU (pv 1) jd) jc)) (ju (i:=6) jy.nd rfl (.inl rfl))
   (jb (jp (i:=13) jy.nd rfl (.inl rfl) (jz YL (by rfl) T.j0C W7 (ja (jr (j6.mono (by decide)) I (by rfl) T.J1 T.Jv.kp T.JW .nil pass0 (ja (pv 0) (ja (jq jU jd (pv 6)) jc))) jc)))
   (jb (jp (i:=14) jy.nd rfl (.inl rfl) (jE (ja (pv 13) (ja (jr (jY.mono (by decide)) I (by rfl) T.qq T.JK.kp T.qd .nil pass0 (ja (pv 13) (ja (jq jU jd (pv 6)) jc))) jc))))
   (jb (JU (jo Zn (pv 13) (jq Zo jd jd) (nomark _))
    (jg (Zp jd (Y9 (pv 14) jd set_list)))
    jw)
   (jb (jp (i:=15) jy.nd rfl (.inl rfl) (jr (Qi.mono (by decide)) I (by rfl) T.yV T.zq.kp T.yH .nil pass0 (ja (pv 14) (ja (pv 9) (ja (pv 10) (ja (pv 5) (ja (pv 2) jc)))))))
   (jb (JU (PW.pt (Qd (jo j5 (pv 6) (pv 1) (nomark _)) (qB (jo j5 (pv 8) jd (nomark _)))))
    (jg (jp (i:=15) jy.nd rfl (.inl rfl) (jK (ja jB (ja (jr (qG.mono (by decide)) I (by rfl) T.Yi T.Zf.kp T.y8 .nil pass0 (ja (pv 9) (ja (pv 11) (ja (ji jv (pv 2) jd) jc)))) jc)))))
    jw)
   (jb (JU (jo ZK (jr (JH.mono (by decide)) I (by rfl) T.zd T.Qt.kp T.Q7 .nil pass0 (ja (pv 15) (ja (pv 11) jc))) (ji jv (pv 2) jd) (nomark _))
    (jg (jp (i:=15) jy.nd rfl (.inl rfl) (jK (ja jB (ja jd jc)))))
    jw)
   (jb (jZ (JR PySem.F.plainAttrs_list PySem.F.slot_list_append PySem.F.type_list_append jO (pv 10) (ja (jr (qe.mono (by decide)) I (by rfl) T.yq T.zC.kp T.Z3 .nil pass0 (ja (pv 15) (ja (pv 9) (ja (pv 10) jc)))) jc)))
   (jb (jp (i:=16) jy.nd rfl (.inl rfl) (jr (JI.mono (by decide)) I (by rfl) T.ze T.Qu.kp T.Q8 .nil pass0 (ja (pv 4) (ja (jq jU jd (pv 6)) jc))))
   (jb (JU (jo j5 (pv 6) (pv 7) (nomark _))
    (jg (jp (i:=16) jy.nd rfl (.inl rfl) (ji jt (ji jv (pv 5) (jq j9 (pv 6) (jz jR (by rfl) T.JJ Je (ja (pv 5) jc)))) jd)))
    jw)
   (jb (jZ (JR PySem.F.plainAttrs_list PySem.F.slot_list_append PySem.F.type_list_append jO (pv 9) (ja (pv 16) jc)))
   (jb (jZ (JR PySem.F.plainAttrs_list PySem.F.slot_list_append PySem.F.type_list_append jO (pv 12) (ja (jK (ja (pv 16) (ja (pv 15) jc))) jc)))
   (jg (ZD (qO I) (pv 11) (pv 16) (jr (JH.mono (by decide)) I (by rfl) T.zd T.Qt.kp T.Q7 .nil pass0 (ja (pv 15) (ja (pv 11) jc))) rfl))))))))))))))
  (jg (jA (jK (ja (jK (ja (pv 5) (ja (pv 12) jc))) (ja (JV (qO I) (pv 11) (ji jv (pv 9) (pv 1))) jc)))))))))))))))),?_⟩
 refine jG (σ':=[some _,some _,some _,none,none,none,none,none,none,none,none,none,none,none,none,none,none]) rfl ?_;have sz:(200:Nat)<sizeLine:=by decide
 obtain⟨eb,aH,aI,aJ,aK,am,aL,aM,aN,an,ao⟩:=Bd;have ap:bkT ns many b0 b1 b2 b3 b4=_:=bkT.eq_1 ..;rw[ap]at q;clear ap;unfold t4T t3T lT t2T t1T abI at q;exists⟨a,ns,_,rfl,hS,ac,by lia,?_⟩;refine⟨_,rfl,?_⟩;exists⟨ue,?_⟩;walk_at"f po hpo H1 s1 t1";generalize(if Pr.cell ns 0<0 then -Pr.cell ns 0 else Pr.cell ns 0)/2=x0 at t1 q;walk_at"g";have r1:=Jd (x:=x0) (y:=7) (m:=3) (by lia);have y1:=Js (x:=x0) (y:=7) (m:=3) (by decide) (by decide);refine⟨po,_,_,_,rfl,t1,by lia,by lia,by lia,by lia,fun H2 x2 e2=>?_⟩;generalize tkB x0 7 3=T1 at r1 y1 e2 q|-;obtain⟨p,e3⟩:∃p:Nat,T1.1=(p:Int):=⟨T1.1.toNat,by lia⟩
 have hp:p<3:=by lia
 have av:T1.1.toNat=p:=by lia
 rw[av]at q;clear av;have s2:Same H H2:=fun c u h=>x2 _ _ (je h hpo) (s1 _ _ h)
 rw[e3];clear s1 x2;exists⟨vb _,?_⟩;walk_at"f pl hpl H3 s3 t3";have a1:pl≠po:=(je e2 hpl).symm;walk_at"g";have r2:=Jd (x:=T1.2.1) (y:=T1.2.2) (m:=4) (by lia);have y2:=Js (x:=T1.2.1) (m:=4) y1.1 y1.2;refine⟨po,_,_,_,rfl,s3 _ _ e2,by lia,by lia,y1.1,y1.2,fun H4 x4 e4=>?_⟩;generalize tkB T1.2.1 T1.2.2 4=T2 at r2 y2 e4 q|-;have s4:Same H H4:=fun c u h=>x4 _ _ (je h hpo) (s3 _ _ (s2 _ _ h))
 have t4:=x4 _ _ a1 t3;have ay:H pl=none:=none_of s2 hpl;clear s2 s3 x4 t3 hpl;exists⟨_,rfl,by lia,by lia,?_⟩;refine qm (fun i σ H'=>IvE5 fun(o6:Option V) (v:List Addr) (ls:List (Str×Int)) (x y:Int)=>IvA10 (σ=[some (.ref a),some (.int (many:Nat)),some (.ref bd),some (.ref po),some (.int (p:Nat)),some (.ref pl),o6,none,none,none,none,none,none,none,none,none,none]) (Same H H') (H' pl=some (.lst (v.map V.ref))) (All2 (LimbAt H') v ls) (nmsOf ls=lmB p i) (ls.length=i) (∀q∈ls,0<=q.2/\q.2<=10^18) (H' po=some (.lst [.int x,.int y])) (lsT p b2 i T2.2.1 T2.2.2=(ls,x,y)) (0<=y/\y<10^30+57)) ⟨_,[],[],_,_,rfl,s4,t4,.nil,rfl,rfl,(fun q h=>nomatch h),e4,rfl,y2⟩ ?_ ?_
 ·rintro i σ H' hi ⟨o6,v,ls,x,y,rfl,B,el,la,nm,ll,lh,ep,eL,y0,a3⟩;have i4:i<4:=by lia
  have aA:=la.1;exists⟨.inl ⟨rfl,_,SqL.of el⟩,?_⟩;exists⟨p,i,by rw[v9];rfl,hp,by lia,?_⟩;exists ixLm (SqL.of (B _ _ eb)) rfl ?_;walk_at"g";have r3:=Jd (x:=x) (y:=y) (m:=b2) am;have y3:=Js (x:=x) (m:=b2) y0 a3;refine⟨po,_,_,_,rfl,ep,by lia,by lia,y0,a3,fun H2 x2 e2=>?_⟩;have a6:=j19 (p:=p) (b2:=b2) (k:=i) (x:=T2.2.1) (y:=T2.2.2);rw[eL]at a6;dsimp only at a6;generalize tkB x y b2=T3 at r3 y3 e2 a6|-;have kp:∀c xs,H' c=some (.tup xs)->H2 c=some (.tup xs):=fun c xs h=>x2 _ _ (Jl h ep fun z=>by cases z) h
  have as:=x2 _ _ a1 el;exists⟨ue,?_⟩;walk_at"f 3 t";exists⟨pl,_,_,rfl,rfl,s3 _ _ as,by rw[vt];lia,?_⟩;have kt:∀c xs,H3 c=some (.tup xs)->upd H3 pl (.lst (v.map V.ref++[.ref p3])) c=some (.tup xs):=fun c xs h=>(jh (Jl h (s3 _ _ as) fun z=>by cases z)).trans h
  refine⟨_,v++[p3],ls++[(wdB p i,T3.1)],_,_,rfl,fun c u h=>?_,by rw[jC,vk];rfl,(la.mono fun c x h=>kt _ _ (s3 _ _ (kp _ _ h))).snoc (kt _ _ t3),?_,by rw[vn,ll];rfl,fun q hq=>?_,(jh a1.symm).trans (s3 _ _ e2),a6,y3⟩
  ·exact(jh (je h ay)).trans (s3 _ _ (x2 _ _ (je h hpo) (B _ _ h)))
  ·rw[Wp,<-nm];unfold nmsOf;rw[vk];rfl
  ·rcases vi.mp hq with z | z
   ·exact lh q z
   ·rw[vo.mp z];exact⟨r3.1,by show T3.1<=10^18;lia⟩
 rintro σ' H5 ⟨o6,v,ls,x,y,rfl,aD,au,af,nm,ll,lh,a4,eL,y0,a3⟩;clear s4 t4 e4 e2 H2 H3 H4;rw[eL]at q;dsimp only at q;clear eL;have m1:1<=ls.length:=by lia
 have m4:ls.length<=4:=by lia
 replace nm:nmsOf ls=lmB p ls.length:=by rw[nm,ll]
 obtain⟨ag,lW⟩:=j17 (m:=ls.length) hp (by lia);rw[<-nm]at ag lW;clear ll;have Ll:(nmsOf ls).length=ls.length:=vt _;have aA:=af.1;walk_at"g";have r3:=Jd (x:=x) (y:=y) (m:=2*(many:Int)+2) (by lia);have y3:=Js (x:=x) (m:=2*(many:Int)+2) y0 a3;refine⟨po,_,_,_,rfl,a4,by lia,by lia,y0,a3,fun H6 x6 e6=>?_⟩;generalize tkB x y (2*(many:Int)+2)=T3 at r3 y3 e6 q|-;have r4:=Jd (x:=T3.2.1) (y:=T3.2.2) (m:=2) (by lia);exists⟨po,_,_,_,rfl,e6,by lia,by lia,y3.1,y3.2,fun H2 x7 e7=>?_⟩;generalize tkB T3.2.1 T3.2.2 2=T4 at r4 e7 q|-;have B:Same H H2:=fun c u h=>x7 _ _ (je h hpo) (x6 _ _ (je h hpo) (aD _ _ h))
 have el:=x7 _ _ a1 (x6 _ _ a1 au);have la:All2 (LimbAt H2) v ls:=af.mono fun c x h=>x7 _ _ (Jl h a4 fun z=>by cases z) (x6 _ _ (Jl h a4 fun z=>by cases z) h)
 clear aD au af x6 x7 e6 e7 a4 H5 H6;obtain⟨W,aS⟩:∃W:Nat,T3.1=(W:Int):=⟨T3.1.toNat,by lia⟩
 have ec:T3.1.toNat=W:=by lia
 rw[ec]at q;rw[aS];generalize T4.1=en4 at q|-;obtain⟨nd,nW⟩:=j1g (p:=p) (st:=5) (c:=W) (m:=ls.length) hp m1 (by lia) (by lia);have ng:∀{k:Nat},k<17->(nmB p 5 W ls.length).getD k ⟨#[]⟩=wdB p (ixB 5 W ls.length k):=fun h=>Xx h
 have nL:=Xy (p:=p) (st:=5) (c:=W) (m:=ls.length);generalize nmB p 5 W ls.length=names at nd nW ng nL q;exists⟨vb _,?_⟩;walk_at"f nl hnl H3 s3 t3";exists⟨vb _,?_⟩;walk_at"f ml hml H4 s4 t4";walk_at"g";walk_at"f d hd' H5 s5 t5";exists⟨vb _,?_⟩;walk_at"f pp hpp H6 s6 t6";have ak:=s4.trans (s5.trans s6);have aa:=s3.trans ak;have BB:BkB pl nl ml d pp v [] [] ls names [] [] [] b4 H6:=by
  refine⟨⟨ak _ _ t3,s6 _ _ (s5 _ _ t4),.nil,(fun ks hk=>nomatch hk),rfl,vb _,by lia,(fun x hx=>nomatch hx),lW⟩,⟨aa _ _ el,la.mono fun c x h=>aa _ _ h,m1⟩,s6 _ _ t5,t6,.nil,⟨rfl,rfl,(fun i f h=>by simp at h),fun i h=>ug h (Nat.not_lt_zero i)⟩,fun j M=>ug M (Nat.not_lt_zero j),vb _⟩
 have SS:SpB pl nl ml pp bd []:=⟨je el hnl,je (s3 _ _ el) hml,je (s5 _ _ (s4 _ _ (s3 _ _ el))) hpp,je t3 hml,je (s5 _ _ (s4 _ _ t3)) hpp,je (s5 _ _ t4) hpp,je (B _ _ eb) hnl,je (s3 _ _ (B _ _ eb)) hml,je (s5 _ _ (s4 _ _ (s3 _ _ (B _ _ eb)))) hpp,(fun x hx=>nomatch hx)⟩
 have aW:H nl=none:=none_of B hnl;have aV:H ml=none:=none_of (B.trans s3) hml;have aU:H d=none:=none_of (B.trans (s3.trans s4)) hd';have aX:H pp=none:=none_of (B.trans (s3.trans (s4.trans s5))) hpp;have b9:=B.trans aa;clear aa ak t3 t4 t5 t6 el la B s3 s4 s5 s6 hnl hml hd' hpp;exists⟨_,rfl,by lia,by lia,?_⟩;refine qm (fun i σ H'=>IvE10 fun(o5 ai aj a9 Y:Option V) (U D:List Addr) (o:List Fn) (F:List (List Str)) (G:List Int)=>IvA5 (σ=[some (.ref a),some (.int (many:Nat)),some (.ref bd),some (.ref po),some (.int (p:Nat)),some (.ref pl),o5,some (.int (W:Nat)),some (.int en4),some (.ref nl),some (.ref ml),some (.ref d),some (.ref pp),ai,aj,a9,Y]) (Same H H') (BkB pl nl ml d pp v U D ls names o F G b4 H') (SpB pl nl ml pp bd D) (o.length=i/\stT ns many en4 ls names b0 b1 b2 b3 b4 i=(o,F,G)))
  ⟨_,_,_,_,_,[],[],[],[],[],rfl,b9,BB,SS,rfl,rfl⟩ ?_ ?_
 ·rintro i σ H7 hi ⟨o5,ai,aj,a9,Y,U,D,o,F,G,rfl,B,C,S,fl,eS⟩;have aZ:i<17:=by lia
  have st:=WT (ns:=ns) (many:=many) (en:=en4) (ls:=ls) (names:=names) (b0:=b0) (b1:=b1) (b2:=b2) (b3:=b3) (b4:=b4) i;rw[eS]at st;dsimp only at st;rw[show celT ns i=(if Pr.cell ns (1+(0+(i:Int)))<0 then -Pr.cell ns (1+(0+(i:Int)))else Pr.cell ns (1+(0+(i:Int))))from rfl]at st;have tl:(names.take o.length).length=o.length:=by rw[vj];lia
  have bf:U.length=o.length:=C.pa.1.trans JF;have gl:=C.dk.gl;have Ml:F.length=o.length:=by have:=C.n.ml;lia
  have be:D.length=o.length:=by have:=C.n.am.1;lia
  have Z:(names.take o.length).Nodup:=nd.sublist (take_sublist _ _);have X:∀j,j<o.length->1<=G.getD j 0/\G.getD j 0<=b4:=fun j M=>⟨(C.dk.g j M).1,C.gb j M⟩
  exists⟨a,ns,_,rfl,B.seq hS,ac,by lia,?_⟩;refine⟨_,rfl,?_⟩;walk_at"g";generalize(if Pr.cell ns (1+(0+(i:Int)))<0 then -Pr.cell ns (1+(0+(i:Int)))else Pr.cell ns (1+(0+(i:Int))))=num at st|-;refine⟨_,_,rfl,by lia,by lia,?_⟩;have nb:=yu num (1+(0+(i:Int)));generalize mixB num (1+(0+(i:Int)))=yo at nb st|-;exists⟨ue,?_⟩;walk_at"f ow how Ha sa ta";exists⟨fun σ' H'=>σ'=[some (.ref a),some (.int (many:Nat)),some (.ref bd),some (.ref po),some (.int (p:Nat)),some (.ref pl),some (.int (0+(i:Int))),some (.int (W:Nat)),some (.int en4),some (.ref nl),some (.ref ml),some (.ref d),some (.ref pp),some (.int num),some (.ref ow),a9,Y]/\Same H7 H'/\H' ow=some (.lst [.int (if num<10^18 then 0 else num),.int yo]),?_,?_⟩
  rotate_left
  ·exists iteD (fun c=>?_) (fun c=>?_)
   ·exists⟨ow,_,_,0,rfl,rfl,ta,rfl,?_⟩;exact⟨rfl,fun c u h=>(jh (je h how)).trans (sa _ _ h),by rw[jC,ve c];rfl⟩
   ·walk_at"g";exact⟨rfl,sa,by rw[vd c];exact ta⟩
  rintro σ' Hb ⟨rfl,sb,tb⟩;generalize(if num<10^18 then 0 else num)=xo at tb st;have ob:Off ow H7 Hb:=fun c u h=>⟨je h how,sb _ _ h⟩
  exists⟨ow,nl,ml,pl,bd,xo,yo,H7,D,v,ls,names.take o.length,F,b0,b1,b2,b3,b4,rfl,tb,nb.1,nb.2,ob,C.n,C.l,⟨B _ _ eb,aH,aI,aJ,aK,am,aL,aM,aN,an,ao⟩,fun aw H8 x8 a5 J=>?_⟩;have s8:Same H7 H8:=(ob.ex x8).same;rw[tl]at J;rw[<-fl]at st;generalize frmT xo yo (names.take o.length) F ls b0 b1 b2 b3=f0 at a5 J st;rw[fl]at st;have C8:=C.same s8;exists⟨fun σ' H'=>IvE2 fun(fa:Addr) (f:Fn)=>IvA4 (σ'=[some (.ref a),some (.int (many:Nat)),some (.ref bd),some (.ref po),some (.int (p:Nat)),some (.ref pl),some (.int (0+(i:Int))),some (.int (W:Nat)),some (.int en4),some (.ref nl),some (.ref ml),some (.ref d),some (.ref pp),some (.int num),some (.ref ow),some (.ref fa),Y]) (Same H8 H') (FormAt H' fa (toldF (names.take o.length) f)) (PreN (nmsOf ls) (F.map (plB (nmsOf ls))) o.length f/\lstF (decide (i=many/\en4=1)) b4 G i f0=f),?_,?_⟩
  rotate_left
  ·exists iteD (fun c=>?_) (fun c=>?_)
   ·exists iteD (fun c2=>?_) (fun c2=>?_)
    ·exists ixLm (SqL.of (s8 _ _ (B _ _ eb))) rfl ?_;exists⟨nl,d,names.take o.length,G,b4,rfl,C8.n.en,C8.ed,Z,by lia,by lia,by lia,fun j M=>X j (by lia),fun b H9 s9 e9 ne l5 jl=>?_⟩;rw[tl]at e9 ne l5 jl;exists⟨ue,?_⟩;walk_at"f fa hfa H10 s10 t10";walk_at"g";exact⟨fa,.row (lastF G b4 o.length),rfl,s9.trans s10,⟨b,t10,s10 _ _ e9⟩,⟨ne,by lia,jl⟩,by unfold lstF;rw[ve (vF ⟨by lia,c2⟩),fl]⟩
    ·walk_at"g";exact⟨aw,f0,rfl,Same.refl _,a5,J,by unfold lstF;rw[vd (by simp only[decide_eq_true_eq];exact fun z=>c2 z.2)]⟩
   ·walk_at"g";exact⟨aw,f0,rfl,Same.refl _,a5,J,by unfold lstF;rw[vd (by simp only[decide_eq_true_eq];exact fun z=>c (by lia))]⟩
  rintro σ' H9 ⟨ax,f1,rfl,s9,ad,L,aq⟩;rw[aq]at st;clear aq;have C9:=C8.same s9;have al:=B.trans (s8.trans s9);clear C8 C a5 J s8 s9 B;exists⟨fun σ' H'=>IvE3 fun(fa:Addr) (f:Fn) (g:Int)=>IvA6 (σ'=[some (.ref a),some (.int (many:Nat)),some (.ref bd),some (.ref po),some (.int (p:Nat)),some (.ref pl),some (.int (0+(i:Int))),some (.int (W:Nat)),some (.int en4),some (.ref nl),some (.ref ml),some (.ref d),some (.ref pp),some (.int num),some (.ref ow),some (.ref fa),Y]) (Same H9 H') (FormAt H' fa (toldF (names.take o.length) f)) (PreN (nmsOf ls) (F.map (plB (nmsOf ls))) o.length f) (LenN G f g) (g<=b4/\cutF b4 G f1=f),?_,?_⟩
  rotate_left
  ·exists⟨ax,d,f1,names.take o.length,G,nmsOf ls,F.map (plB (nmsOf ls)),rfl,ad,C9.ed,Z,by lia,by rw[tl];exact L,fun j M=>by have:=X j (by lia);lia,fun g H10 s10 lg=>?_⟩;exists ixLm (SqL.of (s10 _ _ (al _ _ eb))) rfl ?_;exists iteD (fun c=>?_) (fun c=>?_)
   ·exists⟨ue,?_⟩;walk_at"f fa hfa H11 s11 t11";walk_at"g";exact⟨fa,.hold 1,1,rfl,s10.trans s11,t11,⟨by decide,by decide⟩,rfl,an,by unfold cutF;rw[ve (by rw[<-lg.fn L fun j M=>(X j M).1];lia)]⟩
   ·walk_at"g";exact⟨ax,f1,g,rfl,s10,FormAt.same s10 ad,L,lg,by lia,by unfold cutF;rw[vd (by rw[<-lg.fn L fun j M=>(X j M).1];lia)]⟩
  rintro σ' H10 ⟨fa,f,g,rfl,s10,hf,a2,lg,gb,ef⟩;rw[ef]at st;have eg:=lg.fn a2 fun j M=>(X j M).1
  have n:=C9.same s10;have aC:=al.trans s10;clear C9 ad L s10 al;exists⟨.inl ⟨rfl,_,SqL.of n.n.em⟩,?_⟩;exists⟨fa,nl,ml,D,f,names.take o.length,F,nmsOf ls,F.map (plB (nmsOf ls)),rfl,hf,n.n.en,n.n.em,n.n.am,Z,by lia,by lia,by rw[tl];exact a2,fun ks hk=>by have:=n.n.il.len hk;lia,fun l H11 s11 hl el mv kl=>?_⟩;have aE:stT ns many en4 ls names b0 b1 b2 b3 b4 (i+1)=(o++[f],F++[movF F f],G++[g]):=by rw[st,eg];rfl
  generalize movF F f=ks at el mv kl aE;exists⟨ml,_,_,rfl,rfl,s11 _ _ n.n.em,by rw[vt];lia,?_⟩;generalize N:upd H11 ml _=H12;have aO:H12 ml=some (.lst ((D++[l]).map V.ref)):=by rw[vk];exact Qg N
  have az:∀c u,c≠ml->H11 c=some u->H12 c=some u:=fun c u hc h=>N▸(jh hc).trans h
  clear N;have k2:∀c u,c≠ml->H10 c=some u->H12 c=some u:=fun c u hc h=>az c u hc (s11 _ _ h)
  have R:∀{c u},H10 c=some u->l≠c:=fun h=>(je h hl).symm
  have ar:=az _ _ (R n.n.em) el;have a7:d≠ml:=Jl n.ed n.n.em (fun z=>by cases z);have a8:d≠nl:=Jl n.ed n.n.en (fun z=>by cases z);have ah:d≠pp:=Jl n.ed n.ep (fun z=>by cases z);exists⟨p,5+i,by rw[show(5+(0+(i:Int)))=((5+i:Nat):Int) by lia];rfl,hp,by lia,?_⟩;exists⟨fun σ' H'=>σ'=[some (.ref a),some (.int (many:Nat)),some (.ref bd),some (.ref po),some (.int (p:Nat)),some (.ref pl),some (.int (0+(i:Int))),some (.int (W:Nat)),some (.int en4),some (.ref nl),some (.ref ml),some (.ref d),some (.ref pp),some (.int num),some (.ref ow),some (.ref fa),some (.str (names.getD o.length ⟨#[]⟩))]/\H12=H',?_,?_⟩
  rotate_left
  ·have nk:=ng aZ;rw[<-fl]at nk;exists iteD (fun c=>?_) (fun c=>?_)
   ·have ic:i=W:=by lia
    exists⟨_,_,rfl,.inl ⟨_,SqL.of (k2 _ _ S.lm n.l.el),rfl⟩,?_⟩;rw[vt,aA];walk_at"g";rw[show(0+(i:Int))%(ls.length:Int)=((i%ls.length:Nat):Int) by rw[v9];exact(Int.natCast_emod _ _).symm];have jm:=Nat.mod_lt i (show 0<ls.length by lia);obtain⟨lk,aY,aT⟩:=n.l.la.get (vz jm);have ab:H10 lk=some (.tup [.str (ls[i%ls.length]).1,.int (ls[i%ls.length]).2]):=aT;refine ixLm (SqL.of (k2 _ _ S.lm n.l.el)) (jW (j:=i%ls.length) (by rw[vv,aY];rfl)) ?_;exists ixTm (SqT.of (k2 _ _ (Jl ab n.n.em fun z=>by cases z) ab)) rfl ?_;exists⟨?_,rfl⟩;have ew:(ls[i%ls.length]).1=wdB p (i%ls.length):=by
     have h1:(nmsOf ls)[i%ls.length]?=some (ls[i%ls.length]).1:=by unfold nmsOf;rw[vv,vz jm];rfl
     rw[nm,j16 jm]at h1;exact(vK h1).symm
    rw[nk,fl];unfold ixB;rw[ve ic,ew]
   ·exists⟨?_,rfl⟩;rw[nk,fl];unfold ixB;rw[vd (by lia)]
  rintro σ' ba ⟨rfl,rfl⟩;exists⟨.inl ⟨rfl,_,SqL.of (k2 _ _ S.nm n.n.en)⟩,?_⟩;exists⟨nl,_,_,rfl,rfl,k2 _ _ S.nm n.n.en,by rw[vt];lia,?_⟩;generalize N:upd H12 nl _=H13;have aP:H13 nl=some (.lst ((names.take (o.length+1)).map V.str)):=by
   rw[take_snoc (show names[o.length]?=some (names.getD o.length ⟨#[]⟩) by rw[vy,vz (by lia)];rfl),vk];exact Qg N
  have ae:∀c u,c≠nl->H12 c=some u->H13 c=some u:=fun c u hc h=>N▸(jh hc).trans h
  clear N;have bb:atI ((names.take (o.length+1)).map V.str) (0+(i:Int))=some (.str (names.getD o.length ⟨#[]⟩)):=by
   rw[<-fl,v9];refine jW ?_;rw[vv,uu (by lia),vy,vz (by lia)];rfl
  have k3:∀c u,c≠ml->c≠nl->H10 c=some u->H13 c=some u:=fun c u h1 h2 h=>ae c u h2 (k2 c u h1 h)
  exists⟨.inl ⟨rfl,_,SqL.of (k3 _ _ S.mp.symm S.np.symm n.ep)⟩,?_⟩;exists⟨ue,?_⟩;walk_at"f c hc H14 s14 t14";exists⟨pp,_,_,rfl,rfl,s14 _ _ (k3 _ _ S.mp.symm S.np.symm n.ep),by rw[vt];lia,?_⟩;generalize N:upd H14 pp _=H15;have aQ:H15 pp=some (.lst ((U++[c]).map V.ref)):=by rw[vk];exact Qg N
  have a0:∀c u,c≠pp->H14 c=some u->H15 c=some u:=fun c u hc h=>N▸(jh hc).trans h
  clear N;have k4:∀c u,c≠ml->c≠nl->c≠pp->H10 c=some u->H15 c=some u:=fun c u h1 h2 h3 h=>a0 c u h3 (s14 _ _ (k3 c u h1 h2 h))
  have kt:∀c xs,H10 c=some (.tup xs)->H15 c=some (.tup xs):=fun c xs h=>k4 c _ (Jl h n.n.em fun z=>by cases z) (Jl h n.n.en fun z=>by cases z) (Jl h n.ep fun z=>by cases z) h
  have b7:c≠pp:=(je (k3 _ _ S.mp.symm S.np.symm n.ep) hc).symm;exists⟨fa,d,f,names.take o.length,G,nmsOf ls,F.map (plB (nmsOf ls)),rfl,FormAt.keep kt hf,k4 _ _ a7 a8 ah n.ed,Z,by lia,by rw[tl];exact a2,fun j M=>by have:=X j (by lia);lia,fun g' aG aB b5=>?_⟩;obtain rfl:=lg.uniq b5;exists⟨d,_,rfl,DPut.k (k:=Sum.inr (names.getD o.length ⟨#[]⟩)) (aB _ _ (k4 _ _ a7 a8 ah n.ed)) (by rw[Xq (by lia)];lia),?_⟩;have xn:names.getD o.length ⟨#[]⟩∉names.take o.length:=fun z=>by
   obtain⟨j,M,e⟩:=mem_iff_getElem.mp z;rw[getElem_take]at e;have jl:j<o.length:=by rw[tl]at M;exact M
   have e2:names[j]?=some (names.getD o.length ⟨#[]⟩):=by rw[vz (by lia),e]
   have e3:names[o.length]?=some (names.getD o.length ⟨#[]⟩):=by rw[vy,vz (by lia)];rfl
   have:=Ja nd e2;have:=Ja nd e3;lia
  rw[Xr (by lia) xn];generalize N:upd aG d _=H17;have aR:H17 d=some (.dK (knK (names.take (o.length+1)) (G++[g]))):=by
   rw[take_snoc (show names[o.length]?=some (names.getD o.length ⟨#[]⟩) by rw[vy,vz (by lia)];rfl)];exact Qg N
  have O:∀c u,c≠d->H15 c=some u->H17 c=some u:=fun c u hc h=>N▸(jh hc).trans (aB _ _ h)
  clear N;have aF:=n.add (fa:=fa) (l:=l) (c:=c) (f:=f) (ks:=ks) (g:=g) (H':=H17) S (by rw[<-kx a2];exact hf) a2 mv lg gb ao (by lia) (by lia) nW (fun x u h1 h2 h3 h4 h=>O _ _ h4 (k4 _ _ h1 h2 h3 h)) (O _ _ a7.symm (a0 _ _ S.mp (s14 _ _ (ae _ _ S.nm.symm aO)))) (O _ _ (R n.ed) (a0 _ _ (R n.ep) (s14 _ _ (ae _ _ (R n.n.en) ar)))) (O _ _ a8.symm (a0 _ _ S.np (s14 _ _ aP))) (O _ _ ah.symm aQ) (O _ _ (Jl t14 (s14 _ _ (k3 _ _ a7 a8 n.ed)) fun z=>by cases z) (a0 _ _ b7 t14)) aR;exact⟨_,_,_,_,_,U++[c],D++[l],o++[f],F++[ks],G++[g],rfl,fun x u h=>O _ _ (je h aU) (k4 _ _ (je h aV) (je h aW) (je h aX) (aC _ _ h)),aF,S.add ⟨R n.n.en,R n.n.em,R n.ep⟩,by rw[vn,fl];rfl,aE⟩
 rintro σ' H7 ⟨o5,ai,aj,a9,Y,U,D,o,F,G,rfl,B,C,S,fl,eS⟩
 replace fl:o.length=many+1:=by lia
 have eF:(stT ns many en4 ls names b0 b1 b2 b3 b4 (many+1)).1=o:=by
  rw[show many+1=((many:Int)+1).toNat by lia,eS]
 rw[eF]at q;have gl:=C.dk.gl;have tl:(names.take o.length).length=o.length:=by rw[vj];lia
 have Z:(names.take o.length).Nodup:=nd.sublist (take_sublist _ _);exists⟨ue,?_⟩;walk_at"f b hbb H8 s8 t8";have C8:=C.same s8;exists ixLm (SqL.of C8.n.en) (za (j:=many) (by lia)) ?_;have g:=DGet.k (k:=Sum.inr ((names.take o.length).getD many ⟨#[]⟩)) C8.ed;rw[yn Z (by lia) (by lia)]at g;refine⟨d,_,rfl,g,?_⟩;exists⟨ue,?_⟩;walk_at"f r hr' H9 s9 t9";exact q r b pl pp v U names ls o _ G H9 (B.trans (s8.trans s9)) (by rw[show o.length-1=many by lia];exact t9) ((C8.book t8).same s9) C.dk (C.dk.sn C.fl nd ag (by lia) (by lia) (by lia) lh) fl nL nd nW m1 (by lia) ag lW S.lp C.gb rfl
theorem K5(T:Txt K mg t)(j6:FnOk P w K mg base CX0 1 t.Jx t.JC ["_law_script","_law_k"] (Pr.sp_cell_at K))(jY:FnOk P w K mg base CX0 1 t.JL t.JN ["_law_cell","_law_k"] (YB))(JI:FnOk P w K mg base CX0 1 t.qJ t.qM ["_law_place","_law_k"] (sp_wordB))(Zg:FnOk P w K mg base CX0 2 t.Qw t.QC ["_law_number","_law_names","_law_movers","_law_limbs","_law_bounds"] (sp_formG))(JH:FnOk P w K mg base CX0 1 t.qI t.qL ["_law_form_here","_law_known"] (sp_longB))(qe:FnOk P w K mg base CX0 1 t.qg t.qj ["_law_form_here","_law_names","_law_movers"] (sp_movesG))(qG:FnOk P w K mg base CX0 1 t.qH t.qK ["_law_names","_law_known","_law_most"] (sp_lastG))(Qh:FnOk P w K mg base CX0 5 t.Jw t.JB ["_law_script","_law_many","_law_bounds"] (yE bkT K)):FnOk P w K mg base CX0 6 t.Qv t.QB ["_law_script","_law_many","_law_bounds"] (yE bkF K):=by
 refine T.Zd.ok jN (fun vs H Q E h=>?_) (fun b7 A aZ s H vs Q E I h=>?_)
 ·obtain⟨a,bd,ns,many,b0,b1,b2,b3,b4,rfl,hS,a0,m2,af,Bd,q⟩:=h;rfl
 obtain⟨a,bd,ns,many,b0,b1,b2,b3,b4,rfl,hS,a0,m2,af,Bd,q⟩:=h;refine⟨_,(jb (j2 (jo j33 (jz YL (by rfl) T.j0C W7 (ja (jr (j6.mono (by decide)) I (by rfl) T.J1 T.Jv.kp T.JW .nil pass0 (ja (pv 0) (ja jd jc))) jc)) (jq Zo jd jd) (nomark _))
   (jg (jA (jr (Qh.mono (by decide)) I (by rfl) T.yU T.zp.kp T.yG .nil pass0 (ja (pv 0) (ja (pv 1) (ja (pv 2) jc))))))
   jw)
  (jb (jp (i:=3) jN.nd rfl (.inl rfl) (jr (jY.mono (by decide)) I (by rfl) T.qq T.JK.kp T.qd .nil pass0 (ja (jr (jY.mono (by decide)) I (by rfl) T.qq T.JK.kp T.qd .nil pass0 (ja (jr (j6.mono (by decide)) I (by rfl) T.J1 T.Jv.kp T.JW .nil pass0 (ja (pv 0) (ja jd jc))) (ja jd jc))) (ja jd jc))))
  (jb (jp (i:=4) jN.nd rfl (.inl rfl) (jE jc))
  (jb (Jc PassesOwn.never rfl (JG (by rfl) T.qV (ja (jq jU jd (jq j9 (jq Jb (pv 3) jd) jd)) jc)) (ju (i:=5) jN.nd rfl (.inl rfl))
   (jb (jp (i:=6) jN.nd rfl (.inl rfl) (jq j9 (jq Jb (pv 3) (ji jv (jE (ja jd (ja jd (ja jd (ja jd jc))))) (pv 5))) (ji jv (pv 2) jd)))
   (jg (jZ (JR PySem.F.plainAttrs_list PySem.F.slot_list_append PySem.F.type_list_append jO (pv 4) (ja (jK (ja (jr (JI.mono (by decide)) I (by rfl) T.ze T.Qu.kp T.Q8 .nil pass0 (ja (jq j9 (pv 3) jd) (ja (pv 5) jc))) (ja (pv 6) jc))) jc))))))
  (jb (jp (i:=7) jN.nd rfl (.inl rfl) (jE jc))
  (jb (jp (i:=8) jN.nd rfl (.inl rfl) (jE jc))
  (jb (jp (i:=9) jN.nd rfl (.inl rfl) yx)
  (jb (jp (i:=10) jN.nd rfl (.inl rfl) (jE jc))
  (jb (Jc PassesOwn.never rfl (JG (by rfl) T.qV (ja (jq jU (pv 1) jd) jc)) (ju (i:=5) jN.nd rfl (.inl rfl))
   (jb (jp (i:=11) jN.nd rfl (.inl rfl) (jr (jY.mono (by decide)) I (by rfl) T.qq T.JK.kp T.qd .nil pass0 (ja (jr (jY.mono (by decide)) I (by rfl) T.qq T.JK.kp T.qd .nil pass0 (ja (jr (j6.mono (by decide)) I (by rfl) T.J1 T.Jv.kp T.JW .nil pass0 (ja (pv 0) (ja (jq jU jd (pv 5)) jc))) (ja (jq jU jd (pv 5)) jc))) (ja (jq jU jd (pv 5)) jc))))
   (jb (jp (i:=12) jN.nd rfl (.inl rfl) (jr (Zg.mono (by decide)) I (by rfl) T.Wq T.y9.kp T.wO .nil pass0 (ja (pv 11) (ja (pv 7) (ja (pv 8) (ja (pv 4) (ja (pv 2) jc)))))))
   (jb (JU (PW.pt (Qd (jo j5 (pv 5) (pv 1) (nomark _)) (qB (jo j5 (jq j9 (jq Jb (pv 3) jd) jd) jd (nomark _)))))
    (jg (jp (i:=12) jN.nd rfl (.inl rfl) (jK (ja jB (ja (jr (qG.mono (by decide)) I (by rfl) T.Yi T.Zf.kp T.y8 .nil pass0 (ja (pv 7) (ja (pv 9) (ja (ji jv (pv 2) jd) jc)))) jc)))))
    jw)
   (jb (JU (jo ZK (jr (JH.mono (by decide)) I (by rfl) T.zd T.Qt.kp T.Q7 .nil pass0 (ja (pv 12) (ja (pv 9) jc))) (ji jv (pv 2) jd) (nomark _))
    (jg (jp (i:=12) jN.nd rfl (.inl rfl) (jK (ja jB (ja jd jc)))))
    jw)
   (jb (jZ (JR PySem.F.plainAttrs_list PySem.F.slot_list_append PySem.F.type_list_append jO (pv 8) (ja (jr (qe.mono (by decide)) I (by rfl) T.yq T.zC.kp T.Z3 .nil pass0 (ja (pv 12) (ja (pv 7) (ja (pv 8) jc)))) jc)))
   (jb (jp (i:=13) jN.nd rfl (.inl rfl) (jr (JI.mono (by decide)) I (by rfl) T.ze T.Qu.kp T.Q8 .nil pass0 (ja (jq j9 (pv 3) jd) (ja (jq jU jd (pv 5)) jc))))
   (jb (JU (PW.pt (Qd (jo j5 (pv 5) (jq j9 (jq Jb (pv 3) jd) (jq jU (pv 1) jd)) (nomark _)) (qB (jo j5 (jq j9 (jq Jb (pv 3) jd) jd) jd (nomark _)))))
    (jg (jp (i:=13) jN.nd rfl (.inl rfl) (ji jt (ji jv (pv 4) (jq j9 (pv 5) (jz jR (by rfl) T.JJ Je (ja (pv 4) jc)))) jd)))
    jw)
   (jb (jZ (JR PySem.F.plainAttrs_list PySem.F.slot_list_append PySem.F.type_list_append jO (pv 7) (ja (pv 13) jc)))
   (jb (jZ (JR PySem.F.plainAttrs_list PySem.F.slot_list_append PySem.F.type_list_append jO (pv 10) (ja (jK (ja (ji jv (pv 7) (pv 5)) (ja (pv 12) jc))) jc)))
   (jg (ZD (qO I) (pv 9) (ji jv (pv 7) (pv 5)) (jr (JH.mono (by decide)) I (by rfl) T.zd T.Qt.kp T.Q7 .nil pass0 (ja (pv 12) (ja (pv 9) jc))) rfl))))))))))))
  (jg (jA (jK (ja (jK (ja (pv 4) (ja (pv 10) jc))) (ja (JV (qO I) (pv 9) (ji jv (pv 7) (pv 1))) jc)))))))))))))),?_⟩
 refine jG (σ':=[some _,some _,some _,none,none,none,none,none,none,none,none,none,none,none]) rfl ?_;have sz:(200:Nat)<sizeLine:=by decide
 have aA:=Bd;obtain⟨eb,aD,aE,aF,aG,aH,aI,aJ,aK,an,ao⟩:=Bd;exists⟨a,ns,_,rfl,hS,a0,by lia,?_⟩;refine⟨_,rfl,?_⟩;exists iteD (fun c=>?_) (fun c=>?_)
 ·walk_at"g";have eq:bkF ns many b0 b1 b2 b3 b4=bkT ns many b0 b1 b2 b3 b4:=ve c;rw[eq]at q;exact⟨a,bd,ns,many,b0,b1,b2,b3,b4,rfl,hS,a0,m2,af,aA,q⟩
 have eq:bkF ns many b0 b1 b2 b3 b4=bkN ns many b0 b1 b2 b3 b4:=vd c;have ap:bkN ns many b0 b1 b2 b3 b4=_:=bkN.eq_1 ..;rw[eq,ap]at q;clear c eq ap;exists⟨a,ns,_,rfl,hS,a0,by lia,?_⟩;exists⟨_,_,rfl,by lia,by lia,?_⟩;exists⟨_,_,rfl,by lia,by lia,?_⟩;have hb:=yu (mixB (Pr.cell ns 0) 0) 90;have eh:hdN ns=mixB (mixB (Pr.cell ns 0) 0) 90:=rfl;rw[eh]at q;clear eh;generalize mixB (mixB (Pr.cell ns 0) 0) 90=hd at hb q|-;obtain⟨p,e3⟩:∃p:Nat,hd%3=(p:Int):=⟨(hd%3).toNat,by lia⟩
 have hp:p<3:=by lia
 have aP:(hd%3).toNat=p:=by lia
 have ad:=fun m=>j18 (hd:=hd) (b2:=b2) (m:=m)
 rw[aP]at q ad;exists⟨vb _,?_⟩;walk_at"f pl hpl H1 s1 t1";exists⟨_,rfl,by lia,by lia,?_⟩;refine qm (fun i σ H'=>IvE4 fun(o5 o6:Option V) (y:List Addr) (ls:List (Str×Int))=>IvA7 (σ=[some (.ref a),some (.int (many:Nat)),some (.ref bd),some (.int hd),some (.ref pl),o5,o6,none,none,none,none,none,none,none]) (Same H H') (H' pl=some (.lst (y.map V.ref))) (All2 (LimbAt H') y ls) (nmsOf ls=lmB p i) (ls.length=i) ((∀q∈ls,0<=q.2/\q.2<=10^18)/\lsN hd b2 i=ls)) ⟨_,_,[],[],rfl,s1,t1,.nil,rfl,rfl,(fun q h=>nomatch h),rfl⟩ ?_ ?_
 ·rintro i σ H' hi ⟨o5,o6,y,ls,rfl,B,Z,la,nm,ll,lh,eL⟩;have i4:i<4:=by lia
  have ax:=la.1;obtain⟨w',aV,w1,w2,ew⟩:∃w':Int,atI [V.int 100,V.int 1000,V.int 10000,V.int 100000] (0+(i:Int))=some (.int w')/\100<=w'/\w'<=100000/\wB i=w':=by
   have:i=0\/i=1\/i=2\/i=3:=by lia
   rcases this with rfl | rfl | rfl | rfl
   ·exact⟨100,rfl,by decide,by decide,rfl⟩
   ·exact⟨1000,rfl,by decide,by decide,rfl⟩
   ·exact⟨10000,rfl,by decide,by decide,rfl⟩
   ·exact⟨100000,rfl,by decide,by decide,rfl⟩
  exists⟨uc,?_⟩;walk_at"f 2 t";exists ixLm (SqL.of t2) (aV) ?_;exists ixLm (SqL.of (s2 _ _ (B _ _ eb))) rfl ?_;walk_at"g";have v0:=vf (hd/w') (show b2≠0 by lia);have v1:=vg (hd/w') (show 0<b2 by lia);have ae:=ad i;rw[ew,eL]at ae;generalize hd/w'%b2=v at v0 v1 ae|-;refine⟨.inl ⟨rfl,_,SqL.of (s2 _ _ Z)⟩,?_⟩;exists⟨p,i,by rw[e3,v9];rfl,hp,by lia,?_⟩;exists⟨ue,?_⟩;walk_at"f 3 t";have a6:=s2.trans s3;exists⟨pl,_,_,rfl,rfl,a6 _ _ Z,by rw[vt];lia,?_⟩;have kt:∀c xs,H3 c=some (.tup xs)->upd H3 pl (.lst (y.map V.ref++[.ref p3])) c=some (.tup xs):=fun c xs h=>(jh (Jl h (a6 _ _ Z) fun z=>by cases z)).trans h
  refine⟨_,_,y++[p3],ls++[(wdB p i,v)],rfl,fun c u h=>?_,by rw[jC,vk];rfl,(la.mono fun c x h=>kt _ _ (a6 _ _ h)).snoc (kt _ _ t3),?_,by rw[vn,ll];rfl,fun q hq=>?_,ae⟩
  ·refine(jh ?_).trans (a6 _ _ (B _ _ h));exact je h hpl
  ·rw[Wp,<-nm];unfold nmsOf;rw[vk];rfl
  ·rcases vi.mp hq with z | z
   ·exact lh q z
   ·rw[vo.mp z];exact⟨v0,by show v<=10^18;lia⟩
 rintro σ' H2 ⟨o5,o6,y,ls,rfl,B,Z,la,nm,ll,lh,eL⟩;rw[eL]at q;have b8:=ll;rw[<-ll]at q;clear eL ad;have m1:1<=ls.length:=by lia
 have m4:ls.length<=4:=by lia
 replace nm:nmsOf ls=lmB p ls.length:=by rw[nm,ll]
 obtain⟨ac,lW⟩:=j17 (m:=ls.length) hp (by lia);rw[<-nm]at ac lW;clear ll s1 t1 H1;have Ll:(nmsOf ls).length=ls.length:=vt _;have ax:=la.1;have av:=fun(i:Nat) (h:i<=many)=>j2g (hd:=hd) af h
 generalize ccN hd many=cc at av q;obtain⟨nd,nW⟩:=j1g (p:=p) (st:=5) (c:=cc) (m:=ls.length) hp m1 (by lia) (by lia);have ng:∀{k:Nat},k<17->(nmB p 5 cc ls.length).getD k ⟨#[]⟩=wdB p (ixB 5 cc ls.length k):=fun h=>Xx h
 have nL:=Xy (p:=p) (st:=5) (c:=cc) (m:=ls.length);generalize nmB p 5 cc ls.length=names at nd nW ng nL q;exists⟨vb _,?_⟩;walk_at"f nl hnl H3 s3 t3";exists⟨vb _,?_⟩;walk_at"f ml hml H4 s4 t4";walk_at"g";walk_at"f d hd' H5 s5 t5";exists⟨vb _,?_⟩;walk_at"f pp hpp H6 s6 t6";have ak:=s4.trans (s5.trans s6);have a7:=s3.trans ak;have BB:BkB pl nl ml d pp y [] [] ls names [] [] [] b4 H6:=by
  refine⟨⟨ak _ _ t3,s6 _ _ (s5 _ _ t4),.nil,(fun ks hk=>nomatch hk),rfl,vb _,by lia,(fun x hx=>nomatch hx),lW⟩,⟨a7 _ _ Z,la.mono fun c x h=>a7 _ _ h,m1⟩,s6 _ _ t5,t6,.nil,⟨rfl,rfl,(fun i f h=>by simp at h),fun i h=>ug h (Nat.not_lt_zero i)⟩,fun j M=>ug M (Nat.not_lt_zero j),vb _⟩
 have SS:SpB pl nl ml pp bd []:=⟨je Z hnl,je (s3 _ _ Z) hml,je (s5 _ _ (s4 _ _ (s3 _ _ Z))) hpp,je t3 hml,je (s5 _ _ (s4 _ _ t3)) hpp,je (s5 _ _ t4) hpp,je (B _ _ eb) hnl,je (s3 _ _ (B _ _ eb)) hml,je (s5 _ _ (s4 _ _ (s3 _ _ (B _ _ eb)))) hpp,(fun x hx=>nomatch hx)⟩
 have aS:H nl=none:=none_of B hnl;have aR:H ml=none:=none_of (B.trans s3) hml;have aQ:H d=none:=none_of (B.trans (s3.trans s4)) hd';have aT:H pp=none:=none_of (B.trans (s3.trans (s4.trans s5))) hpp;have b5:=B.trans a7;clear a7 ak t3 t4 t5 t6 Z la B s3 s4 s5 s6 hnl hml hd' hpp;exists⟨_,rfl,by lia,by lia,?_⟩;refine qm (fun i σ H'=>IvE9 fun(o5 ah ai a1:Option V) (U D:List Addr) (o:List Fn) (F:List (List Str)) (G:List Int)=>IvA5 (σ=[some (.ref a),some (.int (many:Nat)),some (.ref bd),some (.int hd),some (.ref pl),o5,o6,some (.ref nl),some (.ref ml),some (.ref d),some (.ref pp),ah,ai,a1]) (Same H H') (BkB pl nl ml d pp y U D ls names o F G b4 H') (SpB pl nl ml pp bd D) (o.length=i/\stN ns many hd ls names b0 b1 b2 b3 b4 i=(o,F,G)))
  ⟨_,_,_,_,[],[],[],[],[],rfl,b5,BB,SS,rfl,rfl⟩ ?_ ?_
 ·rintro i σ H7 hi ⟨o5,ah,ai,a1,U,D,o,F,G,rfl,B,C,S,fl,eS⟩;have aW:i<17:=by lia
  have st:=WS (ns:=ns) (many:=many) (hd:=hd) (ls:=ls) (names:=names) (b0:=b0) (b1:=b1) (b2:=b2) (b3:=b3) (b4:=b4) i;rw[eS]at st;dsimp only at st;rw[show numN ns i=mixB (mixB (Pr.cell ns (1+(0+(i:Int)))) (1+(0+(i:Int)))) (91+(0+(i:Int)))from rfl]at st;have tl:(names.take o.length).length=o.length:=by rw[vj];lia
  have ba:U.length=o.length:=C.pa.1.trans JF;have gl:=C.dk.gl;have Ml:F.length=o.length:=by have:=C.n.ml;lia
  have b9:D.length=o.length:=by have:=C.n.am.1;lia
  have Y:(names.take o.length).Nodup:=nd.sublist (take_sublist _ _);have X:∀j,j<o.length->1<=G.getD j 0/\G.getD j 0<=b4:=fun j M=>⟨(C.dk.g j M).1,C.gb j M⟩
  exists⟨a,ns,_,rfl,B.seq hS,a0,by lia,?_⟩;exists⟨_,_,rfl,by lia,by lia,?_⟩;exists⟨_,_,rfl,by lia,by lia,?_⟩;have nb:=yu (mixB (Pr.cell ns (1+(0+(i:Int)))) (1+(0+(i:Int)))) (91+(0+(i:Int)));generalize mixB (mixB (Pr.cell ns (1+(0+(i:Int)))) (1+(0+(i:Int)))) (91+(0+(i:Int)))=num at nb st|-;exists⟨num,nl,ml,pl,bd,D,y,ls,names.take o.length,F,b0,b1,b2,b3,b4,rfl,C.n,C.l,⟨B _ _ eb,aD,aE,aF,aG,aH,aI,aJ,aK,an,ao⟩,by lia,by lia,fun as H8 s8 a3 J=>?_⟩;rw[tl]at J;rw[<-fl]at st;generalize formF num (names.take o.length) F ls b0 b1 b2 b3=f0 at a3 J st;rw[fl]at st;have C8:=C.same s8;exists⟨fun σ' H'=>IvE2 fun(fa:Addr) (f:Fn)=>IvA4 (σ'=[some (.ref a),some (.int (many:Nat)),some (.ref bd),some (.int hd),some (.ref pl),some (.int (0+(i:Int))),o6,some (.ref nl),some (.ref ml),some (.ref d),some (.ref pp),some (.int num),some (.ref fa),a1]) (Same H8 H') (FormAt H' fa (toldF (names.take o.length) f)) (PreN (nmsOf ls) (F.map (plB (nmsOf ls))) o.length f/\lstF (decide (i=many/\hd/12%2=0)) b4 G i f0=f),?_,?_⟩
  rotate_left
  ·exists iteD (fun c=>?_) (fun c=>?_)
   ·exists iteD (fun c2=>?_) (fun c2=>?_)
    ·exists ixLm (SqL.of (s8 _ _ (B _ _ eb))) rfl ?_;exists⟨nl,d,names.take o.length,G,b4,rfl,C8.n.en,C8.ed,Y,by lia,by lia,by lia,fun j M=>X j (by lia),fun b H9 s9 e9 ne l5 jl=>?_⟩;rw[tl]at e9 ne l5 jl;exists⟨ue,?_⟩;walk_at"f fa hfa H10 s10 t10";walk_at"g";exact⟨fa,.row (lastF G b4 o.length),rfl,s9.trans s10,⟨b,t10,s10 _ _ e9⟩,⟨ne,by lia,jl⟩,by unfold lstF;rw[ve (vF ⟨by lia,c2⟩),fl]⟩
    ·walk_at"g";exact⟨as,f0,rfl,Same.refl _,a3,J,by unfold lstF;rw[vd (by simp only[decide_eq_true_eq];exact fun z=>c2 z.2)]⟩
   ·walk_at"g";exact⟨as,f0,rfl,Same.refl _,a3,J,by unfold lstF;rw[vd (by simp only[decide_eq_true_eq];exact fun z=>c (by lia))]⟩
  rintro σ' H9 ⟨au,f1,rfl,s9,aa,L,aq⟩;rw[aq]at st;clear aq;have C9:=C8.same s9;have al:=B.trans (s8.trans s9);clear C8 C a3 J s8 s9 B;exists⟨fun σ' H'=>IvE3 fun(fa:Addr) (f:Fn) (g:Int)=>IvA6 (σ'=[some (.ref a),some (.int (many:Nat)),some (.ref bd),some (.int hd),some (.ref pl),some (.int (0+(i:Int))),o6,some (.ref nl),some (.ref ml),some (.ref d),some (.ref pp),some (.int num),some (.ref fa),a1]) (Same H9 H') (FormAt H' fa (toldF (names.take o.length) f)) (PreN (nmsOf ls) (F.map (plB (nmsOf ls))) o.length f) (LenN G f g) (g<=b4/\cutF b4 G f1=f),?_,?_⟩
  rotate_left
  ·exists⟨au,d,f1,names.take o.length,G,nmsOf ls,F.map (plB (nmsOf ls)),rfl,aa,C9.ed,Y,by lia,by rw[tl];exact L,fun j M=>by have:=X j (by lia);lia,fun g H10 s10 lg=>?_⟩;exists ixLm (SqL.of (s10 _ _ (al _ _ eb))) rfl ?_;exists iteD (fun c=>?_) (fun c=>?_)
   ·exists⟨ue,?_⟩;walk_at"f fa hfa H11 s11 t11";walk_at"g";exact⟨fa,.hold 1,1,rfl,s10.trans s11,t11,⟨by decide,by decide⟩,rfl,an,by unfold cutF;rw[ve (by rw[<-lg.fn L fun j M=>(X j M).1];lia)]⟩
   ·walk_at"g";exact⟨au,f1,g,rfl,s10,FormAt.same s10 aa,L,lg,by lia,by unfold cutF;rw[vd (by rw[<-lg.fn L fun j M=>(X j M).1];lia)]⟩
  rintro σ' H10 ⟨fa,f,g,rfl,s10,hf,a2,lg,gb,ef⟩;rw[ef]at st;have eg:=lg.fn a2 fun j M=>(X j M).1
  have n:=C9.same s10;have ay:=al.trans s10;clear C9 aa L s10 al;exists⟨.inl ⟨rfl,_,SqL.of n.n.em⟩,?_⟩;exists⟨fa,nl,ml,D,f,names.take o.length,F,nmsOf ls,F.map (plB (nmsOf ls)),rfl,hf,n.n.en,n.n.em,n.n.am,Y,by lia,by lia,by rw[tl];exact a2,fun ks hk=>by have:=n.n.il.len hk;lia,fun l H11 s11 hl Z mv kl=>?_⟩;have az:stN ns many hd ls names b0 b1 b2 b3 b4 (i+1)=(o++[f],F++[movF F f],G++[g]):=by rw[st,eg];rfl
  generalize movF F f=ks at Z mv kl az;exists⟨ml,_,_,rfl,rfl,s11 _ _ n.n.em,by rw[vt];lia,?_⟩;generalize N:upd H11 ml _=H12;have aL:H12 ml=some (.lst ((D++[l]).map V.ref)):=by rw[vk];exact Qg N
  have aw:∀c u,c≠ml->H11 c=some u->H12 c=some u:=fun c u hc h=>N▸(jh hc).trans h
  clear N;have k2:∀c u,c≠ml->H10 c=some u->H12 c=some u:=fun c u hc h=>aw c u hc (s11 _ _ h)
  have R:∀{c u},H10 c=some u->l≠c:=fun h=>(je h hl).symm
  have ar:=aw _ _ (R n.n.em) Z;have a4:d≠ml:=Jl n.ed n.n.em (fun z=>by cases z);have a5:d≠nl:=Jl n.ed n.n.en (fun z=>by cases z);have ag:d≠pp:=Jl n.ed n.ep (fun z=>by cases z);exists⟨p,5+i,by rw[e3,show(5+(0+(i:Int)))=((5+i:Nat):Int) by lia];rfl,hp,by lia,?_⟩;exists⟨fun σ' H'=>σ'=[some (.ref a),some (.int (many:Nat)),some (.ref bd),some (.int hd),some (.ref pl),some (.int (0+(i:Int))),o6,some (.ref nl),some (.ref ml),some (.ref d),some (.ref pp),some (.int num),some (.ref fa),some (.str (names.getD o.length ⟨#[]⟩))]/\H12=H',?_,?_⟩
  rotate_left
  ·have hz:=av i (by lia);have nk:=ng aW;rw[<-fl]at nk;exists iteD (fun c=>?_) (fun c=>?_)
   ·exists iteD (fun c2=>?_) (fun c2=>?_)
    ·have ic:i=cc:=hz.mpr ⟨by lia,c2⟩;exists⟨_,_,rfl,.inl ⟨_,SqL.of (k2 _ _ S.lm n.l.el),rfl⟩,?_⟩;rw[vt,ax];walk_at"g";rw[show(0+(i:Int))%(ls.length:Int)=((i%ls.length:Nat):Int) by rw[v9];exact(Int.natCast_emod _ _).symm];have jm:=Nat.mod_lt i (show 0<ls.length by lia);obtain⟨lk,aU,aO⟩:=n.l.la.get (vz jm);have a8:H10 lk=some (.tup [.str (ls[i%ls.length]).1,.int (ls[i%ls.length]).2]):=aO;refine ixLm (SqL.of (k2 _ _ S.lm n.l.el)) (jW (j:=i%ls.length) (by rw[vv,aU];rfl)) ?_;exists ixTm (SqT.of (k2 _ _ (Jl a8 n.n.em fun z=>by cases z) a8)) rfl ?_;exists⟨?_,rfl⟩;have ew:(ls[i%ls.length]).1=wdB p (i%ls.length):=by
      have h1:(nmsOf ls)[i%ls.length]?=some (ls[i%ls.length]).1:=by unfold nmsOf;rw[vv,vz jm];rfl
      rw[nm,j16 jm]at h1;exact(vK h1).symm
     rw[nk,fl];unfold ixB;rw[ve ic,ew]
    ·exists⟨?_,rfl⟩;rw[nk,fl];unfold ixB;rw[vd (fun z=>c2 (hz.mp z).2)]
   ·exists⟨?_,rfl⟩;rw[nk,fl];unfold ixB;rw[vd (fun z=>c (by have:=(hz.mp z).1;lia))]
  rintro σ' b6 ⟨rfl,rfl⟩;exists⟨.inl ⟨rfl,_,SqL.of (k2 _ _ S.nm n.n.en)⟩,?_⟩;exists⟨nl,_,_,rfl,rfl,k2 _ _ S.nm n.n.en,by rw[vt];lia,?_⟩;generalize N:upd H12 nl _=H13;have a9:H13 nl=some (.lst ((names.take (o.length+1)).map V.str)):=by
   rw[take_snoc (show names[o.length]?=some (names.getD o.length ⟨#[]⟩) by rw[vy,vz (by lia)];rfl),vk];exact Qg N
  have ab:∀c u,c≠nl->H12 c=some u->H13 c=some u:=fun c u hc h=>N▸(jh hc).trans h
  clear N;have am:atI ((names.take (o.length+1)).map V.str) (0+(i:Int))=some (.str (names.getD o.length ⟨#[]⟩)):=by
   rw[<-fl,v9];refine jW ?_;rw[vv,uu (by lia),vy,vz (by lia)];rfl
  have k3:∀c u,c≠ml->c≠nl->H10 c=some u->H13 c=some u:=fun c u h1 h2 h=>ab c u h2 (k2 c u h1 h)
  exists⟨.inl ⟨rfl,_,SqL.of (k3 _ _ S.mp.symm S.np.symm n.ep)⟩,?_⟩;exists ixLm (SqL.of a9) (am) ?_;exists⟨ue,?_⟩;walk_at"f c hc H14 s14 t14";exists⟨pp,_,_,rfl,rfl,s14 _ _ (k3 _ _ S.mp.symm S.np.symm n.ep),by rw[vt];lia,?_⟩;generalize N:upd H14 pp _=H15;have aM:H15 pp=some (.lst ((U++[c]).map V.ref)):=by rw[vk];exact Qg N
  have W:∀c u,c≠pp->H14 c=some u->H15 c=some u:=fun c u hc h=>N▸(jh hc).trans h
  clear N;have k4:∀c u,c≠ml->c≠nl->c≠pp->H10 c=some u->H15 c=some u:=fun c u h1 h2 h3 h=>W c u h3 (s14 _ _ (k3 c u h1 h2 h))
  have kt:∀c xs,H10 c=some (.tup xs)->H15 c=some (.tup xs):=fun c xs h=>k4 c _ (Jl h n.n.em fun z=>by cases z) (Jl h n.n.en fun z=>by cases z) (Jl h n.ep fun z=>by cases z) h
  have aY:c≠pp:=(je (k3 _ _ S.mp.symm S.np.symm n.ep) hc).symm;exists⟨fa,d,f,names.take o.length,G,nmsOf ls,F.map (plB (nmsOf ls)),rfl,FormAt.keep kt hf,k4 _ _ a4 a5 ag n.ed,Y,by lia,by rw[tl];exact a2,fun j M=>by have:=X j (by lia);lia,fun g' aC aj aX=>?_⟩;obtain rfl:=lg.uniq aX;exists ixLm (SqL.of (aj _ _ (W _ _ S.np (s14 _ _ a9)))) (am) ?_;refine⟨d,_,rfl,DPut.k (k:=Sum.inr (names.getD o.length ⟨#[]⟩)) (aj _ _ (k4 _ _ a4 a5 ag n.ed)) (by rw[Xq (by lia)];lia),?_⟩;have xn:names.getD o.length ⟨#[]⟩∉names.take o.length:=fun z=>by
   obtain⟨j,M,e⟩:=mem_iff_getElem.mp z;rw[getElem_take]at e;have jl:j<o.length:=by rw[tl]at M;exact M
   have e2:names[j]?=some (names.getD o.length ⟨#[]⟩):=by rw[vz (by lia),e]
   have e3:names[o.length]?=some (names.getD o.length ⟨#[]⟩):=by rw[vy,vz (by lia)];rfl
   have:=Ja nd e2;have:=Ja nd e3;lia
  rw[Xr (by lia) xn];generalize N:upd aC d _=H17;have aN:H17 d=some (.dK (knK (names.take (o.length+1)) (G++[g]))):=by
   rw[take_snoc (show names[o.length]?=some (names.getD o.length ⟨#[]⟩) by rw[vy,vz (by lia)];rfl)];exact Qg N
  have O:∀c u,c≠d->H15 c=some u->H17 c=some u:=fun c u hc h=>N▸(jh hc).trans (aj _ _ h)
  clear N;have aB:=n.add (fa:=fa) (l:=l) (c:=c) (f:=f) (ks:=ks) (g:=g) (H':=H17) S (by rw[<-kx a2];exact hf) a2 mv lg gb ao (by lia) (by lia) nW (fun x u h1 h2 h3 h4 h=>O _ _ h4 (k4 _ _ h1 h2 h3 h)) (O _ _ a4.symm (W _ _ S.mp (s14 _ _ (ab _ _ S.nm.symm aL)))) (O _ _ (R n.ed) (W _ _ (R n.ep) (s14 _ _ (ab _ _ (R n.n.en) ar)))) (O _ _ a5.symm (W _ _ S.np (s14 _ _ a9))) (O _ _ ag.symm aM) (O _ _ (Jl t14 (s14 _ _ (k3 _ _ a4 a5 n.ed)) fun z=>by cases z) (W _ _ aY t14)) aN;exact⟨_,_,_,_,U++[c],D++[l],o++[f],F++[ks],G++[g],rfl,fun x u h=>O _ _ (je h aQ) (k4 _ _ (je h aR) (je h aS) (je h aT) (ay _ _ h)),aB,S.add ⟨R n.n.en,R n.n.em,R n.ep⟩,by rw[vn,fl];rfl,az⟩
 rintro σ' H7 ⟨o5,ah,ai,a1,U,D,o,F,G,rfl,B,C,S,fl,eS⟩
 replace fl:o.length=many+1:=by lia
 have eF:(stN ns many hd ls names b0 b1 b2 b3 b4 (many+1)).1=o:=by
  rw[show many+1=((many:Int)+1).toNat by lia,eS]
 rw[eF]at q;have gl:=C.dk.gl;have tl:(names.take o.length).length=o.length:=by rw[vj];lia
 have Y:(names.take o.length).Nodup:=nd.sublist (take_sublist _ _);exists⟨ue,?_⟩;walk_at"f b hbb H8 s8 t8";have C8:=C.same s8;exists ixLm (SqL.of C8.n.en) (za (j:=many) (by lia)) ?_;have g:=DGet.k (k:=Sum.inr ((names.take o.length).getD many ⟨#[]⟩)) C8.ed;rw[yn Y (by lia) (by lia)]at g;refine⟨d,_,rfl,g,?_⟩;exists⟨ue,?_⟩;walk_at"f r hr' H9 s9 t9";exact q r b pl pp y U names ls o _ G H9 (B.trans (s8.trans s9)) (by rw[show o.length-1=many by lia];exact t9) ((C8.book t8).same s9) C.dk (C.dk.sn C.fl nd ac (by lia) (by lia) (by lia) lh) fl nL nd nW m1 (by lia) ac lW S.lp C.gb rfl
theorem Ym(T:Txt K mg t):FnOk P w K mg base CX0 1 t.Jy t.JD ["_law_form_here","_law_heights"] (sp_climbR):=by
 refine T.Ze.ok JS (fun vs H Q E h=>?_) (fun a1 A a0 s H vs Q E hr h=>?_)
 ·cases h;subst_vars;rfl
 obtain⟨fa,z,L,x,v,n,h,rfl,r,J,Y,⟨a,f⟩,l8,v0,v1,n1,a2,q⟩:=h;refine⟨_,(jb (jp (i:=2) JS.nd rfl (.inl rfl) (jE jc))
  (jb (jp (i:=3) JS.nd rfl (.inl rfl) (JV (qO hr) (pv 1) (ji jt (pv 0) jd)))
  (jb (Jc PassesOwn.never rfl (JG (by rfl) T.qV (ja (jq jU (ji jt (pv 0) jd) jd) jc)) (ju (i:=4) JS.nd rfl (.inl rfl))
   (jb (jp (i:=5) JS.nd rfl (.inl rfl) (JT YM (by rfl) T.YJ yd (ja (pv 1) jc)))
   (jb (ZD (qO hr) (pv 5) (ji jt (pv 0) jd) (jq jU (pv 3) (jq Jb (jq Qc (jq Qj (ji jt (pv 0) jd) (pv 3)) (pv 4)) (ji jt (pv 0) jd))) rfl)
   (jg (jZ (JR PySem.F.plainAttrs_list PySem.F.slot_list_append PySem.F.type_list_append jO (pv 2) (ja (jK (ja (pv 5) (ja (jE jc) jc))) jc)))))))
  (jg (jA (xG (jK (ja (QH Yz (pv 2) zf (zg (Y8 Z1 jd))) (ja (ji jt (ji jv (pv 2) (Y8 Z1 jd)) jd) jc))))))))),?_⟩
 refine jG (σ':=[some _,some _,none,none,none,none]) rfl ?_;have sz:(200:Nat)<sizeLine:=by decide
 have U:=J.1;have hb:=J.2.1;have g:=Ja Y f;have il:=(vx.mp f).1;have gb:=hb.getD a;exists⟨vb _,?_⟩;walk_at"f rl hrl H1 s1 t1";exists ixTm (SqT.of (s1 _ _ r)) rfl ?_;refine⟨z,_,rfl,(J.same s1).get Y f,?_⟩;exists ixTm (SqT.of (s1 _ _ r)) rfl ?_;exists⟨_,rfl,by lia,by lia,?_⟩;refine qm (fun i σ I=>IvE4 fun(Z o5:Option V) (m b:List Addr)=>σ=[some (.ref fa),some (.ref z),some (.ref rl),some (.int (h.getD a 0)),Z,o5]/\RwO H L rl I m b (riseR L x v n h i)) ⟨_,_,[],[],rfl,RwO.nil s1 hrl t1⟩ ?_ ?_
 ·rintro i σ I hi ⟨Z,o5,m,b,rfl,R⟩;have N:=R.s;have l1:=R.l1;have C:(riseR L x v n h i).length=i:=by unfold riseR;rw[vt,length_range]
  walk_at"g";obtain⟨_,_,o,eo⟩:=J.same N;refine⟨z,_,rfl,.inr ⟨o,eo⟩,?_⟩;walk_at"f d hd' H2 s2 t2";exists ixTm (SqT.of (s2 _ _ (N _ _ r))) rfl ?_;exists ixTm (SqT.of (s2 _ _ (N _ _ r))) rfl ?_;exists ixTm (SqT.of (s2 _ _ (N _ _ r))) rfl ?_;have kl:(knK L h).length=L.length:=by unfold knK;rw[vt,length_zip,U,Nat.min_self]
  refine⟨d,_,rfl,DPut.k (k:=Sum.inr x) t2 (by lia),?_⟩;rw[Xs Y U.symm f];have M:Same I (upd H2 d (.dK (knK L (h.set a (h.getD a 0+(v-h.getD a 0)*(0+(i:Int))/n))))):=fun c u hc=>(jh (je hc hd')).trans (s2 _ _ hc)
  have t3:upd H2 d (.dK (knK L (h.set a (h.getD a 0+(v-h.getD a 0)*(0+(i:Int))/n)))) d=_:=jC;generalize upd H2 d _=H3 at M t3|-;exists⟨.inl ⟨rfl,_,SqL.of (M _ _ R.e)⟩,?_⟩;exists⟨vb _,?_⟩;walk_at"f w hw H4 s4 t4";exists⟨ue,?_⟩;walk_at"f c hc H5 s5 t5";have F:=s4.trans s5;have D:=M.trans F;exists⟨rl,_,_,rfl,rfl,D _ _ R.e,by rw[vt];lia,?_⟩;rw[v9]at t3;have rb:=XE gb ⟨v0,v1⟩ n1 (j:=(i:Int)) (by lia) (by lia);have R':=R.push (h:=h.set a (h.getD a 0+(v-h.getD a 0)*(i:Int)/n)) (W:=[]) D hd' (F _ _ t3) (by rw[length_set,U]) (hb.set rb) (none_of M hw) (s5 _ _ t4) t5;refine⟨_,_,m++[d],b++[c],rfl,?_⟩;have S:riseR L x v n h (i+1)=riseR L x v n h i++[(h.set a (h.getD a 0+(v-h.getD a 0)*(i:Int)/n),[])]:=by
   unfold riseR;rw[range_succ,vk,g];rfl
  rw[S];rw[vk]at R';exact R'
 ·rintro σ I ⟨Z,o5,m,b,rfl,R⟩;have nn:(n+1).toNat=n.toNat+1:=by lia
  rw[nn]at R;have C:(riseR L x v n h (n.toNat+1)).length=n.toNat+1:=by unfold riseR;rw[vt,length_range]
  have l1:=R.l1;have l2:=R.l2;obtain⟨dl,B⟩:∃dl,m[n.toNat]?=some dl:=⟨_,vz (by lia)⟩
  obtain⟨cl,y⟩:∃cl,b[n.toNat]?=some cl:=⟨_,vz (by lia)⟩
  have hx:(riseR L x v n h (n.toNat+1))[n.toNat]?=some (h.set a v,[]):=by
   unfold riseR;rw[vv,List.getElem?_range (by lia),g];show some (h.set a (Rp.ramp (h.getD a 0) v n ((n.toNat:Nat):Int)),[])=_;rw[show((n.toNat:Nat):Int)=n by lia];unfold Rp.ramp;rw[Int.mul_ediv_cancel _ (by lia)];congr 2;congr 1;lia
  obtain⟨wl,_,O,_⟩:=R.a _ _ _ _ B y hx;exists xN ?_;exists⟨rl,_,rfl,SqL.of R.e,?_⟩;rw[w4 (n:=n.toNat) (by rw[vt];lia),<-map_take];walk_at"f l hl' H6 s6 t6";exists ixLm (SqL.of (s6 _ _ R.e)) (KF (n:=n.toNat+1) (by lia) (by rw[vt];lia) (by rw[vv,Nat.add_sub_cancel,y];rfl)) ?_;exists ixTm (SqT.of (s6 _ _ O)) rfl ?_;exists⟨ue,?_⟩;walk_at"f p hp H7 s7 t7";have G:=s6.trans s7;refine⟨m,R.nd,fun d z=>?_,fun H8 fz=>?_⟩
  ·obtain⟨X,e⟩:=R.opn z;exact⟨X,G _ _ e⟩
  ·obtain⟨k1,k2⟩:=R.run G (s7 _ _ t6) t7 B hx fz;have S:(riseR L x v n h (n.toNat+1)).take n.toNat=riseR L x v n h n.toNat:=by
    unfold riseR;rw[<-map_take,List.take_range,Nat.min_eq_left (by lia)]
   rw[S]at k2;refine q p H8 k1 ?_;rw[g];exact k2
theorem Y5{rd rl:Nat}(T:Txt K mg t)(hrl:1<=rl)(qC:FnOk P w K mg base CX0 rl t.JM t.JO ["_law_book_here","_law_name","_law_heights"] (sp_runR rd)):FnOk P w K mg base CX0 (rl+1) t.Qn t.Qp ["_law_book_here","_law_names","_law_heights"] (sp_besideR rd):=by
 refine T.ZH.ok jS (fun vs H Q E h=>?_) (fun aJ A aD s H vs Q E hr h=>?_)
 ·cases h;subst_vars;rfl
 obtain⟨b,pl,pp,hd,nb,aB,aE,f,a,D,M,gs,E,h,k,is,rfl,B,X,hf,en,jm,Hh,q⟩:=h;refine⟨_,(jb (Yv (i:=3) (ow:=["_law_name"]) (ci:=[0,2]) rfl (CompScope.of (defScope qy) ["_law_book_here","_law_names","_law_heights","_law_runs","_law_rows","_law_j","_law_now","_law_words","_law_some","_law_behind","_law_there","_law_limb"] rfl rfl (by decide +kernel)) (qo (by decide)) jS.nd rfl (.inl rfl) (wv (pv 1)) (fun _ _ _ _ _=>⟨(ju (i:=0) (JA ["_law_book_here","_law_names","_law_heights","_law_runs","_law_rows","_law_j","_law_now","_law_words","_law_some","_law_behind","_law_there","_law_limb"] rfl (by decide +kernel)) rfl (.inl rfl)),QM,(jr qC hr (by rfl) T.ZR T.QS.kp T.ZL .nil pass0 (ja (pv 1) (ja (pv 0) (ja (pv 2) jc))))⟩))
  (jb (jp (i:=4) jS.nd rfl (.inl rfl) (jE jc))
  (jb (Jc PassesOwn.never rfl (JG (by rfl) T.qV (ja (jq jU jd (jz (yJ rfl) (by rfl) T.Xb KJ (ja (qA (ow:=["_law_run_here"]) (ci:=[]) rfl (CompScope.of (defScope qy) ["_law_book_here","_law_names","_law_heights","_law_runs","_law_rows","_law_j","_law_now","_law_words","_law_some","_law_behind","_law_there","_law_limb"] rfl rfl (by decide +kernel)) (qo (by decide)) (Jh (pv 3)) (fun _ _ _ _ _=>⟨(ju (i:=0) (JA ["_law_book_here","_law_names","_law_heights","_law_runs","_law_rows","_law_j","_law_now","_law_words","_law_some","_law_behind","_law_there","_law_limb"] rfl (by decide +kernel)) rfl (.inl rfl)),QM,(jz (kZ (K:=K) rfl) (by rfl) T.JJ Je (ja (ji (Xp (K:=K) rfl) (pv 0) jd) jc))⟩)) jc))) jc)) (ju (i:=5) jS.nd rfl (.inl rfl))
   (jb (jp (i:=6) jS.nd rfl (.inl rfl) (JT YM (by rfl) T.YJ yd (ja (pv 2) jc)))
   (jb (jp (i:=7) jS.nd rfl (.inl rfl) (jE jc))
   (jb (Jc PassesOwn.never rfl (Jh (pv 3)) (qD rfl (jF (ju (i:=8) jS.nd rfl (.inl rfl)) (jF (ju (i:=9) jS.nd rfl (.inl rfl)) JP)))
    (jb (jp (i:=10) jS.nd rfl (.inl rfl) (pv 9))
    (jb (JU (jo Zn (pv 5) (jz jR (by rfl) T.JJ Je (ja (pv 8) jc)) (nomark _))
     (jb (jp (i:=10) jS.nd rfl (.inl rfl) (ji jt (ji jv (pv 8) (pv 5)) jd))
     (jg (jp (i:=7) jS.nd rfl (.inl rfl) (jq zL (pv 7) (ji jt (ji jv (pv 8) (pv 5)) jd)))))
     jw)
    (jg (Jc PassesOwn.never rfl (j2T (pv 2)) (ju (i:=11) jS.nd rfl (.inl rfl))
     (jg (j2 (jo j1p (JV (qO hr) (pv 10) (pv 11)) (JV (qO hr) (pv 2) (pv 11)) (nomark _))
      (jg (ZD (qO hr) (pv 6) (pv 11) (JV (qO hr) (pv 10) (pv 11)) rfl))
      jw)))))))
   (jg (jZ (JR PySem.F.plainAttrs_list PySem.F.slot_list_append PySem.F.type_list_append jO (pv 4) (ja (jK (ja (pv 6) (ja (pv 7) jc))) jc))))))))
  (jg (jA (xG (jK (ja (QH Yz (pv 4) zf (zg (Y8 Z1 jd))) (ja (ji jt (ji jv (pv 4) (Y8 Z1 jd)) jd) jc))))))))),?_⟩
 refine jG (σ':=[some _,some _,some _,none,none,none,none,none,none,none,none,none]) rfl ?_;have sz:(50000:Nat)<sizeLine:=by decide
 have hk:=(vx.mp hf).1;have aL:=X.f17;obtain⟨aF,_,ln⟩:=X.D.f k _ hf;obtain⟨i2,i8,a7,_⟩:=aF;obtain⟨⟨jx,az,aK⟩,ai⟩:=ln;have gk:=X.D.g k hk;have aI:=X.g90 k hk;have hl:=Hh.1;have ay:D.length<=61:=by lia
 have gj:∀j∈is,1<=gs.getD j 0/\gs.getD j 0<=90:=fun j S=>⟨(X.D.g j (by have:=a7 j S;lia)).1,X.g90 j (by have:=a7 j S;lia)⟩
 exists⟨nb,rfl,⟨_,SqT.of en⟩,?_⟩;refine yg (xs:=is.map fun j=>V.str (a.getD j ⟨#[]⟩)) (fun i ys I=>IvE1 fun(rs:List Addr)=>IvA2 (ys=rs.map V.ref) (Same H I/\All2 (fun r j=>RunA I (nmsOf f) r (runR (nmsOf f) a D gs E j h) (setE (E.getD j []) h)) rs (is.take i))) ⟨[],rfl,Same.refl _,.nil⟩ ?_ ?_ ?_
 ·rintro i ys I _ ⟨rs,rfl,sm,al⟩;exact SqT.of (sm _ _ en)
 ·rintro i v ys I hv ⟨rs,rfl,sm,al⟩;rw[vv]at hv;obtain⟨j,S,rfl⟩:=vh.mp hv;have U:=vm S;have a8:=al.1;rw[vj]at a8;refine J2 (σ':=[none,some (.ref b),some (.ref hd)]) rfl ?_;exists iteT ?_;exists⟨b,pl,pp,hd,aB,aE,f,a,D,M,gs,E,h,j,rfl,B.same sm,X,by have:=a7 j U;lia,jm j U,Hh.same sm,fun r H2 s2 RA=>?_⟩;refine⟨by rw[vt];lia,rs++[r],by rw[vk];rfl,sm.trans s2,?_⟩;rw[take_snoc S];exact(al.mono fun r j=>RunA.same s2).snoc RA
 rintro ys H2 ⟨rs,rfl,aH,al⟩;rw[vt,v2]at al;have a8:=al.1;refine⟨by rw[vt];lia,?_⟩;walk_at"f pr hpr H3 s3 t3";have ah:=al.mono fun r j=>RunA.same s3
 have ar:=aH.trans s3;have ac:=Hh.same ar;clear al;exists⟨vb _,?_⟩;walk_at"f rl hrl H4 s4 t4";exists⟨pr,rfl,⟨_,SqL.of (s4 _ _ t3)⟩,?_⟩;refine qi (xs:=rs.map V.ref) (fun i ys I=>ys=((is.take i).map fun j=>gs.getD j 0).map V.int/\H4=I) ⟨rfl,rfl⟩ ?_ ?_ ?_
 ·rintro i ys I _ ⟨rfl,rfl⟩;exact SqL.of (s4 _ _ t3)
 ·rintro i v ys I hv ⟨rfl,rfl⟩;obtain⟨r,j,rfl,S,k1⟩:=ah.at_ref hv;obtain⟨ad,a6,ap,k1,k2,k3,k4⟩:=k1;have U:=vm S;have g:=gj j U;refine J2 (σ':=[none]) rfl ?_;exists iteT ?_;exists ixTm (SqT.of (s4 _ _ k1)) rfl ?_;exists⟨_,_,rfl,.inl ⟨_,SqL.of (s4 _ _ k2),rfl⟩,?_⟩;refine⟨by rw[vt,vt,vj];lia,?_,rfl⟩;have l3:=k3.1;rw[Jm]at l3;rw[take_snoc S,vk,vk,vt,l3,show(((gs.getD j 0).toNat:Nat):Int)=gs.getD j 0 by lia];rfl
 rintro ys I ⟨rfl,rfl⟩;rw[show(rs.map V.ref).length=is.length from(vt _).trans a8,v2];refine⟨by rw[vt,vt];lia,?_⟩;walk_at"f pm hpm H5 s5 t5";exists⟨pm,_,rfl,SqL.of t5,by rw[vt];lia,fun m hm mx=>?_⟩;have em:m=gs.getD k 0:=by
  obtain⟨j,S,rfl⟩:=vJ.mp hm;have a1:=ai j S;have a2:=mx (gs.getD jx 0) (vJ.mpr ⟨jx,az,rfl⟩);lia
 subst em;exists⟨_,rfl,by lia,by lia,?_⟩;refine qm (fun i Z I=>IvE9 fun(o5 o6 o7 o8 o9 O C:Option V) (ds a0:List Addr)=>Z=[some (.ref b),some (.ref nb),some (.ref hd),some (.ref pr),some (.ref rl),o5,o6,o7,o8,o9,O,C]/\RwO H3 (nmsOf f) rl I ds a0 (sideR (nmsOf f) a D gs E k h i)) ⟨_,_,_,_,_,_,_,[],[],rfl,RwO.nil (s4.trans s5) hrl (s5 _ _ t4)⟩ ?_ ?_
 ·rintro i Z H6 hi ⟨o5,o6,o7,o8,o9,O,C,ds,a0,rfl,R⟩;have sm:=R.s;have l1:=R.l1;have aq:(sideR (nmsOf f) a D gs E k h i).length=i:=by unfold sideR;rw[vt,length_range]
  obtain⟨_,hb,o,eo⟩:=ac.same sm;exists⟨hd,_,rfl,.inr ⟨o,eo⟩,?_⟩;walk_at"f d hd7 H7 s7 t7";exists⟨vb _,?_⟩;walk_at"f w0 hw0 H8 s8 t8";have as:=s7.trans s8;rw[v9];exists⟨pr,rfl,⟨_,SqL.of (as _ _ (sm _ _ t3))⟩,?_⟩;refine J0 (xs:=rs.map V.ref) (fun u Z I=>IvE7 fun(o8 o9 O C:Option V) (w:Addr) (W:List Str) (F:List Int)=>IvA7 (Z=[some (.ref b),some (.ref nb),some (.ref hd),some (.ref pr),some (.ref rl),some (.int (i:Nat)),some (.ref d),some (.ref w),o8,o9,O,C]) (Same H6 I) (I d=some (.dK (knK (nmsOf f) F))) (H6 w=none) (I w=some (.lst (W.map V.str))) (W.length<=5000*u) (F=((is.take u).map (cutT gs (i:Int))).foldl (fun h x=>plN (nmsOf f) a D gs E x.1 x.2 h) h/\W=((is.take u).map (cutT gs (i:Int))).flatMap fun x=>rgN a D gs x.1 x.2))
   ⟨_,_,_,_,w0,[],h,rfl,as,s8 _ _ t7,none_of s7 hw0,t8,vb _,rfl,rfl⟩ ?_ ?_ ?_
  ·rintro u Z I _ ⟨o8,o9,O,C,w,W,F,rfl,L,_⟩;exact SqL.of (L _ _ (sm _ _ t3))
  ·rintro u v Z H9 hv ⟨o8,o9,O,C,w,W,F,rfl,L,ed,nw,ew,wl,eF,eW⟩;obtain⟨r,j,rfl,S,RA⟩:=ah.at_ref hv;have U:=vm S;have ul:=(vx.mp S).1;have jf:j<D.length:=by have:=a7 j U;lia
   have g:=gj j U;have aG:=sm.trans L;obtain⟨ad,a6,ap,k1,k2,k3,k4⟩:=RA.same aG;have l3:=k3.1;rw[Jm]at l3;have fl:F.length=(nmsOf f).length:=by
    rw[eF,<-hl];exact Kh
   refine Qk (SqT.of k1) ?_;exists⟨fun σ' I=>IvE2 fun(w' th:Addr)=>IvA6 (σ'=[some (.ref b),some (.ref nb),some (.ref hd),some (.ref pr),some (.ref rl),some (.int (i:Nat)),some (.ref d),some (.ref w'),some (.ref ad),some (.ref a6),some (.ref th),C]) (Same H6 I) (I d=some (.dK (knK (nmsOf f) F))) (H6 w'=none) (I w'=some (.lst ((W++rgN a D gs (cutT gs (i:Int) j).1 (cutT gs (i:Int) j).2).map V.str))) ((W++rgN a D gs (cutT gs (i:Int) j).1 (cutT gs (i:Int) j).2).length<=5000*(u+1)/\HtA I (nmsOf f) th (plN (nmsOf f) a D gs E (cutT gs (i:Int) j).1 (cutT gs (i:Int) j).2 h)),?_,?_⟩
   rotate_left
   ·exists⟨_,_,rfl,.inl ⟨_,SqL.of k2,rfl⟩,?_⟩;rw[vt];exists iteD (fun c=>?_) (fun c=>?_)
    ·have c:(i:Int)<gs.getD j 0:=by lia
     rw[j2j c];obtain⟨ra,an,dd,ww,n1,n2,n3⟩:=k3.get (zh c);have n3:H9 ww=some (.lst ((rgN a D gs j (i:Int)).map V.str)):=n3;have wj:=X.w j (i:Int) jf (by lia);exists ixLm (SqL.of k2) (jW (j:=i) (by rw[vv,an];rfl)) ?_;exists ixTm (SqT.of n1) rfl ?_;exists ixLm (SqL.of k2) (jW (j:=i) (by rw[vv,an];rfl)) ?_;exists ixTm (SqT.of n1) rfl ?_;refine⟨w,ww,_,_,rfl,rfl,ew,n3,by rw[vt,vt];lia,?_⟩;walk_at"f w2 hw2 H10 s10 t10";walk_at"g";exact⟨w2,dd,rfl,L.trans s10,s10 _ _ ed,none_of L hw2,by rw[t10,vk],by show(W++rgN a D gs j (i:Int)).length<=_;rw[vn];lia,n2.same s10⟩
    ·have c:gs.getD j 0<=(i:Int):=by lia
     rw[j2i c];exists⟨w,a6,rfl,L,ed,nw,?_,?_,?_⟩
     ·rw[ZE g.1,append_nil];exact ew
     ·rw[ZE g.1,append_nil];lia
     ·rw[Qr];exact k4
   rintro σ' H10 ⟨w',th,rfl,ab,ed,aC,a5,av,HT⟩;have e1:(cutT gs (i:Int) j).1=j:=by unfold cutT;split<;>rfl
   have ag:=j0r X hf (h:=h) (t:=(i:Int)) S;rw[<-eF]at ag;rw[e1]at HT;have mr:=fun {q:Nat} (hq:q<(nmsOf f).length)=>j3r X jf (t:=(cutT gs (i:Int) j).2) ag hl hq
   have ao:((is.take (u+1)).map (cutT gs (i:Int))).foldl (fun h x=>plN (nmsOf f) a D gs E x.1 x.2 h) h=plN (nmsOf f) a D gs E j (cutT gs (i:Int) j).2 F:=by
    rw[take_snoc S,vk,foldl_append,<-eF];show plN _ _ _ _ _ (cutT gs (i:Int) j).1 _ _=_;rw[e1]
   have aw:W++rgN a D gs (cutT gs (i:Int) j).1 (cutT gs (i:Int) j).2=((is.take (u+1)).map (cutT gs (i:Int))).flatMap fun x=>rgN a D gs x.1 x.2:=by
    rw[take_snoc S,vk,flatMap_append,<-eW];simp
   rw[aw]at a5 av;generalize hG:plN (nmsOf f) a D gs E j (cutT gs (i:Int) j).2 F=G at mr ao;generalize plN (nmsOf f) a D gs E j (cutT gs (i:Int) j).2 h=tv at HT mr;have Gl:G.length=(nmsOf f).length:=by rw[<-hG,yW,fl]
   obtain⟨_,_,o',a4⟩:=ac.same (sm.trans ab);exists j1F ?_;exists⟨hd,o',_,rfl,a4,?_⟩;refine j0S (fun v Z I=>IvE2 fun(C:Option V) (F':List Int)=>IvA6 (Z=[some (.ref b),some (.ref nb),some (.ref hd),some (.ref pr),some (.ref rl),some (.int (i:Nat)),some (.ref d),some (.ref w'),some (.ref ad),some (.ref a6),some (.ref th),C]) (Same H6 I) (∀c u,c≠d->H10 c=some u->I c=some u) (I d=some (.dK (knK (nmsOf f) F'))) (F'.length=(nmsOf f).length) (∀q,q<(nmsOf f).length->F'.getD q 0=if q<v then G.getD q 0 else F.getD q 0))
    ⟨_,F,rfl,ab,fun c u _ h=>h,ed,fl,fun q _=>by rw[vd (Nat.not_lt_zero _)]⟩ ?_ ?_ ?_
   ·rintro v Z I _ ⟨C,F',rfl,J,kp,_⟩;exact kp _ _ (fun z=>by rw[z,ed]at a4;cases a4) a4
   ·rintro v qv Z ae hq ⟨C,F',rfl,J,kp,N,Y,a3⟩;have kk:=Q2 (nm:=nmsOf f) (gs:=h) hl.symm;have vl:v<(nmsOf f).length:=by
     have:=(vx.mp hq).1;have e2:=congrArg List.length kk;rw[vt,vt]at e2;lia
    obtain⟨y,hy⟩:∃y,(nmsOf f)[v]?=some y:=⟨_,vz vl⟩
    have ek:qv.1=Sum.inr y:=by
     have e1:((knK (nmsOf f) h).map (·.1))[v]?=some qv.1:=by rw[vv,hq];rfl
     rw[kk,vv,hy]at e1;exact(vK e1).symm
    rw[ek];show gName 11 (.str y) _ _ _;have a9:HtA ae (nmsOf f) th tv:=by
     obtain⟨a1,a2,o2,e2⟩:=HT;exact⟨a1,a2,o2,kp _ _ (fun z=>by rw[z,ed]at e2;cases e2) e2⟩
    have af:=ac.same (sm.trans J);have kl:(knK (nmsOf f) F').length<=8:=by
     have e2:=congrArg List.length (Q2 (nm:=nmsOf f) (gs:=F') Y.symm);rw[vt,vt]at e2;have:=X.l8;lia
    have mq:∀{q:Nat},q<(nmsOf f).length->G.getD q 0=if tv.getD q 0≠h.getD q 0 then tv.getD q 0 else F.getD q 0:=fun {q} hq=>by
     rw[vy,mr hq];rfl
    exists⟨th,_,rfl,a9.get X.lnd hy,?_⟩;exists⟨hd,_,rfl,af.get X.lnd hy,?_⟩;exists iteN (fun c=>?_) (fun c=>?_)
    ·exists⟨th,_,rfl,a9.get X.lnd hy,?_⟩;exists⟨d,_,rfl,DPut.k (k:=Sum.inr y) N (by lia),?_⟩;rw[Xs X.lnd Y.symm hy];refine⟨_,F'.set v (tv.getD v 0),rfl,fun c u hc=>(jh (je hc hd7)).trans (J _ _ hc),fun c u hc h=>(jh hc).trans (kp c u hc h),jC,by rw[length_set,Y],fun q hq=>?_⟩;by_cases z:v=q
     ·subst z;rw[vy,List.getElem?_set_self (by lia),ve (Nat.lt_succ_self _),mq hq,ve c];rfl
     ·rw[vy,List.getElem?_set_ne z,<-vy,a3 q hq];by_cases z2:q<v
      ·rw[ve z2,ve (by lia)]
      ·rw[vd z2,vd (by lia)]
    ·exists⟨_,F',rfl,J,kp,N,Y,fun q am=>?_⟩;rw[a3 q am];by_cases z:q=v
     ·subst z;rw[vd (Nat.lt_irrefl _),ve (Nat.lt_succ_self _),mq am,vd (fun z=>z c)]
     ·by_cases z2:q<v
      ·rw[ve z2,ve (by lia)]
      ·rw[vd z2,vd (by lia)]
   ·rintro Z ae ⟨C,F',rfl,J,kp,N,Y,a3⟩;have kk:=congrArg List.length (Q2 (nm:=nmsOf f) (gs:=h) hl.symm);rw[vt,vt]at kk;have eG:F'=G:=j0Q Y Gl fun q hq=>by rw[a3 q hq,ve (by lia)]
    rw[eG]at N;exact⟨_,_,_,_,w',_,G,rfl,J,N,aC,kp _ _ (fun z=>by rw[z,ed]at a5;cases a5) a5,av,ao.symm,rfl⟩
  ·rintro Z H9 ⟨o8,o9,O,C,w,W,F,rfl,L,ed,nw,ew,wl,eF,eW⟩;rw[show(rs.map V.ref).length=is.length from(vt _).trans a8]at eF eW wl;rw[v2]at eF eW;obtain⟨c1,c2⟩:=j0m X hf h (t:=(i:Int)) (by lia) (by lia);rw[<-c1]at eF;rw[<-c2]at eW;subst eF;subst eW;have pb:=j3G X.D X.hnm X.nd X.lnd X.l8 ay X.e (vc _) (j:=k) (t:=(i:Int)) hk (by lia) hb;exists⟨.inl ⟨rfl,_,SqL.of (L _ _ R.e)⟩,?_⟩;exists⟨ue,?_⟩;walk_at"f c hc H10 s10 t10";have aa:=L.trans s10;exists⟨rl,_,_,rfl,rfl,aa _ _ R.e,by rw[vt];lia,?_⟩;have R':=R.push aa hd7 (s10 _ _ ed) (yW.trans hl) pb nw (s10 _ _ ew) t10;refine⟨_,_,_,_,_,_,_,ds++[d],a0++[c],rfl,?_⟩;have er:sideR (nmsOf f) a D gs E k h (i+1)=sideR (nmsOf f) a D gs E k h i++[(plN (nmsOf f) a D gs E k (i:Int) h,rgN a D gs k (i:Int))]:=by
    unfold sideR;rw[range_succ,vk];rfl
   rw[er];rw[vk]at R';exact R'
 ·rintro Z H6 ⟨o5,o6,o7,o8,o9,O,C,ds,a0,rfl,R⟩;have nn:(1+gs.getD k 0).toNat=(gs.getD k 0).toNat+1:=by lia
  rw[nn]at R;have aq:(sideR (nmsOf f) a D gs E k h ((gs.getD k 0).toNat+1)).length=(gs.getD k 0).toNat+1:=by unfold sideR;rw[vt,length_range]
  have l1:=R.l1;have l2:=R.l2;obtain⟨dl,ak⟩:∃dl,ds[(gs.getD k 0).toNat]?=some dl:=⟨_,vz (by lia)⟩
  obtain⟨cl,aj⟩:∃cl,a0[(gs.getD k 0).toNat]?=some cl:=⟨_,vz (by lia)⟩
  have hx:(sideR (nmsOf f) a D gs E k h ((gs.getD k 0).toNat+1))[(gs.getD k 0).toNat]?=some (setE (E.getD k []) h,rgN a D gs k (gs.getD k 0)):=by
   unfold sideR;rw[vv,List.getElem?_range (by lia)];show some (plN _ _ _ _ _ _ (((gs.getD k 0).toNat:Nat):Int) _,rgN _ _ _ _ (((gs.getD k 0).toNat:Nat):Int))=_;rw[show(((gs.getD k 0).toNat:Nat):Int)=gs.getD k 0 by lia,Qr]
  obtain⟨wl,_,ax,_⟩:=R.a _ _ _ _ ak aj hx;exists xN ?_;exists⟨rl,_,rfl,SqL.of R.e,?_⟩;rw[w4 (n:=(gs.getD k 0).toNat) (by rw[vt];lia),<-map_take];walk_at"f l hl' H7 s7 t7";exists ixLm (SqL.of (s7 _ _ R.e)) (KF (n:=(gs.getD k 0).toNat+1) (by lia) (by rw[vt];lia) (by rw[vv,Nat.add_sub_cancel,aj];rfl)) ?_;exists ixTm (SqT.of (s7 _ _ ax)) rfl ?_;exists⟨ue,?_⟩;walk_at"f p hp H8 s8 t8";have au:=s7.trans s8;refine⟨ds,R.nd,fun d hd=>?_,fun H9 fz=>?_⟩
  ·obtain⟨aA,e⟩:=R.opn hd;exact⟨aA,au _ _ e⟩
  ·obtain⟨k1,k2⟩:=R.run au (s8 _ _ t7) t8 ak hx fz;have er:(sideR (nmsOf f) a D gs E k h ((gs.getD k 0).toNat+1)).take (gs.getD k 0).toNat=runR (nmsOf f) a D gs E k h:=by
    unfold sideR runR;rw[<-map_take,List.take_range,Nat.min_eq_left (by lia)]
   rw[er]at k2;exact q p H9 (ar.trans k1) k2
theorem kE(T:Txt K mg t):FnOk P w K mg base CX0 1 t.JM t.JO ["_law_book_here","_law_name","_law_heights"] (sp_runR 0):=by
 refine T.QS.ok Jg (fun c H Q E h=>?_) (fun b A a s H c Q E d h=>?_)
 ·exact ug h (Xz)
 ·exact ug h (Xz)
theorem WB{rd rl:Nat}(T:Txt K mg t)(hrl:1<=rl)(Jk:FnOk P w K mg base CX0 1 t.Jy t.JD ["_law_form_here","_law_heights"] (sp_climbR))(kD:FnOk P w K mg base CX0 (rl+1) t.Qn t.Qp ["_law_book_here","_law_names","_law_heights"] (sp_besideR rd))(qC:FnOk P w K mg base CX0 rl t.JM t.JO ["_law_book_here","_law_name","_law_heights"] (sp_runR rd)):FnOk P w K mg base CX0 (rl+2) t.JM t.JO ["_law_book_here","_law_name","_law_heights"] (sp_runR (rd+1)):=by
 refine T.QS.ok Jg (fun vs H Q E h=>?_) (fun ag A ad s H vs Q E hr h=>?_)
 ·cases h;subst_vars;rfl
 obtain⟨b,pl,pp,J,a6,R,O,d,N,M,W,E,h,j,rfl,B,X,jl,jm,Hh,q⟩:=h;refine⟨_,(jb (jp (i:=3) Jg.nd rfl (.inl rfl) (JV (qO hr) (JT (YO rfl) (by rfl) T.YJ yd (ja (ji jt (pv 0) jd) jc)) (pv 1)))
  (jb (j2 (jo j5 (ji jt (pv 3) jd) jB (nomark _))
   (jg (jA (jr (Jk.mono (Nat.le_succ_of_le hrl)) hr (by rfl) T.Y0 T.Ze.kp T.YD .nil pass0 (ja (pv 3) (ja (pv 2) jc)))))
   jw)
  (jb (j2 (PW.pt (WJ (jo j5 (ji jt (pv 3) jd) jB (nomark _)) (wA (jo j5 (ji jt (pv 3) jd) jB (nomark _)))))
   (jb (Yv (i:=4) (ow:=["_law_j"]) (ci:=[2]) rfl (CompScope.of (defScope zS) ["_law_book_here","_law_name","_law_heights","_law_form_here","_law_rows","_law_inner","_law_one","_law_more"] rfl rfl (by decide +kernel)) (qo (by decide)) Jg.nd rfl (.inl rfl) (JG (by rfl) T.qV (ja (ji jt (pv 3) (jq Qj (jz jR (by rfl) T.JJ Je (ja (pv 3) jc)) jd)) jc)) (fun _ _ _ _ _=>⟨(ju (i:=0) (JA ["_law_book_here","_law_name","_law_heights","_law_form_here","_law_rows","_law_inner","_law_one","_law_more"] rfl (by decide +kernel)) rfl (.inl rfl)),QM,(jK (ja (pv 1) (ja (jE jc) jc)))⟩))
   (jb (JU (jo j5 (ji jt (pv 3) jd) jB (nomark _))
    (jg (Zp (jK (ja (pv 2) (ja (jE (ja (ji jt (pv 3) jd) jc)) jc))) (Y9 (pv 4) jd set_list)))
    jw)
   (jg (jA (jK (ja (pv 4) (ja (pv 2) jc)))))))
   jw)
  (jb (j2 (jo j5 (ji jt (pv 3) jd) jB (nomark _))
   (jg (jA (jr kD hr (by rfl) T.kF T.ZH.kp T.kB .nil pass0 (ja (pv 0) (ja (ji jt (pv 3) jd) (ja (pv 2) jc))))))
   jw)
  (jb (jp (i:=5) Jg.nd rfl (.inl rfl) (ji jt (pv 3) jd))
  (jb (JU (jo j5 (ji jt (pv 3) jd) jB (nomark _))
   (jg (jp (i:=5) Jg.nd rfl (.inl rfl) (jq j3x (jE (ja (ji jt (pv 3) jd) jc)) (ji jt (pv 3) jd))))
   jw)
  (jb (jp (i:=4) Jg.nd rfl (.inl rfl) (jE jc))
  (jb (Jc PassesOwn.never rfl (j2S (pv 5)) (ju (i:=6) Jg.nd rfl (.inl rfl))
   (jb (Zp (jr (qC.mono (Nat.le_succ _)) hr (by rfl) T.ZR T.QS.kp T.ZL .nil pass0 (ja (pv 0) (ja (pv 6) (ja (pv 2) jc)))) (qD rfl (jF (ju (i:=7) Jg.nd rfl (.inl rfl)) (jF (ju (i:=2) Jg.nd rfl (.inr rfl)) JP))))
   (jg (jp (i:=4) Jg.nd rfl (.inl rfl) (jq zL (pv 4) (pv 7))))))
  (jg (jA (jK (ja (pv 4) (ja (pv 2) jc))))))))))))),?_⟩
 refine jG (σ':=[some _,some _,some _,none,none,none,none,none]) rfl ?_;have sz:(10000:Nat)<sizeLine:=by decide
 have ae:R.length=N.length:=B.pa.1.trans JF;have ah:=X.f17;have DB:DbK H b pl pp a6 R O d N M W:=⟨B,X.D,X.nd,X.hnm,by lia,by lia⟩
 obtain⟨g,hg⟩:=DB.forms;have ab:∀j,j<N.length->N[j]?=some (N.getD j (.hold 0)):=fun j hj=>by rw[vy,vz hj];rfl
 exists ixTm (SqT.of B.t) rfl ?_;refine⟨pp,R,fmK d g N.length,rfl,B.p,by unfold fmK;rw[vt,length_range];exact ae,fun i a q' h1 h2=>?_,?_⟩
 ·have il:i<N.length:=by have:=(vx.mp h1).1;lia
  rw[j0R il]at h2;cases h2;exact(hg i _ (ab i il)).1 a h1
 walk_at"f fd hfd H1 s1 t1";walk_at"g";have gF:DGet H1 fd (.str (d.getD j ⟨#[]⟩)) (some (.ref (g j))):=by
  have z:=DGet.k (k:=Sum.inr (d.getD j ⟨#[]⟩)) t1;rw[j2q X.nd X.hnm jl]at z;exact z
 refine⟨fd,_,rfl,gF,?_⟩;have F:=ab j jl;obtain⟨a0,mv,ln⟩:=X.D.f j _ F;have hF:=FormAt.same s1 (hg j _ F).2;have gj:=X.D.g j jl;have ai:=X.g90 j jl;have D:=Hh.same s1;have G:=a0.js.2;generalize N.getD j (.hold 0)=f at F a0 mv ln hF G;cases f with
 | rise x v n=>
  have l:H1 (g j)=some (.tup _):=hF;obtain⟨ex,v0,v1,n1,n2⟩:=a0;have ln:W.getD j 0=n:=ln;obtain⟨eR,eS⟩:=j0l X F h;exists ixTm (SqT.of l) rfl ?_;exists iteE1 ?_;exists⟨_,_,_,x,v,n,h,rfl,l,D,X.lnd,ex,X.l8,v0,v1,n1,by lia,fun r I s2 RA=>?_⟩;refine q r I (s1.trans s2) ?_;rw[eR,eS];exact RA
 | hold n=>
  have l:H1 (g j)=some (.tup _):=hF;have ln:W.getD j 0=n:=ln;obtain⟨eR,eS⟩:=j0j X F h;exists ixTm (SqT.of l) rfl ?_;exists iteE0 ?_;exists ixTm (SqT.of l) rfl ?_;exists iteE1 ?_;refine iteT ?_;exists⟨_,_,rfl,.inr ⟨_,SqT.of l,rfl⟩,?_⟩;exists ixTm (SqT.of l) rfl ?_;exists⟨_,rfl,by lia,by lia,?_⟩;refine ZP (fun u ys I=>IvE1 fun(e:List Addr)=>IvA2 (ys=e.map V.ref) (Same H1 I/\All2 (RwA I (nmsOf O)) e (List.replicate u (h,[])))) ⟨[],rfl,Same.refl _,.nil⟩ ?_ ?_
  ·rintro u ys I hu ⟨e,rfl,p,y⟩;have l2:=y.1;rw[length_replicate]at l2;refine J2 (σ':=[none,some (.ref J)]) rfl ?_;exists iteT ?_;exists⟨vb _,?_⟩;walk_at"f 3 t";exists⟨ue,?_⟩;walk_at"f 4 t";refine⟨by rw[vt];lia,e++[p4],by rw[vk];rfl,p.trans (s3.trans s4),?_⟩;rw[List.replicate_succ'];exact(y.mono fun a x=>RwA.same (s3.trans s4)).snoc ⟨J,p3,t4,D.same (p.trans (s3.trans s4)),s4 _ _ t3⟩
  rintro ys I ⟨e,rfl,p,y⟩;have l2:=y.1;rw[length_replicate]at l2;refine⟨by rw[vt];lia,?_⟩;walk_at"f rl hrl H3 s3 t3";have a3:=p.trans s3;have a5:=a3 _ _ l;exists⟨fun σ' o=>σ'=[some (.ref b),some (.str (d.getD j ⟨#[]⟩)),some (.ref J),some (.ref (g j)),some (.ref rl),none,none,none]/\H3=o,?_,?_⟩
  rotate_left
  ·exists ixTm (SqT.of a5) rfl ?_;exists iteE0 ?_;walk_at"g";exact⟨rfl,rfl⟩
  rintro σ' o ⟨rfl,rfl⟩;exists⟨ue,?_⟩;walk_at"f 5 t";refine q p5 H5 (s1.trans (a3.trans s5)) ?_;rw[eR,eS];exact⟨rl,J,e,t5,s5 _ _ t3,y.mono fun a x=>RwA.same (s3.trans s5),D.same (a3.trans s5)⟩
 | ring x n=>
  have l:H1 (g j)=some (.tup _):=hF;have ln:W.getD j 0=n:=ln;obtain⟨eR,eS⟩:=j0k X F h;exists ixTm (SqT.of l) rfl ?_;exists iteE0 ?_;exists ixTm (SqT.of l) rfl ?_;exists iteE0 ?_;exists ixTm (SqT.of l) rfl ?_;exists iteE1 ?_;exists⟨_,_,rfl,.inr ⟨_,SqT.of l,rfl⟩,?_⟩;exists ixTm (SqT.of l) rfl ?_;exists⟨_,rfl,by lia,by lia,?_⟩;refine ZP (fun u ys I=>IvE1 fun(e:List Addr)=>IvA2 (ys=e.map V.ref) (Same H1 I/\All2 (RwA I (nmsOf O)) e (List.replicate u (h,[])))) ⟨[],rfl,Same.refl _,.nil⟩ ?_ ?_
  ·rintro u ys I hu ⟨e,rfl,p,y⟩;have l2:=y.1;rw[length_replicate]at l2;refine J2 (σ':=[none,some (.ref J)]) rfl ?_;exists iteT ?_;exists⟨vb _,?_⟩;walk_at"f 3 t";exists⟨ue,?_⟩;walk_at"f 4 t";refine⟨by rw[vt];lia,e++[p4],by rw[vk];rfl,p.trans (s3.trans s4),?_⟩;rw[List.replicate_succ'];exact(y.mono fun a x=>RwA.same (s3.trans s4)).snoc ⟨J,p3,t4,D.same (p.trans (s3.trans s4)),s4 _ _ t3⟩
  rintro ys I ⟨e,rfl,p,y⟩;have l2:=y.1;rw[length_replicate]at l2;refine⟨by rw[vt];lia,?_⟩;walk_at"f rl hrl H3 s3 t3";have a3:=p.trans s3;have a5:=a3 _ _ l;exists⟨fun σ' o=>IvE1 fun L=>IvA3 (σ'=[some (.ref b),some (.str (d.getD j ⟨#[]⟩)),some (.ref J),some (.ref (g j)),some (.ref rl),none,none,none]) (Same H1 o) (o rl=some (.lst (L.map V.ref))/\All2 (RwA o (nmsOf O)) L ((List.replicate n.toNat (h,[])).set 0 (h,[x]))),?_,?_⟩
  rotate_left
  ·exists ixTm (SqT.of a5) rfl ?_;exists iteE1 ?_;exists ixTm (SqT.of a5) rfl ?_;exists⟨uf,?_⟩;walk_at"f w0 hw0 H4 s4 t4";exists⟨ue,?_⟩;walk_at"f c0 hc0 H5 s5 t5";have aa:=s4.trans s5;walk_at"g";have up:∀{b' u},H5 b'=some u->b'≠rl->upd H5 rl (.lst ((e.map V.ref).set 0 (.ref c0))) b'=some u:=fun Y n=>(jh n).trans Y
   have sU:Same I (upd H5 rl (.lst ((e.map V.ref).set 0 (.ref c0)))):=fun c u hc=>up (aa _ _ (s3 _ _ hc)) (je hc hrl)
   refine⟨rl,_,_,0,rfl,rfl,aa _ _ t3,(by unfold ixN;rw[ve (by decide),ve (by rw[vt];lia)];rfl),e.set 0 c0,rfl,fun c u hc=>sU _ _ (p _ _ hc),by rw[jC,List.map_set],?_⟩;refine(y.mono fun a x=>RwA.same sU).set ⟨J,w0,up t5 (fun z=>?_),(D.same p).same sU,up (s5 _ _ t4) (fun z=>?_)⟩
   ·rw[z,aa _ _ t3]at t5;cases t5
   ·rw[z,t3]at hw0;cases hw0
  rintro σ' H6 ⟨L,rfl,s6,t6,ac⟩;exists⟨ue,?_⟩;walk_at"f 7 t";refine q p7 H7 (s1.trans (s6.trans s7)) ?_;rw[eR,eS];exact⟨rl,J,L,t7,s7 _ _ t6,ac.mono fun a x=>RwA.same s7,D.same (s6.trans s7)⟩
 | side is=>
  obtain⟨U,l,Y⟩:=hF;exists ixTm (SqT.of l) rfl ?_;exists iteE0 ?_;exists ixTm (SqT.of l) rfl ?_;exists iteE0 ?_;exists ixTm (SqT.of l) rfl ?_;exists iteE0 ?_;exists ixTm (SqT.of l) rfl ?_;exists iteE1 ?_;exists ixTm (SqT.of l) rfl ?_;exists⟨b,pl,pp,J,U,a6,R,O,d,N,M,W,E,h,j,is,rfl,B.same s1,X,F,by rw[Y,v3];rfl,fun i Z=>by have:=G i Z;lia,D,fun r I s2 RA=>q r I (s1.trans s2) RA⟩
 | row is=>
  obtain⟨U,l,Y⟩:=hF;have aj:is.length<=8:=a0.2.1;have G:∀i∈is,i<j:=G;have Y:H1 U=some (.tup (is.map fun j=>V.str (d.getD j ⟨#[]⟩))):=by rw[Y,v3];rfl
  obtain⟨eR,eS⟩:=j1I X F h;exists ixTm (SqT.of l) rfl ?_;exists iteE0 ?_;exists ixTm (SqT.of l) rfl ?_;exists iteE0 ?_;exists ixTm (SqT.of l) rfl ?_;exists iteE0 ?_;exists ixTm (SqT.of l) rfl ?_;exists iteE0 ?_;exists ixTm (SqT.of l) rfl ?_;exists⟨fun σ' o=>σ'=[some (.ref b),some (.str (d.getD j ⟨#[]⟩)),some (.ref J),some (.ref (g j)),none,some (.ref U),none,none]/\H1=o,?_,?_⟩
  rotate_left
  ·exists ixTm (SqT.of l) rfl ?_;exists iteE0 ?_;walk_at"g";exact⟨rfl,rfl⟩
  rintro σ' o ⟨rfl,rfl⟩;exists⟨vb _,?_⟩;walk_at"f 5 t";have a2:=s1.trans s5;exists WK ?_;exists⟨U,rfl,.inr ⟨⟨_,SqT.of (s5 _ _ Y)⟩,?_⟩⟩;refine j2s (xs:=is.map fun j=>V.str (d.getD j ⟨#[]⟩)) (fun t σ o=>IvE5 fun(o6 o7:Option V) (rl m:Addr) (e:List Addr)=>IvA5 (σ=[some (.ref b),some (.str (d.getD j ⟨#[]⟩)),some (.ref m),some (.ref (g j)),some (.ref rl),some (.ref U),o6,o7]) (Same H5 o) (o rl=some (.lst (e.map V.ref))) (All2 (RwA o (nmsOf O)) e (seqR (nmsOf O) d N W E ((is).take t) h)) (e.length<=90*t/\HtA o (nmsOf O) m (((is).take t).foldl (fun h j=>setE (E.getD j []) h) h))) ⟨_,_,p5,J,[],rfl,Same.refl _,t5,.nil,vb _,D.same s5⟩ ?_ ?_ ?_
  ·rintro t σ o _ ⟨o6,o7,rl,m,e,rfl,S,_⟩;exact SqT.of (S _ _ (s5 _ _ Y))
  ·rintro t v σ H6 hv ⟨o6,o7,rl,m,e,rfl,S,e1,y,a8,C⟩;rw[vv]at hv;obtain⟨i,Z,rfl⟩:=vh.mp hv;have tl:=(vx.mp Z).1;have il:=G i (vm Z);exists⟨b,pl,pp,m,a6,R,O,d,N,M,W,E,_,i,rfl,B.same (a2.trans S),X,by lia,by lia,C,fun r H7 s7 RA=>?_⟩;obtain⟨a9,a7,a1,k1,k2,k3,k4⟩:=RA;have l2:=k3.1;have g2:=X.g90 i (by lia);rw[Jm]at l2;refine Qk (SqT.of k1) ?_;exists⟨rl,a9,_,_,rfl,rfl,s7 _ _ e1,k2,by rw[vt,vt];lia,?_⟩;walk_at"f 8 t";have a4:=s7.trans s8;refine⟨_,_,p8,a7,e++a1,rfl,S.trans a4,by rw[t8,vk],?_,by rw[vn];lia,?_⟩
   ·rw[take_snoc Z,kj];exact(y.mono fun a x=>RwA.same a4).app (k3.mono fun a x=>RwA.same s8)
   ·rw[take_snoc Z,foldl_append];exact k4.same s8
  ·rintro σ H6 ⟨o6,o7,rl,m,e,rfl,S,e1,y,a8,C⟩;rw[vt,v2]at y C;exists⟨ue,?_⟩;walk_at"f 9 t";refine q p9 H9 (a2.trans (S.trans s9)) ?_;rw[eR,eS];exact⟨rl,m,e,t9,s9 _ _ e1,y.mono fun a x=>RwA.same s9,C.same s9⟩
 | again k i=>
  have l:H1 (g j)=some (.tup _):=hF;obtain⟨k1,k2,ik⟩:=a0;have ln:W.getD j 0=k*W.getD i 0:=ln;have gi:=X.D.g i (by lia);have ak:k<=90:=by
   have:=Int.mul_le_mul_of_nonneg_left gi.1 (show 0<=k by lia);lia
  have G:∀i'∈List.replicate k.toNat i,i'<j:=fun i' h'=>by rw[(List.mem_replicate.mp h').2];exact ik
  have af:(List.replicate k.toNat i).length=k.toNat:=length_replicate;obtain⟨eR,eS⟩:=xO X F h;exists ixTm (SqT.of l) rfl ?_;exists iteE0 ?_;exists ixTm (SqT.of l) rfl ?_;exists iteE0 ?_;exists ixTm (SqT.of l) rfl ?_;exists iteE0 ?_;exists ixTm (SqT.of l) rfl ?_;exists iteE0 ?_;exists ixTm (SqT.of l) rfl ?_;exists⟨fun σ' o=>IvE1 fun U=>IvA2 (σ'=[some (.ref b),some (.str (d.getD j ⟨#[]⟩)),some (.ref J),some (.ref (g j)),none,some (.ref U),none,none]) (Same H1 o/\o U=some (.lst ((List.replicate k.toNat i).map fun j=>V.str (d.getD j ⟨#[]⟩)))),?_,?_⟩
  rotate_left
  ·exists ixTm (SqT.of l) rfl ?_;exists iteE1 ?_;exists ixTm (SqT.of l) rfl ?_;exists⟨uf,?_⟩;walk_at"f 3 t";exists ixTm (SqT.of (s3 _ _ l)) rfl ?_;refine⟨p3,_,_,rfl,rfl,t3,by lia,by lia,by show 1*_<=_;lia,?_⟩;walk_at"f 4 t";rw[X2]at t4;walk_at"g";exact⟨p4,rfl,s3.trans s4,by rw[t4,List.map_replicate]⟩
  rintro σ' H4 ⟨U,rfl,s4,Y⟩;exists⟨vb _,?_⟩;walk_at"f 5 t";have a2:=s1.trans (s4.trans s5);exists WK ?_;exists⟨U,rfl,.inl ⟨⟨_,SqL.of (s5 _ _ Y)⟩,?_⟩⟩;refine J0 (xs:=(List.replicate k.toNat i).map fun j=>V.str (d.getD j ⟨#[]⟩)) (fun t σ o=>IvE5 fun(o6 o7:Option V) (rl m:Addr) (e:List Addr)=>IvA5 (σ=[some (.ref b),some (.str (d.getD j ⟨#[]⟩)),some (.ref m),some (.ref (g j)),some (.ref rl),some (.ref U),o6,o7]) (Same H5 o) (o rl=some (.lst (e.map V.ref))) (All2 (RwA o (nmsOf O)) e (seqR (nmsOf O) d N W E ((List.replicate k.toNat i).take t) h)) (e.length<=90*t/\HtA o (nmsOf O) m (((List.replicate k.toNat i).take t).foldl (fun h j=>setE (E.getD j []) h) h))) ⟨_,_,p5,J,[],rfl,Same.refl _,t5,.nil,vb _,(D.same s4).same s5⟩ ?_ ?_ ?_
  ·rintro t σ o _ ⟨o6,o7,rl,m,e,rfl,S,_⟩;exact SqL.of (S _ _ (s5 _ _ Y))
  ·rintro t v σ H6 hv ⟨o6,o7,rl,m,e,rfl,S,e1,y,a8,C⟩;rw[vv]at hv;obtain⟨i,Z,rfl⟩:=vh.mp hv;have tl:=(vx.mp Z).1;have il:=G i (vm Z);exists⟨b,pl,pp,m,a6,R,O,d,N,M,W,E,_,i,rfl,B.same (a2.trans S),X,by lia,by lia,C,fun r H7 s7 RA=>?_⟩;obtain⟨a9,a7,a1,k1,k2,k3,k4⟩:=RA;have l2:=k3.1;have g2:=X.g90 i (by lia);rw[Jm]at l2;refine Qk (SqT.of k1) ?_;exists⟨rl,a9,_,_,rfl,rfl,s7 _ _ e1,k2,by rw[vt,vt];lia,?_⟩;walk_at"f 8 t";have a4:=s7.trans s8;refine⟨_,_,p8,a7,e++a1,rfl,S.trans a4,by rw[t8,vk],?_,by rw[vn];lia,?_⟩
   ·rw[take_snoc Z,kj];exact(y.mono fun a x=>RwA.same a4).app (k3.mono fun a x=>RwA.same s8)
   ·rw[take_snoc Z,foldl_append];exact k4.same s8
  ·rintro σ H6 ⟨o6,o7,rl,m,e,rfl,S,e1,y,a8,C⟩;rw[vt,v2]at y C;exists⟨ue,?_⟩;walk_at"f 9 t";refine q p9 H9 (a2.trans (S.trans s9)) ?_;rw[eR,eS];exact⟨rl,m,e,t9,s9 _ _ e1,y.mono fun a x=>RwA.same s9,C.same s9⟩
theorem wc(T:Txt K mg t)(qC:FnOk P w K mg base CX0 37 t.JM t.JO ["_law_book_here","_law_name","_law_heights"] (sp_runR 18)):FnOk P w K mg base CX0 38 t.Qx t.QD ["_law_book_here"] (sp_toldR):=by
 refine T.Ya.ok zW (fun vs H Q E h=>?_) (fun S A C s H vs Q E hr h=>?_)
 ·cases h;subst_vars;rfl
 obtain⟨b,N,pp,j,k,m,names,e,M,gs,E,rfl,B,X,Y,hb,q⟩:=h;refine⟨_,(jb (Zp (jr (qC.mono (by decide)) hr (by rfl) T.ZR T.QS.kp T.ZL .nil pass0 (ja (pv 0) (ja (ji jt (ji jv (ji jt (pv 0) jd) (Y8 Z1 jd)) jd) (ja (xG (JT (YO rfl) (by rfl) T.YJ yd (ja (ji jt (pv 0) jd) jc))) jc)))) (qD rfl (jF (ju (i:=1) zW.nd rfl (.inl rfl)) (jF (ju (i:=2) zW.nd rfl (.inl rfl)) JP))))
  (jg (jA (jq zL (pv 1) (jE (ja (jK (ja (pv 2) (ja (jE jc) jc))) jc)))))),?_⟩
 refine jG (σ':=[some _,none,none]) rfl ?_;have sz:(200:Nat)<sizeLine:=by decide
 have D:k.length=e.length:=B.pa.1.trans JF;have Z:=X.f17;have a0:=X.g90 (e.length-1) (by lia);obtain⟨f,hf⟩:∃f,e[e.length-1]?=some f:=⟨_,vz (by lia)⟩
 obtain⟨la,v,fb,U,_⟩:=B.pa.get (q0 (names:=names) hf);exists ixTm (SqT.of B.t) rfl ?_;exists ixLm (SqL.of B.p) (KF (n:=e.length) Y (by rw[vt];exact D) (by rw[vv,v];rfl)) ?_;exists ixTm (SqT.of U) rfl ?_;exists xN ?_;exists ixTm (SqT.of B.t) rfl ?_;exists⟨N,j,m.map fun q=>(q.1,V.int q.2),rfl,B.l,by rw[vt];exact B.la.1,fun i a q' h1 J=>?_,?_⟩
 ·rw[vv]at J;obtain⟨y,hy,rfl⟩:=vh.mp J;exact B.la.2 i a y h1 hy
 rw[j0L X.lnd];walk_at"f d hd H1 s1 t1";refine⟨[d],ut.mpr ⟨(fun z=>nomatch z),nodup_nil⟩,fun c hc=>by rw[vo.mp hc];exact⟨_,t1⟩,fun G I=>?_⟩;obtain⟨o,W⟩:=I.2 d vq _ t1;have O:Same H G:=fun c u hc=>(I.1 c fun z=>by rw[vo.mp z,hd]at hc;cases hc).trans (s1 _ _ hc)
 have R:HtA G (nmsOf m) d (m.map (·.2)):=⟨by unfold nmsOf;rw[vt,vt],hb,o,W⟩
 exists⟨b,N,pp,d,j,k,m,names,e,M,gs,E,_,e.length-1,rfl,B.same O,X,by lia,by lia,R,fun r H3 s3 RA=>?_⟩;obtain⟨rl,p,F,k1,k2,L,k4⟩:=RA;have l3:=L.1;rw[Jm]at l3;refine Qk (SqT.of k1) ?_;exists⟨vb _,?_⟩;walk_at"f w hw H4 s4 t4";exists⟨ue,?_⟩;walk_at"f c hc H5 s5 t5";exists⟨uf,?_⟩;walk_at"f l1 hl1 H6 s6 t6";have l:=s4.trans (s5.trans s6);refine⟨rl,l1,_,_,rfl,rfl,l _ _ k2,t6,by rw[vt];show _+1<=_;lia,?_⟩;walk_at"f l2 hl2 H7 s7 t7";have g:=l.trans s7;refine q l2 (F++[c]) H7 (O.trans (s3.trans g)) (by rw[t7,vk];rfl) ?_;exact(L.mono fun a x=>RwA.same g).snoc ⟨p,w,s7 _ _ (s6 _ _ t5),k4.same g,s7 _ _ (s6 _ _ (s5 _ _ t4))⟩
theorem j3u(T:Txt K mg t)(zG:FnOk P w K mg base CX0 8 t.qU t.qZ ["book","word","beat"] (sp_ringC))(zE:FnOk P w K mg base CX0 1 t.qS t.qX ["_law_found"] (Pr.WR))(Q9:FnOk P w K mg base CX0 6 t.Qv t.QB ["_law_script","_law_many","_law_bounds"] (yE bkF K))(Zh:FnOk P w K mg base CX0 38 t.Qx t.QD ["_law_book_here"] (sp_toldR)):FnOk P w K mg base CX0 39 t.Xa t.Wa ["_law_script"] (Pr.sp_law K):=by
 refine T.j31.ok zo (fun vs H Q E h=>?_) (fun ag A ab s H vs Q E S h=>?_)
 ·cases h;subst_vars;rfl
 obtain⟨a,C,rfl,hS,Y,hB,q⟩:=h;refine⟨_,(jb (jp (i:=1) zo.nd rfl (.inl rfl) (jz (XX rfl) (by rfl) T.Xb KJ (ja jd (ja (jz (yK rfl) (by rfl) T.j0D W8 (ja (jq Qj (jz jR (by rfl) T.JJ Je (ja (pv 0) jc)) jd) (ja jd jc))) jc))))
  (jb (Zp (jr (Q9.mono (by decide)) S (by rfl) T.Yh T.Zd.kp T.y6 .nil pass0 (ja (pv 0) (ja (pv 1) (ja (jE (ja jd (ja jd (ja jd (ja jd (ja jd jc)))))) jc)))) (qD rfl (jF (ju (i:=2) zo.nd rfl (.inl rfl)) (jF (ju (i:=3) zo.nd rfl (.inl rfl)) JP))))
  (jb (jp (i:=4) zo.nd rfl (.inl rfl) (jr (Zh.mono (by decide)) S (by rfl) T.Wr T.Ya.kp T.wP .nil pass0 (ja (pv 2) jc)))
  (jb (Jc PassesOwn.never rfl (Jh (jE (ja jB (ja jB (ja jB (ja (ji jt (ji jv (ji jt (pv 2) jd) jd) jd) (ja jB jc))))))) (ju (i:=5) zo.nd rfl (.inr rfl))
   (jb (jp (i:=6) zo.nd rfl (.inl rfl) jd)
   (jb (Jc PassesOwn.never rfl (JG (by rfl) T.qV (ja (jq jU (pv 3) jd) jc)) (ju (i:=7) zo.nd rfl (.inl rfl))
    (jb (JU (PW.pt (WJ (jo Zn (pv 3) jd (nomark _)) (WJ (jo j5 (jq j9 (pv 7) jd) jd (nomark _)) (wA (jo j33 (pv 7) (pv 3) (nomark _))))))
     (jb (jp (i:=8) zo.nd rfl (.inl rfl) (jr (zG.mono (by decide)) S (by rfl) T.K0 T.Z8.kp T.KA .nil pass0 (ja (pv 2) (ja (pv 5) (ja (pv 7) jc)))))
     (jg (j2 (PW.pt (WJ (xL (j3I (jr (zE.mono (by decide)) S (by rfl) T.KW T.Z6.kp T.Kx .nil pass0 (ja (pv 8) jc)))) (wA (jo j1p (pv 8) (pv 6) (nomark _)))))
      (jg (jA j1t))
      jw)))
     jw)
    (jg (j2 (jo WF (pv 7) (pv 3) (nomark _))
     (jg (jp (i:=6) zo.nd rfl (.inl rfl) (jq jU (pv 6) (jz jR (by rfl) T.JJ Je (ja (qA (ow:=["_law_one"]) (ci:=[5]) rfl (CompScope.of (defScope XI) ["_law_script","_law_many","_law_book_here","_law_beats","_law_rows","_law_word_here","_law_due","_law_beat","_law_found"] rfl rfl (by decide +kernel)) (qo (by decide)) (Jh (ji jt (ji jv (pv 4) (pv 7)) jd)) (fun _ _ _ _ _=>⟨(ju (i:=0) (JA ["_law_script","_law_many","_law_book_here","_law_beats","_law_rows","_law_word_here","_law_due","_law_beat","_law_found"] rfl (by decide +kernel)) rfl (.inl rfl)),(wp (jo j5 (pv 0) (pv 1) (nomark _))),(pv 0)⟩)) jc)))))
     jw))))
   (jg (j2 (PW.pt (Qd (jo j5 (pv 5) jB (nomark _)) (qB (jo j1p (pv 6) jd (nomark _)))))
    (jg (jA j1t))
    jw)))))
  (jg (jA (j2N (Y7 S.units) (pv 2) (ji jt (jr (Q9.mono (by decide)) S (by rfl) T.Yh T.Zd.kp T.y6 .nil pass0 (ja (pv 0) (ja (pv 1) (ja (jE (ja jd (ja jd (ja jd (ja jd (ja jd jc)))))) jc)))) jd) (nomark _)))))))),?_⟩
 refine jG (σ':=[some _,none,none,none,none,none,none,none,none]) rfl ?_;have sz:(20000:Nat)<sizeLine:=by decide
 exists⟨_,_,rfl,.inl ⟨_,hS,rfl⟩,?_⟩;rw[vt];exists⟨_,_,rfl,?_⟩;exists⟨_,_,rfl,?_⟩;obtain⟨d,em,a2,J⟩:∃d:Nat,(if(2:Int)<(if(16:Int)<(C.length:Int)-1 then 16 else(C.length:Int)-1)then(if(16:Int)<(C.length:Int)-1 then 16 else(C.length:Int)-1)else 2)=(d:Int)/\2<=d/\d<=16:=by
  refine⟨(if(2:Int)<(if(16:Int)<(C.length:Int)-1 then 16 else(C.length:Int)-1)then(if(16:Int)<(C.length:Int)-1 then 16 else(C.length:Int)-1)else 2).toNat,?_,?_,?_⟩<;>(split<;>split<;>lia)
 rw[em];exists⟨ub,?_⟩;walk_at"f bd hbd H1 s1 t1";exists⟨a,bd,C,d,4,9,7,4,90,rfl,s1.seq hS,Y,a2,J,⟨t1,by decide,by decide,by decide,by decide,by decide,by decide,by decide,by decide,by decide,by decide⟩,fun r b pl pp G I names m fs M gs H2 s2 a8 Bk D N fl nL nd nW l1 l8 a1 lW an gb eF=>?_⟩;have fw:=j0N D lW nW (by lia);have f:(drawnPs names fs).length=fs.length:=JF;have a7:(drawnPs names fs)[0]?=some (names.getD 0 ⟨#[]⟩,toldF names (fs.getD 0 (.hold 0))):=q0 (by rw[vy,vz (by lia)];rfl);have w0:Ws.isW (names.getD 0 ⟨#[]⟩)=true:=nW _ (getD_in (by lia));obtain⟨E,_,eE⟩:=EN.ex D a1 fs.length (vc _);have X:BkR (nmsOf m) names fs M gs E:=⟨D,by lia,nd,a1,by unfold nmsOf;rw[vt];exact l8,by lia,gb,eE,j3K N⟩
 have hb:Rm.hB (m.map (·.2)):=fun x hx=>by obtain⟨q,hq,rfl⟩:=vJ.mp hx;exact N.l18 q hq
 have g1:=D.g (fs.length-1) (by lia);have aj:=gb (fs.length-1) (by lia);have dd:=XH (names:=names) (gs:=gs) (j3d eF);refine Qk (SqT.of a8) ?_;exists⟨b,pl,pp,G,I,m,names,fs,M,gs,E,rfl,Bk,X,by lia,hb,fun l aq H3 s3 el al=>?_⟩;have o:=Bk.same s3;obtain⟨B,eB⟩:∃B:Nat,gs.getD (fs.length-1) 0=(B:Int):=⟨(gs.getD (fs.length-1) 0).toNat,by lia⟩
 exists ixTm (SqT.of o.t) rfl ?_;walk_at"g";obtain⟨c,hc,fb,Z,hf⟩:=o.pa.get a7;refine ixLm (SqL.of o.p) (jW (j:=0) (by rw[vv,hc];rfl)) ?_;exists ixTm (SqT.of Z) rfl ?_;exists⟨ub,?_⟩;walk_at"f wl hwl H4 s4 t4";have F:=o.same s4;have a6:=s4 _ _ el;have a5:=al.mono fun a x=>RwA.same s4
 have ad:Same H H4:=s1.trans (s2.trans (s3.trans s4));clear al el o Z hc hf;exists⟨wl,rfl,⟨_,SqL.of t4⟩,?_⟩;refine J0 (xs:=[V.str "ding",V.str "dong",V.str "din",V.str (names.getD 0 ⟨#[]⟩),V.str "dingdong"]) (fun t R k=>IvE4 fun(o5 o6 O n:Option V)=>R=[some (.ref a),some (.int (d:Nat)),some (.ref b),some (.int (gs.getD (fs.length-1) 0)),some (.ref l),o5,o6,O,n]/\Same H4 k) ⟨_,_,_,_,rfl,Same.refl _⟩ ?_ ?_ ?_
 ·rintro t R k _ ⟨o5,o6,O,n,rfl,sm⟩;exact SqL.of (sm _ _ t4)
 ·rintro t v R k g ⟨o5,o6,O,n,rfl,sm⟩;obtain⟨x,rfl,hx⟩:∃x:Str,v = .str x/\Ws.isW x=true:=by
   match t,g with
   | 0,g=>exact⟨_,(vK g).symm,by decide +kernel⟩
   | 1,g=>exact⟨_,(vK g).symm,by decide +kernel⟩
   | 2,g=>exact⟨_,(vK g).symm,by decide +kernel⟩
   | 3,g=>exact⟨_,(vK g).symm,w0⟩
   | 4,g=>exact⟨_,(vK g).symm,by decide +kernel⟩
  exists⟨_,rfl,by lia,by lia,?_⟩;refine qm (fun i R k=>IvE2 fun(O n:Option V)=>R=[some (.ref a),some (.int (d:Nat)),some (.ref b),some (.int (gs.getD (fs.length-1) 0)),some (.ref l),some (.str x),some (.int (rungN x (drawnPs names fs) gs (min i B))),O,n]/\Same H4 k) ⟨_,_,rfl,sm⟩ ?_ ?_
  ·rintro i R H5 hi ⟨O,n,rfl,e⟩;rw[v9];exists⟨fun σ' k=>∃(n:Option V),σ'=[some (.ref a),some (.int (d:Nat)),some (.ref b),some (.int (gs.getD (fs.length-1) 0)),some (.ref l),some (.str x),some (.int (rungN x (drawnPs names fs) gs (min i B))),some (.int (i:Nat)),n]/\Same H4 k,?_,?_⟩
   rotate_left
   ·exists iteD (fun c=>?_) (fun c=>?_)
    ·refine iteT ?_;exists⟨b,pl,pp,G,I,m,_,gs,M,x,_,rfl,F.same e,N,hx,fw,by lia,by rw[f];lia,fun H6 s6=>?_⟩;rw[f,show(min (i:Int) (gs.getD (fs.length-1) 0)).toNat=min i B by lia];exists⟨_,rfl,?_⟩;refine⟨true,rfl,?_⟩;refine iteF ?_;exists iteN (fun z=>ug rfl z) (fun _=>?_);walk_at"g";exact⟨_,rfl,e.trans s6⟩
    ·exists iteD (fun c2=>?_) (fun c2=>?_)
     ·refine iteT ?_;exists⟨b,pl,pp,G,I,m,_,gs,M,x,_,rfl,F.same e,N,hx,fw,by lia,by rw[f];lia,fun H6 s6=>?_⟩;rw[f,show(min (i:Int) (gs.getD (fs.length-1) 0)).toNat=min i B by lia];exists⟨_,rfl,?_⟩;refine⟨true,rfl,?_⟩;refine iteF ?_;exists iteN (fun z=>ug rfl z) (fun _=>?_);walk_at"g";exact⟨_,rfl,e.trans s6⟩
     ·exists iteD (fun c3=>?_) (fun c3=>?_)
      ·exists⟨b,pl,pp,G,I,m,_,gs,M,x,_,rfl,F.same e,N,hx,fw,by lia,by rw[f];lia,fun H6 s6=>?_⟩;rw[f,show(min (i:Int) (gs.getD (fs.length-1) 0)).toNat=min i B by lia];exists⟨_,rfl,?_⟩;refine⟨true,rfl,?_⟩;refine iteF ?_;exists iteN (fun z=>ug rfl z) (fun _=>?_);walk_at"g";exact⟨_,rfl,e.trans s6⟩
      ·walk_at"g";exact⟨_,rfl,e⟩
   rintro σ' H6 ⟨n,rfl,y⟩;exists iteD (fun c=>?_) (fun c=>?_)
   ·have ac:∃(hh:List Int) (W:List Str),(runR (nmsOf m) names fs gs E (fs.length-1) (m.map (·.2))++[(setE (E.getD (fs.length-1) []) (m.map (·.2)),[])])[i]?=some (hh,W)/\W.length<=5000/\rungN x (drawnPs names fs) gs (min (i+1) B)=rungN x (drawnPs names fs) gs (min i B)+((W.count x:Nat):Int):=by
     have rl:=Jm (L:=nmsOf m) (names:=names) (fs:=fs) (gs:=gs) (E:=E) (j:=fs.length-1) (h:=m.map (·.2));rcases Nat.lt_or_ge i B with z | z
     ·refine⟨_,_,(vA (by lia)).trans (zh (by lia)),X.w _ _ (by lia) (by lia),?_⟩;rw[Nat.min_eq_left (show i+1<=B by lia),Nat.min_eq_left (show i<=B by lia)];show _+(((ringsW (drawnPs names fs) gs (i:Int)).count x:Nat):Int)=_;unfold ringsW;rw[f];rfl
     ·refine⟨_,[],(vB (by lia)).trans (by rw[rl,show i-(gs.getD (fs.length-1) 0).toNat=0 by lia];rfl),vb _,?_⟩;rw[Nat.min_eq_right (show B<=i+1 by lia),Nat.min_eq_right z];show _=_+(0:Int);lia
    obtain⟨hh,W,a0,W5,er⟩:=ac;obtain⟨ra,aa,ah,ww,n1,_,n3⟩:=a5.get a0;have n1:=y _ _ n1;have n3:H6 ww=some (.lst (W.map V.str)):=y _ _ n3;exists ixLm (SqL.of (y _ _ a6)) (jW (j:=i) (by rw[vv,aa];rfl)) ?_;exists ixTm (SqT.of n1) rfl ?_;refine⟨ww,rfl,⟨_,SqL.of n3⟩,?_⟩;refine qi (xs:=W.map V.str) (fun u ys k=>ys=((W.take u).filter fun z=>decide (z=x)).map V.str/\H6=k) ⟨rfl,rfl⟩ ?_ ?_ ?_
    ·rintro u ys k _ ⟨rfl,rfl⟩;exact SqL.of n3
    ·rintro u v ys k g ⟨rfl,rfl⟩;rw[vv]at g;obtain⟨z,hz,rfl⟩:=vh.mp g;refine J2 (σ':=[none,some (.str x)]) rfl ?_;exists iteD (fun c=>?_) (fun c=>?_)
     ·walk_at"g";have lf:=length_filter_le (fun z=>decide (z=x)) (W.take u);have lt:=List.length_take_le' u W;refine⟨by rw[vt];lia,?_,rfl⟩;rw[take_snoc hz,filter_append,vk];congr 1;simp[c]
     ·refine⟨?_,rfl⟩;rw[take_snoc hz,filter_append,List.filter_cons_of_neg (by rw[vG c];decide)];show _=List.map V.str (_++[]);rw[append_nil]
    rintro ys k ⟨rfl,rfl⟩;rw[show(W.map V.str).length=W.length from vt _,v2];have lf:=length_filter_le (fun z=>decide (z=x)) W;refine⟨by rw[vt];lia,?_⟩;walk_at"f fl2 hfl2 H7 s7 t7";have ec:((W.filter fun z=>decide (z=x)).length:Int)=((W.count x:Nat):Int):=by
     rw[List.count_eq_length_filter];congr 2
    exists⟨_,_,rfl,.inl ⟨_,SqL.of t7,rfl⟩,?_⟩;rw[vt,ec];walk_at"g";rw[<-er];exact⟨_,_,rfl,y.trans s7⟩
   ·exists⟨some (.int (i:Nat)),n,?_,y⟩;rw[Nat.min_eq_right (show B<=i+1 by lia),Nat.min_eq_right (show B<=i by lia)]
  ·rintro R H5 ⟨O,n,rfl,e⟩;exists iteD (fun c=>?_) (fun c=>?_)
   ·have e0:rungN x (drawnPs names fs) gs (min (gs.getD (fs.length-1) 0+2).toNat B)=0:=by rw[c];exact dd _
    exists iteN (fun c=>ug e0 c) (fun _=>?_);walk_at"g";exact⟨_,_,_,_,rfl,e⟩
   ·refine iteF ?_;walk_at"g";exact⟨_,_,_,_,rfl,e⟩
 rintro R H5 ⟨o5,o6,O,n,rfl,e⟩;exists⟨ub,?_⟩;walk_at"f bd2 hbd2 H6 s6 t6";exists⟨a,bd2,C,d,4,9,7,4,90,rfl,(ad.trans (e.trans s6)).seq hS,Y,a2,J,⟨t6,by decide,by decide,by decide,by decide,by decide,by decide,by decide,by decide,by decide,by decide⟩,fun r2 b2 ao ap ae af a3 am ai M2 ak H7 s7 a9 a4 _ _ _ _ _ _ _ _ _ _ _ _ U=>?_⟩;rw[eF]at U;injection U with e1 e2;injection e2 with e2 e3;subst e1;subst e2;subst e3;exists ixTm (SqT.of a9) rfl ?_;have bo:BkOk m (drawnPs names fs):=⟨l8,fun p hp=>⟨lW _ (vJ.mpr ⟨p,hp,rfl⟩),N.l18 p hp⟩,by lia,fun p hp=>⟨by
  obtain⟨i,hi,rfl⟩:=vJ.mp hp;exact nW _ (getD_in (by have:=vZ.mp hi;lia)),fw p hp⟩⟩
 refine⟨_,_,(F.same ((e.trans s6).trans s7)).dv,a4.dv,(ko bo).ok (by decide),(ko bo).ok (by decide),?_⟩;rw[j0P bo];exact q _
theorem zP(T:Txt K mg t)(a:FnOk P w K mg base CX0 1 t.Jy t.JD ["_law_form_here","_law_heights"] (sp_climbR)):∀n,FnOk P w K mg base CX0 (1+2*n) t.JM t.JO ["_law_book_here","_law_name","_law_heights"] (sp_runR n)
 | 0=>kE T
 | n+1=>WB T (Nat.le_add_right _ _) a (Y5 T (Nat.le_add_right _ _) (zP T a n)) (zP T a n)
theorem j2a(T:Txt K mg t):FnOk P w K mg base CX0 39 t.Xa t.Wa ["_law_script"] (Pr.sp_law K):=by
 have i:FnOk P w K mg base CX0 1 t.qh t.qk _ _:=kM T;have r:FnOk P w K mg base CX0 1 t.QU t.QX _ _:=WD T;have a:FnOk P w K mg base CX0 2 t.zH t.zI _ _:=j1n T i r;have p:FnOk P w K mg base CX0 3 t.YI t.YS _ _:=j2L T i a;have l:FnOk P w K mg base CX0 4 t.ya t.yh _ _:=j1o T p;have F:FnOk P w K mg base CX0 1 t.qT t.qY _ _:=kL T;have x:FnOk P w K mg base CX0 1 t.Qy t.QE _ _:=we T;have D:FnOk P w K mg base CX0 5 t.zr t.zt _ _:=xE T a l F x;have y:FnOk P w K mg base CX0 1 t.Qz t.QF _ _:=wg T;have z:FnOk P w K mg base CX0 3 t.QA t.QG _ _:=wk T a y;have j:FnOk P w K mg base CX0 6 t.j4 t.Jf _ _:=Za T D z;have s:FnOk P w K mg base CX0 1 t.QV t.QY _ _:=WE T;have B:FnOk P w K mg base CX0 2 t.Jo t.Jp _ _:=ZV T s;have q:FnOk P w K mg base CX0 3 t.QT t.QW _ _:=WC T B;have G:FnOk P w K mg base CX0 8 t.qU t.qZ _ _:=kN T j q;have E:FnOk P w K mg base CX0 1 t.qS t.qX _ _:=kK T;have f:FnOk P w K mg base CX0 1 t.Jx t.JC _ _:=Yl T;have c:FnOk P w K mg base CX0 1 t.JL t.JN _ _:=kH T;have e:FnOk P w K mg base CX0 1 t.qJ t.qM _ _:=wd T;have C:FnOk P w K mg base CX0 1 t.qR t.qW _ _:=kJ T;have u:FnOk P w K mg base CX0 2 t.Qw t.QC _ _:=K6 T C;have d:FnOk P w K mg base CX0 1 t.qI t.qL _ _:=K8 T;have h:FnOk P w K mg base CX0 1 t.qg t.qj _ _:=kI T;have g:FnOk P w K mg base CX0 1 t.qH t.qK _ _:=K7 T;have b:FnOk P w K mg base CX0 2 t.JY t.JZ _ _:=wa T c;have H:FnOk P w K mg base CX0 3 t.qw t.qx _ _:=Y6 T b;have o:FnOk P w K mg base CX0 4 t.Jz t.JE _ _:=yw T b H;have n:FnOk P w K mg base CX0 5 t.Jw t.JB _ _:=yv T f c e d h g b o;have m:FnOk P w K mg base CX0 6 t.Qv t.QB _ _:=K5 T f c e u d h g n;have k:FnOk P w K mg base CX0 1 t.Jy t.JD _ _:=Ym T;have A:FnOk P w K mg base CX0 37 t.JM t.JO _ _:=zP T (k.mono (by decide)) 18;have v:FnOk P w K mg base CX0 38 t.Qx t.QD _ _:=wc T A;exact j3u T G E m v
end
@[elab_as_elim] theorem uu1{P:List Value->Prop}(us:List Value)(hl:us.length=1)(h:∀a0,P [a0]):P us:=match us,hl with | [a0],_=>h a0
theorem bb1{K:Frg}{x q:Str}{st:Stmt}{f:Addr}{l:FuncData}{m:Str}(F:Fun K x q st f l)(h:∀(kV j r:Value) (n:Option Addr) (i o:Value) (k:Value),bindArgs (W.fnOf x q (defArgs st) (defBody st) (defScope st) .none kV j r n i o) ⟨[k],[]⟩=pure ([m].zip [k])):Binds K l [m] []:=F.binds fun a b c d e g s p=>uu1 s p (h a b c d e g)
@[elab_as_elim] theorem uu2{P:List Value->Prop}(us:List Value)(hl:us.length=2)(h:∀a0 a1,P [a0,a1]):P us:=match us,hl with | [a0,a1],_=>h a0 a1
theorem bb2{K:Frg}{x q:Str}{st:Stmt}{f:Addr}{l:FuncData}{m n:Str}(F:Fun K x q st f l)(h:∀(kV j s:Value) (o:Option Addr) (i p:Value) (k a1:Value),bindArgs (W.fnOf x q (defArgs st) (defBody st) (defScope st) .none kV j s o i p) ⟨[k,a1],[]⟩=pure ([m,n].zip [k,a1])):Binds K l [m,n] []:=F.binds fun a b c d e g t r=>uu2 t r (h a b c d e g)
@[elab_as_elim] theorem uu3{P:List Value->Prop}(us:List Value)(hl:us.length=3)(h:∀a0 a1 a2,P [a0,a1,a2]):P us:=match us,hl with | [a0,a1,a2],_=>h a0 a1 a2
theorem bb3{K:Frg}{x q:Str}{st:Stmt}{f:Addr}{l:FuncData}{m n o:Str}(F:Fun K x q st f l)(h:∀(kV j t:Value) (p:Option Addr) (i r:Value) (k a1 a2:Value),bindArgs (W.fnOf x q (defArgs st) (defBody st) (defScope st) .none kV j t p i r) ⟨[k,a1,a2],[]⟩=pure ([m,n,o].zip [k,a1,a2])):Binds K l [m,n,o] []:=F.binds fun a b c d e g u s=>uu3 u s (h a b c d e g)
@[elab_as_elim] theorem uu4{P:List Value->Prop}(us:List Value)(hl:us.length=4)(h:∀a0 a1 a2 a3,P [a0,a1,a2,a3]):P us:=match us,hl with | [a0,a1,a2,a3],_=>h a0 a1 a2 a3
theorem bb4{K:Frg}{x q:Str}{st:Stmt}{f:Addr}{l:FuncData}{m n o p:Str}(F:Fun K x q st f l)(h:∀(kV j u:Value) (r:Option Addr) (i s:Value) (k a1 a2 a3:Value),bindArgs (W.fnOf x q (defArgs st) (defBody st) (defScope st) .none kV j u r i s) ⟨[k,a1,a2,a3],[]⟩=pure ([m,n,o,p].zip [k,a1,a2,a3])):Binds K l [m,n,o,p] []:=F.binds fun a b c d e g v t=>uu4 v t (h a b c d e g)
@[elab_as_elim] theorem uu5{P:List Value->Prop}(us:List Value)(hl:us.length=5)(h:∀a0 a1 a2 a3 a4,P [a0,a1,a2,a3,a4]):P us:=match us,hl with | [a0,a1,a2,a3,a4],_=>h a0 a1 a2 a3 a4
theorem bb5{K:Frg}{x q:Str}{st:Stmt}{f:Addr}{l:FuncData}{m n o p r:Str}(F:Fun K x q st f l)(h:∀(kV j v:Value) (s:Option Addr) (i t:Value) (k a1 a2 a3 a4:Value),bindArgs (W.fnOf x q (defArgs st) (defBody st) (defScope st) .none kV j v s i t) ⟨[k,a1,a2,a3,a4],[]⟩=pure ([m,n,o,p,r].zip [k,a1,a2,a3,a4])):Binds K l [m,n,o,p,r] []:=F.binds fun a b c d e g w u=>uu5 w u (h a b c d e g)
theorem j3Q{K:Frg}{h:Heap}{mg:Str->Option Value}(X:K.In h)(G:h.Ns mainGlobals mg)
  {a:Addr}
  (aC_RingTally:W.nsIn K mainGlobals "RingTally"= some (some (.ref a))) (pg_RingTally:W.plainGet K a Str.empty=true) (hd_RingTally:W.hasDictIn K a=true) (po_RingTally:W.plainOver K a=true) (sa_RingTally:W.findIn K (.ref a) "__setattr__"= some (some (.builtin "object.__setattr__"))) (mk_RingTally:W.makesIn K a=true) (kc_RingTally:W.keepIn K (.ref a)=true) (jT:W.findIn K (.ref a) "sizes"= some none) (Jj:W.findIn K (.ref a) "last"= some none) (jV:W.findIn K (.ref a) "pieces"= some none) (jQ:W.findIn K (.ref a) "wholes"= some none)
  {f1:Addr} {d1:FuncData}
  (a1:W.nsIn K mainGlobals "numbers_of"= some (some (.ref f1))) (F1:Fun K "numbers_of" "numbers_of" zU f1 d1)
  {f2:Addr} {d2:FuncData}
  (a2:W.nsIn K mainGlobals "names_in"= some (some (.ref f2))) (F2:Fun K "names_in" "names_in" ZZ f2 d2)
  {f3:Addr} {d3:FuncData}
  (a3:W.nsIn K mainGlobals "inner"= some (some (.ref f3))) (F3:Fun K "inner" "inner" Yx f3 d3)
  {f4:Addr} {d4:FuncData}
  (a4:W.nsIn K mainGlobals "ends"= some (some (.ref f4))) (F4:Fun K "ends" "ends" xR f4 d4)
  {f5:Addr} {d5:FuncData}
  (a5:W.nsIn K mainGlobals "moved"= some (some (.ref f5))) (F5:Fun K "moved" "moved" Yy f5 d5)
  {f6:Addr} {d6:FuncData}
  (a6:W.nsIn K mainGlobals "check_side"= some (some (.ref f6))) (F6:Fun K "check_side" "check_side" QQ f6 d6)
  {f7:Addr} {d7:FuncData}
  (a7:W.nsIn K mainGlobals "length_of"= some (some (.ref f7))) (F7:Fun K "length_of" "length_of" Zw f7 d7)
  {f8:Addr} {d8:FuncData}
  (a8:W.nsIn K mainGlobals "lengths"= some (some (.ref f8))) (F8:Fun K "lengths" "lengths" zx f8 d8)
  {f9:Addr} {d9:FuncData}
  (a9:W.nsIn K mainGlobals "pieces_in"= some (some (.ref f9))) (F9:Fun K "pieces_in" "pieces_in" Zx f9 d9)
  {f:Addr} {af:FuncData}
  (a10:W.nsIn K mainGlobals "pieces_of"= some (some (.ref f))) (E:Fun K "pieces_of" "pieces_of" zi f af)
  {g:Addr} {ag:FuncData}
  (a11:W.nsIn K mainGlobals "progress"= some (some (.ref g))) (F:Fun K "progress" "progress" Z0 g ag)
  {b:Addr} {ah:FuncData}
  (a12:W.findIn K (.ref a) "__init__"= some (some (.ref b))) (i12:W.isFn K (.ref b)=true) (d:Fun K "__init__" "RingTally.__init__" Jq b ah)
  {c:Addr} {ai:FuncData}
  (a13:W.findIn K (.ref a) "ahead"= some (some (.ref c))) (i13:W.isFn K (.ref c)=true) (e:Fun K "ahead" "RingTally.ahead" Qe c ai)
  {i:Addr} {aj:FuncData}
  (a14:W.nsIn K mainGlobals "ahead_of"= some (some (.ref i))) (H:Fun K "ahead_of" "ahead_of" ZY i aj)
  {j:Addr} {ak:FuncData}
  (a15:W.nsIn K mainGlobals "ring_count"= some (some (.ref j))) (I:Fun K "ring_count" "ring_count" zV j ak)
  {k:Addr} {al:FuncData}
  (a16:W.nsIn K mainGlobals "_law_cell_at"= some (some (.ref k))) (J:Fun K "_law_cell_at" "_law_cell_at" Q5 k al)
  {l:Addr} {am:FuncData}
  (a17:W.nsIn K mainGlobals "_law_mixed"= some (some (.ref l))) (L:Fun K "_law_mixed" "_law_mixed" zQ l am)
  {m:Addr} {an:FuncData}
  (a18:W.nsIn K mainGlobals "_law_whole"= some (some (.ref m))) (M:Fun K "_law_whole" "_law_whole" zT m an)
  {n:Addr} {ao:FuncData}
  (a19:W.nsIn K mainGlobals "_law_word"= some (some (.ref n))) (N:Fun K "_law_word" "_law_word" Zv n ao)
  {o:Addr} {ap:FuncData}
  (a20:W.nsIn K mainGlobals "_law_named"= some (some (.ref o))) (O:Fun K "_law_named" "_law_named" QP o ap)
  {p:Addr} {aq:FuncData}
  (a21:W.nsIn K mainGlobals "_law_form"= some (some (.ref p))) (P:Fun K "_law_form" "_law_form" Zr p aq)
  {q:Addr} {ar:FuncData}
  (a22:W.nsIn K mainGlobals "_law_long"= some (some (.ref q))) (Q:Fun K "_law_long" "_law_long" QI q ar)
  {r:Addr} {as:FuncData}
  (a23:W.nsIn K mainGlobals "_law_moves"= some (some (.ref r))) (R:Fun K "_law_moves" "_law_moves" zR r as)
  {s:Addr} {au:FuncData}
  (a24:W.nsIn K mainGlobals "_law_last"= some (some (.ref s))) (S:Fun K "_law_last" "_law_last" Zs s au)
  {u:Addr} {av:FuncData}
  (a25:W.nsIn K mainGlobals "_law_take"= some (some (.ref u))) (T:Fun K "_law_take" "_law_take" Zt u av)
  {v:Addr} {aw:FuncData}
  (a26:W.nsIn K mainGlobals "_law_naming"= some (some (.ref v))) (U:Fun K "_law_naming" "_law_naming" qz v aw)
  {w:Addr} {ax:FuncData}
  (a27:W.nsIn K mainGlobals "_law_form_told"= some (some (.ref w))) (Y:Fun K "_law_form_told" "_law_form_told" Qm w ax)
  {x:Addr} {ay:FuncData}
  (a28:W.nsIn K mainGlobals "_law_book_told"= some (some (.ref x))) (Z:Fun K "_law_book_told" "_law_book_told" Ql x ay)
  {y:Addr} {az:FuncData}
  (a29:W.nsIn K mainGlobals "_law_book"= some (some (.ref y))) (a0:Fun K "_law_book" "_law_book" Zq y az)
  {z:Addr} {aA:FuncData}
  (a30:W.nsIn K mainGlobals "_law_beside"= some (some (.ref z))) (aa:Fun K "_law_beside" "_law_beside" qy z aA)
  {A:Addr} {aB:FuncData}
  (a31:W.nsIn K mainGlobals "_law_climbed"= some (some (.ref A))) (ab:Fun K "_law_climbed" "_law_climbed" Q6 A aB)
  {B:Addr} {aC:FuncData}
  (a32:W.nsIn K mainGlobals "_law_run"= some (some (.ref B))) (ac:Fun K "_law_run" "_law_run" zS B aC)
  {C:Addr} {aD:FuncData}
  (a33:W.nsIn K mainGlobals "_law_told"= some (some (.ref C))) (ad:Fun K "_law_told" "_law_told" Zu C aD)
  {D:Addr} {aE:FuncData}
  (a34:W.nsIn K mainGlobals "law"= some (some (.ref D))) (ae:Fun K "law" "law" XI D aE)
  {qt:Addr}
  (g_MOST_NAMES:W.nsIn K mainGlobals "MOST_NAMES"= some (some (.ref qt))) (kk_MOST_NAMES:TabK K qt [("row",.flat (.int 8)),("side",.flat (.int 4))])
  (z0:W.nsIn K mainGlobals "abs"= some none) (z1:W.nsIn K mainGlobals "bool"= some none) (z2:W.nsIn K mainGlobals "dict"= some none) (z3:W.nsIn K mainGlobals "enumerate"= some none) (z4:W.nsIn K mainGlobals "int"= some none) (z5:W.nsIn K mainGlobals "isinstance"= some none) (z6:W.nsIn K mainGlobals "len"= some none) (z7:W.nsIn K mainGlobals "list"= some none) (z8:W.nsIn K mainGlobals "max"= some none) (z9:W.nsIn K mainGlobals "min"= some none) (z10:W.nsIn K mainGlobals "range"= some none) (z11:W.nsIn K mainGlobals "reversed"= some none) (z12:W.nsIn K mainGlobals "sorted"= some none) (z13:W.nsIn K mainGlobals "sum"= some none) (z14:W.nsIn K mainGlobals "tuple"= some none) (z15:W.nsIn K mainGlobals "zip"= some none) :
  ∃t:Ad,Txt K mg t:=by
 exact⟨⟨f1,_,f2,_,f3,_,f4,_,f5,_,f6,_,f7,_,f8,_,f9,_,f,_,g,_,b,_,c,_,i,_,j,_,k,_,l,_,m,_,n,_,o,_,p,_,q,_,r,_,s,_,u,_,v,_,w,_,x,_,y,_,z,_,A,_,B,_,C,_,D,_,a,_⟩,⟨F1,W.mg_of X G a1,bb1 F1 fun _ _ _ _ _ _ _=>rfl,
  F2,W.mg_of X G a2,bb1 F2 fun _ _ _ _ _ _ _=>rfl,
  F3,W.mg_of X G a3,bb1 F3 fun _ _ _ _ _ _ _=>rfl,
  F4,W.mg_of X G a4,bb1 F4 fun _ _ _ _ _ _ _=>rfl,
  F5,W.mg_of X G a5,bb1 F5 fun _ _ _ _ _ _ _=>rfl,
  F6,W.mg_of X G a6,bb3 F6 fun _ _ _ _ _ _ _ _ _=>rfl,
  F7,W.mg_of X G a7,bb2 F7 fun _ _ _ _ _ _ _ _=>rfl,
  F8,W.mg_of X G a8,bb1 F8 fun _ _ _ _ _ _ _=>rfl,
  F9,W.mg_of X G a9,bb3 F9 fun _ _ _ _ _ _ _ _ _=>rfl,
  E,W.mg_of X G a10,bb2 E fun _ _ _ _ _ _ _ _=>rfl,
  F,W.mg_of X G a11,bb3 F fun _ _ _ _ _ _ _ _ _=>rfl,
  d,⟨a12,i12,d.kp⟩,bb3 d fun _ _ _ _ _ _ _ _ _=>rfl,
  e,⟨a13,i13,e.kp⟩,bb2 e fun _ _ _ _ _ _ _ _=>rfl,
  H,W.mg_of X G a14,bb2 H fun _ _ _ _ _ _ _ _=>rfl,
  I,W.mg_of X G a15,bb3 I fun _ _ _ _ _ _ _ _ _=>rfl,
  J,W.mg_of X G a16,bb2 J fun _ _ _ _ _ _ _ _=>rfl,
  L,W.mg_of X G a17,bb2 L fun _ _ _ _ _ _ _ _=>rfl,
  M,W.mg_of X G a18,bb1 M fun _ _ _ _ _ _ _=>rfl,
  N,W.mg_of X G a19,bb2 N fun _ _ _ _ _ _ _ _=>rfl,
  O,W.mg_of X G a20,bb4 O fun _ _ _ _ _ _ _ _ _ _=>rfl,
  P,W.mg_of X G a21,bb5 P fun _ _ _ _ _ _ _ _ _ _ _=>rfl,
  Q,W.mg_of X G a22,bb2 Q fun _ _ _ _ _ _ _ _=>rfl,
  R,W.mg_of X G a23,bb3 R fun _ _ _ _ _ _ _ _ _=>rfl,
  S,W.mg_of X G a24,bb3 S fun _ _ _ _ _ _ _ _ _=>rfl,
  T,W.mg_of X G a25,bb2 T fun _ _ _ _ _ _ _ _=>rfl,
  U,W.mg_of X G a26,bb5 U fun _ _ _ _ _ _ _ _ _ _ _=>rfl,
  Y,W.mg_of X G a27,bb5 Y fun _ _ _ _ _ _ _ _ _ _ _=>rfl,
  Z,W.mg_of X G a28,bb3 Z fun _ _ _ _ _ _ _ _ _=>rfl,
  a0,W.mg_of X G a29,bb3 a0 fun _ _ _ _ _ _ _ _ _=>rfl,
  aa,W.mg_of X G a30,bb3 aa fun _ _ _ _ _ _ _ _ _=>rfl,
  ab,W.mg_of X G a31,bb2 ab fun _ _ _ _ _ _ _ _=>rfl,
  ac,W.mg_of X G a32,bb3 ac fun _ _ _ _ _ _ _ _ _=>rfl,
  ad,W.mg_of X G a33,bb1 ad fun _ _ _ _ _ _ _=>rfl,
  ae,W.mg_of X G a34,bb1 ae fun _ _ _ _ _ _ _=>rfl,
  ⟨pg_RingTally,hd_RingTally,po_RingTally,sa_RingTally⟩,⟨mk_RingTally,a12,i12,kc_RingTally⟩,W.mg_of X G aC_RingTally,jT,Jj,jV,jQ,
  W.mg_none_of X G z0,
  W.mg_none_of X G z1,
  W.mg_none_of X G z2,
  W.mg_none_of X G z3,
  W.mg_none_of X G z4,
  W.mg_none_of X G z5,
  W.mg_none_of X G z6,
  W.mg_none_of X G z7,
  W.mg_none_of X G z8,
  W.mg_none_of X G z9,
  W.mg_none_of X G z10,
  W.mg_none_of X G z11,
  W.mg_none_of X G z12,
  W.mg_none_of X G z13,
  W.mg_none_of X G z14,
  W.mg_none_of X G z15,
  W.mg_of X G g_MOST_NAMES,kk_MOST_NAMES⟩⟩
end K24
open PySem PySem.W PyProof.Rows
set_option maxRecDepth 100000 in
set_option maxHeartbeats 0 in
theorem PySem.Challenge.cw_camplay_k24_rings_counted_holds : PySem.Challenge.rw_camplay_k24_rings_counted.Holds := by
 w_on;o_law;k_head;(case hw=>w_witness2)
 k_fill
 refine L2.j23 (l:=PySem.Challenge.rw_camplay_k24_rings_counted) (n:=63) (k:=39) (x:="_law_script") (CX:=L2.CX0) (sp:=Pr.sp_law) rfl (by decide) rfl ⟨rfl,by decide,by decide⟩ (fun w h Y=>PySem.W.kIn_of Y) ?F (fun K H a ns hl hb hO hS=>⟨a,ns,rfl,hS,hl,hb,fun _=>rfl⟩) (fun _ _ _ _ z=>z)
 case F=>
  intro w mg fa h KX G hmg;have TT:∃t:K24.Ad,K24.Txt (L2.KOf KX) mg t:=by
   dsimp only[L2.KOf];refine' K24.j3Q KX G ?aC_RingTally ?pg_RingTally ?hd_RingTally ?po_RingTally ?sa_RingTally ?mk_RingTally ?kc_RingTally ?jT ?Jj ?jV ?jQ ?a1 (L2.jX ?l1 ?c1 ?k1) ?a2 (L2.jX ?l2 ?c2 ?k2) ?a3 (L2.jX ?l3 ?c3 ?k3) ?a4 (L2.jX ?l4 ?c4 ?k4) ?a5 (L2.jX ?l5 ?c5 ?k5) ?a6 (L2.jX ?l6 ?c6 ?k6) ?a7 (L2.jX ?l7 ?c7 ?k7) ?a8 (L2.jX ?l8 ?c8 ?k8) ?a9 (L2.jX ?l9 ?c9 ?k9) ?a10 (L2.jX ?l10 ?c10 ?k10) ?a11 (L2.jX ?l11 ?c11 ?k11) ?a12 ?i12 (L2.jX ?l12 ?c12 ?k12) ?a13 ?i13 (L2.jX ?l13 ?c13 ?k13) ?a14 (L2.jX ?l14 ?c14 ?k14) ?a15 (L2.jX ?l15 ?c15 ?k15) ?a16 (L2.jX ?l16 ?c16 ?k16) ?a17 (L2.jX ?l17 ?c17 ?k17) ?a18 (L2.jX ?l18 ?c18 ?k18) ?a19 (L2.jX ?l19 ?c19 ?k19) ?a20 (L2.jX ?l20 ?c20 ?k20) ?a21 (L2.jX ?l21 ?c21 ?k21) ?a22 (L2.jX ?l22 ?c22 ?k22) ?a23 (L2.jX ?l23 ?c23 ?k23) ?a24 (L2.jX ?l24 ?c24 ?k24) ?a25 (L2.jX ?l25 ?c25 ?k25) ?a26 (L2.jX ?l26 ?c26 ?k26) ?a27 (L2.jX ?l27 ?c27 ?k27) ?a28 (L2.jX ?l28 ?c28 ?k28) ?a29 (L2.jX ?l29 ?c29 ?k29) ?a30 (L2.jX ?l30 ?c30 ?k30) ?a31 (L2.jX ?l31 ?c31 ?k31) ?a32 (L2.jX ?l32 ?c32 ?k32) ?a33 (L2.jX ?l33 ?c33 ?k33) ?a34 (L2.jX ?l34 ?c34 ?k34) ?g_MOST_NAMES ?kk_MOST_NAMES ?z0 ?z1 ?z2 ?z3 ?z4 ?z5 ?z6 ?z7 ?z8 ?z9 ?z10 ?z11 ?z12 ?z13 ?z14 ?z15
   (case aC_RingTally=>k_is);(case pg_RingTally=>k_is);(case hd_RingTally=>k_is);(case po_RingTally=>k_is);(case sa_RingTally=>k_is);(case mk_RingTally=>k_is);(case kc_RingTally=>k_is);(case jT=>k_is);(case Jj=>k_is);(case jV=>k_is);(case jQ=>k_is)
   (case a1=>k_is);(case l1=>k_is);(case c1=>k_is);(case k1=>k_is)
   (case a2=>k_is);(case l2=>k_is);(case c2=>k_is);(case k2=>k_is)
   (case a3=>k_is);(case l3=>k_is);(case c3=>k_is);(case k3=>k_is)
   (case a4=>k_is);(case l4=>k_is);(case c4=>k_is);(case k4=>k_is)
   (case a5=>k_is);(case l5=>k_is);(case c5=>k_is);(case k5=>k_is)
   (case a6=>k_is);(case l6=>k_is);(case c6=>k_is);(case k6=>k_is)
   (case a7=>k_is);(case l7=>k_is);(case c7=>k_is);(case k7=>k_is)
   (case a8=>k_is);(case l8=>k_is);(case c8=>k_is);(case k8=>k_is)
   (case a9=>k_is);(case l9=>k_is);(case c9=>k_is);(case k9=>k_is)
   (case a10=>k_is);(case l10=>k_is);(case c10=>k_is);(case k10=>k_is)
   (case a11=>k_is);(case l11=>k_is);(case c11=>k_is);(case k11=>k_is)
   (case a12=>k_is);(case i12=>k_is)
   (case l12=>k_is);(case c12=>k_is);(case k12=>k_is)
   (case a13=>k_is);(case i13=>k_is)
   (case l13=>k_is);(case c13=>k_is);(case k13=>k_is)
   (case a14=>k_is);(case l14=>k_is);(case c14=>k_is);(case k14=>k_is)
   (case a15=>k_is);(case l15=>k_is);(case c15=>k_is);(case k15=>k_is)
   (case a16=>k_is);(case l16=>k_is);(case c16=>k_is);(case k16=>k_is)
   (case a17=>k_is);(case l17=>k_is);(case c17=>k_is);(case k17=>k_is)
   (case a18=>k_is);(case l18=>k_is);(case c18=>k_is);(case k18=>k_is)
   (case a19=>k_is);(case l19=>k_is);(case c19=>k_is);(case k19=>k_is)
   (case a20=>k_is);(case l20=>k_is);(case c20=>k_is);(case k20=>k_is)
   (case a21=>k_is);(case l21=>k_is);(case c21=>k_is);(case k21=>k_is)
   (case a22=>k_is);(case l22=>k_is);(case c22=>k_is);(case k22=>k_is)
   (case a23=>k_is);(case l23=>k_is);(case c23=>k_is);(case k23=>k_is)
   (case a24=>k_is);(case l24=>k_is);(case c24=>k_is);(case k24=>k_is)
   (case a25=>k_is);(case l25=>k_is);(case c25=>k_is);(case k25=>k_is)
   (case a26=>k_is);(case l26=>k_is);(case c26=>k_is);(case k26=>k_is)
   (case a27=>k_is);(case l27=>k_is);(case c27=>k_is);(case k27=>k_is)
   (case a28=>k_is);(case l28=>k_is);(case c28=>k_is);(case k28=>k_is)
   (case a29=>k_is);(case l29=>k_is);(case c29=>k_is);(case k29=>k_is)
   (case a30=>k_is);(case l30=>k_is);(case c30=>k_is);(case k30=>k_is)
   (case a31=>k_is);(case l31=>k_is);(case c31=>k_is);(case k31=>k_is)
   (case a32=>k_is);(case l32=>k_is);(case c32=>k_is);(case k32=>k_is)
   (case a33=>k_is);(case l33=>k_is);(case c33=>k_is);(case k33=>k_is)
   (case a34=>k_is);(case l34=>k_is);(case c34=>k_is);(case k34=>k_is)
   (case g_MOST_NAMES=>k_is);(case kk_MOST_NAMES=>(show PyProof.Rows.KTD.tabLook _ _ _ _=true);kernel_rfl)
   (case z0=>k_is)
   (case z1=>k_is)
   (case z2=>k_is)
   (case z3=>k_is)
   (case z4=>k_is)
   (case z5=>k_is)
   (case z6=>k_is)
   (case z7=>k_is)
   (case z8=>k_is)
   (case z9=>k_is)
   (case z10=>k_is)
   (case z11=>k_is)
   (case z12=>k_is)
   (case z13=>k_is)
   (case z14=>k_is)
   (case z15=>k_is)
  obtain⟨t,T⟩:=TT;obtain⟨_,_,kV,dc,pm,an,cd,ct,_,e,_⟩:=T.j31.ex;have e0:=hmg.symm.trans T.j3X;cases e0;refine⟨t.Wa,fun s v=>?_,fun base _ _=>K24.j2a T⟩;rw[e];exact .of_eq rfl
#print axioms PySem.Challenge.cw_camplay_k24_rings_counted_holds
