import PyProof.Rows.All
import Wide.All
import OpenK.AllK
import Wide.FinOn
import Lean
import PyProof.EqAt
import PyProof.EqKinds
import PyProof.TupleCall
import PySem.Challenge.RW_camplay_k49_rung_too_often
set_option Elab.async false
set_option linter.all false
set_option maxRecDepth 100000
set_option maxHeartbeats 4000000
open List (all_cons any_cons any_eq_true append_nil ext_getElem filterMap_cons filter_append filter_cons flatMap_cons flatMap_nil getD_eq_getElem?_getD getElem_map getElem_mem getElem_range length_append length_cons length_map length_nil length_range length_take lookup_cons map_append map_congr_left map_cons map_nil mem_append mem_append_left mem_append_right mem_cons mem_cons_of_mem mem_cons_self mem_filter mem_filterMap mem_flatMap mem_iff_getElem mem_map mem_range mem_singleton nodup_cons not_mem_nil of_mem_zip pairwise_cons pairwise_iff_getElem pairwise_map pairwise_singleton range_succ size_toArray sum_append sum_cons sum_nil take_length take_sublist)
abbrev vz:=@List.getElem?_eq_getElem
abbrev vy:=@List.getD_eq_getElem?_getD
abbrev vx:=@List.getElem?_eq_some_iff
abbrev vv:=@List.getElem?_map
abbrev vt:=@List.length_map
abbrev vq:=@List.mem_cons_self
abbrev vp:=@List.mem_cons_of_mem
abbrev vo:=@List.mem_singleton
abbrev vn:=@List.length_append
abbrev vm:=@List.mem_of_getElem?
abbrev vk:=@List.map_append
abbrev vj:=@List.length_take
abbrev vi:=@List.mem_append
abbrev vh:=@Option.map_eq_some_iff
abbrev vg:=@Int.emod_lt_of_pos
abbrev vf:=@Int.emod_nonneg
abbrev ve:=@if_pos
abbrev vd:=@if_neg
abbrev vc:=@Nat.le_refl
abbrev vb:=@Nat.zero_le
abbrev va:=@Int.le_refl
abbrev vA:=@List.getElem?_append_left
abbrev vB:=@List.getElem?_append_right
abbrev vC:=@Nat.lt_of_le_of_lt
abbrev vD:=@Nat.ne_of_lt
abbrev vE:=@Bool.false_ne_true
abbrev vF:=@decide_eq_true
abbrev vG:=@decide_eq_false
abbrev vH:=@PySem.Heap.lt_size
abbrev vI:=@PySem.Heap.get?_push_of_some
abbrev vJ:=@List.mem_map
abbrev vK:=@Option.some.inj
abbrev vL:=@Int.mul_nonneg
abbrev vO:=@List.length_cons
abbrev vS:=@Int.mul_le_mul_of_nonneg_right
abbrev vU:=@Nat.le_trans
abbrev vW:=@Nat.le_of_lt
abbrev vX:=@Nat.lt_trans
abbrev vZ:=@List.mem_range
abbrev v3:=@List.take_length
abbrev v4:=@List.map_map
abbrev v7:=@List.map_cons
abbrev um:=@PySem.wpAny_bind
abbrev ul:=@PySem.wpAny_pure
abbrev uk:=@absurd
theorem uj:1<=PySem.sizeLine:=by decide
theorem ui:2<=PySem.sizeLine:=by decide
theorem uh:3<=PySem.sizeLine:=by decide
theorem ug:4<=PySem.sizeLine:=by decide
abbrev Frg := PySem.W.Frag
namespace L2
open PySem PySem.Spec PyProof.Rows
noncomputable abbrev Key:=Sum Int Str
noncomputable def keyIs:Key->Value->Bool
 | .inl k,v=>Value.isInt k v
 | .inr x,v=>Value.isStrOf x v
noncomputable def keyH(w:World):Key->Int
 | .inl k=>hashInt k
 | .inr x=>hashStr w x
theorem jN:∀{k:Key} {v:Value},keyIs k v=true->(∃i t,k=Sum.inl i/\v=Value.int i t)\/(∃x t,k=Sum.inr x/\v=Value.str x t)
 | .inl i,v,h=>by
  obtain⟨t,e⟩:=Value.isInt_shape (k:=i) (v:=v) h;exact .inl ⟨i,t,rfl,e⟩
 | .inr x,v,h=>by
  obtain⟨t,e⟩:=Value.isStrOf_shape (x:=x) (v:=v) h;exact .inr ⟨x,t,rfl,e⟩
theorem ZR(i:Int)(t:Tok):keyIs (.inl i) (.int i t)=true:=by simp[keyIs,Value.isInt]
theorem KF(x:Str)(t:Tok):keyIs (.inr x) (.str x t)=true:=by simp[keyIs,Value.isStrOf]
theorem xS(a b:Int):decide ((Sum.inl a:Key)=Sum.inl b)=(a==b):=by
 by_cases e:a=b
 ·subst e;simp
 ·have h:¬(Sum.inl a:Key)=Sum.inl b:=fun q=>e (Sum.inl.inj q)
  rw[vG h];exact(beq_eq_false_iff_ne.mpr e).symm
theorem xV(a b:Str):decide ((Sum.inr a:Key)=Sum.inr b)=decide (a=b):=by
 by_cases e:a=b
 ·subst e;simp
 ·have h:¬(Sum.inr a:Key)=Sum.inr b:=fun q=>e (Sum.inr.inj q)
  rw[vG h,vG e]
theorem xT(a:Int)(b:Str):decide ((Sum.inl a:Key)=Sum.inr b)=false:=vG (fun q=>nomatch q)
theorem xU(a:Str)(b:Int):decide ((Sum.inr a:Key)=Sum.inl b)=false:=vG (fun q=>nomatch q)
noncomputable def mixKind(prog:Program)(w:World):PySem.KeyKind prog w Key where
 is:=keyIs
 hash:=keyH w
 inj:=fun v a b ha hb=>by
  rcases jN ha with⟨i,t,rfl,rfl⟩ | ⟨x,t,rfl,rfl⟩
  ·rcases jN hb with⟨j,u,rfl,e⟩ | ⟨y,u,rfl,e⟩
   ·injection e with e1 _;rw[e1]
   ·exact nomatch e
  ·rcases jN hb with⟨j,u,rfl,e⟩ | ⟨y,u,rfl,e⟩
   ·exact nomatch e
   ·injection e with e1 _;rw[e1]
 byValue:=fun k v h=>by
  rcases jN h with⟨i,t,rfl,rfl⟩ | ⟨x,t,rfl,rfl⟩<;>rfl
 pyHash:=fun hv h=>by
  rcases jN hv with⟨i,t,rfl,rfl⟩ | ⟨x,t,rfl,rfl⟩
  ·exact wpAny_pyHash_int h
  ·exact wpAny_pyHash_str h
 eqBool:=fun hu hv h=>by
  rcases jN hu with⟨i,t,rfl,rfl⟩ | ⟨x,t,rfl,rfl⟩
  ·rcases jN hv with⟨j,u,rfl,rfl⟩ | ⟨y,u,rfl,rfl⟩
   ·rw[xS]at h;exact wpAny_eqBool_int h
   ·rw[xT]at h;exact SeqAt.EqAt.int_str i t y u _ _ _ _ h
  ·rcases jN hv with⟨j,u,rfl,rfl⟩ | ⟨y,u,rfl,rfl⟩
   ·rw[xU]at h;exact SeqAt.EqAt.str_int x t j u _ _ _ _ h
   ·rw[xV]at h;exact wpAny_eqBool_str h
 «strs»:=fun k x t v h=>by
  rcases jN h with⟨i,u,rfl,e⟩ | ⟨y,u,rfl,e⟩
  ·exact nomatch e
  ·injection e with e1 _;subst e1;cases v<;>rfl
theorem Yi(prog:Program)(w:World)(i:Int)(t:Tok):(mixKind prog w).is (.inl i) (.int i t)=true:=ZR i t
theorem Yj(prog:Program)(w:World)(x:Str)(t:Tok):(mixKind prog w).is (.inr x) (.str x t)=true:=KF x t
inductive V where
 | non | bl (b:Bool) | int (i:Int) | str (x:Str) | byt (b:Array UInt8) | flt (b:UInt64) | ref (a:Addr) | ty (n:String)
 deriving DecidableEq
noncomputable def RelV:V->Value->Prop
 | .non,u=>u=Value.none
 | .bl b,u=>u=Value.bool b
 | .int i,u=>∃t,u=Value.int i t
 | .str x,u=>∃t,u=Value.str x t
 | .byt b,u=>∃t,u=Value.bytes b t
 | .flt b,u=>∃t,u=Value.float b t
 | .ref a,u=>u=Value.ref a
 | .ty n,u=>u=Value.type n
noncomputable abbrev Vals:List V->List Value->Prop:=Paired RelV
theorem Vals.length(r:Vals xs us):xs.length=us.length:=Paired.length r
theorem Vals.get:∀{xs:List V} {a:List Value} {i:Nat} {x:V},Vals xs a->xs[i]?=some x->∃u,a[i]?=some u/\RelV x u
 | _,_,_,_,.nil,e=>by simp at e
 | _,_,0,_,.cons r _,e=>by simp at e;subst e;exact⟨_,rfl,r⟩
 | _,_,i+1,x,.cons _ t,e=>by
  obtain⟨u,b,c⟩:=Vals.get (i:=i) (x:=x) t (by simpa using e);exact⟨u,by simpa using b,c⟩
theorem Vals.append:∀{xs ys:List V} {a b:List Value},Vals xs a->Vals ys b->Vals (xs++ys) (a++b)
 | _,_,_,_,.nil,s=>s
 | _,_,_,_,.cons r t,s=>.cons r (Vals.append t s)
theorem Vals.take:∀{xs:List V} {a:List Value} (n:Nat),Vals xs a->Vals (xs.take n) (a.take n)
 | _,_,0,_=>.nil
 | _,_,_+1,.nil=>.nil
 | _,_,n+1,.cons r t=>.cons r (Vals.take n t)
theorem Vals.drop:∀{xs:List V} {a:List Value} (n:Nat),Vals xs a->Vals (xs.drop n) (a.drop n)
 | _,_,0,r=>r
 | _,_,_+1,.nil=>.nil
 | _,_,n+1,.cons _ t=>Vals.drop n t
noncomputable def RelO:Option V->Option Value->Prop
 | some v,some u=>RelV v u
 | none,none=>True
 | _,_=>False
noncomputable def KV{κ:Type}:List (κ×V)->List (κ×Value)->Prop:=Paired fun(p:κ×V) (q:κ×Value)=>p.1=q.1/\RelV p.2 q.2
noncomputable def kV:Key->V
 | .inl i=>.int i
 | .inr x=>.str x
inductive HO where
 | lst (xs:List V)
 | tup (xs:List V)
 | dK (kvs:List (Key×V)) | dT (kvs:List (List Key×V))
 | set (S:Int->Bool) (n:Nat)
 | ins (C dx:Addr) (fs:List (Str×V))
 | own (x:Addr)
 | xd (fs:List (Str×V))
 | met (f x:Addr)
 | rng (lo hi:Int)
 | frz (o:Obj) (u:HO)
 | tbl (ps:Array Value)
 | ext (φ:Heap->Prop)
noncomputable abbrev Hp:=Addr->Option HO
noncomputable def upd(H:Hp)(a:Addr)(o:HO):Hp:=fun b=>if b=a then some o else H b
theorem jt{H:Hp}:upd H a o a=some o:=by unfold upd;rw[ve rfl]
theorem jf{H:Hp}(h:b≠a):upd H a o b=H b:=by unfold upd;rw[vd h]
theorem Yk{H:Hp}(h:H a=some o)(h':H b=some u)(d:o≠u):a≠b:=by
 intro e;subst e;rw[h]at h';exact d (vK h')
theorem je{H:Hp}(h:H a=some o)(h':H b=none):a≠b:=by
 intro e;subst e;rw[h]at h';cases h'
section
variable(P:Program)(w:World)
noncomputable def ObjOk(H:Hp)(h:Heap)(a:Addr):HO->Prop
 | .lst xs=>xs.length<=sizeLine/\∃(its:List Value) (n:Nat),Vals xs its/\h.get? a=some {cls:=.type "list",data:=.seq its.toArray n}
 | .tup xs=>xs.length<=sizeLine/\∃its:List Value,Vals xs its/\IsTup h a its.toArray
 | .dK kvs=>kvs.length<=sizeLine/\(a==sysModules)=false/\∃vs,KV kvs vs/\h.DictOf (mixKind P w) a vs
 | .dT kvs=>kvs.length<=sizeLine/\(a==sysModules)=false/\∃xs:List (List Key×Addr×Value),
   Paired (fun(p:List Key×V) (q:List Key×Addr×Value)=>p.1=q.1/\H q.2.1=some (.tup (p.1.map kV))/\RelV p.2 q.2.2) kvs xs/\
   ∃o es ep,h.get? a=some o/\o.ExactDict/\o.data = .dict es ep/\es.toList=xs.map (entryOfKey (tupleKind (mixKind P w)))/\(xs.map (·.1)).Nodup
 | .set S n=>h.SetOf (intKind P w) a S n
 | .ins C dx fs=>H dx=some (.own a)/\fs.length<=1000/\dx≠a/\h.get? a=some (PySem.W.instObj C dx)/\
   ∃mA,h.Ns1 dx mA/\(∀f,RelO (fs.lookup f) (mA f))/\PySem.Within mA (fs.map (·.1))
 | .own _=>∃o,h.get? a=some o
 | .xd fs=>∃mA,h.Ns1 a mA/\∀f,RelO (fs.lookup f) (mA f)
 | .rng lo hi=>∃t u v,h.get? a=some {cls:=.type "range",data:=.fields #[.int lo t,.int hi u,.int 1 v]}
 | .frz o u=>h.get? a=some o/\ObjOk H h a u
 | .tbl ps=>h.get? a=some {cls:=.none,data:=.fields ps}
 | .met f x=>h.get? a=some (PySem.W.methodObj (.ref f) (.ref x))
 | .ext φ=>φ h/\(∃o,h.get? a=some o)/\∀h1 h2:Heap,φ h1->(∀o,h1.get? a=some o->h2.get? a=some o)->φ h2
def HOk(H:Hp)(h:Heap):Prop:=∀a o,H a=some o->ObjOk P w H h a o
end
section
variable{P:Program}{w:World}{H H':Hp}{h h':Heap}{a:Addr}{o:HO}
theorem ObjOk.lt(x:ObjOk P w H h a o):a<h.objs.size:=by
 cases o with
 | lst xs=>obtain⟨_,_,_,_,e⟩:=x;exact vH e
 | tup xs=>obtain⟨_,_,_,p⟩:=x;exact p.lt
 | dK kvs=>obtain⟨_,_,_,_,o,_,_,e,_⟩:=x;exact vH e
 | dT kvs=>obtain⟨_,_,_,_,o,_,_,e,_⟩:=x;exact vH e
 | set S n=>obtain⟨o,_,_,_,e,_⟩:=x;exact vH e
 | ins C dx fs=>obtain⟨_,_,_,e,_⟩:=x;exact vH e
 | own y=>obtain⟨_,e⟩:=x;exact vH e
 | xd fs=>obtain⟨_,⟨_,_,_,e,_⟩,_⟩:=x;exact vH e
 | rng lo hi=>obtain⟨_,_,_,e⟩:=x;exact vH e
 | frz ob u=>obtain⟨e,_⟩:=x;exact vH e
 | tbl ps=>exact vH (show h.get? a=some _ from x)
 | met f y=>exact vH (show h.get? a=some _ from x)
 | ext φ=>obtain⟨_,⟨_,e⟩,_⟩:=x;exact vH e
theorem Paired.mapP{c d:Type}{F G:c->d->Prop}:∀{l₁:List c} {l₂:List d},Paired F l₁ l₂->(∀a b,F a b->G a b)->Paired G l₁ l₂
 | _,_,.nil,_=>.nil
 | _,_,.cons r t,f=>.cons (f _ _ r) (Paired.mapP t f)
theorem ObjOk.stay(x:ObjOk P w H h a o)(k:∀b u,(b=a\/H b=some (.own a))->h.get? b=some u->h'.get? b=some u)
  (D:∀b,H b=some (.own a)->H' b=some (.own a)) (E:∀b xs,H b=some (.tup xs)->H' b=some (.tup xs)):ObjOk P w H' h' a o:=by
 induction o with
 | lst xs=>obtain⟨z,l,n,r,e⟩:=x;exact⟨z,l,n,r,k _ _ (.inl rfl) e⟩
 | tup xs=>obtain⟨z,l,r,g,e,c⟩:=x;exact⟨z,l,r,g,k _ _ (.inl rfl) e,c⟩
 | dK kvs=>obtain⟨z,y,G,r,g,j,i,e,c⟩:=x;exact⟨z,y,G,r,g,j,i,k _ _ (.inl rfl) e,c⟩
 | dT kvs=>
  obtain⟨z,y,xs,r,g,j,i,e,c⟩:=x;exact⟨z,y,xs,Paired.mapP r fun p q z=>⟨z.1,E _ _ z.2.1,z.2.2⟩,g,j,i,k _ _ (.inl rfl) e,c⟩
 | set S n=>obtain⟨g,j,i,t,e,c⟩:=x;exact⟨g,j,i,t,k _ _ (.inl rfl) e,c⟩
 | ins C dx fs=>
  obtain⟨d,z,F,e,m,⟨s,j,i,B,c⟩,r⟩:=x;exact⟨D _ d,z,F,k _ _ (.inl rfl) e,m,⟨s,j,i,k _ _ (.inr d) B,c⟩,r⟩
 | own y=>obtain⟨g,e⟩:=x;exact⟨g,k _ _ (.inl rfl) e⟩
 | xd fs=>obtain⟨m,⟨s,j,i,e,c⟩,r⟩:=x;exact⟨m,⟨s,j,i,k _ _ (.inl rfl) e,c⟩,r⟩
 | rng lo hi=>obtain⟨t,u,v,e⟩:=x;exact⟨t,u,v,k _ _ (.inl rfl) e⟩
 | frz g u ih=>obtain⟨e,q⟩:=x;exact⟨k _ _ (.inl rfl) e,ih q⟩
 | tbl ps=>
  have e:h.get? a=some {cls:=.none,data:=.fields ps}:=x;show h'.get? a=some {cls:=.none,data:=.fields ps};exact k a _ (.inl rfl) e
 | met f y=>
  have e:h.get? a=some (PySem.W.methodObj (.ref f) (.ref y)):=x;show h'.get? a=some (PySem.W.methodObj (.ref f) (.ref y));exact k a _ (.inl rfl) e
 | ext φ=>obtain⟨p,⟨o,e⟩,A⟩:=x;exact⟨A _ _ p fun o q=>k _ _ (.inl rfl) q,⟨o,k _ _ (.inl rfl) e⟩,A⟩
theorem HOk.lt(x:HOk P w H h)(e:H a=some o):a<h.objs.size:=(x a o e).lt
theorem HOk.fresh(x:HOk P w H h)(e:h.objs.size<=a):H a=none:=by
 cases q:H a with
 | none=>rfl
 | some u=>exact uk (Nat.lt_of_lt_of_le (x.lt q) e) (Nat.lt_irrefl _)
theorem HOk.kept(x:HOk P w H h)(k:∀b u,h.get? b=some u->h'.get? b=some u):HOk P w H h':=fun a o e=>
 (x a o e).stay (fun b u _ q=>k b u q) (fun _ q=>q) fun _ _ q=>q
theorem HOk.laid(x:HOk P w H h)(k:∀b u,h.get? b=some u->h'.get? b=some u)(i:h.objs.size<=a)(d:ObjOk P w (upd H a o) h' a o):HOk P w (upd H a o) h':=fun b u e=>by
 have g:=x.fresh i;by_cases f:b=a
 ·subst f;rw[jt]at e;cases e;exact d
 ·rw[jf f]at e;exact(x b u e).stay (fun c v _ q=>k c v q) (fun c q=>by rw[jf (je q g)];exact q) fun c j q=>by rw[jf (je q g)];exact q
end
def Rd(H:Hp)(a:Addr)(u:HO):Prop:=H a=some u\/∃o,H a=some (.frz o u)
theorem Rd.ok{H:Hp}(r:Rd H a u)(x:HOk P w H h):ObjOk P w H h a u:=by
 rcases r with r | ⟨o,r⟩
 ·exact x a u r
 ·obtain⟨_,q⟩:=x a _ r;exact q
noncomputable def Mut:Option HO->Prop
 | some (.lst _)=>True
 | some (.dK _)=>True
 | some (.dT _)=>True
 | some (.set _ _)=>True
 | some (.ins _ _ _)=>True
 | some (.ext _)=>True
 | _=>False
section
variable{P:Program}{w:World}{H:Hp}{h h':Heap}{x e:Addr}{o':HO}
theorem HOk.write(t:HOk P w H h)(j:Mut (H x))(o:e=x\/H e=some (.own x))(k:∀b u,b≠e->h.get? b=some u->h'.get? b=some u)(m:∃u,h'.get? e=some u)
  (n:ObjOk P w (upd H x o') h' x o'):HOk P w (upd H x o') h':=fun b u q=>by
 have d:∀c y,H c=some (.own y)->c≠x:=fun c y r z=>by subst z;rw[r]at j;exact j
 have f:∀c l,H c=some (.tup l)->c≠x:=fun c l r z=>by subst z;rw[r]at j;exact j
 by_cases g:b=x
 ·subst g;rw[jt]at q;cases q;exact n
 ·rw[jf g]at q;by_cases a:b=e
  ·have p:H b=some (.own x):=by
    rcases o with z | z
    ·exact uk (a.trans z) g
    ·rw[a];exact z
   rw[q]at p;cases p;obtain⟨v,s⟩:=m;exact⟨v,by rw[a];exact s⟩
  ·refine(t b u q).stay (fun c v i r=>k c v ?_ r) (fun c r=>by rw[jf (d c b r)];exact r) fun c l r=>by rw[jf (f c l r)];exact r
   rcases i with rfl | i
   ·exact a
   ·rintro rfl;rcases o with z | z
    ·exact d c b i z
    ·rw[i]at z;cases z;exact g rfl
end
structure Un(fs ex:List Addr)(H H':Hp)(h h':Heap):Prop where
 keep:∀b o,h.get? b=some o->H b=none->b∉fs->b∉ex->h'.get? b=some o
 slot:∀b o,h.get? b=some o->H b=none->b∈fs->b∉ex->∃sl,h'.get? b=some {o with slots:=sl}
 free:∀b o,h.get? b=some o->H b=none->b∉ex->H' b=none
 there:∀b o,h.get? b=some o->b∉ex->∃o',h'.get? b=some o'
 tups:∀b xs,H b=some (.tup xs)->H' b=some (.tup xs)
 frzs:∀b o u,H b=some (.frz o u)->H' b=some (.frz o u)
 tbls:∀b ps,H b=some (.tbl ps)->∃more,H' b=some (.tbl (ps++more))
section
variable{fs fs' ex ex':List Addr}{H H1 H2:Hp}{h h1 h2 h':Heap}{a x e:Addr}{o:HO}
theorem Un.any(u:Un fs ex H H1 h h1)(q:h.get? b=some ob)(n:H b=none)(c:b∉ex):∃d,h1.get? b=some {ob with slots:=d}:=by
 by_cases a:b∈fs
 ·exact u.slot b ob q n a c
 ·exact⟨ob.slots,u.keep b ob q n a c⟩
theorem Un.kept(k:∀b u,h.get? b=some u->h'.get? b=some u):Un fs ex H H h h':=
 ⟨fun b a q _ _ _=>k b a q,fun b a q _ _ _=>⟨a.slots,k b a q⟩,fun _ _ _ n _=>n,fun b a q _=>⟨a,k b a q⟩,fun _ _ q=>q,fun _ _ _ q=>q,fun _ c q=>⟨#[],by rw[q];simp⟩⟩
theorem Un.refl:Un fs ex H H h h:=Un.kept fun _ _ q=>q
theorem Un.laid(k:∀b u,h.get? b=some u->h'.get? b=some u)(d:h.objs.size<=a)(c:H a=none):Un fs ex H (upd H a o) h h' where
 keep:=fun b u q _ _ _=>k b u q
 slot:=fun b u q _ _ _=>⟨u.slots,k b u q⟩
 free:=fun b u q n _=>by rw[jf (vD (Nat.lt_of_lt_of_le (vH q) d))];exact n
 there:=fun b u q _=>⟨u,k b u q⟩
 tups:=fun b e q=>by rw[jf (je q c)];exact q
 frzs:=fun b u e q=>by rw[jf (je q c)];exact q
 tbls:=fun b f q=>⟨#[],by rw[jf (je q c),q];simp⟩
theorem Un.write(c:Mut (H x))(j:e=x\/H e=some (.own x))(k:∀b u,b≠e->h.get? b=some u->h'.get? b=some u)(d:∃u,h'.get? e=some u):Un fs ex H (upd H x o) h h':=by
 have i:∀b,H b=none->b≠x:=fun b n z=>by subst z;rw[n]at c;exact c
 have g:∀b,H b=none->b≠e:=fun b n z=>by
  subst z;rcases j with r | r
  ·exact i b n r
  ·rw[n]at r;cases r
 have f:∀b u,H b=some u->¬Mut (some u)->b≠x:=fun b u q l z=>by subst z;rw[q]at c;exact l c
 refine⟨fun b u q n _ _=>k b u (g b n) q,fun b u q n _ _=>⟨u.slots,k b u (g b n) q⟩,fun b u q n _=>by rw[jf (i b n)];exact n,fun b u q _=>?_,
  fun b m q=>by rw[jf (f b _ q fun z=>z)];exact q,fun b u m q=>by rw[jf (f b _ q fun z=>z)];exact q,fun b p q=>⟨#[],by rw[jf (f b _ q fun z=>z),q];simp⟩⟩
 by_cases a:b=e
 ·subst a;exact d
 ·exact⟨u,k b u a q⟩
end
noncomputable def trk(h:Heap)(H:Hp):List Addr:=(List.range h.objs.size).filter fun a=>(H a).isSome
noncomputable def hidT(h:Heap)(H:Hp):Heap:=PySem.W.hideAll h (trk h H)
theorem KC(h:Heap)(H:Hp):(hidT h H).objs.size=h.objs.size:=PySem.W.hideAll_size _ _
theorem wB{H:Hp}(e:h.get? b=some o)(n:H b=none):(hidT h H).get? b=some o:=
 PySem.W.hideAll_get _ e fun a=>by
  have q:(H b).isSome=true:=(mem_filter.mp a).2;rw[n]at q;simp at q
theorem W7{H:Hp}(e:(hidT h H).get? b=some o):h.get? b=some o/\H b=none:=by
 have a:h.get? b=some o:=PySem.W.of_hideAll (trk h H) e;refine⟨a,?_⟩;cases q:H b with
 | none=>rfl
 | some x=>
  have c:b∈trk h H:=mem_filter.mpr ⟨vZ.mpr (vH a),by simp[q]⟩;have z:(hidT h H).get? b=none:=PySem.W.hideAll_none (trk h H) c;rw[z]at e;cases e
structure Mod(K:Frg)(mg:Str->Option Value)(base:Heap):Prop where
 kin:K.In base
 glob:base.Ns mainGlobals mg
 blt:∃mb,base.Ns builtinsNs mb/\∀x:Str,x≠"__name__"->mb x=bootBuiltins x
 nolimit:base.NoLimit
structure Cx where
 prog:Program
 w:World
 K:Frg
 mg:Str->Option Value
 base:Heap
 A:Around
 N:List Str
 s₀:Shared
 H₀:Hp
 env:Env
 outer:List Env
 stack:List Env
 ex:List Addr
 fn:Str->Bool
 calm:Bool
 pn:List (Addr×Obj)
 xe:Value->Shared->Prop
noncomputable def frs(l:List Env):List Addr:=l.filterMap (·.frame)
noncomputable abbrev Cx.fs(X:Cx):List Addr:=frs X.outer
def Vis(sc:Scope)(x:Str):Prop:=sc.names.lookup x=some .local\/sc.names.lookup x=some .cell\/sc.names.lookup x=some .free
def Loc(sc:Scope)(x:Str):Prop:=sc.names.lookup x=some .local\/sc.names.lookup x=some .cell
def Look(env:Env)(h:Heap)(m:Str->Option Value)(x:Str)(u:Value):Prop:=
 (env.kindOf x=some .local/\m x=some u)\/((env.kindOf x=some .cell\/env.kindOf x=some .free)/\∃c,env.cells.lookup x=some c/\h.IsCell c (some u))
structure Cx.Ok(X:Cx):Prop where
 mod:Mod X.K X.mg X.base
 kind:X.env.scope.kind = .function
 glob:X.env.globals=mainGlobals
 blt:X.env.builtins=builtinsNs
 above:X.s₀.heap.objs.size<=X.env.locals
 inj:∀x y c,X.env.cells.lookup x=some c->X.env.cells.lookup y=some c->x=y
 has:∀x,(X.env.kindOf x=some .cell\/X.env.kindOf x=some .free)->∃c,X.env.cells.lookup x=some c
 cab:∀x c,X.fn x=true->X.env.cells.lookup x=some c->X.s₀.heap.objs.size<=c
 hd:X.calm=true->X.A.handled=none
 frames:X.A.frames=some X.stack
 stk:X.stack=X.outer\/(X.stack=X.env::X.outer/\X.env.frame=some X.env.locals)
 exf:∀b∈X.ex,b≠X.env.locals/\∀x c,X.env.cells.lookup x=some c->c≠b
 bs:∀b o,X.base.get? b=some o->X.s₀.heap.get? b=some o/\X.H₀ b=none
 bsz:X.base.objs.size<=X.s₀.heap.objs.size
 noex:∀b o,X.base.get? b=some o->b∉X.ex
 exfs:∀b∈X.ex,b∉X.fs
 funs:X.s₀.heap.FunFrames X.base X.outer
 frf:∀b∈X.fs,X.H₀ b=none
structure Inv(X:Cx)(pins:List (Addr×Obj))(σ:List (Option V))(H:Hp)(s:Shared):Prop where
 ok:X.Ok
 os:s.os=X.s₀.os
 bare:AllBare s.gens
 base:Un X.fs X.ex X.H₀ H X.s₀.heap s.heap
 loc:∃m,s.heap.Ns X.env.locals m/\∀(i:Nat) (x:Str) (v:V),X.N[i]?=some x->σ[i]?=some (some v)->Vis X.env.scope x->∃u,RelV v u/\Look X.env s.heap m x u
 cell:∀x c,X.env.cells.lookup x=some c->∃v,s.heap.IsCell c v
 free:H X.env.locals=none
 freeC:∀x c,X.env.cells.lookup x=some c->H c=none
 pin:∀p∈X.pn++pins,s.heap.get? p.1=some p.2/\H p.1=none/\p.1≠X.env.locals/\p.1∉X.fs/\∀v,p.2.data≠.cell v
 hok:HOk X.prog X.w H s.heap
 len:σ.length=X.N.length
section
variable{X:Cx}{pins:List (Addr×Obj)}{σ:List (Option V)}{H H':Hp}{s:Shared}{h':Heap}
theorem Cx.Ok.nofr(c:X.Ok)(e:X.base.get? b=some o):b∉X.fs:=fun a=>by
 have:=(c.funs.mem a).1;rw[e]at this;cases this
theorem Inv.bs(I:Inv X pins σ H s):∀b o,X.base.get? b=some o->s.heap.get? b=some o/\H b=none:=fun b o e=>
 ⟨I.base.keep b o (I.ok.bs b o e).1 (I.ok.bs b o e).2 (I.ok.nofr e) (I.ok.noex b o e),I.base.free b o (I.ok.bs b o e).1 (I.ok.bs b o e).2 (I.ok.noex b o e)⟩
theorem Inv.bk(I:Inv X pins σ H s):∀b o,X.base.get? b=some o->s.heap.get? b=some o:=fun b o e=>(I.bs b o e).1
theorem Inv.mod(I:Inv X pins σ H s):Mod X.K X.mg X.base:=I.ok.mod
theorem Inv.kIn(I:Inv X pins σ H s):X.K.In s.heap:=I.ok.mod.kin.keeps I.bk
theorem Inv.lt(I:Inv X pins σ H s):X.env.locals<s.heap.objs.size:=let ⟨_,hn,_⟩:=I.loc;hn.lt
theorem Inv.sz(I:Inv X pins σ H s):X.s₀.heap.objs.size<=s.heap.objs.size:=vU I.ok.above (vW I.lt)
theorem Inv.nofs(I:Inv X pins σ H s)(h:s.heap.objs.size<=a):a∉X.fs:=fun b=>by
 obtain⟨_,o,c,_⟩:=I.ok.funs.mem b;exact uk (Nat.lt_of_lt_of_le (vH c) (vU I.sz h)) (Nat.lt_irrefl _)
theorem Inv.cne(I:Inv X pins σ H s):∀x c,X.env.cells.lookup x=some c->c≠X.env.locals:=fun x c e z=>by
 obtain⟨v,o,f,d⟩:=I.cell x c e;obtain⟨m,⟨i,h,g,b,a,_⟩,_⟩:=I.loc;rw[z,b]at f;cases f;rw[a]at d;cases d
theorem Inv.funs(I:Inv X pins σ H s):s.heap.FunFrames X.base X.outer:=by
 have a:∀(l:List Env),(∀b∈frs l,b∈X.fs)->X.s₀.heap.FunFrames X.base l->s.heap.FunFrames X.base l:=by
  intro l
  induction l with
  | nil=>intro _ _;trivial
  | cons env r ih=>
   intro g j;obtain⟨i,⟨L,o,f,k,m,h⟩,n⟩:=j;have c:L∈X.fs:=g L (by unfold frs;rw[filterMap_cons,f];exact vq);obtain⟨p,e⟩:=I.base.slot L o m (I.ok.frf L c) c fun z=>I.ok.exfs L z c
   exact⟨i,⟨L,_,f,k,e,h⟩,ih (fun b d=>g b (by unfold frs;rw[filterMap_cons,f];exact vp _ d)) n⟩
 exact a X.outer (fun _ d=>d) I.ok.funs
theorem Inv.stack(I:Inv X pins σ H s):s.heap.FunFrames X.base X.stack:=by
 rcases I.ok.stk with e | ⟨e,a⟩
 ·rw[e];exact I.funs
 ·rw[e];obtain⟨m,b,_⟩:=I.loc;refine .cons (by rw[I.ok.kind];decide) a b ?_ I.funs;exact Heap.get?_none_of_le (vU I.ok.bsz I.ok.above)
theorem Inv.stkSub(I:Inv X pins σ H s):∀b∈frs X.stack,b∈X.env.locals::X.fs:=fun b a=>by
 rcases I.ok.stk with e | ⟨e,c⟩
 ·rw[e]at a;exact vp _ a
 ·rw[e]at a;unfold frs at a;rw[filterMap_cons,c]at a;exact a
theorem Inv.stkFree(I:Inv X pins σ H s):∀b∈frs X.stack,H b=none:=fun b a=>by
 rcases mem_cons.mp (I.stkSub b a)with e | a
 ·rw[e];exact I.free
 ·obtain⟨_,o,c,_⟩:=I.ok.funs.mem a;exact I.base.free b o c (I.ok.frf b a) fun z=>I.ok.exfs b z a
theorem Inv.step{g':Array GenState}{t':Nat}{d':Drawn}{ch:List Addr}(I:Inv X pins σ H s)
  (h:∀b∈ch,(b∈X.ex\/X.s₀.heap.objs.size<=b)/\b≠X.env.locals/\(∀x c,X.env.cells.lookup x=some c->c≠b)/\∀p∈X.pn++pins,p.1≠b)
  (j:∀b o,b≠X.env.locals->b∉X.fs->b∉ch->s.heap.get? b=some o->H b=none->h'.get? b=some o)
  (A:∀b o,b≠X.env.locals->b∈X.fs->b∉ch->s.heap.get? b=some o->H b=none->∃N,h'.get? b=some {o with slots:=N}) (f:∀b o,b∉ch->s.heap.get? b=some o->H b=none->H' b=none)
  (C:∀b o,b∉ch->s.heap.get? b=some o->∃o',h'.get? b=some o')
  (K:∀b xs,H b=some (.tup xs)->H' b=some (.tup xs)) (F:∀b o u,H b=some (.frz o u)->H' b=some (.frz o u)) (J:∀b ps,H b=some (.tbl ps)->∃more,H' b=some (.tbl (ps++more)))
  (ns:∀m,s.heap.Ns X.env.locals m->h'.Ns X.env.locals m) (M:HOk X.prog X.w H' h') (U:AllBare g') :
  Inv X pins σ H' {s with heap:=h',gens:=g',drawn:=d',toks:=t'}:=by
 have G:∀b o,X.s₀.heap.get? b=some o->b≠X.env.locals:=fun b o e=>vD (Nat.lt_of_lt_of_le (vH e) I.ok.above)
 have y:∀b o,X.s₀.heap.get? b=some o->b∉X.ex->b∉ch:=fun b o e a B=>by
  rcases(h b B).1 with z | z
  ·exact a z
  ·exact uk (Nat.lt_of_lt_of_le (vH e) z) (Nat.lt_irrefl _)
 have g:∀x c,X.env.cells.lookup x=some c->∀v,s.heap.IsCell c v->h'.IsCell c v:=fun x c e v ⟨o,D,L⟩=>by
  have t:c∉ch:=fun z=>(h c z).2.2.1 x c e rfl
  by_cases P:c∈X.fs
  ·obtain⟨N,q⟩:=A c o (I.cne x c e) P t D (I.freeC x c e);exact⟨_,q,L⟩
  ·exact⟨o,j c o (I.cne x c e) P t D (I.freeC x c e),L⟩
 refine⟨I.ok,I.os,U,⟨fun b o e n B a=>?_,fun b o e n B a=>?_,fun b o e n a=>?_,fun b o e a=>?_,fun b xs e=>K b xs (I.base.tups b xs e),fun b o xs e=>F b o xs (I.base.frzs b o xs e),fun b ps e=>?_⟩,?_,fun x c e=>?_,?_,fun x c e=>?_,fun p Q=>?_,M,I.len⟩
 ·exact j b o (G b o e) B (y b o e a) (I.base.keep b o e n B a) (I.base.free b o e n a)
 ·obtain⟨N,w⟩:=I.base.slot b o e n B a;obtain⟨O,E⟩:=A b _ (G b o e) B (y b o e a) w (I.base.free b o e n a);exact⟨O,E⟩
 ·obtain⟨o',w⟩:=I.base.there b o e a;exact f b o' (y b o e a) w (I.base.free b o e n a)
 ·obtain⟨o',w⟩:=I.base.there b o e a;exact C b o' (y b o e a) w
 ·obtain⟨Z,w⟩:=I.base.tbls b ps e;obtain⟨m2,E⟩:=J b _ w;exact⟨Z++m2,by rw[E,Array.append_assoc]⟩
 ·obtain⟨m,Y,W⟩:=I.loc;refine⟨m,ns m Y,fun i x v w E T=>?_⟩;obtain⟨u,r,l⟩:=W i x v w E T;refine⟨u,r,?_⟩;rcases l with l | ⟨k,c,e,z⟩
  ·exact .inl l
  ·exact .inr ⟨k,c,e,g x c e _ z⟩
 ·obtain⟨v,z⟩:=I.cell x c e;exact⟨v,g x c e v z⟩
 ·obtain⟨m,⟨o,_,_,D,_⟩,_⟩:=I.loc;exact f _ o (fun z=>(h _ z).2.1 rfl) D I.free
 ·obtain⟨v,o,D,L⟩:=I.cell x c e;exact f c o (fun z=>(h c z).2.2.1 x c e rfl) D (I.freeC x c e)
 ·obtain⟨e,n,R,S,d⟩:=I.pin p Q;have t:p.1∉ch:=fun z=>(h p.1 z).2.2.2 p Q rfl
  exact⟨j p.1 p.2 R S t e n,f p.1 p.2 t e n,R,S,d⟩
theorem Inv.un{t':Nat}(I:Inv X pins σ H s)(u:Un X.fs [] H H' s.heap h')(g:HOk X.prog X.w H' h'):Inv X pins σ H' {s with heap:=h',toks:=t'}:=by
 obtain⟨m,⟨o,p,l,h,r⟩,_⟩:=id I.loc;obtain⟨v,i⟩:=u.any h I.free (by simp);exact I.step (g':=s.gens) (d':=s.drawn) (ch:=[]) (fun _ z=>nomatch z) (fun b o _ f _ e n=>u.keep b o e n f (by simp)) (fun b o _ f _ e n=>u.slot b o e n f (by simp)) (fun b o _ e n=>u.free b o e n (by simp)) (fun b o _ e=>u.there b o e (by simp)) u.tups u.frzs u.tbls (fun q j=>by
  obtain⟨t,d,c,a,k⟩:=j;rw[h]at a;cases a;exact⟨_,d,c,i,k⟩) g I.bare
theorem Inv.call{g':Array GenState}{t':Nat}{d':Drawn}{ch:List Addr}(I:Inv X pins σ H s)(u:Un (frs X.stack) ch H H' s.heap h')(j:HOk X.prog X.w H' h')(q:AllBare g')
  (d:∀b∈ch,(b∈X.ex\/X.s₀.heap.objs.size<=b)/\b≠X.env.locals/\(∀x c,X.env.cells.lookup x=some c->c≠b)/\∀p∈X.pn++pins,p.1≠b) :
  Inv X pins σ H' {s with heap:=h',gens:=g',drawn:=d',toks:=t'}:=by
 obtain⟨m,⟨o,y,w,k,r⟩,_⟩:=id I.loc;obtain⟨C,i⟩:=u.any k I.free fun z=>(d _ z).2.1 rfl
 exact I.step (ch:=ch) d (fun b o i l a e n=>u.keep b o e n (fun z=>(mem_cons.mp (I.stkSub b z)).elim i l) a) (fun b o _ _ a e n=>u.any e n a) (fun b o a e n=>u.free b o e n a) (fun b o a e=>u.there b o e a) u.tups u.frzs u.tbls (fun A t=>by
  obtain⟨B,h,g,f,v⟩:=t;rw[k]at f;cases f;exact⟨_,h,g,i,v⟩) j q
theorem Inv.turned{t':Nat}{it:Addr}(I:Inv X pins σ H s)(k:∀b o,b≠it->s.heap.get? b=some o->h'.get? b=some o)(y:H it=none)(f:it≠X.env.locals)
  (i:it∈X.ex\/X.s₀.heap.objs.size<=it) (j:∀x c,X.env.cells.lookup x=some c->c≠it) (l:∀p∈X.pn++pins,p.1≠it):Inv X pins σ H {s with heap:=h',toks:=t'}:=by
 have d:∀b u,H b=some u->b≠it:=fun b u e z=>by rw[z,y]at e;cases e
 refine I.step (g':=s.gens) (d':=s.drawn) (ch:=[it]) (fun b t=>?_) (fun b o _ _ a e _=>k b o (fun z=>a (by simp[z])) e) (fun b o _ _ a e _=>⟨o.slots,k b o (fun z=>a (by simp[z])) e⟩) (fun _ _ _ _ n=>n)
  (fun b o a e=>⟨o,k b o (fun z=>a (by simp[z])) e⟩) (fun _ _ e=>e) (fun _ _ _ e=>e) (fun b B e=>⟨#[],by rw[e];simp⟩) (fun m w=>?_) (fun b u e=>?_) I.bare
 ·have e:b=it:=by simpa using t
  subst e;exact⟨i,f,j,l⟩
 ·obtain⟨o,h,g,A,r⟩:=w;exact⟨o,h,g,k _ o (Ne.symm f) A,r⟩
 ·refine(I.hok b u e).stay (fun c v a q=>k c v ?_ q) (fun _ q=>q) fun _ _ q=>q
  rcases a with z | z
  ·rw[z];exact d b u e
  ·exact d c _ z
theorem Inv.tok(I:Inv X pins σ H s)(t:Nat):Inv X pins σ H {s with toks:=t}:=I.un (h':=s.heap) (t':=t) Un.refl I.hok
theorem Inv.kept(I:Inv X pins σ H s)(k:∀b u,s.heap.get? b=some u->h'.get? b=some u):Inv X pins σ H {s with heap:=h',toks:=t'}:=I.un (Un.kept k) (I.hok.kept k)
theorem Inv.laid(I:Inv X pins σ H s)(k:∀b u,s.heap.get? b=some u->h'.get? b=some u)(c:s.heap.objs.size<=a)(d:ObjOk X.prog X.w (upd H a o) h' a o) :
  Inv X pins σ (upd H a o) {s with heap:=h',toks:=t'}:=I.un (Un.laid k c (I.hok.fresh c)) (I.hok.laid k c d)
theorem Inv.write(I:Inv X pins σ H s)(f:Mut (H x))(d:e=x\/H e=some (.own x))(k:∀b u,b≠e->s.heap.get? b=some u->h'.get? b=some u)(a:∃u,h'.get? e=some u)
  (c:ObjOk X.prog X.w (upd H x o) h' x o):Inv X pins σ (upd H x o) {s with heap:=h',toks:=t'}:=I.un (Un.write f d k a) (I.hok.write f d k a c)
theorem Inv.weak(I:Inv X pins σ H s)(d:σ'.length=σ.length)(w:∀(i:Nat) v,σ'[i]?=some (some v)->σ[i]?=some (some v)):Inv X pins σ' H s:=
 ⟨I.ok,I.os,I.bare,I.base,let ⟨m,hn,hl'⟩:=I.loc;⟨m,hn,fun i x v a b c=>hl' i x v a (w i v b) c⟩,I.cell,I.free,I.freeC,I.pin,I.hok,d.trans I.len⟩
theorem Inv.pins_of(I:Inv X pins σ H s)(h:∀p∈pins',s.heap.get? p.1=some p.2/\H p.1=none/\p.1≠X.env.locals/\p.1∉X.fs/\∀v,p.2.data≠.cell v):Inv X pins' σ H s:=
 ⟨I.ok,I.os,I.bare,I.base,I.loc,I.cell,I.free,I.freeC,fun p a=>(vi.mp a).elim (fun z=>I.pin p (mem_append_left _ z)) (h p),I.hok,I.len⟩
theorem zc{N:List Str}(e:N.Nodup){i j:Nat}{x:Str}(a:N[i]?=some x)(b:N[j]?=some x):i=j:=by
 obtain⟨f,c⟩:=vx.mp a;obtain⟨g,d⟩:=vx.mp b;exact(List.getElem_inj e).mp (c.trans d.symm)
theorem Z4{M:Model}{A:Around}{E:Value->Shared->Prop}{i:Nat}{x:Str}{v:V}{u:Value}{Q:Unit->Shared->Prop}(I:Inv X pins σ H s)(hN:X.N.Nodup)(hi:X.N[i]?=some x)(w:Loc X.env.scope x)(r:RelV v u)
  (h:∀s',Inv X pins (σ.set i (some v)) H s'->(∃a,Heap.SameBut a s.heap s'.heap/\(a=X.env.locals\/X.env.cells.lookup x=some a))->Q () s') (hf:X.fn x=true\/X.env.scope.names.lookup x=some .local:=by first | exact .inl rfl | exact .inr rfl | assumption):wpAny M A (storeName X.env x u) Q E s:=by
 obtain⟨m,hn,hl⟩:=id I.loc;have R:(X.env.scope.kind == .class||(X.env.scope.kind == .module&&X.env.locals != X.env.globals))=false:=by rw[I.ok.kind];rfl
 have D:i<σ.length:=by rw[I.len];exact(vx.mp hi).1
 have G:=I.cne;have l:∀{a:Addr} {N:Heap},(∃o,s.heap.get? a=some o/\H a=none)->Heap.SameBut a s.heap N->HOk X.prog X.w H N:=fun {a N} ha f b ob e=>by
  obtain⟨_,_,B⟩:=ha;refine(I.hok b ob e).stay (fun c Y t q=>(f.2 c ?_).trans q) (fun _ q=>q) fun _ _ q=>q
  rintro rfl;rcases t with rfl | t
  ·rw[B]at e;cases e
  ·rw[B]at t;cases t
 rcases w with F | F
 ·refine wpAny_storeName_local F hn (fun N a0 f=>?_) R;obtain⟨oL,_,_,a1,_⟩:=id hn;refine h _ ⟨I.ok,I.os,I.bare,⟨fun b o e n J w=>?_,fun b o e n J w=>?_,I.base.free,fun b o e w=>?_,I.base.tups,I.base.frzs,I.base.tbls⟩,⟨_,a0,fun j y v' g C Z=>?_⟩,fun y c e=>?_,I.free,I.freeC,fun p hp=>?_,l ⟨oL,a1,I.free⟩ f,by simpa using I.len⟩ ⟨_,f,.inl rfl⟩
  ·exact(f.2 b (vD (Nat.lt_of_lt_of_le (vH e) I.ok.above))).trans (I.base.keep b o e n J w)
  ·obtain⟨sl,g⟩:=I.base.slot b o e n J w;exact⟨sl,(f.2 b (vD (Nat.lt_of_lt_of_le (vH e) I.ok.above))).trans g⟩
  ·obtain⟨o',g⟩:=I.base.there b o e w;exact⟨o',(f.2 b (vD (Nat.lt_of_lt_of_le (vH e) I.ok.above))).trans g⟩
  ·by_cases L:j=i
   ·subst L;rw[hi]at g;cases g;rw[List.getElem?_set_self D]at C;cases C;exact⟨u,r,.inl ⟨F,by simp⟩⟩
   ·rw[List.getElem?_set_ne (Ne.symm L)]at C;obtain⟨u',r',q⟩:=hl j y v' g C Z;refine⟨u',r',?_⟩;rcases q with⟨k,e⟩ | ⟨k,c,e,z⟩
    ·refine .inl ⟨k,?_⟩;have:y≠x:=fun e=>L (zc hN g (e▸hi))
     simp[this,e]
    ·exact .inr ⟨k,c,e,z.sameBut f (G y c e)⟩
  ·obtain⟨Y,z⟩:=I.cell y c e;exact⟨Y,z.sameBut f (G y c e)⟩
  ·obtain⟨e,n,W,nf,d⟩:=I.pin p hp;exact⟨(f.2 p.1 W).trans e,n,W,nf,d⟩
 ·have K:X.fn x=true:=by
   rcases hf with z | z
   ·exact z
   ·rw[z]at F;cases F
  obtain⟨c,t⟩:=I.ok.has x (.inl F);obtain⟨Y,z⟩:=I.cell x c t;refine wpAny_storeName_cell I.ok.kind F t z (fun N O f=>?_);obtain⟨oc,S,T⟩:=id z;refine h {s with heap:=N} ⟨I.ok,I.os,I.bare,⟨fun b o e n J w=>?_,fun b o e n J w=>?_,I.base.free,fun b o e w=>?_,I.base.tups,I.base.frzs,I.base.tbls⟩,⟨m,hn.sameBut f (Ne.symm (G x c t)),fun j y v' g C Z=>?_⟩,fun y U e=>?_,I.free,I.freeC,fun p hp=>?_,l ⟨oc,S,I.freeC x c t⟩ f,by simpa using I.len⟩ ⟨c,f,.inr t⟩
  ·exact(f.2 b (vD (Nat.lt_of_lt_of_le (vH e) (I.ok.cab x c K t)))).trans (I.base.keep b o e n J w)
  ·obtain⟨sl,g⟩:=I.base.slot b o e n J w;exact⟨sl,(f.2 b (vD (Nat.lt_of_lt_of_le (vH e) (I.ok.cab x c K t)))).trans g⟩
  ·obtain⟨o',g⟩:=I.base.there b o e w;exact⟨o',(f.2 b (vD (Nat.lt_of_lt_of_le (vH e) (I.ok.cab x c K t)))).trans g⟩
  ·by_cases L:j=i
   ·subst L;rw[hi]at g;cases g;rw[List.getElem?_set_self D]at C;cases C;exact⟨u,r,.inr ⟨.inl F,c,t,O⟩⟩
   ·rw[List.getElem?_set_ne (Ne.symm L)]at C;obtain⟨u',r',q⟩:=hl j y v' g C Z;refine⟨u',r',?_⟩;rcases q with q | ⟨k,U,e,z'⟩
    ·exact .inl q
    ·refine .inr ⟨k,U,e,z'.sameBut f ?_⟩;rintro rfl;exact L (zc hN g (I.ok.inj _ _ _ e t▸hi))
  ·by_cases P:U=c
   ·subst P;exact⟨_,O⟩
   ·obtain⟨w2,z2⟩:=I.cell y U e;exact⟨w2,z2.sameBut f P⟩
  ·obtain⟨e,n,W,nf,d⟩:=I.pin p hp;refine⟨(f.2 p.1 ?_).trans e,n,W,nf,d⟩;intro q;rw[q,S]at e;have q':oc=p.2:=vK e;exact d Y (by rw[<-q'];exact T)
theorem qK{E:Value->Shared->Prop}{Q:Unit->Shared->Prop}(I:Inv X pins σ H s)(b:X.N.Nodup)(hi:X.N[i]?=some x)(d:Loc X.env.scope x)(r:RelV v u)
  (h:∀s',Inv X pins (σ.set i (some v)) H s'->Q () s') (c:X.fn x=true\/X.env.scope.names.lookup x=some .local:=by first | exact .inl rfl | exact .inr rfl | assumption):wpAny M A (storeName X.env x u) Q E s:=
 Z4 I b hi d r (fun s' a _=>h s' a) c
theorem Inv.call'(I:Inv X pins σ H s)(g:s'.os=s.os)(u:Un (frs X.stack) ch H H' s.heap s'.heap)(d:HOk X.prog X.w H' s'.heap)(f:AllBare s'.gens)
  (a:∀b∈ch,(b∈X.ex\/X.s₀.heap.objs.size<=b)/\b≠X.env.locals/\(∀x c,X.env.cells.lookup x=some c->c≠b)/\∀p∈X.pn++pins,p.1≠b):Inv X pins σ H' s':=by
 obtain⟨i,g',d',t',h⟩:=s';have e:h=s.os:=g;subst e;exact I.call (g':=g') (t':=t') (d':=d') u d f a
end
noncomputable abbrev XK:=Value->Option Addr->Hp->Prop
noncomputable abbrev St:=List (Option V)
noncomputable abbrev VK:=V->Hp->Prop
noncomputable abbrev TE:=St->Hp->VK->Prop
noncomputable abbrev TT:=St->Hp->(Bool->Hp->Prop)->Prop
noncomputable abbrev TA:=St->Hp->(List V->Hp->Prop)->Prop
structure Ends where
 nx:St->Hp->Prop
 rt:VK
 bk:St->Hp->Prop:=fun _ _=>False
 ct:St->Hp->Prop:=fun _ _=>False
noncomputable abbrev TS:=Ends->St->Hp->Prop
def EP(X:Cx)(pins:List (Addr×Obj))(σ:St)(Q:VK)(u:Value)(s':Shared):Prop:=∃v H',Inv X pins σ H' s'/\RelV v u/\Q v H'
def TP(X:Cx)(pins:List (Addr×Obj))(σ:St)(Q:Bool->Hp->Prop)(b:Bool)(s':Shared):Prop:=∃H',Inv X pins σ H' s'/\Q b H'
def AP(X:Cx)(pins:List (Addr×Obj))(σ:St)(Q:List V->Hp->Prop)(us:List Value)(s':Shared):Prop:=∃vs H',Inv X pins σ H' s'/\Vals vs us/\Q vs H'
def SP(X:Cx)(pins:List (Addr×Obj))(D:Ends)(f:Flow)(s':Shared):Prop:=
 match f with
 | .next=>∃σ' H',Inv X pins σ' H' s'/\D.nx σ' H'
 | .brk=>∃σ' H',Inv X pins σ' H' s'/\D.bk σ' H'
 | .cont=>∃σ' H',Inv X pins σ' H' s'/\D.ct σ' H'
 | .ret u=>∃v σ' H',Inv X pins σ' H' s'/\RelV v u/\D.rt v H'
def PE(X:Cx)(e:Expr)(t:TE):Prop:=
 ∀(pins:List (Addr×Obj)) (s:Shared) (σ:St) (H:Hp) (Q:VK),Inv X pins σ H s->t σ H Q->wpAny (model X.prog X.w) X.A (eval e X.env) (EP X pins σ Q) X.xe s
def PT(X:Cx)(e:Expr)(t:TT):Prop:=
 ∀(pins:List (Addr×Obj)) (s:Shared) (σ:St) (H:Hp) (Q:Bool->Hp->Prop),Inv X pins σ H s->t σ H Q->wpAny (model X.prog X.w) X.A (isTrue e X.env (eval e X.env)) (TP X pins σ Q) X.xe s
def PW(X:Cx)(e:Expr)(t:TT):Prop:=
 ∀(whole:Sem Value) (pins:List (Addr×Obj)) (s:Shared) (σ:St) (H:Hp) (Q:Bool->Hp->Prop),Inv X pins σ H s->t σ H Q->wpAny (model X.prog X.w) X.A (isTrue e X.env whole) (TP X pins σ Q) X.xe s
theorem PW.pt(h:PW X e t):PT X e t:=h _
def PA(X:Cx)(es:List Expr)(t:TA):Prop:=
 ∀(pos:Pos) (pins:List (Addr×Obj)) (s:Shared) (σ:St) (H:Hp) (Q:List V->Hp->Prop),Inv X pins σ H s->t σ H Q->wpAny (model X.prog X.w) X.A (spliced (backTo pos (starEach es X.env))) (AP X pins σ Q) X.xe s
def PS(X:Cx)(st:Stmt)(t:TS):Prop:=
 ∀(pins:List (Addr×Obj)) (s:Shared) (σ:St) (H:Hp) (D:Ends),Inv X pins σ H s->t D σ H->wpAny (model X.prog X.w) X.A (exec st X.env) (SP X pins D) X.xe s
def PSs(X:Cx)(st:List Stmt)(t:TS):Prop:=
 ∀(pins:List (Addr×Obj)) (s:Shared) (σ:St) (H:Hp) (D:Ends),Inv X pins σ H s->t D σ H->wpAny (model X.prog X.w) X.A (execs st X.env) (SP X pins D) X.xe s
theorem thn{c:Type}{t:Sem c}{Q b:c->Shared->Prop}{M:Model}{A:Around}{E:Value->Shared->Prop}{s:Shared}(h:wpAny M A t Q E s)(d:∀a s,Q a s->b a s):wpAny M A t b E s:=wpAny_mono h d fun _ _ x=>x
section
variable{X:Cx}
def tVar(i:Nat):TE:=fun σ H Q=>∃v,σ[i]?=some (some v)/\Q v H
def tC(v:V):TE:=fun _ H Q=>Q v H
theorem Xi(n:X.N[i]?=some x)(t:Vis X.env.scope x)(j:(x==("__debug__" : Str))=false:=by decide)(g:(x==("__classdict__" : Str))=false:=by decide):PE X (.Name x pos) (tVar i):=by
 intro f s w H Q I h;obtain⟨v,e,h⟩:=h;obtain⟨m,q,o⟩:=I.loc;obtain⟨u,r,l⟩:=o i x v n e t;have b:EP X f w Q u s:=⟨v,H,I,r,h⟩
 rcases l with⟨d,p⟩ | ⟨d,c,k,a⟩
 ·exact wpAny_Name (wpAny_loadName_local I.ok.kind d q p b) j
 ·rcases d with d | d
  ·exact wpAny_Name (wpAny_loadName_cell I.ok.kind d k a b) j
  ·exact wpAny_Name (wpAny_loadName_free I.ok.kind d k a b g) j
theorem jc{i j pos}:PE X (.Constant (.int i) j pos) (tC (.int i)):=fun _ _ _ H _ I h=>wpAny_Constant_int ⟨.int i,H,I.tok _,⟨_,rfl⟩,h⟩
theorem kU{b j pos}:PE X (.Constant (.bool b) j pos) (tC (.bl b)):=fun _ _ _ H _ I h=>Constant_bool ⟨.bl b,H,I,rfl,h⟩
theorem zw{j pos}:PE X (.Constant .none j pos) (tC .non):=fun _ _ _ H _ I h=>Constant_none ⟨.non,H,I,rfl,h⟩
theorem ji{x j pos}:PE X (.Constant (.str x) j pos) (tC (.str x)):=fun _ _ _ H _ I h=>Calls.Constant_str ⟨.str x,H,I.tok _,⟨_,rfl⟩,h⟩
def Gl(X:Cx)(x:Str):Prop:=X.env.kindOf x=some .globalImplicit
theorem QD{E:Value->Shared->Prop}{d:St}{H:Hp}{Q:Value->Shared->Prop}(I:Inv X pins d H s)(b:Gl X x)(c:X.mg x=some u)(h:Q u s)
  (a:(x==("__debug__" : Str))=false:=by decide):wpAny (model X.prog X.w) X.A (eval (.Name x pos) X.env) Q E s:=
 Calls.Name_function_global I.ok.kind b (Calls.loadGlobal_global (by rw[I.ok.glob];exact I.mod.glob.keeps I.bk) c h) a
theorem qY{E:Value->Shared->Prop}{i:St}{H:Hp}{Q:Value->Shared->Prop}(I:Inv X pins i H s)(d:Gl X x)(e:X.mg x=none)(g:bootBuiltins x=some u)(h:Q u s)
  (f:x≠"__name__":=by decide) (c:(x==("__debug__" : Str))=false:=by decide):wpAny (model X.prog X.w) X.A (eval (.Name x pos) X.env) Q E s:=by
 obtain⟨j,a,b⟩:=I.mod.blt;exact Calls.Name_function_global I.ok.kind d (Calls.loadGlobal_builtin (by rw[I.ok.glob];exact I.mod.glob.keeps I.bk) e (by rw[I.ok.blt];exact a.keeps I.bk) ((b x f).trans g) h) c
theorem zU(b:Gl X x)(c:X.mg x=some u)(r:RelV v u)(a:(x==("__debug__" : Str))=false:=by decide):PE X (.Name x pos) (tC v):=
 fun _ _ _ H _ I h=>QD I b c ⟨v,H,I,r,h⟩ a
theorem kW(b:Gl X x)(c:X.mg x=none)(e:bootBuiltins x=some u)(r:RelV v u)(d:x≠"__name__":=by decide)(a:(x==("__debug__" : Str))=false:=by decide):PE X (.Name x pos) (tC v):=
 fun _ _ _ H _ I h=>qY I b c e ⟨v,H,I,r,h⟩ d a
variable{a b:Expr}{ta tb:TE}{pos:Pos}
def tB(t:TE):TT:=fun σ H Q=>t σ H fun x H1=>∃c,x = .bl c/\Q c H1
theorem QR{e:Expr}{t:TE}(h:PE X e t)(g:∀a,isTrue e X.env a=(do let v <-a;standAt e.pos;holding [v] (truthy v)):=by intro _;rfl):PT X e (tB t):=by
 intro b s l H Q I i;refine isTrue_plain (thn (h b s l H _ I i) fun v m ⟨x,c,f,k,j⟩=>?_) (g _);obtain⟨d,rfl,q⟩:=j;cases k;exact wpAny_truthy_bool ⟨c,f,q⟩
variable{tA tB':TT}{rest:List Expr}
def tOr(t u:TT):TT:=fun σ H Q=>t σ H fun c H1=>if c=true then Q true H1 else u σ H1 Q
def tNot(t:TT):TT:=fun σ H Q=>t σ H fun c H1=>Q (!c) H1
theorem Wb(d:PT X a tA):PW X (.BoolOp .Or [a] pos) tA:=by
 intro i b s f H Q I h;refine isTrue_or (thn (d b s f H Q I h) fun c g e=>?_);cases c with
 | false=>exact isTrue_or_nil e
 | true=>exact e
theorem Kg(j:PT X a tA)(k:PW X (.BoolOp .Or (b::rest) pos) tB'):PW X (.BoolOp .Or (a::b::rest) pos) (tOr tA tB'):=by
 intro m d s i H Q I h;refine isTrue_or (thn (j d s i H _ I h) fun c l ⟨e,f,g⟩=>?_);cases c with
 | true=>exact⟨e,f,g⟩
 | false=>exact k m d l i e Q f g
theorem wY(e:PT X a tA):PT X (.UnaryOp .Not a pos) (tNot tA):=by
 intro b s f H Q I h;exact isTrue_not (e b s f H (fun c d=>Q (!c) d) I h)
def tIf(t:TT)(ta tb:TE):TE:=fun σ H Q=>t σ H fun c H1=>if c=true then ta σ H1 Q else tb σ H1 Q
theorem ze{c:Expr}(n:PT X c tA)(l:PE X a ta)(m:PE X b tb):PE X (.IfExp c a b pos) (tIf tA ta tb):=by
 intro e s f H Q I h;refine wpAny_IfExp (thn (n e s f H _ I h) fun d k ⟨g,i,j⟩=>?_);cases d with
 | true=>exact l e k f g Q i j
 | false=>exact m e k f g Q i j
end
def SqL(K:Frg)(H:Hp)(a:Addr)(xs:List V):Prop:=
 Rd H a (.lst xs)\/
  ∃(o:Obj) (its:Array Value) (n:Nat),K.lookup a=some o/\o.cls = .type "list"/\o.dict=none/\o.data = .seq its n/\its.size<=sizeLine/\Vals xs its.toList
def SqT(K:Frg)(H:Hp)(a:Addr)(xs:List V):Prop:=
 Rd H a (.tup xs)\/
  ∃(o:Obj) (its:Array Value) (n:Nat),K.lookup a=some o/\o.cls = .type "tuple"/\o.data = .seq its n/\its.size<=sizeLine/\Vals xs its.toList
noncomputable def absV:Value->Option V
 | .none=>some .non
 | .bool b=>some (.bl b)
 | .int i _=>some (.int i)
 | .str x _=>some (.str x)
 | .bytes b _=>some (.byt b)
 | .float b _=>some (.flt b)
 | .ref a=>some (.ref a)
 | .type n=>some (.ty n)
 | _=>none
theorem RelV.abs(r:RelV x u):absV u=some x:=by
 cases x with
 | non=>cases r;rfl
 | bl _=>cases r;rfl
 | int _=>obtain⟨t,rfl⟩:=r;rfl
 | str _=>obtain⟨t,rfl⟩:=r;rfl
 | byt _=>obtain⟨t,rfl⟩:=r;rfl
 | flt _=>obtain⟨t,rfl⟩:=r;rfl
 | ref _=>cases r;rfl
 | ty _=>cases r;rfl
theorem RelV.inj(r:RelV x u)(q:RelV y u):x=y:=vK (r.abs.symm.trans q.abs)
theorem Vals.inj:∀{xs ys:List V} {a:List Value},Vals xs a->Vals ys a->xs=ys
 | _,_,_,.nil,.nil=>rfl
 | _,_,_,.cons r t,.cons r' t'=>by rw[r.inj r',Vals.inj t t']
section
variable{X:Cx}{pins:List (Addr×Obj)}{σ:St}{H:Hp}{s:Shared}{a:Addr}{xs ys:List V}
theorem SqL.of{K:Frg}(h:H a=some (.lst xs)):SqL K H a xs:=.inl (.inl h)
theorem SqT.of{K:Frg}(h:H a=some (.tup xs)):SqT K H a xs:=.inl (.inl h)
theorem Inv.list(I:Inv X pins σ H s)(h:SqL X.K H a xs):∃b:List Value,Vals xs b/\PlainL s.heap a b.toArray/\xs.length<=sizeLine:=by
 rcases h with h | ⟨o,b,n,f,c,d,g,i,r⟩
 ·obtain⟨z,b,n,r,e⟩:=h.ok I.hok;exact⟨b,r,⟨_,n,e,rfl,rfl,rfl⟩,z⟩
 ·refine⟨b.toList,r,⟨o,n,I.kIn a o f,c,d,by simpa using g⟩,?_⟩;have e:=r.length;simp only[Array.length_toList]at e;lia
theorem Inv.tuple(I:Inv X pins σ H s)(h:SqT X.K H a xs):∃b:List Value,Vals xs b/\IsTup s.heap a b.toArray/\xs.length<=sizeLine:=by
 rcases h with h | ⟨o,b,n,d,c,f,g,r⟩
 ·obtain⟨z,b,r,p⟩:=h.ok I.hok;exact⟨b,r,p,z⟩
 ·refine⟨b.toList,r,⟨o,I.kIn a o d,c,n,by simpa using f⟩,?_⟩;have e:=r.length;simp only[Array.length_toList]at e;lia
theorem Inv.list_inj(I:Inv X pins σ H s)(h:SqL X.K H a xs)(h':SqL X.K H a ys):xs=ys:=by
 obtain⟨c,r,⟨o,n,e,_,_,d⟩,_⟩:=I.list h;obtain⟨b,i,⟨k,j,g,_,_,f⟩,_⟩:=I.list h';rw[e]at g;cases g;rw[d]at f;injection f with d1 _;have:c=b:=by simpa using congrArg Array.toList d1
 subst this;exact r.inj i
theorem Inv.tuple_inj(I:Inv X pins σ H s)(h:SqT X.K H a xs)(h':SqT X.K H a ys):xs=ys:=by
 obtain⟨c,r,⟨o,e,_,n,d⟩,_⟩:=I.tuple h;obtain⟨b,i,⟨k,g,_,j,f⟩,_⟩:=I.tuple h';rw[e]at g;cases g;rw[d]at f;injection f with d1 _;have:c=b:=by simpa using congrArg Array.toList d1
 subst this;exact r.inj i
end
noncomputable abbrev Cx.wish(X:Cx)(E:Value->Shared->Prop):Cx:={X with xe:=E}
noncomputable abbrev Cx.nox(X:Cx):Cx:=X.wish fun _ _=>False
theorem Cx.Ok.wish{X:Cx}(a:X.Ok)(E:Value->Shared->Prop):(X.wish E).Ok:=
 ⟨a.mod,a.kind,a.glob,a.blt,a.above,a.inj,a.has,a.cab,a.hd,a.frames,a.stk,a.exf,a.bs,a.bsz,a.noex,a.exfs,a.funs,a.frf⟩
theorem Cx.Ok.unwish{X:Cx}{E:Value->Shared->Prop}(a:(X.wish E).Ok):X.Ok:=
 ⟨a.mod,a.kind,a.glob,a.blt,a.above,a.inj,a.has,a.cab,a.hd,a.frames,a.stk,a.exf,a.bs,a.bsz,a.noex,a.exfs,a.funs,a.frf⟩
section
variable{X:Cx}{pins:List (Addr×Obj)}{σ:St}{H:Hp}{s:Shared}{E:Value->Shared->Prop}
theorem Inv.wish(I:Inv X pins σ H s)(E:Value->Shared->Prop):Inv (X.wish E) pins σ H s:=⟨I.ok.wish E,I.os,I.bare,I.base,I.loc,I.cell,I.free,I.freeC,I.pin,I.hok,I.len⟩
theorem Inv.unwish(I:Inv (X.wish E) pins σ H s):Inv X pins σ H s:=⟨I.ok.unwish,I.os,I.bare,I.base,I.loc,I.cell,I.free,I.freeC,I.pin,I.hok,I.len⟩
theorem SP.unwish(h:SP (X.wish E) pins D f s'):SP X pins D f s':=by
 cases f with
 | next=>obtain⟨a,b,I,q⟩:=h;exact⟨a,b,I.unwish,q⟩
 | brk=>obtain⟨a,b,I,q⟩:=h;exact⟨a,b,I.unwish,q⟩
 | cont=>obtain⟨a,b,I,q⟩:=h;exact⟨a,b,I.unwish,q⟩
 | ret u=>obtain⟨v,a,b,I,r,q⟩:=h;exact⟨v,a,b,I.unwish,r,q⟩
theorem PSs.nox{st:List Stmt}{t:TS}(h:PSs X.nox st t):PSs X st t:=fun a s c H D I b=>
 wpAny_mono (h a s c H D (I.wish _) b) (fun _ _ q=>q.unwish) fun _ _ z=>False.elim z
end
section
variable{X:Cx}{st:Stmt}{rest:List Stmt}{t u:TS}{e:Expr}{te:TE}{pos:Pos}
def tNext:TS:=fun D σ H=>D.nx σ H
def tSeq(t u:TS):TS:=fun D σ H=>t {D with nx:=u D} σ H
theorem jM:PSs X [] tNext:=fun _ _ a H _ I h=>wpAny_execs_nil ⟨a,H,I,h⟩
theorem jd(e:PS X st t)(g:PSs X rest u):PSs X (st::rest) (tSeq t u):=by
 intro a s j H D I h;refine wpAny_execs_cons (thn (e a s j H {D with nx:=u D} I h) fun f i q=>?_);cases f with
 | next=>
  obtain⟨b,c,d,q⟩:=q;exact g a i b c D d q
 | ret v=>exact q
 | brk=>exact q
 | cont=>exact q
theorem jg(b:PS X st t):PSs X [st] t:=by
 intro a s c H D I h;refine wpAny_execs_cons (thn (b a s c H D I h) fun f d q=>?_);cases f with
 | next=>exact wpAny_execs_nil q
 | ret v=>exact q
 | brk=>exact q
 | cont=>exact q
theorem Inv.quiet{a:St}{H:Hp}(I:Inv X pins a H s):interactive X.env=false:=by simp[interactive,I.ok.kind]
def tDrop(te:TE):TS:=fun D σ H=>te σ H fun _ H1=>D.nx σ H1
theorem Jn(f:PE X e te)(hs:swapsWith e none pos.line X.env=pure false:=by rfl):PS X (.Expr e pos) (tDrop te):=by
 intro a s b H D I h;exact wpAny_Expr_any (thn (f a s b H _ I h) fun v j ⟨x,c,d,i,g⟩=>⟨b,c,d,g⟩) I.quiet hs
def tRet(te:TE):TS:=fun D σ H=>te σ H D.rt
theorem jB(f:PE X e te):PS X (.Return (some e) pos) (tRet te):=by
 intro a s b H D I h;exact wpAny_Return_some (thn (f a s b H _ I h) fun v j ⟨x,c,d,i,g⟩=>⟨x,b,c,d,i,g⟩)
def tIfS(c:TT)(t u:TS):TS:=fun D σ H=>c σ H fun b H1=>if b=true then t D σ H1 else u D σ H1
theorem JS{c:Expr}{a b:List Stmt}{l:TT}(o:PT X c l)(m:PSs X a t)(n:PSs X b u):PS X (.If c a b pos) (tIfS l t u):=by
 intro e s f H D I h;refine wpAny_If (thn (o e s f H _ I h) fun d k ⟨g,i,j⟩=>?_);cases d with
 | true=>exact m e k f g D i j
 | false=>exact n e k f g D i j
def tNever:TS:=fun _ _ _=>False
theorem zf:PS X st tNever:=fun _ _ _ _ _ _ h=>h.elim
end
noncomputable abbrev TG:=V->St->Hp->(St->Hp->Prop)->Prop
noncomputable abbrev TGs:=List V->St->Hp->(St->Hp->Prop)->Prop
def PG(X:Cx)(target:Expr)(t:TG):Prop:=
 ∀(pins:List (Addr×Obj)) (s:Shared) (σ:St) (H:Hp) (v:V) (u:Value) (Q:St->Hp->Prop),Inv X pins σ H s->RelV v u->t v σ H Q->
  wpAny (model X.prog X.w) X.A (assign target X.env u) (fun _ s'=>∃σ' H',Inv X pins σ' H' s'/\Q σ' H') X.xe s
def PGs(X:Cx)(ts:List Expr)(t:TGs):Prop:=
 ∀(pins:List (Addr×Obj)) (s:Shared) (σ:St) (H:Hp) (vs:List V) (us:List Value) (Q:St->Hp->Prop),Inv X pins σ H s->Vals vs us->t vs σ H Q->
  wpAny (model X.prog X.w) X.A (assignInOrder ((assignEach ts X.env).map (·.2)) us) (fun _ s'=>∃σ' H',Inv X pins σ' H' s'/\Q σ' H') X.xe s
noncomputable abbrev TIp:=V->V->Hp->VK->Prop
def PIp(X:Cx)(op:Operator)(t:TIp):Prop:=
 ∀(pins:List (Addr×Obj)) (s:Shared) (σ:St) (H:Hp) (x y:V) (v u:Value) (Q:VK),Inv X pins σ H s->RelV x v->RelV y u->t x y H Q->
  wpAny (model X.prog X.w) X.A (inplaceOp op v u) (EP X pins σ Q) X.xe s
section
variable{X:Cx}{pos:Pos}
def gName(i:Nat):TG:=fun v σ H Q=>Q (σ.set i (some v)) H
theorem jn(c:X.N.Nodup)(hi:X.N[i]?=some x)(e:Loc X.env.scope x)(d:X.fn x=true\/X.env.scope.names.lookup x=some .local:=by first | exact .inl rfl | exact .inr rfl | assumption):PG X (.Name x pos) (gName i):=by
 intro a s g H v u Q I r h;exact wpAny_assign_Name (qK I c hi e r (fun f b=>⟨_,H,b,h⟩) d)
def gNil:TGs:=fun vs σ H Q=>vs=[]/\Q σ H
def gCons(t:TG)(u:TGs):TGs:=fun vs σ H Q=>∃v r,vs=v::r/\t v σ H fun σ' H'=>u r σ' H' Q
theorem Jg:PGs X [] gNil:=by
 intro a s b H d c Q I r h;obtain⟨e,h⟩:=h;subst e;cases r;exact assignInOrder_nil ⟨b,H,I,h⟩
theorem jr{e:Expr}{b:List Expr}{t:TG}{u:TGs}(i:PG X e t)(j:PGs X b u)
  (hs:(assignEach (e::b) X.env).map (·.2)=assign e X.env::(assignEach b X.env).map (·.2):=by rfl):PGs X (e::b) (gCons t u):=by
 intro a s m H p n Q I r h;obtain⟨v,o,g,h⟩:=h;subst g;cases r with
 | cons r rr=>
  rw[hs];refine assignInOrder_cons (thn (i a s m H _ _ _ I r h) fun _ l ⟨c,d,f,k⟩=>?_);exact j a l c d _ _ Q f rr k
def gTup(K:Frg)(n:Nat)(t:TGs):TG:=fun v σ H Q=>∃a xs,v = .ref a/\SqT K H a xs/\xs.length=n/\t xs σ H Q
theorem JG(p:X.calm=true)(h:PGs X es t)
  (w:(assignEach es X.env).length=n:=by rfl) (d:(assignEach es X.env).findIdx? (·.1)=none:=by rfl):PG X (.Tuple es k pos) (gTup X.K n t):=by
 intro c s i H v u Q I r f;obtain⟨a,B,l,x,q,f⟩:=f;subst l;cases r;obtain⟨A,g,y,C⟩:=I.tuple x;refine assign_Tuple_tuple (I.ok.hd p) y (by simp[w,<-q,g.length]) d fun m z=>?_
 have j:Inv X c i H {s with heap:=m}:=I.kept (t':=s.toks) fun b o e=>z b o (vD (vH e)) e
 exact h c _ i H B _ Q j (by simpa using g) f
def tAsg(te:TE)(g:TG):TS:=fun D σ H=>te σ H fun x H1=>g x σ H1 D.nx
theorem wX{b e:Expr}{c:TE}{g:TG}(k:PE X e c)(l:PG X b g)(hs:swapsWithSole [b] e pos.line X.env=pure false:=by rfl)(hw:swappedStores [b] e X.env=pure none:=by rfl)
  (j:(assignEach [b] X.env).map (·.2)=[assign b X.env]:=by rfl):PS X (.Assign [b] e pos) (tAsg c g):=by
 intro a s d H D I h;refine wpAny_Assign_stores (thn (k a s d H _ I h) fun v o ⟨x,f,i,n,m⟩=>?_) hs hw;rw[j];exact thn (l a o d f x v _ i n m) fun _ p q=>q
theorem jk{i:Nat}{x:Str}{e:Expr}{c:TE}{a:Pos}(j:X.N.Nodup)(hi:X.N[i]?=some x)(m:Loc X.env.scope x)(k:PE X e c)(hs:swapsWith e (some (.Name x a)) pos.line X.env=pure false:=by rfl)(l:X.fn x=true\/X.env.scope.names.lookup x=some .local:=by first | exact .inl rfl | exact .inr rfl | assumption) :
  PS X (.Assign [.Name x a] e pos) (tAsg c (gName i)):=by
 intro b s p H D I h;refine wpAny_Assign_Name (thn (k b s p H _ I h) fun v q ⟨y,d,f,o,n⟩=>?_) hs;exact qK f j hi m o (fun r g=>⟨_,d,g,n⟩) l
def tPar(i j:Nat)(ta:TA):TS:=fun D σ H=>ta σ H fun vs H1=>∃v w,vs=[v,w]/\D.nx ((σ.set i (some v)).set j (some w)) H1
theorem yG{i j:Nat}{x y:Str}{a b:Expr}{A:TA}{m n l:Pos}{kt k2 pt2}(hc:X.calm=true)(hN:X.N.Nodup)(hi:X.N[i]?=some x)(hj:X.N[j]?=some y)(hij:i≠j)
  (hx:X.env.scope.names.lookup x=some .local) (hy:X.env.scope.names.lookup y=some .local) (ha:PA X [a,b] A)
  (hw:swappedStores [.Tuple [.Name x m,.Name y n] kt l] (.Tuple [a,b] k2 pt2) X.env=pure (some [x,y]))
  (hs:swapsWithSole [.Tuple [.Name x m,.Name y n] kt l] (.Tuple [a,b] k2 pt2) pos.line X.env=pure false:=by rfl) :
  PS X (.Assign [.Tuple [.Name x m,.Name y n] kt l] (.Tuple [a,b] k2 pt2) pos) (tPar i j A):=by
 intro c s B H D I h;rw[exec_Assign_arm];refine um (wpAny_standAt ?_);rw[hs];refine um (ul ?_);rw[vd (by decide)];refine um (Tuple_ (thn (ha _ c s B H _ I h) fun M d ⟨P,u,C,K,r⟩=>?_));obtain⟨v,w,J,r⟩:=r;subst J;obtain⟨f,g,rfl,L,t⟩:∃f g,M=[f,g]/\RelV v f/\RelV w g:=by
  cases K with
  | cons p q=>
   cases q with
   | cons p' q'=>
    cases q';exact⟨_,_,rfl,p,p'⟩
 refine wpAny_newObj_type ?_ (by show 2<=sizeLine;decide);have E:Inv X c B u {d with heap:=d.heap.push {cls:=.type "tuple",data:=.seq [f,g].toArray}}:=C.kept (t':=d.toks) fun b o e=>vI _ e
 rw[hw];refine um (ul ?_);show wpAny (model X.prog X.w) X.A (do rule "assign.swapped-stores";let items <-unpackItems (.ref d.heap.objs.size) 2 none;assignInOrder [fun v=>bindName X.env y v,fun v=>bindName X.env x v] items.reverse;pure Flow.next) _ _ _;refine um (wpAny_rule (um (unpackItems_tuple (items:=#[f,g]) (I.ok.hd hc) (IsTup.new d.heap _) fun h' k=>?_)));have F:=E.kept (h':=h') (t':=d.toks) fun b o e=>k b o (vD (vH e)) e
 show wpAny _ _ (assignInOrder [fun v=>bindName X.env y v,fun v=>bindName X.env x v] [g,f] >>= fun _=>pure Flow.next) _ _ _;refine um (assignInOrder_cons (wpAny_bindName (qK F hN hj (.inl hy) t (fun N G=>?_) (.inr hy))));refine assignInOrder_cons (wpAny_bindName (qK G hN hi (.inl hx) L (fun O z=>assignInOrder_nil (ul ?_)) (.inr hx)));rw[List.set_comm _ _ (Ne.symm hij)]at z;exact⟨_,u,z,r⟩
def tAug(i:Nat)(te:TE)(ti:TIp):TS:=fun D σ H=>∃x,σ[i]?=some (some x)/\te σ H fun y H1=>ti x y H1 fun z H2=>D.nx (σ.set i (some z)) H2
theorem Xk{i:Nat}{x:Str}{e:Expr}{q:TE}{op:Operator}{t:TIp}{f:Pos}(K:X.N.Nodup)(hi:X.N[i]?=some x)(n:Loc X.env.scope x)(M:PE X e q)(R:PIp X op t)(N:X.fn x=true\/X.env.scope.names.lookup x=some .local:=by first | exact .inl rfl | exact .inr rfl | assumption) :
  PS X (.AugAssign (.Name x f) op e pos) (tAug i q t):=by
 intro a s A H D I h;obtain⟨v,J,h⟩:=h;obtain⟨m,Q,O⟩:=I.loc;have o:Vis X.env.scope x:=by rcases n with k | k;exact .inl k;exact .inr (.inl k)
 obtain⟨u,r,l⟩:=O i x v hi J o;refine wpAny_AugAssign_Name ?_;have p:wpAny (model X.prog X.w) X.A (eval e X.env) (fun w g=>wpAny (model X.prog X.w) X.A (inplaceOp op u w) (fun r j=>wpAny (model X.prog X.w) X.A (storeName X.env x r) (fun _=>SP X a D .next) X.xe j) X.xe g) X.xe s:=by
  refine thn (M a s A H _ I h) fun w Y ⟨y,B,E,U,S⟩=>?_
  refine thn (R a Y A B v y u w _ E r U S) fun z Z ⟨zv,C,F,W,T⟩=>?_
  exact qK F K hi n W (fun s3 G=>⟨_,C,G,T⟩) N
 rcases l with⟨b,P⟩ | ⟨b,c,L,d⟩
 ·exact wpAny_loadName_local I.ok.kind b Q P p
 ·rcases b with b | b
  ·exact wpAny_loadName_cell I.ok.kind b L d p
  ·rcases n with k | k
   ·have:X.env.scope.names.lookup x=some .free:=b;rw[k]at this;cases this
   ·have:X.env.scope.names.lookup x=some .free:=b;rw[k]at this;cases this
noncomputable def ipI(f:Int->Int->Int):TIp:=fun x y H Q=>∃i j,x = .int i/\y = .int j/\Q (.int (f i j)) H
theorem xR:PIp X .Add (ipI fun i j=>i+j):=by
 intro a s g H x y v u Q I d e h;obtain⟨i,j,b,c,q⟩:=h;subst b;subst c;obtain⟨t,rfl⟩:=d;obtain⟨f,rfl⟩:=e;exact iadd_int ⟨.int _,H,I.tok _,⟨_,rfl⟩,q⟩
end
section
variable{X:Cx}{pos:Pos}
def tWhile(c:TT)(tb:TS):TS:=fun D σ H=>∃W:Nat->St->Hp->Prop,(∃m,W m σ H)/\∀m σ H,W m σ H->
 c σ H fun b H1=>if b=true then∃N:St->Hp->Prop,(∀σ' H',N σ' H'->∃m',m'<m/\W m' σ' H')/\tb {D with nx:=N,ct:=N,bk:=D.nx} σ H1 else D.nx σ H1
theorem zg{c:Expr}{g:List Stmt}{C:TT}{B:TS}(A:PassesOwn (model X.prog X.w) X.A X.env X.xe)(G:PT X c C)(F:PSs X g B):PS X (.While c g [] pos) (tWhile C B):=by
 intro a s Q H D I h;obtain⟨W,⟨J,O⟩,j⟩:=h;refine wpAny_While (codeAny_whileLoop (fun n K=>∃k u,Inv X a k u K/\W n k u) ?_ J ⟨Q,H,I,O⟩);rintro n L ⟨e,w,E,P⟩;refine wpAny_passesOwn A (thn (G a L e w _ E (j n e w P)) fun b M ⟨x,y,l⟩=>?_);cases b with
 | true=>
  obtain⟨N,z,l⟩:=l;rw[ve rfl];refine wpAny_passesOwn A (thn (F a M e x _ y l) fun f R m=>?_);cases f with
  | next=>
   obtain⟨d,i,o,r⟩:=m;obtain⟨q,p,t⟩:=z d i r;exact⟨q,p,d,i,o,t⟩
  | cont=>
   obtain⟨d,i,o,r⟩:=m;obtain⟨q,p,t⟩:=z d i r;exact⟨q,p,d,i,o,t⟩
  | brk=>exact m
  | ret v=>exact m
 | false=>
  rw[vd vE];exact wpAny_execs_nil ⟨e,x,y,l⟩
end
structure It where
 go:Nat->Hp->Prop
 yld:Nat->Hp->V->Hp->Prop
 stop:Nat->Hp->Prop
def FpOk(X:Cx)(pins:List (Addr×Obj))(H:Hp)(b:Addr):Prop:=
 H b=none/\b≠X.env.locals/\b∉X.fs/\(b∈X.ex\/X.s₀.heap.objs.size<=b)/\(∀x c,X.env.cells.lookup x=some c->c≠b)/\∀p∈X.pn++pins,p.1≠b
theorem Inv.fpOk{g:St}{H H':Hp}(I:Inv X pins g H s)(a:s.heap.objs.size<=b)(d:H' b=none):FpOk X pins H' b:=by
 refine⟨d,Nat.ne_of_gt (Nat.lt_of_lt_of_le I.lt a),I.nofs a,.inr (vU I.sz a),fun x c e z=>?_,fun p f z=>?_⟩
 ·obtain⟨v,q⟩:=I.cell x c e;exact uk (Nat.lt_of_lt_of_le q.lt (by rw[z];exact a)) (Nat.lt_irrefl _)
 ·exact uk (Nat.lt_of_lt_of_le (vH (I.pin p f).1) (by rw[z];exact a)) (Nat.lt_irrefl _)
structure Turn(P:Program)(w:World)(K:Frg)(tg:Expr)(J:It)(fp:List Addr)(it:Addr)(tn:Nat->Heap->Prop):Prop where
 mem:it∈fp
 obj:∀i h,tn i h->∀b∈fp,∃o,h.get? b=some o/\∀v,o.data≠.cell v
 keep:∀i h h',tn i h->(∀b∈fp,∀o,h.get? b=some o->h'.get? b=some o)->tn i h'
 item:∀(X:Cx),X.prog=P->X.w=w->X.K=K->X.calm=true->∀(i:Nat) (pins:List (Addr×Obj)) (s:Shared) (σ:St) (H:Hp) (E:Value->Shared->Prop),Inv X pins σ H s->(∀b∈fp,FpOk X pins H b)->tn i s.heap->J.go i H->
  wpAny (model P w) X.A (pyNext (.ref it)) (fun r s1=>∃u,r=some u/\
   wpAny (model P w) X.A (letOwnedTupleGo tg (.ref it) u) (fun _ s2=>∃x H',Inv X pins σ H' s2/\RelV x u/\J.yld i H x H'/\tn (i+1) s2.heap/\∀b∈fp,H' b=none) E s1) E s
 done:∀(X:Cx),X.prog=P->X.w=w->X.K=K->X.calm=true->∀(i:Nat) (pins:List (Addr×Obj)) (s:Shared) (σ:St) (H:Hp) (E:Value->Shared->Prop),Inv X pins σ H s->(∀b∈fp,FpOk X pins H b)->tn i s.heap->J.stop i H->
  wpAny (model P w) X.A (pyNext (.ref it)) (fun r s1=>r=none/\Inv X pins σ H s1) E s
 self:∀(A:Around) (i:Nat) (s:Shared) (Q:Value->Shared->Prop) (E:Value->Shared->Prop),tn i s.heap->Q (.ref it) s->wpAny (model P w) A (pyIter (.ref it)) Q E s
noncomputable abbrev TI:=St->Hp->(It->Hp->Prop)->Prop
def PIE(X:Cx)(pins:List (Addr×Obj))(σ:St)(tg:Expr)(R:It->Hp->Prop)(itv:Value)(s2:Shared):Prop:=
 ∃(it:Addr) (fp:List Addr) (tn:Nat->Heap->Prop) (J:It) (H':Hp),itv = .ref it/\Inv X pins σ H' s2/\Turn X.prog X.w X.K tg J fp it tn/\tn 0 s2.heap/\(∀b∈fp,FpOk X pins H' b)/\R J H'
def PI(X:Cx)(tg iter:Expr)(wi:TI):Prop:=
 ∀(pins:List (Addr×Obj)) (s:Shared) (σ:St) (H:Hp) (R:It->Hp->Prop),Inv X pins σ H s->wi σ H R->
  wpAny (model X.prog X.w) X.A (eval iter X.env) (fun v s1=>wpAny (model X.prog X.w) X.A (pyIter v) (PIE X pins σ tg R) X.xe s1) X.xe s
theorem wA{E:Value->Shared->Prop}{Q:Unit->Shared->Prop}(e:s.heap.get? it=some o)(b:o.cls = .type n)(c:o.data = .fields vs)
    (d:["enumerate","zip","dict_itemiterator","dict_reverseitemiterator","odict_iterator","itertools.zip_longest","itertools.pairwise"].contains n=false) (a:Q () s):wpAny M A (letOwnedTupleGo tg (.ref it) u) Q E s:=by
  unfold letOwnedTupleGo;cases tg<;>first
    | exact ul a
    | (cases u<;>first
        | exact ul a
        | (refine um (wpAny_load e ?_)
           rw[b,c];show wpAny M A (if(["enumerate","zip","dict_itemiterator","dict_reverseitemiterator","odict_iterator","itertools.zip_longest","itertools.pairwise"].contains n&&vs[0]?==some (rawInt _))=true then _ else _) Q E s;rw[vd (by intro h;rw[d,Bool.false_and]at h;cases h)];exact ul a))
def Itl(K:Frg)(a:Addr):It:=
 ⟨fun i H=>∃xs x,SqL K H a xs/\xs[i]?=some x,fun i H x H'=>H'=H/\∀xs,SqL K H a xs->xs[i]?=some x,fun i H=>∃xs,SqL K H a xs/\xs.length<=i⟩
def Itt(K:Frg)(a:Addr):It:=
 ⟨fun i H=>∃xs x,SqT K H a xs/\xs[i]?=some x,fun i H x H'=>H'=H/\∀xs,SqT K H a xs->xs[i]?=some x,fun i H=>∃xs,SqT K H a xs/\xs.length<=i⟩
def Itr(lo:Int)(n:Nat):It:=⟨fun i _=>i<n,fun i H x H'=>H'=H/\x = .int (lo+i),fun i _=>n<=i⟩
theorem K5{P:Program}{w:World}{K:Frg}{tg:Expr}(a it:Addr):Turn P w K tg (Itl K a) [it] it (fun i h=>h.IsListIter it a i) where
 mem:=by simp
 obj:=fun i h f b j=>by
  have e:b=it:=by simpa using j
  subst e;obtain⟨o,e,c,d⟩:=f;exact⟨o,e,fun v z=>by rw[d]at z;cases z⟩
 keep:=fun i h m f k=>f.at fun o e=>k it (by simp) o e
 item:=by
  intro X D G C N i g s O H E I n f F;subst D G C;obtain⟨xs,x,q,J⟩:=F;obtain⟨L,M,p,W⟩:=I.list q;obtain⟨u,T,Y⟩:=M.get J;obtain⟨r,t,S,y,A,B⟩:=n it (by simp);refine wpAny_pyNext_list_item f p.isList (x:=u) (by simpa using T) fun m l Z=>?_
  have Q:Inv X g O H {s with heap:=m}:=I.turned (t':=s.toks) (fun b o j e=>(Z.2 b j).trans e) r t y A B;obtain⟨o,e,c,d⟩:=id l;exact⟨u,rfl,wA (s:={s with heap:=m}) e c d (by decide) ⟨x,H,Q,Y,⟨rfl,fun ys U=>by rw[I.list_inj U q];exact J⟩,l,fun b j=>(n b j).1⟩⟩
 done:=by
  intro X D G C N i g s O H E I n f F;subst D G C;obtain⟨xs,q,J⟩:=F;obtain⟨L,M,p,W⟩:=I.list q;obtain⟨r,t,S,y,A,B⟩:=n it (by simp);have hl:=M.length;exact wpAny_pyNext_list_end (I.ok.hd N) f p.isList (by simp;lia) fun m R=>⟨rfl,I.turned (t':=s.toks) (fun b o j e=>R b o j e) r t y A B⟩
 self:=fun _ _ _ _ _ f h=>wpAny_pyIter_listiter f h
theorem kA{P:Program}{w:World}{K:Frg}{tg:Expr}(a it:Addr):Turn P w K tg (Itt K a) [it] it (fun i h=>h.IsTupleIter it a i) where
 mem:=by simp
 obj:=fun i h f b j=>by
  have e:b=it:=by simpa using j
  subst e;obtain⟨o,e,c,d⟩:=f;exact⟨o,e,fun v z=>by rw[d]at z;cases z⟩
 keep:=fun i h n f k=>f.at fun o e=>k it (by simp) o e
 item:=by
  intro X F J D N i g s O H E I q f G;subst F J D;obtain⟨xs,x,r,L⟩:=G;obtain⟨l,M,p,W⟩:=I.tuple r;obtain⟨u,T,Y⟩:=M.get L;obtain⟨t,y,S,A,B,C⟩:=q it (by simp);refine wpAny_pyNext_tuple_item f (show s.heap.IsTuple a l.toArray from p) (x:=u) (by simpa using T) fun n m Z=>?_
  have Q:Inv X g O H {s with heap:=n}:=I.turned (t':=s.toks) (fun b o j e=>(Z.2 b j).trans e) t y A B C;obtain⟨o,e,c,d⟩:=id m;exact⟨u,rfl,wA (s:={s with heap:=n}) e c d (by decide) ⟨x,H,Q,Y,⟨rfl,fun ys U=>by rw[I.tuple_inj U r];exact L⟩,m,fun b j=>(q b j).1⟩⟩
 done:=by
  intro X F J D N i g s O H E I q f G;subst F J D;obtain⟨xs,r,L⟩:=G;obtain⟨l,M,p,W⟩:=I.tuple r;obtain⟨t,y,S,A,B,C⟩:=q it (by simp);have hl:=M.length;exact wpAny_pyNext_tuple_end (I.ok.hd N) f (show s.heap.IsTuple a l.toArray from p) (by simp;lia) fun n R=>⟨rfl,I.turned (t':=s.toks) (fun b o j e=>R b o j e) t y A B C⟩
 self:=fun _ _ _ _ _ f h=>wpAny_pyIter_tupleiter f h
theorem kz{P:Program}{w:World}{K:Frg}{N:Expr}(it:Addr)(lo:Int)(n:Nat):Turn P w K N (Itr lo n) [it] it (fun i h=>IsRangeIter h it (lo+(i:Nat)*1) ((n:Int)-(i:Nat)) 1) where
 mem:=by simp
 obj:=fun i h a b d=>by
  have e:b=it:=by simpa using d
  subst e;exact⟨_,a,fun v z=>by
   have O:Data.fields _=Data.cell v:=z;cases O⟩
 keep:=fun i h g a k=>k it (by simp) _ a
 item:=by
  intro X x B u y i c s D H E I j a A;subst x B u;obtain⟨l,m,J,p,q,r⟩:=j it (by simp);have W:=Walks.range (prog:=X.prog) (w:=X.w) (I.ok.hd y) it lo 1 n;refine W.item i s _ _ A a fun v g C L f M=>?_
  obtain⟨t,rfl⟩:=L;have F:Inv X c D H {s with heap:=g,toks:=C}:=I.turned (fun b o d e=>M b o (by simpa using d) e) l m p q r;refine⟨_,rfl,wA (s:={s with heap:=g,toks:=C}) (n:="range_iterator") f rfl rfl (by decide) ⟨.int (lo+i),H,F,⟨t,?_⟩,⟨rfl,rfl⟩,f,fun b d=>(j b d).1⟩⟩;rw[Int.mul_one]
 done:=by
  intro X x B u y i c s D H E I j a A;subst x B u;obtain⟨l,m,J,p,q,r⟩:=j it (by simp);exact wpAny_pyNext_range_end (I.ok.hd y) a (by have:n<=i:=A;lia) fun g G=>⟨rfl,I.turned (t':=s.toks) (fun b o d e=>G b o d e) l m p q r⟩
 self:=fun _ _ _ _ _ a h=>wpAny_pyIter_rangeiter a h
section
variable{X:Cx}{tg:Expr}
def iList(K:Frg)(tl:TE):TI:=fun σ H R=>tl σ H fun x H1=>∃a,x = .ref a/\(∃xs,SqL K H1 a xs)/\R (Itl K a) H1
def iTup(K:Frg)(tl:TE):TI:=fun σ H R=>tl σ H fun x H1=>∃a,x = .ref a/\(∃xs,SqT K H1 a xs)/\R (Itt K a) H1
theorem jR{l:Expr}{g:TE}(k:PE X l g):PI X tg l (iList X.K g):=by
 intro c s u H R I h;refine thn (k c s u H _ I h) fun v f ⟨x,i,d,t,r⟩=>?_
 obtain⟨a,e,⟨z,m⟩,q⟩:=r;subst e;cases t;obtain⟨n,y,p,w⟩:=d.list m;refine wpAny_pyIter_list p.isList ?_;refine⟨f.heap.objs.size,[f.heap.objs.size],_,_,i,rfl,d.kept (t':=f.toks) fun b o e=>vI _ e,K5 a _,⟨_,Heap.get?_push_size _ rfl,rfl,rfl⟩,fun b j=>?_,q⟩;have e:b=f.heap.objs.size:=by simpa using j
 subst e;exact d.fpOk (vc _) (d.hok.fresh (vc _))
theorem Xj{l:Expr}{i:TE}(m:PE X l i):PI X tg l (iTup X.K i):=by
 intro c s u H R I h;refine thn (m c s u H _ I h) fun v d ⟨x,j,f,t,r⟩=>?_
 obtain⟨a,e,⟨z,n⟩,q⟩:=r;subst e;cases t;obtain⟨g,y,p,w⟩:=f.tuple n;refine wpAny_pyIter_tuple (show d.heap.IsTuple a g.toArray from p) ?_;refine⟨d.heap.objs.size,[d.heap.objs.size],_,_,j,rfl,f.kept (t':=d.toks) fun b o e=>vI _ e,kA a _,⟨_,Heap.get?_push_size _ rfl,rfl,rfl⟩,fun b k=>?_,q⟩;have e:b=d.heap.objs.size:=by simpa using k
 subst e;exact f.fpOk (vc _) (f.hok.fresh (vc _))
theorem Wd{a:List (Addr×Obj)}{f:St}{H:Hp}{s:Shared}{R:It->Hp->Prop}{E:Value->Shared->Prop}{lo hi:Int}{t u v:Tok}{d:Nat}(I:Inv X a f H s)(i : -(2^62)<=lo)(j:lo<2^62)(k : -(2^62)<=hi)(l:hi<2^62)
  (q:R (Itr lo (hi-lo).toNat) H):wpAny (model X.prog X.w) X.A (pyIter (.ref s.heap.objs.size)) (PIE X a f tg R) E {s with heap:=s.heap.push {cls:=.type "range",data:=.fields #[.int lo t,.int hi u,.int 1 v]},toks:=d}:=by
 refine wpAny_pyIter_range (IsRange.new ..) (small_one i j k l) ?_;have c:Inv X a f H {s with heap:=s.heap.push {cls:=.type "range",data:=.fields #[.int lo t,.int hi u,.int 1 v]},toks:=d}:=I.kept fun b o e=>vI _ e
 refine⟨(s.heap.push {cls:=.type "range",data:=.fields #[.int lo t,.int hi u,.int 1 v]}).objs.size,[(s.heap.push {cls:=.type "range",data:=.fields #[.int lo t,.int hi u,.int 1 v]}).objs.size],_,_,H,rfl,
  c.kept (t':=d) fun b o e=>vI _ e,kz _ lo (hi-lo).toNat,?_,fun b m=>?_,q⟩
 ·have g:lo+((0:Nat):Int)*1=lo:=by simp
  have h:(((hi-lo).toNat:Nat):Int)-((0:Nat):Int)=Builtin.Range.rangeSize lo hi 1:=by rw[rangeSize_one];split<;>lia
  show IsRangeIter _ _ (lo+((0:Nat):Int)*1) ((((hi-lo).toNat:Nat):Int)-((0:Nat):Int)) 1;rw[g,h];exact Heap.get?_push_size _ rfl
 ·have e:b=(s.heap.push {cls:=.type "range",data:=.fields #[.int lo t,.int hi u,.int 1 v]}).objs.size:=by simpa using m
  subst e;exact c.fpOk (vc _) (c.hok.fresh (vc _))
def iRng1(ta:TA):TI:=fun σ H R=>ta σ H fun vs H1=>∃j:Int,vs=[.int j]/\-(2^62)<=j/\j<2^62/\R (Itr 0 j.toNat) H1
theorem Z1{a:Expr}{f:TA}{p c:Pos}(k:Gl X "range")(l:X.mg "range"= none)(i:PA X [a] f)(hs:starEach [a] X.env=[(false,eval a X.env)]:=by rfl):PI X tg (.Call (.Name "range" p) [a] [] c) (iRng1 f):=by
 intro b s o H R I h;refine Call_ (qY I k l boot_range (PyProof.Rows.callWith_type1 (thn (i c b s o H _ I h) fun w v ⟨x,u,g,n,d⟩=>?_) hs rfl));obtain⟨j,e,d,m,q⟩:=d;subst e;cases n with
 | cons r rr=>
  cases rr;obtain⟨t,rfl⟩:=r;exact call_range_1 (Wd g (by lia) (by lia) d m (by simpa using q))
def tFor(wi:TI)(g:TG)(tb:TS):TS:=fun D σ H=>wi σ H fun J H1=>∃W:Nat->Nat->St->Hp->Prop,(∃m,W 0 m σ H1)/\∀i m σ H,W i m σ H->
 (J.stop i H/\D.nx σ H)\/(J.go i H/\∃N:St->Hp->Prop,(∀σ' H',N σ' H'->∃m',m'<m/\W (i+1) m' σ' H')/\∀x H',J.yld i H x H'->g x σ H' fun σ2 H2=>tb {D with nx:=N,ct:=N,bk:=D.nx} σ2 H2)
noncomputable def pinsAt(fp:List Addr)(h:Heap):List (Addr×Obj):=fp.filterMap fun b=>(h.get? b).map fun o=>(b,o)
theorem qZ(a:b∈fp)(e:h.get? b=some o):(b,o)∈pinsAt fp h:=mem_filterMap.mpr ⟨b,a,by rw[e];rfl⟩
theorem KO(d:p∈pinsAt fp h):p.1∈fp/\h.get? p.1=some p.2:=by
 obtain⟨b,c,e⟩:=mem_filterMap.mp d;cases q:h.get? b with
 | none=>rw[q]at e;cases e
 | some o=>
  rw[q]at e;have a:(b,o)=p:=vK e;subst a;exact⟨c,q⟩
theorem Inv.pinned{f:St}{H:Hp}(I:Inv X pins f H s)(j:∀b∈fp,FpOk X pins H b)(k:∀b∈fp,∃o,s.heap.get? b=some o/\∀v,o.data≠.cell v):Inv X (pins++pinsAt fp s.heap) f H s:=
 I.pins_of fun p l=>(vi.mp l).elim (fun z=>I.pin p (mem_append_right _ z)) fun z=>by
  obtain⟨c,e⟩:=KO z;obtain⟨g,h,i,_⟩:=j p.1 c;obtain⟨o,a,d⟩:=k p.1 c;rw[e]at a;cases a;exact⟨e,g,h,i,d⟩
theorem Inv.unpinned{a:St}{H:Hp}(I:Inv X (pins++pl) a H s):Inv X pins a H s:=I.pins_of fun p b=>I.pin p (mem_append_right _ (mem_append_left _ b))
theorem JH{q:Expr}{A:List Stmt}{wi:TI}{g:TG}{tb:TS}{Y:Pos}(G:PassesOwn (model X.prog X.w) X.A X.env X.xe)(hc:X.calm=true)(hi:PI X tg q wi)(hg:PG X tg g)(p:PSs X A tb)
  (hs:∀x,foldedSetIterable q X.env x=pure x:=by intro _;rfl):PS X (.For tg q A [] Y) (tFor wi g tb):=by
 intro a s σ H D I h;refine wpAny_For (thn (hi a s σ H _ I h) fun v s1 h1=>thn h1 fun a2 s2 h2=>?_) hs;obtain⟨it,E,tn,J,H2,e,I2,T,a0,f2,W,⟨m0,w0⟩,P⟩:=h2;subst e;have t:∀{z:Hp},(∀b∈E,z b=none)->∀b∈E,FpOk X a z b:=fun hn b p=>⟨hn b p,(f2 b p).2⟩
 refine codeAny_forLoop_any (fun n s'=>∃i w z,Inv X a w z s'/\tn i s'.heap/\(∀b∈E,z b=none)/\W i n w z) ?_ m0 ⟨0,σ,H2,I2,a0,fun b p=>(f2 b p).1,w0⟩;rintro n s3 ⟨i,y,Q,I3,L,F,w3⟩;rcases P i n y Q w3 with⟨O,qn⟩ | ⟨go,N,hN,M⟩
 ·refine wpAny_passesOwn G (thn (T.done X rfl rfl rfl hc i a s3 y Q X.xe I3 (t F) L O) fun r s4 ⟨U,I4⟩=>?_);subst U;exact wpAny_execs_nil ⟨y,Q,I4,qn⟩
 ·refine wpAny_passesOwn G (thn (T.item X rfl rfl rfl hc i a s3 y Q X.xe I3 (t F) L go) fun r s4 ⟨u,U,h4⟩=>?_);subst U;refine wpAny_passesOwn G (thn h4 fun _ s5 ⟨x,H5,I5,r5,y5,C,S⟩=>?_);have R:=I5.pinned (t S) (T.obj _ _ C);refine wpAny_passesOwn G (thn (hg _ s5 y H5 x u _ R r5 (M x H5 y5)) fun _ s6 ⟨a1,H6,I6,q6⟩=>?_);refine wpAny_passesOwn G (thn (p _ s6 a1 H6 _ I6 q6) fun f Z B=>?_);have l:∀{c:St} {j:Hp},Inv X (a++pinsAt E s5.heap) c j Z->N c j->∃m,m<n/\∃i w z,Inv X a w z Z/\tn i Z.heap/\(∀b∈E,z b=none)/\W i m w z:=fun {c j} k K=>by
   obtain⟨m',hm,w7⟩:=hN c j K;refine⟨m',hm,i+1,c,j,k.unpinned,T.keep _ _ _ C fun b p o e=>(k.pin (b,o) (mem_append_right _ (mem_append_right _ (qZ p e)))).1,fun b p=>?_,w7⟩;obtain⟨o,e,d⟩:=T.obj _ _ C b p;exact(k.pin (b,o) (mem_append_right _ (mem_append_right _ (qZ p e)))).2.1
  cases f with
  | next=>obtain⟨c,j,k,K⟩:=B;exact l k K
  | cont=>obtain⟨c,j,k,K⟩:=B;exact l k K
  | brk=>obtain⟨c,j,k,B⟩:=B;exact⟨c,j,k.unpinned,B⟩
  | ret v=>obtain⟨x7,c,j,k,r7,B⟩:=B;exact⟨x7,c,j,k.unpinned,r7,B⟩
end
theorem JR{K:Frg}{a:Addr}{xs:List V}{g:TG}{j:TS}{D:Ends}{b:St}{H:Hp}(c:Nat->St->Hp->Prop)(k:c 0 b H)(o:∀i b H,i<=xs.length->c i b H->SqL K H a xs)
  (hs:∀i x b H,xs[i]?=some x->c i b H->g x b H fun d H2=>j {D with nx:=c (i+1),ct:=c (i+1),bk:=D.nx} d H2) (l:∀b H,c xs.length b H->D.nx b H) :
  ∃W:Nat->Nat->St->Hp->Prop,(∃m,W 0 m b H)/\∀i m b H,W i m b H->
   ((Itl K a).stop i H/\D.nx b H)\/((Itl K a).go i H/\∃N:St->Hp->Prop,(∀σ' H',N σ' H'->∃h,h<m/\W (i+1) h σ' H')/\∀x H',(Itl K a).yld i H x H'->g x b H' fun d H2=>j {D with nx:=N,ct:=N,bk:=D.nx} d H2):=by
 refine⟨fun i m b H=>m=xs.length-i/\i<=xs.length/\c i b H,⟨xs.length,by simp,vb _,k⟩,?_⟩;rintro i m b H ⟨rfl,n,p⟩;have q:=o i b H n p;by_cases f:i<xs.length
 ·refine .inr ⟨⟨xs,xs[i],q,by simp[f]⟩,c (i+1),fun σ' H' r=>⟨xs.length-(i+1),by lia,rfl,f,r⟩,fun x H' y=>?_⟩;obtain⟨e,y⟩:=y;subst e;exact hs i x b _ (y xs q) p
 ·have e:i=xs.length:=by lia
  subst e;exact .inl ⟨⟨xs,q,vc _⟩,l b H p⟩
theorem KA{lo:Int}{n:Nat}{g:TG}{h:TS}{D:Ends}{a:St}{H:Hp}(b:Nat->St->Hp->Prop)(j:b 0 a H)
  (hs:∀i a H,i<n->b i a H->g (.int (lo+i)) a H fun d H2=>h {D with nx:=b (i+1),ct:=b (i+1),bk:=D.nx} d H2) (k:∀a H,b n a H->D.nx a H) :
  ∃W:Nat->Nat->St->Hp->Prop,(∃m,W 0 m a H)/\∀i m a H,W i m a H->
   ((Itr lo n).stop i H/\D.nx a H)\/((Itr lo n).go i H/\∃N:St->Hp->Prop,(∀σ' H',N σ' H'->∃f,f<m/\W (i+1) f σ' H')/\∀x H',(Itr lo n).yld i H x H'->g x a H' fun d H2=>h {D with nx:=N,ct:=N,bk:=D.nx} d H2):=by
 refine⟨fun i m a H=>m=n-i/\i<=n/\b i a H,⟨n,by simp,vb _,j⟩,?_⟩;rintro i m a H ⟨rfl,o,p⟩;by_cases c:i<n
 ·refine .inr ⟨c,b (i+1),fun σ' H' l=>⟨n-(i+1),by lia,rfl,c,l⟩,fun x H' y=>?_⟩;obtain⟨e,y⟩:=y;subst e y;exact hs i a _ c p
 ·have e:i=n:=by lia
  subst e;exact .inl ⟨vc _,k a H p⟩
noncomputable abbrev R2:=V->V->Hp->VK->Prop
def OpR(X:Cx)(f:Value->Value->Sem Value)(r:R2):Prop:=
 ∀(pins:List (Addr×Obj)) (s:Shared) (σ:St) (H:Hp) (x y:V) (v u:Value) (Q:VK),Inv X pins σ H s->RelV x v->RelV y u->r x y H Q->
  wpAny (model X.prog X.w) X.A (f v u) (EP X pins σ Q) X.xe s
def UnR(X:Cx)(f:Value->Sem Value)(r:V->Hp->VK->Prop):Prop:=
 ∀(pins:List (Addr×Obj)) (s:Shared) (σ:St) (H:Hp) (x:V) (v:Value) (Q:VK),Inv X pins σ H s->RelV x v->r x H Q->
  wpAny (model X.prog X.w) X.A (f v) (EP X pins σ Q) X.xe s
def CallR(X:Cx)(f:Value)(r:List V->Hp->VK->Prop):Prop:=
 ∀(pins:List (Addr×Obj)) (s:Shared) (σ:St) (H:Hp) (xs:List V) (us:List Value) (Q:VK),Inv X pins σ H s->Vals xs us->r xs H Q->
  wpAny (model X.prog X.w) X.A (call f us) (EP X pins σ Q) X.xe s
def TruR(X:Cx)(r:V->Hp->(Bool->Hp->Prop)->Prop):Prop:=
 ∀(pins:List (Addr×Obj)) (s:Shared) (σ:St) (H:Hp) (x:V) (v:Value) (Q:Bool->Hp->Prop),Inv X pins σ H s->RelV x v->r x H Q->
  wpAny (model X.prog X.w) X.A (truthy v) (TP X pins σ Q) X.xe s
def tOp(r:R2)(ta tb:TE):TE:=fun σ H Q=>ta σ H fun x H1=>tb σ H1 fun y H2=>r x y H2 Q
def tUn(r:V->Hp->VK->Prop)(ta:TE):TE:=fun σ H Q=>ta σ H fun x H1=>r x H1 Q
def rI(C:Int->Int->Prop)(g:Int->Int->V):R2:=fun x y H Q=>∃i j,x = .int i/\y = .int j/\C i j/\Q (g i j) H
def rI0(g:Int->Int->V):R2:=fun x y H Q=>∃i j,x = .int i/\y = .int j/\Q (g i j) H
noncomputable def rU(g:Int->V):V->Hp->VK->Prop:=fun x H Q=>∃i,x = .int i/\Q (g i) H
section
variable{X:Cx}{a b c:Expr}{ta tb tc:TE}{pos:Pos}
theorem binT(k:PE X a ta)(l:PE X b tb){c:St}{H:Hp}{R:V->V->Hp->Prop}(I:Inv X pins c H s)
  (h:ta c H fun x H1=>tb c H1 fun y H2=>R x y H2) {Q:Value->Shared->Prop} {f:Value->Value->Sem Value}
  (m:∀v u g x y H2,Inv X pins c H2 g->RelV x v->RelV y u->R x y H2->wpAny (model X.prog X.w) X.A (f v u) Q X.xe g) :
  wpAny (model X.prog X.w) X.A (eval a X.env) (fun v d=>wpAny (model X.prog X.w) X.A (eval b X.env) (fun u e=>wpAny (model X.prog X.w) X.A (f v u) Q X.xe e) X.xe d) X.xe s:=by
 refine thn (k pins s c H _ I h) fun v r ⟨x,H1,i,p,n⟩=>?_
 refine thn (l pins r c H1 _ i n) fun u g ⟨y,H2,j,q,o⟩=>?_
 exact m v u g x y H2 j p q o
theorem jh(i:OpR X (binaryOp op) r)(f:PE X a ta)(g:PE X b tb):PE X (.BinOp a op b pos) (tOp r ta tb):=by
 intro c s m H Q I h;exact wpAny_BinOp (binT f g I h fun v u l x y d e j k q=>i c l m d x y v u Q e j k q)
theorem Yv{r:V->Hp->VK->Prop}(g:UnR X (unaryOp op) r)(f:PE X a ta):PE X (.UnaryOp op a pos) (tUn r ta):=by
 intro b s c H Q I h;exact UnaryOp_ (thn (f b s c H _ I h) fun v k ⟨x,d,e,j,i⟩=>g b k c d x v Q e j i)
theorem opI{f:Value->Value->Sem Value}{C:Int->Int->Prop}{g:Int->Int->Int}
  (a:∀(i j:Int) (t u:Tok) (s:Shared) (Q:Value->Shared->Prop) (E:Value->Shared->Prop),C i j->Q (.int (g i j) s.toks) {s with toks:=s.toks+1}->wpAny (model X.prog X.w) X.A (f (.int i t) (.int j u)) Q E s) :
  OpR X f (rI C fun i j=>.int (g i j)):=by
 intro b s l H x y v u Q I d e h;obtain⟨i,j,rfl,rfl,c,q⟩:=h;obtain⟨t,rfl⟩:=d;obtain⟨k,rfl⟩:=e;exact a i j t k s _ _ c ⟨.int (g i j),H,I.tok _,⟨_,rfl⟩,q⟩
theorem opI0{f:Value->Value->Sem Value}{g:Int->Int->Int}
  (a:∀(i j:Int) (t u:Tok) (s:Shared) (Q:Value->Shared->Prop) (E:Value->Shared->Prop),Q (.int (g i j) s.toks) {s with toks:=s.toks+1}->wpAny (model X.prog X.w) X.A (f (.int i t) (.int j u)) Q E s) :
  OpR X f (rI0 fun i j=>.int (g i j)):=by
 intro b s k H x y v u Q I c d h;obtain⟨i,j,rfl,rfl,q⟩:=h;obtain⟨t,rfl⟩:=c;obtain⟨e,rfl⟩:=d;exact a i j t e s _ _ ⟨.int (g i j),H,I.tok _,⟨_,rfl⟩,q⟩
theorem opB0{f:Value->Value->Sem Value}{g:Int->Int->Bool}
  (a:∀(i j:Int) (t u:Tok) (s:Shared) (Q:Value->Shared->Prop) (E:Value->Shared->Prop),Q (.bool (g i j)) s->wpAny (model X.prog X.w) X.A (f (.int i t) (.int j u)) Q E s) :
  OpR X f (rI0 fun i j=>.bl (g i j)):=by
 intro b s k H x y v u Q I c d h;obtain⟨i,j,rfl,rfl,q⟩:=h;obtain⟨t,rfl⟩:=c;obtain⟨e,rfl⟩:=d;exact a i j t e s _ _ ⟨.bl (g i j),H,I,rfl,q⟩
def CPow(i j:Int):Prop:=0<=j/\j<=1000000/\i.natAbs<2^64
theorem Jb:OpR X (binaryOp .Add) (rI0 fun i j=>.int (i+j)):=opI0 fun _ _ _ _ _ _ _ q=>add_int q
theorem JT:OpR X (binaryOp .Sub) (rI0 fun i j=>.int (i-j)):=opI0 fun _ _ _ _ _ _ _ q=>sub_int q
theorem Jc:OpR X (binaryOp .Mod) (rI (fun _ j=>0<j) fun i j=>.int (i%j)):=opI fun i j _ _ _ _ _ a q=>by
 have b:(0:Int)<j:=a;exact mod_int' (by lia) (by rw[Int.fmod_eq_emod_of_nonneg i (by lia)];exact q)
theorem yC:OpR X (binaryOp .Pow) (rI CPow fun i j=>.int (i^j.toNat)):=opI fun _ _ _ _ _ _ _ a q=>pow_int_small a.1 a.2.1 a.2.2 q
theorem unI{f:Value->Sem Value}{g:Int->Int}
  (a:∀(i:Int) (t:Tok) (s:Shared) (Q:Value->Shared->Prop) (E:Value->Shared->Prop),Q (.int (g i) s.toks) {s with toks:=s.toks+1}->wpAny (model X.prog X.w) X.A (f (.int i t)) Q E s) :
  UnR X f (rU fun i=>.int (g i)):=by
 intro b s d H x v Q I c h;obtain⟨i,rfl,q⟩:=h;obtain⟨t,rfl⟩:=c;exact a i t s _ _ ⟨.int (g i),H,I.tok _,⟨_,rfl⟩,q⟩
theorem Zn:UnR X (unaryOp .USub) (rU fun i=>.int (-i)):=unI fun _ _ _ _ _ q=>neg_int q
end
noncomputable def scal:V->V->Bool
 | .non,.non=>true | .non,.int _=>true | .int _,.non=>true | .non,.bl _=>true | .bl _,.non=>true | .non,.str _=>true | .str _,.non=>true
 | .int _,.int _=>true | .bl _,.bl _=>true | .str _,.str _=>true | .byt _,.byt _=>true
 | .int _,.str _=>true | .str _,.int _=>true | .bl _,.str _=>true | .str _,.bl _=>true
 | _,_=>false
def rEq:R2:=fun x y H Q=>scal x y=true/\Q (.bl (decide (x=y))) H
def rNe:R2:=fun x y H Q=>scal x y=true/\Q (.bl (!decide (x=y))) H
theorem kK:decide (V.int i=V.int j)=(i==j):=by
 rw[Bool.eq_iff_iff];simp
theorem wp:decide (V.bl i=V.bl j)=(i==j):=by
 rw[Bool.eq_iff_iff];simp
theorem kL:decide (V.str i=V.str j)=(i==j):=by
 rw[Bool.eq_iff_iff];simp
theorem kJ:decide (V.byt i=V.byt j)=(i.toList==j.toList):=by
 rw[Bool.eq_iff_iff];cases i;cases j;simp
section
variable{X:Cx}{a b c:Expr}{ta tb tc:TE}{pos:Pos}
theorem jA{a:St}{H:Hp}(I:Inv X pins a H s)(q:Q (.bl k) H)(e:k=k'):EP X pins a Q (.bool k') s:=by
 subst e;exact⟨.bl k,H,I,rfl,q⟩
theorem qF:OpR X (compareOp .Eq) rEq:=by
 intro e s f H x y v u Q I d a h;obtain⟨c,q⟩:=h;cases x with
 | non=>
  cases d;cases y with
  | non=>cases a;exact PySem.EqNone.eq_none_none (jA I q (by simp))
  | bl j=>cases a;exact PySem.EqNone.eq_none_bool (jA I q (by simp))
  | int j=>obtain⟨b,rfl⟩:=a;exact PySem.EqNone.eq_none_int (jA I q (by simp))
  | str j=>obtain⟨b,rfl⟩:=a;exact PySem.EqNone.eq_none_str (jA I q (by simp))
  | _=>exact uk (show false=true from c) vE
 | bl i=>
  cases d;cases y with
  | non=>cases a;exact PySem.EqNone.eq_bool_none (jA I q (by simp))
  | bl j=>cases a;exact eq_bool (jA I q wp)
  | str j=>obtain⟨b,rfl⟩:=a;exact PySem.EqMixed.eq_bool_str (jA I q (by simp))
  | _=>exact uk (show false=true from c) vE
 | int i=>
  obtain⟨t,rfl⟩:=d;cases y with
  | non=>cases a;exact PySem.EqNone.eq_int_none (jA I q (by simp))
  | int j=>obtain⟨b,rfl⟩:=a;exact eq_int (jA I q kK)
  | str j=>obtain⟨b,rfl⟩:=a;exact PySem.EqMixed.eq_int_str (jA I q (by simp))
  | _=>exact uk (show false=true from c) vE
 | str i=>
  obtain⟨t,rfl⟩:=d;cases y with
  | non=>cases a;exact PySem.EqNone.eq_str_none (jA I q (by simp))
  | bl j=>cases a;exact PySem.EqMixed.eq_str_bool (jA I q (by simp))
  | int j=>obtain⟨b,rfl⟩:=a;exact PySem.EqMixed.eq_str_int (jA I q (by simp))
  | str j=>obtain⟨b,rfl⟩:=a;exact eq_str (jA I q kL)
  | _=>exact uk (show false=true from c) vE
 | byt i=>
  obtain⟨t,rfl⟩:=d;cases y with
  | byt j=>obtain⟨b,rfl⟩:=a;exact PySem.W.eq_bytes (jA I q kJ)
  | _=>exact uk (show false=true from c) vE
 | _=>cases y<;>exact uk (show false=true from c) vE
theorem xy:OpR X (compareOp .NotEq) rNe:=by
 intro e s f H x y v u Q I d a h;obtain⟨c,q⟩:=h;cases x with
 | non=>
  cases d;cases y with
  | non=>cases a;exact PySem.EqNone.ne_none_none (jA I q (by simp))
  | bl j=>cases a;exact PySem.EqNone.ne_none_bool (jA I q (by simp))
  | int j=>obtain⟨b,rfl⟩:=a;exact PySem.EqNone.ne_none_int (jA I q (by simp))
  | str j=>obtain⟨b,rfl⟩:=a;exact PySem.EqNone.ne_none_str (jA I q (by simp))
  | _=>exact uk (show false=true from c) vE
 | bl i=>
  cases d;cases y with
  | non=>cases a;exact PySem.EqNone.ne_bool_none (jA I q (by simp))
  | bl j=>cases a;exact ne_bool (jA I q (congrArg not wp))
  | str j=>obtain⟨b,rfl⟩:=a;exact PySem.EqMixed.ne_bool_str (jA I q (by simp))
  | _=>exact uk (show false=true from c) vE
 | int i=>
  obtain⟨t,rfl⟩:=d;cases y with
  | non=>cases a;exact PySem.EqNone.ne_int_none (jA I q (by simp))
  | int j=>obtain⟨b,rfl⟩:=a;exact ne_int (jA I q (congrArg not kK))
  | str j=>obtain⟨b,rfl⟩:=a;exact PySem.EqMixed.ne_int_str (jA I q (by simp))
  | _=>exact uk (show false=true from c) vE
 | str i=>
  obtain⟨t,rfl⟩:=d;cases y with
  | non=>cases a;exact PySem.EqNone.ne_str_none (jA I q (by simp))
  | bl j=>cases a;exact PySem.EqMixed.ne_str_bool (jA I q (by simp))
  | int j=>obtain⟨b,rfl⟩:=a;exact PySem.EqMixed.ne_str_int (jA I q (by simp))
  | str j=>obtain⟨b,rfl⟩:=a;exact ne_str (jA I q (congrArg not kL))
  | _=>exact uk (show false=true from c) vE
 | byt i=>
  obtain⟨t,rfl⟩:=d;cases y with
  | byt j=>obtain⟨b,rfl⟩:=a;exact PySem.W.ne_bytes (jA I q (congrArg not kJ))
  | _=>exact uk (show false=true from c) vE
 | _=>cases y<;>exact uk (show false=true from c) vE
theorem XE:OpR X (compareOp .Lt) (rI0 fun i j=>.bl (decide (i<j))):=opB0 fun _ _ _ _ _ _ _ q=>lt_int q
theorem Qs:OpR X (compareOp .Gt) (rI0 fun i j=>.bl (decide (j<i))):=opB0 fun _ _ _ _ _ _ _ q=>gt_int q
theorem W9:OpR X (compareOp .IsNot) (fun x y H Q=>y = .non/\Q (.bl (!decide (x = .non))) H):=by
 intro a s d H x y v u Q I b c h;obtain⟨rfl,q⟩:=h;cases c;refine isnot_none_gen (jA I q ?_);cases x<;>first
  | (cases b;rfl)
  | (obtain⟨t,rfl⟩:=b;rfl)
theorem nomark(b:Expr)(h:op≠.In:=by decide)(d:op≠.NotIn:=by decide):behindInMarks op b=false:=by
 have a:(op==CmpOp.In)=false:=by cases op<;>first | rfl | exact uk rfl h
 have c:(op==CmpOp.NotIn)=false:=by cases op<;>first | rfl | exact uk rfl d
 cases b<;>simp[behindInMarks,a,c]
theorem zd(j:OpR X (compareOp op) r)(f:PE X a ta)(g:PE X b tb)(i:behindInMarks op b=false):PE X (.Compare a [op] [b] pos) (tOp r ta tb):=by
 intro c s n H Q I h;exact wpAny_Compare1 (binT f g I h fun v u m x y d e k l q=>j c m n d x y v u Q e k l q) i
def tTest(t:TE):TT:=fun σ H Q=>t σ H fun x H'=>∃k,x = .bl k/\Q k H'
theorem jy(t:OpR X (compareOp op) r)(o:PE X a ta)(p:PE X b tb)(q:behindInMarks op b=false):PT X (.Compare a [op] [b] pos) (tTest (tOp r ta tb)):=by
 intro d s f H Q I h;refine wpAny_isTrue_Compare1 (thn (o d s f H _ I h) fun v F ⟨x,g,l,C,w⟩=>thn (p d F f g _ l w) fun u G ⟨y,i,m,D,A⟩=>
  thn (t d G f i x y v u _ m C D A) fun c J ⟨z,j,n,E,k,e,B⟩=>?_) q
 subst e;cases E;exact wpAny_truthy_bool ⟨j,n,B⟩
def TruV(K:Frg)(x:V)(H:Hp)(k:Bool):Prop:=
 match x with
 | .non=>k=false
 | .bl b=>k=b
 | .int i=>k=(i != 0)
 | .str y=>y.length<=sizeLine/\k=((y.length:Int) != 0)
 | .byt y=>y.size<=sizeLine/\k=((y.size:Int) != 0)
 | .ref p=>(∃xs,SqL K H p xs/\k = !xs.isEmpty)\/(∃xs,SqT K H p xs/\k = !xs.isEmpty)\/∃kvs,H p=some (.dK kvs)/\k = !kvs.isEmpty
 | _=>False
theorem Y4{κ:Type}{kvs:List (κ×V)}{vs:List (κ×Value)}(r:KV kvs vs):(!vs.isEmpty) = !kvs.isEmpty:=by
 cases r<;>rfl
theorem Zg{xs:List V}{a:List Value}(r:Vals xs a):(!a.toArray.isEmpty) = !xs.isEmpty:=by
 cases r<;>simp
theorem line63:(sizeLine:Nat)<2^63:=by rw[sizeLine_eq];decide
theorem Xv:TruR X (fun x H Q=>∃k,TruV X.K x H k/\Q k H):=by
 intro w s D H x v Q I g h;obtain⟨k,e,q⟩:=h;have B:=line63;have C:sizeLine=16777216:=sizeLine_eq;cases x with
 | non=>
  cases g;have a:k=false:=e;subst a;exact truthy_none ⟨H,I,q⟩
 | bl b=>
  cases g;have a:k=b:=e;subst a;exact wpAny_truthy_bool ⟨H,I,q⟩
 | int i=>
  obtain⟨t,rfl⟩:=g;have a:k=(i != 0):=e;subst a;exact PySem.P.truthy_int ⟨H,I,q⟩
 | str y=>
  obtain⟨t,rfl⟩:=g;obtain⟨A,a⟩:y.length<=sizeLine/\k=((y.length:Int) != 0):=e;subst a;exact PySem.P.truthy_str (by lia) ⟨H,I.tok _,q⟩
 | byt y=>
  obtain⟨t,rfl⟩:=g;obtain⟨A,a⟩:y.size<=sizeLine/\k=((y.size:Int) != 0):=e;subst a;exact PySem.W.truthy_bytes (by lia) ⟨H,I.tok _,q⟩
 | ref p=>
  cases g;have a:(∃f,SqL X.K H p f/\k = !f.isEmpty)\/(∃f,SqT X.K H p f/\k = !f.isEmpty)\/∃c,H p=some (.dK c)/\k = !c.isEmpty:=e;rcases a with⟨f,j,a⟩ | ⟨f,j,a⟩ | ⟨c,j,a⟩
  ·subst a;obtain⟨n,r,o,u⟩:=I.list j;have d:=r.length;exact wpAny_truthy_list o.isList (by simp only[size_toArray];lia) ⟨H,I.tok _,by rw[Zg r];exact q⟩
  ·subst a;obtain⟨n,r,o,u⟩:=I.tuple j;have d:=r.length;exact truthy_tuple o (by simp only[size_toArray];lia) ⟨H,I.tok _,by rw[Zg r];exact q⟩
  ·subst a;obtain⟨u,z,l,r,m⟩:c.length<=sizeLine/\(p==sysModules)=false/\∃l,KV c l/\s.heap.DictOf (mixKind X.prog X.w) p l:=I.hok p _ j;have d:c.length=l.length:=Paired.length r;exact wpAny_truthy_dict z m (by lia) ⟨H,I.tok _,by rw[Y4 r];exact q⟩
 | _=>exact(show False from e).elim
theorem w4(f:PE X a ta)(g:∀b,isTrue a X.env b=(do let v <-b;standAt a.pos;holding [v] (truthy v))) :
  PT X a (fun σ H Q=>ta σ H fun x H'=>∃k,TruV X.K x H' k/\Q k H'):=by
 intro c s σ H Q I h;exact isTrue_plain (thn (f c s σ H _ I h) fun v l ⟨x,d,e,j,i⟩=>Xv c l σ d x v Q e j i) (g _)
theorem vals1(r:Vals [x] us):∃u,us=[u]/\RelV x u:=by
 cases r with
 | cons r1 r2=>cases r2;exact⟨_,rfl,r1⟩
theorem vals2(r:Vals [x,y] us):∃u a,us=[u,a]/\RelV x u/\RelV y a:=by
 cases r with
 | cons r1 r2=>
  cases r2 with
  | cons r3 r4=>cases r4;exact⟨_,_,rfl,r1,r3⟩
theorem ZI(c:X.calm=true):CallR X (.builtin "max") (fun xs H Q=>∃i j,xs=[.int i,.int j]/\Q (.int (if j>i then j else i)) H):=by
 intro b s m H xs g Q I r h;obtain⟨i,j,rfl,q⟩:=h;obtain⟨u,l,rfl,⟨t,rfl⟩,⟨e,rfl⟩⟩:=vals2 r;refine max_two_ints (I.ok.hd c) fun d f k=>⟨_,H,I.kept k,?_,q⟩
 by_cases a:j>i
 ·rw[ve a,ve a];exact⟨_,rfl⟩
 ·rw[vd a,vd a];exact⟨_,rfl⟩
theorem Kw(c:X.calm=true):CallR X (.builtin "min") (fun xs H Q=>∃i j,xs=[.int i,.int j]/\Q (.int (if j<i then j else i)) H):=by
 intro b s m H xs g Q I r h;obtain⟨i,j,rfl,q⟩:=h;obtain⟨u,l,rfl,⟨t,rfl⟩,⟨e,rfl⟩⟩:=vals2 r;refine min_two_ints (I.ok.hd c) fun d f k=>⟨_,H,I.kept k,?_,q⟩
 by_cases a:j<i
 ·rw[ve a,ve a];exact⟨_,rfl⟩
 ·rw[vd a,vd a];exact⟨_,rfl⟩
theorem Kt:CallR X (.type "int") (fun xs H Q=>(∃i,xs=[.int i]/\Q (.int i) H)\/∃k,xs=[.bl k]/\Q (.int (if k then 1 else 0)) H):=by
 intro a s d H xs c Q I r h;rcases h with⟨i,rfl,q⟩ | ⟨k,rfl,q⟩
 ·obtain⟨u,rfl,t,rfl⟩:=vals1 r;exact call_int_int ⟨.int i,H,I,⟨_,rfl⟩,q⟩
 ·obtain⟨u,rfl,b⟩:=vals1 r;cases b;exact call_int_bool ⟨.int (if k then 1 else 0),H,I.tok _,⟨_,rfl⟩,q⟩
def LenV(K:Frg)(x:V)(H:Hp)(n:Nat):Prop:=
 match x with
 | .str y=>y.length<=sizeLine/\n=y.length
 | .byt y=>y.size<=sizeLine/\n=y.size
 | .ref p=>(∃xs,SqL K H p xs/\n=xs.length)\/∃xs,SqT K H p xs/\n=xs.length
 | _=>False
theorem Q1:CallR X (.builtin "len") (fun xs H Q=>∃x n,xs=[x]/\LenV X.K x H n/\Q (.int n) H):=by
 intro j s w H xs v Q I r h;obtain⟨x,n,rfl,e,q⟩:=h;obtain⟨u,rfl,i⟩:=vals1 r;have m:=line63;have o:sizeLine=16777216:=sizeLine_eq;cases x with
 | str y=>
  obtain⟨t,rfl⟩:=i;obtain⟨k,b⟩:y.length<=sizeLine/\n=y.length:=e;subst b;exact len_str (by lia) ⟨.int _,H,I.tok _,⟨_,rfl⟩,q⟩
 | byt y=>
  obtain⟨t,rfl⟩:=i;obtain⟨k,b⟩:y.size<=sizeLine/\n=y.size:=e;subst b;exact PySem.W.len_bytes (by lia) ⟨.int _,H,I.tok _,⟨_,rfl⟩,q⟩
 | ref p=>
  cases i;have b:(∃xs,SqL X.K H p xs/\n=xs.length)\/∃xs,SqT X.K H p xs/\n=xs.length:=e;rcases b with⟨xs,c,b⟩ | ⟨xs,c,b⟩
  ·subst b;obtain⟨d,g,f,l⟩:=I.list c;have a:=g.length;exact Calls.call_len_list f.isList (by simp only[size_toArray];lia) ⟨.int xs.length,H,I.tok _,⟨_,by simp only[size_toArray];rw[a]⟩,q⟩
  ·subst b;obtain⟨d,g,f,l⟩:=I.tuple c;have a:=g.length;exact len_tuple f (by simp only[size_toArray];lia) ⟨.int xs.length,H,I.tok _,⟨_,by simp only[size_toArray];rw[a]⟩,q⟩
 | _=>exact(show False from e).elim
end
structure ObjM(h:Heap)(x dx C:Addr)(mA:Str->Option Value):Prop where
 obj:h.get? x=some (PySem.W.instObj C dx)
 ns:h.Ns1 dx mA
 ne:dx≠x
theorem KI{h:Heap}{c:Addr}{f:Str->Option Value}(n:h.Ns1 c f):∃g,h.get? c=some g/\∀name,PySem.W.lookIn name g=some (f name):=by
 obtain⟨o,d,r,m,j,k,_,l⟩:=n;refine⟨o,m,fun name=>?_⟩;have e:=l name;unfold nsFind findBy at e;rw[<-Array.find?_toList]at e;unfold PySem.W.lookIn;rw[j];dsimp only;split
 ·rename_i y q;rw[q]at e;exact congrArg some e
 ·rename_i q;rw[q]at e;have a:d.toList.any (·.refKey)=false:=by
   rw[List.any_eq_false];intro y p;obtain⟨z,t,b⟩:=k y (Array.mem_toList_iff.mp p);simp[DictEntry.refKey,b]
  have i:¬d.toList.any (·.refKey)=true:=by rw[a];exact vE
  rw[vd i];exact congrArg some e
theorem ObjM.look{b:Str->Option Value}(I:ObjM h x dx C b):∃a,PySem.W.InstAt h x (PySem.W.instObj C dx) C (some a)/\∀name,PySem.W.lookIn name a=some (b name):=
 let ⟨a,ho,hl⟩:=KI I.ns
 ⟨a,⟨I.obj,rfl,rfl,ho⟩,hl⟩
section
variable{prog:Program}{w:World}{A:Around}{E:Value->Shared->Prop}{s:Shared}{K:Frg}{x dx C f:Addr}{mA:Str->Option Value}{name:Str}{v:Value}
theorem WT{Q:Value->Shared->Prop}(X:K.In s.heap)(I:ObjM s.heap x dx C mA)(c:PySem.W.plainGet K C name=true)(d:PySem.W.hasDictIn K C=true)
  (b:PySem.W.findIn K (.ref C) name=some none) (f:mA name=some v) (a:PySem.W.handedIn v=true) (h:Q v {s with toks:=s.toks+1}) :
  wpAny (model prog w) A (getAttr (.ref x) name expr) Q E s:=by
 obtain⟨g,J,e⟩:=I.look;exact PySem.W.get_value X J (PySem.W.plainGet_of c).1 (PySem.W.findObj_own d b rfl (by rw[e,f])) a h
theorem xj{Q:Unit->Shared->Prop}(X:K.In s.heap)(I:ObjM s.heap x dx C mA)
  (hs:PySem.W.findIn K (.ref C) "__setattr__"= some (some (.builtin "object.__setattr__"))) (n:PySem.W.plainOver K C=true) (o:PySem.W.takerIn K C name=some none) (m:PySem.W.hasDictIn K C=true)
  (hw:PySem.Within mA ns) (hsz:ns.length<=sizeLine)
  (h:∀h',ObjM h' x dx C (fun y=>if y=name then some v else mA y)->Heap.SameBut dx s.heap h'->Q () {s with heap:=h',toks:=s.toks+2}) :
  wpAny (model prog w) A (setAttr (.ref x) name v) Q E s:=by
 obtain⟨z,J,t⟩:=I.look;refine PySem.W.set_plain X J hs (PySem.W.osa_open (s:={s with toks:=s.toks+1}) (r:=none) X J n o fun b=>?_);obtain⟨q,l,f⟩:=PySem.W.any_some m;have p:s.heap.get? x=some ⟨.ref C,some dx,.plain,#[]⟩:=I.obj;refine um (ul (um (um (wpAny_loadPart p (um (PySem.W.Looks.here (s:={s with toks:=s.toks+1}) (PySem.W.looks_clsIn X l) ?_))))));rw[f];refine ul (a:=some dx) (um (ul (um ?_)));refine wpAny_nsSet1 (s:={s with toks:=s.toks+1}) I.ns fun h' c d=>?_
 obtain⟨u,k,j,i,g,e⟩:=c.count (PySem.Within.cons name v hw);refine um (wpAny_lookBehind i (by rw[g];exact pastItsLine_dict (vU e (by rw[vO];lia))) ?_);exact ul (h _ ⟨(d.2 _ (Ne.symm I.ne)).trans I.obj,c,I.ne⟩ d)
theorem wH{R:Result->Shared->Prop}(X:K.In s.heap)(c:PySem.W.makesIn K C=true)
  (hi:PySem.W.findIn K (.ref C) "__init__"= some (some (.ref f))) (b:PySem.W.typeIn K (.ref f)=some (.type "function"))
  (h:codeAny (model prog w) (A.under (.builtin "type.__call__" ⟨.ref C::vs,kw⟩)) (.call (.ref f) ⟨.ref (s.heap.objs.size+1)::vs,kw⟩) (PySem.W.InitBack (s.heap.objs.size+1) R)
   {s with heap:=(s.heap.push PySem.W.emptyDict).push (PySem.W.instObj C s.heap.objs.size)}) :
  codeAny (model prog w) A (.call (.ref C) ⟨vs,kw⟩) R s:=by
 obtain⟨e,g,d,t,i⟩:=s;exact PySem.W.make_core (PySem.W.makes_of X c) (PySem.W.looks_findIn X hi) (fun a=>PySem.W.bind_fn X a b) (.inl rfl) h
end
noncomputable def putF(f:Str)(v:V):List (Str×V)->List (Str×V)
 | []=>[(f,v)]
 | (g,x)::r=>if g=f then(g,v)::r else(g,x)::putF f v r
theorem qy(f g:Str)(v:V):∀fs:List (Str×V),(putF f v fs).lookup g=if g=f then some v else fs.lookup g
 | []=>by
  show List.lookup g [(f,v)]=_;by_cases h:g=f
  ·have a:(g==f)=true:=beq_iff_eq.mpr h;simp only[List.lookup,a,if_pos h]
  ·have a:(g==f)=false:=beq_eq_false_iff_ne.mpr h;simp only[List.lookup,a,if_neg h]
 | (k,x)::r=>by
  have c:=qy f g v r;rw[show putF f v ((k,x)::r)=(if k=f then(k,v)::r else(k,x)::putF f v r)from rfl];by_cases b:k=f
  ·rw[ve b];by_cases h:g=k
   ·have a:(g==k)=true:=beq_iff_eq.mpr h;simp only[List.lookup,a,if_pos (h.trans b)]
   ·have a:(g==k)=false:=beq_eq_false_iff_ne.mpr h;simp only[List.lookup,a,if_neg (fun e:g=f=>h (e.trans b.symm))]
  ·rw[vd b];by_cases h:g=k
   ·have a:(g==k)=true:=beq_iff_eq.mpr h;simp only[List.lookup,a,if_neg (fun e:g=f=>b (h.symm.trans e))]
   ·have a:(g==k)=false:=beq_eq_false_iff_ne.mpr h;simp only[List.lookup,a];exact c
theorem zr(f:Str)(v:V):∀fs:List (Str×V),f∈(putF f v fs).map (·.1)/\∀g,g∈fs.map (·.1)->g∈(putF f v fs).map (·.1)
 | []=>⟨by simp[putF],fun g h=>by simp at h⟩
 | (k,x)::r=>by
  obtain⟨b,c⟩:=zr f v r;rw[show putF f v ((k,x)::r)=(if k=f then(k,v)::r else(k,x)::putF f v r)from rfl];by_cases a:k=f
  ·rw[ve a];subst a;exact⟨by simp,fun g h=>by simpa using h⟩
  ·rw[vd a];refine⟨?_,fun g h=>?_⟩
   ·rw[v7];exact vp _ b
   ·rw[v7]at h|-;rcases mem_cons.mp h with e | e
    ·exact mem_cons.mpr (.inl e)
    ·exact vp _ (c g e)
theorem zG(f:Str)(v:V):∀fs:List (Str×V),(putF f v fs).length<=fs.length+1
 | []=>by simp[putF]
 | (k,x)::r=>by
  have b:=zG f v r;rw[show putF f v ((k,x)::r)=(if k=f then(k,v)::r else(k,x)::putF f v r)from rfl];by_cases a:k=f
  ·rw[ve a,vO,vO];lia
  ·rw[vd a,vO,vO];lia
theorem RelO.some_of(r:RelO (some v) o):∃u,o=some u/\RelV v u:=by
 cases o with
 | none=>exact(show False from r).elim
 | some u=>exact⟨u,rfl,r⟩
theorem KB(r:RelV v u):PySem.W.handedIn u=true:=by
 cases v with
 | non=>cases(show u=Value.none from r);rfl
 | bl b=>cases(show u=Value.bool b from r);rfl
 | int i=>obtain⟨t,e⟩:=(show∃t,u=Value.int i t from r);cases e;rfl
 | str x=>obtain⟨t,e⟩:=(show∃t,u=Value.str x t from r);cases e;rfl
 | byt b=>obtain⟨t,e⟩:=(show∃t,u=Value.bytes b t from r);cases e;rfl
 | flt b=>obtain⟨t,e⟩:=(show∃t,u=Value.float b t from r);cases e;rfl
 | ref a=>cases(show u=Value.ref a from r);rfl
 | ty n=>cases(show u=Value.type n from r);rfl
section
variable{P:Program}{w:World}{H H':Hp}{h h':Heap}{a C dx:Addr}{fs fs':List (Str×V)}
theorem yo(b:HOk P w H h)(e:H a=some (.ins C dx fs)):∃mA,ObjM h a dx C mA/\(∀f,RelO (fs.lookup f) (mA f))/\PySem.Within mA (fs.map (·.1))/\fs.length<=1000/\H dx=some (.own a):=by
 obtain⟨d,z,c,g,mA,n,r,q⟩:=(show ObjOk P w H h a (.ins C dx fs)from b a _ e)
 exact⟨mA,⟨g,n,c⟩,r,q,z,d⟩
end
structure Cls(K:Frg)(C:Addr):Prop where
 pg:PySem.W.plainGet K C Str.empty=true
 hd:PySem.W.hasDictIn K C=true
 po:PySem.W.plainOver K C=true
 sa:PySem.W.findIn K (.ref C) "__setattr__"= some (some (.builtin "object.__setattr__"))
theorem Cls.get{K:Frg}{C:Addr}(c:Cls K C)(f:Str):PySem.W.plainGet K C f=true:=c.pg
def NoAttr(K:Frg)(C:Addr)(f:Str):Prop:=PySem.W.findIn K (.ref C) f=some none
theorem NoAttr.taker{K:Frg}{C:Addr}{f:Str}(n:NoAttr K C f):PySem.W.takerIn K C f=some none:=by
 unfold PySem.W.takerIn;rw[show PySem.W.findIn K (.ref C) f=some none from n];rfl
structure Meth(K:Frg)(C:Addr)(m:Str)(f:Addr):Prop where
 at_:PySem.W.findIn K (.ref C) m=some (some (.ref f))
 fn:PySem.W.isFn K (.ref f)=true
 kp:PySem.W.keepIn K (.ref f)=true
section
variable{X:Cx}{pins:List (Addr×Obj)}{σ:St}{H:Hp}{s:Shared}{a C dx:Addr}{fs:List (Str×V)}{f:Str}{v:V}{A:Around}{E:Value->Shared->Prop}
theorem Y2{Q:Value->Shared->Prop}(I:Inv X pins σ H s)(e:H a=some (.ins C dx fs))(c:Cls X.K C)(n:NoAttr X.K C f)(l:fs.lookup f=some v)
  (h:∀u s',Inv X pins σ H s'->RelV v u->Q u s'):wpAny (model X.prog X.w) A (getAttr (.ref a) f b) Q E s:=by
 obtain⟨i,O,r,_,_,_⟩:=yo I.hok e;obtain⟨u,g,d⟩:=RelO.some_of (v:=v) (o:=i f) (by rw[<-l];exact r f);exact WT I.kIn O (c.get f) c.hd n g (KB d) (h u _ (I.tok _) d)
theorem kr{Q:Unit->Shared->Prop}(I:Inv X pins σ H s)(e:H a=some (.ins C dx fs))(c:Cls X.K C)(n:NoAttr X.K C f)(D:fs.length<1000)(w:RelV y u)
  (h:∀s',Inv X pins σ (upd H a (.ins C dx (putF f y fs))) s'->Q () s'):wpAny (model X.prog X.w) A (setAttr (.ref a) f u) Q E s:=by
 obtain⟨j,O,r,k,_,i⟩:=yo I.hok e;have v:(fs.map (·.1)).length<=sizeLine:=by rw[vt,sizeLine_eq];lia
 refine xj I.kIn O c.sa c.po n.taker c.hd k v fun l d B=>h _ ?_
 have p:∃o,l.get? dx=some o:=let ⟨o,_,_,e',_⟩:=d.ns;⟨o,e'⟩;refine I.write (x:=a) (e:=dx) (by rw[e];exact True.intro) (.inr i) (fun b q m z=>(B.2 b m).trans z) p ?_;refine⟨by rw[jf O.ne];exact i,?_,O.ne,d.obj,_,d.ns,fun g=>?_,fun g t=>?_⟩
 ·have:=zG f y fs;lia
 ·show RelO ((putF f y fs).lookup g) (if g=f then some u else j g);rw[qy];by_cases q:g=f
  ·rw[ve q,ve q];exact w
  ·rw[vd q,vd q];exact r g
 ·by_cases q:g=f
  ·rw[q];exact(zr f y fs).1
  ·refine(zr f y fs).2 g (k g fun z=>t ?_);show(if g=f then some u else j g)=none;rw[vd q];exact z
theorem Inv.made(I:Inv X pins σ H s):Inv X pins σ (upd (upd H s.heap.objs.size (.own (s.heap.objs.size+1))) (s.heap.objs.size+1) (.ins C s.heap.objs.size []))
  {s with heap:=(s.heap.push PySem.W.emptyDict).push (PySem.W.instObj C s.heap.objs.size)}:=by
 have c:(s.heap.push PySem.W.emptyDict).get? s.heap.objs.size=some PySem.W.emptyDict:=Heap.get?_push_size s.heap rfl;have g:((s.heap.push PySem.W.emptyDict).push (PySem.W.instObj C s.heap.objs.size)).get? (s.heap.objs.size+1)=some (PySem.W.instObj C s.heap.objs.size):=by
  have:=Heap.get?_push_size (s.heap.push PySem.W.emptyDict) (o:=PySem.W.instObj C s.heap.objs.size) rfl
  rwa [Heap.size_push]at this
 have h:(s.heap.push PySem.W.emptyDict).Ns s.heap.objs.size (fun _=>none):=⟨PySem.W.emptyDict,#[],_,c,rfl,(fun e i=>uk i (by simp)),fun _=>rfl⟩
 have f:=I.laid (a:=s.heap.objs.size) (o:=.own (s.heap.objs.size+1)) (h':=s.heap.push PySem.W.emptyDict) (t':=s.toks) (fun b u q=>vI _ q) (vc _) ⟨_,c⟩;refine f.laid (a:=s.heap.objs.size+1) (o:=.ins C s.heap.objs.size []) (t':=s.toks) (fun b u q=>vI _ q) (Nat.le_of_eq (Heap.size_push _ _)) ?_;have d:s.heap.objs.size≠s.heap.objs.size+1:=vD (Nat.lt_succ_self _);refine⟨by rw[jf d,jt],vb _,d,g,fun _=>none,(Heap.Ns1.of_empty h).at fun o q=>vI _ q,fun _=>True.intro,fun y j=>uk rfl j⟩
theorem WK{f:Str}{s:Shared}{Q:Value->Shared->Prop}(b:attributeBase e f env (eval e env)=eval e env)
  (h:wpAny (model prog w) A (eval e env) (fun o a=>wpAny (model prog w) A (getAttr o f true) Q E a) E s):wpAny (model prog w) A (eval (.Attribute e f pos) env) Q E s:=
 Attribute_any_ h (by rw[arm_eval_Attribute,b])
end
def tFld(K:Frg)(ta:TE)(f:Str):TE:=fun σ H Q=>ta σ H fun x H1=>∃a C dx fs v,x = .ref a/\H1 a=some (.ins C dx fs)/\Cls K C/\NoAttr K C f/\fs.lookup f=some v/\Q v H1
def sFld(K:Frg)(ta tv:TE)(f:Str):TS:=fun D σ H=>tv σ H fun y H1=>ta σ H1 fun x H2=>∃a C dx fs,x = .ref a/\H2 a=some (.ins C dx fs)/\Cls K C/\NoAttr K C f/\fs.length<1000/\
 D.nx σ (upd H2 a (.ins C dx (putF f y fs)))
section
variable{X:Cx}{o e value:Expr}{f:Str}{pos pos' tpos:Pos}{ta tv:TE}
theorem qD(o:PE X e ta)(m:attributeBase e f X.env (eval e X.env)=eval e X.env):PE X (.Attribute e f pos) (tFld X.K ta f):=by
 intro b s t H Q I h;refine WK m (thn (o b s t H _ I h) fun u z ⟨x,d,g,r,a,C,w,y,v,k,j,c,n,l,q⟩=>?_);subst k;obtain rfl:u=Value.ref a:=r;exact Y2 g j c n l fun B A i p=>⟨v,d,i,p,q⟩
theorem yF(p:PE X o ta)(r:PE X value tv)(hs:swapsWith value (some (.Attribute o f pos')) pos.line X.env=pure false):PS X (.Assign [.Attribute o f pos'] value pos) (sFld X.K ta tv f):=by
 intro b s d H D I h;refine plainObj_wpAny_Assign_Attribute (thn (r b s d H _ I h) fun u A ⟨y,e,g,z,q⟩=>thn (p b A d e _ g q) fun t G ⟨x,B,i,w,a,C,E,F,m,k,c,n,l,v⟩=>?_) hs;subst m;obtain rfl:t=Value.ref a:=w;exact kr i k c n l z fun J j=>⟨d,_,j,v⟩
end
section
variable{X:Cx}{pins:List (Addr×Obj)}{σ:St}{H:Hp}{s:Shared}{A:Around}{E:Value->Shared->Prop}{Q:Value->Shared->Prop}{c:Value}{b:Bool}
inductive TyOf(K:Frg)(H:Hp):V->Value->Prop where
 | non:TyOf K H .non (.type "NoneType")
 | bl (x:Bool):TyOf K H (.bl x) (.type "bool")
 | int (i:Int):TyOf K H (.int i) (.type "int")
 | str (x:Str):TyOf K H (.str x) (.type "str")
 | flt (x:UInt64):TyOf K H (.flt x) (.type "float")
 | lst {a:Addr} {xs:List V} (e:H a=some (.lst xs)):TyOf K H (.ref a) (.type "list")
 | frz {a:Addr} {o:Obj} {xs:List V} (e:H a=some (.frz o (.lst xs))):TyOf K H (.ref a) (.type "list")
 | tup {a:Addr} {xs:List V} (e:H a=some (.tup xs)):TyOf K H (.ref a) (.type "tuple")
 | dK {a:Addr} {kvs:List (Key×V)} (e:H a=some (.dK kvs)):TyOf K H (.ref a) (.type "dict")
 | dT {a:Addr} {kvs:List (List Key×V)} (e:H a=some (.dT kvs)):TyOf K H (.ref a) (.type "dict")
 | ins {a C dx:Addr} {fs:List (Str×V)} (e:H a=some (.ins C dx fs)) (cl:Cls K C) (ha:PySem.W.findIn K (.ref C) "__class__"= some (some (.builtin "object.__class__")))
   (hn:PySem.W.specialIn K (.builtin "object.__class__") "__get__"= some (some (.builtin "getset_descriptor.__get__"))) (htk:PySem.W.takesIn K (.builtin "object.__class__")=some true)
   (hm:PySem.W.mroIn K C (.type "object")=some true):TyOf K H (.ref a) (.ref C)
theorem KE(I:Inv X pins σ H s)(d:RelV x u)(m:TyOf X.K H x t)(e:PySem.W.kitOne X.K t c=some b)(h:∀tk,Q (.bool b) {s with toks:=tk}) :
  wpAny (model X.prog X.w) A (call (.builtin "isinstance") [u,c]) Q E s:=by
 cases m with
 | non=>cases(show u=Value.none from d);exact PySem.W.kia_one PySem.W.kitx_none I.kIn True.intro e (fun z=>nomatch z) h
 | bl y=>cases(show u=Value.bool y from d);exact PySem.W.kia_one PySem.W.kitx_bool I.kIn True.intro e (fun z=>nomatch z) h
 | int i=>obtain⟨t,q⟩:=(show∃t,u=Value.int i t from d);cases q;exact PySem.W.kia_one PySem.W.kitx_int I.kIn True.intro e (fun z=>nomatch z) h
 | str y=>obtain⟨t,q⟩:=(show∃t,u=Value.str y t from d);cases q;exact PySem.W.kia_one PySem.W.kitx_str I.kIn True.intro e (fun z=>nomatch z) h
 | flt y=>obtain⟨t,q⟩:=(show∃t,u=Value.float y t from d);cases q;exact PySem.W.kia_one PySem.W.kitx_float I.kIn True.intro e (fun z=>nomatch z) h
 | @lst a g ea=>
  cases(show u=Value.ref a from d);obtain⟨_,_,n,_,f⟩:=(show ObjOk X.prog X.w H s.heap a (.lst g)from I.hok a _ ea)
  exact PySem.W.kia_one PySem.W.kitx_list I.kIn ⟨_,f,rfl⟩ e (fun z=>nomatch z) h
 | @frz a ob g ea=>
  cases(show u=Value.ref a from d);obtain⟨_,_,_,n,_,f⟩:=(show ObjOk X.prog X.w H s.heap a (.frz ob (.lst g))from I.hok a _ ea)
  exact PySem.W.kia_one PySem.W.kitx_list I.kIn ⟨_,f,rfl⟩ e (fun z=>nomatch z) h
 | @tup a g ea=>
  cases(show u=Value.ref a from d);obtain⟨_,_,_,p⟩:=(show ObjOk X.prog X.w H s.heap a (.tup g)from I.hok a _ ea)
  obtain⟨o,f,j,_⟩:=p;exact PySem.W.kia_one PySem.W.kitx_tuple I.kIn ⟨o,f,j⟩ e (fun z=>nomatch z) h
 | @dK a kvs ea=>
  cases(show u=Value.ref a from d);obtain⟨_,_,w,_,p⟩:=(show ObjOk X.prog X.w H s.heap a (.dK kvs)from I.hok a _ ea)
  obtain⟨o,l,k,f,j,_⟩:=p;exact PySem.W.kia_one PySem.W.kitx_dict I.kIn ⟨o,f,j.1⟩ e (fun z=>nomatch z) h
 | @dT a kvs ea=>
  cases(show u=Value.ref a from d);obtain⟨_,_,g,_,o,l,k,f,j,_⟩:=(show ObjOk X.prog X.w H s.heap a (.dT kvs)from I.hok a _ ea)
  exact PySem.W.kia_one PySem.W.kitx_dict I.kIn ⟨o,f,j.1⟩ e (fun z=>nomatch z) h
 | @ins a C dx fs ea cl ha hn htk hm=>
  cases(show u=Value.ref a from d);obtain⟨r,O,_⟩:=yo I.hok ea;obtain⟨v,J,_⟩:=O.look;exact PySem.W.kia_one (PySem.W.kitx_own (cl.get _) cl.hd ha hn htk hm) I.kIn J e (fun z=>nomatch z) h
end
structure Room(k:Nat)(A:Around):Prop where
 hd:A.handled=none
 dp:A.depth+3*k+5<recursionLimit
 un:A.units+16*k+200<cLine
theorem Room.mono(r:Room k A)(h:j<=k):Room j A:=⟨r.hd,by have:=r.dp;lia,by have:=r.un;lia⟩
theorem Room.deeper(r:Room (k+1) A)(env:Env):Room k (A.deeper env):=
 ⟨r.hd,by have:=r.dp;show A.depth+1+3*k+5<_;lia,by have:=r.un;show A.units+3+16*k+200<_;lia⟩
theorem Y7{A:Around}{C:Addr}{b:List Value}{a:List (Str×Value)}:(A.under (.builtin "type.__call__" ⟨.ref C::b,a⟩)).depth=A.depth+1:=by
 first | rfl | simp[Around.under,Code.weight,Code.isCreation,Code.isGuard,Code.isCaller,Code.frames,Code.isFrame,guardIds]
theorem Y8{A:Around}{C:Addr}{b:List Value}{a:List (Str×Value)}:(A.under (.builtin "type.__call__" ⟨.ref C::b,a⟩)).units=A.units+1:=by
 first | rfl | simp[Around.under,Code.cUnits,Code.frames,Code.isFrame]
theorem Room.make(r:Room (k+1) A)(C:Addr)(b:List Value)(a:List (Str×Value)):Room k (A.under (.builtin "type.__call__" ⟨.ref C::b,a⟩)):=
 ⟨r.hd,by have:=r.dp;rw[Y7];lia,by have:=r.un;rw[Y8];lia⟩
theorem Room.depth(r:Room k A):A.depth<recursionLimit:=by have:=r.dp;lia
theorem Room.units(r:Room k A):A.units+64<cLine:=by have:=r.un;lia
def tNil:TA:=fun _ H Q=>Q [] H
def tCons(ta:TE)(tr:TA):TA:=fun σ H Q=>ta σ H fun x H1=>tr σ H1 fun xs H2=>Q (x::xs) H2
section
variable{X:Cx}{e:Expr}{es:List Expr}{te:TE}{t:TA}{pos:Pos}
theorem jb:PA X [] tNil:=fun _ _ _ _ H Q I h=>Calls.spliced_nil ⟨[],H,I,.nil,h⟩
theorem ja(j:PE X e te)(k:PA X es t)(hs:starEach (e::es) X.env=(false,eval e X.env)::starEach es X.env:=by rfl):PA X (e::es) (tCons te t):=by
 intro b a s c H Q I h;rw[hs];show wpAny _ _ (spliced ((false,eval e X.env)::backTo b (starEach es X.env))) _ _ s;refine Calls.spliced_cons (thn (j a s c H _ I h) fun u p ⟨x,d,g,n,l⟩=>?_);exact thn (k b a p c d _ g l) fun v r ⟨q,f,i,o,m⟩=>⟨x::q,f,i,.cons n o,m⟩
def tTup(t:TA):TE:=fun σ H Q=>t σ H fun xs H1=>xs.length<=sizeLine/\∀p,H1 p=none->Q (.ref p) (upd H1 p (.tup xs))
def tLst(t:TA):TE:=fun σ H Q=>t σ H fun xs H1=>xs.length<=sizeLine/\∀p,H1 p=none->Q (.ref p) (upd H1 p (.lst xs))
theorem jp{x1}(h:PA X es t):PE X (.Tuple es x1 pos) (tTup t):=by
 intro a s l H Q I i;refine wpAny_Tuple_spliced (thn (h pos a s l H _ I i) fun j c ⟨k,d,f,r,z,q⟩=>⟨by rw[<-r.length];exact z,?_⟩);have g:d c.heap.objs.size=none:=f.hok.fresh (vc _);refine⟨.ref c.heap.objs.size,upd d c.heap.objs.size (.tup k),f.laid (t':=c.toks) (fun b u e=>vI _ e) (vc _) ?_,rfl,q _ g⟩;exact⟨z,j,r,⟨_,Heap.get?_push_size _ rfl,rfl,_,rfl⟩⟩
theorem jE(h:PA X es t):PE X (.List es pos) (tLst t):=by
 intro a s l H Q I i;refine wpAny_List_spliced (thn (h pos a s l H _ I i) fun j c ⟨k,d,f,r,z,q⟩=>⟨by rw[<-r.length];exact z,?_⟩);have g:d c.heap.objs.size=none:=f.hok.fresh (vc _);refine⟨.ref c.heap.objs.size,upd d c.heap.objs.size (.lst k),f.laid (t':=c.toks) (fun b u e=>vI _ e) (vc _) ?_,rfl,q _ g⟩;exact⟨z,j,0,r,Heap.get?_push_size _ rfl⟩
end
noncomputable abbrev Sp:=List V->Hp->VK->XK->Prop
noncomputable abbrev CXT:=List Env->Hp->Shared->XK->Value->Shared->Prop
structure Env0(P:Program)(w:World)(K:Frg)(mg:Str->Option Value)(base:Heap)(A:Around)(outer:List Env)(s:Shared)(H:Hp):Prop where
 frames:A.frames=some outer
 mod:Mod K mg base
 bs:∀b o,base.get? b=some o->s.heap.get? b=some o/\H b=none
 bsz:base.objs.size<=s.heap.objs.size
 funs:s.heap.FunFrames base outer
 frf:∀b∈frs outer,H b=none
 hok:HOk P w H s.heap
 bare:AllBare s.gens
def CE(outer:List Env)(P:Program)(w:World)(H:Hp)(s:Shared)(Q:VK)(u:Value)(s':Shared):Prop:=
 ∃v H',s'.os=s.os/\AllBare s'.gens/\Un (frs outer) [] H H' s.heap s'.heap/\HOk P w H' s'.heap/\RelV v u/\Q v H'
def CR(CX:CXT)(outer:List Env)(P:Program)(w:World)(H:Hp)(s:Shared)(Q:VK)(E:XK)(r:Result)(s':Shared):Prop:=
 match r with
 | .ok (.ret u)=>CE outer P w H s Q u s'
 | .ok _=>False
 | .error e=>CX outer H s E e s'
structure FnOk(P:Program)(w:World)(K:Frg)(mg:Str->Option Value)(base:Heap)(CX:CXT)(k:Nat)(f:Addr)(fd:FuncData)(ps:List Str)(sp:Sp):Prop where
 len:∀vs H Q E,sp vs H Q E->vs.length=ps.length
 run:∀(A:Around) (outer:List Env) (s:Shared) (H:Hp) (args:Args) (us:List Value) (vs:List V) (Q:VK) (E:XK),Room k A->Env0 P w K mg base A outer s H->BindsTo s fd args (ps.zip us)->Vals vs us->sp vs H Q E->
  codeAny (model P w) A (.call (.ref f) args) (CR CX outer P w H s Q E) s
theorem FnOk.mono{P:Program}{w:World}{K:Frg}{e:Str->Option Value}{a:Heap}{CX:CXT}{j k:Nat}{f:Addr}{d:FuncData}{ps:List Str}{sp:Sp}(F:FnOk P w K e a CX j f d ps sp)(h:j<=k) :
  FnOk P w K e a CX k f d ps sp:=⟨F.len,fun A b s H c i l Q E g=>F.run A b s H c i l Q E (g.mono h)⟩
theorem Env0.make{P:Program}{w:World}{K:Frg}{c:Str->Option Value}{b:Heap}{A:Around}{a:List Env}{s:Shared}{H:Hp}(e:Env0 P w K c b A a s H)(C:Addr)(f:List Value)(d:List (Str×Value)) :
  Env0 P w K c b (A.under (.builtin "type.__call__" ⟨.ref C::f,d⟩)) a s H:=⟨by first | exact e.frames | (simpa [Around.under,Code.envs,Code.isFrame,pushEnvs]using e.frames),e.mod,e.bs,e.bsz,e.funs,e.frf,e.hok,e.bare⟩
section
variable{X:Cx}{pins:List (Addr×Obj)}{σ:St}{H:Hp}{s s':Shared}
theorem Inv.env0(I:Inv X pins σ H s):Env0 X.prog X.w X.K X.mg X.base X.A X.stack s H:=
 ⟨I.ok.frames,I.ok.mod,I.bs,vU I.ok.bsz I.sz,I.stack,I.stkFree,I.hok,I.bare⟩
theorem Inv.after(I:Inv X pins σ H s)(h:CE X.stack X.prog X.w H s Q u s'):EP X pins σ Q u s':=by
 obtain⟨v,f,j,a,k,c,r,q⟩:=h;obtain⟨i,g,d,t,e⟩:=s';obtain rfl:e=s.os:=j;exact⟨v,f,I.call (h':=i) (g':=g) (d':=d) (t':=t) (ch:=[]) k c a (fun b z=>uk z (by simp)),r,q⟩
end
def tCall(sp:Sp)(dvs:List V)(E:XK)(t:TA):TE:=fun σ H Q=>t σ H fun vs H1=>sp (vs++dvs) H1 Q E
def tMake(C:Addr)(sp:Sp)(dvs:List V)(E:XK)(t:TA):TE:=fun σ H Q=>t σ H fun vs H1=>∀x dx,H1 x=none->H1 dx=none->dx≠x->
 sp (.ref x::(vs++dvs)) (upd (upd H1 dx (.own x)) x (.ins C dx [])) (fun v H2=>v = .non/\Q (.ref x) H2) E
def Binds(K:Frg)(fd:FuncData)(ps:List Str)(ds:List Value):Prop:=
 ∀(s:Shared) (us:List Value),K.In s.heap->(us++ds).length=ps.length->BindsTo s fd ⟨us,[]⟩ (ps.zip (us++ds))
theorem Binds.all{K:Frg}{b:FuncData}{ps:List Str}(h:∀a:List Value,a.length=ps.length->bindArgs b ⟨a,[]⟩=pure (ps.zip a)):Binds K b ps []:=fun s a _ c=>by
 rw[append_nil]at c|-;exact .of_eq (h a c)
def Passes(CX:CXT)(X:Cx)(E:XK):Prop:=∀(pins:List (Addr×Obj)) (σ:St) (H:Hp) (s:Shared) (e:Value) (s':Shared),Inv X pins σ H s->CX X.stack H s E e s'->X.xe e s'
section
variable{X:Cx}{CX:CXT}{k:Nat}{f C:Addr}{fd:FuncData}{ps:List Str}{sp:Sp}{dvs:List V}{ds:List Value}{E:XK}{x m:Str}{p pos apos:Pos}{e o:Expr}{es:List Expr}{ta:TE}{t:TA}
theorem Xp{b:St}{H:Hp}(F:FnOk X.prog X.w X.K X.mg X.base CX k f fd ps sp)(j:Room k X.A)(d:Binds X.K fd ps ds)(g:Vals dvs ds)(l:Passes CX X E)
  (I:Inv X pins b H s) (r:Vals vs us) (h:sp (vs++dvs) H Q E):wpAny (model X.prog X.w) X.A (call (.ref f) us) (EP X pins b Q) X.xe s:=by
 have c:Vals (vs++dvs) (us++ds):=r.append g;have i:(us++ds).length=ps.length:=by rw[<-c.length];exact F.len _ _ _ _ h
 refine wpAny_call (codeAny_mono (F.run X.A X.stack s H ⟨us,[]⟩ (us++ds) (vs++dvs) Q E j I.env0 (d s us I.kIn i) c h) fun r m a=>?_);cases r with
 | error e=>exact l pins b H s e m I a
 | ok fl=>
  cases fl with
  | ret u=>exact I.after a
  | next=>exact False.elim a
  | brk=>exact False.elim a
  | cont=>exact False.elim a
theorem kY(F:FnOk X.prog X.w X.K X.mg X.base CX k f fd ps sp)(u:Room k X.A)(m:Gl X x)(o:X.mg x=some (.ref f))(n:PySem.W.keepIn X.K (.ref f)=true)(i:Binds X.K fd ps ds)(j:Vals dvs ds)(v:Passes CX X E)
  (g:PA X (e::es) t) (b:(x==("__debug__" : Str))=false:=by decide) (l:starEach (e::es) X.env=(false,eval e X.env)::starEach es X.env:=by rfl) (c:(backTo pos (starEach es X.env)).any (·.1)=false:=by rfl) :
  PE X (.Call (.Name x p) (e::es) [] pos) (tCall sp dvs E t):=by
 intro a s w H Q I h;refine wpAny_Call_Name_kw (QD I m o ?_ b);refine PySem.W.callWith_K (h₀:=X.base) I.ok.mod.kin n (thn (g pos a s w H _ I h) fun A z ⟨B,y,d,r,q⟩=>⟨d.kIn,?_⟩) l c;exact Xp F u i j v d r q
structure Mk(K:Frg)(C f:Addr):Prop where
 makes:PySem.W.makesIn K C=true
 init:PySem.W.findIn K (.ref C) "__init__"= some (some (.ref f))
 fn:PySem.W.isFn K (.ref f)=true
 kp:PySem.W.keepIn K (.ref C)=true
theorem Wj{c:St}{H:Hp}(M:Mk X.K C f)(F:FnOk X.prog X.w X.K X.mg X.base CX k f fd ps sp)(p:Room (k+1) X.A)(m:Binds X.K fd ps ds)(n:Vals dvs ds)
  (q:Passes CX X E) (I:Inv X pins c H s) (r:Vals vs us)
  (h:∀x dx,H x=none->H dx=none->dx≠x->sp (.ref x::(vs++dvs)) (upd (upd H dx (.own x)) x (.ins C dx [])) (fun v H2=>v = .non/\Q (.ref x) H2) E) :
  wpAny (model X.prog X.w) X.A (call (.ref C) us) (EP X pins c Q) X.xe s:=by
 have d:=h (s.heap.objs.size+1) s.heap.objs.size (I.hok.fresh (Nat.le_succ _)) (I.hok.fresh (vc _)) (vD (Nat.lt_succ_self _));have b:=Inv.made (C:=C) I;have g:Vals (V.ref (s.heap.objs.size+1)::(vs++dvs)) (Value.ref (s.heap.objs.size+1)::(us++ds)):=.cons rfl (r.append n);have o:(Value.ref (s.heap.objs.size+1)::us++ds).length=ps.length:=by
  have e:=g.length;rw[F.len _ _ _ _ d]at e;exact e.symm
 refine wpAny_call (wH (f:=f) I.kIn M.makes M.init (beq_iff_eq.mp M.fn) (codeAny_mono (F.run _ X.stack _ _ ⟨Value.ref (s.heap.objs.size+1)::us,[]⟩ (Value.ref (s.heap.objs.size+1)::(us++ds)) _ _ E (p.make C us [])
  (b.env0.make C us []) (m _ (Value.ref (s.heap.objs.size+1)::us) b.kIn o) g d) fun r y a=>?_))
 cases r with
 | error e=>exact q pins c _ _ e y b a
 | ok fl=>
  cases fl with
  | ret u=>
   obtain⟨v,i,j,w,l,t⟩:=b.after a;subst l;exact⟨w,⟨V.ref (s.heap.objs.size+1),i,j,rfl,t⟩⟩
  | next=>exact False.elim a
  | brk=>exact False.elim a
  | cont=>exact False.elim a
theorem Ka(M:Mk X.K C f)(F:FnOk X.prog X.w X.K X.mg X.base CX k f fd ps sp)(o:Room (k+1) X.A)(m:Gl X x)(n:X.mg x=some (.ref C))(i:Binds X.K fd ps ds)(j:Vals dvs ds)(u:Passes CX X E)
  (g:PA X (e::es) t) (b:(x==("__debug__" : Str))=false:=by decide) (l:starEach (e::es) X.env=(false,eval e X.env)::starEach es X.env:=by rfl) (c:(backTo pos (starEach es X.env)).any (·.1)=false:=by rfl) :
  PE X (.Call (.Name x p) (e::es) [] pos) (tMake C sp dvs E t):=by
 intro a s v H Q I h;refine wpAny_Call_Name_kw (QD I m n ?_ b);refine PySem.W.callWith_K (h₀:=X.base) I.ok.mod.kin M.kp (thn (g pos a s v H _ I h) fun z y ⟨A,w,d,r,q⟩=>⟨d.kIn,?_⟩) l c;exact Wj M F o i j u d r q
end
section
variable{X:Cx}{CX:CXT}{k:Nat}{f C:Addr}{fd:FuncData}{ps ks:List Str}{sp:Sp}{E:XK}{x m:Str}{p pos apos kpos:Pos}{e o:Expr}{es:List Expr}{kws:List Keyword}{te ta:TE}{t tk:TA}{nm:Option Str}
variable{g:List Value->List Value->List Value}{gV:List V->List V->List V}
end
structure FnScope(N P:List Str)(sc:Scope):Prop where
 kind:sc.kind = .function
 co:sc.isCoroutine=false
 gen:sc.isGenerator=false
 nd:N.Nodup
 pre:N.take P.length=P
 par:∀x∈P,sc.names.lookup x=some .local\/sc.names.lookup x=some .cell
 nofree:∀y∈sc.names,y.2≠.free
theorem ZF{b:Str->Option NameKind}:∀{a:List (Str×Value)} {m:Str->Option Value},(∀v,(x,v)∉a)->bindL b a m x=m x
 | [],_,_=>rfl
 | (n,v)::r,m,h=>by
  unfold bindL;rw[ZF fun w c=>h w (vp _ c)];split
  ·have:x≠n:=by rintro rfl;exact h v vq
   simp[this]
  ·rfl
theorem ZD{b:Str->Option NameKind}:∀{a:List (Str×Value)} {m:Str->Option Value},(∀v,(x,v)∉a)->bindC b a m x=m x
 | [],_,_=>rfl
 | (n,v)::r,m,h=>by
  unfold bindC;rw[ZD fun w c=>h w (vp _ c)];split
  ·rfl
  ·have:x≠n:=by rintro rfl;exact h v vq
   simp[this]
theorem ZE{a:Str->Option NameKind}:∀{P:List Str} {vs:List Value} {i:Nat} {m:Str->Option Value},P.Nodup->P[i]?=some x->vs[i]?=some v->a x=some .local->
  bindL a (P.zip vs) m x=some v
 | [],_,_,_,_,h,_,_=>by simp at h
 | _::_,[],_,_,_,_,h,_=>by simp at h
 | p::P,w::vs,0,m,nd,h1,h2,hk=>by
  simp at h1 h2;subst h1;subst h2;show bindL a ((p,w)::P.zip vs) m p=_;unfold bindL;rw[ZF fun v b=>(nodup_cons.mp nd).1 (of_mem_zip b).1,ve hk];simp
 | p::P,w::vs,i+1,m,nd,h1,h2,hk=>by
  show bindL a ((p,w)::P.zip vs) m x=_;unfold bindL;exact ZE (i:=i) (nodup_cons.mp nd).2 (by simpa using h1) (by simpa using h2) hk
theorem ZC{a:Str->Option NameKind}:∀{P:List Str} {vs:List Value} {i:Nat} {m:Str->Option Value},P.Nodup->P[i]?=some x->vs[i]?=some v->a x≠some .local->
  bindC a (P.zip vs) m x=some v
 | [],_,_,_,_,h,_,_=>by simp at h
 | _::_,[],_,_,_,_,h,_=>by simp at h
 | p::P,w::vs,0,m,nd,h1,h2,hk=>by
  simp at h1 h2;subst h1;subst h2;show bindC a ((p,w)::P.zip vs) m p=_;unfold bindC;rw[ZD fun v b=>(nodup_cons.mp nd).1 (of_mem_zip b).1,vd hk];simp
 | p::P,w::vs,i+1,m,nd,h1,h2,hk=>by
  show bindC a ((p,w)::P.zip vs) m x=_;unfold bindC;exact ZC (i:=i) (nodup_cons.mp nd).2 (by simpa using h1) (by simpa using h2) hk
noncomputable def start(N:List Str)(vs:List V):St:=vs.map some++List.replicate (N.length-vs.length) none
noncomputable def cxOf(CX:CXT)(P:Program)(w:World)(K:Frg)(mg:Str->Option Value)(base:Heap)(N:List Str)(qual:Str)(scope:Scope)(f:Addr)(cd:Value)(A:Around)(outer:List Env)(s:Shared)(H:Hp)(E:XK):Cx where
 prog:=P
 w:=w
 K:=K
 mg:=mg
 base:=base
 A:=A.deeper (envOfC qual scope s.heap.objs.size f cd)
 N:=N
 s₀:=s
 H₀:=H
 env:=envOfC qual scope s.heap.objs.size f cd
 outer:=outer
 stack:=envOfC qual scope s.heap.objs.size f cd::outer
 ex:=[]
 calm:=true
 fn:=fun _=>true
 pn:=[]
 xe:=fun e s'=>wpAny (model P w) (A.deeper (envOfC qual scope s.heap.objs.size f cd)) (leaving (envOfC qual scope s.heap.objs.size f cd) e) (fun _ s''=>CX outer H s E e s'') (fun e' s''=>CX outer H s E e' s'') s'
theorem yX{a:Scope}{n:Nat}{x:Str}(h:a.names.lookup x=some .cell):∃c,(cellsFrom n a.names []).lookup x=some c:=by
 have q:=PySem.W.cellsFrom_some a.names n [] (.inl h);exact Option.isSome_iff_exists.mp q
theorem ZP{CX:CXT}{P:Program}{w:World}{K:Frg}{J:Str->Option Value}{m:Heap}{N ps:List Str}{j:Str}{d:Scope}{f:Addr}{F:Value}{A:Around}{g:List Env}{s Q:Shared}{H:Hp}{E:XK}{L:List Value}{vs:List V}
  (S:FnScope N ps d) (T:A.handled=none) (o:Env0 P w K J m A g s H) (Y:vs.length=ps.length) (r:Vals vs L)
  (x:InCallC s s.heap.objs.size (bindL (envOfC j d s.heap.objs.size f F).kindOf (ps.zip L) fun _=>none) (cellsFrom (s.heap.objs.size+1) d.names []) (bindC (envOfC j d s.heap.objs.size f F).kindOf (ps.zip L) fun _=>none) Q) :
  Inv (cxOf CX P w K J m N j d f F A g s H E) [] (start N vs) H Q:=by
 have U:ps.length<=N.length:=by have:=congrArg List.length S.pre;rw[vj]at this;lia
 obtain⟨G,Z,rfl,M⟩:=x.done;have B:∀b:Addr,b∉(cxOf CX P w K J m N j d f F A g s H E).ex:=fun b z=>uk (show b∈([]:List Addr)from z) (by simp)
 refine⟨⟨o.mod,S.kind,rfl,rfl,vc _,fun y z c G l=>?_,fun y t=>?_,fun y c _ h=>?_,fun _=>T,Around.frames_deeper o.frames,.inr ⟨rfl,rfl⟩,fun b z=>uk z (B b),o.bs,o.bsz,fun b _ _=>B b,fun b z=>uk z (B b),o.funs,o.frf⟩,
  rfl,o.bare,Un.kept M,⟨_,x.toInCall.ns,fun i y v G l X=>?_⟩,fun y c h=>⟨_,x.cell y c h⟩,o.hok.fresh (vc _),fun y c h=>?_,fun p C=>uk (show p∈([]:List (Addr×Obj))from C) (by simp),o.hok.kept M,?_⟩
 ·exact name_of_addr x.apart (PySem.mem_of_lookup G) (PySem.mem_of_lookup l)
 ·have t:d.names.lookup y=some .cell\/d.names.lookup y=some .free:=t;rcases t with t | t
  ·exact yX t
  ·exact uk rfl (S.nofree _ (PySem.mem_of_lookup t))
 ·exact vW (x.above y c (PySem.mem_of_lookup h))
 ·have I:i<vs.length:=by
   unfold start at l;by_cases I:i<vs.length
   ·exact I
   ·rw[vB (by simpa using I)]at l;rw[List.getElem?_replicate]at l;split at l<;>cases l
  have R:vs[i]?=some v:=by
   unfold start at l;rw[vA (by simpa using I),vv]at l;cases e:vs[i]? with
   | none=>rw[e]at l;cases l
   | some a=>rw[e]at l;cases l;rfl
  obtain⟨u,O,W⟩:=r.get R;have C:ps[i]?=some y:=by
   rw[<-S.pre,List.getElem?_take_of_lt (by lia)];exact G
  have D:ps.Nodup:=by rw[<-S.pre];exact S.nd.sublist (take_sublist _ _)
  refine⟨u,W,?_⟩;rcases S.par y (vm C)with k | k
  ·exact .inl ⟨k,ZE D C O k⟩
  ·obtain⟨c,e⟩:=yX (n:=s.heap.objs.size+1) k;refine .inr ⟨.inl k,c,e,?_⟩;have q:=x.cell y c e;rw[ZC D C O (by show d.names.lookup y≠_;rw[k];decide)]at q;exact q
 ·exact o.hok.fresh (vW (x.above y c (PySem.mem_of_lookup h)))
 ·unfold start;show _=N.length;rw[vn,vt,List.length_replicate];lia
theorem xw{CX:CXT}{P:Program}{w:World}{K:Frg}{G:Str->Option Value}{g:Heap}{k:Nat}{f:Addr}{name c:Str}{h:Arguments}{i:List Stmt}{a:Scope}{dV kV z pm d Z oc:Value}{X od:Option Addr}
  {R:Array (Option Value)} {N ps:List Str} {sp:Sp} (lk:K.lookup f=some ⟨oc,od,.func (PySem.W.fnOf name c h i a dV kV z pm X d Z),R⟩) (L:PySem.W.codeIn K d c=true) (S:FnScope N ps a)
  (F:∀vs H Q E,sp vs H Q E->vs.length=ps.length)
  (l:∀(A:Around) (outer:List Env) (s:Shared) (H:Hp) (vs:List V) (Q:VK) (E:XK),Room k (A.deeper (envOfC c a s.heap.objs.size f d))->sp vs H Q E->
   ∃t,PSs (cxOf CX P w K G g N c a f d A outer s H E) i t/\t {nx:=fun _ H'=>Q .non H',rt:=Q} (start N vs) H) :
  FnOk P w K G g CX (k+1) f (PySem.W.fnOf name c h i a dV kV z pm X d Z) ps sp:=by
 refine⟨F,fun A outer s H Y us vs Q E M B hb r D=>?_⟩;have hl:=F _ _ _ _ D;have W:K.In s.heap:=B.mod.kin.keeps fun b o e=>(B.bs b o e).1
 have O:s.heap.NoLimit:=B.mod.nolimit.keeps fun b o e=>(B.bs b o e).1
 have m:∀y∈ps.zip us,a.names.lookup y.1=some .local\/(a.names.lookup y.1=some .cell/\((cellsFrom (s.heap.objs.size+1) a.names []).lookup y.1).isSome=true):=fun⟨n,v⟩ hy=>by
  rcases S.par n (of_mem_zip hy).1 with q | q
  ·exact .inl q
  ·exact .inr ⟨q,PySem.W.cellsFrom_some _ _ _ (.inl q)⟩
 refine codeAny_call_function M.depth (W _ _ lk) rfl S.co S.gen rfl (PySem.W.codeRec_of W L) (hb _ _ _ _ ?_);refine wpAny_newFunctionEnv_cells S.kind m fun a0 he s1 x=>?_
 subst he;refine⟨O.keeps x.toInCall.keep,codeAny_func ?_⟩;obtain⟨t,ht,hq⟩:=l A outer s H vs Q E (M.deeper _) D;have I:Inv (cxOf CX P w K G g N c a f d A outer s H E) [] (start N vs) H s1:=ZP S M.hd B hl r x;refine wpAny_mono (ht [] s1 (start N vs) H _ I hq) (fun fl U p=>?_) fun e U p=>p
 have C:∀{j:St} {H':Hp} {v:V} {u:Value},Inv (cxOf CX P w K G g N c a f d A outer s H E) [] j H' U->RelV v u->Q v H'->CE outer P w H s Q u U:=
  fun {j H' v u} J T q=>⟨v,H',J.os,J.bare,J.base,J.hok,T,q⟩
 cases fl with
 | ret u=>
  obtain⟨v,j,H',J,T,q⟩:=p;exact C J T q
 | next=>
  obtain⟨j,H',J,q⟩:=p;exact C (v:=V.non) (u:=Value.none) J rfl q
 | brk=>
  obtain⟨_,_,_,q⟩:=p;exact False.elim q
 | cont=>
  obtain⟨_,_,_,q⟩:=p;exact False.elim q
section
variable{X:Cx}{x:Str}{p pos:Pos}{e:Expr}{es:List Expr}{t:TA}{id T:String}{r:List V->Hp->VK->Prop}
def tCB(r:List V->Hp->VK->Prop)(t:TA):TE:=fun σ H Q=>t σ H fun vs H1=>r vs H1 Q
theorem jI(j:CallR X (.builtin id) r)(l:Gl X x)(m:X.mg x=none)(o:bootBuiltins x=some (.builtin id))(i:PA X (e::es) t)(n:x≠"__name__":=by decide)(b:(x==("__debug__" : Str))=false:=by decide)
  (k:starEach (e::es) X.env=(false,eval e X.env)::starEach es X.env:=by rfl) (c:(backTo pos (starEach es X.env)).any (·.1)=false:=by rfl):PE X (.Call (.Name x p) (e::es) [] pos) (tCB r t):=by
 intro a s d H Q I h;refine wpAny_Call_Name_kw (qY I l m o ?_ n b);exact PyProof.Rows.callWith_builtin1 (thn (i pos a s d H _ I h) fun w v ⟨y,f,g,u,q⟩=>j a v d f y w Q g u q) k c
theorem Z0(j:CallR X (.type T) r)(l:Gl X x)(m:X.mg x=none)(o:bootBuiltins x=some (.type T))(i:PA X (e::es) t)(n:x≠"__name__":=by decide)(b:(x==("__debug__" : Str))=false:=by decide)
  (k:starEach (e::es) X.env=(false,eval e X.env)::starEach es X.env:=by rfl) (c:(backTo pos (starEach es X.env)).any (·.1)=false:=by rfl):PE X (.Call (.Name x p) (e::es) [] pos) (tCB r t):=by
 intro a s d H Q I h;refine wpAny_Call_Name_kw (qY I l m o ?_ n b);exact PyProof.Rows.callWith_type1 (thn (i pos a s d H _ I h) fun w v ⟨y,f,g,u,q⟩=>j a v d f y w Q g u q) k c
end
end L2
namespace HT
open PySem PyProof.Rows
section
open PySem.SeqAt
open PySem.AutoSeq1 (wpAny_loadPart')
open PySem.MeetsSeq PySem.MeetsSeq2 PySem.MeetsSeq3
end
section
variable{prog:Program}{w:World}{A:Around}{E:Value->Shared->Prop}{s:Shared}
noncomputable def sIx(n d:Nat):Option Int->Nat
 | none=>d
 | some v=>if v<0 then(v+(n:Int)).toNat else min v.toNat n
theorem Xr(n d:Nat)(b:d<=n)(o:Option Int):sIx n d o<=n:=by
 cases o with
 | none=>exact b
 | some v=>
  show(if v<0 then(v+(n:Int)).toNat else min v.toNat n)<=n;by_cases a:v<0
  ·rw[ve a];lia
  ·rw[vd a];exact Nat.min_le_right _ _
theorem kH(v:Int)(n d:Nat):(if v<0 then max (v+(n:Int)) 0 else min v (n:Int))=((sIx n d (some v):Nat):Int):=by
 show(if v<0 then max (v+(n:Int)) 0 else min v (n:Int))=(((if v<0 then(v+(n:Int)).toNat else min v.toNat n):Nat):Int)
 by_cases a:v<0
 ·simp only[if_pos a];lia
 ·simp only[if_neg a];lia
theorem YQ(lo hi:Option Int)(n:Nat):Builtin.Slice.sliceAdjust lo hi 1 (n:Int)=(((sIx n 0 lo:Nat):Int),((sIx n n hi:Nat):Int)):=by
 have a:¬((1:Int)<0):=by lia
 unfold Builtin.Slice.sliceAdjust;simp only[a,if_false];refine Prod.ext ?_ ?_
 ·cases lo with
  | none=>rfl
  | some v=>exact kH v n 0
 ·cases hi with
  | none=>rfl
  | some v=>exact kH v n n
theorem kn(i j:Nat):Builtin.Slice.slicePlaces (i:Int) (j:Int) 1=j-i:=by
 unfold Builtin.Slice.slicePlaces;have a:(1:Int)>0:=by lia
 simp only[a,if_true,Int.ediv_one];split<;>lia
theorem slicePart_{Q:Option Int->Shared->Prop}(p:IsPart v o)(h:Q o s):wpAny (model prog w) A (Builtin.Slice.slicePartIndex v) Q E s:=by
 cases p with
 | none=>exact slicePart_none h
 | int i t=>exact slicePart_int h
theorem qI{e:Addr}{c d:Value}{lo hi:Option Int}{n:Nat}{Q:Int×Int×Nat->Shared->Prop}(hs:s.heap.IsSliceOf e c d .none)(g:IsPart c lo)(i:IsPart d hi)
  (h:Q (((sIx n 0 lo:Nat):Int),1,sIx n n hi-sIx n 0 lo) s):wpAny (model prog w) A (Builtin.Slice.sliceApplied (.ref e) (pure (n:Int))) Q E s:=by
 obtain⟨j,b,f,a⟩:=id hs;unfold Builtin.Slice.sliceApplied Builtin.Slice.sliceFields;refine um (um (wpAny_field b a (x:=c) rfl (um (wpAny_field b a (x:=d) rfl (um (wpAny_field b a (x:=.none) rfl (ul ?_)))))));refine um (slicePart_none ?_);show wpAny _ _ (if((1:Int)==0)=true then _ else _) _ _ s;rw[vd (by decide)];refine um (slicePart_ g (um (slicePart_ i (um (ul ?_)))));show wpAny _ _ (match Builtin.Slice.sliceAdjust lo hi 1 (n:Int)with | (lo,hi)=>pure (lo,(1:Int),Builtin.Slice.slicePlaces lo hi 1)) _ _ s;rw[YQ lo hi n];show wpAny _ _ (pure (((sIx n 0 lo:Nat):Int),(1:Int),Builtin.Slice.slicePlaces ((sIx n 0 lo:Nat):Int) ((sIx n n hi:Nat):Int) 1)) _ _ s;rw[kn];exact ul h
theorem wW(xs:Array Value)(i k:Nat):((List.range k).filterMap fun(m:Nat)=>xs[((i:Int)+(m:Int)*1).toNat]?).toArray=((xs.toList.drop i).take k).toArray:=by
 have e:(fun(m:Nat)=>xs[((i:Int)+(m:Int)*1).toNat]?)=fun m=>xs[i+m]?:=by
  funext m;have:((i:Int)+(m:Int)*1).toNat=i+m:=by lia
  rw[this]
 rw[e];have:=pick_run xs i k;rw[List.filterMap_map]at this;have a:((fun x=>xs[x]?)∘fun x=>i+x)=fun m=>xs[i+m]?:=rfl
 rw[a]at this;rw[this]
theorem Q9{t g:Addr}{items:Array Value}{i j:Value}{lo hi:Option Int}{Q:Value->Shared->Prop}(b:IsTup s.heap t items)(hs:s.heap.IsSliceOf g i j .none)(n:IsPart i lo)(o:IsPart j hi)
  (hw:¬(sIx items.size 0 lo=0/\sIx items.size items.size hi=items.size))
  (h:Q (.ref s.heap.objs.size) {s with heap:=s.heap.push {cls:=.type "tuple",data:=.seq ((items.toList.drop (sIx items.size 0 lo)).take (sIx items.size items.size hi-sIx items.size 0 lo)).toArray}})
  (hsz:items.size<=sizeLine):wpAny (model prog w) A (getItem (.ref t) (.ref g)) Q E s:=by
 have a:sizeOk (.seq ((items.toList.drop (sIx items.size 0 lo)).take (sIx items.size items.size hi-sIx items.size 0 lo)).toArray):=by
  show((items.toList.drop (sIx items.size 0 lo)).take (sIx items.size items.size hi-sIx items.size 0 lo)).toArray.size<=sizeLine;rw[size_toArray,vj,List.length_drop,Array.length_toList];lia
 have p:sIx items.size items.size hi<=items.size:=Xr _ _ (vc _) hi;obtain⟨l,f,d,k⟩:=id hs;have c:s.TypeIs (.ref g) "slice":=⟨l,f,d⟩
 unfold getItem
 try with_reducible refine wpAny_holding ?_
 first | refine um (ul ?_) | skip
 refine um (wpAny_sequenceKey b.typeIs (by decide) ?_);refine um (wpAny_callSpecial?_slot (name:=Str.ofString "__getitem__") b.typeIs PyProof.Rows.slot_tuple_getitem
  (wpAny_call_entry PyProof.Rows.slot_tuple_getitem b.typeIs entry_tuple_getitem ?_ (args_tuple_getitem _ _)))
 show wpAny _ _ (Builtin.Tuple.tupleItemsOf (.ref t) >>= _) _ _ s;refine um (tupleItemsOf_ b ?_);refine um (wpAny_typeOf c ?_);rw[ve (by decide)];refine um (qI hs n o ?_);have e:¬((((sIx items.size 0 lo:Nat):Int)==0&&(1:Int)==1&&(sIx items.size items.size hi-sIx items.size 0 lo)==items.size)=true):=by
  intro q;rw[Bool.and_eq_true,Bool.and_eq_true]at q;have r:((sIx items.size 0 lo:Nat):Int)=0:=eq_of_beq q.1.1;have u:sIx items.size items.size hi-sIx items.size 0 lo=items.size:=eq_of_beq q.2;exact hw ⟨by lia,by lia⟩
 show wpAny _ _ (if(((sIx items.size 0 lo:Nat):Int)==0&&(1:Int)==1&&(sIx items.size items.size hi-sIx items.size 0 lo)==items.size)=true then _ else _) _ _ s;rw[vd e,wW]
 first
  | exact um (m:=Builtin.Tuple.tupleExact _) (wpAny_newObj_type (ul ⟨_,rfl,ul h⟩) a)
  | exact um (m:=Builtin.Tuple.tupleExact _) (wpAny_newObj_type (um (ul (ul ⟨_,rfl,ul h⟩))) a)
  | exact um (um (m:=Builtin.Tuple.tupleExact _) (wpAny_newObj_type (ul (ul ⟨_,rfl,ul h⟩)) a))
  | exact um (um (m:=Builtin.Tuple.tupleExact _) (wpAny_newObj_type (ul ⟨_,rfl,ul h⟩) a))
end
end HT
namespace L2
open PySem PySem.Spec PyProof.Rows
noncomputable abbrev TO:=St->Hp->(Option Int->Hp->Prop)->Prop
def PO(X:Cx)(e:Option Expr)(t:TO):Prop:=
 ∀(pins:List (Addr×Obj)) (s:Shared) (σ:St) (H:Hp) (Q:Option Int->Hp->Prop),Inv X pins σ H s->t σ H Q->
  wpAny (model X.prog X.w) X.A (evalPart e X.env) (fun u s'=>∃o H',Inv X pins σ H' s'/\IsPart u o/\Q o H') X.xe s
def tNoPart:TO:=fun _ H Q=>Q none H
def tPart(t:TE):TO:=fun σ H Q=>t σ H fun x H1=>∃i,x = .int i/\Q (some i) H1
theorem intsAre_of:∀{a:List Value},Vals (ns.map V.int) a->IntsAre a ns:=by
 induction ns with
 | nil=>intro a r;rw[map_nil]at r;cases r;exact .nil
 | cons n ns ih=>
  intro a r;rw[v7]at r;cases r with
  | cons r1 r2=>
   obtain⟨t,e⟩:=r1;subst e;exact .cons n t (ih r2)
section
variable{X:Cx}{e:Expr}{te:TE}{lo hi:Option Expr}{tl th:TO}{pos p2:Pos}
theorem Kb:PO X none tNoPart:=by
 intro a s b H Q I h;rw[evalPart_none];exact ul ⟨none,H,I,.none,h⟩
theorem Kc(h:PE X e te):PO X (some e) (tPart te):=by
 intro a s j H Q I d;rw[evalPart_some];refine thn (h a s j H _ I d) fun u k ⟨x,b,c,g,f⟩=>?_
 obtain⟨i,rfl,q⟩:=f;obtain⟨t,rfl⟩:=g;exact⟨some i,b,c,.int i t,q⟩
def SlR(X:Cx)(r:V->Option Int->Option Int->Hp->VK->Prop):Prop:=
 ∀(pins:List (Addr×Obj)) (s:Shared) (σ:St) (H:Hp) (x:V) (v vl vu:Value) (lo hi:Option Int) (sl:Addr) (Q:VK),Inv X pins σ H s->RelV x v->s.heap.IsSliceOf sl vl vu .none->IsPart vl lo->IsPart vu hi->r x lo hi H Q->
  ∃T id,typeLookup (.type T) "__getitem__"= pure (some (.builtin id))/\s.TypeIs v T/\wpAny (model X.prog X.w) X.A (getItem v (.ref sl)) (EP X pins σ Q) X.xe s
theorem SlR.or{r e:V->Option Int->Option Int->Hp->VK->Prop}(h:SlR X r)(h':SlR X e):SlR X (fun x lo hi H Q=>r x lo hi H Q\/e x lo hi H Q):=by
 intro a s k H x v i j lo hi g Q I f b c d q;rcases q with q | q
 ·exact h a s k H x v i j lo hi g Q I f b c d q
 ·exact h' a s k H x v i j lo hi g Q I f b c d q
def tSl(r:V->Option Int->Option Int->Hp->VK->Prop)(te:TE)(tl th:TO):TE:=fun σ H Q=>te σ H fun x H1=>tl σ H1 fun l H2=>th σ H2 fun u H3=>r x l u H3 Q
theorem Yu{r:V->Option Int->Option Int->Hp->VK->Prop}(A:SlR X r)(w:PE X e te)(z:PO X lo tl)(C:PO X hi th):PE X (.Subscript e (.Slice lo hi none p2) pos) (tSl r te tl th):=by
 intro a s d H Q I h;refine Subscript_ (thn (w a s d H _ I h) fun v L ⟨x,j,m,K,F⟩=>?_);refine wpAny_Slice (thn (z a L d j _ m F) fun f M ⟨l,k,n,D,G⟩=>thn (C a M d k _ n G) fun g c ⟨u,i,o,E,J⟩=>?_);rw[evalPart_none];refine ul ?_;have p:Inv X a d i {c with heap:=c.heap.push {cls:=.type "slice",data:=.fields #[f,g,.none]}}:=o.kept (t':=c.toks) fun b O q=>vI _ q
 obtain⟨T,N,t,B,y⟩:=A a {c with heap:=c.heap.push {cls:=.type "slice",data:=.fields #[f,g,.none]}} d i x v f g l u c.heap.objs.size Q p K (Heap.IsSliceOf.new ..) D E J;show wpAny (model X.prog X.w) X.A (subscriptTail e (.Slice lo hi none p2) v (.ref c.heap.objs.size)) (EP X a d Q) X.xe {c with heap:=c.heap.push {cls:=.type "slice",data:=.fields #[f,g,.none]}};exact tail_any (ops:=[.ref c.heap.objs.size,v]) B t y (by with_unfolding_all rfl)
noncomputable def cutV(xs:List V)(lo hi:Option Int):List V:=(xs.drop (HT.sIx xs.length 0 lo)).take (HT.sIx xs.length xs.length hi-HT.sIx xs.length 0 lo)
theorem yY(xs:List V)(lo hi:Option Int):(cutV xs lo hi).length<=xs.length:=by
 unfold cutV;rw[vj,List.length_drop];lia
noncomputable def rSlT(K:Frg):V->Option Int->Option Int->Hp->VK->Prop:=fun x lo hi H Q=>∃a xs,x = .ref a/\SqT K H a xs/\
 ¬(HT.sIx xs.length 0 lo=0/\HT.sIx xs.length xs.length hi=xs.length)/\∀p,H p=none->Q (.ref p) (upd H p (.tup (cutV xs lo hi)))
theorem Wp:SlR X (rSlT X.K):=by
 intro k s B H x v z A e f y Q I u l p t h;obtain⟨a,d,rfl,n,m,q⟩:=h;cases u;obtain⟨g,r,i,j⟩:=I.tuple n;have c:g.toArray.size=d.length:=by rw[size_toArray];exact r.length.symm
 refine⟨"tuple",_,PyProof.Rows.slot_tuple_getitem.lookup,i.typeIs,?_⟩;refine HT.Q9 i l p t (by rw[c];exact m) ?_ (by rw[c];exact j);rw[c];refine⟨.ref s.heap.objs.size,_,I.laid (t':=s.toks) (o:=.tup (cutV d e f)) (fun b w q=>vI _ q) (vc _) ?_,rfl,q _ (I.hok.fresh (vc _))⟩;exact⟨vU (yY d e f) j,_,(r.drop (HT.sIx d.length 0 e)).take (HT.sIx d.length d.length f-HT.sIx d.length 0 e),IsTup.new _ _⟩
end
noncomputable def ixN(n:Nat)(i:Int):Option Nat:=if 0<=i then(if i<n then some i.toNat else none)else if -(n:Int)<=i then some (i+n).toNat else none
noncomputable def atI{α:Type}(xs:List α)(i:Int):Option α:=(ixN xs.length i).bind fun j=>xs[j]?
theorem WW(h:ixN n i=some j):seqIndex? i n=some j/\j<n/\-(n:Int)<=i/\i<n:=by
 unfold ixN at h;by_cases b:0<=i
 ·rw[ve b]at h;by_cases a:i<n
  ·rw[ve a]at h;have e:i.toNat=j:=vK h;exact⟨by rw[seqIndex_of b a,e],by lia,by lia,a⟩
  ·rw[vd a]at h;cases h
 ·rw[vd b]at h;by_cases a : -(n:Int)<=i
  ·rw[ve a]at h;have e:(i+n).toNat=j:=vK h;exact⟨by rw[seqIndex_neg (by lia) a,e],by lia,a,by lia⟩
  ·rw[vd a]at h;cases h
theorem kE{a:Type}{xs:List a}{i:Int}{v:a}(h:atI xs i=some v):∃j,seqIndex? i xs.length=some j/\xs[j]?=some v/\j<xs.length/\-(xs.length:Int)<=i/\i<xs.length:=by
 unfold atI at h;cases e:ixN xs.length i with
 | none=>rw[e]at h;cases h
 | some j=>
  rw[e]at h;obtain⟨b,c,d,f⟩:=WW e;exact⟨j,b,h,c,d,f⟩
theorem JL{a:Type}{xs:List a}{j:Nat}{v:a}(h:xs[j]?=some v):atI xs (j:Int)=some v:=by
 have b:j<xs.length:=(vx.mp h).1;have e:ixN xs.length (j:Int)=some j:=by
  unfold ixN;rw[ve (by lia),ve (by lia)];simp
 unfold atI;rw[e];exact h
def PlainIx(b:Expr):Prop:=∀o i,subscripted b false o i=operate [o,i] (getItem o i)
def IxR(X:Cx)(r:R2):Prop:=
 ∀(value slice:Expr) (pins:List (Addr×Obj)) (s:Shared) (σ:St) (H:Hp) (x y:V) (v u:Value) (Q:VK),Inv X pins σ H s->RelV x v->RelV y u->r x y H Q->
  subscripted slice false v u=operate [v,u] (getItem v u)->wpAny (model X.prog X.w) X.A (subscriptTail value slice v u) (EP X pins σ Q) X.xe s
def MtR(X:Cx)(id:String)(r:V->List V->Hp->VK->Prop):Prop:=
 ∀(pins:List (Addr×Obj)) (s:Shared) (σ:St) (H:Hp) (x:V) (xs:List V) (v:Value) (us:List Value) (Q:VK),Inv X pins σ H s->RelV x v->Vals xs us->r x xs H Q->
  wpAny (model X.prog X.w) X.A (call (.builtin id) (v::us)) (EP X pins σ Q) X.xe s
section
variable{X:Cx}{a b:Expr}{ta tb:TE}{pos:Pos}
theorem jm(i:IxR X r)(f:PE X a ta)(g:PE X b tb)(hs:PlainIx b:=by exact fun _ _=>rfl):PE X (.Subscript a b pos) (tOp r ta tb):=by
 intro c s m H Q I h;exact Subscript_ (binT f g I h fun v u l x y d e j k q=>i a b c l m d x y v u Q e j k q (hs _ _))
def rIxL(K:Frg):R2:=fun x y H Q=>∃p xs i v,x = .ref p/\y = .int i/\SqL K H p xs/\atI xs i=some v/\Q v H
def rIxT(K:Frg):R2:=fun x y H Q=>∃p xs i v,x = .ref p/\y = .int i/\SqT K H p xs/\atI xs i=some v/\Q v H
theorem jX:IxR X (rIxL X.K):=by
 intro l k a s A H x y v u Q I J K h o;obtain⟨p,P,i,z,rfl,rfl,G,E,q⟩:=h;cases J;obtain⟨t,rfl⟩:=K;obtain⟨e,r,f,O⟩:=I.list G;obtain⟨j,c,B,M,C,D⟩:=kE E;obtain⟨w,m,g⟩:=r.get B;have F:=r.length;have N:=line63;have b:EP X a A Q w s:=⟨z,H,I,g,q⟩
 by_cases n:0<=i
 ·have d:i.toNat=j:=by
   rw[seqIndex_of n D]at c;exact vK c
  exact item_listR f.isList n (by lia) (by rw[d];simpa using m) b o
 ·have d:(i+(e.toArray.size:Int)).toNat=j:=by
   rw[seqIndex_neg (by lia) C]at c;rw[size_toArray,<-F];exact vK c
  exact subscriptTail_builtinR (x:=w) f.isList.typeIs slot_list_getitem.lookup
   (wpAny_getItem_list_neg (Q:=fun r L=>r=w/\EP X a A Q r L) f.isList (by lia) (by rw[size_toArray]<;>lia) (by lia) (by rw[d];simpa using m) ⟨rfl,b⟩) o
theorem jo:IxR X (rIxT X.K):=by
 intro e d a s g H x y v u Q I D E h B;obtain⟨p,N,i,z,rfl,rfl,A,n,q⟩:=h;cases D;obtain⟨t,rfl⟩:=E;obtain⟨C,r,f,M⟩:=I.tuple A;obtain⟨j,l,m,G,J,K⟩:=kE n;obtain⟨w,k,c⟩:=r.get m;have o:=r.length;have L:=line63;have b:EP X a g Q w s:=⟨z,H,I,c,q⟩
 exact subscriptTail_builtinR (x:=w) f.typeIs slot_tuple_getitem.lookup
  (getItem_tuple (j:=j) (Q:=fun r F=>r=w/\EP X a g Q r F) f (by lia) (by lia) (by rw[size_toArray,<-o];exact l) (by simpa using k) ⟨rfl,b⟩) B
noncomputable def flatV:V->Bool
 | .non=>true
 | .bl _=>true
 | .int _=>true
 | .str _=>true
 | _=>false
noncomputable def eqV:V->V->Bool
 | .non,.non=>true
 | .bl a,.bl b=>a==b
 | .bl a,.int b=>(if a then 1 else 0)==b
 | .int a,.bl b=>a==(if b then 1 else 0)
 | .int a,.int b=>a==b
 | .str a,.str b=>a==b
 | _,_=>false
theorem xN(f:RelV y u)(c:RelV x v)(g:flatV y=true)(e:flatV x=true):SeqAt.EqAt A s u v (eqV y x):=by
 cases y with
 | non=>
  cases f;cases x with
  | non=>cases c;exact SeqAt.EqAt.same _
  | bl b=>cases c;exact SeqAt.EqAt.none_bool b
  | int b=>obtain⟨t,rfl⟩:=c;exact SeqAt.EqAt.none_int b t
  | str b=>obtain⟨t,rfl⟩:=c;exact SeqAt.EqAt.none_str b t
  | _=>exact uk (show false=true from e) vE
 | bl a=>
  cases f;cases x with
  | non=>cases c;exact SeqAt.EqAt.bool_none a
  | bl b=>cases c;exact SeqAt.EqAt.bool_bool a b
  | int b=>obtain⟨t,rfl⟩:=c;exact SeqAt.EqAt.bool_int a b t
  | str b=>obtain⟨t,rfl⟩:=c;exact SeqAt.EqAt.bool_str a b t
  | _=>exact uk (show false=true from e) vE
 | int a=>
  obtain⟨d,rfl⟩:=f;cases x with
  | non=>cases c;exact SeqAt.EqAt.int_none a d
  | bl b=>cases c;exact SeqAt.EqAt.int_bool a d b
  | int b=>obtain⟨t,rfl⟩:=c;exact SeqAt.EqAt.int_int a d b t
  | str b=>obtain⟨t,rfl⟩:=c;exact SeqAt.EqAt.int_str a d b t
  | _=>exact uk (show false=true from e) vE
 | str a=>
  obtain⟨d,rfl⟩:=f;cases x with
  | non=>cases c;exact SeqAt.EqAt.str_none a d
  | bl b=>cases c;exact SeqAt.EqAt.str_bool a d b
  | int b=>obtain⟨t,rfl⟩:=c;exact SeqAt.EqAt.str_int a d b t
  | str b=>obtain⟨t,rfl⟩:=c;exact SeqAt.EqAt.str_str a d b t
  | _=>exact uk (show false=true from e) vE
 | _=>exact uk (show false=true from g) vE
noncomputable def eqU(x:V)(u:Value):Bool:=match u with
 | .none=>eqV .non x
 | .bool b=>eqV (.bl b) x
 | .int i _=>eqV (.int i) x
 | .str z _=>eqV (.str z) x
 | _=>false
theorem ww(r:RelV y u)(f:flatV y=true):eqU x u=eqV y x:=by
 cases y with
 | non=>cases r;rfl
 | bl b=>cases r;rfl
 | int i=>obtain⟨t,rfl⟩:=r;rfl
 | str z=>obtain⟨t,rfl⟩:=r;rfl
 | _=>exact uk (show false=true from f) vE
theorem Z8:∀{xs:List V} {a:List Value},Vals xs a->xs.all flatV=true->a.any (eqU x)=xs.any fun y=>eqV y x
 | _,_,.nil,_=>rfl
 | y::xs,u::a,.cons r t,f=>by
  rw[all_cons,Bool.and_eq_true]at f;rw[any_cons,any_cons,ww r f.1,Z8 t f.2]
theorem Zh(d:RelV x v)(c:flatV x=true):∀{xs:List V} {b:List Value},Vals xs b->xs.all flatV=true->∀u∈b,SeqAt.EqAt A s u v (eqU x u)
 | _,_,.nil,_=>fun u a=>by cases a
 | y::xs,u::b,.cons r t,f=>fun e a=>by
  rw[all_cons,Bool.and_eq_true]at f;rcases mem_cons.mp a with rfl | a
  ·rw[ww r f.1];exact xN r d f.1 c
  ·exact Zh d c t f.2 e a
noncomputable def inV(x:V)(xs:List V):Bool:=xs.any fun y=>eqV y x
def rIn(K:Frg)(neg:Bool):R2:=fun x y H Q=>∃p xs,y = .ref p/\(SqL K H p xs\/SqT K H p xs)/\flatV x=true/\xs.all flatV=true/\Q (.bl (if neg then !inV x xs else inV x xs)) H
theorem ZZ:OpR X (compareOp .In) (rIn X.K false):=by
 intro g s m H x y v u Q I i k h;obtain⟨p,l,rfl,b,f,c,q⟩:=h;cases k;rcases b with b | b
 ·obtain⟨a,r,e,j⟩:=I.list b;refine SeqAt.in_listAt (eqU x) e.isList (fun w d=>Zh i f r c w (by simpa using d)) ⟨.bl _,H,I,rfl,?_⟩;rw[show a.toArray.any (eqU x)=a.any (eqU x) by simp,Z8 r c];exact q
 ·obtain⟨a,r,e,j⟩:=I.tuple b;refine SeqAt.in_tupleAt (eqU x) e (fun w d=>Zh i f r c w (by simpa using d)) ⟨.bl _,H,I,rfl,?_⟩;rw[show a.toArray.any (eqU x)=a.any (eqU x) by simp,Z8 r c];exact q
def tyV(K:Frg)(T:String)(x:V)(H:Hp):Prop:=match x with
 | .str _=>T = "str"
 | .int _=>T = "int"
 | .ref p=>(T = "list"/\∃xs,SqL K H p xs)\/(T = "tuple"/\∃o,K.lookup p=some o/\o.cls = .type "tuple"/\o.dict=none)\/
   (T = "dict"/\((∃kvs,H p=some (.dK kvs))\/∃kvs,H p=some (.dT kvs)))\/(T = "set"/\∃S n,H p=some (.set S n))
 | _=>False
theorem Wy{w:St}{H:Hp}(I:Inv X pins w H s)(r:RelV x v)(f:tyV X.K T x H) :
  s.TypeIs v T/\∀a,v = .ref a->∃k,s.heap.get? a=some k/\k.dict=none:=by
 cases x with
 | str z=>
  obtain⟨t,rfl⟩:=r;cases(show T = "str" from f);exact⟨typeIs_str s z t,fun _ e=>nomatch e⟩
 | int i=>
  obtain⟨t,rfl⟩:=r;cases(show T = "int" from f);exact⟨typeIs_int s i t,fun _ e=>nomatch e⟩
 | ref p=>
  cases r;rcases f with⟨rfl,y,q⟩ | ⟨rfl,o,b,m,h⟩ | ⟨rfl,b⟩ | ⟨rfl,S,n,b⟩
  ·obtain⟨u,_,l,_⟩:=I.list q;refine⟨l.isList.typeIs,fun a e=>?_⟩;cases e;obtain⟨o,n,e,c,h,_⟩:=l;exact⟨o,e,h⟩
  ·refine⟨⟨o,I.kIn p o b,m⟩,fun a e=>?_⟩;cases e;exact⟨o,I.kIn _ o b,h⟩
  ·have z:∃o,s.heap.get? p=some o/\o.ExactDict:=by
    rcases b with⟨j,b⟩ | ⟨j,b⟩
    ·obtain⟨_,_,_,_,o,_,_,e,d,_⟩:=I.hok p _ b;exact⟨o,e,d⟩
    ·obtain⟨_,_,_,_,o,_,_,e,d,_⟩:=I.hok p _ b;exact⟨o,e,d⟩
   obtain⟨o,e,d⟩:=z;refine⟨⟨o,e,d.1⟩,fun a g=>?_⟩;cases g;exact⟨o,e,d.2.1⟩
  ·obtain⟨o,_,_,_,e,d,_⟩:=I.hok p _ b;refine⟨⟨o,e,d.1⟩,fun a g=>?_⟩;cases g;exact⟨o,e,d.2.1⟩
 | _=>exact False.elim f
def tBM0(K:Frg)(T:String)(r:V->List V->Hp->VK->Prop)(to:TE):TE:=fun σ H Q=>to σ H fun x H1=>tyV K T x H1/\r x [] H1 Q
def tBM(K:Frg)(T:String)(r:V->List V->Hp->VK->Prop)(to:TE)(t:TA):TE:=fun σ H Q=>to σ H fun x H1=>tyV K T x H1/\t σ H1 fun xs H2=>r x xs H2 Q
variable{o e:Expr}{es:List Expr}{to:TE}{t:TA}{name:Str}{apos cpos:Pos}{T id:String}{r:V->List V->Hp->VK->Prop}
theorem wV(p:PlainAttrs T)(d:Slot T name id)(e:typeOf (.builtin id)=pure (.type "method_descriptor"))(m:MtR X id r)(n:PE X o to)
  (b:attributeBase o name X.env (eval o X.env)=eval o X.env:=by rfl) (c:(apos.endLine==cpos.line)=true:=by rfl):PE X (.Call (.Attribute o name apos) [] [] cpos) (tBM0 X.K T r to):=by
 intro a s i H Q I h;refine wpAny_Call_method0_late b c (thn (n a s i H _ I h) fun v t ⟨x,j,f,g,u,q⟩=>?_);obtain⟨k,l⟩:=Wy f g u;exact⟨T,id,p,d,e,k,l,Calls.callWith_builtin rfl (PySem.evalArgs_none (m a t i j x [] v [] Q f g .nil q))⟩
theorem Qc(B:PlainAttrs T)(g:Slot T name id)(i:typeOf (.builtin id)=pure (.type "method_descriptor"))(z:MtR X id r)(A:PE X o to)(y:PA X (e::es) t)
  (c:attributeBase o name X.env (eval o X.env)=eval o X.env:=by rfl)
  (f:((backTo cpos (starEach (e::es) X.env)).all (fun x=>!x.1)&&(backToKw cpos (keywordEach [] X.env)).all (fun x=>x.1.isSome)
   && decide ((e::es).length+([]:List Keyword).length+(if([]:List Keyword).isEmpty then 0 else 1)<30))=true:=by rfl)
  (d:(apos.endLine==cpos.line)=true:=by rfl) (hs:starEach (e::es) X.env=(false,eval e X.env)::starEach es X.env:=by rfl) (b:(backTo cpos (starEach es X.env)).any (·.1)=false:=by rfl) :
  PE X (.Call (.Attribute o name apos) (e::es) [] cpos) (tBM X.K T r to t):=by
 intro a s j H Q I h;refine wpAny_Call_method_late c f d rfl (thn (A a s j H _ I h) fun v F ⟨x,n,k,m,J,C⟩=>?_);obtain⟨u,w⟩:=Wy k m J;refine⟨T,id,B,g,i,u,w,?_⟩;have l:=y cpos a F j n _ k C;rw[hs]at l|-;refine Calls.callWith_builtin (by show(false||(backTo cpos (starEach es X.env)).any (·.1))=false;rw[b]<;>rfl) (Calls.evalArgs_plain ?_);exact thn l fun K G ⟨L,p,q,E,D⟩=>z a G j p x L v K Q q m E D
end
def MtM(X:Cx)(id:String)(r:V->List V->Hp->VK->Prop):Prop:=
 ∀(pins:List (Addr×Obj)) (s:Shared) (σ:St) (H:Hp) (x:V) (xs:List V) (v:Value) (us:List Value) (Q:VK),Inv X pins σ H s->RelV x v->Vals xs us->r x xs H Q->
  wpAny (model X.prog X.w) X.A (call (.builtin id) (v::us)) (EP X pins σ Q) X.xe s
theorem Vals.one:∀{x:V} {a:List Value},Vals [x] a->∃u,a=[u]/\RelV x u
 | _,_,.cons r .nil=>⟨_,rfl,r⟩
theorem Vals.zero:∀{a:List Value},Vals [] a->a=[]
 | _,.nil=>rfl
theorem Vals.dropLast{xs:List V}{a:List Value}(h:Vals xs a):Vals xs.dropLast a.dropLast:=by
 induction h with
 | nil=>exact .nil
 | cons r t ih=>
  cases t with
  | nil=>exact .nil
  | cons q t'=>exact .cons r ih
theorem Y0{c:Type}(l:List c):l.eraseIdx (l.length-1)=l.dropLast:=by
 induction l with
 | nil=>rfl
 | cons a r ih=>
  cases r with
  | nil=>rfl
  | cons b r=>
   have e:(a::b::r).length-1=((b::r).length-1)+1:=by
    have d:(a::b::r).length=r.length+2:=rfl;have f:(b::r).length=r.length+1:=rfl;lia
   rw[e,List.eraseIdx_cons_succ,ih]
   all_goals rfl
section
variable{X:Cx}{pins:List (Addr×Obj)}{σ:St}{H:Hp}{s:Shared}{l b:Addr}{xs ys zs:List V}
theorem Inv.lset{a its':List Value}{n:Nat}{f:Array Value->Array Value}{t':Nat}(I:Inv X pins σ H s)(b:H l=some (.lst xs))
  (e:s.heap.get? l=some {cls:=.type "list",data:=.seq a.toArray n}) (d:f a.toArray=its'.toArray) (h:Vals ys its') (i:ys.length<=sizeLine) :
  Inv X pins σ (upd H l (.lst ys)) {s with heap:=s.heap.update l (Obj.mapSeq f),toks:=t'}:=by
 have q:=PySem.IsL.update e f;rw[d]at q;refine I.write (x:=l) (e:=l) (by rw[b];exact trivial) (.inl rfl) (fun j u c g=>(Heap.get?_update_other s.heap (Obj.mapSeq f) (Ne.symm c)).trans g) ⟨_,q⟩ ?_;exact⟨i,its',_,h,q⟩
theorem Inv.lnew(I:Inv X pins σ H s)(a:Vals ys its)(b:ys.length<=sizeLine) :
  Inv X pins σ (upd H s.heap.objs.size (.lst ys)) {s with heap:=s.heap.push {cls:=.type "list",data:=.seq its.toArray},toks:=t'}:=
 I.laid (fun _ _ q=>vI _ q) (vc _) ⟨b,its,0,a,Heap.get?_push_size _ rfl⟩
theorem Inv.fresh(I:Inv X pins σ H s):H s.heap.objs.size=none:=I.hok.fresh (vc _)
theorem Inv.lstM(I:Inv X pins σ H s)(b:H l=some (.lst xs)):xs.length<=sizeLine/\∃(a:List Value) (n:Nat),Vals xs a/\xs.length=a.length/\s.heap.get? l=some {cls:=.type "list",data:=.seq a.toArray n}:=by
 obtain⟨z,a,n,r,e⟩:=I.hok l _ b;exact⟨z,a,n,r,r.length,e⟩
theorem notLongL(h:n<=sizeLine):Builtin.List.listTooLong n=false:=by
 unfold Builtin.List.listTooLong;exact vG (by lia)
end
section
variable{X:Cx}
noncomputable def rAppend:V->List V->Hp->VK->Prop:=fun x vs H Q=>∃l xs y,x = .ref l/\vs=[y]/\H l=some (.lst xs)/\xs.length<sizeLine/\Q .non (upd H l (.lst (xs++[y])))
theorem Jl:MtM X "list.append" rAppend:=by
 intro c s p H x m v k Q I g f h;obtain⟨l,o,y,rfl,rfl,b,j,q⟩:=h;cases g;obtain⟨u,rfl,d⟩:=f.one;obtain⟨z,a,n,r,i,e⟩:=I.lstM b;refine call_meets F.slot_list_append ⟨_,e,rfl⟩ F.entry_list_append (F.args_list_append_2 _ _) (PySem.list_append l a.toArray n u (by rw[size_toArray];lia)) ⟨e,?_⟩;refine⟨.non,_,I.lset (its':=a++[u]) b e (by simp) (r.append (.cons d .nil)) ?_,rfl,q⟩;rw[vn,List.length_singleton];lia
noncomputable def rExtend:V->List V->Hp->VK->Prop:=fun x vs H Q=>∃l b xs zs,x = .ref l/\vs=[.ref b]/\H l=some (.lst xs)/\H b=some (.lst zs)/\xs.length+zs.length<=sizeLine/\Q .non (upd H l (.lst (xs++zs)))
theorem ZX:MtM X "list.extend" rExtend:=by
 intro i s K H x D v C Q I y w h;obtain⟨l,b,E,J,rfl,rfl,g,k,B,q⟩:=h;cases y;obtain⟨u,rfl,t⟩:=w.one;cases t;obtain⟨z,c,n,r,A,e⟩:=I.lstM g;obtain⟨G,a,o,p,m,j⟩:=I.lstM k;have f:c.toArray.size+a.toArray.size<=sizeLine:=by rw[size_toArray,size_toArray];lia
 have d:¬(!c.toArray.isEmpty&&Builtin.List.listTooLong (c.toArray.size+a.toArray.size))=true:=by
  rw[notLongL f,Bool.and_false];exact vE
 refine call_meets F.slot_list_extend ⟨_,e,rfl⟩ F.entry_list_extend (F.args_list_extend_2 _ _)
  (AutoSeq1.list_extend_list_list_0 l c.toArray n b a.toArray o d (by rw[size_toArray];lia) (by lia)) ⟨e,j,?_⟩
 refine⟨.non,_,I.lset (its':=c++a) g e (by simp) (r.append p) ?_,rfl,q⟩;rw[vn];lia
noncomputable def rPop:V->List V->Hp->VK->Prop:=fun x vs H Q=>∃l xs y,x = .ref l/\vs=[]/\H l=some (.lst xs)/\xs[xs.length-1]?=some y/\Q y (upd H l (.lst xs.dropLast))
theorem Xd:MtM X "list.pop" rPop:=by
 intro f s A H x t v p Q I o m h;obtain⟨l,w,y,rfl,rfl,d,j,q⟩:=h;cases o;have b:=m.zero;subst b;obtain⟨z,a,n,r,g,e⟩:=I.lstM d;obtain⟨u,i,k⟩:=r.get j;have c:a.toArray[a.toArray.size-1]?=some u:=by
  show a.toArray[a.length-1]?=some u;rw[<-Array.getElem?_toList,<-g];exact i
 refine call_meets F.slot_list_pop ⟨_,e,rfl⟩ F.entry_list_pop (F.args_list_pop_1 _) (MeetsSeq.list_pop_last l a.toArray n u c (by rw[size_toArray];lia)) ⟨e,?_⟩;refine⟨y,_,I.lset (its':=a.dropLast) d e ?_ r.dropLast ?_,k,q⟩
 ·show a.toArray.eraseIdxIfInBounds (a.toArray.size-1)=a.dropLast.toArray;rw[size_toArray,List.eraseIdxIfInBounds_toArray,Y0]
 ·rw[List.length_dropLast];lia
def rCat:R2:=fun x y H Q=>∃l b xs zs,x = .ref l/\y = .ref b/\H l=some (.lst xs)/\H b=some (.lst zs)/\xs.length+zs.length<=sizeLine/\∀p,H p=none->Q (.ref p) (upd H p (.lst (xs++zs)))
theorem yB:OpR X (binaryOp .Add) rCat:=by
 intro d s E H x y v u Q I o p h;obtain⟨l,b,B,D,rfl,rfl,j,i,w,q⟩:=h;cases o;cases p;obtain⟨z,c,n,r,t,e⟩:=I.lstM j;obtain⟨C,a,A,m,k,f⟩:=I.lstM i;refine PySem.P.add_list e f ?_ (by rw[size_toArray,size_toArray];lia);have g:c.toArray++a.toArray=(c++a).toArray:=by simp
 rw[g];exact⟨.ref _,_,I.lnew (t':=s.toks) (r.append m) (by rw[vn];lia),rfl,q _ I.fresh⟩
end
section
variable{prog:Program}{w:World}{A:Around}{E:Value->Shared->Prop}{s:Shared}
end
section
variable{X:Cx}
end
end L2
namespace Att
open PySem PySem.W PySem.Calls PyProof.Rows
theorem zJ:∀(ns:List Int) (vs:List Value),WellAll P h vs (ns.map WData.int)->IntsAre vs ns:=by
 intro ns
 induction ns with
 | nil=>
  intro vs w;rw[map_nil]at w;cases w;exact .nil
 | cons n ns ih=>
  intro vs w;rw[v7]at w;cases w with
  | cons a b=>
   cases a;exact .cons _ _ (ih _ b)
theorem KY{l:OpenLaw}{n:Nat}(s:l.most=some n){P:Params}{h:Heap}{args:List WData}{c:List Value}
  (b:l.row.toRowW.claim.pre args=true) (j:WellAll P h c args) :
  ∃a vs ns,c=[Value.ref a]/\args=[WData.list (ns.map WData.int)]/\h.get? a=some {cls:=.type "list",data:=.seq vs.toArray}/\IntsAre vs ns/\ns.length<=n:=by
 have i:WShape.hasAll [] args [.list .int]=true:=(pre_splitW b).1;have k:l.pre.holds [] {args:=args}=true:=(pre_splitW b).2;obtain⟨d,r,rfl,m,o⟩:=hasAllW_cons i;obtain rfl:=hasAllW_nil o;obtain⟨u,rfl,p⟩:=hasW_list m;obtain⟨ns,rfl⟩:=items_int p;have e:ns.length<=n:=by
  unfold OpenLaw.pre at k;have f:(WTm.not (.lt (.lit (.int (n:Int))) (.len (.arg 0)))).holds [] {args:=[.list (ns.map .int)]}=true:=by
   have f:=(holds_andW k).1;rw[s]at f;exact f
  have g:=condW_of f (w_not (w_lt w_lit (w_len_list (w_arg rfl))));rw[vt]at g;refine Nat.le_of_not_lt fun q=>?_
  have t:(n:Int)<((ns.length:Nat):Int):=by lia
  first
   | (rw[vF t]at g;exact uk g (by decide))
   | (simp at g;lia)
 cases j with
 | cons w1 w2=>
  cases w2;cases w1 with
  | list ho hall=>exact⟨_,_,ns,rfl,rfl,ho,zJ ns _ hall,e⟩
theorem KQ(l:OpenLaw)(args:List WData):l.row.toRowW.claim.post args (.bool true) args=true:=
 postW_of (r:=l.row.toRowW) (X:=(true==true))
  (show WShape.has [] (.bool true) .bool=true by first | rfl | decide | simp[WShape.has,WShape.arms,WShape.armsAll])
  (show(WTm.eq .res (.lit (.bool true))).value [] {args:=args,res:=some (.bool true),after:=args}=some (.bool (true==true))from w_eq_bool (w_res rfl) w_lit) rfl
section
variable{prog:Program}{w:World}{A:Around}{E:Value->Shared->Prop}{s:Shared}{K:Frag}
end
end Att
namespace L2
open PySem PySem.Spec PyProof.Rows
theorem Z5:∀{vs:List Value} {ns:List Int},IntsAre vs ns->Vals (ns.map V.int) vs
 | _,_,.nil=>.nil
 | _,_,.cons n t h=>.cons ⟨t,rfl⟩ (Z5 h)
def Only(H:Hp):Prop:=∀b,H b=none\/∃o xs,H b=some (.frz o (.lst xs))
theorem wE{P:Program}{w:World}{K:Frg}{I S:Str->Option Value}{CX:CXT}{k:Nat}{N a:Addr}{X:FuncData}{x:Str}{sp:Sp}{c:Shared}{vs:List Value}{ns:List Int}
  (U:K.In c.heap) (C:c.heap.Ns mainGlobals I) (g:c.heap.Ns builtinsNs S) (Q:∀x:Str,x≠"__name__"->S x=bootBuiltins x) (B:c.heap.NoLimit) (hg:c.gens = #[])
  (L:c.heap.get? a=some {cls:=.type "list",data:=.seq vs.toArray}) (hi:IntsAre vs ns) (hl:ns.length<=sizeLine) (hr:Room k callerA)
  (F:∀base:Heap,K.In base->base.Ns mainGlobals I->FnOk P w K I base CX k N X [x] sp) (l:∀(s:Shared) (u:Value),BindsTo s X ⟨[u],[]⟩ [(x,u)])
  (R:∀H:Hp,Only H->SqL K H a (ns.map V.int)->sp [.ref a] H (fun v _=>v = .bl true) fun _ _ _=>False)
  (O:∀H e s',CX [] H c (fun _ _ _=>False) e s'->False) :
  codeAny (model P w) callerA (.call (.ref N) ⟨[.ref a],[]⟩) (fun r s'=>r = .ok (.ret (.bool true))/\OldK c.heap s'.heap/\s'.os=c.os/\AllBare s'.gens) c:=by
 have rv:=Z5 hi;have G:=hi.length;have j:∀H:Hp,Only H->SqL K H a (ns.map V.int)->HOk P w H c.heap->(∀b,H b≠none->b=a)->(H a≠none->K.lookup a=none)->
   codeAny (model P w) callerA (.call (.ref N) ⟨[.ref a],[]⟩) (fun r s'=>r = .ok (.ret (.bool true))/\OldK c.heap s'.heap/\s'.os=c.os/\AllBare s'.gens) c:=by
  intro H Z hS D Y hK;have f:∀{b:Addr} {o:Obj},c.heap.get? b=some o->H b=none->(hidT c.heap H).get? b=some o:=fun e n=>wB e n
  have T:∀{b:Addr} {o:Obj} {y:Array DictEntry} {t:Nat},c.heap.get? b=some o->o.data = .dict y t->H b=none:=fun {b o y t} e d=>by
   cases q:H b with
   | none=>rfl
   | some u=>
    have M:b=a:=Y b (by rw[q];simp);subst M;rw[L]at e;cases e;have d':Data.seq vs.toArray _=Data.dict y t:=d;cases d'
  have i:∀{b:Addr} {m:Str->Option Value},c.heap.Ns b m->(hidT c.heap H).Ns b m:=fun {b m} ⟨o,y,t,e,d,r⟩=>⟨o,y,t,f e (T e d),d,r⟩
  have A:K.In (hidT c.heap H):=fun b o e=>f (U b o e) (by
   cases q:H b with
   | none=>rfl
   | some u=>
    have M:b=a:=Y b (by rw[q];simp);subst M;rw[hK (by rw[q];simp)]at e;cases e)
  have hM:Mod K I (hidT c.heap H):=⟨A,i C,⟨S,i g,Q⟩,let ⟨mc,h1,h2⟩:=B;⟨mc,i h1,h2⟩⟩
  have e0:Env0 P w K I (hidT c.heap H) callerA [] c H:=⟨rfl,hM,fun b o e=>W7 e,Nat.le_of_eq (KC _ _),trivial,fun b g=>uk (show b∈([]:List Addr)from g) (by simp),D,.of_eq hg⟩
  refine codeAny_mono ((F _ A (i C)).run callerA [] c H ⟨[.ref a],[]⟩ [.ref a] [.ref a] _ _ hr e0 (l c (.ref a)) (.cons rfl .nil) (R H Z hS)) fun r s' h=>?_
  cases r with
  | error e=>exact(O H e s' h).elim
  | ok fl=>
   cases fl with
   | next=>exact False.elim h
   | brk=>exact False.elim h
   | cont=>exact False.elim h
   | ret u=>
    obtain⟨v,H',os,p,un,E,r',q⟩:=h;have q':v = .bl true:=q;subst q';obtain rfl:u=Value.bool true:=r';refine⟨rfl,OldK.of_keep fun b o e=>?_,os,p⟩;cases q:H b with
    | none=>exact un.keep b o e q (by intro z;exact uk (show b∈([]:List Addr)from z) (by simp)) (by simp)
    | some u=>
     rcases Z b with z | ⟨ob,xs,z⟩
     ·rw[q]at z;cases z
     ·have z2:=un.frzs b ob _ z;obtain⟨W,_⟩:=D b _ z;obtain⟨e2,_⟩:=E b _ z2;rw[e]at W;cases W;exact e2
 cases hk:K.lookup a with
 | some o=>
  have e:=U a o hk;rw[L]at e;cases e;refine j (fun _=>none) (fun _=>.inl rfl) (.inr ⟨_,vs.toArray,_,hk,rfl,rfl,rfl,by rw[size_toArray,G];exact hl,by simpa using rv⟩) (fun b u z=>by have J:(none:Option HO)=some u:=z;cases J) (fun b z=>uk rfl z) fun z=>uk rfl z
 | none=>
  refine j (fun b=>if b=a then some (.frz {cls:=.type "list",data:=.seq vs.toArray} (.lst (ns.map V.int)))else none) (fun b=>?_) (.inl (.inr ⟨{cls:=.type "list",data:=.seq vs.toArray},ve rfl⟩)) (fun b u z=>?_) (fun b z=>?_) fun _=>hk
  ·by_cases g:b=a
   ·exact .inr ⟨_,_,ve g⟩
   ·exact .inl (vd g)
  ·by_cases g:b=a
   ·have J:=(ve g).symm.trans z;cases J;subst g;exact⟨L,by rw[vt];exact hl,vs,_,rv,L⟩
   ·have J:=(vd g).symm.trans z;cases J
  ·by_cases g:b=a
   ·exact g
   ·exact uk (vd g) z
noncomputable abbrev KOf{K:Frg}{h:Heap}(_:K.In h):Frg:=K
noncomputable def inClass(s:Stmt)(j:Nat):Stmt:=match s with
 | .ClassDef _ _ _ body _ _ _ _ _ _ _=>body.getD j (.Pass ⟨0,0,0,0⟩)
 | _=>.Pass ⟨0,0,0,0⟩
noncomputable def defArgs(s:Stmt):Arguments:=match s with
 | .FunctionDef _ a _ _ _ _ _ _ _ _=>a
 | _=>{posonlyargs:=[],args:=[],vararg:=none,kwonlyargs:=[],kw_defaults:=[],kwarg:=none,defaults:=[]}
noncomputable def defBody(s:Stmt):List Stmt:=match s with
 | .FunctionDef _ _ b _ _ _ _ _ _ _=>b
 | _=>[]
noncomputable def defScope(s:Stmt):Scope:=match s with
 | .FunctionDef _ _ _ _ _ _ sc _ _ _=>sc
 | _=>{kind:=.function,names:=[],isGenerator:=false,isCoroutine:=false}
noncomputable abbrev CX0:CXT:=fun _ _ _ _ _ _=>False
noncomputable abbrev E0:XK:=fun _ _ _=>False
theorem pass0:Passes CX0 X E0:=fun _ _ _ _ _ _ _ h=>h.elim
structure Fun(K:Frg)(x qual:Str)(st:Stmt)(f:Addr)(fd:FuncData):Prop where
 ex:∃(oc:Value) (od:Option Addr) (kV doc pm:Value) (an:Option Addr) (cdv ct:Value) (osl:Array (Option Value)),
  fd=PySem.W.fnOf x qual (defArgs st) (defBody st) (defScope st) .none kV doc pm an cdv ct/\K.lookup f=some ⟨oc,od,.func fd,osl⟩/\PySem.W.codeIn K cdv qual=true
 kp:PySem.W.keepIn K (.ref f)=true
section
variable{P:Program}{w:World}{K:Frg}{mg:Str->Option Value}{base:Heap}
theorem Fun.ok{x a:Str}{st:Stmt}{f:Addr}{i:FuncData}{N ps:List Str}{k:Nat}{sp:Sp}(F:Fun K x a st f i)(S:FnScope N ps (defScope st))(g:∀vs H Q E,sp vs H Q E->vs.length=ps.length)
  (c:∀(b:Value) (A:Around) (outer:List Env) (s:Shared) (H:Hp) (vs:List V) (Q:VK) (E:XK),Room k (A.deeper (envOfC a (defScope st) s.heap.objs.size f b))->sp vs H Q E->
   ∃t,PSs (cxOf CX0 P w K mg base N a (defScope st) f b A outer s H E).nox (defBody st) t/\t {nx:=fun _ H'=>Q .non H',rt:=Q} (start N vs) H):FnOk P w K mg base CX0 (k+1) f i ps sp:=by
 obtain⟨r,u,kV,j,v,o,b,p,n,rfl,m,d⟩:=F.ex;refine xw m d S g fun A outer s H vs Q E l e=>?_
 obtain⟨t,h,q⟩:=c b A outer s H vs Q E l e;exact⟨t,h.nox,q⟩
theorem Fun.binds{x a:Str}{st:Stmt}{f:Addr}{j:FuncData}{ps:List Str}(F:Fun K x a st f j)
  (h:∀(kV c g:Value) (d:Option Addr) (b e:Value) (i:List Value),i.length=ps.length->bindArgs (PySem.W.fnOf x a (defArgs st) (defBody st) (defScope st) .none kV c g d b e) ⟨i,[]⟩=pure (ps.zip i)):Binds K j ps []:=by
 obtain⟨n,o,kV,c,g,d,b,e,l,rfl,m,k⟩:=F.ex;exact .all (h kV c g d b e)
theorem jJ{x a:Str}{st:Stmt}{f:Addr}{j:Value}{m g:Option Addr}{e:Array (Option Value)}{kV d i b h:Value}(l:K.lookup f=some ⟨j,m,.func (PySem.W.fnOf x a (defArgs st) (defBody st) (defScope st) .none kV d i g b h),e⟩)
  (c:PySem.W.codeIn K b a=true) (k:PySem.W.keepIn K (.ref f)=true):Fun K x a st f (PySem.W.fnOf x a (defArgs st) (defBody st) (defScope st) .none kV d i g b h):=⟨⟨j,m,kV,d,i,g,b,h,e,rfl,l,c⟩,k⟩
end
theorem kO(a:Room k A):A.units+1<cLine:=vC (Nat.add_le_add_left (by decide:1<=64) _) a.units
section
variable{X:Cx}
theorem pv(i:Nat)(b:X.N[i]?=some x:=by rfl)(d:Vis X.env.scope x:=by first | exact Or.inl rfl | exact Or.inr (Or.inl rfl) | exact Or.inr (Or.inr rfl))(c:(x==("__debug__" : Str))=false:=by decide)
  (a:(x==("__classdict__" : Str))=false:=by decide):PE X (.Name x pos) (tVar i):=Xi b d c a
end
theorem iteF{A B:Prop}(h:B):if false=true then A else B:=by
 rw[vd vE];exact h
theorem iteT{A B:Prop}(h:A):if true=true then A else B:=by
 rw[ve rfl];exact h
def Same(H H':Hp):Prop:=∀b o,H b=some o->H' b=some o
theorem Same.refl(H:Hp):Same H H:=fun _ _ h=>h
theorem Same.trans{H d e:Hp}(a:Same H d)(b:Same d e):Same H e:=fun c o h=>b c o (a c o h)
theorem Same.seq{K:Frg}{H H':Hp}{a:Addr}{xs:List V}(e:Same H H')(h:SqL K H a xs):SqL K H' a xs:=by
 rcases h with(h | ⟨o,h⟩) | h
 ·exact .inl (.inl (e _ _ h))
 ·exact .inl (.inr ⟨o,e _ _ h⟩)
 ·exact .inr h
section
variable{κ:Type}[DecidableEq κ]
noncomputable def valV(kvs:List (κ×V))(k:κ):Option V:=(kvs.find? fun kv=>decide (kv.1=k)).map (·.2)
noncomputable def putK(kvs:List (κ×V))(k:κ)(v:V):List (κ×V):=
 if(kvs.any fun kv=>decide (kv.1=k))=true then kvs.map (fun kv=>if kv.1=k then(kv.1,v)else kv)else kvs++[(k,v)]
theorem Zq{p:κ×V}{r:List (κ×V)}{k:κ}(e:p.1=k):valV (p::r) k=some p.2:=by simp[valV,List.find?_cons,e]
theorem Zp{p:κ×V}{r:List (κ×V)}{k:κ}(e:¬p.1=k):valV (p::r) k=valV r k:=by simp[valV,List.find?_cons,e]
theorem YG(k:κ):∀kvs:List (κ×V),(kvs.any fun kv=>decide (kv.1=k))=(valV kvs k).isSome
 | []=>rfl
 | p::r=>by
  rw[any_cons];by_cases e:p.1=k
  ·simp only[Zq e,decide_eq_true e,Bool.true_or,Option.isSome_some]
  ·rw[Zp e,vG e,Bool.false_or];exact YG k r
theorem Qr(kvs:List (κ×V))(k:κ)(v:V):(putK kvs k v).length<=kvs.length+1:=by
 unfold putK;split
 ·rw[vt];lia
 ·rw[vn,vO,length_nil];lia
theorem RelO.isSome_eq(r:RelO o u):o.isSome=u.isSome:=by
 cases o with
 | none=>cases u with
  | none=>rfl
  | some _=>exact(show False from r).elim
 | some _=>cases u with
  | none=>exact(show False from r).elim
  | some _=>rfl
theorem KV.val{kvs:List (κ×V)}{vs:List (κ×Value)}(r:KV kvs vs)(k:κ):RelO (valV kvs k) (valueAt vs k):=by
 unfold KV at r
 induction r with
 | nil=>exact True.intro
 | @cons p q ps qs h t ih=>
  obtain⟨c,d⟩:=h;by_cases e:p.1=k
  ·have a:q.1=k:=c.symm.trans e;have b:valueAt (q::qs) k=some q.2:=by simp[valueAt,List.find?_cons,a]
   rw[Zq e,b];exact d
  ·have a:¬q.1=k:=fun z=>e (c.trans z)
   have b:valueAt (q::qs) k=valueAt qs k:=by simp[valueAt,List.find?_cons,a]
   rw[Zp e,b];exact ih
theorem KV.any(r:KV kvs vs)(k:κ):(kvs.any fun kv=>decide (kv.1=k))=vs.any fun kv=>decide (kv.1=k):=by
 unfold KV at r
 induction r with
 | nil=>rfl
 | cons h t ih=>rw[any_cons,any_cons,ih,h.1]
theorem KV.repl(r:KV kvs vs)(k:κ)(c:RelV y u) :
  KV (kvs.map fun kv=>if kv.1=k then(kv.1,y)else kv) (vs.map fun kv=>if kv.1=k then(kv.1,u)else kv):=by
 unfold KV at r|-
 induction r with
 | nil=>exact .nil
 | @cons p q ps qs h t ih=>
  rw[v7,v7];refine .cons ?_ ih;obtain⟨a,b⟩:=h;by_cases e:p.1=k
  ·rw[ve e,ve (a.symm.trans e)];exact⟨a,c⟩
  ·rw[vd e,vd (fun z=>e (a.trans z))];exact⟨a,b⟩
theorem KV.put(r:KV kvs vs)(k:κ)(a:RelV y u):KV (putK kvs k y) (stored vs k u):=by
 unfold putK stored;rw[r.any k];by_cases e:(vs.any fun kv=>decide (kv.1=k))=true
 ·rw[ve e,ve e];exact r.repl k a
 ·rw[vd e,vd e];exact Paired.snoc r ⟨rfl,a⟩
theorem KV.keys{kvs:List (κ×V)}{vs:List (κ×Value)}(r:KV kvs vs):kvs.map (·.1)=vs.map (·.1):=by
 unfold KV at r
 induction r with
 | nil=>rfl
 | cons h t ih=>rw[v7,v7,ih,h.1]
theorem KV.length(r:KV kvs vs):kvs.length=vs.length:=Paired.length r
end
theorem wC(r:RelV (kV k) u):(mixKind P w).is k u=true:=by
 cases k with
 | inl i=>obtain⟨t,e⟩:=(show∃t,u=Value.int i t from r);subst e;exact Yi P w i t
 | inr x=>obtain⟨t,e⟩:=(show∃t,u=Value.str x t from r);subst e;exact Yj P w x t
theorem ZQ:∀{ks:List Key} {a:List Value},Vals (ks.map kV) a->ItemsAre (mixKind P w) ks a
 | [],_,r=>by rw[map_nil]at r;cases r;exact .nil
 | k::ks,_,r=>by
  rw[v7]at r;cases r with
  | cons h t=>exact .cons (wC h) (ZQ t)
noncomputable abbrev KT(H:Hp):List (List Key×V)->List (List Key×Addr×Value)->Prop:=Paired fun p q=>p.1=q.1/\H q.2.1=some (.tup (p.1.map kV))/\RelV p.2 q.2.2
theorem KT.val{H:Hp}{kvs:List (List Key×V)}{xs:List (List Key×Addr×Value)}(r:KT H kvs xs)(k:List Key):RelO (valV kvs k) ((atKey xs k).map (·.2)):=by
 induction r with
 | nil=>exact True.intro
 | @cons p q ps qs h t ih=>
  obtain⟨c,_,d⟩:=h;by_cases e:p.1=k
  ·have a:q.1=k:=c.symm.trans e;have b:atKey (q::qs) k=some q.2:=by simp[atKey,List.find?_cons,a]
   rw[Zq e,b];exact d
  ·have a:¬q.1=k:=fun z=>e (c.trans z)
   have b:atKey (q::qs) k=atKey qs k:=by simp[atKey,List.find?_cons,a]
   rw[Zp e,b];exact ih
theorem KT.repl{H:Hp}(r:KT H kvs xs)(k:List Key)(d:RelV y u) :
  KT H (kvs.map fun kv=>if kv.1=k then(kv.1,y)else kv) (xs.map (putAt k u)):=by
 induction r with
 | nil=>exact .nil
 | @cons p q ps qs h t ih=>
  rw[v7,v7];refine .cons ?_ ih;obtain⟨a,b,c⟩:=h;unfold putAt;by_cases e:p.1=k
  ·rw[ve e,ve (a.symm.trans e)];exact⟨a,b,d⟩
  ·rw[vd e,vd (fun z=>e (a.trans z))];exact⟨a,b,c⟩
theorem KT.put{H:Hp}(r:KT H kvs xs)(k:List Key)(c:H b=some (.tup (k.map kV)))(a:RelV y u) :
  KT H (putK kvs k y) (storedH xs k b u):=by
 have e:(kvs.any fun kv=>decide (kv.1=k))=(atKey xs k).isSome:=by
  rw[YG,(r.val k).isSome_eq,Option.isSome_map]
 unfold putK storedH;rw[e];by_cases q:(atKey xs k).isSome=true
 ·rw[ve q,ve q];exact r.repl k a
 ·rw[vd q,vd q];exact Paired.snoc r ⟨rfl,c,a⟩
theorem KT.keeps{H H':Hp}(r:KT H kvs xs)(a:∀b ys,H b=some (.tup ys)->H' b=some (.tup ys)):KT H' kvs xs:=
 Paired.mapP r fun _ _ z=>⟨z.1,a _ _ z.2.1,z.2.2⟩
section
variable{P:Program}{w:World}{H:Hp}{h:Heap}{a:Addr}
theorem xz(b:HOk P w H h)(e:Rd H a u):ObjOk P w H h a u:=e.ok b
theorem wu(b:HOk P w H h)(e:Rd H a (.dK kvs)):kvs.length<=sizeLine/\(a==sysModules)=false/\∃vs,KV kvs vs/\h.DictOf (mixKind P w) a vs:=
 show ObjOk P w H h a (.dK kvs)from xz b e
theorem y3(b:HOk P w H h)(e:H a=some (.dK kvs)):kvs.length<=sizeLine/\(a==sysModules)=false/\∃vs,KV kvs vs/\h.DictOf (mixKind P w) a vs:=wu b (.inl e)
theorem Y5(g:HOk P w H h)(e:H a=some (.tup (ks.map kV))):(tupleKind (mixKind P w)).is h ks a:=by
 obtain⟨_,b,r,o,c,d,n,f⟩:=(show ObjOk P w H h a (.tup (ks.map kV))from g a _ e)
 exact⟨o,b.toArray,n,c,d,f,by simpa using ZQ r⟩
theorem wv(d:HOk P w H h)(e:Rd H a (.dT kvs)):kvs.length<=sizeLine/\(a==sysModules)=false/\
  ∃xs,KT H kvs xs/\h.DictOfH (tupleKind (mixKind P w)) a xs:=by
 obtain⟨z,y,xs,r,o,g,f,i,j,k,n,s⟩:=(show ObjOk P w H h a (.dT kvs)from xz d e)
 refine⟨z,y,xs,r,o,g,f,i,j,k,n,fun x b=>?_,s⟩;have c:∀{l:List (List Key×V)} {m:List (List Key×Addr×Value)},KT H l m->∀x∈m,(tupleKind (mixKind P w)).is h x.1 x.2.1:=by
  intro l m q
  induction q with
  | nil=>intro x b;exact nomatch b
  | @cons p q ps qs hq t ih=>
   intro x b;rcases mem_cons.mp b with e | b
   ·subst e;exact Y5 d (by rw[<-hq.1];exact hq.2.1)
   ·exact ih x b
 exact c r x b
theorem XC(b:HOk P w H h)(e:H a=some (.dT kvs)):kvs.length<=sizeLine/\(a==sysModules)=false/\
  ∃xs,KT H kvs xs/\h.DictOfH (tupleKind (mixKind P w)) a xs:=wv b (.inl e)
end
def DGet(H:Hp)(a:Addr)(y:V)(r:Option V):Prop:=
 (∃kvs k,Rd H a (.dK kvs)/\y=kV k/\r=valV kvs k)\/∃kvs k b,Rd H a (.dT kvs)/\y = .ref b/\H b=some (.tup (k.map kV))/\r=valV kvs k
def DPut(H:Hp)(a:Addr)(y v:V)(H':Hp):Prop:=
 (∃kvs k,H a=some (.dK kvs)/\y=kV k/\kvs.length<sizeLine/\H'=upd H a (.dK (putK kvs k v)))\/
 ∃kvs k b,H a=some (.dT kvs)/\y = .ref b/\H b=some (.tup (k.map kV))/\kvs.length<sizeLine/\H'=upd H a (.dT (putK kvs k v))
theorem DGet.k{H:Hp}{a:Addr}{kvs:List (Key×V)}{k:Key}(e:H a=some (.dK kvs)):DGet H a (kV k) (valV kvs k):=.inl ⟨kvs,k,.inl e,rfl,rfl⟩
theorem DPut.k{H:Hp}{a:Addr}{kvs:List (Key×V)}{k:Key}{v:V}(e:H a=some (.dK kvs))(b:kvs.length<sizeLine):DPut H a (kV k) v (upd H a (.dK (putK kvs k v))):=.inl ⟨kvs,k,e,rfl,b,rfl⟩
section
variable{X:Cx}{pins:List (Addr×Obj)}{σ:St}{H:Hp}{s:Shared}{a:Addr}{y v:V}{u r:Value}{o:Option V}{A:Around}{E:Value->Shared->Prop}
theorem Inv.big(I:Inv X pins σ H s):sysModules<s.heap.objs.size:=by
 have h:mainGlobals<s.heap.objs.size:=(I.mod.glob.keeps I.bk).lt;exact vX (by decide) h
theorem Ky{Q:Value->Shared->Prop}(B:A.units+1<cLine)(I:Inv X pins σ H s)(g:DGet H a y (some v))(r:RelV y u)(h:∀f s',Inv X pins σ H s'->RelV v f->Q f s') :
  wpAny (model X.prog X.w) A (getItem (.ref a) u) Q E s:=by
 rcases g with⟨q,k,e,j,l⟩ | ⟨q,k,b,e,j,t,l⟩
 ·subst j;obtain⟨z,w,C,c,i⟩:=wu I.hok e;obtain⟨f,n,d⟩:=RelO.some_of (v:=v) (o:=valueAt C k) (by rw[l];exact c.val k);exact wpAny_getItem_of (wC r) i.mapOf n (h f _ (I.tok _) d)
 ·subst j;cases(show u=Value.ref b from r);obtain⟨z,w,D,c,i⟩:=wv I.hok e;obtain⟨f,n,d⟩:=RelO.some_of (v:=v) (o:=(atKey D k).map (·.2)) (by rw[l];exact c.val k);obtain⟨p,x,m⟩:=vh.mp n;refine wpAny_getItem_heap (tupleKind_room_in1 B) (Y5 I.hok t) i x ?_;rw[m];exact h f _ (I.tok _) d
theorem yj(I:Inv X pins σ H s)(g:Mut (H a))(hs:Heap.SameBut a s.heap h')(f:∃q,h'.get? a=some q)(c:ObjOk X.prog X.w (upd H a ob) h' a ob) :
  Inv X pins σ (upd H a ob) {s with heap:=h',toks:=t'}:=
 I.write (x:=a) (e:=a) g (.inl rfl) (fun b q d z=>(hs.2 b d).trans z) f c
theorem YZ{H':Hp}(z:kvs.length<=sizeLine)(c:(a==sysModules)=false)(b:KV kvs vs)(dd:h'.DictOf (mixKind P w) a vs) :
  ObjOk P w H' h' a (.dK kvs):=⟨z,c,vs,b,dd⟩
theorem Kz{H':Hp}{Q:Unit->Shared->Prop}(R:A.units+1<cLine)(I:Inv X pins σ H s)(g:DPut H a y v H')(G:RelV y u)(F:RelV v r)(h:∀s',Inv X pins σ H' s'->Q () s') :
  wpAny (model X.prog X.w) A (setItem (.ref a) u r) Q E s:=by
 rcases g with⟨d,k,e,o,l,n⟩ | ⟨d,k,b,e,o,B,l,n⟩
 ·subst o n;obtain⟨z,p,S,f,m⟩:=y3 I.hok e;have x:S.length<=sizeLine:=by rw[<-f.length];exact z
  have t:(putK d k v).length<=sizeLine:=by have:=Qr d k v;lia
  refine wpAny_setItem_pairs (hsz:=x) (wC G) m fun D i w=>h _ ?_
  have P:∃q,D.get? a=some q:=let ⟨q,_,_,j,_⟩:=i;⟨q,j⟩;exact yj I (by rw[e];exact True.intro) w P (YZ t p (f.put k F) i)
 ·subst o n;cases(show u=Value.ref b from G);obtain⟨z,p,T,f,m⟩:=XC I.hok e;have x:T.length<=sizeLine:=by rw[<-Paired.length f];exact z
  have t:(putK d k v).length<=sizeLine:=by have:=Qr d k v;lia
  refine wpAny_setItem_heap (hsz:=x) (tupleKind_room_in1 R) (Y5 I.hok B) m fun D i w=>h _ ?_
  obtain⟨q,K,J,j,L,M,N,_,O⟩:=i;refine yj I (by rw[e];exact True.intro) w ⟨q,j⟩ ⟨t,p,_,(f.put k B F).keeps fun c U C=>?_,q,K,J,j,L,M,N,O⟩;rw[jf (Yk C e (fun z=>nomatch z))];exact C
end
section
variable{X:Cx}{pins:List (Addr×Obj)}{σ:St}{H:Hp}{s:Shared}{a:Addr}{kvs:List (Key×V)}{k:Key}{u:Value}{A:Around}{E:Value->Shared->Prop}
end
def NoSl(i:Expr):Prop:=∀ov iv,subscripted i false ov iv=operate [ov,iv] (getItem ov iv)
theorem xm{prog:Program}{w:World}{A:Around}{E:Value->Shared->Prop}{s:Shared}{env:Env}{b a:Expr}{l:Pos}{T id:String}{Q:Value->Shared->Prop}
  (n:typeLookup (.type T) "__getitem__"= pure (some (.builtin id))) (hs:NoSl a)
  (h:wpAny (model prog w) A (eval b env) (fun o e=>wpAny (model prog w) A (eval a env) (fun i c=>c.TypeIs o T/\wpAny (model prog w) A (getItem o i) Q E c) E e) E s) :
  wpAny (model prog w) A (eval (.Subscript b a l) env) Q E s:=by
 refine Subscript_ (wpAny_mono h (fun o e j=>wpAny_mono j (fun i c d=>?_) fun _ _ x=>x) fun _ _ x=>x);obtain⟨m,d⟩:=d;unfold subscriptTail;refine um ?_;rw[getitemInPython_of_ne m.not_modules];refine um (wpAny_specialOf m n ?_);have g:wpAny (model prog w) A (subscripted a false o i) (fun r f=>wpAny (model prog w) A (letTemporaryGo b o r >>= fun _=>pure r) Q E f) E c:=by
  rw[hs o i];exact wpAny_operating (wpAny_mono d (fun r f k=>um (wpAny_letTemporaryGo (ul k))) fun _ _ x=>x)
 first
  | exact ul (um g)
  | exact um (ul (um g))
  | exact um g
theorem yZ{f:St}{H:Hp}(I:Inv X pins f H s)(g:DGet H a y o):s.TypeIs (.ref a) "dict":=by
 rcases g with⟨d,k,e,_,_⟩ | ⟨d,k,b,e,_,_,_⟩
 ·obtain⟨_,_,h,_,c⟩:=wu I.hok e;exact c.typeIs
 ·obtain⟨_,_,i,_,c⟩:=wv I.hok e;exact c.typeIs
def tDGet(td ty:TE):TE:=fun σ H Q=>td σ H fun x H1=>ty σ H1 fun y H2=>∃a v,x = .ref a/\DGet H2 a y (some v)/\Q v H2
def sDPut(td ty tv:TE):TS:=fun D σ H=>tv σ H fun v H1=>td σ H1 fun x H2=>ty σ H2 fun y H3=>∃a H4,x = .ref a/\DPut H3 a y v H4/\D.nx σ H4
section
variable{X:Cx}{o i e value:Expr}{pos pos' tpos:Pos}{td ty tv:TE}
theorem kZ(p:X.A.units+1<cLine)(n:PE X o td)(hi:PE X i ty)(hs:NoSl i:=by exact fun _ _=>rfl):PE X (.Subscript o i pos) (tDGet td ty):=by
 intro b s e H Q I h;refine xm PySem.F.slot_dict_getitem.lookup hs (thn (n b s e H _ I h) fun u z ⟨x,f,k,t,q⟩=>thn (hi b z e f _ k q) fun A B ⟨y,j,d,w,a,v,m,g,r⟩=>?_);subst m;obtain rfl:u=Value.ref a:=t;exact⟨yZ d g,Ky p d g w fun D C l c=>⟨v,j,l,c,r⟩⟩
theorem Kf(q:X.A.units+1<cLine)(p:PE X o td)(hi:PE X i ty)(t:PE X value tv)(hs:swapsWith value (some (.Subscript o i pos')) pos.line X.env=pure false) :
  PS X (.Assign [.Subscript o i pos'] value pos) (sDPut td ty tv):=by
 intro b s c H D I h;refine wpAny_Assign_Subscript (thn (t b s c H _ I h) fun r F ⟨v,d,j,B,w⟩=>thn (p b F c d _ j w) fun u G ⟨x,e,k,C,z⟩=>thn (hi b G c e _ k z) fun K L ⟨y,J,l,E,a,f,n,g,A⟩=>?_) hs;subst n;obtain rfl:u=Value.ref a:=C;exact Kz q l g E B fun M m=>⟨c,f,m,A⟩
end
theorem wq{H:Hp}(h:Heap)(a:sysModules<h.objs.size):ObjOk P w H (h.push {cls:=.type "dict",data:=.dict #[]}) h.objs.size (.dK []):=
 ⟨vb _,beq_eq_false_iff_ne.mpr (Ne.symm (vD a)),[],.nil,Heap.DictOf.new h⟩
def tDNewK:TE:=fun _ H Q=>∀p,H p=none->Q (.ref p) (upd H p (.dK []))
section
variable{X:Cx}{pos:Pos}
theorem Yt:PE X (.Dict [] [] pos) tDNewK:=fun b s c H Q I h=>
 wpAny_Dict_empty ⟨.ref s.heap.objs.size,_,I.laid (a:=s.heap.objs.size) (o:=.dK []) (t':=s.toks) (fun _ _ q=>vI _ q) (vc _) (wq s.heap I.big),rfl,h _ (I.hok.fresh (vc _))⟩
end
noncomputable def mergeK(kvs more:List (Key×V)):List (Key×V):=more.foldl (fun acc kv=>putK acc kv.1 kv.2) kvs
theorem KV.merge:∀{more:List (Key×V)} {a:List (Key×Value)} {kvs:List (Key×V)} {vs:List (Key×Value)},KV more a->KV kvs vs->KV (mergeK kvs more) (merged vs a):=by
 intro more a kvs vs r;unfold KV at r
 induction r generalizing kvs vs with
 | nil=>intro q;exact q
 | @cons p q ps qs h t ih=>
  intro b;have e:KV (putK kvs p.1 p.2) (stored vs q.1 q.2):=by
   have:=b.put p.1 h.2;rw[<-h.1];exact this
  exact ih e
theorem qB:∀(more kvs:List (Key×V)),(mergeK kvs more).length<=kvs.length+more.length
 | [],kvs=>by show kvs.length<=kvs.length+0;lia
 | p::r,kvs=>by
  have a:=qB r (putK kvs p.1 p.2);have b:=Qr kvs p.1 p.2;show(mergeK (putK kvs p.1 p.2) r).length<=_;rw[vO];lia
section
variable{X:Cx}{pins:List (Addr×Obj)}{σ:St}{H:Hp}{s:Shared}{a:Addr}{y d:V}{u r:Value}{o:Option V}{A:Around}{E:Value->Shared->Prop}
end
section
variable{X:Cx}{o e f:Expr}{apos cpos:Pos}{td ty tx:TE}
end
section
variable{X:Cx}{pins:List (Addr×Obj)}{σ:St}{H:Hp}{s:Shared}{a:Addr}{kvs:List (Key×V)}{A:Around}{E:Value->Shared->Prop}
end
section
variable{X:Cx}{pins:List (Addr×Obj)}{σ:St}{H:Hp}{s:Shared}{a:Addr}{y:V}{u:Value}{A:Around}{E:Value->Shared->Prop}
end
section
variable{X:Cx}
end
section
variable{κ:Type}[DecidableEq κ]
end
theorem compLoopT{R:Result->Shared->Prop}(I:Nat->Shared->Prop)
  (u:∀n s,I n s->wpAny (model prog w) A (pyNext it) (fun r b=>match r with
   | none=>R (.ok .next) b
   | some v=>wpAny (model prog w) A (letOwnedTupleGo target it v) (fun _ g=>wpAny (model prog w) A (assign target env v) (fun _ i=>
     wpAny (model prog w) A (forIn ifs true fun c r=>if r=true then do let t <-isTrue c env (eval c env);pure (ForInStep.yield t)else pure (ForInStep.yield r)) (fun t d=>
      if t=true then wpAny (model prog w) A (eval elt env) (fun x j=>
       wpAny (model prog w) A (call (.builtin "list.append") [acc,x]) (fun _ k=>∃m,m<n/\I m k) (fun _ _=>False) j) (fun _ _=>False) d
      else∃m,m<n/\I m d) (fun _ _=>False) i) (fun _ _=>False) g) (fun _ _=>False) b) (fun _ _=>False) s)
  (n:Nat) (h:I n s) :
  codeAny (model prog w) A (.compLoop (.ListComp elt [⟨target,iter,ifs,0⟩] scope pos) 0 it acc env) R s:=by
 refine codeAny_loop rfl I (fun n s y=>?_) n h;show wpAny _ A ((compTurn (.ListComp elt [⟨target,iter,ifs,0⟩] scope pos) 0 it acc env).onRaise (fun x=>do noteFrame x env;theTreesLotGoes x)) _ _ s;refine wpAny_noted ?_;rw[compTurn_list];refine um (wpAny_standAt (um (wpAny_mono (u n s y) (fun r b e=>?_) fun _ _ a=>a.elim)));cases r with
 | none=>exact ul e
 | some v=>
  refine um (wpAny_mono e (fun _ g l=>?_) fun _ _ a=>a.elim);refine um (wpAny_mono l (fun _ i o=>um (wpAny_mono o (fun t d f=>?_) fun _ _ a=>a.elim)) fun _ _ a=>a.elim);cases t with
  | false=>exact ul ⟨rfl,f⟩
  | true=>
   exact um (um (wpAny_mono f (fun x j p=>um (wpAny_mono p (fun _ k q=>ul (ul ⟨rfl,q⟩)) fun _ _ a=>a.elim)) fun _ _ a=>a.elim))
def PF(X:Cx)(ifs:List Expr)(t:TT):Prop:=
 ∀(pins:List (Addr×Obj)) (s:Shared) (σ:St) (H:Hp) (Q:Bool->Hp->Prop),Inv X pins σ H s->t σ H Q->
  wpAny (model X.prog X.w) X.A (forIn ifs true fun c r=>if r=true then do let ok <-isTrue c X.env (eval c X.env);pure (ForInStep.yield ok)else pure (ForInStep.yield r)) (TP X pins σ Q) X.xe s
def tYes:TT:=fun _ H Q=>Q true H
theorem JU:PF X [] tYes:=fun _ _ _ H _ I h=>wpAny_tests_nil ⟨H,I,h⟩
theorem km(b:PT X c t):PF X [c] t:=fun a s d H Q I h=>wpAny_tests_one (b a s d H Q I h)
noncomputable def closL(env:Env):List (Str×NameKind)->List (Str×Addr)->List (Str×Addr)
 | [],acc=>acc
 | (n,k)::r,acc=>closL env r (if k == .free then(n,(env.cells.lookup n).getD 0)::acc else acc)
theorem Q2(h:∀y∈scope.names,y.2 = .free->∃c,env.cells.lookup y.1=some c):closureFor scope env=pure (closL env scope.names []):=by
 have l:∀(names:List (Str×NameKind)) (b:List (Str×Addr)),(∀y∈names,y.2 = .free->∃c,env.cells.lookup y.1=some c)->
   (forIn (m:=Sem) names b fun x r=>(match x with | (name,kind)=>if(kind == .free)=true then do let a <-cellOf env name;pure (ForInStep.yield ((name,a)::r))else pure (ForInStep.yield r)))=pure (closL env names b):=by
  intro names
  induction names with
  | nil=>intro b _;rfl
  | cons y r ih=>
   obtain⟨n,k⟩:=y;intro b d;rw[List.forIn_cons];cases hk:(k==NameKind.free)with
   | true=>
    have e:k = .free:=by simpa using hk
    obtain⟨c,i⟩:=d (n,k) vq e;have j:cellOf env n=pure c:=by unfold cellOf;rw[i]
    simp only[hk,if_true,j,pure_bind,closL,i,Option.getD_some];exact ih _ fun y f=>d y (vp _ f)
   | false=>
    simp only[hk,Bool.false_eq_true,if_false,pure_bind,closL];exact ih _ fun y f=>d y (vp _ f)
 have g:=l scope.names [] h;unfold closureFor;simp only[g,pure_bind]
theorem ZL:∀(names:List (Str×NameKind)) (a:List (Str×Addr)),(∀y∈names,y.2 = .free->∃c,env.cells.lookup y.1=some c)->(∀x c,a.lookup x=some c->env.cells.lookup x=some c)->
  ∀x c,(closL env names a).lookup x=some c->env.cells.lookup x=some c
 | [],_,_,ha,x,c,h=>ha x c h
 | (n,k)::r,a,hh,ha,x,c,h=>by
  refine ZL r _ (fun y f=>hh y (vp _ f)) (fun x c e=>?_) x c h;cases hk:(k==NameKind.free)with
  | false=>rw[hk]at e;exact ha x c e
  | true=>
   rw[hk]at e;have b:k = .free:=by simpa using hk
   obtain⟨g,d⟩:=hh (n,k) vq b;simp only[if_true,d,Option.getD_some]at e;rw[lookup_cons]at e;cases hx:(x==n)with
   | true=>
    rw[hx]at e;have:x=n:=by simpa using hx
    rw[this,d];exact e
   | false=>rw[hx]at e;exact ha x c e
theorem ZK:∀(names:List (Str×NameKind)) (a:List (Str×Addr)) (x:Str),(∃c,a.lookup x=some c)->∃c,(closL env names a).lookup x=some c
 | [],_,_,h=>h
 | (n,k)::r,a,x,h=>by
  refine ZK r _ x ?_;cases hk:(k==NameKind.free)with
  | false=>exact h
  | true=>
   simp only[if_true];rw[lookup_cons];cases hx:(x==n)with
   | true=>exact⟨_,rfl⟩
   | false=>exact h
theorem zm:∀(names:List (Str×NameKind)) (a:List (Str×Addr)) (x:Str),(x,NameKind.free)∈names->∃c,(closL env names a).lookup x=some c
 | [],_,_,h=>by simp at h
 | (n,k)::r,a,x,h=>by
  rcases mem_cons.mp h with e | h
  ·cases e;refine ZK r _ _ ?_;simp
  ·exact zm r _ x h
theorem qg{env:Env}:∀{names:List (Str×NameKind)} {x:Str} {k:NameKind},(names.map fun(n,k)=>if(k==NameKind.free&&env.scope.kind == .function&&env.kindOf n==some .cell)then(n,NameKind.cell)else(n,k)).lookup x=some k->
  ∃b,(x,b)∈names/\names.lookup x=some b/\(b=k\/(b = .free/\k = .cell))
 | [],_,_,h=>by simp at h
 | (n,k₀)::r,x,k,h=>by
  have i:=@qg env r x k;rw[v7]at h;dsimp only at h;cases hx:x==n with
  | true=>
   have e:x=n:=by simpa using hx
   subst e;refine⟨k₀,vq,by simp,?_⟩;by_cases a:(k₀==NameKind.free&&env.scope.kind == .function&&env.kindOf x==some .cell)=true
   ·rw[ve a]at h;simp only[lookup_cons,beq_self_eq_true]at h;simp only[Bool.and_eq_true,beq_iff_eq]at a;exact .inr ⟨a.1.1,(vK h).symm⟩
   ·rw[vd a]at h;simp only[lookup_cons,beq_self_eq_true]at h;exact .inl (vK h)
  | false=>
   have c:(r.map fun(n,k)=>if(k==NameKind.free&&env.scope.kind == .function&&env.kindOf n==some .cell)then(n,NameKind.cell)else(n,k)).lookup x=some k:=by
    by_cases a:(k₀==NameKind.free&&env.scope.kind == .function&&env.kindOf n==some .cell)=true
    ·rw[ve a]at h;simpa only[lookup_cons,hx]using h
    ·rw[vd a]at h;simpa only[lookup_cons,hx]using h
   obtain⟨b,d,f,g⟩:=i c;exact⟨b,vp _ d,by simpa only[lookup_cons,hx]using f,g⟩
theorem zl:∀(names:List (Str×NameKind)) (n:Nat) (a:List (Str×Addr)) (x:Str) (c:Addr),(cellsFrom n names a).lookup x=some c->n<=c\/a.lookup x=some c
 | [],_,_,_,_,h=>.inr h
 | (y,k)::r,n,a,x,c,h=>by
  unfold cellsFrom at h;split at h
  ·rcases zl r (n+1) _ x c h with q | q
   ·exact .inl (by lia)
   ·rw[lookup_cons]at q;cases hx:x==y with
    | true=>rw[hx]at q;cases q;exact .inl (vc _)
    | false=>rw[hx]at q;exact .inr q
  ·exact zl r n a x c h
theorem YU:∀(names:List (Str×NameKind)) (n:Nat) (a:List (Str×Addr)),(∀x c,a.lookup x=some c->c<n)->(∀x y c,a.lookup x=some c->a.lookup y=some c->x=y)->
  ∀x y c,(cellsFrom n names a).lookup x=some c->(cellsFrom n names a).lookup y=some c->x=y
 | [],_,_,_,hi,x,y,c,h1,h2=>hi x y c h1 h2
 | (z,k)::r,n,a,hb,hi,x,y,c,h1,h2=>by
  unfold cellsFrom at h1 h2;split at h1
  ·rename_i hk;rw[ve hk]at h2;refine YU r (n+1) _ (fun x c e=>?_) (fun x y c d b=>?_) x y c h1 h2
   ·rw[lookup_cons]at e;cases hx:x==z with
    | true=>rw[hx]at e;cases e;exact Nat.lt_succ_self _
    | false=>rw[hx]at e;exact Nat.lt_succ_of_lt (hb x c e)
   ·rw[lookup_cons]at d b;cases hx:x==z with
    | true=>
     rw[hx]at d;cases d;cases hy:y==z with
     | true=>rw[beq_iff_eq.mp hx,beq_iff_eq.mp hy]
     | false=>rw[hy]at b;exact uk (hb y n b) (Nat.lt_irrefl _)
    | false=>
     rw[hx]at d;cases hy:y==z with
     | true=>rw[hy]at b;cases b;exact uk (hb x n d) (Nat.lt_irrefl _)
     | false=>rw[hy]at b;exact hi x y c d b
  ·rename_i hk;rw[vd hk]at h2;exact YU r n a hb hi x y c h1 h2
theorem yh:∀(names:List (Str×NameKind)) (n:Nat) (a:List (Str×Addr)) (x:Str),(∃c,a.lookup x=some c)->∃c,(cellsFrom n names a).lookup x=some c
 | [],_,_,_,h=>h
 | (y,k)::r,n,a,x,h=>by
  unfold cellsFrom;split
  ·refine yh r (n+1) _ x ?_;rw[lookup_cons];cases hx:x==y with
   | true=>exact⟨_,rfl⟩
   | false=>exact h
  ·exact yh r n a x h
theorem YT:∀(names:List (Str×NameKind)) (n:Nat) (a:List (Str×Addr)) (x:Str),(x,NameKind.cell)∈names->∃c,(cellsFrom n names a).lookup x=some c
 | [],_,_,_,h=>by simp at h
 | (y,k)::r,n,a,x,h=>by
  unfold cellsFrom;rcases mem_cons.mp h with e | h
  ·cases e;simp only[beq_self_eq_true,if_true];exact yh r _ _ _ (by simp)
  ·split
   ·exact YT r _ _ x h
   ·exact YT r _ _ x h
theorem YW:∀(names:List (Str×NameKind)) (n:Nat) (a:List (Str×Addr)) (x:Str),(x,NameKind.cell)∉names->(cellsFrom n names a).lookup x=a.lookup x
 | [],_,_,_,_=>rfl
 | (y,k)::r,n,a,x,h=>by
  have b:(x,NameKind.cell)∉r:=fun q=>h (vp _ q)
  unfold cellsFrom;split
  ·rename_i hk;rw[YW r _ _ x b,lookup_cons];cases hx:x==y with
   | true=>rw[beq_iff_eq.mp hx,beq_iff_eq.mp hk]at h;exact uk vq h
   | false=>rfl
  ·exact YW r n a x b
theorem YV:∀(names:List (Str×NameKind)) (a n:Nat) (b:List (Str×Addr)) (x:Str) (c:Addr),a<=n->((x,NameKind.cell)∈names\/∀c,b.lookup x=some c->a<=c)->(cellsFrom n names b).lookup x=some c->a<=c
 | [],_,_,_,_,c,_,h,e=>h.elim (fun z=>by simp at z) fun z=>z c e
 | (y,k)::r,a,n,b,x,c,hn,h,e=>by
  unfold cellsFrom at e;split at e
  ·refine YV r a (n+1) _ x c (by lia) ?_ e;rcases h with h | h
   ·rcases mem_cons.mp h with q | q
    ·cases q;exact .inr fun c q=>by rw[lookup_cons,beq_self_eq_true]at q;cases q;exact hn
    ·exact .inl q
   ·refine .inr fun c q=>?_
    rw[lookup_cons]at q;cases hx:x==y with
    | true=>rw[hx]at q;cases q;exact hn
    | false=>rw[hx]at q;exact h c q
  ·rename_i hk;refine YV r a n b x c hn ?_ e;rcases h with h | h
   ·rcases mem_cons.mp h with q | q
    ·cases q;exact uk rfl hk
    ·exact .inl q
   ·exact .inr h
theorem Zc:∀(names:List (Str×NameKind)) (h:Heap) (a:List (Str×Addr)) (x:Str) (c:Addr),(cellsFrom h.objs.size names a).lookup x=some c->a.lookup x=some c\/(pushCells h names).IsCell c none
 | [],_,_,_,_,e=>.inl e
 | (y,k)::r,h,a,x,c,e=>by
  unfold cellsFrom at e;unfold pushCells;split
  ·rename_i hk;rw[ve hk]at e;rw[<-Heap.size_push h {cls:=.type "cell",data:=.cell none}]at e;rcases Zc r _ _ x c e with q | q
   ·rw[lookup_cons]at q;cases hx:x==y with
    | true=>
     rw[hx]at q;cases q;exact .inr ⟨_,pushCells_keeps _ _ _ _ (Heap.get?_push_size _ rfl),rfl⟩
    | false=>rw[hx]at q;exact .inl q
   ·exact .inr q
  ·rename_i hk;rw[vd hk]at e;exact Zc r h a x c e
theorem envC{E:Value->Shared->Prop}{Q:Env->Shared->Prop}
  (h:Q (newEnv scope s.heap.objs.size globals (cellsFrom (s.heap.objs.size+1) scope.names cl) qual none .none (some env) builtinsNs) {s with heap:=pushCells (s.heap.push {cls:=.type "dict",data:=.dict #[]}) scope.names}) :
  wpAny M A (newFunctionEnv scope globals cl [] qual none .none (some env)) Q E s:=by
 simp only[newFunctionEnv,Option.isSome_some,if_true];refine um (wpAny_alloc ?_);refine um (wpAny_layCells _ (fun c a b=>by cases hkc:a==NameKind.cell<;>simp[hkc]) _ _ _ _ ?_);rw[show({s with heap:=s.heap.push {cls:=.type "dict",data:=.dict #[]}}:Shared).heap.objs.size=s.heap.objs.size+1 from Heap.size_push ..];rw[List.forIn_nil];exact um (ul (ul h))
noncomputable def blk(X:Cx)(scope:Scope)(ow:List Str)(ci:List Nat)(C:Addr)(s₀:Shared)(H₀:Hp)(ex:List Addr)(pn:List (Addr×Obj)):Cx:=
 {X with N:=ow++ci.map fun j=>X.N.getD j "",s₀:=s₀,H₀:=H₀,env:=compEnvC scope (cellsFrom (C+1) scope.names (closL X.env scope.names [])) C X.env,outer:=X.stack,stack:=X.stack,ex:=ex,fn:=fun x=>scope.names.lookup x==some .cell,pn:=pn,xe:=fun _ _=>False}
structure CompScope(X:Cx)(scope:Scope)(ow:List Str)(ci:List Nat):Prop where
 kind:scope.kind = .function
 cell:∀y∈scope.names,y.2 = .cell->scope.names.lookup y.1=some .cell
 names:∀y∈scope.names,y.2 = .local->scope.names.lookup y.1=some .local
 free:∀y∈scope.names,y.2 = .free->X.env.kindOf y.1=some .cell\/X.env.kindOf y.1=some .free
 ix:∀j∈ci,j<X.N.length/\scope.names.lookup (X.N.getD j "")=some .free
noncomputable def compOk(fsc:Scope)(N:List Str)(scope:Scope)(ci:List Nat):Bool:=
 scope.kind == .function&&scope.names.all (fun y=>y.2 != .cell||scope.names.lookup y.1==some .cell)&&scope.names.all (fun y=>y.2 != .local||scope.names.lookup y.1==some .local) &&
 scope.names.all (fun y=>y.2 != .free||fsc.names.lookup y.1==some .cell||fsc.names.lookup y.1==some .free)&&ci.all (fun j=>decide (j<N.length)&&scope.names.lookup (N.getD j "")==some .free)
theorem CompScope.of(a:Scope)(N:List Str)(c:X.env.scope=a)(d:X.N=N)(h:compOk a N scope ci=true):CompScope X scope ow ci:=by
 subst c d;unfold compOk at h;simp only[Bool.and_eq_true,List.all_eq_true,Bool.or_eq_true,bne_iff_ne,ne_eq,beq_iff_eq,decide_eq_true_eq]at h;obtain⟨⟨⟨⟨f,g⟩,i⟩,k⟩,l⟩:=h;refine⟨f,fun y b e=>(g y b).resolve_left fun z=>z e,fun y b e=>?_,fun y b e=>?_,fun j m=>l j m⟩
 ·rcases i y b with z | z
  ·exact uk e z
  ·exact z
 ·rcases k y b with(z | z) | z
  ·exact uk e z
  ·exact .inl z
  ·exact .inr z
theorem jU{a:Hp}(N:List Str)(e:X.N=N)(h:(ow++ci.map fun j=>N.getD j "").Nodup):(blk X scope ow ci C s₀ a ex pn).N.Nodup:=by
 subst e;exact h
noncomputable def capAt(σ:St)(j:Nat):Option V:=match σ[j]? with | some o=>o | none=>none
noncomputable def capS(n:Nat)(ci:List Nat)(σ:St):St:=List.replicate n none++ci.map (capAt σ)
def tComp(wi:TI)(n:Nat)(ci:List Nat)(g:TG)(tf:TT)(te:TE):TE:=fun σ H Q=>wi σ H fun J H1=>∃W:Nat->Nat->List V->Hp->Prop,(∃m,W 0 m [] H1)/\∀i m ys H,W i m ys H->
 (J.stop i H/\ys.length<=sizeLine/\∀p,H p=none->Q (.ref p) (upd H p (.lst ys)))\/
 (J.go i H/\∃N:List V->Hp->Prop,(∀ys' H',N ys' H'->∃m',m'<m/\W (i+1) m' ys' H')/\∀x H',J.yld i H x H'->g x (capS n ci σ) H' fun σ2 H2=>tf σ2 H2 fun b H3=>
  if b=true then te σ2 H3 fun v H4=>ys.length<sizeLine/\N (ys++[v]) H4 else N ys H3)
section
variable{X:Cx}{pins:List (Addr×Obj)}{σ:St}{H:Hp}{s:Shared}{elt iter tg:Expr}{ifs:List Expr}{scope:Scope}{pos:Pos}{ow:List Str}{ci:List Nat}{g:TG}{tf:TT}{te:TE}
theorem CompScope.cells(S:CompScope X scope ow ci)(b:X.Ok):∀y∈scope.names,y.2 = .free->∃c,X.env.cells.lookup y.1=some c:=fun y a e=>b.has y.1 (S.free y a e)
theorem CompScope.sub(S:CompScope X scope ow ci)(a:X.Ok):∀x c,(closL X.env scope.names []).lookup x=some c->X.env.cells.lookup x=some c:=
 ZL scope.names [] (S.cells a) fun _ _ e=>by simp at e
theorem CompScope.cel(S:CompScope X scope ow ci)(a:X.Ok)(h:(cellsFrom (C+1) scope.names (closL X.env scope.names [])).lookup x=some c):C+1<=c\/X.env.cells.lookup x=some c:=
 (zl _ _ _ _ _ h).imp id (S.sub a x c)
theorem xG(S:CompScope X scope ow ci)(I:Inv X pins σ H s)(f:s.heap.objs.size<=C)
  (a:∀b∈ex,b<s.heap.objs.size/\FpOk X pins H b):(blk X scope ow ci C s H ex pn).Ok where
 mod:=I.ok.mod
 kind:=S.kind
 glob:=I.ok.glob
 blt:=I.ok.blt
 above:=f
 inj:=YU scope.names (C+1) _ (fun x c e=>by
   obtain⟨v,q⟩:=I.cell x c (S.sub I.ok x c e);exact Nat.lt_succ_of_le (vW (Nat.lt_of_lt_of_le q.lt f))) fun x y c i j=>I.ok.inj x y c (S.sub I.ok x c i) (S.sub I.ok y c j)
 has:=fun x h=>by
  have n:∃k,(relabel scope X.env).names.lookup x=some k/\(k = .cell\/k = .free):=by
   rcases h with h | h
   ·exact⟨_,h,.inl rfl⟩
   ·exact⟨_,h,.inr rfl⟩
  obtain⟨k,t,r⟩:=n;obtain⟨m,l,_,e⟩:=qg (env:=X.env) t;have g:m = .cell\/m = .free:=by
   rcases e with e | ⟨e,_⟩
   ·subst e;exact r
   ·exact .inr e
  rcases g with g | g
  ·subst g;exact YT scope.names _ _ x l
  ·subst g;exact yh scope.names _ _ x (zm scope.names [] x l)
 cab:=fun x c h e=>vU (vU f (Nat.le_succ _)) (YV scope.names (C+1) (C+1) _ x c (vc _) (.inl (PySem.mem_of_lookup (beq_iff_eq.mp h))) e)
 hd:=I.ok.hd
 frames:=I.ok.frames
 stk:=.inl rfl
 exf:=fun b d=>⟨vD (Nat.lt_of_lt_of_le (a b d).1 f),fun x c e=>(S.cel I.ok e).elim (fun q z=>Nat.lt_irrefl _ (Nat.lt_of_lt_of_le (z▸(a b d).1) (vU f (vU (Nat.le_succ _) q)))) fun q=>(a b d).2.2.2.2.2.1 x c q⟩
 bs:=I.bs
 bsz:=vU I.ok.bsz I.sz
 noex:=fun b o e d=>by
  obtain⟨_,_,_,p,_⟩:=(a b d).2;rcases p with z | z
  ·exact I.ok.noex b o e z
  ·exact uk (Nat.lt_of_lt_of_le (vH e) (vU I.ok.bsz z)) (Nat.lt_irrefl _)
 exfs:=fun b d z=>by
  obtain⟨_,i,j,_⟩:=(a b d).2;rcases mem_cons.mp (I.stkSub b z)with e | e
  ·exact i e
  ·exact j e
 funs:=I.stack
 frf:=I.stkFree
theorem Kr(S:CompScope X scope ow ci)(I:Inv X pins σ H s){h:Str->Option Value}(D:s.heap.objs.size<=C)
  (F:∀b∈ex,b<s.heap.objs.size/\FpOk X pins H b) (Z:h₁.Ns C h) (k:∀b o,s.heap.get? b=some o->h₁.get? b=some o)
  (A:∀x c,(cellsFrom (C+1) scope.names (closL X.env scope.names [])).lookup x=some c->(closL X.env scope.names []).lookup x=some c\/h₁.IsCell c none) :
  Inv (blk X scope ow ci C s H ex (X.pn++pins)) [] (capS ow.length ci σ) H {s with heap:=h₁,toks:=t₁}:=by
 have ok:=xG (pn:=X.pn++pins) S I D F;refine⟨ok,rfl,I.bare,Un.kept k,⟨h,Z,fun i x v Q f R=>?_⟩,fun x c e=>?_,I.hok.fresh D,fun x c e=>(S.cel I.ok e).elim (fun q=>I.hok.fresh (vU D (vU (Nat.le_succ _) q))) (I.freeC x c),fun p hp=>?_,I.hok.kept k,?_⟩
 ·have l:(ow++ci.map fun j=>X.N.getD j "")[i]?=some x:=Q;unfold capS at f;by_cases G:i<ow.length
  ·rw[vA (by simpa using G),List.getElem?_replicate,ve G]at f;cases f
  ·rw[vB (by simpa using G),vv,List.length_replicate]at f;rw[vB (by lia),vv]at l;cases hj:ci[i-ow.length]? with
   | none=>rw[hj]at f;cases f
   | some j=>
    rw[hj]at l f;obtain⟨Y,E⟩:=S.ix j (vm hj);have w:X.N.getD j ""= x:=vK l;have T:X.N[j]?=some x:=by
     rw[<-w,vy,vz Y];rfl
    have U:σ[j]?=some (some v):=by
     have a:capAt σ j=some v:=vK f;unfold capAt at a;cases q:σ[j]? with
     | none=>rw[q]at a;cases a
     | some o=>rw[q]at a;rw[show o=some v from a]
    rw[w]at E;have g:(x,NameKind.free)∈scope.names:=PySem.mem_of_lookup E;have N:=S.free _ g rfl;obtain⟨m,_,J⟩:=I.loc;have L:Vis X.env.scope x:=by
     rcases N with q | q
     ·exact .inr (.inl q)
     ·exact .inr (.inr q)
    obtain⟨u,r,lk⟩:=J j x v T U L;refine⟨u,r,.inr ⟨?_,?_⟩⟩
    ·rcases R with q | q | q
     ·obtain⟨k',_,M,B⟩:=qg (env:=X.env) q;rw[E]at M;cases M;rcases B with B | ⟨_,B⟩<;>cases B
     ·exact .inl q
     ·exact .inr q
    ·rcases lk with⟨q,_⟩ | ⟨_,c,W,t⟩
     ·have O:X.env.kindOf x=some .local:=q;rcases N with z | z<;>(rw[z]at O;cases O)
     ·obtain⟨P,y⟩:=zm (env:=X.env) scope.names [] x g;have e:=S.sub I.ok x P y;rw[W]at e;cases e;refine⟨c,?_,t.keeps k⟩;show(cellsFrom (C+1) scope.names (closL X.env scope.names [])).lookup x=some c;rw[YW scope.names _ _ x fun z=>?_]
      ·exact y
      ·have:=S.cell _ z rfl;rw[E]at this;cases this
 ·rcases A x c e with q | q
  ·obtain⟨v,q⟩:=I.cell x c (S.sub I.ok x c q);exact⟨v,q.keeps k⟩
  ·exact⟨_,q⟩
 ·have K:p∈X.pn++pins:=by
   rcases vi.mp hp with z | z
   ·exact z
   ·cases z
  obtain⟨e,n,ne,nf,d⟩:=I.pin p K;refine⟨k _ _ e,n,vD (Nat.lt_of_lt_of_le (vH e) D),fun z=>?_,d⟩;rcases mem_cons.mp (I.stkSub p.1 z)with q | q
  ·exact ne q
  ·exact nf q
 ·show(capS ow.length ci σ).length=(ow++ci.map fun j=>X.N.getD j "").length;simp[capS]
theorem Inv.forget{σ':St}(I:Inv X pins σ' H s)(n:Nat)(ci:List Nat)(a:St)(c:(capS n ci a).length=X.N.length)(h:∀i v,n<=i->(capS n ci a)[i]?=some (some v)->σ'[i]?=some (some v)):Inv X pins (capS n ci a) H s:=
 I.weak (by rw[c,I.len]) fun i v e=>by
  by_cases b:n<=i
  ·exact h i v b e
  ·unfold capS at e;rw[vA (by simpa using b),List.getElem?_replicate,ve (by lia)]at e;cases e
def GKeeps(n:Nat)(g:TG):Prop:=∀x σ H (Q:St->Hp->Prop),g x σ H Q->g x σ H fun σ2 H2=>(∀(i:Nat) v,n<=i->σ[i]?=some (some v)->σ2[i]?=some (some v))/\Q σ2 H2
theorem JO(h:i<n):GKeeps n (gName i):=fun x b H Q q=>⟨fun j v a e=>by rw[List.getElem?_set_ne (by lia)];exact e,q⟩
theorem zR{K:Frg}{n i j:Nat}(hi:i<n)(p:j<n):GKeeps n (gTup K 2 (gCons (gName i) (gCons (gName j) gNil))):=fun x t H Q q=>by
 obtain⟨a,o,b,c,d,v,r,f,m,l,g,h,q⟩:=q;refine⟨a,o,b,c,d,v,r,f,m,l,g,h,fun k u s e=>?_,q⟩;rw[List.getElem?_set_ne (by lia),List.getElem?_set_ne (by lia)];exact e
theorem Zd{E:Value->Shared->Prop}{tn:Nat->Heap->Prop}{RR:Value->Addr->Result->Shared->Prop}(hc:X.calm=true)(S:CompScope X scope ow ci)(hk:GKeeps ow.length g)
  (a:∀C F y ex pn,PG (blk X scope ow ci C F y ex pn) tg g/\PF (blk X scope ow ci C F y ex pn) ifs tf/\PE (blk X scope ow ci C F y ex pn) elt te)
  (I:Inv X pins σ H s) (T:Turn X.prog X.w X.K tg J fp it tn) (st:tn 0 s.heap) (hf:∀b∈fp,FpOk X pins H b) (Z:List V->Hp->Prop)
  (W:Nat->Nat->List V->Hp->Prop) (w0:∃m,W 0 m [] H)
  (aP:∀i m ys H,W i m ys H->(J.stop i H/\ys.length<=sizeLine/\Z ys H)\/
   (J.go i H/\∃N:List V->Hp->Prop,(∀aQ H',N aQ H'->∃m',m'<m/\W (i+1) m' aQ H')/\∀x H',J.yld i H x H'->g x (capS ow.length ci σ) H' fun aR H2=>tf aR H2 fun b H3=>
    if b=true then te aR H3 fun v H4=>ys.length<sizeLine/\N (ys++[v]) H4 else N ys H3))
  (aY:∀D C s' H' m ys,Inv X pins σ (upd H' D (.lst ys)) s'->H' D=none->Z ys H'->s'.heap.Ns C m->s.heap.objs.size<=C->C≠D->H' C=none->RR (.ref D) C (.ok .next) s') :
  wpAny (model X.prog X.w) X.A (newList []) (fun an aN=>wpAny (model X.prog X.w) X.A (newFunctionEnv scope X.env.globals (closL X.env scope.names []) [] X.env.qual none .none (some X.env)) (fun a6 aO=>
   codeAny (model X.prog X.w) X.A (.compStart (.ListComp elt [⟨tg,iter,ifs,0⟩] scope pos) 0 (.ref it) an {a6 with scope:=relabel scope X.env}) (RR an a6.locals) aO) E aN) E s:=by
 refine wpAny_newObj_type (envC ?_);dsimp only;generalize O:({s with heap:=s.heap.push {cls:=.type "list",dict:=none,data:=.seq ([]:List Value).toArray}}:Shared)=s3;have e3:s3.heap=s.heap.push {cls:=.type "list",dict:=none,data:=.seq ([]:List Value).toArray}:=by rw[<-O]
 rw[<-e3];generalize ad:pushCells (s3.heap.push {cls:=.type "dict",data:=.dict #[]}) scope.names=h₁;have k3:∀b o,s.heap.get? b=some o->s3.heap.get? b=some o:=fun b o e=>by rw[e3];exact vI _ e
 have hsz:s3.heap.objs.size=s.heap.objs.size+1:=by rw[e3,Heap.size_push]
 have I3:Inv X pins σ H s3:=by rw[<-O];exact I.kept (t':=s.toks) fun b o e=>vI _ e
 have b4:s3.heap.get? s.heap.objs.size=some {cls:=.type "list",dict:=none,data:=.seq ([]:List Value).toArray}:=by rw[e3];exact Heap.get?_push_size _ rfl
 generalize ac:s.heap.objs.size=D at *;generalize l:s3.heap.objs.size=C at *;have A:D<C:=by lia
 have ar:H D=none:=I.hok.fresh (Nat.le_of_eq ac);have aZ:FpOk X pins H D:=I.fpOk (Nat.le_of_eq ac) ar;have ae:∀(b:Addr) o,s.heap.get? b=some o->b<D:=fun b o e=>by rw[<-ac];exact vH e
 have bd:∀(b:Addr) o,s3.heap.get? b=some o->b<C:=fun b o e=>by rw[<-l];exact vH e
 have a8:∀b∈fp,b<D:=fun b a=>by
  obtain⟨o,e,_⟩:=T.obj 0 _ st b a;exact ae b o e
 have G:∀b∈D::fp,b<s3.heap.objs.size/\FpOk X pins H b:=fun b a=>by
  rw[l];rcases mem_cons.mp a with rfl | a
  ·exact⟨A,aZ⟩
  ·exact⟨vX (a8 b a) A,hf b a⟩
 have kk:∀b o,s3.heap.get? b=some o->h₁.get? b=some o:=fun b o e=>by rw[<-ad];exact pushCells_keeps _ _ b o (vI _ e)
 have M:h₁.Ns C fun _=>none:=by rw[<-ad,<-l];exact(Heap.Ns.new s3.heap (.type "dict")).keeps (pushCells_keeps _ _)
 have ay:∀x c,(cellsFrom (C+1) scope.names (closL X.env scope.names [])).lookup x=some c->(closL X.env scope.names []).lookup x=some c\/h₁.IsCell c none:=fun x c e=>by
  rw[<-ad];refine Zc scope.names _ _ x c ?_;rw[Heap.size_push,l];exact e
 obtain⟨hg,av,he⟩:=a C s3 H (D::fp) (X.pn++pins);generalize w:blk X scope ow ci C s3 H (D::fp) (X.pn++pins)=Y at hg av he;have f:Y.prog=X.prog:=by rw[<-w];rfl
 have Yw:Y.w=X.w:=by rw[<-w];rfl
 have YK:Y.K=X.K:=by rw[<-w];rfl
 have YA:Y.A=X.A:=by rw[<-w];rfl
 have Yc:Y.calm=true:=by rw[<-w];exact hc
 have h:Y.env=compEnvC scope (cellsFrom (C+1) scope.names (closL X.env scope.names [])) C X.env:=by rw[<-w];rfl
 have aa:Y.xe=fun _ _=>False:=by rw[<-w];rfl
 have am:Y.fs=frs X.stack:=by rw[<-w];rfl
 have al:Y.ex=D::fp:=by rw[<-w];rfl
 have aW:Y.pn=X.pn++pins:=by rw[<-w];rfl
 have Ys:Y.s₀=s3:=by rw[<-w];rfl
 have YH:Y.H₀=H:=by rw[<-w];rfl
 have YN:(capS ow.length ci σ).length=Y.N.length:=by rw[<-w];show(capS ow.length ci σ).length=(ow++ci.map fun j=>X.N.getD j "").length;simp[capS]
 have af:∀b∈D::fp,b≠Y.env.locals/\b∉Y.fs/\b∈Y.ex/\(∀x c,Y.env.cells.lookup x=some c->c≠b)/\∀p∈Y.pn,p.1≠b:=fun b a=>by
  obtain⟨h0,h1,h2,h3,h4,h5⟩:=(G b a).2;refine⟨by rw[h];exact vD (l▸(G b a).1),fun z=>?_,by rw[al];exact a,fun x c e=>?_,by rw[aW];exact h5⟩
  ·rw[am]at z;rcases mem_cons.mp (I.stkSub b z)with q | q
   ·exact h1 q
   ·exact h2 q
  ·rw[h]at e;rcases S.cel I.ok e with q | q
   ·exact fun z=>Nat.lt_irrefl _ (Nat.lt_of_lt_of_le (l▸(G b a).1) (vU (Nat.le_succ _) (z▸q)))
   ·exact h4 x c q
 have aE:D∉fp:=fun z=>Nat.lt_irrefl _ (a8 D z)
 have aC:∀s4:Shared,Inv Y [] (capS ow.length ci σ) H s4->tn 0 s4.heap->s4.heap.PlainList D #[]->
   codeAny (model X.prog X.w) X.A (.compLoop (.ListComp elt [⟨tg,iter,ifs,0⟩] scope pos) 0 (.ref it) (.ref D) (compEnvC scope (cellsFrom (C+1) scope.names (closL X.env scope.names [])) C X.env)) (RR (.ref D) C) s4:=by
  intro s4 J4 Q ag;obtain⟨m0,w0⟩:=w0;refine compLoopT (fun n s'=>∃i ys k H',Inv Y [] (capS ow.length ci σ) H' s'/\tn i s'.heap/\(∀b∈fp,H' b=none)/\H' D=none/\s'.heap.PlainList D k/\Vals ys k.toList/\W i n ys H') ?_ m0
   ⟨0,[],#[],H,J4,Q,fun b a=>(hf b a).1,ar,ag,.nil,w0⟩
  rintro n s5 ⟨i,ys,k,U,J5,aK,ap,t,⟨aH,b9⟩,R,w5⟩;have vl:ys.length=k.size:=by have:=R.length;simpa using this
  have aF:∀{H':Hp} {s':Shared} {ai:St},Inv Y [] ai H' s'->H' D=none->∀{o:Obj},s'.heap.get? D=some o->(∀v,o.data≠.cell v)->Inv Y [(D,o)] ai H' s':=fun {H' s' ai} K hD o e d=>
   K.pins_of fun p hp=>by
    have ep:p=(D,o):=by simpa using hp
    subst ep;obtain⟨a1,a2,_⟩:=af D vq;exact⟨e,hD,a1,a2,d⟩
  have P5:=aF J5 t b9 (fun v z=>by cases z);have ab:∀{H':Hp},(∀b∈fp,H' b=none)->∀{o:Obj},∀b∈fp,FpOk Y [(D,o)] H' b:=fun {H'} hn {o} b a=>by
   obtain⟨a1,a2,a3,a4,a5⟩:=af b (vp _ a);refine⟨hn b a,a1,a2,.inl a3,a4,fun p hp=>?_⟩;rcases vi.mp hp with q | q
   ·exact a5 p q
   ·have ep:p=(D,o):=by simpa using q
    subst ep;exact fun z=>aE (by have z':D=b:=z;rw[z'];exact a)
  rcases aP i n ys U w5 with⟨aM,aB,z5⟩ | ⟨go,NN,as,aL⟩
  ·have d:=T.done Y f Yw YK Yc i [(D,_)] s5 _ U (fun _ _=>False) P5 (ab ap) aK aM;rw[YA]at d;refine thn d fun r s6 ⟨hr,J6⟩=>?_
   subst hr;have D6:=(J6.pin (D,_) (mem_append_right _ vq)).1;obtain⟨mC,aw,_⟩:=J6.loc;rw[h]at aw;have ax:s6.heap.Ns C mC:=aw;have b3:U C=none:=by have:=J6.free;rw[h]at this;exact this
   refine aY D C s6 U mC ys ?_ t z5 ax (vW A) (Nat.ne_of_gt A) b3;have B:=J6.base;rw[am,al,YH,Ys]at B;have aD:∀b o,s.heap.get? b=some o->b≠D/\b≠C:=fun b o e=>⟨vD (ae b o e),vD (vX (ae b o e) A)⟩
   have P:∀b o,s.heap.get? b=some o->b∉fp->b∉D::fp:=fun b o e a z=>by
    rcases mem_cons.mp z with q | q
    ·exact(aD b o e).1 q
    ·exact a q
   have uN:Un (frs X.stack) fp H (upd U D (.lst ys)) s.heap s6.heap:=by
    refine⟨fun b o e n a hx=>B.keep b o (k3 b o e) n a (P b o e hx),fun b o e n a hx=>B.slot b o (k3 b o e) n a (P b o e hx),fun b o e n hx=>?_,fun b o e hx=>B.there b o (k3 b o e) (P b o e hx),fun b xs q=>?_,fun b o u q=>?_,fun b ps q=>?_⟩
    ·rw[jf (aD b o e).1];exact B.free b o (k3 b o e) n (P b o e hx)
    ·rw[jf (je (B.tups b xs q) t)];exact B.tups b xs q
    ·rw[jf (je (B.frzs b o u q) t)];exact B.frzs b o u q
    ·obtain⟨mo,q'⟩:=B.tbls b ps q;exact⟨mo,by rw[jf (je q' t)];exact q'⟩
   have az:HOk X.prog X.w U s6.heap:=by rw[<-f,<-Yw];exact J6.hok
   have aA:HOk X.prog X.w (upd U D (.lst ys)) s6.heap:=fun b u e=>by
    by_cases au:b=D
    ·subst au;rw[jt]at e;cases e;exact⟨aB,k.toList,_,R,by simpa using D6⟩
    ·rw[jf au]at e;exact(az b u e).stay (fun c v _ q=>q) (fun c q=>by rw[jf (je q t)];exact q) fun c xs q=>by rw[jf (je q t)];exact q
   refine I.call' (by rw[J6.os,Ys,<-O]) uN aA J6.bare fun b a=>?_
   obtain⟨h0,h1,h2,h3,h4,h5⟩:=hf b a;exact⟨h3,h1,h4,h5⟩
  ·have d:=T.item Y f Yw YK Yc i [(D,_)] s5 _ U (fun _ _=>False) P5 (ab ap) aK go;rw[YA]at d;refine thn d fun r s6 ⟨u,hr,h6⟩=>?_
   subst hr;refine thn h6 fun _ s7 ⟨x,H7,J7,r7,y7,ah,b0⟩=>?_
   have aT:=J7.pinned (ab b0) (T.obj _ _ ah);have h8:=hg _ s7 _ H7 x u _ aT r7 (hk _ _ _ _ (aL x H7 y7));rw[f,Yw,YA,h,aa]at h8;refine thn h8 fun _ s8 ⟨aj,H8,J8,b7,q8⟩=>?_
   have h9:=av _ s8 aj H8 _ J8 q8;rw[f,Yw,YA,h,aa]at h9;refine thn h9 fun b s9 ⟨H9,J9,q9⟩=>?_
   have a0:∀{H':Hp} {s':Shared},Inv Y ([(D,({cls:=.type "list",data:=.seq k aH}:Obj))]++pinsAt fp s7.heap) aj H' s'->Inv Y [] (capS ow.length ci σ) H' s'/\tn (i+1) s'.heap/\(∀b∈fp,H' b=none)/\H' D=none/\s'.heap.get? D=some {cls:=.type "list",data:=.seq k aH}:=fun {H' s'} K=>by
    have pD:=K.pin (D,_) (mem_append_right _ (mem_append_left _ vq));refine⟨(K.pins_of (pins':=[]) (by simp)).forget _ _ _ YN (fun j v hj e=>b7 j v hj e),T.keep _ _ _ ah fun b a o e=>(K.pin (b,o) (mem_append_right _ (mem_append_right _ (qZ a e)))).1,fun b a=>?_,pD.2.1,pD.1⟩;obtain⟨o,e,_⟩:=T.obj _ _ ah b a;exact(K.pin (b,o) (mem_append_right _ (mem_append_right _ (qZ a e)))).2.1
   cases b with
   | false=>
    rw[vd vE]at q9|-;obtain⟨m',hm,w9⟩:=as _ _ q9;obtain⟨K9,bb,b1,b5,e9⟩:=a0 J9;exact⟨m',hm,i+1,ys,k,H9,K9,bb,b1,b5,⟨_,e9⟩,R,w9⟩
   | true=>
    rw[ve rfl]at q9|-;have aq:=he _ s9 aj H9 _ J9 q9;rw[f,Yw,YA,h,aa]at aq;refine thn aq fun z aI ⟨v,ak,aS,ba,b6,b8⟩=>?_
    obtain⟨m',hm,bc⟩:=as _ _ b8;obtain⟨aU,aJ,ao,a7,aX⟩:=a0 aS;refine wpAny_list_append_plain (hsz:=by rw[<-vl];exact vW b6) ⟨_,aX⟩ fun b2 aG a9=>?_
    obtain⟨a1,a2,a3,a4,a5⟩:=af D vq;have aV:Inv Y [] (capS ow.length ci σ) ak {aI with heap:=b2}:=aU.turned (t':=aI.toks) (fun b o a e=>(a9.2 b a).trans e) a7 a1 (.inl a3) a4 (fun p hp=>a5 p (by simpa using hp));refine⟨m',hm,i+1,ys++[v],k.push z,ak,aV,T.keep _ _ _ aJ fun b a o e=>(a9.2 b (fun q=>aE (q▸a))).trans e,ao,a7,aG,?_,bc⟩;rw[Array.toList_push];exact R.append (.cons ba .nil)
 have J4:Inv Y [] (capS ow.length ci σ) H {s3 with heap:=h₁}:=by
  rw[<-w];exact Kr (t₁:=s3.toks) S I3 (Nat.le_of_eq l) G M kk ay
 have Q:tn 0 h₁:=T.keep _ _ _ st fun b _ o e=>kk b o (k3 b o e)
 have ag:h₁.PlainList D #[]:=⟨_,kk _ _ b4⟩
 have L:=aC _ J4 Q ag;subst O;exact codeAny_compStart_list L (T.self _ 0 _ _ _ Q L)
variable{wi:TI}
theorem Jt(P:X.calm=true)(S:CompScope X scope ow ci)(R:GKeeps ow.length g)(hi:PI X tg iter wi)
  (n:∀C c a ex pn,PG (blk X scope ow ci C c a ex pn) tg g/\PF (blk X scope ow ci C c a ex pn) ifs tf/\PE (blk X scope ow ci C c a ex pn) elt te)
  (hs:∀x,foldedSetIterable iter X.env x=pure x:=by intro _;rfl):PE X (.ListComp elt [⟨tg,iter,ifs,0⟩] scope pos) (tComp wi ow.length ci g tf te):=by
 intro d s u H Q I h;rw[eval_ListComp];refine wpAny_comprehension_free (use:=none) rfl hs (Q2 (S.cells I.ok)) S.kind S.names (thn (hi d s u H _ I h) fun v s1 L=>thn L fun Y s2 M=>?_);obtain⟨it,fp,tn,J,H2,e,t,T,r,A,W,w0,f⟩:=M;subst e;refine Zd (RR:=fun j C=>compPost (model X.prog X.w) X.A X.xe none (EP X d u Q) j C) P S R n t T r A (fun i H=>∀p,H p=none->Q (.ref p) (upd H p (.lst i))) W w0 f fun D C Z H' m i K O z U N l k=>?_
 refine⟨m,U,fun h' q=>⟨.ref D,upd H' D (.lst i),?_,rfl,z D O⟩⟩;obtain⟨w,y,B,E,F,G⟩:=t.fpOk (H':=upd H' D (.lst i)) N (by rw[jf l];exact k);exact K.turned (t':=Z.toks) (fun b o n e=>(q.2 b n).trans e) w y E F G
theorem yH(hc:X.calm=true)(S:CompScope X scope ow ci)(hk:GKeeps ow.length g)(hN:X.N.Nodup)(A:X.N[i]?=some x)(hx:Loc X.env.scope x)(hi:PI X tg iter wi)
  (t:∀C f c ex pn,PG (blk X scope ow ci C f c ex pn) tg g/\PF (blk X scope ow ci C f c ex pn) ifs tf/\PE (blk X scope ow ci C f c ex pn) elt te)
  (y:swapsWith (.ListComp elt [⟨tg,iter,ifs,0⟩] scope pos) (some (.Name x px)) spos.line X.env=pure true:=by rfl)
  (hf:X.fn x=true\/X.env.scope.names.lookup x=some .local:=by first | exact .inl rfl | exact .inr rfl | assumption)
  (hs:∀x,foldedSetIterable iter X.env x=pure x:=by intro _;rfl):PS X (.Assign [.Name x px] (.ListComp elt [⟨tg,iter,ifs,0⟩] scope pos) spos) (tAsg (tComp wi ow.length ci g tf te) (gName i)):=by
 intro d s M H D I h;rw[exec_Assign_Name_used _ _ _ _ y];refine um (wpAny_standAt (um ?_));show wpAny _ X.A (do let _ <-comprehension (.ListComp elt [⟨tg,iter,ifs,0⟩] scope pos) scope X.env _ (newList []) false (eval iter X.env) (some (assign (.Name x px) X.env))) _ _ s;refine um (wpAny_mono (wpAny_comprehension_free (use:=some (assign (.Name x px) X.env)) (Q:=fun _ j=>SP X d D .next j) rfl hs (Q2 (S.cells I.ok)) S.kind S.names
  (thn (hi d s M H _ I h) fun v s1 h1=>thn h1 fun a0 s2 h2=>?_)) (fun _ j hq=>ul (ul hq)) fun _ _ e=>e)
 obtain⟨it,fp,tn,J,H2,e,F,T,B,R,W,w0,k⟩:=h2;subst e;refine Zd (RR:=fun l C=>compPost (model X.prog X.w) X.A X.xe (some (assign (.Name x px) X.env)) (fun _ j=>SP X d D .next j) l C) hc S hk t F T B R
  (fun E H=>∀p,H p=none->gName i (.ref p) M (upd H p (.lst E)) D.nx) W w0 k fun P C j H' m E K hD z hn hC r n=>?_
 obtain⟨O,G,U,Y,L,Z⟩:=F.fpOk (H':=upd H' P (.lst E)) hC (by rw[jf r];exact n);show wpAny _ X.A (assign (.Name x px) X.env (.ref P)) _ _ j;refine wpAny_assign_Name (Z4 K hN A hx (v:=.ref P) rfl (fun s3 N ⟨a,w,ha⟩=>⟨m,hn.sameBut w ?_,fun h' u=>?_⟩) hf)
 ·rcases ha with q | q
  ·rw[q];exact G
  ·exact fun z=>L x a q z.symm
 ·exact⟨_,_,N.turned (t':=s3.toks) (fun b o t e=>(u.2 b t).trans e) O G Y L Z,z P hD⟩
theorem YX{lo:Int}{n k:Nat}{ci:List Nat}{g:TG}{q:TT}{o:TE}{r:St}{H:Hp}{Z:Addr->List V->Hp->Prop}(c:Nat->List V->Hp->Prop)(s:c 0 [] H)
  (hs:∀i ys H,i<n->c i ys H->g (.int (lo+i)) (capS k ci r) H fun a H2=>q a H2 fun b h=>if b=true then o a h fun v j=>ys.length<sizeLine/\c (i+1) (ys++[v]) j else c (i+1) ys h)
  (t:∀ys H,c n ys H->ys.length<=sizeLine/\∀p,H p=none->Z p ys H) :
  ∃W:Nat->Nat->List V->Hp->Prop,(∃m,W 0 m [] H)/\∀i m ys H,W i m ys H->
   ((Itr lo n).stop i H/\ys.length<=sizeLine/\∀p,H p=none->Z p ys H)\/
   ((Itr lo n).go i H/\∃N:List V->Hp->Prop,(∀f H',N f H'->∃l,l<m/\W (i+1) l f H')/\∀x H',(Itr lo n).yld i H x H'->g x (capS k ci r) H' fun a H2=>q a H2 fun b h=>
    if b=true then o a h fun v j=>ys.length<sizeLine/\N (ys++[v]) j else N ys h):=by
 refine⟨fun i m ys H=>m=n-i/\i<=n/\c i ys H,⟨n,by simp,vb _,s⟩,?_⟩;rintro i m ys H ⟨rfl,w,p⟩;by_cases d:i<n
 ·refine .inr ⟨d,c (i+1),fun f H' u=>⟨n-(i+1),by lia,rfl,d,u⟩,fun x H' y=>?_⟩;obtain⟨e,y⟩:=y;subst e y;exact hs i ys _ d p
 ·have e:i=n:=by lia
  subst e;exact .inl ⟨vc _,t ys H p⟩
theorem Je{K:Frg}{a:Addr}{xs:List V}{k:Nat}{ci:List Nat}{g:TG}{r:TT}{o:TE}{s:St}{H:Hp}{Z:Addr->List V->Hp->Prop}(d:Nat->List V->Hp->Prop)(t:d 0 [] H)(z:∀i ys H,i<=xs.length->d i ys H->SqL K H a xs)
  (hs:∀i x ys H,xs[i]?=some x->d i ys H->g x (capS k ci s) H fun c H2=>r c H2 fun b h=>if b=true then o c h fun v l=>ys.length<sizeLine/\d (i+1) (ys++[v]) l else d (i+1) ys h)
  (u:∀ys H,d xs.length ys H->ys.length<=sizeLine/\∀p,H p=none->Z p ys H) :
  ∃W:Nat->Nat->List V->Hp->Prop,(∃m,W 0 m [] H)/\∀i m ys H,W i m ys H->
   ((Itl K a).stop i H/\ys.length<=sizeLine/\∀p,H p=none->Z p ys H)\/
   ((Itl K a).go i H/\∃N:List V->Hp->Prop,(∀f H',N f H'->∃n,n<m/\W (i+1) n f H')/\∀x H',(Itl K a).yld i H x H'->g x (capS k ci s) H' fun c H2=>r c H2 fun b h=>
    if b=true then o c h fun v l=>ys.length<sizeLine/\N (ys++[v]) l else N ys h):=by
 refine⟨fun i m ys H=>m=xs.length-i/\i<=xs.length/\d i ys H,⟨xs.length,by simp,vb _,t⟩,?_⟩;rintro i m ys H ⟨rfl,w,p⟩;have q:=z i ys H w p;by_cases j:i<xs.length
 ·refine .inr ⟨⟨xs,xs[i],q,by simp[j]⟩,d (i+1),fun f H' A=>⟨xs.length-(i+1),by lia,rfl,j,A⟩,fun x H' y=>?_⟩;obtain⟨e,y⟩:=y;subst e;exact hs i x ys _ (y xs q) p
 ·have e:i=xs.length:=by lia
  subst e;exact .inl ⟨⟨xs,q,vc _⟩,u ys H p⟩
end
theorem Kd:(10:Nat)^250<2^831:=by decide +kernel
theorem Zb(a : -10^250<=x)(b:x<=10^250):Builtin.Int.intBits x<=1048576:=by
 refine vU (PySem.intBits_le_iff.mpr ?_:Builtin.Int.intBits x<=831) (by decide);have:x.natAbs<=10^250:=by lia
 exact vC this Kd
theorem mulOk(a : -10^250<=x)(b:x<=10^250)(c : -10^250<=y)(d:y<=10^250):IntMulOk x y:=.of_bits (Zb a b) (Zb c d)
theorem mulOkC{x y:Int}(h:Builtin.Int.intBits x<=1048576)(a : -10^250<=y)(b:y<=10^250):IntMulOk x y:=.of_bits h (Zb a b)
theorem Kq{x:Int}(h:Builtin.Int.intBits x<=1048576)(d:Int):Builtin.Int.intBits (x/d)<=1048576:=by
 refine PySem.intBits_le_iff.mpr (vC ?_ (PySem.intBits_le_iff.mp h));exact Int.natAbs_ediv_le_natAbs x d
section
variable{X:Cx}
theorem jz:OpR X (binaryOp .Mult) (rI IntMulOk fun i j=>.int (i*j)):=opI fun _ _ _ _ _ _ _ a q=>mul_int q a
def CDivB(_ j:Int):Prop:=0<j/\j<=10^250
theorem cdivB(a:0<j)(b:j<=10^250):CDivB i j:=⟨a,b⟩
theorem jG:OpR X (binaryOp .FloorDiv) (rI CDivB fun i j=>.int (i/j)):=opI fun i j _ _ _ _ _ a q=>by
 have b:(0:Int)<j:=a.1;have c:j<=10^250:=a.2;refine floordiv_int (by lia) ?_ (.inl (PyProof.noPylong_of_log2 ?_))
 ·rw[Int.fdiv_eq_ediv_of_nonneg _ (by lia)];exact q
 ·have e:j.natAbs<=10^250:=by lia
  have g:j.natAbs.log2<831:=(Nat.log2_lt (by lia)).mpr (vC e Kd);lia
theorem wg:CallR X (.builtin "isinstance") (fun xs H Q=>∃x T t b,xs=[x,.ty T]/\TyOf X.K H x t/\PySem.W.kitOne X.K t (.type T)=some b/\Q (.bl b) H):=by
 intro a s j H xs i Q I r h;obtain⟨x,T,t,b,rfl,ty,e,q⟩:=h;obtain⟨u,f,rfl,d,c⟩:=vals2 r;cases(show f=Value.type T from c);exact KE I d ty e fun g=>⟨.bl b,H,I.tok _,rfl,q⟩
theorem K1{E:Value->Shared->Prop}{Q:Value->Shared->Prop}(y:A.handled=none)(d:s.heap.IsList l (intItems xs))
  (h:∀h' tk t',(∀b o,s.heap.get? b=some o->h'.get? b=some o)->Q (.int (preSum (numAt xs) xs.size) t') {s with heap:=h',toks:=tk}) :
  wpAny (model prog w) A (call (.builtin "sum") [.ref l]) Q E s:=by
 obtain⟨o,m,B,n,C⟩:=id d;have f:l≠s.heap.objs.size:=vD (vH m);have g:(intItems xs).size=xs.size:=by simp[intItems]
 have W:=(Walks.list (prog:=prog) (w:=w) (A:=A.in1) y s.heap.objs.size l f (intItems xs)).toS;rw[g]at W;refine call_sum_walkAnyS (wpAny_pyIter_list d ?_);refine⟨s.heap.objs.size,_,_,_,_,_,_,numAt xs,rfl,W,⟨⟨_,Heap.get?_push_size _ rfl,rfl,rfl⟩,d.at fun o e=>vI _ e⟩,fun b a=>?_,fun i v x=>intItems_at x,fun z t' c=>?_⟩
 ·rcases mem_cons.mp a with rfl | a
  ·exact vH (Heap.get?_push_size _ rfl)
  ·obtain rfl:=vo.mp a;exact vH (vI _ m)
 ·obtain⟨h',u,p,k,j⟩:=z;have q:u=s.gens:=c.gens;have r:p=s.drawn:=c.drawn;have t:j=s.os:=c.os;subst q r t;exact h h' k t' fun b o e=>c.heap b o (fun a=>uk (vH e) ((vo.mp a)▸Nat.lt_irrefl _)) (vI _ e)
theorem ZJ(f:X.calm=true):CallR X (.builtin "sum") (fun xs H Q=>∃(p:Addr) (ns:List Int),xs=[.ref p]/\SqL X.K H p (ns.map V.int)/\Q (.int ns.sum) H):=by
 intro e s y H xs w Q I r h;obtain⟨p,ns,rfl,i,q⟩:=h;obtain⟨u,rfl,m⟩:=vals1 r;cases m;obtain⟨a,l,k,o⟩:=I.list i;have c:IntsAre a ns:=intsAre_of l;obtain⟨x,j⟩:=c.allInts.items;have b:numsOf a.toArray.toList=ns:=by rw[show a.toArray.toList=a from rfl,c.numsOf]
 have d:=k.isList;rw[j]at d b;rw[nums_intItems]at b;refine K1 (I.ok.hd f) d fun n v t g=>?_
 rw[preSum_eq,List.take_of_length_le (by simp),b];exact⟨.int ns.sum,H,I.kept g,⟨_,rfl⟩,q⟩
end
end L2
namespace Att
open PySem PySem.W PySem.Calls PyProof.Rows
theorem zE:∀(ns:List Int) (x:Int),x∈ns->Builtin.Int.intBits x<=WData.weightAll (ns.map WData.int)
 | [],_,h=>by cases h
 | n::r,x,h=>by
  show _<=WData.weight (.int n)+1+WData.weightAll (r.map WData.int);rcases mem_cons.mp h with e | h
  ·subst e;have e:Builtin.Int.intBits x=WData.weight (.int x):=by
    unfold Builtin.Int.intBits WData.weight;rfl
   lia
  ·have:=zE r x h;lia
theorem ya{l:OpenLaw}{n:Nat}{q:Program}{c:List Str}{XP:(Str->Option Value)->Heap->Prop}{D:World->Heap->Prop}{d:DefRec}
  (Q:l.most=some n) (y:d.params.defaults=[])
  (j:∀(w:World) (e b:Shared) (mg B:Str->Option Value) (k:Addr) (o:Obj) (C u g:Value) (a:Addr) (vs:List Value) (ns:List Int),
   Ground q c [] XP w e mg B b.heap->D w b.heap->
   b.heap.get? k=some o->o.data = .func (docDef d.name d.params d.body d.scope C u g)->b.heap.CodeRec u d.name->mg d.name=some (.ref k)->
   b.heap.get? a=some {cls:=.type "list",data:=.seq vs.toArray}->IntsAre vs ns->ns.length<=n->(∀x∈ns,Builtin.Int.intBits x<=1048576)->b.gens = #[]->
   codeAny (model l.prog w) callerA (.call (.ref k) ⟨[.ref a],[]⟩) (fun r s'=>r = .ok (.ret (.bool true))/\OldK b.heap s'.heap/\s'.os=b.os/\AllBare s'.gens) b) :
  WalkO q c XP D l.row.toRowW d [] (fun f vs=>PySem.call f vs):=by
 intro w e b mg B G Y k o C u g I kV R M v F z N E H X t m T A O;obtain rfl:I = .none:=Dflts.none F y;obtain rfl:kV = .none:=Dflts.noKw F;obtain⟨a,vs,ns,rfl,rfl,s,i,p⟩:=KY Q t A;have h:∀x∈ns,Builtin.Int.intBits x<=1048576:=by
  have U:(WData.list (ns.map WData.int)).weight<=2^20:=(layableW_iff.mp (layW_cons m).1).2.2;intro x W;exact vU (zE ns x W) U
 refine enter_call (codeAny_mono (j w e b mg B k o C u g a vs ns G Y R (fd_plain M) v z s i p h N) fun r s' S=>?_);obtain⟨rfl,J,K,L⟩:=S;exact⟨.inl ⟨.bool true,.bool true,[],rfl,fun _=>rfl,.bool true,KQ l _,fun _=>⟨List.Pairwise.nil,fun _ P=>(nomatch P)⟩⟩,J,K,L⟩
end Att
namespace L2
open PySem PySem.Spec PyProof.Rows
theorem WC{l:PySem.W.OpenLaw}{n k:Nat}{q:Program}{i:List Str}{XP:(Str->Option Value)->Heap->Prop}{C:World->Heap->Prop}{d:DefRec}{K:Params->Frg}{CX:CXT}{sp:Frg->Sp}{x:Str}
  (Q:l.most=some n) (z:n<=sizeLine) (t:d.params.defaults=[]) (R:Room k callerA)
  (M:∀(w:World) (h:Heap),C w h->(K w.params).In h)
  (F:∀(w:World) (mg:Str->Option Value) (p:Addr) (h:Heap),(K w.params).In h->h.Ns mainGlobals mg->mg d.name=some (.ref p)->
   ∃fd:FuncData,(∀(s:Shared) (u:Value),BindsTo s fd ⟨[u],[]⟩ [(x,u)])/\
    ∀base:Heap,(K w.params).In base->base.Ns mainGlobals mg->FnOk l.prog w (K w.params) mg base CX k p fd [x] (sp (K w.params)))
  (A:∀(K:Frg) (H:Hp) (a:Addr) (ns:List Int),ns.length<=n->(∀x∈ns,Builtin.Int.intBits x<=1048576)->Only H->SqL K H a (ns.map V.int)->sp K [.ref a] H (fun v _=>v = .bl true) fun _ _ _=>False)
  (r:∀(H:Hp) (s:Shared) (e:Value) (s':Shared),CX [] H s (fun _ _ _=>False) e s'->False) :
  PySem.W.WalkO q i XP C l.row.toRowW d [] (fun f vs=>PySem.call f vs):=by
 refine Att.ya Q t fun w D m mg W p o X S E a vs ns G Y U T O y j g b c P=>?_
 have B:=M w _ Y;obtain⟨fd,N,I⟩:=F w mg p _ B G.T.g y;exact wE B G.T.g G.T.b G.T.builtins G.T.nolimit P j g (vU b z) R I N (fun H J L=>A _ H a ns b c J L) fun H e s'=>r H m e s'
structure FunD(K:Frg)(x qual:Str)(st:Stmt)(T:Addr)(f:Addr)(fd:FuncData):Prop where
 ex:∃(oc:Value) (od:Option Addr) (kV doc pm:Value) (an:Option Addr) (cdv ct:Value) (osl:Array (Option Value)),
  fd=PySem.W.fnOf x qual (defArgs st) (defBody st) (defScope st) (.ref T) kV doc pm an cdv ct/\K.lookup f=some ⟨oc,od,.func fd,osl⟩/\PySem.W.codeIn K cdv qual=true
 kp:PySem.W.keepIn K (.ref f)=true
section
variable{P:Program}{w:World}{K:Frg}{mg:Str->Option Value}{base:Heap}
theorem FunD.ok{x a:Str}{st:Stmt}{T f:Addr}{i:FuncData}{N ps:List Str}{k:Nat}{sp:Sp}(F:FunD K x a st T f i)(S:FnScope N ps (defScope st))(g:∀vs H Q E,sp vs H Q E->vs.length=ps.length)
  (c:∀(b:Value) (A:Around) (outer:List Env) (s:Shared) (H:Hp) (vs:List V) (Q:VK) (E:XK),Room k (A.deeper (envOfC a (defScope st) s.heap.objs.size f b))->sp vs H Q E->
   ∃t,PSs (cxOf CX0 P w K mg base N a (defScope st) f b A outer s H E).nox (defBody st) t/\t {nx:=fun _ H'=>Q .non H',rt:=Q} (start N vs) H):FnOk P w K mg base CX0 (k+1) f i ps sp:=by
 obtain⟨r,u,kV,j,v,o,b,p,n,rfl,m,d⟩:=F.ex;refine xw m d S g fun A outer s H vs Q E l e=>?_
 obtain⟨t,h,q⟩:=c b A outer s H vs Q E l e;exact⟨t,h.nox,q⟩
theorem FunD.binds{x a:Str}{st:Stmt}{T f:Addr}{j:FuncData}{ps:List Str}{ds:List Value}{o:Obj}{items:Array Value}{n:Nat}(m:Nat)(F:FunD K x a st T f j)(u:K.lookup T=some o)(hs:o.data = .seq items n)(w:m+ds.length=ps.length)
  (h:∀(kV c i:Value) (e:Option Addr) (b g:Value) (d:List Value),d.length=m->∃k,bindArgs (PySem.W.fnOf x a (defArgs st) (defBody st) (defScope st) (.ref T) kV c i e b g) ⟨d,[]⟩=seqItems? (.ref T) >>= k/\k (some items)=pure (ps.zip (d++ds))):Binds K j ps ds:=by
 obtain⟨z,A,kV,c,i,e,b,g,v,rfl,y,r⟩:=F.ex;intro s d l t;obtain⟨k,p,q⟩:=h kV c i e b g d (by rw[vn]at t;lia);exact BindsTo.of_defaults rfl (l _ _ u) hs p q
theorem WS{x a:Str}{st:Stmt}{T f:Addr}{j:Value}{m g:Option Addr}{e:Array (Option Value)}{kV d i b h:Value}(l:K.lookup f=some ⟨j,m,.func (PySem.W.fnOf x a (defArgs st) (defBody st) (defScope st) (.ref T) kV d i g b h),e⟩)
  (c:PySem.W.codeIn K b a=true) (k:PySem.W.keepIn K (.ref f)=true):FunD K x a st T f (PySem.W.fnOf x a (defArgs st) (defBody st) (defScope st) (.ref T) kV d i g b h):=⟨⟨j,m,kV,d,i,g,b,h,e,rfl,l,c⟩,k⟩
end
theorem SP.nx{R:St->Hp->Prop}(hR:∀σ' H',R σ' H'->D.nx σ' H')(h:SP X pins {D with nx:=R} f s):SP X pins D f s:=by
 cases f with
 | next=>obtain⟨σ',H',I,q⟩:=h;exact⟨σ',H',I,hR _ _ q⟩
 | brk=>exact h
 | cont=>exact h
 | ret u=>exact h
def tIfJ(c:TT)(t u:TS):TS:=fun D σ H=>∃R:St->Hp->Prop,(∀σ' H',R σ' H'->D.nx σ' H')/\tIfS c t u {D with nx:=R} σ H
theorem Zj(j:PT X c tc)(g:PSs X a t)(i:PSs X b u):PS X (.If c a b pos) (tIfJ tc t u):=by
 intro d s k H D I h;obtain⟨R,e,h⟩:=h;exact thn (JS j g i d s k H _ I h) fun f l q=>q.nx e
open PySem
theorem yd:bootBuiltins "len"= some (.builtin "len"):=by decide +kernel
theorem YR:bootBuiltins "max"= some (.builtin "max"):=by decide +kernel
theorem xI:bootBuiltins "min"= some (.builtin "min"):=by decide +kernel
theorem we:bootBuiltins "sum"= some (.builtin "sum"):=by decide +kernel
theorem JM:bootBuiltins "isinstance"= some (.builtin "isinstance"):=by decide +kernel
theorem wd:bootBuiltins "any"= some (.builtin "any"):=by decide +kernel
theorem Ks:bootBuiltins "sorted"= some (.builtin "sorted"):=by decide +kernel
theorem xH:bootBuiltins "int"= some (.type "int"):=by decide +kernel
theorem WL:bootBuiltins "bool"= some (.type "bool"):=by decide +kernel
theorem WM:bootBuiltins "dict"= some (.type "dict"):=by decide +kernel
theorem xJ:bootBuiltins "set"= some (.type "set"):=by decide +kernel
theorem yc:bootBuiltins "enumerate"= some (.type "enumerate"):=by decide +kernel
theorem xK:bootBuiltins "zip"= some (.type "zip"):=by decide +kernel
theorem ZS(K:Frg)(c:(Value.type a==Value.type b)=false)(d:PySem.W.kitMeta b=true)(e:PySem.W.subIn [] (.type a) (.type b)=some v):PySem.W.kitOne K (.type a) (.type b)=some v:=by
 unfold PySem.W.kitOne;rw[vd (by rw[c];exact vE)];show(if PySem.W.kitMeta b=true then _ else _)=_;rw[ve d];exact e
theorem Y3{K:Frg}:PySem.W.kitOne K (.type "int") (.type "bool")=some false:=ZS K (by decide +kernel) (by decide +kernel) (by decide +kernel)
theorem zI{K:Frg}:PySem.W.kitOne K (.type "NoneType") (.type "bool")=some false:=ZS K (by decide +kernel) (by decide +kernel) (by decide +kernel)
section
variable{X:Cx}{tg:Expr}
end
section
variable{X:Cx}{K:Frg}
theorem qe(e:X.K=K):IxR X (rIxL K):=by subst e;exact jX
theorem zS(e:X.K=K):IxR X (rIxT K):=by subst e;exact jo
theorem kh(e:X.K=K):OpR X (compareOp .In) (rIn K false):=by subst e;exact ZZ
end
mutual
inductive DV(H:Hp):V->PyData->Prop
 | non:DV H .non .none
 | bl (b:Bool):DV H (.bl b) (.bool b)
 | int (i:Int):DV H (.int i) (.int i)
 | str (x:Str):DV H (.str x) (.str x)
 | lst {a:Addr} {xs:List V} {ds:List PyData}:H a=some (.lst xs)->DVs H xs ds->DV H (.ref a) (.list ds)
 | tup {a:Addr} {xs:List V} {ds:List PyData}:H a=some (.tup xs)->DVs H xs ds->DV H (.ref a) (.tuple ds)
inductive DVs(H:Hp):List V->List PyData->Prop
 | nil:DVs H [] []
 | cons {x:V} {d:PyData} {xs:List V} {ds:List PyData}:DV H x d->DVs H xs ds->DVs H (x::xs) (d::ds)
end
section
variable{X:Cx}
mutual
theorem Qq{p:St}{H:Hp}(I:Inv X pins p H s):∀{v:V} {d:PyData} {u:Value},DV H v d->RelV v u->∃as,Reads s.heap u d as
 | _,_,_,.non,r=>⟨_,by cases r;exact Reads.none⟩
 | _,_,_,.bl b,r=>⟨_,by cases r;exact Reads.bool b⟩
 | _,_,_,.int i,r=>by obtain⟨t,rfl⟩:=r;exact⟨_,Reads.int i t⟩
 | _,_,_,.str x,r=>by obtain⟨t,rfl⟩:=r;exact⟨_,Reads.str x t⟩
 | _,_,_,.lst e q,r=>by
  cases r;obtain⟨_,a,c,g,k⟩:=I.hok _ _ e;obtain⟨as,f⟩:=zp I q g;exact⟨_,reads_list_at k rfl rfl (by simpa using f)⟩
 | _,_,_,.tup e q,r=>by
  cases r;obtain⟨a,g,m,_⟩:=I.tuple (SqT.of e);obtain⟨o,l,h,n,j⟩:=m;obtain⟨as,f⟩:=zp I q g;exact⟨_,reads_tuple_at l h j (by simpa using f)⟩
theorem zp{e:St}{H:Hp}(I:Inv X pins e H s):∀{vs:List V} {ds:List PyData} {b:List Value},DVs H vs ds->Vals vs b->∃as,ReadsAll s.heap b ds as
 | _,_,_,.nil,r=>by cases r;exact⟨_,ReadsAll.nil⟩
 | _,_,_,.cons a q,r=>by
  cases r with
  | cons r1 r2=>
   obtain⟨as,c⟩:=Qq I a r1;obtain⟨f,d⟩:=zp I q r2;exact⟨_,ReadsAll.cons c d⟩
end
theorem Xf(f:X.A.units+64<cLine):OpR X (compareOp .Eq) (fun x y H Q=>∃d e,DV H x d/\DV H y e/\SeqAt.shaped d=true/\SeqAt.shaped e=true/\Q (.bl (PyData.eqv d e)) H):=by
 intro a s p H x y v u Q I j k h;obtain⟨d,e,b,c,l,m,q⟩:=h;obtain⟨n,g⟩:=Qq I b j;obtain⟨o,i⟩:=Qq I c k;exact eq_dataH g i l m f ⟨.bl _,H,I,rfl,q⟩
theorem WB{a:List Value}:∀{ns:List Int},IntsAre a ns->Vals (ns.map V.int) a:=by
 induction a with
 | nil=>intro ns r;cases r;exact .nil
 | cons u a ih=>
  intro ns r;cases r with
  | cons n t r=>exact .cons ⟨t,rfl⟩ (ih r)
theorem Kv(o:X.calm=true):CallR X (.builtin "max") (fun xs H Q=>∃(p:Addr) (ns:List Int),xs=[.ref p]/\SqL X.K H p (ns.map V.int)/\0<ns.length/\∀m∈ns,(∀a∈ns,a<=m)->Q (.int m) H):=by
 intro l s K H xs J Q I r h;obtain⟨p,ns,rfl,z,c,q⟩:=h;obtain⟨u,rfl,D⟩:=vals1 r;cases D;obtain⟨A,C,B,_⟩:=I.list z;have i:=intsAre_of C;have k:=B.isList;obtain⟨xs,e⟩:=i.allInts.items;have b:ns=xs.toList.map (·.1):=by rw[<-i.numsOf,<-nums_intItems,<-e]
 have d:0<xs.size:=by
  have f:=c;rw[b,vt,Array.length_toList]at f;exact f
 rw[e]at k;refine max_intList (I.ok.hd o) k d fun v F E y x=>?_
 obtain⟨t,rfl⟩:=intItems_at y;obtain⟨G,n⟩:=argBest_gt (numAt xs) (xs.size-1);refine⟨.int _,H,I.kept (t':=E) x,⟨_,rfl⟩,q _ ?_ fun a g=>?_⟩
 ·rw[b,numAt_eq];exact getD_mem (by rw[vt,Array.length_toList];lia)
 ·rw[b]at g;obtain⟨j,w,rfl⟩:=mem_getD g;rw[vt,Array.length_toList]at w;rw[<-numAt_eq];exact n j (by lia)
end
section
variable{σ:St}{H:Hp}{Q:VK}
theorem rd_dget(h:td σ H fun x H1=>ty σ H1 fun y H2=>∃a v,x = .ref a/\DGet H2 a y (some v)/\Q v H2):tDGet td ty σ H Q:=h
end
def TabK(K:Frg)(a:Addr)(D:List (Str×PyProof.Rows.KTD.Dat)):Prop:=PyProof.Rows.KTD.tabLook (PyProof.Rows.KTD.datLooks fun b=>K.lookup b) (fun b=>K.lookup b) a D=true
section
variable{X:Cx}
theorem Xh:OpR X (compareOp .In) (fun x y H Q=>∃a k D,x = .str k/\y = .ref a/\TabK X.K a D/\Q (.bl (PyProof.Rows.KTD.inKeys k D)) H):=by
 intro b s f H x y v u Q I c d h;obtain⟨a,k,D,rfl,rfl,T,q⟩:=h;obtain⟨t,rfl⟩:=c;cases d;exact PyProof.Rows.KTD.in_text (h₀:=s.heap) ⟨PySem.W.kt_text_in I.kIn T,fun _ _ e=>e⟩ ⟨.bl _,H,I.tok _,rfl,q⟩
end
theorem wk{K:Frg}{a:Addr}{xs:List V}{k:Nat}{ci:List Nat}{g:TG}{r:TT}{o:TE}{s:St}{H:Hp}{Z:Addr->List V->Hp->Prop}(d:Nat->List V->Hp->Prop)(t:d 0 [] H)(z:∀i ys H,i<=xs.length->d i ys H->SqT K H a xs)
  (hs:∀i x ys H,xs[i]?=some x->d i ys H->g x (capS k ci s) H fun c H2=>r c H2 fun b h=>if b=true then o c h fun v l=>ys.length<sizeLine/\d (i+1) (ys++[v]) l else d (i+1) ys h)
  (u:∀ys H,d xs.length ys H->ys.length<=sizeLine/\∀p,H p=none->Z p ys H) :
  ∃W:Nat->Nat->List V->Hp->Prop,(∃m,W 0 m [] H)/\∀i m ys H,W i m ys H->
   ((Itt K a).stop i H/\ys.length<=sizeLine/\∀p,H p=none->Z p ys H)\/
   ((Itt K a).go i H/\∃N:List V->Hp->Prop,(∀f H',N f H'->∃n,n<m/\W (i+1) n f H')/\∀x H',(Itt K a).yld i H x H'->g x (capS k ci s) H' fun c H2=>r c H2 fun b h=>
    if b=true then o c h fun v l=>ys.length<sizeLine/\N (ys++[v]) l else N ys h):=by
 refine⟨fun i m ys H=>m=xs.length-i/\i<=xs.length/\d i ys H,⟨xs.length,by simp,vb _,t⟩,?_⟩;rintro i m ys H ⟨rfl,w,p⟩;have q:=z i ys H w p;by_cases j:i<xs.length
 ·refine .inr ⟨⟨xs,xs[i],q,by simp[j]⟩,d (i+1),fun f H' A=>⟨xs.length-(i+1),by lia,rfl,j,A⟩,fun x H' y=>?_⟩;obtain⟨e,y⟩:=y;subst e;exact hs i x ys _ (y xs q) p
 ·have e:i=xs.length:=by lia
  subst e;exact .inl ⟨⟨xs,q,vc _⟩,u ys H p⟩
theorem rd_iTup{K:Frg}{b:TE}{c:St}{H:Hp}{R:It->Hp->Prop}(h:b c H fun x H1=>∃a,x = .ref a/\(∃xs,SqT K H1 a xs)/\R (Itt K a) H1):iTup K b c H R:=h
theorem JV{K:Frg}{i j:Nat}{a:Addr}{x y:V}{b:St}{H:Hp}{R:St->Hp->Prop}(e:SqT K H a [x,y])(h:gName i x b H fun σ' H'=>gName j y σ' H' R):gTup K 2 (gCons (gName i) (gCons (gName j) gNil)) (.ref a) b H R:=
 ⟨a,[x,y],rfl,e,rfl,x,[y],rfl,y,[],rfl,rfl,h⟩
theorem rd_dnew{a:St}{H:Hp}(h:∀p,H p=none->Q (.ref p) (upd H p (.dK []))):tDNewK a H Q:=h
theorem rd_dput{b:St}{H:Hp}(h:tv b H fun v H1=>td b H1 fun x H2=>ty b H2 fun y d=>∃a c,x = .ref a/\DPut d a y v c/\D.nx b c):sDPut td ty tv D b H:=h
theorem rd_bm0{K:Frg}{T:String}{r:V->List V->Hp->VK->Prop}{a:TE}{b:St}{H:Hp}{Q:VK}(h:a b H fun x H1=>tyV K T x H1/\r x [] H1 Q):tBM0 K T r a b H Q:=h
section
variable{X:Cx}{pins:List (Addr×Obj)}{σ:St}{H:Hp}{s:Shared}{h':Heap}
theorem Inv.turnedL{t':Nat}{ch:List Addr}(I:Inv X pins σ H s)(f:∀b∈ch,FpOk X pins H b)(k:∀b o,b∉ch->s.heap.get? b=some o->h'.get? b=some o):Inv X pins σ H {s with heap:=h',toks:=t'}:=by
 have d:∀b u,H b=some u->b∉ch:=fun b u e z=>by rw[(f b z).1]at e;cases e
 refine I.step (g':=s.gens) (d':=s.drawn) (ch:=ch) (fun b t=>?_) (fun b o _ _ a e _=>k b o a e) (fun b o _ _ a e _=>⟨o.slots,k b o a e⟩) (fun _ _ _ _ n=>n)
  (fun b o a e=>⟨o,k b o a e⟩) (fun _ _ e=>e) (fun _ _ _ e=>e) (fun b y e=>⟨#[],by rw[e];simp⟩) (fun m w=>?_) (fun b u e=>?_) I.bare
 ·obtain⟨_,i,_,j,l,p⟩:=f b t;exact⟨j,i,l,p⟩
 ·obtain⟨o,h,g,x,r⟩:=w;exact⟨o,h,g,k _ o (fun z=>(f _ z).2.1 rfl) x,r⟩
 ·refine(I.hok b u e).stay (fun c v a q=>k c v ?_ q) (fun _ q=>q) fun _ _ q=>q
  rcases a with z | z
  ·rw[z];exact d b u e
  ·exact d c _ z
theorem Inv.pair{t':Nat}{ch:List Addr}{x y:V}{u v:Value}(I:Inv X pins σ H s)(c:∀b∈ch,FpOk X pins H b)(h:∀b∈ch,b<s.heap.objs.size)(i:RelV x u)(j:RelV y v)
  (g:h'.get? s.heap.objs.size=some {cls:=.type "tuple",data:=.seq #[u,v]}) (k:∀b o,b∉ch->s.heap.get? b=some o->h'.get? b=some o) :
  Inv X pins σ (upd H s.heap.objs.size (.tup [x,y])) {s with heap:=h',toks:=t'}/\∀b∈ch,FpOk X pins (upd H s.heap.objs.size (.tup [x,y])) b:=by
 have f:∀b∈ch,FpOk X pins (upd H s.heap.objs.size (.tup [x,y])) b:=fun b a=>⟨(jf (vD (h b a))).trans (c b a).1,(c b a).2⟩
 have d:Inv X pins σ (upd H s.heap.objs.size (.tup [x,y])) {s with heap:=s.heap.push {cls:=.type "tuple",data:=.seq #[u,v]},toks:=t'}:=
  I.laid (t':=t') (fun b o e=>vI _ e) (vc _) (show ObjOk X.prog X.w _ _ _ (.tup [x,y])from⟨(by show 2<=sizeLine;decide),[u,v],.cons i (.cons j .nil),IsTup.new _ _⟩)
 refine⟨d.turnedL (h':=h') (t':=t') f fun b o a e=>?_,f⟩;rcases Heap.get?_push_cases e with⟨rfl,rfl⟩ | e
 ·exact g
 ·exact k b o a e
end
def Ite(K:Frg)(a:Addr):It:=
 ⟨fun i H=>∃xs x,SqL K H a xs/\xs[i]?=some x,fun i H x H'=>∃T v,x = .ref T/\H T=none/\H'=upd H T (.tup [.int i,v])/\∀xs,SqL K H a xs->xs[i]?=some v,fun i H=>∃xs,SqL K H a xs/\xs.length<=i⟩
theorem K4{P:Program}{w:World}{K:Frg}{n:List Expr}{k:Nat}{O:Pos}(a e it:Addr)(t:e≠it) :
  Turn P w K (.Tuple n k O) (Ite K a) [e,it] e (fun i h=>(∃f,IsEnum h e it ((i:Nat):Int) f)/\h.IsListIter it a i) where
 mem:=by simp
 obj:=fun i h j b g=>by
  rcases(by simpa using g:b=e\/b=it)with rfl | rfl
  ·obtain⟨f,l⟩:=j.1;exact⟨_,l,fun v z=>by cases z⟩
  ·obtain⟨o,e,c,d⟩:=j.2;exact⟨o,e,fun v z=>by rw[d]at z;cases z⟩
 keep:=fun i h h' j k=>⟨let ⟨f,l⟩:=j.1;⟨f,k e (by simp) _ l⟩,j.2.at fun o q=>k it (by simp) o q⟩
 item:=by
  intro X D L C S i A s σ H E I G j J;subst D L C;obtain⟨xs,x,B,M⟩:=J;obtain⟨N,Q,p,hz⟩:=I.list B;obtain⟨u,hu,ru⟩:=Q.get M;obtain⟨⟨f,l⟩,m⟩:=j;have le:e<s.heap.objs.size:=vH l;have li:it<s.heap.objs.size:=by obtain⟨o,q,_⟩:=id m;exact vH q
  refine wpAny_pyNext_enum_item l m p.isList (x:=u) (by simpa using hu) t fun h' ho r hT a0 hk=>?_
  obtain⟨U,R⟩:=I.pair (t':=s.toks+1) (ch:=[e,it]) (x:=.int i) (y:=x) G (fun b g=>by rcases(by simpa using g:b=e\/b=it)with rfl | rfl<;>assumption) ⟨s.toks,rfl⟩ ru hT
   (fun b o g q=>hk b o (fun z=>g (by simp[z])) (fun z=>g (by simp[z])) q)
  refine⟨_,rfl,wpAny_letOwnedTupleGo_enum ho fun Z F T=>?_⟩;have W:=U.turnedL (h':=Z) (t':=s.toks+1) (ch:=[e,it]) R fun b o g q=>(T.2 b fun z=>g (by simp[z])).trans q
  exact⟨.ref s.heap.objs.size,_,W,rfl,⟨_,x,rfl,I.hok.fresh (vc _),rfl,fun ys hy=>by rw[I.list_inj hy B];exact M⟩,
   ⟨⟨u,by simpa using F⟩,r.at fun o q=>(T.2 it t.symm).trans q⟩,fun b g=>(R b g).1⟩
 done:=by
  intro X D L C S i A s σ H E I G j J;subst D L C;obtain⟨xs,B,M⟩:=J;obtain⟨N,Q,p,hz⟩:=I.list B;obtain⟨⟨f,l⟩,m⟩:=j;have hl:=Q.length;exact wpAny_pyNext_enum_end (I.ok.hd S) l m p.isList (by simp;lia) fun h' Y=>⟨rfl,I.turnedL (t':=s.toks) (ch:=[e,it]) G fun b o g q=>Y b o (fun z=>g (by simp[z])) q⟩
 self:=fun _ _ _ _ _ j h=>let ⟨_,l⟩:=j.1;wpAny_pyIter_enum l h
def iEnum(K:Frg)(ta:TA):TI:=fun σ H R=>ta σ H fun vs H1=>∃a xs,vs=[.ref a]/\SqL K H1 a xs/\R (Ite K a) H1
theorem yE{X:Cx}{a:Expr}{n:TA}{f:List Expr}{k:Nat}{p i j:Pos}(v:Gl X "enumerate")(x:X.mg "enumerate"= none)(r:PA X [a] n)(hs:starEach [a] X.env=[(false,eval a X.env)]:=by rfl) :
  PI X (.Tuple f k j) (.Call (.Name "enumerate" p) [a] [] i) (iEnum X.K n):=by
 intro g s E H R I h;refine Call_ (qY I v x yc (PyProof.Rows.callWith_type1 (thn (r i g s E H _ I h) fun K e ⟨L,o,d,C,B⟩=>?_) hs rfl));obtain⟨b,M,rfl,y,q⟩:=B;obtain⟨u,rfl,D⟩:=vals1 C;cases D;obtain⟨A,J,p,G⟩:=d.list y;refine call_enumerate_list p.isList fun F m l z w=>?_
 refine wpAny_pyIter_enum m ?_;refine⟨e.heap.objs.size+1,[e.heap.objs.size+1,e.heap.objs.size],_,_,o,rfl,d.kept (t':=e.toks) w,K4 b _ _ (Nat.succ_ne_self _),⟨⟨_,by simpa using m⟩,l⟩,fun c t=>?_,q⟩;rcases(by simpa using t:c=e.heap.objs.size+1\/c=e.heap.objs.size)with rfl | rfl
 ·exact d.fpOk (Nat.le_succ _) (d.hok.fresh (Nat.le_succ _))
 ·exact d.fpOk (vc _) (d.hok.fresh (vc _))
theorem Zf{K:Frg}{a:Addr}{xs:List V}{g:TG}{l:TS}{D:Ends}{c:St}{H:Hp}(d:Nat->St->Hp->Prop)(n:d 0 c H)(u:∀i c H,i<=xs.length->d i c H->SqL K H a xs)
  (hs:∀i v c H T H',xs[i]?=some v->d i c H->Same H H'->H' T=some (.tup [.int i,v])->g (.ref T) c H' fun f H2=>l {D with nx:=d (i+1),ct:=d (i+1),bk:=D.nx} f H2) (s:∀c H,d xs.length c H->D.nx c H) :
  ∃W:Nat->Nat->St->Hp->Prop,(∃m,W 0 m c H)/\∀i m c H,W i m c H->
   ((Ite K a).stop i H/\D.nx c H)\/((Ite K a).go i H/\∃N:St->Hp->Prop,(∀σ' H',N σ' H'->∃k,k<m/\W (i+1) k σ' H')/\∀x H',(Ite K a).yld i H x H'->g x c H' fun f H2=>l {D with nx:=N,ct:=N,bk:=D.nx} f H2):=by
 refine⟨fun i m c H=>m=xs.length-i/\i<=xs.length/\d i c H,⟨xs.length,by simp,vb _,n⟩,?_⟩;rintro i m c H ⟨rfl,t,p⟩;have q:=u i c H t p;by_cases j:i<xs.length
 ·refine .inr ⟨⟨xs,xs[i],q,by simp[j]⟩,d (i+1),fun σ' H' w=>⟨xs.length-(i+1),by lia,rfl,j,w⟩,fun x H' y=>?_⟩;obtain⟨T,v,rfl,r,e,y⟩:=y;exact hs i v c H T H' (y xs q) p (fun b o h=>by rw[e,jf (je h r)];exact h) (by rw[e];exact jt)
 ·have e:i=xs.length:=by lia
  subst e;exact .inl ⟨⟨xs,q,vc _⟩,s c H p⟩
theorem rd_iEnum{K:Frg}{b:TA}{c:St}{H:Hp}{R:It->Hp->Prop}(h:b c H fun vs H1=>∃a xs,vs=[.ref a]/\SqL K H1 a xs/\R (Ite K a) H1):iEnum K b c H R:=h
def Itz(K:Frg)(a b:Addr):It:=
 ⟨fun i H=>∃xs x ys y,SqL K H a xs/\xs[i]?=some x/\SqL K H b ys/\ys[i]?=some y,
  fun i H x H'=>∃T u v,x = .ref T/\H T=none/\H'=upd H T (.tup [u,v])/\(∀xs,SqL K H a xs->xs[i]?=some u)/\∀ys,SqL K H b ys->ys[i]?=some v,
  fun i H=>∃xs ys,SqL K H a xs/\SqL K H b ys/\(xs.length<=i\/ys.length<=i)⟩
theorem Jq{h:Heap}{a b:Addr}{o u:Obj}(d:h.get? a=some o)(c:h.get? b=some u)(f:o.cls≠u.cls):a≠b:=fun e=>by
 subst e;rw[d]at c;cases c;exact f rfl
theorem Ww{P:Program}{w:World}{K:Frg}{T:List Expr}{k:Nat}{aa:Pos}(t A z TI TO l m:Addr)
  (D:∀t A,t≠z->t≠TO->t≠l->t≠m->A≠z->A≠TO->A≠l->A≠m->ZipApart z TI TO l m t A) :
  Turn P w K (.Tuple T k aa) (Itz K t A) [z,TI,TO,l,m] z (fun i h=>IsZip h z TI TO .none/\IsPair h TI (.ref l) (.ref m)/\(∃a b,IsPair h TO a b)/\h.IsListIter l t i/\h.IsListIter m A i) where
 mem:=by simp
 obj:=fun i h M b j=>by
  obtain⟨n,g,⟨a,c,f⟩,J,L⟩:=M;rcases(by simpa using j:b=z\/b=TI\/b=TO\/b=l\/b=m)with rfl | rfl | rfl | rfl | rfl
  ·exact⟨_,n,fun v z=>by cases z⟩
  ·exact⟨_,g,fun v z=>by cases z⟩
  ·exact⟨_,f,fun v z=>by cases z⟩
  ·obtain⟨o,e,c,d⟩:=J;exact⟨o,e,fun v z=>by rw[d]at z;cases z⟩
  ·obtain⟨o,e,c,d⟩:=L;exact⟨o,e,fun v z=>by rw[d]at z;cases z⟩
 keep:=fun i h h' M k=>by
  obtain⟨n,g,⟨a,c,f⟩,J,L⟩:=M;exact⟨k z (by simp) _ n,k TI (by simp) _ g,⟨a,c,k TO (by simp) _ f⟩,J.at fun o q=>k l (by simp) o q,L.at fun o q=>k m (by simp) o q⟩
 item:=by
  intro X hP hw hK hc i W s σ H E I hf M hg;subst hP hw hK;obtain⟨xs,x,ys,y,hq,hx,hr,hy⟩:=hg;obtain⟨a8,rv,p,_⟩:=I.list hq;obtain⟨a9,N,U,_⟩:=I.list hr;obtain⟨u,hu,ru⟩:=rv.get hx;obtain⟨v,hv,ab⟩:=N.get hy;obtain⟨n,g,⟨a,c,f⟩,J,L⟩:=M;obtain⟨o1,n1,F,B,_⟩:=id p;obtain⟨o2,n2,G,C,_⟩:=id U;obtain⟨o3,O,R,_⟩:=id J;obtain⟨o4,Q,S,_⟩:=id L;have r:=D t A (Jq F n (by rw[B];show Value.type "list"≠Value.type "zip";decide)) (Jq F f (by rw[B];show Value.type "list"≠Value.type "tuple";decide)) (Jq F O (by rw[B,R];decide)) (Jq F Q (by rw[B,S];decide))
   (Jq G n (by rw[C];show Value.type "list"≠Value.type "zip";decide)) (Jq G f (by rw[C];show Value.type "list"≠Value.type "tuple";decide)) (Jq G O (by rw[C,R];decide)) (Jq G Q (by rw[C,S];decide))
  have lt:∀b∈[z,TI,TO,l,m],b<s.heap.objs.size:=fun b j=>by
   rcases(by simpa using j:b=z\/b=TI\/b=TO\/b=l\/b=m)with rfl | rfl | rfl | rfl | rfl
   ·exact vH n
   ·exact vH g
   ·exact vH f
   ·exact vH O
   ·exact vH Q
  refine wpAny_pyNext_zip_item r n g f J L p.isList U.isList (x:=u) (y:=v) (by simpa using hu) (by simpa using hv) fun h' a1 a2 a3 a4 a5 a6 Z=>?_
  obtain⟨I1,f1⟩:=I.pair (t':=s.toks) (ch:=[z,TI,TO,l,m]) (x:=x) (y:=y) hf lt ru ab a5
   (fun b o j q=>Z b o (fun e=>j (by simp[e])) (fun e=>j (by simp[e])) (fun e=>j (by simp[e])) (fun e=>j (by simp[e])) q)
  refine⟨_,rfl,wpAny_letOwnedTupleGo_zip a1 fun h3 a7 Y=>?_⟩;have I2:=I1.turnedL (h':=h3) (t':=s.toks) (ch:=[z,TI,TO,l,m]) f1 fun b o j q=>(Y.2 b fun e=>j (by simp[e])).trans q
  exact⟨.ref s.heap.objs.size,_,I2,rfl,⟨_,x,y,rfl,I.hok.fresh (vc _),rfl,(fun ys hy=>by rw[I.list_inj hy hq];exact hx),fun ys a0=>by rw[I.list_inj a0 hr];exact hy⟩,
   ⟨a7,(Y.2 TI r.TIz).trans (Z TI _ r.TIz r.TITO r.TIi1 r.TIi2 g),⟨_,_,(Y.2 TO r.TOz).trans a2⟩,a3.at fun o q=>(Y.2 l r.i1z).trans q,a4.at fun o q=>(Y.2 m r.i2z).trans q⟩,fun b j=>(f1 b j).1⟩
 done:=by
  intro X hP hw hK hc i W s σ H E I hf M hg;subst hP hw hK;obtain⟨xs,ys,hq,hr,hl⟩:=hg;obtain⟨a8,rv,p,_⟩:=I.list hq;obtain⟨a9,N,U,_⟩:=I.list hr;obtain⟨n,g,⟨a,c,f⟩,J,L⟩:=M;obtain⟨o1,n1,F,B,_⟩:=id p;obtain⟨o2,n2,G,C,_⟩:=id U;obtain⟨o3,O,R,_⟩:=id J;obtain⟨o4,Q,S,_⟩:=id L;have r:=D t A (Jq F n (by rw[B];show Value.type "list"≠Value.type "zip";decide)) (Jq F f (by rw[B];show Value.type "list"≠Value.type "tuple";decide)) (Jq F O (by rw[B,R];decide)) (Jq F Q (by rw[B,S];decide))
   (Jq G n (by rw[C];show Value.type "list"≠Value.type "zip";decide)) (Jq G f (by rw[C];show Value.type "list"≠Value.type "tuple";decide)) (Jq G O (by rw[C,R];decide)) (Jq G Q (by rw[C,S];decide))
  have ac:=rv.length;have ad:=N.length;refine wpAny_pyNext_zip_end (I.ok.hd hc) r n g f J L p.isList U.isList ?_ fun h' Z=>⟨rfl,I.turnedL (t':=s.toks) (ch:=[z,TI,TO,l,m]) hf fun b o j q=>Z b o (fun e=>j (by simp[e])) (fun e=>j (by simp[e])) (fun e=>j (by simp[e])) (fun e=>j (by simp[e])) q⟩
  rcases hl with q | q
  ·exact .inl (by simp;lia)
  ·exact .inr (by simp;lia)
 self:=fun _ _ _ _ _ M h=>wpAny_pyIter_zip M.1 h
theorem qC{n i j:Nat}(h:i≠j):n+i≠n+j:=fun e=>h (Nat.add_left_cancel e)
def iZip(K:Frg)(ta:TA):TI:=fun σ H R=>ta σ H fun vs H1=>∃a b xs ys,vs=[.ref a,.ref b]/\SqL K H1 a xs/\SqL K H1 b ys/\R (Itz K a b) H1
theorem Zi{X:Cx}{a b:Expr}{w:TA}{f:List Expr}{k:Nat}{p n o:Pos}(O:Gl X "zip")(Q:X.mg "zip"= none)(M:PA X [a,b] w)(hs:starEach [a,b] X.env=[(false,eval a X.env),(false,eval b X.env)]:=by rfl)(l:starEach [b] X.env=[(false,eval b X.env)]:=by rfl) :
  PI X (.Tuple f k o) (.Call (.Name "zip" p) [a,b] [] n) (iZip X.K w):=by
 intro m s σ H R I h;refine Call_ (qY I O Q xK (PyProof.Rows.callWith_type1 (thn (M n m s σ H _ I h) fun us d ⟨vs,x,e,r1,q1⟩=>?_) (by rw[hs,l]) (by rw[l];rfl)));obtain⟨u,v,xs,ys,rfl,S,T,q⟩:=q1;cases r1 with
 | cons r rr=>
  cases rr with
  | cons r' rr=>
   cases rr;cases r;cases r';obtain⟨W,rv,p,hz⟩:=e.list S;obtain⟨Y,a0,Z,U⟩:=e.list T;refine call_zip_2 p.isList Z.isList fun h' t y z A B a6 P=>?_
   refine wpAny_pyIter_zip t ?_;refine⟨d.heap.objs.size+4,[d.heap.objs.size+4,d.heap.objs.size+2,d.heap.objs.size+3,d.heap.objs.size,d.heap.objs.size+1],_,_,x,rfl,e.kept (t':=d.toks) P,
    Ww u v _ _ _ _ _ (fun u v C D E F G J K L=>⟨qC (by decide),qC (by decide),qC (i:=0) (by decide),qC (by decide),qC (by decide),qC (j:=0) (by decide),qC (by decide),qC (j:=0) (by decide),qC (by decide),qC (i:=0) (by decide),C,D,E,F,G,J,K,L⟩),⟨t,y,⟨_,_,z⟩,A,B⟩,fun c N=>?_,q⟩
   have g:d.heap.objs.size<=c:=by
    rcases(by simpa using N:c=d.heap.objs.size+4\/c=d.heap.objs.size+2\/c=d.heap.objs.size+3\/c=d.heap.objs.size\/c=d.heap.objs.size+1)with rfl | rfl | rfl | rfl | rfl<;>lia
   exact e.fpOk g (e.hok.fresh g)
theorem kN{K:Frg}{a b:Addr}{xs ys:List V}{g:TG}{r:TS}{D:Ends}{c:St}{H:Hp}(d:Nat->St->Hp->Prop)(l:xs.length=ys.length)(s:d 0 c H)(A:∀i c H,i<=xs.length->d i c H->SqL K H a xs/\SqL K H b ys)
  (hs:∀i u v c H T H',xs[i]?=some u->ys[i]?=some v->d i c H->Same H H'->H' T=some (.tup [u,v])->g (.ref T) c H' fun f H2=>r {D with nx:=d (i+1),ct:=d (i+1),bk:=D.nx} f H2) (w:∀c H,d xs.length c H->D.nx c H) :
  ∃W:Nat->Nat->St->Hp->Prop,(∃m,W 0 m c H)/\∀i m c H,W i m c H->
   ((Itz K a b).stop i H/\D.nx c H)\/((Itz K a b).go i H/\∃N:St->Hp->Prop,(∀σ' H',N σ' H'->∃n,n<m/\W (i+1) n σ' H')/\∀x H',(Itz K a b).yld i H x H'->g x c H' fun f H2=>r {D with nx:=N,ct:=N,bk:=D.nx} f H2):=by
 refine⟨fun i m c H=>m=xs.length-i/\i<=xs.length/\d i c H,⟨xs.length,by simp,vb _,s⟩,?_⟩;rintro i m c H ⟨rfl,z,p⟩;obtain⟨q,k⟩:=A i c H z p;by_cases j:i<xs.length
 ·refine .inr ⟨⟨xs,xs[i],ys,ys[i],q,by simp[j],k,by simp⟩,d (i+1),fun σ' H' B=>⟨xs.length-(i+1),by lia,rfl,j,B⟩,fun x H' y=>?_⟩;obtain⟨T,u,v,rfl,t,e,y,C⟩:=y;exact hs i u v c H T H' (y xs q) (C ys k) p (fun b o h=>by rw[e,jf (je h t)];exact h) (by rw[e];exact jt)
 ·have e:i=xs.length:=by lia
  subst e;exact .inl ⟨⟨xs,ys,q,k,.inl (vc _)⟩,w c H p⟩
theorem rd_iZip{K:Frg}{c:TA}{d:St}{H:Hp}{R:It->Hp->Prop}(h:c d H fun vs H1=>∃a b xs ys,vs=[.ref a,.ref b]/\SqL K H1 a xs/\SqL K H1 b ys/\R (Itz K a b) H1):iZip K c d H R:=h
theorem ZN:entryFor table "dict.update.loop"= some Builtin.«dict.update.loop»:=entryFor_of_tree (by kernel_rfl)
theorem QF:plainId "dict.update.loop"= true:=by decide +kernel
theorem KK:typeLookup (.type "list") "keys"= pure none:=by rw[typeLookup_type,builtinLookup_eq_fast];kernel_rfl
section
variable{prog:Program}{w:World}{A:Around}{E:Value->Shared->Prop}{s:Shared}
theorem noKeys{Q:Option Value->Shared->Prop}(p:s.heap.get? a=some o)(m:o.cls = .type "list")(f:o.data = .seq xs k)(n:o.dict=none)(t:A.handled=none)
  (h:∀h' tk,(∀b o,s.heap.get? b=some o->h'.get? b=some o)->Q none {s with heap:=h',toks:=tk}):wpAny (model prog w) A (getAttr? (.ref a) "keys") Q E s:=by
 obtain⟨c,r,q,x⟩:=o;simp only at m f n;subst m f n;obtain⟨u,g,d,tk,v⟩:=s;have l:∀j,(⟨u,g,d,j,v⟩:Shared).TypeIs (.ref a) "list":=fun _=>⟨_,p,rfl⟩
 have y:=sub_AttributeError;have z:=F.slot_list_getattribute.lookup;have B:=F.slot_list_getattribute.bind (.ref a);have C:=am_list_getattr_none;unfold getAttr? getAttrBy? getAttrBy
 repeat (any_goals (first | assumption | exact l _ | ((with_reducible show wpAny _ _ (call (Value.builtin "list.__getattribute__") _ _) _ _ _);refine call_meets F.slot_list_getattribute (l _) am_entry_list_getattribute (F.args_list_getattribute_2 _ _) (meets_getattribute_miss_list a xs k x "keys" _ KK (by decide +kernel) (by decide +kernel)) ⟨p,t,fun h' j e i=>?_⟩) | wp_step))
 obtain⟨G,H,D⟩:=i.there;show wpAny _ _ (getattributeRaised _ _ _ _ _ _ _) _ _ _;unfold getattributeRaised
 repeat (any_goals (first | assumption | wp_step))
 exact h _ _ i.keeps
variable{K:Type}[DecidableEq K]{knd:KeyKind prog w K}
noncomputable def foldS(acc:List (K×Value))(ps:List (K×Value)):List (K×Value):=ps.foldl (fun acc kv=>stored acc kv.1 kv.2) acc
theorem kx(a:List (K×Value))(k:K)(v:Value):(stored a k v).length<=a.length+1:=by
 unfold stored;split
 ·rw[vt];exact Nat.le_succ _
 ·rw[vn];exact vc _
theorem dul{R:Result->Shared->Prop}{d it l:Addr}{items:List Value}{res:Value}(N:A.handled=none)(h:d≠it)(q:d≠l)(r:it≠l) :
  ∀(ps:List (K×Value)) (i:Nat) (c:List (K×Value)) (s:Shared),s.heap.IsListIter it l i->s.heap.IsList l items.toArray->(items.length=i+ps.length)->
   (∀j kv,ps[j]?=some kv->∃a key,items[i+j]?=some (.ref a)/\IsTup s.heap a #[key,kv.2]/\knd.is kv.1 key=true/\a≠d/\a≠it)->s.heap.DictOf knd d c->c.length+ps.length<=sizeLine->
   (∀h' tk,(∀b o,b≠d->b≠it->s.heap.get? b=some o->h'.get? b=some o)->h'.DictOf knd d (foldS c ps)->R (.ok (.ret res)) {s with heap:=h',toks:=tk})->
   codeAny (model prog w) A (.builtin "dict.update.loop" ⟨[.ref d,.ref it,rawInt i,res],[]⟩) R s
 | [],i,c,s,hit,hl,hn,hp,hd,hz,hR=>by
  refine codeAny_builtin ZN ?_;rw[Around.under_plainId QF _];show wpAny _ A.in1 (pyNext (.ref it) >>= _) _ _ s;refine um (wpAny_pyNext_list_end (A:=A.in1) N hit hl (by simp;simp at hn;lia) fun h' M=>?_);show wpAny _ A.in1 (Builtin.Dict.addKeywords d [] >>= _) _ _ _;refine um (ul (ul (hR h' s.toks (fun b o _ C e=>M b o C e) ?_)));exact hd.extBut M h
 | kv::ps,i,c,s,hit,hl,hn,hp,hd,hz,hR=>by
  obtain⟨a,key,W,ht,Z,X,B⟩:=hp 0 kv rfl;refine codeAny_builtin ZN ?_;rw[Around.under_plainId QF _];show wpAny _ A.in1 (pyNext (.ref it) >>= _) _ _ s;refine um (wpAny_pyNext_list_item (A:=A.in1) hit hl (x:=.ref a) (by simpa using W) fun y t L=>?_);obtain⟨ot,Q,oc,n,od⟩:=ht;have p:y.get? a=some ot:=(L.2 a B).trans Q;show wpAny _ A.in1 (holding [Value.ref a] _ >>= _) _ _ _;refine um (wpAny_holding ?_);refine um (wpAny_tryCatch ?_);unfold Builtin.Dict.pairItems;refine um (wpAny_typeOf (T:="tuple") ⟨_,p,oc⟩ ?_);show wpAny _ A.in1 (if((Value.type "tuple"== Value.type "list")||(Value.type "tuple"== Value.type "tuple"))=true then _ else _) _ _ _;rw[ve (by decide)];refine um (wpAny_seqItems p od ?_);refine ul ?_;show wpAny _ A.in1 (holding [key,kv.2] (dictSet d key kv.2)) _ _ _;have D:y.DictOf knd d c:=hd.extBut (fun b o C e=>(L.2 b C).trans e) h;refine wpAny_holding (wpAny_dictSet_pairs (s:={s with heap:=y}) Z D (fun S E v=>?_) (by simp at hz;lia));show wpAny _ A.in1 (again _) _ _ _;refine ul ⟨plainId_quiet QF _,?_⟩;have I:∀b o,b≠d->b≠it->s.heap.get? b=some o->S.get? b=some o:=fun b o f g e=>(v.2 b f).trans ((L.2 b g).trans e)
  have sl:=kx c kv.1 kv.2;refine dul N h q r ps (i+1) (stored c kv.1 kv.2) _ (t.at fun o e=>(v.2 it h.symm).trans e) (hl.at fun o e=>I l o q.symm r.symm e) (by simp at hn;lia) (fun j J Y=>?_) E (by simp at hz;lia) fun U tk k3 F=>?_
  ·obtain⟨O,u,z,H,G,k,m⟩:=hp (j+1) J (by simpa using Y);obtain⟨o',P,r'⟩:=H;exact⟨O,u,by rw[<-z];congr 1;lia,⟨o',I _ _ k m P,r'⟩,G,k,m⟩
  ·exact hR U tk (fun b o f g e=>k3 b o f g (I b o f g e)) F
end
open PySem PySem.W PyProof.Rows
section
variable{n:Nat}{key:Nat->Int}{p:Array Nat}
noncomputable def Tw(n:Nat)(key:Nat->Int){α:Type}:KasT α->(α->Prop)->Prop
 | .ret a,Q=>Q a
 | .ask i j k,Q=>i<n/\j<n/\Tw n key (k (decide (key i<key j))) Q
theorem Tw.bind{b c:Type}{f:b->KasT c}{Q:c->Prop}:∀{t:KasT b},Tw n key t (fun a=>Tw n key (f a) Q)->Tw n key (t.bind f) Q
 | .ret _,h=>h
 | .ask _ _ _,h=>⟨h.1,h.2.1,Tw.bind h.2.2⟩
theorem Tw.mono{d:Type}{Q b:d->Prop}(c:∀a,Q a->b a):∀{t:KasT d},Tw n key t Q->Tw n key t b
 | .ret _,h=>c _ h
 | .ask _ _ _,h=>⟨h.1,h.2.1,Tw.mono c h.2.2⟩
theorem Tw.run{d:Type}{b:Nat->Nat->(Bool->Shared->Prop)->Shared->Prop}{Q:d->Shared->Prop}(c:∀i j C,i<n->j<n->C (decide (key i<key j)) s->b i j C s) :
  ∀{t:KasT d},Tw n key t (fun a=>Q a s)->t.kasWp b Q s
 | .ret _,h=>h
 | .ask i j k,h=>c i j _ h.1 h.2.1 (Tw.run c h.2.2)
theorem Tw.asks{a:Type}{k:Bool->KasT a}{Q:a->Prop}(hi:i<n)(e:j<n)(b:key i<key j->Tw n key (k true) Q)(d:¬key i<key j->Tw n key (k false) Q):Tw n key (.ask i j k) Q:=by
 refine⟨hi,e,?_⟩;by_cases c:key i<key j
 ·rw[vF c];exact b c
 ·rw[vG c];exact d c
def Pk(n:Nat)(p:Array Nat):Prop:=p.toList.Perm (List.range n)
noncomputable def kv(key:Nat->Int)(p:Array Nat)(i:Nat):Int:=key (p.getD i 0)
def Up(key:Nat->Int)(p:Array Nat)(k:Nat):Prop:=∀i j,i<=j->j<k->kv key p i<=kv key p j
def Dn(key:Nat->Int)(p:Array Nat)(k:Nat):Prop:=∀i j,i<=j->j<k->kv key p j<=kv key p i
def Eqs(key:Nat->Int)(p:Array Nat)(m q:Nat):Prop:=∀k,m-(q+1)<=k->k<m->kv key p k=kv key p (m-1)
theorem Pk.size(h:Pk n p):p.size=n:=by have:=h.length_eq;simpa using this
theorem Pk.lt(h:Pk n p)(a:0<n)(i:Nat):p.getD i 0<n:=by
 rw[Array.getD_eq_getD_getElem?];cases e:p[i]? with
 | none=>exact a
 | some x=>exact vZ.mp (h.mem_iff.mp (Array.mem_toList_iff.mpr (Array.mem_of_getElem? e)))
theorem Pk.of(h:Pk n p)(a:q.Perm p):Pk n q:=(Array.perm_iff_toList_perm.mp a).trans h
theorem Yd(h:a[i]?=b[j]?):kv key a i=kv key b j:=by
 unfold kv;rw[Array.getD_eq_getD_getElem?,Array.getD_eq_getD_getElem?,h]
theorem Y6(a:j<=p.size)(k:Nat):kv key (kas_rev p i j) k=if i<=k/\k<j then kv key p (i+j-1-k)else kv key p k:=by
 have h:=getElem?_mirror_all (xs:=p) (i:=i) a k;split
 ·rename_i c;rw[ve c]at h;exact Yd h
 ·rename_i c;rw[vd c]at h;exact Yd h
theorem xZ(hs:src<p.size)(a:d<=src)(k:Nat):kv key (bubble p src d) k=if k=src-d then kv key p src else if src-d<k/\k<=src then kv key p (k-1)else kv key p k:=by
 have h:=getElem?_bubble (xs:=p) hs d a k;split
 ·rename_i c;rw[ve c]at h;exact Yd h
 ·rename_i c;rw[vd c]at h;split
  ·rename_i c';rw[ve c']at h;exact Yd h
  ·rename_i c';rw[vd c']at h;exact Yd h
theorem Up.snoc(h:Up key p m)(d:1<=m)(f:¬kv key p m<kv key p (m-1)):Up key p (m+1):=fun i j a g=>by
 by_cases e:j<m
 ·exact h i j a e
 ·have c:j=m:=by lia
  subst c;by_cases b:i=j
  ·rw[b];exact va _
  ·have:=h i (j-1) (by lia) (by lia);lia
theorem Dn.snoc(h:Dn key p m)(d:1<=m)(f:kv key p m<=kv key p (m-1)):Dn key p (m+1):=fun i j a g=>by
 by_cases e:j<m
 ·exact h i j a e
 ·have c:j=m:=by lia
  subst c;by_cases b:i=j
  ·rw[b];exact va _
  ·have:=h i (j-1) (by lia) (by lia);lia
theorem Wr(a:Pk n p):∀f m,1<=m->m+f<=n->Up key p m->Tw n key (kas_asc p f m) fun r=>m<=r/\r<=m+f/\Up key p r/\(r<m+f->kv key p r<kv key p (r-1))
 | 0,m,h1,hn,hu=>⟨vc _,vc _,hu,fun h=>uk h (Nat.lt_irrefl _)⟩
 | f+1,m,h1,hn,hu=>by
  refine Tw.asks (a.lt (by lia) _) (a.lt (by lia) _) (fun c=>?_) (fun c=>?_)<;>simp only[Bool.false_eq_true,if_true,if_false]
  ·exact⟨vc _,by lia,hu,fun _=>c⟩
  ·exact Tw.mono (fun r h=>⟨by lia,by lia,h.2.2.1,fun b=>h.2.2.2 (by lia)⟩) (Wr a f (m+1) (by lia) (by lia) (hu.snoc h1 c))
theorem kS(b:m<=p.size)(a:Eqs key p m q)(k:Nat):kv key (kas_rev p (m-(q+1)) m) k=kv key p k:=by
 rw[Y6 b];split
 ·rename_i c;rw[a k c.1 c.2,a _ (by lia) (by lia)]
 ·rfl
theorem yP:∀f (p:Array Nat) m q,Pk n p->1<=m->m+f<=n->q+1<=m->Dn key p m->Eqs key p m q->
  Tw n key (kas_desc f p m q) fun r=>Pk n r.1/\m<=r.2.1/\r.2.1<=m+f/\Dn key r.1 r.2.1/\r.2.2+1<=r.2.1/\Eqs key r.1 r.2.1 r.2.2
 | 0,p,m,q,hp,h1,hn,hq,hd,he=>⟨hp,vc _,vc _,hd,hq,he⟩
 | f+1,p,m,q,hp,h1,hn,hq,hd,he=>by
  have t:=hp.size;refine Tw.asks (hp.lt (by lia) _) (hp.lt (by lia) _) (fun c=>?_) (fun c=>?_)<;>simp only[Bool.false_eq_true,if_true,if_false]
  ·have c:kv key p m<kv key p (m-1):=c;split
   ·have g:=kS (key:=key) (p:=p) (m:=m) (q:=q) (by lia) he;have d:Pk n (kas_rev p (m-(q+1)) m):=hp.of (mirror_perm _ _ _ _);refine Tw.mono (fun r h=>⟨h.1,by lia,by lia,h.2.2.2⟩) (yP f _ (m+1) 0 d (by lia) (by lia) (by lia) (fun i j b s=>?_) fun k l o=>?_)
    ·rw[g,g];exact hd.snoc h1 (by lia) i j b s
    ·rw[show k=m+1-1 by lia]
   ·refine Tw.mono (fun r h=>⟨h.1,by lia,by lia,h.2.2.2⟩) (yP f p (m+1) 0 hp (by lia) (by lia) (by lia) (hd.snoc h1 (by lia)) fun k l o=>?_);rw[show k=m+1-1 by lia]
  ·have c:¬kv key p m<kv key p (m-1):=c;refine Tw.asks (hp.lt (by lia) _) (hp.lt (by lia) _) (fun a=>?_) (fun a=>?_)<;>simp only[Bool.false_eq_true,if_true,if_false]
   ·exact⟨hp,vc _,Nat.le_add_right m (f+1),hd,hq,he⟩
   ·have a:¬kv key p (m-1)<kv key p m:=a;refine Tw.mono (fun r h=>⟨h.1,by lia,by lia,h.2.2.2⟩) (yP f p (m+1) (q+1) hp (by lia) (by lia) (by lia) (hd.snoc h1 (by lia)) fun k l o=>?_);rw[Nat.add_sub_cancel];by_cases e:k=m
    ·rw[e]
    ·rw[he k (by lia) (by lia)];lia
theorem Wu(c:Pk n p)(d:1<=m)(k:m<=n)(e:Dn key p m):Tw n key (kas_tail3 m n p) fun r=>Pk n r.2/\1<=r.1/\r.1<=n/\Up key r.2 r.1:=by
 have l:=c.size;have a:Pk n (kas_rev p 0 m):=c.of (mirror_perm _ _ _ _);have b:=Y6 (key:=key) (p:=p) (i:=0) (j:=m) (by lia);refine Tw.bind (Tw.mono (fun r h=>?_) (Wr a (n-m) m d (by lia) fun i j f g=>?_))
 ·exact⟨a,by lia,by lia,h.2.2.1⟩
 ·rw[b,b,ve ⟨vb _,by lia⟩,ve ⟨vb _,g⟩];exact e _ _ (by lia) (by lia)
theorem Wt(t:Pk n p)(u:m+1<=n)(o:Dn key p (m+1)):Tw n key (kas_descPart m n p) fun r=>Pk n r.2/\1<=r.1/\r.1<=n/\Up key r.2 r.1:=by
 refine Tw.bind (Tw.mono (fun r h=>?_) (yP (n-(m+1)) p (m+1) 0 t (by lia) (by lia) (by lia) o fun k v w=>by rw[show k=m+1-1 by lia]));obtain⟨a,b,c,d,e,g⟩:=h;have x:=a.size;split
 ·have l:=kS (key:=key) (p:=r.1) (m:=r.2.1) (q:=r.2.2) (by lia) g;exact Wu (a.of (mirror_perm _ _ _ _)) (by lia) (by lia) fun i j f s=>by rw[l,l];exact d i j f s
 ·exact Wu a (by lia) (by lia) d
theorem xn(g:Pk n p)(t:1<=n):Tw n key (kas_count n p) fun r=>Pk n r.2/\1<=r.1/\r.1<=n/\Up key r.2 r.1:=by
 have y:=g.size;refine Tw.bind (Tw.mono (fun r h=>?_) (Wr (key:=key) g (n-1) 1 (by lia) (by lia) fun i j l m=>by rw[show i=j by lia];exact va _));obtain⟨a,b,c,d⟩:=h;split
 ·exact⟨g,a,by lia,c⟩
 rename_i hne;have w:r<n:=by
  have:r≠n:=fun e=>hne (by rw[e];simp)
  lia
 have d:=d (by lia);split
 ·refine Tw.asks (g.lt (by lia) _) (g.lt (by lia) _) (fun q=>?_) (fun q=>?_)<;>simp only[Bool.false_eq_true,if_true,if_false]
  ·exact⟨g,a,by lia,c⟩
  ·have q:¬kv key p 0<kv key p (r-1):=q;have v:=Y6 (key:=key) (p:=p) (i:=0) (j:=r) (by lia);have f:∀i,i<r->kv key p i=kv key p (r-1):=fun i u=>by
    have t:=c 0 i (vb _) u;have x:=c i (r-1) (by lia) (by lia);lia
   have k:∀i,kv key (kas_rev p 0 r) i=kv key p i:=fun i=>by
    rw[v];split
    ·rename_i q';rw[f _ q'.2,f _ (by lia)]
    ·rfl
   refine Wt (g.of (mirror_perm _ _ _ _)) (by lia) fun i j l m=>?_
   rw[k,k];by_cases e:j=r
   ·by_cases o:i=r
    ·rw[e,o];exact va _
    ·rw[e,f i (by lia)];lia
   ·rw[f i (by lia),f j (by lia)];exact va _
 ·have s:r=1:=by lia
  subst s;refine Wt g (by lia) fun i j l m=>?_
  rcases(by lia:(i=0/\j=0)\/(i=0/\j=1)\/(i=1/\j=1))with⟨rfl,rfl⟩ | ⟨rfl,rfl⟩ | ⟨rfl,rfl⟩
  ·exact va _
  ·have:kv key p 1<kv key p (1-1):=d;exact Int.le_of_lt this
  ·exact va _
theorem yQ(e:Pk n p)(c:k<n)(g:Up key p k):∀f l r,l<=r->r<=k->r-l<=f->(∀i,i<l->kv key p i<=kv key p k)->(∀i,r<=i->i<k->kv key p k<kv key p i)->
  Tw n key (kas_place p k f l r) fun m=>m<=k/\(∀i,i<m->kv key p i<=kv key p k)/\∀i,m<=i->i<k->kv key p k<kv key p i
 | 0,l,r,h1,h2,h3,a,b=>⟨by lia,a,fun i d=>b i (by lia)⟩
 | f+1,l,r,h1,h2,h3,a,b=>by
  unfold kas_place;split
  ·exact⟨by lia,a,fun i d=>b i (by lia)⟩
  refine Tw.asks (e.lt (by lia) _) (e.lt (by lia) _) (fun q=>?_) (fun q=>?_)<;>simp only[Bool.false_eq_true,if_true,if_false]
  ·have q:kv key p k<kv key p ((l+r)/2):=q;exact yQ e c g f l _ (by lia) (by lia) (by lia) a fun i d h=>by
    have:=g ((l+r)/2) i d h;lia
  ·have q:¬kv key p k<kv key p ((l+r)/2):=q;exact yQ e c g f _ r (by lia) h2 (by lia) (fun i d=>by
    have:=g i ((l+r)/2) (by lia) (by lia);lia) b
theorem xA:∀f (p:Array Nat) k,Pk n p->k+f<=n->Up key p k->Tw n key (kas_bin f p k) fun q=>Pk n q/\Up key q (k+f)
 | 0,p,k,hp,hn,hu=>⟨hp,hu⟩
 | f+1,p,k,hp,hn,hu=>by
  have t:=hp.size;refine Tw.bind (Tw.mono (fun l h=>?_) (yQ hp (by lia) hu k 0 k (vb _) (vc _) (by lia) (fun i o=>uk o (Nat.not_lt_zero _)) fun i e m=>uk e (by lia)));obtain⟨a,b,c⟩:=h;have g:=xZ (key:=key) (p:=p) (src:=k) (d:=k-l) (by lia) (by lia);refine Tw.mono (fun q h=>⟨h.1,by rw[show k+(f+1)=k+1+f by lia];exact h.2⟩) (xA f _ (k+1) (hp.of (bubble_perm _ _ _)) (by lia) fun i j r s=>?_);rw[g,g,show k-(k-l)=l by lia]
  repeat' split
  all_goals first
   | exact va _
   | (exfalso;lia)
   | exact Int.le_of_lt (c _ (by lia) (by lia))
   | exact b _ (by lia)
   | exact hu _ _ (by lia) (by lia)
   | (have e:=b i (by lia);have m:=c (j-1) (by lia) (by lia);lia)
theorem Xu(f:1<=n):Tw n key (kas_sort n) fun q=>Pk n q/\Up key q n:=by
 have g:Pk n (List.toArray (List.range n)):=List.Perm.refl _;refine Tw.bind (Tw.mono (fun r h=>?_) (xn (key:=key) g f));obtain⟨a,b,c,d⟩:=h;split
 ·refine Tw.mono (fun q h=>⟨h.1,?_⟩) (xA (n-max r.1 1) r.2 (max r.1 1) a (by lia) (by rw[show max r.1 1=r.1 by lia];exact d));have e:max r.1 1+(n-max r.1 1)=n:=by lia
  rw[e]at h;exact h.2
 ·have e:r.1=n:=by lia
  exact⟨a,by rw[<-e];exact d⟩
end
section
variable{prog:Program}{w:World}{A:Around}{E:Value->Shared->Prop}{s:Shared}
def PrAt(h:Heap)(as:List Addr)(key:Nat->Int):Prop:=∀i a,as[i]?=some a->∃o t u n,h.get? a=some o/\o.cls = .type "tuple"/\o.data = .seq #[.int (key i) t,u] n
theorem PrAt.keep{key:Nat->Int}(x:PrAt h as key)(k:∀a∈as,∀o,h.get? a=some o->h'.get? a=some o):PrAt h' as key:=fun i a e=>by
 obtain⟨o,t,u,n,q,r⟩:=x i a e;exact⟨o,t,u,n,k a (vm e) _ q,r⟩
theorem XF{key:Nat->Int}(x:PrAt s.heap as key)(d:∀i j,i<as.length->j<as.length->key i=key j->i=j){C:Bool->Shared->Prop}(hi:i<as.length)(b:j<as.length)
  (h:C (decide (key i<key j)) s):kas_ask prog w A (tuples' true) (as.map Value.ref) i j C s:=by
 unfold kas_ask;obtain⟨o,t,u,n,k,B,f⟩:=x i _ (vz hi);obtain⟨y,z,m,E,l,D,g⟩:=x j _ (vz b);have p:(as.map Value.ref).getD i Value.none = .ref as[i]:=by rw[vy,vv,vz hi];rfl
 have q:(as.map Value.ref).getD j Value.none = .ref as[j]:=by rw[vy,vv,vz b];rfl
 rw[p,q];refine kat_lt k f l g ?_;show KatLex prog w A true _ C [(.int (key i) t,.int (key j) z),(u,m)] 0 s;refine kat_cons (wpAny_eqBool_int ?_);by_cases c:key i=key j
 ·have v:=d i j hi b c;subst v;rw[beq_self_eq_true];have r:u=m:=by
   have e:o=y:=vK (k.symm.trans l);subst e;have e:=f.symm.trans g;injection e with e _;have:=congrArg (fun a:Array Value=>a[1]?) e;simpa using this
  subst r;refine kat_yes (kat_cons (SeqAt.EqAt.same _ _ _ _ _ ?_));refine kat_yes (kat_nil ?_);rw[vG (Int.lt_irrefl _)]at h;exact h
 ·rw[beq_false_of_ne c];exact kat_no (oneLt_int h)
theorem Ke{key:Nat->Int}:∀{as:List Addr} (_:PrAt h as key),∃fs,KatTups h (as.map Value.ref) fs/\fs.length=as.length/\∀v∈fs,∃n t,v=Value.int n t
 | [],_=>⟨[],KatTups.nil,rfl,fun v g=>nomatch g⟩
 | a::r,x=>by
  obtain⟨o,t,u,n,q,c,d⟩:=x 0 a rfl;obtain⟨fs,k,l,f⟩:=Ke (key:=fun i=>key (i+1)) (as:=r) fun i b e=>x (i+1) b (by simpa using e)
  refine⟨.int (key 0) t::fs,KatTups.cons q c d rfl k,by rw[vO,l,vO],fun v g=>?_⟩;rcases mem_cons.mp g with rfl | g
  ·exact⟨_,_,rfl⟩
  ·exact f v g
theorem xr(vs:List Value):(vs.toArray.zip vs.toArray).map (·.2)=vs.toArray:=by
 apply Array.toList_inj.mp;rw[Array.toList_map,Array.toList_zip];exact List.map_snd_zip (vc _)
theorem KS(vs:List Value):(List.range vs.length).map (fun i=>vs.getD i Value.none)=vs:=by
 refine ext_getElem (by simp) fun i b a=>?_
 rw[getElem_map,getElem_range,vy,vz a];rfl
theorem Wc:∀{l:List Int},l.length<2->l.Pairwise (·<=·)
 | [],_=>.nil
 | [_],_=>pairwise_singleton _ _
 | _::_::_,h=>uk h (by rw[vO,vO];lia)
theorem Wq{key:Nat->Int}{P:PySem.Fin->Shared->Prop}(d:s.heap.get? a=some (seqObj "list" (as.map Value.ref).toArray c0))(S:a∉as)(x:PrAt s.heap as key)
  (U:∀i j,i<as.length->j<as.length->key i=key j->i=j) (O:as.length<64)
  (D:∀(q:List Nat) (h':Heap) (c:Nat),q.Perm (List.range as.length)->(q.map key).Pairwise (·<=·)->(∀b o,b≠a->s.heap.get? b=some o->h'.get? b=some o)->
   h'.get? a=some (seqObj "list" ((q.map fun i=>as.getD i 0).map Value.ref).toArray c)->P (.done (.ret .none)) {s with heap:=h'}) :
  wpAny (model prog w) A (Builtin.«list.sort» ⟨[.ref a],[]⟩) P E s:=by
 have a5:a<s.heap.objs.size:=vH d;obtain⟨u,k⟩:∃u,(s.heap.update a (Obj.mapSeq fun _=>(#[]:Array Value))).get? a=some (seqObj "list" #[] u):=⟨_,get?_update_seq d fun _=>#[]⟩
 have X:=Heap.SameBut.update s.heap a (Obj.mapSeq fun _=>(#[]:Array Value));rw[list_sort_plain];refine um (listItems_at (s:=s) d rfl ?_);refine um (listUpdate_at (s:=s) d rfl ?_ (by rw[size_toArray,vt,sizeLine_eq];lia) (vb _));refine um (seqEpoch_at (n:=u) k rfl ?_);refine um (wpAny_newTuple ?_ (by show(as.map Value.ref).length<=_;rw[vt,sizeLine_eq];lia));refine um (wpAny_newList ?_ (vb (sizeLine)));refine wpAny_holding ?_;generalize Y:((s.heap.update a (Obj.mapSeq fun _=>(#[]:Array Value))).push (seqObj "tuple" (as.map Value.ref).toArray 0)).push (seqObj "list" #[] 0)=hX;have kX:∀b o,b≠a->s.heap.get? b=some o->hX.get? b=some o:=fun b o y e=>by
  rw[<-Y];exact vI _ (vI _ ((X.2 b y).trans e))
 have F:hX.get? a=some (seqObj "list" #[] u):=by
  rw[<-Y];exact vI _ (vI _ k)
 have xX:PrAt hX as key:=x.keep fun b y o e=>kX b o (fun z=>S (z▸y)) e
 show wpAny (model prog w) A _ P E {s with heap:=hX};dsimp only;have K:(as.map Value.ref).toArray.size=as.length:=by rw[size_toArray,vt]
 have H:∀q:List Nat,q.Perm (List.range as.length)->(List.map (fun i=>(as.map Value.ref).getD i Value.none) q)=(q.map fun i=>as.getD i 0).map Value.ref:=fun q M=>by
  rw[v4];refine map_congr_left fun i B=>?_
  have hl:i<as.length:=vZ.mp (M.mem_iff.mp B);show(as.map Value.ref).getD i Value.none=Value.ref (as.getD i 0);rw[vy,vy,vv,vz hl];rfl
 have g:∀(q:List Nat),q.Perm (List.range as.length)->(q.map key).Pairwise (·<=·)->∀r:Array Value,r=(List.map (fun i=>(as.map Value.ref).getD i Value.none) q).toArray->
   P (.done (.ret .none)) {s with heap:=hX.update a (Obj.mapSeq fun _=>r)}:=fun q M hs r ho=>by
  subst ho;have o2:=get?_update_seq F fun _=>(List.map (fun i=>(as.map Value.ref).getD i Value.none) q).toArray
  have J:=Heap.SameBut.update hX a (Obj.mapSeq fun _=>(List.map (fun i=>(as.map Value.ref).getD i Value.none) q).toArray);rw[H q M]at o2 J|-;exact D q _ _ M hs (fun b o y e=>(J.2 b y).trans (kX b o y e)) o2
 by_cases l:(as.map Value.ref).toArray.size<2
 ·rw[ve l,ve l];refine um (ul ?_);rw[StateT.run_pure];refine um (ul ?_);dsimp only;refine um (seqEpoch_at (n:=u) F rfl ?_);have eo:(arrOf (SortSt.mk' general' ((as.map Value.ref).toArray.zip (as.map Value.ref).toArray) #[] 7 none)).map (·.2)=(List.map (fun i=>(as.map Value.ref).getD i Value.none) (List.range as.length)).toArray:=by
   have e:=KS (as.map Value.ref);rw[vt]at e;rw[e];exact xr _
  rw[eo];refine um (listUpdate_at (s:={s with heap:=hX}) F rfl ?_ (vb _) (by rw[size_toArray,vt,length_range,sizeLine_eq];lia));simp only[bne_self_eq_false,Bool.false_eq_true,if_false];refine ul (g (List.range as.length) (List.Perm.refl _) ?_ _ rfl);rw[K]at l;exact Wc (by rw[vt,length_range];exact l)
 ·rw[vd l,vd l];rw[K]at l;obtain⟨fs,kt,kl,ki⟩:=Ke xX;have a0:hX=({s with heap:=hX}:Shared).heap:=rfl;refine um (kat_kind (s:={s with heap:=hX}) (T:=Value.type "int") kt (by lia) (fun v hv=>?_) (by decide) ?_)
  ·obtain⟨m,t,rfl⟩:=ki v hv;exact Looks.of_pure rfl
  refine um (wpAny_mono (kat_run (s:={s with heap:=hX}) (ks:=as.map Value.ref) (vs:=as.map Value.ref) (κ:=tuples' true) (Q:=fun f I=>∃p:Array Nat,Pk as.length p/\Up key p as.length/\arrOf f=p.map (kas_item ((as.map Value.ref).toArray.zip (as.map Value.ref).toArray))/\failedOf f=none/\I={s with heap:=hX}) (G:=fun p I=>Pk as.length p/\Up key p as.length/\I={s with heap:=hX})
   rfl (by rw[vt];lia) (by rw[vt];exact O) (fun p f I _ a2 a3 N=>⟨p,N.1,N.2.1,a2,a3,N.2.2⟩) ?_) ?_ fun _ _ e=>e)
  ·rw[vt];exact Tw.run (n:=as.length) (key:=key) (fun i j C B L hC=>XF xX U B L hC) (Tw.mono (fun q h=>⟨h.1,h.2,rfl⟩) (Xu (key:=key) (by lia)))
  rintro⟨⟨⟩,f⟩ I ⟨p,Z,hu,R,hf,rfl⟩;dsimp only;rw[kat_snds rfl R];refine um (seqEpoch_at (n:=u) F rfl ?_);have W:=Z.size;refine um (listUpdate_at (s:={s with heap:=hX}) F rfl ?_ (vb _) (by rw[size_toArray,vt,Array.length_toList,W,sizeLine_eq];lia));rw[hf];simp only[bne_self_eq_false,Bool.false_eq_true,if_false];refine ul (g p.toList Z ?_ _ rfl);refine pairwise_map.mpr (pairwise_iff_getElem.mpr fun i j B L a1=>?_);rw[Array.length_toList]at B L;have:=hu i j (by lia) (by lia);unfold kv at this;rw[Array.getD_eq_getD_getElem?,Array.getD_eq_getD_getElem?,Array.getElem?_eq_getElem B,Array.getElem?_eq_getElem L]at this;exact this
end
open PySem PySem.Spec PySem.W PyProof.Rows
section
variable{X:Cx}{pins:List (Addr×Obj)}{σ:St}{H:Hp}{s:Shared}
def NewA(X:Cx)(pins:List (Addr×Obj))(T:Addr):Prop:=X.s₀.heap.objs.size<=T/\T≠X.env.locals/\(∀x c,X.env.cells.lookup x=some c->c≠T)/\∀p∈X.pn++pins,p.1≠T
theorem Inv.newA(I:Inv X pins σ H s)(a:s.heap.objs.size<=T):NewA X pins T:=by
 obtain⟨_,b,_,_,c,d⟩:=I.fpOk (H':=fun _=>none) a rfl;exact⟨vU I.sz a,b,c,d⟩
theorem ObjOk.obj(x:ObjOk P w H h a o):∃u,h.get? a=some u:=by
 cases o with
 | lst xs=>obtain⟨_,_,_,_,e⟩:=x;exact⟨_,e⟩
 | tup xs=>obtain⟨_,_,_,u,e,_⟩:=x;exact⟨u,e⟩
 | dK kvs=>obtain⟨_,_,_,_,u,_,_,e,_⟩:=x;exact⟨u,e⟩
 | dT kvs=>obtain⟨_,_,_,_,u,_,_,e,_⟩:=x;exact⟨u,e⟩
 | set S n=>obtain⟨u,_,_,_,e,_⟩:=x;exact⟨u,e⟩
 | ins C dx fs=>obtain⟨_,_,_,e,_⟩:=x;exact⟨_,e⟩
 | own y=>exact x
 | xd fs=>obtain⟨_,⟨u,_,_,e,_⟩,_⟩:=x;exact⟨u,e⟩
 | rng lo hi=>obtain⟨_,_,_,e⟩:=x;exact⟨_,e⟩
 | frz u v=>exact⟨_,x.1⟩
 | tbl ps=>exact⟨_,x⟩
 | met f y=>exact⟨_,x⟩
 | ext φ=>exact x.2.1
theorem Inv.none_at{a:Heap}(I:Inv X pins σ H s)(c:∀b o,s.heap.get? b=some o->a.get? b=some o):H a.objs.size=none:=by
 cases e:H a.objs.size with
 | none=>rfl
 | some u=>
  obtain⟨v,q⟩:=(I.hok _ _ e).obj;exact uk (vH (c _ _ q)) (Nat.lt_irrefl _)
theorem Inv.newB{a:Heap}(I:Inv X pins σ H s)(h:∀b o,s.heap.get? b=some o->a.get? b=some o):NewA X pins a.objs.size:=by
 have f:∀b o,s.heap.get? b=some o->b<a.objs.size:=fun b o e=>vH (h b o e)
 obtain⟨m,⟨o,_,_,d,_⟩,_⟩:=I.loc;have g:=f _ _ d;refine⟨vW (vC I.ok.above g),Nat.ne_of_gt g,fun x c e=>?_,fun p i=>vD (f _ _ (I.pin p i).1)⟩;obtain⟨v,o,d,_⟩:=I.cell x c e;exact vD (f _ _ d)
theorem Inv.track(I:Inv X pins σ H s)(h:H T=none)(d:NewA X pins T)(g:ObjOk X.prog X.w (upd H T o) s.heap T o):Inv X pins σ (upd H T o) s:=by
 have a:∀b u,H b=some u->b≠T:=fun b u e z=>by rw[z,h]at e;cases e
 refine I.step (h':=s.heap) (H':=upd H T o) (g':=s.gens) (d':=s.drawn) (t':=s.toks) (ch:=[T]) (fun b f=>?_) (fun b o _ _ _ e _=>e) (fun b o _ _ _ e _=>⟨o.slots,e⟩) (fun b u f _ n=>?_) (fun b u _ e=>⟨u,e⟩)
  (fun b k e=>(jf (a _ _ e)).trans e) (fun b u v e=>(jf (a _ _ e)).trans e) (fun b j e=>⟨#[],by rw[jf (a _ _ e),e];simp⟩) (fun m i=>i) (fun b u e=>?_) I.bare
 ·have e:b=T:=by simpa using f
  subst e;exact⟨.inr d.1,d.2.1,d.2.2.1,d.2.2.2⟩
 ·exact(jf fun z=>f (by simp[z])).trans n
 ·by_cases z:b=T
  ·subst z;rw[jt]at e;cases e;exact g
  ·rw[jf z]at e;exact(I.hok b u e).stay (fun c v _ q=>q) (fun c q=>(jf (a _ _ q)).trans q) fun c l q=>(jf (a _ _ q)).trans q
theorem Inv.trackAll:∀(e:List (Addr×HO)) {H:Hp},Inv X pins σ H s->(∀p∈e,H p.1=none/\NewA X pins p.1/\∀H',ObjOk X.prog X.w H' s.heap p.1 p.2)->(e.map (·.1)).Nodup->∃H',Inv X pins σ H' s/\Same H H'/\∀p∈e,H' p.1=some p.2
 | [],H,I,_,_=>⟨H,I,Same.refl _,fun p d=>nomatch d⟩
 | w::r,H,I,h,nd=>by
  obtain⟨a,b,c⟩:=h w vq;rw[v7,nodup_cons]at nd;have g:=I.track a b (c _);obtain⟨H',i,f,m⟩:=Inv.trackAll r g (fun p d=>by
   obtain⟨j,k,l⟩:=h p (vp _ d);exact⟨(jf fun z:p.1=w.1=>nd.1 (by rw[<-z];exact vJ.mpr ⟨p,d,rfl⟩)).trans j,k,l⟩) nd.2
  have n:Same H (upd H w.1 w.2):=fun b u q=>(jf (je q a)).trans q
  refine⟨H',i,n.trans f,fun p d=>?_⟩;rcases mem_cons.mp d with rfl | d
  ·exact f _ _ jt
  ·exact m p d
end
section
variable{X:Cx}
theorem valsR:∀as:List Addr,Vals (as.map V.ref) (as.map Value.ref)
 | []=>.nil
 | _::r=>.cons rfl (valsR r)
theorem KV.get{κ:Type}:∀{kvs:List (κ×V)} {vs:List (κ×Value)} {i:Nat} {p:κ×V},KV kvs vs->kvs[i]?=some p->∃q,vs[i]?=some q/\p.1=q.1/\RelV p.2 q.2
 | _,_,_,_,.nil,e=>by simp at e
 | _,_,0,_,.cons r _,e=>by simp at e;subst e;exact⟨_,rfl,r⟩
 | _,_,i+1,p,.cons _ t,e=>by
  obtain⟨q,a,b⟩:=KV.get (i:=i) (p:=p) t (by simpa using e);exact⟨q,by simpa using a,b⟩
theorem KL:MtR X "dict.update" (fun x vs H Q=>∃d o kvs more,x = .ref d/\vs=[.ref o]/\H d=some (.dK kvs)/\H o=some (.dK more)/\d≠o/\kvs.length+more.length<=sizeLine/\Q .non (upd H d (.dK (mergeK kvs more)))):=by
 intro l s G H x vs v D Q I B A h;obtain⟨d,o,kvs,more,rfl,rfl,k,p,g,y,q⟩:=h;cases B;obtain⟨u,rfl,z⟩:=vals1 A;cases z;obtain⟨E,e,i,m,b⟩:=y3 I.hok k;obtain⟨F,f,j,n,c⟩:=y3 I.hok p;refine call_meetsIn PySem.F.slot_dict_update b.typeIs PySem.F.entry_dict_update (PySem.F.args_dict_update_2 _ _) (meets_dict_update (mixKind X.prog X.w) d o g f) ⟨i,j,b,c,by rw[<-m.length,<-n.length];exact y,fun r a _ w=>?_⟩;have t:∃q,r.get? d=some q:=let ⟨q,_,_,hq,_⟩:=a;⟨q,hq⟩;have C:=qB more kvs;exact⟨.non,_,yj (t':=s.toks) I (by rw[k];exact True.intro) w t (YZ (by lia) e (n.merge m) a),rfl,q⟩
noncomputable def IView(v d:Addr):HO:=.ext fun h=>h.get? v=some {cls:=.type "dict_items",data:=.fields #[.ref d]}
theorem wP:MtR X "dict.items" (fun x vs H Q=>∃d kvs,x = .ref d/\vs=[]/\H d=some (.dK kvs)/\∀v,H v=none->Q (.ref v) (upd H v (IView v d))):=by
 intro i s y H x vs v t Q I m l h;obtain⟨d,kvs,rfl,rfl,j,q⟩:=h;cases m;have f:=l.zero;subst f;obtain⟨w,c,g,r,a⟩:=y3 I.hok j;refine call_meetsIn PySem.F.slot_dict_items a.typeIs PySem.F.entry_dict_items (PySem.F.args_dict_items_1 (.ref d)) (meets_dict_items (mixKind X.prog X.w) d c) ⟨⟨g,a⟩,?_⟩;have e:(s.heap.push {cls:=.type "dict_items",data:=.fields #[.ref d]}).get? s.heap.objs.size=some {cls:=.type "dict_items",data:=.fields #[.ref d]}:=Heap.get?_push_size _ rfl;exact⟨.ref s.heap.objs.size,_,I.laid (t':=s.toks) (o:=IView s.heap.objs.size d) (fun b u q=>vI _ q) (vc _) (show ObjOk X.prog X.w _ _ _ (IView s.heap.objs.size d)from⟨e,⟨_,e⟩,fun n p q k=>k _ q⟩),rfl,q _ (I.hok.fresh (vc _))⟩
noncomputable def iiK(p:Int×Int):Key×V:=(Sum.inl p.1,.int p.2)
theorem yg(hc:X.calm=true):CallR X (.builtin "sorted") (fun xs H Q=>∃(v d:Addr) (kvs:List (Int×Int)),xs=[.ref v]/\H v=some (IView v d)/\H d=some (.dK (kvs.map iiK))/\kvs.length<64/\
  ∀(l:Addr) (as:List Addr) (R:List (Int×Int)) (H':Hp),Same H H'->H l=none->H' l=some (.lst (as.map V.ref))->(∀a∈as,H a=none)->R.Perm kvs->(R.map (·.1)).Pairwise (·<=·)->as.length=R.length->(∀(i:Nat) (a:Addr) (p:Int×Int),as[i]?=some a->R[i]?=some p->H' a=some (.tup [.int p.1,.int p.2]))->Q (.ref l) H'):=by
 intro y s σ H xs us Q I r h;obtain⟨v,d,kvs,rfl,ev,ed,a0,q⟩:=h;obtain⟨u,rfl,ru⟩:=vals1 r;cases ru;obtain⟨z1,a5,N,r1,G⟩:=y3 I.hok ed;have hv:s.heap.get? v=some {cls:=.type "dict_items",data:=.fields #[.ref d]}:=(I.hok v _ ev).1;obtain⟨ep,da⟩:=G.dictAt;have lv:=r1.length;rw[vt]at lv;have nd:(kvs.map (·.1)).Nodup:=by
  have S:(N.map (·.1)).Nodup:=let ⟨_,_,_,_,_,_,_,_,hn⟩:=G;hn;rw[<-r1.keys,v4]at S;refine pairwise_map.mpr ((pairwise_map.mp S).imp fun {a b} h e=>h ?_);show(Sum.inl a.1:Key)=Sum.inl b.1;rw[e]
 refine Calls.call_function_entry kind_sorted plain_sorted entry_sorted (args_sorted1 (.ref v)) ?_;unfold Builtin.«sorted»;refine um (m:=checkCount "sorted" 1 1 1) (ul ?_);refine um (kdx_collect (knd:=mixKind X.prog X.w) (kvs:=N) (ep:=ep) (A:=X.A.in1) (I.ok.hd hc) ⟨_,hv,rfl,rfl⟩ da (by rw[<-lv,sizeLine_eq];lia) fun g tk as P C J=>?_);rw[<-lv]at C;refine um (wpAny_newList ?_ (by rw[vt,C,sizeLine_eq];lia));have K:(g.push (seqObj "list" (as.map Value.ref).toArray 0)).get? g.objs.size=some (seqObj "list" (as.map Value.ref).toArray 0):=Heap.get?_push_size _ rfl;have D:g.objs.size∉as:=fun z=>Nat.lt_irrefl _ (J.there z)
 have E:∀i p,kvs[i]?=some p->(fun i=>(kvs.getD i (0,0)).1) i=p.1/\(fun i=>(kvs.getD i (0,0)).2) i=p.2:=fun i p e=>by
  dsimp only;rw[vy,e];exact⟨rfl,rfl⟩
 have xQ:∀i a,as[i]?=some a->∃t u,(g.push (seqObj "list" (as.map Value.ref).toArray 0)).get? a=some {cls:=.type "tuple",data:=.seq #[.int ((fun i=>(kvs.getD i (0,0)).1) i) t,.int ((fun i=>(kvs.getD i (0,0)).2) i) u]}:=fun i a e=>by
  obtain⟨ky,k,x,O,w,e3⟩:=J.pairs i a e;have f:i<kvs.length:=by rw[<-C];exact(vx.mp e).1
  obtain⟨w',e4,a4⟩:=KV.get r1 (i:=i) (p:=iiK kvs[i]) (by rw[vv,vz f];rfl);rw[O]at e4;cases e4;obtain⟨ek,T,ex⟩:=a4;have U:k=Sum.inl kvs[i].1:=ek.symm;subst U;have W:x = .int kvs[i].2 T:=ex;subst W;obtain⟨Y,Z⟩:=E i _ (vz f);rw[show(fun i=>(kvs.getD i (0,0)).1) i=kvs[i].1 from Y,show(fun i=>(kvs.getD i (0,0)).2) i=kvs[i].2 from Z];rcases jN (show keyIs (Sum.inl kvs[i].1) ky=true from w)with⟨n,t,q1,q2⟩ | ⟨n,t,q1,q2⟩
  ·cases q1;subst q2;exact⟨t,T,vI _ e3⟩
  ·cases q1
 have xP:PrAt (g.push (seqObj "list" (as.map Value.ref).toArray 0)) as (fun i=>(kvs.getD i (0,0)).1):=fun i a e=>by
  obtain⟨t,u,z⟩:=xQ i a e;exact⟨_,t,_,_,z,rfl,rfl⟩
 have a1:∀i j,i<as.length->j<as.length->(fun i=>(kvs.getD i (0,0)).1) i=(fun i=>(kvs.getD i (0,0)).1) j->i=j:=fun i j f B e=>by
  rw[C]at f B;obtain⟨Y,_⟩:=E i _ (vz f);obtain⟨Z,_⟩:=E j _ (vz B);rw[Y,Z]at e;rcases Nat.lt_trichotomy i j with z | z | z
  ·exact uk e (by have:=pairwise_iff_getElem.mp nd i j (by rw[vt];exact f) (by rw[vt];exact B) z;simpa using this)
  ·exact z
  ·exact uk e.symm (by have:=pairwise_iff_getElem.mp nd j i (by rw[vt];exact B) (by rw[vt];exact f) z;simpa using this)
 refine um (wpAny_holding (wpAny_call_entry slot_list_sort ⟨_,K,rfl⟩ entry_list_sort (Wq (s:={s with heap:=g.push (seqObj "list" (as.map Value.ref).toArray 0),toks:=tk}) K D xP a1 (by rw[C];exact a0) fun M F c hq hs kk o2=>⟨_,rfl,?_⟩) (args_list_sort _)));refine ul ⟨_,rfl,?_⟩;have a2:∀b o,s.heap.get? b=some o->b<g.objs.size:=fun b o e=>vH (P b o e)
 have k2:∀b o,s.heap.get? b=some o->F.get? b=some o:=fun b o e=>kk b o (vD (a2 b o e)) (vI _ (P b o e))
 have I2:Inv X y σ H {s with heap:=F,toks:=tk}:=I.kept (t':=tk) k2;have hB:H g.objs.size=none:=I.none_at P;have nB:=I.newB P;have ha:∀a∈as,H a=none/\NewA X y a:=fun a h=>⟨I.hok.fresh (vW (J.above a h)),I.newA (vW (J.above a h))⟩
 have L:∀i∈M,i<as.length:=fun i f=>vZ.mp (hq.mem_iff.mp f)
 have a3:(((g.objs.size,HO.lst ((M.map fun i=>as.getD i 0).map V.ref))::(List.range as.length).map fun i=>(as.getD i 0,HO.tup [.int (kvs.getD i (0,0)).1,.int (kvs.getD i (0,0)).2])).map (·.1)).Nodup:=by
  rw[v7,nodup_cons,v4];have w:(List.range as.length).map ((fun x=>x.1)∘fun i=>(as.getD i 0,HO.tup [.int (kvs.getD i (0,0)).1,.int (kvs.getD i (0,0)).2]))=as:=ext_getElem (by simp) fun i g F=>by
   rw[getElem_map,getElem_range];show as.getD i 0=_;rw[vy,vz F];rfl
  rw[w];exact⟨D,J.rise.imp fun h=>vD h⟩
 obtain⟨H',I3,s3,k3⟩:=I2.trackAll ((g.objs.size,HO.lst ((M.map fun i=>as.getD i 0).map V.ref))::(List.range as.length).map fun i=>(as.getD i 0,HO.tup [.int (kvs.getD i (0,0)).1,.int (kvs.getD i (0,0)).2])) (fun p hp=>by
  rcases mem_cons.mp hp with rfl | hp
  ·refine⟨hB,nB,fun H'=>⟨?_,_,c,valsR _,o2⟩⟩;rw[vt,vt,hq.length_eq,length_range,C,sizeLine_eq];lia
  ·obtain⟨i,f,rfl⟩:=vJ.mp hp;have f:=vZ.mp f;have e:as[i]?=some (as.getD i 0):=by rw[vy,vz f];rfl
   obtain⟨t1,T,eo⟩:=xQ i _ e;have hm:=vm e;obtain⟨S,n2⟩:=ha _ hm;exact⟨S,n2,fun H'=>⟨(by show 2<=sizeLine;decide),[_,_],.cons ⟨t1,rfl⟩ (.cons ⟨T,rfl⟩ .nil),⟨_,kk _ _ (fun z=>D (z▸hm)) eo,rfl,_,rfl⟩⟩⟩) a3
 ·refine⟨.ref g.objs.size,H',I3,rfl,q g.objs.size (M.map fun i=>as.getD i 0) (M.map fun i=>kvs.getD i (0,0)) H' s3 hB (k3 _ vq) (fun a h=>?_) ?_ ?_ (by rw[vt,vt]) fun i a p O w=>?_⟩
  ·obtain⟨i,f,rfl⟩:=vJ.mp h;have e:as[i]?=some (as.getD i 0):=by rw[vy,vz (L i f)];rfl
   exact(ha _ (vm e)).1
  ·have e:=hq.map fun i=>kvs.getD i (0,0)
   rw[C]at e;have w:(List.range kvs.length).map (fun i=>kvs.getD i (0,0))=kvs:=ext_getElem (by simp) fun i g F=>by
    rw[getElem_map,getElem_range,vy,vz F];rfl
   rw[w]at e;exact e
  ·rw[v4];exact hs
  ·rw[vv]at O w;obtain⟨j,B,rfl⟩:=vh.mp O;rw[B]at w;cases w;exact k3 _ (vp _ (vJ.mpr ⟨j,vZ.mpr (L j (vm B)),rfl⟩))
end
theorem zx:∀{as:List Addr} {b:List Value},Vals (as.map V.ref) b->b=as.map Value.ref
 | [],_,r=>by cases r;rfl
 | a::as,_,r=>by
  cases r with
  | cons r1 r2=>rw[zx r2,show _=Value.ref a from r1];rfl
theorem Yq:∀{as:List Addr} {kvs:List (Int×Int)},as.length=kvs.length->(∀(i:Nat) (a:Addr) (q:Int×Int),as[i]?=some a->kvs[i]?=some q->∃t u,IsTup h a #[.int q.1 t,.int q.2 u])->
  ∃ps:List (Key×Value),KV (kvs.map iiK) ps/\ps.length=kvs.length/\∀(j:Nat) (kv:Key×Value),ps[j]?=some kv->∃a key,as[j]?=some a/\IsTup h a #[key,kv.2]/\keyIs kv.1 key=true
 | [],[],_,_=>⟨[],.nil,rfl,fun j kv e=>by simp at e⟩
 | [],_::_,l,_=>by simp at l
 | _::_,[],l,_=>by simp at l
 | a::as,q::kvs,l,f=>by
  obtain⟨ps,o,p,r⟩:=Yq (as:=as) (kvs:=kvs) (by simpa using l) fun i a q m n=>f (i+1) a q (by simpa using m) (by simpa using n)
  obtain⟨t,u,e⟩:=f 0 a q rfl rfl;refine⟨(Sum.inl q.1,.int q.2 u)::ps,.cons ⟨rfl,u,rfl⟩ o,by rw[vO,p,vO],fun j kv c=>?_⟩;cases j with
  | zero=>simp at c;subst c;exact⟨a,_,rfl,e,ZR _ _⟩
  | succ j=>obtain⟨b,s,d,g,k⟩:=r j kv (by simpa using c);exact⟨b,s,by simpa using d,g,k⟩
section
variable{X:Cx}
theorem YS(G:X.calm=true):CallR X (.type "dict") (fun xs H Q=>∃(p:Addr) (as:List Addr) (kvs:List (Int×Int)),xs=[.ref p]/\H p=some (.lst (as.map V.ref))/\as.length=kvs.length/\
  (∀(i:Nat) (a:Addr) (q:Int×Int),as[i]?=some a->kvs[i]?=some q->H a=some (.tup [.int q.1,.int q.2]))/\∀d,H d=none->Q (.ref d) (upd H d (.dK (mergeK [] (kvs.map iiK))))):=by
 intro M s σ H xs us Q I r h;obtain⟨p,as,kvs,rfl,Z,B,ht,q⟩:=h;obtain⟨u,rfl,ru⟩:=vals1 r;cases ru;obtain⟨z,D,n,rv,lv,e⟩:=I.lstM Z;have W:=zx rv;subst W;rw[vt]at z;have J:p<s.heap.objs.size:=vH e;obtain⟨ps,kp,N,pt⟩:=Yq (h:=s.heap) B fun i a q S U=>by
  obtain⟨_,D,r',t'⟩:=I.hok a _ (ht i a q S U);cases r' with
  | cons ra rr=>
   cases rr with
   | cons rb rr=>
    cases rr;obtain⟨t1,rfl⟩:=ra;obtain⟨t2,rfl⟩:=rb;exact⟨t1,t2,t'⟩
 refine callType_codes (Q₁:=fun t g=>t = .ref s.heap.objs.size/\g={s with heap:=s.heap.push {cls:=.type "dict",data:=.dict #[]}}) PySem.F.kt_called_dict (PySem.F.kt_typeCall_dict_1 (.ref p)) PySem.F.entry_dict_init (kt_code_dict_new (.ref p) ⟨rfl,rfl⟩) ?_;rintro t g ⟨rfl,rfl⟩;have c:(s.heap.push {cls:=.type "dict",data:=.dict #[]}).DictOf (mixKind X.prog X.w) s.heap.objs.size []:=Heap.DictOf.new s.heap;have v:∀b o,s.heap.get? b=some o->(s.heap.push {cls:=.type "dict",data:=.dict #[]}).get? b=some o:=fun b o e=>vI _ e
 generalize s.heap.push {cls:=.type "dict",data:=.dict #[]}=h0 at c v;refine⟨c.typeIs (s:={s with heap:=h0}),PySem.F.args_dict_init_2 _ _,?_⟩;unfold Builtin.«dict.__init__»;refine um ?_;unfold Builtin.Dict.selfAndRest;refine um (wpAny_notOrdered_dict (c.typeIs (s:={s with heap:=h0})) ?_);show wpAny (model X.prog X.w) _ (pure (s.heap.objs.size,[Value.ref p])) _ _ _;refine ul ?_;show wpAny (model X.prog X.w) _ (Builtin.Dict.updateFrom "dict.__init__" s.heap.objs.size (.ref p) [] .none) _ _ _;unfold Builtin.Dict.updateFrom;refine um (wpAny_typeOf (T:="list") ⟨_,v _ _ e,rfl⟩ ?_);rw[ve (by decide)];refine um (noKeys (s:={s with heap:=h0}) (v _ _ e) rfl rfl rfl (I.ok.hd G) fun m tk K=>?_);rw[ve (show(none:Option Value).isNone=true from rfl)];have f:∀b o,s.heap.get? b=some o->m.get? b=some o:=fun b o e=>K b o (v b o e)
 have k:m.DictOf (mixKind X.prog X.w) s.heap.objs.size []:=c.keep K;have w:s.heap.objs.size<m.objs.size:=by obtain⟨_,_,_,hg,_⟩:=k;exact vH hg
 have lp:p<m.objs.size:=vX J w;refine um (wpAny_rule ?_);refine um (wpAny_pyIter_list (l:=p) (items:=(as.map Value.ref).toArray) ⟨_,f _ _ e,rfl,n,rfl⟩ ?_);refine ul ⟨plainId_quiet QF _,?_⟩;refine dul (knd:=mixKind X.prog X.w) (A:=X.A.in1) (d:=s.heap.objs.size) (it:=m.objs.size) (l:=p) (items:=as.map Value.ref) (res:=.none) (I.ok.hd G) (vD w) (Nat.ne_of_gt J) (Nat.ne_of_gt lp) ps 0 [] _
  ⟨_,Heap.get?_push_size _ rfl,rfl,rfl⟩ ⟨_,vI _ (f _ _ e),rfl,n,rfl⟩ (by rw[vt,B,N,Nat.zero_add]) (fun j kv Y=>?_) (k.push _) (by rw[length_nil,N,<-B,Nat.zero_add];exact z) fun h2 E k2 x=>?_
 ·obtain⟨a,ky,O,⟨o,F,P⟩,R⟩:=pt j kv Y;have L:a<s.heap.objs.size:=vH F;exact⟨a,ky,by rw[Nat.zero_add,vv,O];rfl,⟨o,vI _ (f _ _ F),P⟩,R,vD L,vD (vX L w)⟩
 ·refine⟨rfl,.ref s.heap.objs.size,upd H s.heap.objs.size (.dK (mergeK [] (kvs.map iiK))),I.laid (t':=E) (fun b o y=>k2 b o (vD (vH y)) (vD (vX (vH y) w)) (vI _ (f _ _ y))) (vc _) ?_,rfl,q _ (I.hok.fresh (vc _))⟩;have hm:=qB (kvs.map iiK) [];rw[length_nil,vt]at hm;have C:(s.heap.objs.size==sysModules)=false:=by
   rw[beq_eq_false_iff_ne];exact Nat.ne_of_gt I.big
  exact YZ (by lia) C (kp.merge .nil) x
end
theorem kM{H:Hp}:∀(ks:List Int),DVs H (ks.map V.int) (ks.map PyData.int)
 | []=>.nil
 | k::r=>.cons (.int k) (kM r)
theorem WQ(ks:List Int):PyData.eqv (.list (ks.map PyData.int)) (.list [])=decide (ks=[]):=by
 cases ks<;>simp[PyData.eqv,PyData.eqvAll]
theorem Xg(S:X.A.units+64<cLine):OpR X (compareOp .In) (fun x y H Q=>∃(a l:Addr) (as:List Addr) (hs:List (List Int)),x = .ref a/\y = .ref l/\H a=some (.lst [])/\H l=some (.lst (as.map V.ref))/\as.length=hs.length/\
  (∀(i:Nat) (b:Addr) (ks:List Int),as[i]?=some b->hs[i]?=some ks->H b=some (.lst (ks.map V.int)))/\Q (.bl (hs.any fun ks=>decide (ks=[]))) H):=by
 intro o s U H x y v u Q I L M h;obtain⟨a,l,as,hs,rfl,rfl,t,B,R,D,q⟩:=h;cases L;cases M;obtain⟨F,r,G,T⟩:=I.list (SqL.of B);have A:=zx r;subst A;obtain⟨N,J⟩:=Qq I (DV.lst t .nil) (show RelV (.ref a) (.ref a)from rfl)
 classical
 have p:∀(i:Nat) (b:Addr) (ks:List Int),as[i]?=some b->hs[i]?=some ks->∃c,Reads s.heap (.ref b) (.list (ks.map PyData.int)) c:=fun i b ks d f=>Qq I (DV.lst (D i b ks d f) (kM ks)) (show RelV (.ref b) (.ref b)from rfl)
 have n:∀(i:Nat) (b:Addr) (ks:List Int),as[i]?=some b->hs[i]?=some ks->decide (∃c,Reads s.heap (.ref b) (.list []) c)=decide (ks=[]):=fun i b ks d f=>by
  obtain⟨c,m⟩:=p i b ks d f;rw[decide_eq_decide];constructor
  ·rintro⟨O,K⟩;have e:=SeqAt.Reads.unique _ _ _ _ _ (show PyData.canLay0 (.list [])=true from rfl) K m;cases ks with
   | nil=>rfl
   | cons k r=>simp at e
  ·rintro rfl;exact⟨c,m⟩
 refine SeqAt.in_listAt (fun w=>decide (∃c,Reads s.heap w (.list []) c)) G.isList (fun w j=>?_) ⟨.bl _,H,I,rfl,?_⟩
 ·obtain⟨i,g,e⟩:=mem_iff_getElem.mp (show w∈as.map Value.ref by simpa using j);rw[getElem_map]at e;rw[vt]at g;subst e;have d:as[i]?=some as[i]:=vz g;have f:hs[i]?=some hs[i]:=vz (by lia);obtain⟨c,m⟩:=p i _ _ d f;have z:=SeqAt.eqAt_reads _ _ X.A.in1 s _ _ _ _ m J (by show PyData.canLayAll0 _=true;exact ke_canLayAll0 _) rfl (by
   show X.A.in1.units+min (PyData.depthAll _+1) (0+1)<cLine;have P:X.A.in1.units=X.A.units+1:=rfl;lia)
  rw[WQ,<-n i _ _ d f]at z;exact z
 ·have e:(as.map Value.ref).toArray.any (fun w=>decide (∃c,Reads s.heap w (.list []) c))=hs.any fun ks=>decide (ks=[]):=by
   rw[List.any_toArray,List.any_map,Bool.eq_iff_iff,any_eq_true,any_eq_true];constructor
   ·rintro⟨b,C,j⟩;obtain⟨i,g,rfl⟩:=mem_iff_getElem.mp C;exact⟨hs[i],getElem_mem _,by rw[<-n i _ _ (vz g) (vz (by lia))];exact j⟩
   ·rintro⟨ks,E,j⟩;obtain⟨i,g,rfl⟩:=mem_iff_getElem.mp E;refine⟨as[i],getElem_mem _,?_⟩;show decide _=true;rw[n i _ _ (vz (by lia)) (vz g)];exact j
  rw[e];exact q
section
variable{X:Cx}
def tTru(K:Frg)(ta:TE):TT:=fun σ H Q=>ta σ H fun x H'=>∃k,TruV K x H' k/\Q k H'
theorem wZ{a:Expr}{c:TE}(d:PE X a c)(e:∀b,isTrue a X.env b=(do let v <-b;standAt a.pos;holding [v] (truthy v))):PT X a (tTru X.K c):=w4 d e
end
theorem rd_tru{K:Frg}{a:TE}{b:St}{H:Hp}{Q:Bool->Hp->Prop}(h:a b H fun x H'=>∃k,TruV K x H' k/\Q k H'):tTru K a b H Q:=h
theorem Ze{K:Frg}{a b:Addr}{xs zs:List V}{k:Nat}{ci:List Nat}{g:TG}{z:TT}{w:TE}{A:St}{H:Hp}{Z:Addr->List V->Hp->Prop}(d:Nat->List V->Hp->Prop)(s:xs.length=zs.length)(B:d 0 [] H)(F:∀i ys H,i<=xs.length->d i ys H->SqL K H a xs/\SqL K H b zs)
  (hs:∀i u v ys H T H',xs[i]?=some u->zs[i]?=some v->d i ys H->Same H H'->H' T=some (.tup [u,v])->g (.ref T) (capS k ci A) H' fun c H2=>z c H2 fun b j=>if b=true then w c j fun v n=>ys.length<sizeLine/\d (i+1) (ys++[v]) n else d (i+1) ys j)
  (D:∀ys H,d xs.length ys H->ys.length<=sizeLine/\∀p,H p=none->Z p ys H) :
  ∃W:Nat->Nat->List V->Hp->Prop,(∃m,W 0 m [] H)/\∀i m ys H,W i m ys H->
   ((Itz K a b).stop i H/\ys.length<=sizeLine/\∀p,H p=none->Z p ys H)\/
   ((Itz K a b).go i H/\∃N:List V->Hp->Prop,(∀f H',N f H'->∃t,t<m/\W (i+1) t f H')/\∀x H',(Itz K a b).yld i H x H'->g x (capS k ci A) H' fun c H2=>z c H2 fun b j=>
    if b=true then w c j fun v n=>ys.length<sizeLine/\N (ys++[v]) n else N ys j):=by
 refine⟨fun i m ys H=>m=xs.length-i/\i<=xs.length/\d i ys H,⟨xs.length,by simp,vb _,B⟩,?_⟩;rintro i m ys H ⟨rfl,E,p⟩;obtain⟨q,r⟩:=F i ys H E p;by_cases l:i<xs.length
 ·refine .inr ⟨⟨xs,xs[i],zs,zs[i],q,by simp[l],r,by simp⟩,d (i+1),fun f H' G=>⟨xs.length-(i+1),by lia,rfl,l,G⟩,fun x H' y=>?_⟩;obtain⟨T,u,v,rfl,C,e,y,I⟩:=y;exact hs i u v ys H T H' (y xs q) (I zs r) p (fun b o h=>by rw[e,jf (je h C)];exact h) (by rw[e];exact jt)
 ·have e:i=xs.length:=by lia
  subst e;exact .inl ⟨⟨xs,zs,q,r,.inl (vc _)⟩,D ys H p⟩
section
variable{X:Cx}{e:Expr}{te:TE}
end
theorem We{K:Frg}{i j k:Nat}{a:Addr}{x y z:V}{b:St}{H:Hp}{R:St->Hp->Prop}(e:SqT K H a [x,y,z])(h:gName i x b H fun σ' H'=>gName j y σ' H' fun σ' H'=>gName k z σ' H' R):gTup K 3 (gCons (gName i) (gCons (gName j) (gCons (gName k) gNil))) (.ref a) b H R:=
 ⟨a,[x,y,z],rfl,e,rfl,x,[y,z],rfl,y,[z],rfl,z,[],rfl,rfl,h⟩
section
variable{prog:Program}{w:World}{A:Around}{E:Value->Shared->Prop}{s:Shared}
end
section
variable{X:Cx}{tg:Expr}
end
section
variable{X:Cx}
end
section
variable{prog:Program}{w:World}{A:Around}{E:Value->Shared->Prop}{s:Shared}
end
section
variable{X:Cx}{pos:Pos}
end
section
variable{σ:St}{H:Hp}{D:Ends}{Q:VK}{ta tb te:TE}
theorem rd_seq(h:t {D with nx:=u D} σ H):tSeq t u D σ H:=h
theorem rd_asg(h:te σ H fun x H1=>g x σ H1 D.nx):tAsg te g D σ H:=h
theorem rd_v0{r:St}(h:Q v H):tVar 0 (some v::r) H Q:=⟨v,rfl,h⟩
theorem rd_n0{r:St}{R:St->Hp->Prop}(h:R (some v::r) H):gName 0 v (a0::r) H R:=h
theorem rd_v1{r:St}(h:Q v H):tVar 1 (a0::some v::r) H Q:=⟨v,rfl,h⟩
theorem rd_n1{r:St}{R:St->Hp->Prop}(h:R (a0::some v::r) H):gName 1 v (a0::a1::r) H R:=h
theorem rd_v2{r:St}(h:Q v H):tVar 2 (a0::a1::some v::r) H Q:=⟨v,rfl,h⟩
theorem rd_n2{r:St}{R:St->Hp->Prop}(h:R (a0::a1::some v::r) H):gName 2 v (a0::a1::a2::r) H R:=h
theorem rd_v3{r:St}(h:Q v H):tVar 3 (a0::a1::a2::some v::r) H Q:=⟨v,rfl,h⟩
theorem rd_n3{r:St}{R:St->Hp->Prop}(h:R (a0::a1::a2::some v::r) H):gName 3 v (a0::a1::a2::a3::r) H R:=h
theorem rd_v4{r:St}(h:Q v H):tVar 4 (a0::a1::a2::a3::some v::r) H Q:=⟨v,rfl,h⟩
theorem rd_n4{r:St}{R:St->Hp->Prop}(h:R (a0::a1::a2::a3::some v::r) H):gName 4 v (a0::a1::a2::a3::a4::r) H R:=h
theorem rd_v5{r:St}(h:Q v H):tVar 5 (a0::a1::a2::a3::a4::some v::r) H Q:=⟨v,rfl,h⟩
theorem rd_n5{r:St}{R:St->Hp->Prop}(h:R (a0::a1::a2::a3::a4::some v::r) H):gName 5 v (a0::a1::a2::a3::a4::a5::r) H R:=h
theorem rd_v6{r:St}(h:Q v H):tVar 6 (a0::a1::a2::a3::a4::a5::some v::r) H Q:=⟨v,rfl,h⟩
theorem rd_n6{r:St}{R:St->Hp->Prop}(h:R (a0::a1::a2::a3::a4::a5::some v::r) H):gName 6 v (a0::a1::a2::a3::a4::a5::a6::r) H R:=h
theorem rd_v7{r:St}(h:Q v H):tVar 7 (a0::a1::a2::a3::a4::a5::a6::some v::r) H Q:=⟨v,rfl,h⟩
theorem rd_n7{r:St}{R:St->Hp->Prop}(h:R (a0::a1::a2::a3::a4::a5::a6::some v::r) H):gName 7 v (a0::a1::a2::a3::a4::a5::a6::a7::r) H R:=h
theorem rd_v8{r:St}(h:Q v H):tVar 8 (a0::a1::a2::a3::a4::a5::a6::a7::some v::r) H Q:=⟨v,rfl,h⟩
theorem rd_n8{r:St}{R:St->Hp->Prop}(h:R (a0::a1::a2::a3::a4::a5::a6::a7::some v::r) H):gName 8 v (a0::a1::a2::a3::a4::a5::a6::a7::a8::r) H R:=h
theorem rd_v9{r:St}(h:Q v H):tVar 9 (a0::a1::a2::a3::a4::a5::a6::a7::a8::some v::r) H Q:=⟨v,rfl,h⟩
theorem rd_n9{r:St}{R:St->Hp->Prop}(h:R (a0::a1::a2::a3::a4::a5::a6::a7::a8::some v::r) H):gName 9 v (a0::a1::a2::a3::a4::a5::a6::a7::a8::a9::r) H R:=h
theorem rd_v10{r:St}(h:Q v H):tVar 10 (a0::a1::a2::a3::a4::a5::a6::a7::a8::a9::some v::r) H Q:=⟨v,rfl,h⟩
theorem rd_n10{r:St}{R:St->Hp->Prop}(h:R (a0::a1::a2::a3::a4::a5::a6::a7::a8::a9::some v::r) H):gName 10 v (a0::a1::a2::a3::a4::a5::a6::a7::a8::a9::a10::r) H R:=h
theorem rd_v11{r:St}(h:Q v H):tVar 11 (a0::a1::a2::a3::a4::a5::a6::a7::a8::a9::a10::some v::r) H Q:=⟨v,rfl,h⟩
theorem rd_n11{r:St}{R:St->Hp->Prop}(h:R (a0::a1::a2::a3::a4::a5::a6::a7::a8::a9::a10::some v::r) H):gName 11 v (a0::a1::a2::a3::a4::a5::a6::a7::a8::a9::a10::a11::r) H R:=h
theorem rd_v12{r:St}(h:Q v H):tVar 12 (a0::a1::a2::a3::a4::a5::a6::a7::a8::a9::a10::a11::some v::r) H Q:=⟨v,rfl,h⟩
theorem rd_n12{r:St}{R:St->Hp->Prop}(h:R (a0::a1::a2::a3::a4::a5::a6::a7::a8::a9::a10::a11::some v::r) H):gName 12 v (a0::a1::a2::a3::a4::a5::a6::a7::a8::a9::a10::a11::a12::r) H R:=h
theorem rd_v13{r:St}(h:Q v H):tVar 13 (a0::a1::a2::a3::a4::a5::a6::a7::a8::a9::a10::a11::a12::some v::r) H Q:=⟨v,rfl,h⟩
theorem rd_n13{r:St}{R:St->Hp->Prop}(h:R (a0::a1::a2::a3::a4::a5::a6::a7::a8::a9::a10::a11::a12::some v::r) H):gName 13 v (a0::a1::a2::a3::a4::a5::a6::a7::a8::a9::a10::a11::a12::a13::r) H R:=h
theorem rd_v14{r:St}(h:Q v H):tVar 14 (a0::a1::a2::a3::a4::a5::a6::a7::a8::a9::a10::a11::a12::a13::some v::r) H Q:=⟨v,rfl,h⟩
theorem rd_n14{r:St}{R:St->Hp->Prop}(h:R (a0::a1::a2::a3::a4::a5::a6::a7::a8::a9::a10::a11::a12::a13::some v::r) H):gName 14 v (a0::a1::a2::a3::a4::a5::a6::a7::a8::a9::a10::a11::a12::a13::a14::r) H R:=h
theorem rd_v15{r:St}(h:Q v H):tVar 15 (a0::a1::a2::a3::a4::a5::a6::a7::a8::a9::a10::a11::a12::a13::a14::some v::r) H Q:=⟨v,rfl,h⟩
theorem rd_n15{r:St}{R:St->Hp->Prop}(h:R (a0::a1::a2::a3::a4::a5::a6::a7::a8::a9::a10::a11::a12::a13::a14::some v::r) H):gName 15 v (a0::a1::a2::a3::a4::a5::a6::a7::a8::a9::a10::a11::a12::a13::a14::a15::r) H R:=h
theorem rd_const(h:Q v H):tC v σ H Q:=h
theorem rd_op(h:ta σ H fun x H1=>tb σ H1 fun y H2=>r x y H2 Q):tOp r ta tb σ H Q:=h
theorem rd_un{r:V->Hp->VK->Prop}(h:ta σ H fun x H1=>r x H1 Q):tUn r ta σ H Q:=h
theorem rd_i0{g:Int->Int->V}(h:Q (g i j) H):rI0 g (.int i) (.int j) H Q:=⟨i,j,rfl,rfl,h⟩
theorem XN{C:Int->Int->Prop}{g:Int->Int->V}(c:C i j)(h:Q (g i j) H):rI C g (.int i) (.int j) H Q:=⟨i,j,rfl,rfl,c,h⟩
theorem rd_u{g:Int->V}(h:Q (g i) H):rU g (.int i) H Q:=⟨i,rfl,h⟩
theorem rd_eqI(h:Q (.bl (decide (i=j))) H):rEq (.int i) (.int j) H Q:=by
 refine⟨rfl,?_⟩;rw[show decide (V.int i=V.int j)=decide (i=j) by simp];exact h
theorem rd_neI(h:Q (.bl (!decide (i=j))) H):rNe (.int i) (.int j) H Q:=by
 refine⟨rfl,?_⟩;rw[show decide (V.int i=V.int j)=decide (i=j) by simp];exact h
theorem rd_eqS(h:Q (.bl (decide (i=j))) H):rEq (.str i) (.str j) H Q:=by
 refine⟨rfl,?_⟩;rw[show decide (V.str i=V.str j)=decide (i=j) by simp];exact h
theorem rd_if(h:c σ H fun b H1=>if b=true then t D σ H1 else u D σ H1):tIfS c t u D σ H:=h
theorem rd_test{R:Bool->Hp->Prop}(h:te σ H fun x H'=>∃k,x = .bl k/\R k H'):tTest te σ H R:=h
theorem rd_tB{R:Bool->Hp->Prop}(h:te σ H fun x H'=>∃k,x = .bl k/\R k H'):tB te σ H R:=h
theorem rd_blP{R:Bool->Prop}(h:R k):∃a,V.bl k = .bl a/\R a:=⟨k,rfl,h⟩
theorem rd_not{R:Bool->Hp->Prop}(h:t σ H fun c H1=>R (!c) H1):tNot t σ H R:=h
theorem rd_or{R:Bool->Hp->Prop}(h:t σ H fun c H1=>if c=true then R true H1 else u σ H1 R):tOr t u σ H R:=h
theorem rd_ifE(h:t σ H fun c H1=>if c=true then ta σ H1 Q else tb σ H1 Q):tIf t ta tb σ H Q:=h
theorem rd_ret(h:te σ H D.rt):tRet te D σ H:=h
theorem rd_next(h:D.nx σ H):tNext D σ H:=h
theorem rd_drop(h:te σ H fun _ H1=>D.nx σ H1):tDrop te D σ H:=h
theorem rd_cb{r:List V->Hp->VK->Prop}(h:t σ H fun vs H1=>r vs H1 Q):tCB r t σ H Q:=h
theorem rd_call{sp:Sp}(h:t σ H fun vs H1=>sp (vs++dvs) H1 Q E):tCall sp dvs E t σ H Q:=h
theorem rd_fld{K:Frg}{f:Str}(h:ta σ H fun x H1=>∃a C dx fs v,x = .ref a/\H1 a=some (.ins C dx fs)/\Cls K C/\NoAttr K C f/\fs.lookup f=some v/\Q v H1):tFld K ta f σ H Q:=h
theorem rd_sfld{K:Frg}{f:Str}(h:tb σ H fun y H1=>ta σ H1 fun x H2=>∃a C dx fs,x = .ref a/\H2 a=some (.ins C dx fs)/\Cls K C/\NoAttr K C f/\fs.length<1000/\D.nx σ (upd H2 a (.ins C dx (putF f y fs)))):sFld K ta tb f D σ H:=h
theorem rd_make{sp:Sp}(h:t σ H fun vs H1=>∀x dx,H1 x=none->H1 dx=none->dx≠x->sp (.ref x::(vs++dvs)) (upd (upd H1 dx (.own x)) x (.ins C dx [])) (fun v H2=>v = .non/\Q (.ref x) H2) E):tMake C sp dvs E t σ H Q:=h
theorem rd_nil{R:List V->Hp->Prop}(h:R [] H):tNil σ H R:=h
theorem rd_cons{R:List V->Hp->Prop}(h:ta σ H fun x H1=>tr σ H1 fun xs H2=>R (x::xs) H2):tCons ta tr σ H R:=h
theorem rd_lst(h:t σ H fun xs H1=>xs.length<=sizeLine/\∀p,H1 p=none->Q (.ref p) (upd H1 p (.lst xs))):tLst t σ H Q:=h
theorem rd_tup(h:t σ H fun xs H1=>xs.length<=sizeLine/\∀p,H1 p=none->Q (.ref p) (upd H1 p (.tup xs))):tTup t σ H Q:=h
theorem rd_bm{K:Frg}{T:String}{r:V->List V->Hp->VK->Prop}{t:TA}(h:te σ H fun x H1=>tyV K T x H1/\t σ H1 fun xs H2=>r x xs H2 Q):tBM K T r te t σ H Q:=h
theorem rd_sl{r:V->Option Int->Option Int->Hp->VK->Prop}(h:te σ H fun x H1=>tl σ H1 fun l H2=>th σ H2 fun u a=>r x l u a Q):tSl r te tl th σ H Q:=h
theorem rd_nopart{R:Option Int->Hp->Prop}(h:R none H):tNoPart σ H R:=h
theorem rd_part{R:Option Int->Hp->Prop}(h:te σ H fun x H1=>∃i,x = .int i/\R (some i) H1):tPart te σ H R:=h
theorem rd_int{R:Int->Prop}(h:R i):∃a,V.int i = .int a/\R a:=⟨i,rfl,h⟩
theorem iteD{p A B:Prop}[Decidable p](a:p->A)(b:¬p->B):if decide p=true then A else B:=by
 by_cases h:p
 ·rw[ve (vF h)];exact a h
 ·rw[vd (by simpa using h)];exact b h
theorem iteN{p A B:Prop}[Decidable p](a:¬p->A)(b:p->B):if(!decide p)=true then A else B:=by
 by_cases h:p
 ·rw[vd (by simpa using h)];exact b h
 ·rw[ve (by simpa using h)];exact a h
theorem rd_rng1{a:TA}{R:It->Hp->Prop}(h:a σ H fun vs H1=>∃j:Int,vs=[.int j]/\-(2^62)<=j/\j<2^62/\R (Itr 0 j.toNat) H1):iRng1 a σ H R:=h
theorem rd_iList{K:Frg}{R:It->Hp->Prop}(h:te σ H fun x H1=>∃a,x = .ref a/\(∃xs,SqL K H1 a xs)/\R (Itl K a) H1):iList K te σ H R:=h
theorem rd_p18(h:Q (.int (10^18)) H):rI CPow (fun i j=>.int (i^j.toNat)) (.int 10) (.int 18) H Q:=⟨10,18,rfl,rfl,⟨by decide,by decide,by decide⟩,h⟩
theorem rd_p40(h:Q (.int (10^40)) H):rI CPow (fun i j=>.int (i^j.toNat)) (.int 10) (.int 40) H Q:=⟨10,40,rfl,rfl,⟨by decide,by decide,by decide⟩,h⟩
theorem rd_p60(h:Q (.int (10^60)) H):rI CPow (fun i j=>.int (i^j.toNat)) (.int 10) (.int 60) H Q:=⟨10,60,rfl,rfl,⟨by decide,by decide,by decide⟩,h⟩
theorem rd_aug(h:tVar i σ H fun x a=>te σ a fun y H1=>ti x y H1 fun z H2=>gName i z σ H2 D.nx):tAug i te ti D σ H:=h
theorem rd_ipI{f:Int->Int->Int}(h:Q (.int (f i j)) H):ipI f (.int i) (.int j) H Q:=⟨i,j,rfl,rfl,h⟩
theorem rd_for{c:TS} (h:wi σ H fun J H1=>∃W:Nat->Nat->St->Hp->Prop,(∃m,W 0 m σ H1)/\∀i m σ H,W i m σ H->
 (J.stop i H/\D.nx σ H)\/(J.go i H/\∃N:St->Hp->Prop,(∀σ' H',N σ' H'->∃b,b<m/\W (i+1) b σ' H')/\∀x H',J.yld i H x H'->g x σ H' fun a H2=>c {D with nx:=N,ct:=N,bk:=D.nx} a H2)):tFor wi g c D σ H:=h
theorem rd_comp (h:wi σ H fun J H1=>∃W:Nat->Nat->List V->Hp->Prop,(∃m,W 0 m [] H1)/\∀i m ys H,W i m ys H->
 (J.stop i H/\ys.length<=sizeLine/\∀p,H p=none->Q (.ref p) (upd H p (.lst ys)))\/
 (J.go i H/\∃N:List V->Hp->Prop,(∀a H',N a H'->∃e,e<m/\W (i+1) e a H')/\∀x H',J.yld i H x H'->g x (capS n ci σ) H' fun c H2=>tf c H2 fun b d=>
  if b=true then te c d fun v f=>ys.length<sizeLine/\N (ys++[v]) f else N ys d)):tComp wi n ci g tf te σ H Q:=h
theorem rd_yes{R:Bool->Hp->Prop}(h:R true H):tYes σ H R:=h
theorem Jv{n:Nat}{ci:List Nat}{g:TG}{x:V}{σ':St}{R:St->Hp->Prop}(e:capS n ci σ=σ')(h:g x σ' H R):g x (capS n ci σ) H R:=by rw[e];exact h
theorem jw{t:TS}{σ':St}(e:σ=σ')(h:t D σ' H):t D σ H:=by subst e;exact h
theorem Q6(a:0<b)(d : -B<=x)(e:x<=B) : -B<=x/b/\x/b<=B:=by
 have c:0<=B:=by lia
 constructor
 ·rw[Int.le_ediv_iff_mul_le a];have:=Int.mul_le_mul_of_nonneg_left (show(1:Int)<=b by lia) c;rw[Int.neg_mul];lia
 ·have:x/b<B+1:=by
   rw[Int.ediv_lt_iff_lt_mul a];have:=Int.mul_le_mul_of_nonneg_left (show(1:Int)<=b by lia) (show 0<=B+1 by lia);lia
  lia
theorem yJ{H H':Hp}(h:H p=none)(e:upd H p o=H'):Same H H':=fun b u q=>by rw[<-e,jf (je q h)];exact q
theorem ZB{H H':Hp}(e:upd H p o=H'):H' p=some o:=by rw[<-e];exact jt
end
theorem ixLm{K:Frg}{p:Addr}{xs:List V}{i:Int}{v:V}{H:Hp}{Q:VK}(h:SqL K H p xs)(e:atI xs i=some v)(q:Q v H):rIxL K (.ref p) (.int i) H Q:=⟨p,xs,i,v,rfl,rfl,h,e,q⟩
theorem ixTm{K:Frg}{p:Addr}{xs:List V}{i:Int}{v:V}{H:Hp}{Q:VK}(h:SqT K H p xs)(e:atI xs i=some v)(q:Q v H):rIxT K (.ref p) (.int i) H Q:=⟨p,xs,i,v,rfl,rfl,h,e,q⟩
end L2
local macro_rules | `(tactic| walk_at "side") => `(tactic| first | with_reducible assumption | exact L2.cdivB (by lia) (by lia) | exact L2.mulOk (by lia) (by lia) (by lia) (by lia) | exact L2.mulOkC (by first | assumption | exact L2.Kq (by assumption) _) (by lia) (by lia) | lia)
local macro_rules | `(tactic| walk_at $s:str) => do
 let ws:=s.getString.splitOn " "
 if ws.head?==some "f" then
  let vs:=if ws.length==3 then["p"++ws.getD 1 "","hp"++ws.getD 1 "","H"++ws.getD 1 "","s"++ws.getD 1 "",ws.getD 2 ""++ws.getD 1 ""]else ws.drop 1
  let i:=fun(k:Nat)=>Lean.mkIdent (Lean.Name.mkSimple (vs.getD k ""))
  return <-`(tactic| (intro $(i 0):ident $(i 1):ident;generalize eH:L2.upd _ $(i 0) _ = $(i 2):ident;have $(i 3):ident:=L2.yJ $(i 1) eH;have $(i 4):ident:=L2.ZB eH;clear eH))
 let ns:=match s.getString with | "goA"=>"rd_seq rd_asg rd_op rd_const rd_i0 rd_cons rd_nil rd_call rd_ret rd_if rd_test rd_tB rd_blP rd_not rd_next" | "goB"=>"rd_un rd_u rd_or rd_ifE rd_drop rd_cb rd_lst rd_tup rd_bm rd_sl rd_nopart rd_part rd_eqI rd_neI rd_eqS rd_int rd_rng1 rd_iList rd_ipI rd_aug rd_for rd_comp rd_yes rd_dget rd_iTup rd_iEnum rd_iZip rd_dnew rd_dput rd_bm0 rd_tru rd_fld rd_sfld rd_make" | "goP"=>"rd_p18 rd_p40 rd_p60" | "goV"=>"rd_v0 rd_v1 rd_v2 rd_v3 rd_v4 rd_v5 rd_v6 rd_v7 rd_v8 rd_v9 rd_v10 rd_v11 rd_v12 rd_v13 rd_v14 rd_v15" | "goN"=>"rd_n0 rd_n1 rd_n2 rd_n3 rd_n4 rd_n5 rd_n6 rd_n7 rd_n8 rd_n9 rd_n10 rd_n11 rd_n12 rd_n13 rd_n14 rd_n15" | _=>""
 if ns == "" then Lean.Macro.throwUnsupported
 let as <-(ns.splitOn " ").toArray.mapM fun n=>`(Lean.Parser.Tactic.tacticSeq| refine $(Lean.mkIdent (Lean.Name.mkStr2 "L2" n)) ?_)
 `(tactic| with_reducible (first $[| $as]*))
local macro_rules | `(tactic| walk_at "go1") => `(tactic| first | walk_at "goA" | walk_at "goV" | walk_at "goB" | walk_at "goN" | walk_at "goP" | (with_reducible refine L2.XN ?c ?_; (case c => ((try dsimp only); walk_at "side"))))
local macro_rules | `(tactic| walk_at "g") => `(tactic| repeat walk_at "go1")
local macro_rules | `(tactic| exists $e) => `(tactic| (walk_at "g"; refine $e))
namespace Fs
end Fs
namespace Rp
end Rp
namespace Rp
end Rp
namespace Pr
open PySem L2
noncomputable def cell(ns:List Int)(k:Int):Int:=ns.getD k.toNat 0
inductive sp_cell_at(K:Frg)(vs:List V)(H:Hp)(Q:VK)(xk:XK):Prop
 | mk (a:Addr) (ns:List Int) (k:Int) (_:vs=[.ref a,.int k]) (_:SqL K H a (ns.map V.int)) (_:ns.length<=63) (_:0<=k) (_:Q (.int (cell ns k)) H):sp_cell_at K vs H Q xk
theorem Kp{ns:List Int}(h:∀x∈ns,Builtin.Int.intBits x<=1048576)(k:Int):Builtin.Int.intBits (cell ns k)<=1048576:=by
 unfold cell;rw[vy];cases e:ns[k.toNat]? with
 | none=>decide
 | some x=>exact h x (vm e)
theorem WJ{ns:List Int}{k:Int}(c:0<=k)(h:k<(ns.length:Int)):atI (ns.map V.int) k=some (.int (cell ns k)):=by
 have b:k=((k.toNat:Nat):Int):=by lia
 have a:k.toNat<ns.length:=by lia
 have q:atI (ns.map V.int) ((k.toNat:Nat):Int)=some (.int ns[k.toNat]):=JL (by rw[vv,vz a]<;>rfl);rw[<-b]at q;rw[q];unfold cell;rw[vy,vz a];rfl
end Pr
namespace Pr
open PySem L2
inductive sp_law(K:Frg)(vs:List V)(H:Hp)(Q:VK)(xk:XK):Prop
 | mk (a:Addr) (ns:List Int) (_:vs=[.ref a]) (_:SqL K H a (ns.map V.int)) (_:ns.length<=63) (_:(∀x∈ns,Builtin.Int.intBits x<=1048576)) (_:∀H',Q (.bl true) H'):sp_law K vs H Q xk
end Pr
namespace Pr
open PySem L2
end Pr
namespace Pr
open PySem L2
end Pr
namespace Pr
open PySem L2
end Pr
namespace Pr
open PySem L2
end Pr
namespace Pr
open PySem L2
end Pr
namespace Pr
open PySem L2
end Pr
namespace Ws
open PySem PySem.NumText L2
noncomputable def lets:Str:="abcdefghijklmnopqrstuvwxyz"
noncomputable def among(x z:Str):Bool:=decide (∀c∈x.cps.toList,c∈z.cps.toList)
noncomputable def isW(x:Str):Bool:=decide (1<=x.length/\x.length<=8)&&among x lets
end Ws
namespace Ws
open PySem PySem.NumText L2
end Ws
namespace Ws
open PySem L2
end Ws
namespace Rm
open PySem PySem.NumText PyProof.Rows L2
theorem wM:c∈Ws.lets.cps.toList↔97<=c/\c<=122:=by
 rw[show Ws.lets.cps.toList=List.range' 97 26 by decide +kernel,List.mem_range'_1];lia
open PySem L2
theorem none_of{H H':Hp}(s:Same H H')(h:H' p=none):H p=none:=by
 cases e:H p with
 | none=>rfl
 | some u=>rw[s _ _ e]at h;cases h
inductive Fm where
 | hold (n:Int) | ring (x:Str) (n:Int) | rise (x:Str) (h n:Int) | row (ps:List Str) | side (ps:List Str) | again (k:Int) (x:Str)
noncomputable def FormAt(H:Hp)(a:Addr):Fm->Prop
 | .hold n=>H a=some (.tup [.str "hold",.int n])
 | .ring x n=>H a=some (.tup [.str "ring",.str x,.int n])
 | .rise x h n=>H a=some (.tup [.str "raise",.str x,.int h,.int n])
 | .row ps=>∃b,H a=some (.tup [.str "row",.ref b])/\H b=some (.tup (ps.map V.str))
 | .side ps=>∃b,H a=some (.tup [.str "side",.ref b])/\H b=some (.tup (ps.map V.str))
 | .again k x=>H a=some (.tup [.str "again",.int k,.str x])
def PartAt(H:Hp)(a:Addr)(p:Str×Fm):Prop:=∃b,H a=some (.tup [.str p.1,.ref b])/\FormAt H b p.2
def LimbAt(H:Hp)(a:Addr)(p:Str×Int):Prop:=H a=some (.tup [.str p.1,.int p.2])
def All2{α:Type}(R:Addr->α->Prop)(as:List Addr)(xs:List α):Prop:=as.length=xs.length/\∀(i:Nat) (a:Addr) (x:α),as[i]?=some a->xs[i]?=some x->R a x
theorem All2.nil{b:Type}{R:Addr->b->Prop}:All2 R [] []:=⟨rfl,fun i a x h=>by simp at h⟩
theorem All2.mono{b:Type}{R S:Addr->b->Prop}{as:List Addr}{xs:List b}(h:All2 R as xs)(k:∀a x,R a x->S a x):All2 S as xs:=⟨h.1,fun i a x c d=>k a x (h.2 i a x c d)⟩
theorem All2.snoc{f:Type}{R:Addr->f->Prop}{as:List Addr}{xs:List f}{a:Addr}{x:f}(h:All2 R as xs)(k:R a x):All2 R (as++[a]) (xs++[x]):=by
 have j:=h.1;refine⟨by simp[j],fun i b y c d=>?_⟩;by_cases g:i<as.length
 ·rw[vA g]at c;rw[vA (by lia)]at d;exact h.2 i b y c d
 ·rw[vB (by lia)]at c;rw[vB (by lia)]at d;have e:i-as.length=0:=by
   have:=(vx.mp c).1;simp at this;lia
  rw[e]at c;rw[show i-xs.length=0 by lia]at d;simp at c d;subst c d;exact k
theorem All2.get{b:Type}{R:Addr->b->Prop}{as:List Addr}{xs:List b}{i:Nat}{x:b}(h:All2 R as xs)(d:xs[i]?=some x):∃a,as[i]?=some a/\R a x:=by
 have e:=(vx.mp d).1;have f:=h.1;have c:as[i]?=some as[i]:=vz (by lia);exact⟨_,c,h.2 i _ _ c d⟩
section
variable{H H':Hp}{z:Ra}{m:Rr}
end
section
variable{m:Rr}{f:Fm}{ks:List Int}{g:Int}
theorem getD_snoc{a:Type}{l:List a}{x d:a}{j:Nat}(h:j<l.length):(l++[x]).getD j d=l.getD j d:=by
 rw[vy,vy,vA h]
end
theorem Z9{as:List Addr}{i:Int}{a:Addr}(b:0<=i)(h:as[i.toNat]?=some a):atI (as.map V.ref) i=some (.ref a):=by
 have e:atI (as.map V.ref) ((i.toNat:Nat):Int)=some (.ref a):=JL (by rw[vv,h];rfl);rw[Int.toNat_of_nonneg b]at e;exact e
open PySem PySem.Spec PyProof.Rows L2
theorem ZU:∀{ks:List Int} {lo hi:Int},ks.Pairwise (· < ·)->(∀k∈ks,lo<=k/\k<hi)->ks.length<=(hi-lo).toNat
 | [],_,_,_,_=>vb _
 | k::r,lo,hi,h,b=>by
  have c:=ZU (ks:=r) (lo:=k+1) (hi:=hi) (pairwise_cons.mp h).2 fun x a=>⟨(pairwise_cons.mp h).1 x a,(b x (vp _ a)).2⟩
  have d:=b k vq;rw[vO];lia
theorem kP(n:Int):∀hs:List Int,inV (.int n) (hs.map V.int)=decide (n∈hs)
 | []=>rfl
 | h::r=>by
  have a:=kP n r;unfold inV at a|-;rw[v7,any_cons,a];have e:eqV (.int h) (.int n)=decide (h=n):=by
   show decide _=_;simp
  rw[e,Bool.eq_iff_iff];simp only[Bool.or_eq_true,decide_eq_true_eq,mem_cons];constructor
  ·rintro(x | x)
   ·exact .inl x.symm
   ·exact .inr x
  ·rintro(x | x)
   ·exact .inl x.symm
   ·exact .inr x
theorem inI(n:Int)(hs:List Int):(if false=true then !inV (.int n) (hs.map V.int)else inV (.int n) (hs.map V.int))=decide (n∈hs):=by rw[vd (by decide),kP]
theorem flats:∀hs:List Int,(hs.map V.int).all flatV=true
 | []=>rfl
 | h::r=>by rw[v7,all_cons,flats r];rfl
theorem take_snoc{a:Type}{l:List a}{i:Nat}{x:a}(h:l[i]?=some x):l.take (i+1)=l.take i++[x]:=by
 rw[List.take_add_one,h];rfl
theorem K0{c hs:List Int}(e:c.Perm hs)(f:hs.Nodup)(d:c.Pairwise (·<=·)):c.Pairwise (· < ·):=
 (List.Pairwise.and d (e.nodup_iff.mpr f)).imp fun {a b} h=>by have g:=h.1;have i:a≠b:=h.2;lia
def Shp(n:Nat)(d:PyData):Prop:=d.canLay0=true/\d.depth<=n
theorem Shp.int:Shp 0 (.int i):=⟨rfl,vc _⟩
theorem Shp.str(h:PyData.strOk x=true):Shp 0 (.str x):=⟨h,vc _⟩
theorem Shp.mono(h:Shp n d)(a:n<=k):Shp k d:=⟨h.1,vU h.2 a⟩
theorem yM:∀{ds:List PyData},(∀d∈ds,Shp n d)->PyData.canLayAll0 ds=true/\PyData.depthAll ds<=n
 | [],_=>⟨rfl,vb _⟩
 | d::r,h=>by
  have a:=h d vq;have b:=yM (ds:=r) fun x c=>h x (vp _ c)
  constructor
  ·show(d.canLay0&&PyData.canLayAll0 r)=true;rw[a.1,b.1];rfl
  ·show max d.depth (PyData.depthAll r)<=n;exact Nat.max_le.mpr ⟨a.2,b.2⟩
theorem Shp.tup(h:∀d∈ds,Shp n d):Shp (n+1) (.tuple ds):=⟨(yM h).1,Nat.succ_le_succ (yM h).2⟩
theorem Shp.ok(h:Shp n d)(a:n<=64):SeqAt.shaped d=true:=by
 unfold SeqAt.shaped;rw[h.1,Bool.true_and];exact vF (vU h.2 a)
theorem Km(h:Ws.isW x=true):PyData.strOk x=true:=by
 unfold Ws.isW Ws.among at h;rw[Bool.and_eq_true]at h;have a:=of_decide_eq_true h.2;unfold PyData.strOk;rw[Array.all_eq_true_iff_forall_mem];intro c b;have:=wM.mp (a c (by simpa using b));exact vF (by lia)
theorem yk{H:Hp}:∀(xs:List Str),DVs H (xs.map V.str) (xs.map PyData.str)
 | []=>.nil
 | x::r=>.cons (.str x) (yk r)
noncomputable def FmWs:Fm->Prop
 | .hold n=>0<=n/\n<=10^18
 | .ring x n=>Ws.isW x=true/\0<=n/\n<=10^18
 | .rise x h n=>Ws.isW x=true/\0<=h/\h<=10^18/\0<=n/\n<=10^18
 | .row ps=>ps.length<=8/\∀x∈ps,Ws.isW x=true
 | .side ps=>ps.length<=8/\∀x∈ps,Ws.isW x=true
 | .again k x=>0<=k/\k<=10^18/\Ws.isW x=true
theorem Zm{n:Nat}{xs:List Str}(h:∀x∈xs,Ws.isW x=true):∀d∈xs.map PyData.str,Shp n d:=fun d a=>by
 obtain⟨x,b,rfl⟩:=vJ.mp a;exact(Shp.str (Km (h x b))).mono (vb _)
structure BookAt(H:Hp)(b pl pp:Addr)(las pas:List Addr)(ls:List (Str×Int))(ps:List (Str×Fm)):Prop where
 t:H b=some (.tup [.ref pl,.ref pp])
 l:H pl=some (.lst (las.map V.ref))
 la:All2 (LimbAt H) las ls
 p:H pp=some (.lst (pas.map V.ref))
 pa:All2 (PartAt H) pas ps
theorem FormAt.same{H H':Hp}(s:Same H H')(h:FormAt H a f):FormAt H' a f:=by
 cases f with
 | row ps=>obtain⟨b,c,d⟩:=h;exact⟨b,s _ _ c,s _ _ d⟩
 | side ps=>obtain⟨b,c,d⟩:=h;exact⟨b,s _ _ c,s _ _ d⟩
 | hold n=>exact s _ _ h
 | ring x n=>exact s _ _ h
 | rise x g n=>exact s _ _ h
 | again x n=>exact s _ _ h
theorem PartAt.same{H H':Hp}(s:Same H H')(h:PartAt H a p):PartAt H' a p:=by
 obtain⟨b,c,d⟩:=h;exact⟨b,s _ _ c,FormAt.same s d⟩
theorem BookAt.same{H H':Hp}(B:BookAt H b pl pp las pas ls ps)(s:Same H H'):BookAt H' b pl pp las pas ls ps:=
 ⟨s _ _ B.t,s _ _ B.l,B.la.mono fun a x h=>s _ _ h,s _ _ B.p,B.pa.mono fun a x h=>PartAt.same s h⟩
open PyProof.Rows.KTD (inKeys Dat)
theorem at0:atI (x::xs) 0=some x:=JL (j:=0) rfl
theorem iteB0{A B:Prop}(e:b=false)(h:B):if b=true then A else B:=by rw[e];exact h
theorem iteB1{A B:Prop}(e:b=true)(h:A):if b=true then A else B:=by rw[e];exact h
theorem All2.at_ref{e:Type}{R:Addr->e->Prop}{as:List Addr}{xs:List e}{i:Nat}{v:V}(h:All2 R as xs)(c:(as.map V.ref)[i]?=some v):∃a x,v = .ref a/\xs[i]?=some x/\R a x:=by
 rw[vv]at c;obtain⟨a,b,rfl⟩:=vh.mp c;have f:=(vx.mp b).1;have g:=h.1;have d:xs[i]?=some xs[i]:=vz (by lia);exact⟨a,_,rfl,d,h.2 i a _ b d⟩
theorem QE:∀{n:Nat} {hs:List Int},hs.Nodup->(∀k∈hs,0<=k/\k<(n:Int))->hs.length<=n
 | 0,hs,_,h=>by
  cases hs with
  | nil=>exact vc _
  | cons k r=>have:=h k vq;lia
 | n+1,hs,nd,h=>by
  by_cases e:(n:Int)∈hs
  ·have i:=QE (n:=n) (nd.erase (n:Int)) fun k a=>by
    have b:=h k (List.mem_of_mem_erase a);have c:k≠(n:Int):=fun z=>nd.not_mem_erase (z▸a)
    lia
   have l:=List.length_erase_of_mem e;lia
  ·have i:=QE (n:=n) nd fun k a=>by
    have b:=h k a;have c:k≠(n:Int):=fun z=>e (z▸a)
    lia
   lia
noncomputable def Fm.ns:Fm->List Str
 | .row ps=>ps
 | .side ps=>ps
 | .again _ x=>[x]
 | _=>[]
noncomputable def numK(xs:List Str):List (Key×V):=xs.zipIdx.map fun p=>(Sum.inr p.1,.int (p.2:Nat))
theorem KN(xs:List Str)(x:Str):numK (xs++[x])=numK xs++[(Sum.inr x,.int (xs.length:Nat))]:=by
 unfold numK;rw[List.zipIdx_append,vk];simp
theorem wS(xs:List Str):(numK xs).length=xs.length:=by simp[numK]
theorem ZY(xs:List Str):(numK xs).map (·.1)=xs.map Sum.inr:=by
 unfold numK;rw[v4];have e:∀(k:Nat) (xs:List Str),(xs.zipIdx k).map ((fun x=>x.1)∘fun p:Str×Nat=>((Sum.inr p.1:Key),V.int (p.2:Nat)))=xs.map Sum.inr:=fun k xs=>by
  induction xs generalizing k with
  | nil=>rfl
  | cons x r ih=>rw[List.zipIdx_cons,v7,v7,ih];rfl
 exact e 0 xs
theorem W6{xs:List Str}{j:Nat}{x:Str}(h:xs[j]?=some x):(numK xs)[j]?=some (Sum.inr x,.int (j:Nat)):=by
 unfold numK;rw[vv,List.getElem?_zipIdx,h];simp
theorem WA:∀{kvs:List (Key×V)} {j:Nat} {k:Key} {v:V},(kvs.map (·.1)).Nodup->kvs[j]?=some (k,v)->valV kvs k=some v
 | [],j,k,v,_,h=>by simp at h
 | p::r,0,k,v,_,h=>by
  simp at h;subst h;unfold valV;simp
 | p::r,j+1,k,v,nd,h=>by
  rw[v7,nodup_cons]at nd;have a:r[j]?=some (k,v):=by simpa using h
  have c:p.1≠k:=fun e=>nd.1 (e▸vJ.mpr ⟨(k,v),vm a,rfl⟩)
  have b:=WA nd.2 a;unfold valV at b|-;rw[List.find?_cons,vG c];exact b
theorem Yl{xs:List Str}(a:xs.Nodup){j:Nat}{x:Str}(h:xs[j]?=some x):valV (numK xs) (Sum.inr x)=some (.int (j:Nat)):=
 WA (by rw[ZY];exact pairwise_map.mpr (a.imp fun h e=>h (Sum.inr.inj e))) (W6 h)
theorem Wa{kvs:List (Key×V)}{k:Key}{v:V}(h:k∉kvs.map (·.1)):putK kvs k v=kvs++[(k,v)]:=by
 unfold putK;rw[vd];intro e;obtain⟨p,b,a⟩:=any_eq_true.mp e;exact h (vJ.mpr ⟨p,b,of_decide_eq_true a⟩)
noncomputable def ixOf:List Str->Str->Nat
 | [],_=>0
 | y::r,x=>if y=x then 0 else ixOf r x+1
theorem qX:∀{xs:List Str} {j:Nat} {x:Str},xs.Nodup->xs[j]?=some x->ixOf xs x=j
 | [],j,x,_,h=>by simp at h
 | y::r,0,x,_,h=>by
  simp at h;subst h;exact ve rfl
 | y::r,j+1,x,nd,h=>by
  rw[nodup_cons]at nd;have a:r[j]?=some x:=by simpa using h
  have b:y≠x:=fun e=>nd.1 (e▸vm a)
  show(if y=x then 0 else ixOf r x+1)=j+1;rw[vd b,qX nd.2 a]
noncomputable def nmsOf{α:Type}(ps:List (Str×α)):List Str:=ps.map (·.1)
noncomputable def inP(ps:List (Str×Fm))(f:Fm):List Nat:=f.ns.map (ixOf (nmsOf ps))
structure WfB(ls:List (Str×Int))(ps:List (Str×Fm)):Prop where
 ln:(nmsOf ls).Nodup
 l8:ls.length<=8
 pn:(nmsOf ps).Nodup
 p61:ps.length<=61
 f:∀(i:Nat) (p:Str×Fm),ps[i]?=some p->(∀x∈p.2.ns,∃j,j<i/\(nmsOf ps)[j]?=some x)/\p.2.ns.length<=8
 r:∀(i:Nat) (y x:Str) (h n:Int),ps[i]?=some (y,.rise x h n)->∃j:Nat,(nmsOf ls)[j]?=some x
theorem WfB.inP_lt(W:WfB ls ps)(h:ps[i]?=some p)(a:j∈inP ps p.2):j<i:=by
 obtain⟨x,c,rfl⟩:=vJ.mp a;obtain⟨k,b,e⟩:=(W.f i p h).1 x c;rw[qX W.pn e];exact b
inductive sp_numbers_of(vs:List V)(H:Hp)(Q:VK)(xk:XK):Prop
 | mk (l:Addr) (as:List Addr) (xs:List Str) (_:vs=[.ref l]) (_:H l=some (.lst (as.map V.ref))) (_:as.length=xs.length) (_:(∀(i:Nat) (a:Addr) (x:Str),as[i]?=some a->xs[i]?=some x->∃r,H a=some (.tup [.str x,r]))) (_:xs.Nodup) (_:xs.length<=100) (_:∀(d:Addr) (H':Hp),Same H H'->H d=none->H' d=some (.dK (numK xs))->Q (.ref d) H'):sp_numbers_of vs H Q xk
inductive sp_names_in(vs:List V)(H:Hp)(Q:VK)(xk:XK):Prop
 | mk (a:Addr) (f:Fm) (_:vs=[.ref a]) (_:FormAt H a f) (_:∀(b:Addr) (H':Hp),Same H H'->H' b=some (.tup (f.ns.map V.str))->Q (.ref b) H'):sp_names_in vs H Q xk
def ListsAt(H:Hp)(as:List Addr)(M:List (List Int)):Prop:=All2 (fun a ks=>H a=some (.lst (ks.map V.int))) as M
theorem All2.monoM{c:Type}{R S:Addr->c->Prop}{as:List Addr}{xs:List c}(h:All2 R as xs)(k:∀a∈as,∀x,R a x->S a x):All2 S as xs:=⟨h.1,fun i a x b d=>k a (vm b) x (h.2 i a x b d)⟩
inductive sp_inner(vs:List V)(H:Hp)(Q:VK)(xk:XK):Prop
 | mk (b pl pp:Addr) (las pas:List Addr) (ls:List (Str×Int)) (ps:List (Str×Fm)) (_:vs=[.ref b]) (_:BookAt H b pl pp las pas ls ps) (_:WfB ls ps) (_:∀(l:Addr) (as:List Addr) (H':Hp),Same H H'->H l=none->H' l=some (.lst (as.map V.ref))->(∀a∈as,H a=none)->ListsAt H' as (ps.map fun p=>(inP ps p.2).map fun j:Nat=>(j:Int))->Q (.ref l) H'):sp_inner vs H Q xk
def PrsAt(H:Hp)(bs:List Addr)(e:List (Int×Int)):Prop:=All2 (fun b q=>H b=some (.tup [.int q.1,.int q.2])) bs e
def EndsAt(H:Hp)(as:List Addr)(E:List (List (Int×Int))):Prop:=All2 (fun a e=>∃bs,H a=some (.lst (bs.map V.ref))/\PrsAt H bs e) as E
def LastIn(E:List (List (Int×Int)))(is:List Nat)(k v:Int):Prop:=∃pre j post,is=pre++j::post/\(k,v)∈E.getD j []/\∀j'∈post,∀v',(k,v')∉E.getD j' []
def EndIs(ls:List (Str×Int))(ps:List (Str×Fm))(E:List (List (Int×Int)))(f:Fm)(k v:Int):Prop:=LastIn E (inP ps f) k v\/∃x n,f = .rise x v n/\k=(ixOf (nmsOf ls) x:Nat)
def EndOk(ls:List (Str×Int))(ps:List (Str×Fm))(E:List (List (Int×Int))):Prop:=∀(i:Nat) (p:Str×Fm) (e:List (Int×Int)),ps[i]?=some p->E[i]?=some e->(e.map (·.1)).Pairwise (· < ·)/\∀k v,(k,v)∈e↔EndIs ls ps E p.2 k v
inductive sp_ends(vs:List V)(H:Hp)(Q:VK)(xk:XK):Prop
 | mk (b pl pp:Addr) (las pas:List Addr) (ls:List (Str×Int)) (ps:List (Str×Fm)) (_:vs=[.ref b]) (_:BookAt H b pl pp las pas ls ps) (_:WfB ls ps) (_:∀(l:Addr) (as:List Addr) (E:List (List (Int×Int))) (H':Hp),Same H H'->H l=none->H' l=some (.lst (as.map V.ref))->(∀a∈as,H a=none)->E.length=ps.length->EndsAt H' as E->EndOk ls ps E->Q (.ref l) H'):sp_ends vs H Q xk
def MovOk(ls:List (Str×Int))(ps:List (Str×Fm))(M:List (List Int)):Prop:=∀(i:Nat) (p:Str×Fm) (ks:List Int),ps[i]?=some p->M[i]?=some ks->ks.Pairwise (· < ·)/\∀k,k∈ks↔(∃j∈inP ps p.2,k∈M.getD j [])\/∃x h n,p.2 = .rise x h n/\k=(ixOf (nmsOf ls) x:Nat)
inductive sp_moved(vs:List V)(H:Hp)(Q:VK)(xk:XK):Prop
 | mk (b pl pp:Addr) (las pas:List Addr) (ls:List (Str×Int)) (ps:List (Str×Fm)) (_:vs=[.ref b]) (_:BookAt H b pl pp las pas ls ps) (_:WfB ls ps) (_:∀(l:Addr) (as:List Addr) (M:List (List Int)) (H':Hp),Same H H'->H l=none->H' l=some (.lst (as.map V.ref))->(∀a∈as,H a=none)->M.length=ps.length->ListsAt H' as M->MovOk ls ps M->Q (.ref l) H'):sp_moved vs H Q xk
theorem Wz:∀{a b:List Int},a.Pairwise (· < ·)->b.Pairwise (· < ·)->(∀k,k∈a↔k∈b)->a=b
 | [],[],_,_,_=>rfl
 | [],y::s,_,_,h=>uk ((h y).mpr vq) (by simp)
 | x::r,[],_,_,h=>uk ((h x).mp vq) (by simp)
 | x::r,y::s,ha,hb,h=>by
  rw[pairwise_cons]at ha hb;have e:x=y:=by
   rcases mem_cons.mp ((h x).mp vq)with q | q
   ·exact q
   ·rcases mem_cons.mp ((h y).mpr vq)with d | d
    ·exact d.symm
    ·have f:=hb.1 x q;have g:=ha.1 y d;lia
  subst e;congr 1;refine Wz ha.2 hb.2 fun k=>⟨fun c=>?_,fun c=>?_⟩
  ·rcases mem_cons.mp ((h k).mp (vp _ c))with q | q
   ·have:=ha.1 k c;lia
   ·exact q
  ·rcases mem_cons.mp ((h k).mpr (vp _ c))with q | q
   ·have:=hb.1 k c;lia
   ·exact q
theorem getD_map{E:List (List (Int×Int))}(j:Nat):(E.map fun e=>e.map (·.1)).getD j []=(E.getD j []).map (·.1):=by
 rw[vy,vy,vv];cases E[j]?<;>rfl
theorem yr{k:Int}{e:List (Int×Int)}:k∈e.map (·.1)↔∃v,(k,v)∈e:=by
 constructor
 ·intro h;obtain⟨p,a,rfl⟩:=vJ.mp h;exact⟨p.2,a⟩
 ·rintro⟨v,h⟩;exact vJ.mpr ⟨_,h,rfl⟩
theorem yp:∀{is:List Nat},(∃v,LastIn E is k v)↔∃j∈is,∃v,(k,v)∈E.getD j []
 | []=>⟨fun⟨v,b,j,a,e,_⟩=>by cases b<;>simp at e,fun⟨j,h,_⟩=>by simp at h⟩
 | i::r=>by
  have p:=yp (E:=E) (k:=k) (is:=r);constructor
  ·rintro⟨v,b,j,a,e,c,m⟩;exact⟨j,by rw[e];simp,v,c⟩
  ·rintro⟨j,d,v,n⟩;by_cases q:∃j∈r,∃v,(k,v)∈E.getD j []
   ·obtain⟨l,b,g,a,e,c,m⟩:=p.mpr q;exact⟨l,i::b,g,a,by rw[e];rfl,c,m⟩
   ·rcases mem_cons.mp d with rfl | d
    ·exact⟨v,[],j,r,rfl,n,fun g o l f=>q ⟨g,o,l,f⟩⟩
    ·exact uk ⟨j,d,v,n⟩ q
theorem Xc{ls:List (Str×Int)}{ps:List (Str×Fm)}{E:List (List (Int×Int))}(s:E.length=ps.length)(h:EndOk ls ps E):MovOk ls ps (E.map fun e=>e.map (·.1)):=fun i p t q d=>by
 rw[vv]at d;obtain⟨e,o,rfl⟩:=vh.mp d;obtain⟨a,b⟩:=h i p e q o;refine⟨a,fun k=>?_⟩;rw[yr];constructor
 ·rintro⟨v,r⟩;rcases(b k v).mp r with z | ⟨x,n,f,g⟩
  ·obtain⟨j,l,m,c⟩:=yp.mp ⟨v,z⟩;exact .inl ⟨j,l,by rw[getD_map];exact yr.mpr ⟨m,c⟩⟩
  ·exact .inr ⟨x,v,n,f,g⟩
 ·rintro(⟨j,l,d⟩ | ⟨x,h,n,f,g⟩)
  ·rw[getD_map]at d;obtain⟨m,c⟩:=yr.mp d;obtain⟨v,z⟩:=yp.mpr ⟨j,l,m,c⟩;exact⟨v,(b k v).mpr (.inl z)⟩
  ·exact⟨h,(b k h).mpr (.inr ⟨x,n,f,g⟩)⟩
theorem kQ(h:x∈xs):ixOf xs x<xs.length:=by
 induction xs with
 | nil=>exact nomatch h
 | cons y r ih=>
  show(if y=x then 0 else ixOf r x+1)<r.length+1;split
  ·lia
  ·rename_i hne;rcases mem_cons.mp h with e | e
   ·exact uk e.symm hne
   ·have:=ih e;lia
theorem y8(W:WfB ls ps)(s:E.length<=ps.length)(h:EndOk ls ps E):∀(i:Nat),∀q∈E.getD i [],0<=q.1/\q.1<(ls.length:Int):=by
 intro i
 induction i using Nat.strongRecOn with
 | ind i ih=>
  intro q a;rw[vy]at a;cases e:E[i]? with
  | none=>rw[e]at a;exact nomatch a
  | some ev=>
   rw[e]at a;have r:=(vx.mp e).1;have f:ps[i]?=some ps[i]:=vz (by lia);obtain⟨_,b⟩:=h i _ ev f e;rcases(b q.1 q.2).mp a with⟨m,j,k,c,d,_⟩ | ⟨x,n,c,d⟩
   ·exact ih j (W.inP_lt f (by rw[c];simp)) _ d
   ·have g:ps[i]?=some (ps[i].1,.rise x q.2 n):=by rw[f,<-c]
    obtain⟨j,l⟩:=W.r i _ _ _ _ g;have o:=kQ (vm l);have p:(nmsOf ls).length=ls.length:=vt _;rw[d];lia
theorem y9{ls:List (Str×Int)}{ps:List (Str×Fm)}(W:WfB ls ps){E:List (List (Int×Int))}(f:E.length<=ps.length)(h:EndOk ls ps E){i:Nat}{e:List (Int×Int)}(c:E[i]?=some e):e.length<=8:=by
 have hi:=(vx.mp c).1;have a:=(h i _ e (vz (by lia)) c).1;have b:=y8 W f h i;rw[vy,c]at b;have z:=ZU (ks:=e.map (·.1)) (lo:=0) (hi:=ls.length) a fun k d=>by
  obtain⟨q,g,rfl⟩:=vJ.mp d;exact b q g
 rw[vt]at z;have:=W.l8;lia
noncomputable def putI(kvs:List (Int×Int))(k v:Int):List (Int×Int):=if k∈kvs.map (·.1)then kvs.map (fun q=>if q.1=k then(q.1,v)else q)else kvs++[(k,v)]
noncomputable def mergeI(kvs more:List (Int×Int)):List (Int×Int):=more.foldl (fun acc q=>putI acc q.1 q.2) kvs
theorem w6(kvs:List (Int×Int))(k v:Int):putK (kvs.map iiK) (Sum.inl k) (.int v)=(putI kvs k v).map iiK:=by
 have e:(((kvs.map iiK).any fun kv=>decide (kv.1=(Sum.inl k:Key)))=true)↔k∈kvs.map (·.1):=by
  rw[List.any_map,any_eq_true];constructor
  ·rintro⟨q,a,h⟩;have b:(Sum.inl q.1:Key)=Sum.inl k:=of_decide_eq_true h;exact vJ.mpr ⟨q,a,Sum.inl.inj b⟩
  ·intro h;obtain⟨q,a,rfl⟩:=vJ.mp h;exact⟨q,a,vF rfl⟩
 unfold putK putI;by_cases c:k∈kvs.map (·.1)
 ·rw[ve (e.mpr c),ve c,v4,v4];refine map_congr_left fun q _=>?_
  show(if(Sum.inl q.1:Key)=Sum.inl k then _ else _)=iiK (if q.1=k then(q.1,v)else q);by_cases z:q.1=k
  ·rw[ve z,ve (by rw[z])];rfl
  ·rw[vd z,vd (fun w=>z (Sum.inl.inj w))]
 ·rw[vd (fun w=>c (e.mp w)),vd c,vk];rfl
theorem QQ:∀(more kvs:List (Int×Int)),mergeK (kvs.map iiK) (more.map iiK)=(mergeI kvs more).map iiK
 | [],kvs=>rfl
 | q::r,kvs=>by
  show mergeK (putK (kvs.map iiK) (Sum.inl q.1) (.int q.2)) (r.map iiK)=(mergeI (putI kvs q.1 q.2) r).map iiK;rw[w6,QQ r]
theorem KR(kvs:List (Int×Int))(k v:Int)(d:(kvs.map (·.1)).Nodup):((putI kvs k v).map (·.1)).Nodup:=by
 unfold putI;split
 ·rw[v4];have e:kvs.map ((fun x=>x.1)∘fun q=>if q.1=k then(q.1,v)else q)=kvs.map (·.1):=map_congr_left fun q _=>by
   show(if q.1=k then(q.1,v)else q).1=q.1;split<;>rfl
  rw[e];exact d
 ·rename_i c;rw[vk,List.nodup_append];exact⟨d,pairwise_singleton _ _,fun a f b g e=>c (by rw[show k=b from(vo.mp g).symm,<-e];exact f)⟩
theorem wN:(a,b)∈putI kvs k v↔(a=k/\b=v)\/(a≠k/\(a,b)∈kvs):=by
 unfold putI;split
 ·rename_i c;rw[vJ];constructor
  ·rintro⟨q,d,e⟩;by_cases z:q.1=k
   ·rw[ve z]at e;cases e;exact .inl ⟨z,rfl⟩
   ·rw[vd z]at e;subst e;exact .inr ⟨z,d⟩
  ·rintro(⟨rfl,rfl⟩ | ⟨f,g⟩)
   ·obtain⟨q,d,e⟩:=vJ.mp c;exact⟨q,d,by rw[ve e,e]⟩
   ·exact⟨(a,b),g,by rw[vd f]⟩
 ·rename_i c;rw[vi];constructor
  ·rintro(h | h)
   ·exact .inr ⟨fun e=>c (e▸vJ.mpr ⟨(a,b),h,rfl⟩),h⟩
   ·cases vo.mp h;exact .inl ⟨rfl,rfl⟩
  ·rintro(⟨rfl,rfl⟩ | ⟨_,h⟩)
   ·exact .inr (vo.mpr rfl)
   ·exact .inl h
theorem ZW:∀{more kvs:List (Int×Int)},(kvs.map (·.1)).Nodup->(more.map (·.1)).Nodup->((mergeI kvs more).map (·.1)).Nodup/\∀k v,(k,v)∈mergeI kvs more↔(k,v)∈more\/((∀c,(k,c)∉more)/\(k,v)∈kvs)
 | [],kvs,nd,_=>⟨nd,fun k v=>⟨fun h=>.inr ⟨(fun _ h=>nomatch h),h⟩,fun h=>h.elim (fun h=>nomatch h) (·.2)⟩⟩
 | q::r,kvs,nd,nm=>by
  rw[v7,nodup_cons]at nm;obtain⟨a,b⟩:=ZW (more:=r) (kvs:=putI kvs q.1 q.2) (KR _ _ _ nd) nm.2;refine⟨a,fun k v=>(b k v).trans ?_⟩;rw[wN];have i:∀c,(q.1,c)∉r:=fun c h=>nm.1 (vJ.mpr ⟨_,h,rfl⟩)
  constructor
  ·rintro(h | ⟨f,⟨rfl,rfl⟩ | ⟨g,j⟩⟩)
   ·exact .inl (vp _ h)
   ·exact .inl vq
   ·refine .inr ⟨fun c d=>?_,j⟩;rcases mem_cons.mp d with e | e
    ·exact g (by rw[<-e])
    ·exact f c e
  ·rintro(h | ⟨f,g⟩)
   ·rcases mem_cons.mp h with e | e
    ·refine .inr ⟨fun c d=>?_,.inl ⟨by rw[<-e],by rw[<-e]⟩⟩;rw[<-e]at i;exact i c d
    ·exact .inl e
   ·refine .inr ⟨fun c d=>f c (vp _ d),.inr ⟨fun e=>?_,g⟩⟩;exact f q.2 (by rw[e];exact vq)
theorem ka(b:(ms.map (·.1)).Nodup):mergeI [] ms=ms:=by
 have e:∀(r a:List (Int×Int)),((a++r).map (·.1)).Nodup->mergeI a r=a++r:=by
  intro r
  induction r with
  | nil=>intro a _;exact(append_nil _).symm
  | cons q r ih=>
   intro a b;have c:q.1∉a.map (·.1):=fun h=>by
    rw[vk,List.nodup_append]at b;exact b.2.2 q.1 h q.1 (by simp) rfl
   show mergeI (putI a q.1 q.2) r=_;unfold putI;rw[vd c,ih (a++[(q.1,q.2)]) (by rw[List.append_assoc];exact b),List.append_assoc];rfl
 exact e ms [] b
theorem KG:LastIn E (is++[j]) k v↔(k,v)∈E.getD j []\/((∀m,(k,m)∉E.getD j [])/\LastIn E is k v):=by
 constructor
 ·rintro⟨c,i,a,e,g,l⟩;rcases List.eq_nil_or_concat a with rfl | ⟨b,x,rfl⟩
  ·have f:=List.append_inj' (show is++[j]=c++[i]from e) rfl;have n:j=i:=by simpa using f.2
   rw[n];exact .inl g
  ·have p:is++[j]=(c++i::b)++[x]:=by rw[e];simp
   have f:=List.append_inj' p rfl;have n:j=x:=by simpa using f.2
   subst n;exact .inr ⟨l j (by simp),c,i,b,f.1,g,fun o d=>l o (by simp[d])⟩
 ·rintro(h | ⟨g,c,i,a,e,l,q⟩)
  ·exact⟨is,j,[],rfl,h,(fun _ h=>nomatch h)⟩
  ·refine⟨c,i,a++[j],by rw[e];simp,l,fun o d m=>?_⟩;rcases vi.mp d with z | z
   ·exact q o z m
   ·rw[vo.mp z];exact g m
theorem Ye(h:∀j∈is,E.getD j []=E'.getD j []):LastIn E is k v->LastIn E' is k v:=by
 rintro⟨c,j,b,e,f,g⟩;refine⟨c,j,b,e,by rw[<-h j (by rw[e];simp)];exact f,fun d a=>?_⟩;rw[<-h d (by rw[e];simp[a])];exact g d a
theorem EndOk.snoc{ls:List (Str×Int)}{ps:List (Str×Fm)}(W:WfB ls ps){E:List (List (Int×Int))}{p:Str×Fm}{e:List (Int×Int)}(h:EndOk ls ps E)(u:ps[E.length]?=some p)(o:(e.map (·.1)).Pairwise (· < ·))
  (r:∀k v,(k,v)∈e↔EndIs ls ps E p.2 k v):EndOk ls ps (E++[e]):=fun i q f g c=>by
 have t:i<=E.length:=by
  have:=(vx.mp c).1;rw[vn]at this;exact Nat.le_of_lt_succ this
 have ext:∀j∈inP ps q.2,E.getD j []=(E++[e]).getD j []:=fun j l=>(getD_snoc (by have:=W.inP_lt g l;lia)).symm
 have d:∀k v,EndIs ls ps E q.2 k v↔EndIs ls ps (E++[e]) q.2 k v:=fun k v=>by
  unfold EndIs;exact⟨fun h=>h.imp (Ye ext) id,fun h=>h.imp (Ye fun j l=>(ext j l).symm) id⟩
 by_cases s:i<E.length
 ·rw[vA s]at c;obtain⟨a,b⟩:=h i q f g c;exact⟨a,fun k v=>(b k v).trans (d k v)⟩
 ·have n:i=E.length:=by lia
  subst n;rw[vB (vc _),Nat.sub_self]at c;have m:e=f:=by simpa using c
  subst m;rw[u]at g;cases g;exact⟨o,fun k v=>(r k v).trans (d k v)⟩
theorem wD{H:Hp}(h:FormAt H a f)(d:∀x v n,f≠.rise x v n):∃k xs,H a=some (.tup (.str k::xs))/\decide (k=("raise" : Str))=false:=by
 cases f with
 | hold n=>exact⟨_,_,h,by decide +kernel⟩
 | ring x n=>exact⟨_,_,h,by decide +kernel⟩
 | rise x v n=>exact uk rfl (d x v n)
 | row ps=>obtain⟨b,c,_⟩:=h;exact⟨_,_,c,by decide +kernel⟩
 | side ps=>obtain⟨b,c,_⟩:=h;exact⟨_,_,c,by decide +kernel⟩
 | again k x=>exact⟨_,_,h,by decide +kernel⟩
noncomputable def kv0(ls:List (Str×Int)):Fm->List (Int×Int)
 | .rise x h _=>[((ixOf (nmsOf ls) x:Nat),h)]
 | _=>[]
theorem WX(a:∀x v n,f≠.rise x v n):kv0 ls f=[]:=by
 cases f with
 | rise x v n=>exact uk rfl (a x v n)
 | _=>rfl
theorem yt:(k,v)∈kv0 ls f↔∃x n,f = .rise x v n/\k=(ixOf (nmsOf ls) x:Nat):=by
 cases f with
 | rise x h n=>
  constructor
  ·intro a;cases vo.mp a;exact⟨x,n,rfl,rfl⟩
  ·rintro⟨c,b,e,rfl⟩;injection e with e1 e2 e3;subst e1 e2;exact vo.mpr rfl
 | _=>exact⟨(fun h=>nomatch h),fun⟨_,_,e,_⟩=>nomatch e⟩
theorem xW(f:Fm):inP ps f=[]\/kv0 ls f=[]:=by
 cases f with
 | rise x h n=>exact .inl rfl
 | _=>exact .inr rfl
theorem xY(f:Fm):((kv0 ls f).map (·.1)).Nodup:=by
 cases f with
 | rise x h n=>exact pairwise_singleton _ _
 | _=>exact .nil
inductive sp_check_side(vs:List V)(H:Hp)(Q:VK)(xk:XK):Prop
 | mk (r:Int) (l ll:Addr) (as las:List Addr) (M:List (List Int)) (_:vs=[.int r,.ref l,.ref ll]) (_:H l=some (.lst (as.map V.ref))) (_:ListsAt H as M) (_:(∀ks∈M,ks≠[])) (_:M.length<=8) (_:H ll=some (.lst (las.map V.ref))) (_:(∀k:Int,(M.filter fun ks=>decide (k∈ks)).length<=1)) (_:∀H',Same H H'->Q .non H'):sp_check_side vs H Q xk
noncomputable def LenIs:Fm->List Int->Int->Prop
 | .hold n,_,g=>g=n
 | .ring _ n,_,g=>g=n
 | .rise _ _ n,_,g=>g=n
 | .row _,gs,g=>g=gs.sum
 | .side _,gs,g=>g∈gs/\∀x∈gs,x<=g
 | .again k _,gs,g=>∃y,gs.head?=some y/\g=k*y
noncomputable def LenPre:Fm->List Int->Prop
 | .side _,gs=>gs≠[]
 | .again k _,gs=>∃y r,gs=y::r/\0<=k/\k<=10^18/\0<=y/\y<=10^60
 | _,_=>True
inductive sp_length_of(vs:List V)(H:Hp)(Q:VK)(xk:XK):Prop
 | mk (a l:Addr) (f:Fm) (gs:List Int) (_:vs=[.ref a,.ref l]) (_:FormAt H a f) (_:H l=some (.lst (gs.map V.int))) (_:LenPre f gs) (_:∀g,LenIs f gs g->Q (.int g) H):sp_length_of vs H Q xk
structure Snd(ls:List (Str×Int))(ps:List (Str×Fm))(gs:List Int)(hs:List (List Int)):Prop where
 w:WfB ls ps
 gl:gs.length=ps.length
 gb:∀i,i<ps.length->0<=gs.getD i 0/\gs.getD i 0<=10^60
 mv:∀M:List (List Int),M.length=ps.length->MovOk ls ps M->∀i,i<ps.length->M.getD i []=hs.getD i []
 ln:∀(i:Nat) (p:Str×Fm),ps[i]?=some p->LenPre p.2 ((inP ps p.2).map fun j=>gs.getD j 0)/\∀g,LenIs p.2 ((inP ps p.2).map fun j=>gs.getD j 0) g->g=gs.getD i 0
 sd:∀(i:Nat) (p:Str×Fm) (qs:List Str),ps[i]?=some p->p.2 = .side qs->(∀j∈inP ps p.2,hs.getD j []≠[])/\∀k:Int,(((inP ps p.2).map fun j=>hs.getD j []).filter fun ks=>decide (k∈ks)).length<=1
inductive sp_lengths(vs:List V)(H:Hp)(Q:VK)(xk:XK):Prop
 | mk (b pl pp:Addr) (las pas:List Addr) (ls:List (Str×Int)) (ps:List (Str×Fm)) (gs:List Int) (hs:List (List Int)) (_:vs=[.ref b]) (_:BookAt H b pl pp las pas ls ps) (_:Snd ls ps gs hs) (_:∀(l:Addr) (H':Hp),Same H H'->H l=none->H' l=some (.lst (gs.map V.int))->Q (.ref l) H'):sp_lengths vs H Q xk
theorem any_empty{M:List (List Int)}(h:∀ks∈M,ks≠[]):(M.any fun ks=>decide (ks=[]))=false:=by
 rw[List.any_eq_false];intro ks a;simpa using h ks a
theorem WV{gs:List Int}{i:Nat}(h:i<gs.length):gs.take (i+1)=gs.take i++[gs.getD i 0]:=by
 refine take_snoc ?_;rw[vy,vz h];rfl
theorem XD{gs:List Int}{i j:Nat}(hi:i<=gs.length)(a:j<i):atI ((gs.take i).map V.int) (j:Int)=some (.int (gs.getD j 0)):=by
 refine JL ?_;rw[vv,List.getElem?_take,ve a,vy,vz (by lia)];rfl
section
variable{ls:List (Str×Int)}{x:Str}{f:Fm}
end
noncomputable abbrev Pc:=Nat×Int×Int
noncomputable def rowPc(gs:List Int):List Nat->Int->List Pc
 | [],_=>[]
 | j::r,b=>(j,1,b)::rowPc gs r (b+gs.getD j 0)
noncomputable def pcsI(gs:List Int)(f:Fm)(is:List Nat):List Pc:=
 match f with
 | .again k _=>match is with
  | []=>[]
  | j::_=>(j,1,0)::(if 1<k then[(j,k-1,gs.getD j 0)]else[])
 | .row _=>rowPc gs is 0
 | _=>is.map fun j=>(j,1,0)
def PcsAt(H:Hp)(as:List Addr)(qs:List Pc):Prop:=All2 (fun a q=>H a=some (.tup [.int (q.1:Nat),.int q.2.1,.int q.2.2])) as qs
def PssAt(H:Hp)(as:List Addr)(qss:List (List Pc)):Prop:=All2 (fun a qs=>∃bs,H a=some (.lst (bs.map V.ref))/\PcsAt H bs qs) as qss
inductive sp_pieces_in(vs:List V)(H:Hp)(Q:VK)(xk:XK):Prop
 | mk (a l s:Addr) (f:Fm) (is:List Nat) (gs:List Int) (_:vs=[.ref a,.ref l,.ref s]) (_:FormAt H a f) (_:H l=some (.lst ((is.map fun j:Nat=>(j:Int)).map V.int))) (_:H s=some (.lst (gs.map V.int))) (_:is.length<=8) (_:(∀j∈is,j<gs.length)) (_:(∀k x,f = .again k x->is≠[])) (_:∀(p:Addr) (as:List Addr) (H':Hp),Same H H'->H p=none->H' p=some (.lst (as.map V.ref))->PcsAt H' as (pcsI gs f is)->Q (.ref p) H'):sp_pieces_in vs H Q xk
inductive sp_pieces_of(vs:List V)(H:Hp)(Q:VK)(xk:XK):Prop
 | mk (b pl pp s:Addr) (las pas:List Addr) (ls:List (Str×Int)) (ps:List (Str×Fm)) (gs:List Int) (_:vs=[.ref b,.ref s]) (_:BookAt H b pl pp las pas ls ps) (_:WfB ls ps) (_:H s=some (.lst (gs.map V.int))) (_:gs.length=ps.length) (_:∀(l:Addr) (as:List Addr) (H':Hp),Same H H'->H l=none->H' l=some (.lst (as.map V.ref))->PssAt H' as (ps.map fun p=>pcsI gs p.2 (inP ps p.2))->(∀a∈as,H a=none)->Q (.ref l) H'):sp_pieces_of vs H Q xk
def PcOk(gs:List Int)(q:Pc):Prop:=q.1<gs.length/\1<=gs.getD q.1 0/\gs.getD q.1 0<=10^60/\1<=q.2.1/\q.2.1<=10^18/\0<=q.2.2/\q.2.2<=10^62
def GonAt(H:Hp)(as:List Addr)(xs:List (Nat×Int)):Prop:=All2 (fun a x=>H a=some (.tup [.int (x.1:Nat),.int x.2])) as xs
noncomputable def pcB(ps:List (Str×Fm))(gs:List Int)(i:Nat):List Pc:=match ps[i]? with | some p=>pcsI gs p.2 (inP ps p.2) | none=>[]
section
variable{gs:List Int}{t:Int}
theorem zt(h:q∈rowPc gs is b):q.1∈is/\q.2.1=1:=by
 induction is generalizing b with
 | nil=>exact nomatch h
 | cons j r ih=>
  rcases mem_cons.mp h with rfl | h
  ·exact⟨vq,rfl⟩
  ·obtain⟨a,b⟩:=ih h;exact⟨vp _ a,b⟩
theorem KH(is:List Nat)(b:Int):(rowPc gs is b).length=is.length:=by
 induction is generalizing b with
 | nil=>rfl
 | cons j r ih=>rw[rowPc,vO,vO,ih]
theorem Yy(d:∀j∈is,0<=gs.getD j 0/\gs.getD j 0<=10^60)(h:q∈rowPc gs is b):b<=q.2.2/\q.2.2<=b+10^60*is.length:=by
 induction is generalizing b with
 | nil=>exact nomatch h
 | cons j r ih=>
  have g:=d j vq;rw[vO];rcases mem_cons.mp h with rfl | h
  ·have:(0:Int)<=10^60*((r.length+1:Nat):Int):=vL (by decide) (by lia);exact⟨va _,by show b<=_;lia⟩
  ·obtain⟨a,c⟩:=ih (fun k e=>d k (vp _ e)) h;refine⟨by lia,?_⟩;rw[show((r.length+1:Nat):Int)=(r.length:Int)+1 by lia,Int.mul_add];lia
theorem Yg(h:q∈pcsI gs f is):q.1∈is:=by
 unfold pcsI at h;split at h
 ·split at h
  ·exact nomatch h
  ·rcases mem_cons.mp h with rfl | h
   ·exact vq
   ·split at h
    ·rw[vo.mp h];exact vq
    ·exact nomatch h
 ·exact(zt h).1
 ·obtain⟨j,a,rfl⟩:=vJ.mp h;exact a
theorem wF(a:is.length<=8):(pcsI gs f is).length<=8:=by
 unfold pcsI;split
 ·split
  ·exact vb _
  ·split<;>simp
 ·rw[KH];exact a
 ·rw[vt];exact a
end
section
variable{ls:List (Str×Int)}{ps:List (Str×Fm)}{gs:List Int}
theorem Qt(W:WfB ls ps)(h:q∈pcB ps gs i):q.1<i:=by
 unfold pcB at h;split at h
 ·rename_i p hp;exact W.inP_lt hp (Yg h)
 ·exact nomatch h
theorem JN{a c:Type}{f g:a->List c}:∀{l:List a},(∀x∈l,f x=g x)->l.flatMap f=l.flatMap g
 | [],_=>rfl
 | x::r,h=>by rw[flatMap_cons,flatMap_cons,h x vq,JN fun y b=>h y (vp _ b)]
end
section
variable{gs:List Int}{t:Int}
end
theorem len_sub{a b:List Int}(c:a.Nodup)(f:∀x∈a,x∈b):a.length<=b.length:=by
 induction a generalizing b with
 | nil=>exact vb _
 | cons x r ih=>
  rw[nodup_cons]at c;have g:=f x vq;have:=ih (b:=b.erase x) c.2 fun y h=>by
   have d:y≠x:=fun e=>c.1 (e▸h)
   exact(List.mem_erase_of_ne d).mpr (f y (vp _ h))
  rw[List.length_erase_of_mem g]at this;have:0<b.length:=List.length_pos_of_mem g;rw[vO];lia
section
variable{ls:List (Str×Int)}{ps:List (Str×Fm)}{gs:List Int}{hs:List (List Int)}
end
structure Sn(ls:List (Str×Int))(ps:List (Str×Fm))(gs:List Int)(hs:List (List Int)):Prop where
 s:Snd ls ps gs hs
 hl:hs.length=ps.length
 m:MovOk ls ps hs
 g1:∀i,i<ps.length->1<=gs.getD i 0
 ne:1<=ps.length
 l18:∀q∈ls,0<=q.2/\q.2<=10^18
 r18:∀(i:Nat) (y x:Str) (v n:Int),ps[i]?=some (y,.rise x v n)->0<=v/\v<=10^18/\1<=n/\n<=10^18
 a18:∀(i:Nat) (y x:Str) (k:Int),ps[i]?=some (y,.again k x)->1<=k/\k<=10^18
section
variable{ls:List (Str×Int)}{ps:List (Str×Fm)}{gs:List Int}{hs:List (List Int)}
theorem Sn.g(N:Sn ls ps gs hs)(hi:i<ps.length):1<=gs.getD i 0/\gs.getD i 0<=10^60:=⟨N.g1 i hi,(N.s.gb i hi).2⟩
theorem Sn.i8(N:Sn ls ps gs hs){i:Nat}{p:Str×Fm}(a:ps[i]?=some p):(inP ps p.2).length<=8:=by
 unfold inP;rw[vt];exact(N.s.w.f i p a).2
theorem Sn.pcOk(N:Sn ls ps gs hs){i:Nat}{q:Pc}(h:q∈pcB ps gs i):PcOk gs q:=by
 have u:=Qt N.s.w h;have n:=h;unfold pcB at h;split at h
 case h_2=>exact nomatch h
 rename_i p hp;have o:=(vx.mp hp).1;have g:=N.g (show q.1<ps.length by lia);have t:=N.i8 hp;have a:∀k∈inP ps p.2,0<=gs.getD k 0/\gs.getD k 0<=10^60:=fun k d=>by
  have:=N.s.w.inP_lt hp d;have:=N.g (show k<ps.length by lia);lia
 refine⟨by rw[N.s.gl];lia,g.1,g.2,?_⟩;unfold pcsI at h;split at h
 ·rename_i k x e;have f:=N.a18 i p.1 x k (by rw[hp,<-e]);split at h
  ·exact nomatch h
  ·rename_i j r ein;have c:=a j (by rw[ein];exact vq);rcases mem_cons.mp h with rfl | h
   ·exact⟨(by show(1:Int)<=1;decide),(by show(1:Int)<=10^18;decide),(by show(0:Int)<=0;decide),(by show(0:Int)<=10^62;decide)⟩
   ·split at h
    ·rw[vo.mp h];refine⟨?_,?_,c.1,?_⟩
     ·show 1<=k-1;lia
     ·show k-1<=_;lia
     ·show gs.getD j 0<=_;lia
    ·exact nomatch h
 ·obtain⟨b,l⟩:=Yy a h;have m:=(zt h).2;refine⟨by lia,by lia,b,?_⟩;have:(10:Int)^60*((inP ps p.2).length:Int)<=10^60*8:=Int.mul_le_mul_of_nonneg_left (by lia) (by decide);lia
 ·obtain⟨j,s,rfl⟩:=vJ.mp h;exact⟨(by show(1:Int)<=1;decide),(by show(1:Int)<=10^18;decide),(by show(0:Int)<=0;decide),(by show(0:Int)<=10^62;decide)⟩
end
theorem All2.app{d:Type}{R:Addr->d->Prop}{as bs:List Addr}{xs ys:List d}(h:All2 R as xs)(k:All2 R bs ys):All2 R (as++bs) (xs++ys):=by
 have f:=h.1;refine⟨by rw[vn,vn,h.1,k.1],fun i a x b c=>?_⟩;by_cases e:i<as.length
 ·rw[vA e]at b;rw[vA (by lia)]at c;exact h.2 i a x b c
 ·rw[vB (by lia)]at b;rw[vB (by lia)]at c;exact k.2 _ a x b (by rw[f];exact c)
theorem All2.cons{b:Type}{R:Addr->b->Prop}{a:Addr}{as:List Addr}{x:b}{xs:List b}(h:R a x)(k:All2 R as xs):All2 R (a::as) (x::xs):=All2.app (as:=[a]) (xs:=[x]) (All2.snoc (as:=[]) (xs:=[]) .nil h) k
theorem All2.last{e:Type}{R:Addr->e->Prop}{as:List Addr}{xs:List e}{x:e}(h:All2 R as (xs++[x])):∃c a,as=c++[a]/\All2 R c xs/\R a x:=by
 rcases List.eq_nil_or_concat as with rfl | ⟨c,a,rfl⟩
 ·have:=h.1;simp at this
 ·rw[List.concat_eq_append]at h|-;have g:=h.1;rw[vn,vn]at g;have d:c.length=xs.length:=by simpa using g
  refine⟨c,a,rfl,⟨d,fun i b y f j=>?_⟩,?_⟩
  ·have k:=(vx.mp f).1;exact h.2 i b y (by rw[vA k];exact f) (by rw[vA (by lia)];exact j)
  ·exact h.2 c.length a x (by simp) (by rw[d];simp)
theorem zQ{gs:List Int}{n:Nat}(h:1<=n)(e:gs.length=n):atI (gs.map V.int) (-1)=some (.int (gs.getD (n-1) 0)):=by
 have i:ixN n (-1)=some (n-1):=by
  unfold ixN;simp;lia
 unfold atI;rw[vt,e,i];show(gs.map V.int)[n-1]?=_;rw[vv,vy,vz (by lia)];rfl
section
variable{ls:List (Str×Int)}{ps:List (Str×Fm)}{gs:List Int}{hs:List (List Int)}
end
inductive Fn where
 | hold (n:Int) | ring (x:Str) (n:Int) | rise (x:Str) (h n:Int) | row (is:List Nat) | side (is:List Nat) | again (k:Int) (j:Nat)
noncomputable def Fn.js:Fn->List Nat
 | .row is=>is
 | .side is=>is
 | .again _ j=>[j]
 | _=>[]
noncomputable def LenN(gs:List Int):Fn->Int->Prop
 | .hold n,g=>g=n
 | .ring _ n,g=>g=n
 | .rise _ _ n,g=>g=n
 | .row is,g=>g=(is.map fun j=>gs.getD j 0).sum
 | .side is,g=>(∃j∈is,g=gs.getD j 0)/\∀j∈is,gs.getD j 0<=g
 | .again k j,g=>g=k*gs.getD j 0
def MovN(L:List Str)(M:List (List Int))(f:Fn)(ks:List Int):Prop:=ks.Pairwise (· < ·)/\∀k,k∈ks↔(∃j∈f.js,k∈M.getD j [])\/∃(x:Str) (h n:Int) (i:Nat),f = .rise x h n/\L[i]?=some x/\k=(i:Int)
def ApartN(M:List (List Int))(is:List Nat):Prop:=(∀j∈is,M.getD j []≠[])/\is.Pairwise fun a b=>∀k∈M.getD a [],¬k∈M.getD b []
noncomputable def PreN(L:List Str)(M:List (List Int))(n:Nat):Fn->Prop
 | .hold m=>1<=m/\m<=10^18
 | .ring x m=>1<=m/\m<=10^18/\Ws.isW x=true
 | .rise x h m=>(∃i:Nat,L[i]?=some x)/\0<=h/\h<=10^18/\1<=m/\m<=10^18
 | .row is=>is≠[]/\is.length<=8/\∀j∈is,j<n
 | .side is=>2<=is.length/\is.length<=8/\(∀j∈is,j<n)/\ApartN M is
 | .again k j=>1<=k/\k<=10^18/\j<n
theorem PreN.js(h:PreN L M n f):f.js.length<=8/\∀j∈f.js,j<n:=by
 cases f with
 | row is=>exact h.2
 | side is=>exact⟨h.2.1,h.2.2.1⟩
 | again k j=>exact⟨by show 1<=8;lia,fun i a=>by rw[vo.mp a];exact h.2.2⟩
 | hold n=>exact⟨vb _,fun j h=>nomatch h⟩
 | ring x n=>exact⟨vb _,fun j h=>nomatch h⟩
 | rise x v n=>exact⟨vb _,fun j h=>nomatch h⟩
structure DOk(L:List Str)(fs:List Fn)(M:List (List Int))(gs:List Int):Prop where
 ml:M.length=fs.length
 gl:gs.length=fs.length
 f:∀(i:Nat) (f:Fn),fs[i]?=some f->PreN L M i f/\MovN L M f (M.getD i [])/\LenN gs f (gs.getD i 0)
 g:∀i,i<fs.length->1<=gs.getD i 0/\gs.getD i 0<=10^60
noncomputable def toldF(names:List Str):Fn->Fm
 | .hold n=>.hold n
 | .ring x n=>.ring x n
 | .rise x h n=>.rise x h n
 | .row is=>.row (is.map fun j=>names.getD j ⟨#[]⟩)
 | .side is=>.side (is.map fun j=>names.getD j ⟨#[]⟩)
 | .again k j=>.again k (names.getD j ⟨#[]⟩)
noncomputable def drawnPs(names:List Str)(fs:List Fn):List (Str×Fm):=(List.range fs.length).map fun i=>(names.getD i ⟨#[]⟩,toldF names (fs.getD i (.hold 0)))
section
variable{L:List Str}{fs:List Fn}{M:List (List Int)}{gs:List Int}{names:List Str}{ls:List (Str×Int)}
theorem zo:(drawnPs names fs).length=fs.length:=by unfold drawnPs;rw[vt,length_range]
theorem y4(h:fs[i]?=some f):(drawnPs names fs)[i]?=some (names.getD i ⟨#[]⟩,toldF names f):=by
 unfold drawnPs;have a:=(vx.mp h).1;rw[vv,List.getElem?_range a];have e:fs.getD i (.hold 0)=f:=by rw[vy,h];rfl
 show some (names.getD i ⟨#[]⟩,toldF names (fs.getD i (.hold 0)))=_;rw[e]
theorem jZ(h:(drawnPs names fs)[i]?=some p):∃f,fs[i]?=some f/\p=(names.getD i ⟨#[]⟩,toldF names f):=by
 have b:=(vx.mp h).1;rw[zo]at b;obtain⟨f,a⟩:∃f,fs[i]?=some f:=⟨_,vz b⟩
 rw[y4 a]at h;exact⟨f,a,(vK h).symm⟩
theorem ZM(c:fs.length<=names.length):nmsOf (drawnPs names fs)=names.take fs.length:=by
 unfold nmsOf drawnPs;rw[v4];refine ext_getElem (by rw[vt,length_range,vj];lia) fun i a b=>?_
 rw[getElem_map,getElem_range,List.getElem_take];show names.getD i ⟨#[]⟩=_;rw[vy,vz];rfl
theorem xx(b:fs.length<=names.length)(a:j<fs.length):(nmsOf (drawnPs names fs))[j]?=some (names.getD j ⟨#[]⟩):=by
 rw[ZM b,List.getElem?_take,ve a,vy,vz (by lia)];rfl
theorem y6(a:fs.length<=names.length)(b:names.Nodup):(nmsOf (drawnPs names fs)).Nodup:=by
 rw[ZM a];exact b.sublist (take_sublist _ _)
theorem Q5(c:fs.length<=names.length)(d:names.Nodup)(b:∀j∈f.js,j<fs.length):inP (drawnPs names fs) (toldF names f)=f.js:=by
 have e:∀a:List Nat,(∀j∈a,j<fs.length)->(a.map fun j=>names.getD j ⟨#[]⟩).map (ixOf (nmsOf (drawnPs names fs)))=a:=fun a h=>by
  rw[v4]
  conv=>rhs;rw[<-List.map_id a]
  exact map_congr_left fun j b=>qX (y6 c d) (xx c (h j b))
 unfold inP;cases f with
 | row a=>exact e a b
 | side a=>exact e a b
 | again k j=>exact e [j] b
 | hold n=>rfl
 | ring x n=>rfl
 | rise x v n=>rfl
theorem YF(f:Fn):(toldF names f).ns=f.js.map fun j=>names.getD j ⟨#[]⟩:=by cases f<;>rfl
theorem DOk.wf(D:DOk (nmsOf ls) fs M gs)(m:fs.length<=names.length)(t:names.Nodup)(l:(nmsOf ls).Nodup)(s:ls.length<=8)(d:fs.length<=61):WfB ls (drawnPs names fs):=by
 refine⟨l,s,y6 m t,by rw[zo];exact d,fun i p g=>?_,fun i y x h n g=>?_⟩
 ·obtain⟨f,c,rfl⟩:=jZ g;have u:=(vx.mp c).1;obtain⟨a,_⟩:=D.f i f c;have q:=a.js;refine⟨fun x o=>?_,?_⟩
  ·rw[YF]at o;obtain⟨j,r,rfl⟩:=vJ.mp o;have:=q.2 j r;exact⟨j,this,xx m (by lia)⟩
  ·rw[YF,vt];exact q.1
 ·obtain⟨f,c,e⟩:=jZ g;obtain⟨a,_⟩:=D.f i f c;have b:=(Prod.mk.inj e).2;cases f with
  | rise x' h' n'=>
   have:x=x':=by injection b
   subst this;exact a.1
  | hold n=>cases b
  | ring x n=>cases b
  | row is=>cases b
  | side is=>cases b
  | again k j=>cases b
theorem DOk.mov(D:DOk (nmsOf ls) fs M gs)(o:fs.length<=names.length)(t:names.Nodup)(b:(nmsOf ls).Nodup):MovOk ls (drawnPs names fs) M:=by
 intro i p s q m;obtain⟨f,g,rfl⟩:=jZ q;have u:=(vx.mp g).1;obtain⟨c,d,_⟩:=D.f i f g;have r:=c.js.2;have l:M.getD i []=s:=by rw[vy,m];rfl
 rw[l]at d;refine⟨d.1,fun k=>(d.2 k).trans ?_⟩;rw[Q5 o t fun j a=>by have:=r j a;lia];refine⟨fun h=>h.imp id ?_,fun h=>h.imp id ?_⟩
 ·rintro⟨x,v,n,j,rfl,a,rfl⟩;exact⟨x,v,n,rfl,by rw[qX b a]⟩
 ·rintro⟨x,v,n,e,rfl⟩;cases f with
  | rise x' h' n'=>
   have:x'=x:=by injection e
   subst this;obtain⟨j,a⟩:=c.1;exact⟨x',h',n',j,rfl,a,by rw[qX b a]⟩
  | hold n=>cases e
  | ring x n=>cases e
  | row is=>cases e
  | side is=>cases e
  | again k j=>cases e
theorem W5{M c:List (List Int)}(W:WfB ls ps)(h:MovOk ls ps M)(h':MovOk ls ps c)(l:M.length=ps.length)(r:c.length=ps.length):∀i,i<ps.length->c.getD i []=M.getD i []:=by
 intro i
 induction i using Nat.strongRecOn with
 | ind i ih=>
  intro q;have e:ps[i]?=some ps[i]:=vz q;have p:M[i]?=some (M.getD i []):=by rw[vy,vz (by lia)];rfl
  have f:c[i]?=some (c.getD i []):=by rw[vy,vz (by lia)];rfl
  obtain⟨a,b⟩:=h i _ _ e p;obtain⟨n,o⟩:=h' i _ _ e f;refine Wz n a fun k=>(o k).trans (Iff.trans ?_ (b k).symm)
  have m:(∃j∈inP ps (ps[i]).2,k∈c.getD j [])↔∃j∈inP ps (ps[i]).2,k∈M.getD j []:=by
   constructor
   ·rintro⟨j,d,g⟩;have:=W.inP_lt e d;exact⟨j,d,by rw[<-ih j this (by lia)];exact g⟩
   ·rintro⟨j,d,g⟩;have:=W.inP_lt e d;exact⟨j,d,by rw[ih j this (by lia)];exact g⟩
  rw[m]
theorem DOk.sn(D:DOk (nmsOf ls) fs M gs)(C:fs.length<=names.length)(G:names.Nodup)(B:(nmsOf ls).Nodup)(X:ls.length<=8)(J:fs.length<=61)(f1:1<=fs.length)(Y:∀q∈ls,0<=q.2/\q.2<=10^18):Sn ls (drawnPs names fs) gs M:=by
 have W:=D.wf C G B X J;have O:=D.mov C G B;have dl:(drawnPs names fs).length=fs.length:=zo;have ml:=D.ml;have gl:=D.gl;refine⟨⟨W,by lia,fun i w=>?_,fun Z T K i w=>W5 W O K (by lia) T i w,fun i p t=>?_,fun i p qs t e=>?_⟩,by lia,O,fun i w=>(D.g i (by lia)).1,by lia,Y,fun i y x v n t=>?_,fun i y x k t=>?_⟩
 ·have:=D.g i (by lia);lia
 ·obtain⟨f,m,rfl⟩:=jZ t;have w:=(vx.mp m).1;obtain⟨d,_,u⟩:=D.f i f m;have o:=d.js.2;rw[show inP (drawnPs names fs) (names.getD i ⟨#[]⟩,toldF names f).2=f.js from Q5 C G fun j A=>by have:=o j A;lia];cases f with
  | hold n=>exact⟨trivial,fun g h=>Eq.trans h (Eq.symm u)⟩
  | ring x n=>exact⟨trivial,fun g h=>Eq.trans h (Eq.symm u)⟩
  | rise x v n=>exact⟨trivial,fun g h=>Eq.trans h (Eq.symm u)⟩
  | row is=>exact⟨trivial,fun g h=>Eq.trans h (Eq.symm u)⟩
  | side is=>
   refine⟨fun z=>?_,fun g h=>?_⟩
   ·have p2:=d.1;have:is.length=0:=by rw[<-vt (f:=fun j=>gs.getD j 0)];exact congrArg List.length z
    lia
   ·obtain⟨Q,R⟩:=h;obtain⟨j,A,rfl⟩:=vJ.mp Q;obtain⟨⟨E,s,e'⟩,U⟩:=u;have a1:=U j A;have a2:=R (gs.getD E 0) (vJ.mpr ⟨E,s,rfl⟩);lia
  | again k j=>
   have P:=D.g j (by have:=o j vq;lia);refine⟨⟨gs.getD j 0,[],rfl,Int.le_trans (by decide) d.1,d.2.1,by lia,P.2⟩,fun g h=>?_⟩;obtain⟨y,S,rfl⟩:=h;cases S;exact Eq.symm u
 ·obtain⟨f,m,rfl⟩:=jZ t;have w:=(vx.mp m).1;obtain⟨d,_,_⟩:=D.f i f m;have o:=d.js.2;rw[show inP (drawnPs names fs) (names.getD i ⟨#[]⟩,toldF names f).2=f.js from Q5 C G fun j A=>by have:=o j A;lia];cases f with
  | side is=>
   obtain⟨_,_,_,H,I⟩:=d;refine⟨H,fun k=>?_⟩;have N:∀o:List Nat,o.Pairwise (fun a b=>∀k∈M.getD a [],¬k∈M.getD b [])->((o.map fun j=>M.getD j []).filter fun F=>decide (k∈F)).length<=1:=fun o=>by
    induction o with
    | nil=>exact fun _=>vb _
    | cons j r ih=>
     intro h;rw[pairwise_cons]at h;rw[v7,filter_cons];split
     ·rename_i c;have e:(r.map fun j=>M.getD j []).filter (fun F=>decide (k∈F))=[]:=by
       rw[List.filter_eq_nil_iff];intro F L;obtain⟨E,s,rfl⟩:=vJ.mp L;have:=h.1 E s k (of_decide_eq_true c);simpa using this
      rw[e];exact vc _
     ·exact ih h.2
   exact N is I
  | hold n=>cases e
  | ring x n=>cases e
  | rise x v n=>cases e
  | row is=>cases e
  | again k j=>cases e
 ·obtain⟨f,m,e⟩:=jZ t;obtain⟨d,_⟩:=D.f i f m;have l:=(Prod.mk.inj e).2;cases f with
  | rise x' K n'=>
   injection l with e3 e4 e5;subst e3 e4 e5;exact d.2
  | hold n=>cases l
  | ring x n=>cases l
  | row is=>cases l
  | side is=>cases l
  | again k j=>cases l
 ·obtain⟨f,m,e⟩:=jZ t;obtain⟨d,_⟩:=D.f i f m;have l:=(Prod.mk.inj e).2;cases f with
  | again k' j=>
   injection l with e3 e4;subst e3;exact⟨d.1,d.2.1⟩
  | rise x' K n'=>cases l
  | hold n=>cases l
  | ring x n=>cases l
  | row is=>cases l
  | side is=>cases l
end
section
variable{z:Sa}
theorem QP(h:¬a=b):(putF b v r).lookup a=r.lookup a:=by rw[qy,vd h]
theorem zq:(putF a v r).lookup a=some v:=by rw[qy,ve rfl]
theorem qf(f:Str)(v:V):∀r:List (Str×V),(putF f v r).length<=r.length+1
 | []=>vc _
 | (g,u)::r=>by
  unfold putF;split
  ·exact Nat.le_succ _
  ·rw[vO,vO];have:=qf f v r;lia
end
theorem BookAt.less{H:Hp}(o:H a=some (.ins C dx fs))(B:BookAt H b pl pp las pas ls ps) :
  ∃i:Hp,(∀H',(∀c u,c≠a->H c=some u->H' c=some u)->Same i H')/\(∀{c u},i c=some u->c≠a)/\BookAt i b pl pp las pas ls ps:=by
 have f:∀{c:Addr} {g:List V},H c=some (.tup g)->(fun c=>if c=a then none else H c) c=some (.tup g):=fun {c g} h=>by
  show(if c=a then none else H c)=_;rw[vd (fun z=>by rw[z,o]at h;cases h)];exact h
 have p:∀{c:Addr} {g:List V},H c=some (.lst g)->(fun c=>if c=a then none else H c) c=some (.lst g):=fun {c g} h=>by
  show(if c=a then none else H c)=_;rw[vd (fun z=>by rw[z,o]at h;cases h)];exact h
 refine⟨fun c=>if c=a then none else H c,fun H' k c u h=>?_,fun {c u} h=>?_,f B.t,p B.l,B.la.mono fun a x m=>f m,p B.p,B.pa.mono fun a x m=>?_⟩
 ·have h:(if c=a then none else H c)=some u:=h;by_cases e:c=a
  ·rw[ve e]at h;cases h
  ·rw[vd e]at h;exact k c u e h
 ·have h:(if c=a then none else H c)=some u:=h;intro e;rw[ve e]at h;cases h
 ·obtain⟨q,s,d⟩:=m;refine⟨q,f s,?_⟩;cases hx2:x.2 with
  | row r=>rw[hx2]at d;obtain⟨c,j,l⟩:=d;exact⟨c,f j,f l⟩
  | side r=>rw[hx2]at d;obtain⟨c,j,l⟩:=d;exact⟨c,f j,f l⟩
  | hold n=>rw[hx2]at d;exact f d
  | ring y n=>rw[hx2]at d;exact f d
  | rise y v n=>rw[hx2]at d;exact f d
  | again k y=>rw[hx2]at d;exact f d
theorem few(h:(putF f v r).length<=n)(k:n<1000):(putF f v r).length<1000:=vC h k
section
variable{a b c d e:Str}{u v w x y:V}
theorem few3:(putF c w (putF b v (putF a u []))).length<1000:=by
 have:=qf c w (putF b v (putF a u []));have:=qf b v (putF a u []);have:=qf a u [];simp at *;lia
end
end Rm
namespace L2
open PySem PySem.Spec PyProof.Rows
theorem Zo{xs:List Nat}(d:xs.Pairwise (· < ·)){i j v w:Nat}(hi:xs[i]?=some v)(a:xs[j]?=some w)(h:i<j):v<w:=by
 obtain⟨b,rfl⟩:=vx.mp hi;obtain⟨c,rfl⟩:=vx.mp a;exact pairwise_iff_getElem.mp d i j b c h
theorem Za{xs:Array Nat}{j:Nat}(l:xs.toList.Pairwise (· < ·)):∀(f lo hi:Nat),lo<=hi->hi<=xs.size->hi-lo<=f->(∀i v,i<lo->xs.toList[i]?=some v->v<j)->(∀i v,hi<=i->xs.toList[i]?=some v->j<=v)->
  SetTable.below.go xs j f lo hi<=xs.size/\(∀i v,i<SetTable.below.go xs j f lo hi->xs.toList[i]?=some v->v<j)/\∀i v,SetTable.below.go xs j f lo hi<=i->xs.toList[i]?=some v->j<=v
 | 0,lo,hi,h1,h2,h3,a,b=>by
  have e:lo=hi:=by lia
  subst e;unfold SetTable.below.go;exact⟨h2,a,b⟩
 | f+1,lo,hi,h1,h2,h3,a,b=>by
  have d:SetTable.below.go xs j (f+1) lo hi=if lo<hi then(if xs.getD ((lo+hi)/2) j<j then SetTable.below.go xs j f ((lo+hi)/2+1) hi else SetTable.below.go xs j f lo ((lo+hi)/2))else lo:=rfl
  by_cases h:lo<hi
  ·have n:(lo+hi)/2<xs.size:=by lia
   have k:xs.toList[(lo+hi)/2]?=some (xs.getD ((lo+hi)/2) j):=by
    rw[Array.getElem?_toList,Array.getElem?_eq_getElem n];simp[Array.getD,n]
   rw[ve h]at d;by_cases c:xs.getD ((lo+hi)/2) j<j
   ·rw[ve c]at d;rw[d];refine Za l f ((lo+hi)/2+1) hi (by lia) h2 (by lia) (fun i v m g=>?_) b;rcases Nat.lt_or_ge i ((lo+hi)/2)with z | z
    ·exact vX (Zo l g k z) c
    ·have:i=(lo+hi)/2:=by lia
     subst this;rw[k]at g;exact vK g▸c
   ·rw[vd c]at d;rw[d];refine Za l f lo ((lo+hi)/2) (by lia) (by lia) (by lia) a fun i v m g=>?_
    rcases Nat.lt_or_ge ((lo+hi)/2) i with z | z
    ·have:=Zo l k g z;lia
    ·have:i=(lo+hi)/2:=by lia
     subst this;rw[k]at g;have:=vK g;lia
  ·rw[vd h]at d;rw[d];have e:lo=hi:=by lia
   subst e;exact⟨h2,a,b⟩
theorem Qo{xs:Array Nat}(b:xs.toList.Pairwise (· < ·))(j:Nat):SetTable.below xs j<=xs.size/\(∀i v,i<SetTable.below xs j->xs.toList[i]?=some v->v<j)/\∀i v,SetTable.below xs j<=i->xs.toList[i]?=some v->j<=v:=
 Za b xs.size 0 xs.size (vb _) (vc _) (by lia) (fun i v h=>uk h (Nat.not_lt_zero _)) fun i v h a=>by
  have:=(vx.mp a).1;rw[Array.length_toList]at this;lia
structure STb(led:Bool)(n:Nat)(t:SetTable):Prop where
 mask:t.mask=7
 dm:t.dummies = #[]
 ld:t.led=led
 plain:t.plain=true
 up:t.place.toList.Pairwise (· < ·)
 le:∀x∈t.place.toList,x<8
 sz:t.place.size=n
theorem STb.fresh(led:Bool):STb led 0 (.fresh 0 0 led):=⟨rfl,rfl,rfl,rfl,.nil,(fun x h=>nomatch h),rfl⟩
section
variable{led:Bool}{n:Nat}{t:SetTable}
theorem STb.slot(T:STb led n t)(j:Nat):(j∈t.place.toList/\∃i,t.slot j = .live i)\/(j∉t.place.toList/\t.slot j = .empty):=by
 obtain⟨g,b,d⟩:=Qo T.up j;unfold SetTable.slot;by_cases c:t.place[SetTable.below t.place j]?=some j
 ·refine .inl ⟨?_,SetTable.below t.place j,?_⟩
  ·rw[<-Array.getElem?_toList]at c;exact vm c
  ·dsimp only;rw[ve (by rw[c];exact beq_self_eq_true _)]
 ·refine .inr ⟨fun f=>c ?_,?_⟩
  ·obtain⟨i,a⟩:=List.getElem?_of_mem f;rcases Nat.lt_trichotomy i (SetTable.below t.place j)with z | z | z
   ·exact uk (b i j z a) (Nat.lt_irrefl _)
   ·rw[<-Array.getElem?_toList,<-z];exact a
   ·have h:=(vx.mp a).1;have e:t.place.toList[SetTable.below t.place j]?=some (t.place.toList[SetTable.below t.place j]'(by lia)):=vz _;have:=d _ _ (vc _) e;have:=Zo T.up e a z;lia
  ·dsimp only;rw[vd (by rw[beq_iff_eq];exact c),T.dm];rfl
noncomputable def lp(j:Nat):Nat->Nat
 | 0=>j
 | k+1=>lp ((j*5+1)%8) k
theorem Xb:∀j,j<8->∀m,m<8->∃k,k<8/\lp j k=m:=by decide
theorem STb.adv(T:STb led n t){p:SetTable.Probe}(b:p.more=0):t.advance p={p with j:=(p.i*5+1+p.perturb/32)%8,more:=0,i:=(p.i*5+1+p.perturb/32)%8,perturb:=p.perturb/32}:=by
 unfold SetTable.advance;rw[vd (by lia),T.mask];have a:(p.i*5+1+p.perturb/32)%8<8:=Nat.mod_lt _ (by decide);have e:SetTable.runEnd 7 ((p.i*5+1+p.perturb/32)%8)=(p.i*5+1+p.perturb/32)%8:=by
  unfold SetTable.runEnd;rw[vd (by lia)]
 unfold SetTable.leap;simp only[show(7:Nat)+1=8 from rfl];rw[e,Nat.sub_self]
abbrev PbOk(p:SetTable.Probe):Prop:=p.more=0/\p.i=p.j/\p.j<8/\p.dummy=none
theorem STb.go_live(T:STb led n t){h:Int}{f:Nat}{p:SetTable.Probe}(a:PbOk p)(c:∃i,t.slot p.j = .live i) :
  ∃q,PbOk q/\q.perturb=p.perturb/32/\q.j=(p.j*5+1+p.perturb/32)%8/\SetTable.probe.go t (fun _=>h+1) h (f+1) p=SetTable.probe.go t (fun _=>h+1) h f q:=by
 obtain⟨i,b⟩:=c;refine⟨t.advance p,?_⟩;rw[T.adv a.1];refine⟨⟨rfl,rfl,Nat.mod_lt _ (by decide),a.2.2.2⟩,rfl,by rw[<-a.2.1],?_⟩;rw[SetTable.probe.go,b];dsimp only;rw[vd (by rw[beq_iff_eq];lia),T.adv a.1]
theorem STb.go_empty{h:Int}{f:Nat}{p:SetTable.Probe}(b:PbOk p)(a:t.slot p.j = .empty):SetTable.probe.go t (fun _=>h+1) h (f+1) p=some (.empty p.j none):=by
 rw[SetTable.probe.go,a];dsimp only;rw[b.2.2.2]
theorem STb.go0(T:STb led n t){h:Int}:∀(k f:Nat) (p:SetTable.Probe),PbOk p->p.perturb=0->k<f->t.slot (lp p.j k) = .empty->∃j,j<8/\t.slot j = .empty/\SetTable.probe.go t (fun _=>h+1) h f p=some (.empty j none)
 | _,0,_,_,_,hf,_=>uk hf (Nat.not_lt_zero _)
 | 0,f+1,p,hp,_,_,he=>⟨p.j,hp.2.2.1,he,STb.go_empty hp he⟩
 | k+1,f+1,p,hp,h0,hf,he=>by
  rcases T.slot p.j with⟨_,d⟩ | ⟨_,z⟩
  ·obtain⟨q,e,a,b,c⟩:=T.go_live (h:=h) (f:=f) hp d;rw[c];rw[h0]at a b;exact STb.go0 T k f q e a (by lia) (by rw[b];exact he)
  ·exact⟨p.j,hp.2.2.1,z,STb.go_empty hp z⟩
theorem STb.some_empty(T:STb led n t)(d:n<=7):∃m,m<8/\t.slot m = .empty:=by
 apply Classical.byContradiction;intro c;have a:∀m∈List.range 8,m∈t.place.toList:=fun m b=>by
  rcases T.slot m with⟨z,_⟩ | ⟨_,z⟩
  ·exact z
  ·exact uk ⟨m,vZ.mp b,z⟩ c
 have:=(List.nodup_range (n:=8)).length_le_of_subset a;rw[length_range,Array.length_toList,T.sz]at this;lia
theorem STb.goK(T:STb led n t)(a:n<=7){h:Int}:∀(k f:Nat) (p:SetTable.Probe),PbOk p->p.perturb<32^k->k+9<=f->∃j,j<8/\t.slot j = .empty/\SetTable.probe.go t (fun _=>h+1) h f p=some (.empty j none)
 | 0,f,p,hp,h0,hf=>by
  obtain⟨m,l,e⟩:=T.some_empty a;obtain⟨k,r,d⟩:=Xb p.j hp.2.2.1 m l;exact T.go0 k f p hp (by simpa using h0) (by lia) (by rw[d];exact e)
 | k+1,0,_,_,_,hf=>uk hf (by lia)
 | k+1,f+1,p,hp,h0,hf=>by
  rcases T.slot p.j with⟨_,g⟩ | ⟨_,z⟩
  ·obtain⟨q,i,b,o,c⟩:=T.go_live (h:=h) (f:=f) hp g;rw[c];exact STb.goK T a k f q i (by rw[b,Nat.div_lt_iff_lt_mul (by decide)];rw[Nat.pow_succ]at h0;exact h0) (by lia)
  ·exact⟨p.j,hp.2.2.1,z,STb.go_empty hp z⟩
theorem STb.free(T:STb led n t)(c:n<=7)(h:Int):∃j,j<8/\j∉t.place.toList/\t.freeSlot h=some (j,false):=by
 have d:SetTable.bits h<2^64:=by
  unfold SetTable.bits;have:=vg h (show(0:Int)<2^64 by decide);have:=vf h (show(2^64:Int)≠0 by decide);lia
 have e:t.probeStart h=⟨SetTable.bits h%8,0,SetTable.bits h%8,SetTable.bits h,none⟩:=by
  unfold SetTable.probeStart;rw[T.mask];have g:SetTable.bits h%(7+1)<8:=Nat.mod_lt _ (by decide);have e:SetTable.runEnd 7 (SetTable.bits h%(7+1))=SetTable.bits h%(7+1):=by
   unfold SetTable.runEnd;rw[vd (by lia)]
  simp only[e,Nat.sub_self]
 obtain⟨j,f,b,a⟩:=T.goK c (h:=h) 13 220 ⟨SetTable.bits h%8,0,SetTable.bits h%8,SetTable.bits h,none⟩ ⟨rfl,rfl,Nat.mod_lt _ (by decide),rfl⟩ (Nat.lt_of_lt_of_le d (by decide)) (by decide);refine⟨j,f,?_,?_⟩
 ·rcases T.slot j with⟨_,i,z⟩ | ⟨z,_⟩
  ·rw[b]at z;cases z
  ·exact z
 ·unfold SetTable.freeSlot SetTable.probe;rw[e,T.mask];show(match SetTable.probe.go t (fun _=>h+1) h 220 _ with | some (.empty j dummy)=>some (dummy.getD j,dummy.isSome) | _=>none)=_;rw[a];rfl
end
structure STc(led:Bool)(n:Nat)(t:SetTable):Prop where
 dm:t.dummies = #[]
 ld:t.led=led
 plain:t.plain=true
 up:t.place.toList.Pairwise (· < ·)
 sz:t.place.size=n
 ft:n<=t.mask
theorem STb.c{led:Bool}{n:Nat}{t:SetTable}(T:STb led n t)(h:n<=7):STc led n t:=⟨T.dm,T.ld,T.plain,T.up,T.sz,by rw[T.mask];exact h⟩
theorem Q7{a c:Type}{f g:a->Option c}:∀{l:List a},(∀x∈l,f x=g x)->l.filterMap f=l.filterMap g
 | [],_=>rfl
 | x::r,h=>by rw[filterMap_cons,filterMap_cons,h x vq,Q7 fun y b=>h y (vp _ b)]
noncomputable def ownL(o:Array (Option Nat)):List Nat:=(List.range 32).filterMap fun j=>o.getD j none
structure OwG(o:Array (Option Nat))(k:Nat):Prop where
 sz:o.size=32
 pm:(ownL o).Perm (List.range k)
noncomputable def lq(j:Nat):Nat->Nat
 | 0=>j
 | k+1=>lq ((j*5+1)%32) k
theorem wG:∀j,j<32->∀m,m<32->∃k,k<32/\lq j k=m:=by decide +kernel
theorem ku{t:SetTable}(a:t.place.toList.Pairwise (· < ·))(d:t.dummies = #[])(j:Nat):(j∈t.place.toList/\∃i,t.slot j = .live i)\/(j∉t.place.toList/\t.slot j = .empty):=by
 obtain⟨k,f,g⟩:=Qo a j;unfold SetTable.slot;by_cases c:t.place[SetTable.below t.place j]?=some j
 ·refine .inl ⟨?_,SetTable.below t.place j,?_⟩
  ·rw[<-Array.getElem?_toList]at c;exact vm c
  ·dsimp only;rw[ve (by rw[c];exact beq_self_eq_true _)]
 ·refine .inr ⟨fun h=>c ?_,?_⟩
  ·obtain⟨i,b⟩:=List.getElem?_of_mem h;rcases Nat.lt_trichotomy i (SetTable.below t.place j)with z | z | z
   ·exact uk (f i j z b) (Nat.lt_irrefl _)
   ·rw[<-Array.getElem?_toList,<-z];exact b
   ·have l:=(vx.mp b).1;have e:t.place.toList[SetTable.below t.place j]?=some (t.place.toList[SetTable.below t.place j]'(by lia)):=vz _;have:=g _ _ (vc _) e;have:=Zo a e b z;lia
  ·dsimp only;rw[vd (by rw[beq_iff_eq];exact c),d];rfl
structure STd(led:Bool)(n:Nat)(t:SetTable):Prop where
 mask:t.mask=31
 dm:t.dummies = #[]
 ld:t.led=led
 plain:t.plain=true
 up:t.place.toList.Pairwise (· < ·)
 le:∀x∈t.place.toList,x<32
 sz:t.place.size=n
theorem STd.c{led:Bool}{n:Nat}{t:SetTable}(T:STd led n t)(h:n<=31):STc led n t:=⟨T.dm,T.ld,T.plain,T.up,T.sz,by rw[T.mask];exact h⟩
section
variable{led:Bool}{n:Nat}{t:SetTable}
structure Hd(p:SetTable.Probe):Prop where
 j:p.j=p.i
 m:p.more=SetTable.runEnd 31 p.i-p.i
 i:p.i<32
 d:p.dummy=none
def Fnd(t:SetTable)(r:Option SetTable.Met):Prop:=∃j,j<32/\t.slot j = .empty/\r=some (.empty j none)
theorem Xq{i:Nat}(h:i<32):i<=SetTable.runEnd 31 i/\SetTable.runEnd 31 i<32/\SetTable.runEnd 31 i-i<=9:=by
 unfold SetTable.runEnd;split<;>lia
theorem STd.run(T:STd led n t){h:Int}:∀(m f:Nat) (p:SetTable.Probe),p.more=m->p.j+m<32->p.dummy=none->m<f->
  Fnd t (SetTable.probe.go t (fun _=>h+1) h f p)\/∃q,Hd q/\q.perturb=p.perturb/32/\q.i=(p.i*5+1+p.perturb/32)%32/\SetTable.probe.go t (fun _=>h+1) h f p=SetTable.probe.go t (fun _=>h+1) h (f-(m+1)) q
 | _,0,_,_,_,_,hf=>uk hf (Nat.not_lt_zero _)
 | m,f+1,p,hm,hj,hd,hf=>by
  rcases ku T.up T.dm p.j with⟨_,i,b⟩ | ⟨_,z⟩
  ·have e:SetTable.probe.go t (fun _=>h+1) h (f+1) p=SetTable.probe.go t (fun _=>h+1) h f (t.advance p):=by
    rw[SetTable.probe.go,b];dsimp only;rw[vd (by rw[beq_iff_eq];lia)]
   rw[e]
   match m,hm,hj,hf with
   | 0,hm,hj,hf=>
    refine .inr ⟨t.advance p,?_⟩;have a:t.advance p={p with j:=(p.i*5+1+p.perturb/32)%32,more:=SetTable.runEnd 31 ((p.i*5+1+p.perturb/32)%32)-(p.i*5+1+p.perturb/32)%32,i:=(p.i*5+1+p.perturb/32)%32,perturb:=p.perturb/32}:=by
     unfold SetTable.advance;rw[vd (by lia),T.mask];rfl
    rw[a];exact⟨⟨rfl,rfl,Nat.mod_lt _ (by decide),hd⟩,rfl,rfl,rfl⟩
   | m+1,hm,hj,hf=>
    have a:t.advance p={p with j:=p.j+1,more:=p.more-1}:=by
     unfold SetTable.advance;rw[ve (by lia)]
    rw[a];have:=STd.run T (h:=h) m f {p with j:=p.j+1,more:=p.more-1} (by show p.more-1=m;lia) (by show p.j+1+m<32;lia) hd (by lia);rw[show f+1-(m+1+1)=f-(m+1) by lia];exact this
  ·refine .inl ⟨p.j,by lia,z,?_⟩;rw[SetTable.probe.go,z];dsimp only;rw[hd]
theorem STd.blk(T:STd led n t){h:Int}{f g:Nat}{p:SetTable.Probe}(a:Hd p)(c:g+10<=f) :
  Fnd t (SetTable.probe.go t (fun _=>h+1) h f p)\/∃q b,Hd q/\q.perturb=p.perturb/32/\q.i=(p.i*5+1+p.perturb/32)%32/\g<=b/\SetTable.probe.go t (fun _=>h+1) h f p=SetTable.probe.go t (fun _=>h+1) h b q:=by
 have r:=Xq a.i;rcases T.run (h:=h) p.more f p rfl (by rw[a.j,a.m];lia) a.d (by rw[a.m];lia)with z | ⟨q,h1,h2,h3,h4⟩
 ·exact .inl z
 ·exact .inr ⟨q,_,h1,h2,h3,by rw[a.m];lia,h4⟩
theorem STd.hit{h:Int}{f:Nat}{p:SetTable.Probe}(a:Hd p)(c:1<=f)(b:t.slot p.i = .empty):Fnd t (SetTable.probe.go t (fun _=>h+1) h f p):=by
 match f,c with
 | f+1,_=>
  refine⟨p.j,by rw[a.j];exact a.i,by rw[a.j];exact b,?_⟩;rw[SetTable.probe.go,a.j,b];dsimp only;rw[a.d]
theorem STd.go0(T:STd led n t){h:Int}:∀(k f:Nat) (p:SetTable.Probe),Hd p->p.perturb=0->10*k+1<=f->t.slot (lq p.i k) = .empty->Fnd t (SetTable.probe.go t (fun _=>h+1) h f p)
 | 0,f,p,hp,_,hf,he=>STd.hit hp (by lia) he
 | k+1,f,p,hp,h0,hf,he=>by
  rcases T.blk (h:=h) (f:=f) (g:=10*k+1) hp (by lia)with z | ⟨q,d,i,b,c,a,e⟩
  ·exact z
  ·rw[e];rw[h0]at b c;exact STd.go0 T k d q i b a (by rw[c];exact he)
theorem STd.some_empty(T:STd led n t)(d:n<=31):∃m,m<32/\t.slot m = .empty:=by
 apply Classical.byContradiction;intro c;have a:∀m∈List.range 32,m∈t.place.toList:=fun m b=>by
  rcases ku T.up T.dm m with⟨z,_⟩ | ⟨_,z⟩
  ·exact z
  ·exact uk ⟨m,vZ.mp b,z⟩ c
 have:=(List.nodup_range (n:=32)).length_le_of_subset a;rw[length_range,Array.length_toList,T.sz]at this;lia
theorem STd.goK(T:STd led n t)(b:n<=31){h:Int}:∀(k f:Nat) (p:SetTable.Probe),Hd p->p.perturb<32^k->10*k+330<=f->Fnd t (SetTable.probe.go t (fun _=>h+1) h f p)
 | 0,f,p,hp,h0,hf=>by
  obtain⟨m,l,d⟩:=T.some_empty b;obtain⟨k,r,c⟩:=wG p.i hp.i m l;exact T.go0 k f p hp (by simpa using h0) (by lia) (by rw[c];exact d)
 | k+1,f,p,hp,h0,hf=>by
  rcases T.blk (h:=h) (f:=f) (g:=10*k+330) hp (by lia)with z | ⟨q,i,j,o,s,a,e⟩
  ·exact z
  ·rw[e];exact STd.goK T b k i q j (by rw[o,Nat.div_lt_iff_lt_mul (by decide)];rw[Nat.pow_succ]at h0;exact h0) a
theorem STd.free(T:STd led n t)(c:n<=31)(h:Int):∃j,j<32/\j∉t.place.toList/\t.freeSlot h=some (j,false):=by
 have d:SetTable.bits h<2^64:=by
  unfold SetTable.bits;have:=vg h (show(0:Int)<2^64 by decide);have:=vf h (show(2^64:Int)≠0 by decide);lia
 have e:t.probeStart h=⟨SetTable.bits h%32,SetTable.runEnd 31 (SetTable.bits h%32)-SetTable.bits h%32,SetTable.bits h%32,SetTable.bits h,none⟩:=by
  unfold SetTable.probeStart;rw[T.mask]
 obtain⟨j,f,b,a⟩:=T.goK c (h:=h) 13 460 ⟨SetTable.bits h%32,SetTable.runEnd 31 (SetTable.bits h%32)-SetTable.bits h%32,SetTable.bits h%32,SetTable.bits h,none⟩ ⟨rfl,rfl,Nat.mod_lt _ (by decide),rfl⟩ (Nat.lt_of_lt_of_le d (by decide)) (by decide);refine⟨j,f,?_,?_⟩
 ·rcases ku T.up T.dm j with⟨_,i,z⟩ | ⟨z,_⟩
  ·rw[b]at z;cases z
  ·exact z
 ·unfold SetTable.freeSlot SetTable.probe;rw[e,T.mask];show(match SetTable.probe.go t (fun _=>h+1) h 460 _ with | some (.empty j dummy)=>some (dummy.getD j,dummy.isSome) | _=>none)=_;rw[a];rfl
end
section
variable{o:Array (Option Nat)}
noncomputable abbrev fnd(o:Array (Option Nat))(i:Nat):Option Nat:=(List.range (SetTable.runEnd 31 i+1-i)).find? fun k=>(o.getD (i+k) (some 0)).isNone
theorem yl{i k:Nat}(hs:o.size=32)(h:fnd o i=some k):i+k<32/\o.getD (i+k) none=none:=by
 have:=List.find?_some h;have a:i+k<32:=by
  apply Nat.not_le.mp;intro c;have e:o.getD (i+k) (some 0)=some 0:=by simp[Array.getD,show¬i+k<o.size by lia]
  rw[e]at this;cases this
 refine⟨a,?_⟩;have e:o.getD (i+k) (some 0)=o.getD (i+k) none:=by simp[Array.getD,show i+k<o.size by lia]
 rw[e]at this;exact Option.isNone_iff_eq_none.mp this
theorem Y1{i:Nat}(hi:i<32)(hs:o.size=32)(h:o.getD i none=none):∃k,fnd o i=some k:=by
 cases hf:fnd o i with
 | some k=>exact⟨k,rfl⟩
 | none=>
  have a:=List.find?_eq_none.mp hf 0 (vZ.mpr (by unfold SetTable.runEnd;split<;>lia));have e:o.getD (i+0) (some 0)=none:=by
   rw[Nat.add_zero];have:o.getD i (some 0)=o.getD i none:=by simp[Array.getD,show i<o.size by lia]
   rw[this,h]
  rw[e]at a;exact uk rfl a
theorem yn(f i p:Nat):SetTable.layClean.free 31 o (f+1) i p=match fnd o i with | some k=>some (i+k) | none=>SetTable.layClean.free 31 o f ((i*5+1+p/32)%32) (p/32):=rfl
def FrOk(o:Array (Option Nat))(r:Option Nat):Prop:=∃j,r=some j/\j<32/\o.getD j none=none
theorem wz{f i p:Nat}(hs:o.size=32)(hi:i<32)(h:o.getD i none=none):FrOk o (SetTable.layClean.free 31 o (f+1) i p):=by
 obtain⟨k,a⟩:=Y1 hi hs h;rw[yn,a];exact⟨_,rfl,yl hs a⟩
theorem free0(hs:o.size=32):∀(k f i:Nat),i<32->k<f->o.getD (lq i k) none=none->FrOk o (SetTable.layClean.free 31 o f i 0)
 | _,0,_,_,h,_=>uk h (Nat.not_lt_zero _)
 | 0,f+1,i,hi,_,h=>wz hs hi h
 | k+1,f+1,i,hi,hf,h=>by
  rw[yn];cases e:fnd o i with
  | some k=>exact⟨_,rfl,yl hs e⟩
  | none=>exact free0 hs k f ((i*5+1)%32) (Nat.mod_lt _ (by decide)) (by lia) h
theorem freeK(hs:o.size=32){m:Nat}(b:m<32)(a:o.getD m none=none):∀(K f i p:Nat),i<32->p<32^K->K+33<=f->FrOk o (SetTable.layClean.free 31 o f i p)
 | 0,f,i,p,hi,hp,hf=>by
  obtain⟨k,d,c⟩:=wG i hi m b;have:p=0:=by simpa using hp
  subst this;exact free0 hs k f i hi (by lia) (by rw[c];exact a)
 | K+1,0,_,_,_,_,hf=>uk hf (by lia)
 | K+1,f+1,i,p,hi,hp,hf=>by
  rw[yn];cases e:fnd o i with
  | some k=>exact⟨_,rfl,yl hs e⟩
  | none=>exact freeK hs b a K f _ _ (Nat.mod_lt _ (by decide)) (by rw[Nat.div_lt_iff_lt_mul (by decide)];rw[Nat.pow_succ]at hp;exact hp) (by lia)
theorem OwG.empty{k:Nat}(G:OwG o k)(h:k<32):∃m,m<32/\o.getD m none=none:=by
 apply Classical.byContradiction;intro i;have l:(ownL o).length=32:=by
  have d:∀l:List Nat,(∀j∈l,j<32)->(l.filterMap fun j=>o.getD j none).length=l.length:=fun l=>by
   induction l with
   | nil=>intro _;rfl
   | cons a r ih=>
    intro g;cases e:o.getD a none with
    | none=>exact uk ⟨a,g a vq,e⟩ i
    | some v=>rw[List.filterMap_cons_some (f:=fun j=>o.getD j none) (b:=v) e,vO,vO,ih fun j c=>g j (vp _ c)]
  unfold ownL;rw[d _ fun j c=>vZ.mp c,length_range]
 rw[G.pm.length_eq,length_range]at l;lia
theorem OwG.put{k j:Nat}(G:OwG o k)(p:j<32)(e:o.getD j none=none):OwG (o.setIfInBounds j (some k)) (k+1):=by
 have n:=G.sz;refine⟨by rw[Array.size_setIfInBounds];exact n,?_⟩;have d:∀x,x≠j->(o.setIfInBounds j (some k)).getD x none=o.getD x none:=fun x a=>by
  rw[Array.getD_eq_getD_getElem?,Array.getD_eq_getD_getElem?,Array.getElem?_setIfInBounds_ne (Ne.symm a)]
 have c:(o.setIfInBounds j (some k)).getD j none=some k:=by
  rw[Array.getD_eq_getD_getElem?,Array.getElem?_setIfInBounds_self_of_lt (by lia)];rfl
 have g:List.range 32=List.range j++j::List.range' (j+1) (31-j):=by
  rw[List.range_eq_range',show(32:Nat)=j+(1+(31-j)) by lia,<-List.range'_append_1,<-List.range_eq_range',show 1+(31-j)=(31-j)+1 by lia,List.range'_succ,Nat.zero_add]
 have h:(List.range j).filterMap (fun x=>(o.setIfInBounds j (some k)).getD x none)=(List.range j).filterMap (fun x=>o.getD x none):=Q7 fun x a=>d x (by have:=vZ.mp a;lia)
 have i:(List.range' (j+1) (31-j)).filterMap (fun x=>(o.setIfInBounds j (some k)).getD x none)=(List.range' (j+1) (31-j)).filterMap (fun x=>o.getD x none):=Q7 fun x a=>d x (by have:=(List.mem_range'_1.mp a).1;lia)
 have l:ownL (o.setIfInBounds j (some k))=(List.range j).filterMap (fun x=>o.getD x none)++k::(List.range' (j+1) (31-j)).filterMap (fun x=>o.getD x none):=by
  unfold ownL;rw[g,List.filterMap_append,List.filterMap_cons_some (f:=fun x=>(o.setIfInBounds j (some k)).getD x none) (b:=k) c,h,i]
 have m:ownL o=(List.range j).filterMap (fun x=>o.getD x none)++(List.range' (j+1) (31-j)).filterMap (fun x=>o.getD x none):=by
  unfold ownL;rw[g,List.filterMap_append,List.filterMap_cons_none (f:=fun x=>o.getD x none) e]
 rw[l,range_succ];refine List.perm_middle.trans ?_;rw[<-m];exact(List.Perm.cons _ G.pm).trans (List.perm_append_singleton k _).symm
noncomputable def layF(acc:Option (Array (Option Nat)×Nat))(h:Int):Option (Array (Option Nat)×Nat):=do
 let (owner,k) <-acc
 let j <-SetTable.layClean.free 31 owner (SetTable.turns 31) (SetTable.bits h%(31+1)) (SetTable.bits h)
 pure (owner.setIfInBounds j (some k),k+1)
theorem Yf:∀(hs:List Int) {o:Array (Option Nat)} {k:Nat},OwG o k->k+hs.length<=31->∃o',hs.foldl layF (some (o,k))=some (o',k+hs.length)/\OwG o' (k+hs.length)
 | [],o,k,G,_=>⟨o,rfl,G⟩
 | h::r,o,k,G,hl=>by
  rw[vO]at hl;have g:SetTable.bits h<2^64:=by
   unfold SetTable.bits;have:=vg h (show(0:Int)<2^64 by decide);have:=vf h (show(2^64:Int)≠0 by decide);lia
  obtain⟨m,i,f⟩:=G.empty (by lia);obtain⟨j,d,a,l⟩:=freeK G.sz i f 13 46 (SetTable.bits h%(31+1)) (SetTable.bits h) (Nat.mod_lt _ (by decide)) (Nat.lt_of_lt_of_le g (by decide)) (by decide);have c:layF (some (o,k)) h=some (o.setIfInBounds j (some k),k+1):=by
   show((SetTable.layClean.free 31 o 46 (SetTable.bits h%(31+1)) (SetTable.bits h)).bind fun j=>some (o.setIfInBounds j (some k),k+1))=_;rw[d];rfl
  rw[List.foldl_cons,c];obtain⟨o',e,b⟩:=Yf r (G.put a l) (by lia);exact⟨o',by rw[e,vO,show k+1+r.length=k+(r.length+1) by lia],by rw[vO,show k+(r.length+1)=k+1+r.length by lia];exact b⟩
end
theorem layC{hs:Array Int}(h:hs.size<=31):∃o,SetTable.layClean 31 hs=some o/\OwG o hs.size:=by
 have a:OwG (Array.replicate 32 none) 0:=by
  refine⟨Array.size_replicate,?_⟩;have:ownL (Array.replicate 32 none)=[]:=by decide +kernel
  rw[this];exact .rfl
 obtain⟨o,e,G⟩:=Yf hs.toList a (by rw[Array.length_toList];lia);rw[Array.length_toList,Nat.zero_add]at e G;refine⟨o,?_,G⟩;show Option.map (fun x=>x.1) (Array.foldl layF (some (Array.replicate 32 none,0)) hs)=_;rw[<-Array.foldl_toList,e];rfl
theorem relay5{led:Bool}{t:SetTable}{c:Array (Int×Value)}(T:STb led 5 t)(i:c.size=5):∃f t',relayAll t c (SetTable.grown c.size)=(f,t',false)/\STd led 5 t'/\f.size=5:=by
 obtain⟨o,p,G⟩:=layC (hs:=c.map (·.1)) (by rw[Array.size_map];lia);rw[Array.size_map,i]at G;have q:t.relaid (c.map (·.1)) (SetTable.grown c.size)=some ({mask:=31,place:=(((List.range 32).filterMap fun j=>(o.getD j none).map (j,·)).map (·.1)).toArray,dummies:=#[],finger:=t.finger,led:=t.led,moves:=t.movedTo 31,plain:=t.plain},(((List.range 32).filterMap fun j=>(o.getD j none).map (j,·)).map (·.2)).toArray):=by
  rw[i];show SetTable.laid 31 t.finger (t.movedTo 31) t.led t.plain (c.map (·.1))=_;unfold SetTable.laid;rw[p];rfl
 have m:((List.range 32).filterMap fun j=>(o.getD j none).map (j,·)).map (·.2)=ownL o:=by
  unfold ownL;rw[List.map_filterMap];exact Q7 fun x _=>by rw[Option.map_map];cases o.getD x none<;>rfl
 have w:((List.range 32).filterMap fun j=>(o.getD j none).map (j,·)).length=5:=by
  have:=congrArg List.length m;rw[vt,G.pm.length_eq,length_range]at this;exact this
 have z:(((List.range 32).filterMap fun j=>(o.getD j none).map (j,·)).map (·.1)).Pairwise (· < ·):=by
  rw[pairwise_map];refine List.Pairwise.filterMap _ (fun a A h b r B k=>?_) List.pairwise_lt_range;obtain⟨_,_,rfl⟩:=vh.mp r;obtain⟨_,_,rfl⟩:=vh.mp k;exact h
 have d:coversAll (((List.range 32).filterMap fun j=>(o.getD j none).map (j,·)).map (·.2)).toArray c.size=true:=by
  unfold coversAll;rw[List.toList_toArray,m,i];exact List.isPerm_iff.mpr G.pm
 have g:((((List.range 32).filterMap fun j=>(o.getD j none).map (j,·)).map (·.2)).toArray.filterMap (c[·]?)).size=5:=by
  have u:((((List.range 32).filterMap fun j=>(o.getD j none).map (j,·)).map (·.2)).toArray).toList.Perm (List.range c.size):=List.isPerm_iff.mp d;rw[<-Array.length_toList,Array.toList_filterMap,(u.filterMap _).length_eq,filterMap_getElem?_range,Array.length_toList,i]
 have l:STd led 5 {mask:=31,place:=(((List.range 32).filterMap fun j=>(o.getD j none).map (j,·)).map (·.1)).toArray,dummies:=#[],finger:=t.finger,led:=t.led,moves:=t.movedTo 31,plain:=t.plain}:=⟨rfl,rfl,T.ld,T.plain,by rw[List.toList_toArray];exact z,(fun x n=>by
  rw[List.toList_toArray]at n;obtain⟨y,v,rfl⟩:=vJ.mp n;obtain⟨j,s,e⟩:=mem_filterMap.mp v;obtain⟨_,_,rfl⟩:=vh.mp e;exact vZ.mp s),by rw[size_toArray,vt,w]⟩
 refine⟨_,_,?_,l,g⟩;unfold relayAll;rw[q];dsimp only;rw[ve];rw[d,g,Bool.true_and];unfold SetTable.fits SetTable.fill;rw[l.sz];rfl
section
variable{prog:Program}{w:World}{A:Around}{E:Value->Shared->Prop}{s:Shared}
noncomputable def keyI(e:Int×Value):Int:=match e.2 with | .int k _=>k | _=>0
def SetG(prog:Program)(w:World)(led:Bool)(h:Heap)(a:Addr)(ks:List Int):Prop:=∃o es ep t,h.get? a=some o/\o.ExactSet/\o.data = .set es ep t/\ElemsOf (intKind prog w) es.toList/\es.toList.map keyI=ks/\ks.Nodup/\STc led es.size t/\(es.size<=4/\STb led es.size t\/5<=es.size/\es.size<=12/\STd led es.size t)
theorem SetG.keep{led:Bool}{h h':Heap}{a:Addr}{ks:List Int}(x:SetG prog w led h a ks)(k:∀o,h.get? a=some o->h'.get? a=some o):SetG prog w led h' a ks:=by
 obtain⟨o,c,b,t,d,e⟩:=x;exact⟨o,c,b,t,k o d,e⟩
theorem STc.fits{led:Bool}{n:Nat}{t:SetTable}(T:STc led n t):t.fits n=true:=by
 unfold SetTable.fits SetTable.fill;rw[T.sz,T.dm];simpa using T.ft
theorem kR{a:List (Int×Value)}(h:ElemsOf (intKind prog w) a){e:Int×Value}(b:e∈a):∃t,e.2 = .int (keyI e) t:=by
 obtain⟨⟨k,c,_⟩,_⟩:=h e b;obtain⟨t,d⟩:=Value.isInt_shape (k:=k) c;refine⟨t,?_⟩;unfold keyI;rw[d]
theorem STb.put{led:Bool}{n:Nat}{t:SetTable}(T:STb led n t){j:Nat}(o:j<8)(p:j∉t.place.toList):STb led (n+1) (t.put j).1:=by
 obtain⟨q,k,l⟩:=Qo T.up j;have e:(t.put j).1={t with place:=SetTable.insertAt t.place (SetTable.below t.place j) j,dummies:=#[]}:=by
  unfold SetTable.put;rw[T.dm];rfl
 rw[e];have h:∀v∈t.place.toList.take (SetTable.below t.place j),v<j:=fun v b=>by
  obtain⟨i,a⟩:=List.getElem?_of_mem b;have m:=(vx.mp a).1;rw[vj]at m;rw[List.getElem?_take_of_lt (by lia)]at a;exact k i v (by lia) a
 have d:∀v∈t.place.toList.drop (SetTable.below t.place j),j<v:=fun v b=>by
  obtain⟨i,a⟩:=List.getElem?_of_mem b;rw[List.getElem?_drop]at a;have:=l _ v (Nat.le_add_right _ i) a;rcases Nat.lt_or_eq_of_le this with z | z
  ·exact z
  ·exact uk (z▸vm a) p
 have g:(SetTable.insertAt t.place (SetTable.below t.place j) j).toList=t.place.toList.take (SetTable.below t.place j)++j::t.place.toList.drop (SetTable.below t.place j):=SetTable.toList_insertAt ..;refine⟨T.mask,rfl,T.ld,T.plain,?_,?_,?_⟩
 ·show(SetTable.insertAt t.place (SetTable.below t.place j) j).toList.Pairwise _;rw[g,List.pairwise_append,pairwise_cons];refine⟨T.up.sublist (take_sublist _ _),⟨d,T.up.sublist (List.drop_sublist _ _)⟩,fun v b u c=>?_⟩;rcases mem_cons.mp c with rfl | c
  ·exact h v b
  ·exact vX (h v b) (d u c)
 ·show∀x∈(SetTable.insertAt t.place (SetTable.below t.place j) j).toList,x<8;intro x f;rw[g]at f;rcases vi.mp f with z | z
  ·exact T.le x (List.mem_of_mem_take z)
  ·rcases mem_cons.mp z with rfl | z
   ·exact o
   ·exact T.le x (List.mem_of_mem_drop z)
 ·show(SetTable.insertAt t.place (SetTable.below t.place j) j).size=n+1;rw[<-Array.length_toList,(SetTable.insertAt_perm t.place _ j).length_eq,Array.toList_push,vn,Array.length_toList,T.sz];rfl
theorem STd.put{led:Bool}{n:Nat}{t:SetTable}(T:STd led n t){j:Nat}(o:j<32)(p:j∉t.place.toList):STd led (n+1) (t.put j).1:=by
 obtain⟨q,k,l⟩:=Qo T.up j;have e:(t.put j).1={t with place:=SetTable.insertAt t.place (SetTable.below t.place j) j,dummies:=#[]}:=by
  unfold SetTable.put;rw[T.dm];rfl
 rw[e];have h:∀v∈t.place.toList.take (SetTable.below t.place j),v<j:=fun v b=>by
  obtain⟨i,a⟩:=List.getElem?_of_mem b;have m:=(vx.mp a).1;rw[vj]at m;rw[List.getElem?_take_of_lt (by lia)]at a;exact k i v (by lia) a
 have d:∀v∈t.place.toList.drop (SetTable.below t.place j),j<v:=fun v b=>by
  obtain⟨i,a⟩:=List.getElem?_of_mem b;rw[List.getElem?_drop]at a;have:=l _ v (Nat.le_add_right _ i) a;rcases Nat.lt_or_eq_of_le this with z | z
  ·exact z
  ·exact uk (z▸vm a) p
 have g:(SetTable.insertAt t.place (SetTable.below t.place j) j).toList=t.place.toList.take (SetTable.below t.place j)++j::t.place.toList.drop (SetTable.below t.place j):=SetTable.toList_insertAt ..;refine⟨T.mask,rfl,T.ld,T.plain,?_,?_,?_⟩
 ·show(SetTable.insertAt t.place (SetTable.below t.place j) j).toList.Pairwise _;rw[g,List.pairwise_append,pairwise_cons];refine⟨T.up.sublist (take_sublist _ _),⟨d,T.up.sublist (List.drop_sublist _ _)⟩,fun v b u c=>?_⟩;rcases mem_cons.mp c with rfl | c
  ·exact h v b
  ·exact vX (h v b) (d u c)
 ·show∀x∈(SetTable.insertAt t.place (SetTable.below t.place j) j).toList,x<32;intro x f;rw[g]at f;rcases vi.mp f with z | z
  ·exact T.le x (List.mem_of_mem_take z)
  ·rcases mem_cons.mp z with rfl | z
   ·exact o
   ·exact T.le x (List.mem_of_mem_drop z)
 ·show(SetTable.insertAt t.place (SetTable.below t.place j) j).size=n+1;rw[<-Array.length_toList,(SetTable.insertAt_perm t.place _ j).length_eq,Array.toList_push,vn,Array.length_toList,T.sz];rfl
theorem setAddG{led:Bool}{a:Addr}{ks:List Int}{k:Int}{d:Tok}{Q:Bool->Shared->Prop}(hS:SetG prog w led s.heap a ks)(M:k∈ks\/ks.length<12)
  (h:∀b h' G,Heap.SameBut a s.heap h'->SetG prog w led h' a G->(∀x,x∈G↔x∈ks\/x=k)->Q b {s with heap:=h'}):wpAny (model prog w) A (setAddHashed a (.int k d) ((intKind prog w).hash k)) Q E s:=by
 obtain⟨o,c,C,t,D,n,p,g,l,nd,Tc,P⟩:=hS;have h5:c.size<=12:=by rcases P with⟨z,_⟩ | ⟨_,z,_⟩<;>lia
 have hf:=Tc.fits;have kl:ks.length=c.size:=by rw[<-l,vt,Array.length_toList]
 have H:∀x,x∈ks↔∃e∈c.toList,(intKind prog w).is x e.2=true:=fun x=>by
  rw[<-l,vJ];constructor
  ·rintro⟨e,q,rfl⟩;obtain⟨u,X⟩:=kR g q;exact⟨e,q,by rw[X];exact intKind_is _ _ _ _⟩
  ·rintro⟨e,q,Y⟩;obtain⟨u,X⟩:=Value.isInt_shape (k:=x) Y;refine⟨e,q,?_⟩;unfold keyI;rw[X]
 unfold setAddHashed setAddHashedIn;refine wpAny_holding (um (wpAny_setState_of D p hf ?_));dsimp only;rw[byScan_of (knd:=intKind prog w) (x:=.int k d) rfl (by unfold scanBound;lia) g];simp only[↓reduceIte];unfold setAddByScan;refine um (um (wpAny_rule (um (wpAny_setScan_of (knd:=intKind prog w) (k:=k) (intKind_is _ _ _ _) D p hf g ?_))));cases hr:List.findIdx? (fun e=>(intKind prog w).is k e.2) c.toList with
 | some j=>
  dsimp only;obtain⟨hj,W,_⟩:=List.findIdx?_eq_some_iff_getElem.mp hr;have U:k∈ks:=(H k).mpr ⟨c.toList[j],getElem_mem hj,W⟩;refine ul (ul ?_);exact h _ s.heap ks (Heap.SameBut.refl a s.heap) ⟨o,c,C,t,D,n,p,g,l,nd,Tc,P⟩ fun x=>⟨.inl,fun z=>z.elim id fun e=>e▸U⟩
 | none=>
  dsimp only;have nk:k∉ks:=fun U=>by
   obtain⟨e,q,r⟩:=(H k).mp U;have:=List.findIdx?_eq_none_iff.mp hr e q;rw[r]at this;cases this
  have a0:c.size<12:=by
   rcases M with z | z
   ·exact uk z nk
   ·lia
  obtain⟨j,B,i,O⟩:∃j,t.freeSlot ((intKind prog w).hash k)=some (j,false)/\STc led (c.size+1) (t.put j).1/\(c.size<=4/\STb led (c.size+1) (t.put j).1\/5<=c.size/\STd led (c.size+1) (t.put j).1):=by
   rcases P with⟨z,T⟩ | ⟨z,_,T⟩
   ·obtain⟨j,F,J,B⟩:=T.free (by lia) ((intKind prog w).hash k);exact⟨j,B,(T.put F J).c (by lia),.inl ⟨z,T.put F J⟩⟩
   ·obtain⟨j,F,J,B⟩:=T.free (by lia) ((intKind prog w).hash k);exact⟨j,B,(T.put F J).c (by lia),.inr ⟨z,T.put F J⟩⟩
  have L:=SetTable.insertAt_perm c (t.put j).2 ((intKind prog w).hash k,Value.int k d);have N:(SetTable.insertAt c (t.put j).2 ((intKind prog w).hash k,Value.int k d)).size=c.size+1:=by
   rw[<-Array.length_toList,L.length_eq,Array.toList_push,vn,Array.length_toList];rfl
  have eL:layNew t c ((intKind prog w).hash k) (.int k d)=(SetTable.insertAt c (t.put j).2 ((intKind prog w).hash k,Value.int k d),(t.put j).1,false,false):=by
   have f1:(t.put j).1.fits (c.size+1)=true:=i.fits;unfold layNew;rw[B];dsimp only;rw[N];unfold SetTable.orStandIn;rw[ve f1,f1];rfl
  rw[eL];dsimp only;refine um (ul ?_);rw[ve i.plain];refine um ?_;rw[hashByValue_scannable 8 (x:=.int k d) rfl];refine ul ?_;rw[show plainKind (.int k d)=true from rfl];simp only[↓reduceIte];generalize a1:SetTable.insertAt c (t.put j).2 ((intKind prog w).hash k,Value.int k d)=es1 at L N|-;generalize a2:(t.put j).1=t1 at O i|-;rw[Array.toList_push]at L;have m:ElemsOf (intKind prog w) es1.toList:=(g.push (k:=k) (x:=.int k d) (intKind_is _ _ _ _) rfl).perm L;refine um (wpAny_storeSet_of D p ?_ (fits_of_scanBound (by unfold scanBound;lia)));have R:(s.heap.update a (Obj.putSet es1 t1)).get? a=some {o with data:=.set es1 (C+1) t1}:=by
   have:=Heap.get?_update_self (Obj.putSet es1 t1) D (by rw[putSet_of es1 t1 p];rfl);rw[putSet_of es1 t1 p]at this;exact this
  have nf:(!false&&t1.tooFull)=decide (c.size=4):=by
   unfold SetTable.tooFull SetTable.fill;rcases O with⟨z,T⟩ | ⟨z,T⟩
   ·rw[T.sz,T.dm,T.mask];simp;lia
   ·rw[T.sz,T.dm,T.mask];simp;lia
  rw[nf];have Z:(es1.toList.map keyI).Perm (ks++[k]):=by
   have:=L.map keyI;rw[vk,l]at this;exact this
  have I:(ks++[k]).Nodup:=List.nodup_append.mpr ⟨nd,pairwise_singleton _ _,fun x Y y hy=>by rw[vo.mp hy];exact fun z=>nk (z▸Y)⟩;by_cases c5:c.size=4
  ·rw[vF c5];simp only[↓reduceIte];have e5:es1.size=5:=by lia
   have T5:STb led 5 t1:=by
    rcases O with⟨_,T⟩ | ⟨z,_⟩
    ·rw[show(5:Nat)=c.size+1 by lia];exact T
    ·lia
   have r:=relayAll_perm t1 es1 (SetTable.grown es1.size);obtain⟨f,v,er,T2,z2⟩:=relay5 T5 e5;rw[er]at r|-;dsimp only at r|-;refine um (ul ?_);refine um (wpAny_storeSet_of R rfl ?_ (fits_of_scanBound (by unfold scanBound;lia)));have S:((s.heap.update a (Obj.putSet es1 t1)).update a (Obj.putSet f v)).get? a=some {o with data:=.set f (C+1+1) v}:=by
    have:=Heap.get?_update_self (Obj.putSet f v) R (by rw[putSet_of f v rfl];rfl);rw[putSet_of f v rfl]at this;exact this
   refine ul (ul ?_);have K:(f.toList.map keyI).Perm (ks++[k]):=(r.map keyI).trans Z;refine h _ _ (f.toList.map keyI) ((Heap.SameBut.update s.heap a _).trans (Heap.SameBut.update _ a _)) ⟨_,f,C+1+1,v,S,n,rfl,m.perm r,rfl,K.nodup_iff.mpr I,z2▸T2.c (by decide),.inr ⟨by lia,by lia,z2▸T2⟩⟩ fun x=>?_
   rw[K.mem_iff,vi,vo]
  ·rw[vG c5];simp only[Bool.false_eq_true,↓reduceIte];refine ul (ul ?_);refine h _ _ (es1.toList.map keyI) (Heap.SameBut.update s.heap a _) ⟨_,es1,C+1,t1,R,n,rfl,m,rfl,Z.nodup_iff.mpr I,N▸i,?_⟩ fun x=>?_
   rcases O with⟨z,T⟩ | ⟨z,T⟩
   ·exact .inl ⟨by lia,N▸T⟩
   ·exact .inr ⟨by lia,by lia,N▸T⟩
   rw[Z.mem_iff,vi,vo]
end
section
variable{prog:Program}{w:World}{A:Around}{R:Result->Shared->Prop}{I:Addr}{fp wr:List Addr}{G:Array GenState->Array GenState->Prop}{n:Nat}{P:Nat->Value->Prop}{St:Nat->Shared->Prop}
theorem Wn{led:Bool}(W:WalksS prog w A.in1 I fp wr G n P St)(a:Addr)(T:a∉fp)(xs:List Int)(D:List Int)(hD:D.length<=12)(Z:∀x∈xs,x∈D)(hn:xs.length=n)(hx:∀i v,P i v->∃x t,xs[i]?=some x/\v = .int x t) :
  ∀(k i:Nat) (s:Shared) (ks:List Int),n-i=k->i<=n->St i s->SetG prog w led s.heap a ks->(∀x,x∈ks↔x∈xs.take i)->
   (∀s' d,Moved (a::wr) G s s'->SetG prog w led s'.heap a d->(∀x,x∈d↔x∈xs)->R (.ok (.ret .none)) s')->codeAny (model prog w) A (.builtin "set.update.loop" ⟨[.ref a,.ref I],[]⟩) R s:=by
 have Q:a∉wr:=fun z=>T (W.sub _ z)
 have Y:∀c∈wr,c∈a::wr:=fun c h=>vp _ h
 intro k
 induction k with
 | zero=>
  intro i s ks e le N r f q;obtain rfl:i=n:=by lia
  refine codeAny_builtin F.entry_set_update_loop ?_;rw[Around.under_plainId F.plain_set_update_loop _];refine um (m:=pyNext (.ref I)) (W.done s _ _ N fun s' l=>ul (q s' ks (l.mono Y) (r.keep fun o e=>l.heap a _ Q e) fun x=>?_));rw[f,<-hn,v3]
 | succ k ih=>
  intro i s ks e le N r f q;have U:i<n:=by lia
  refine codeAny_builtin F.entry_set_update_loop ?_;rw[Around.under_plainId F.plain_set_update_loop _];refine um (m:=pyNext (.ref I)) (W.item i s _ _ U N fun v s' pv O l=>?_);obtain⟨x,t,S,rfl⟩:=hx i v pv;have u:SetG prog w led s'.heap a ks:=r.keep fun o e=>l.heap a _ Q e
  refine um (m:=holding [Value.int x t] (setAdd a (.int x t))) (wpAny_holding ?_);unfold setAdd;refine wpAny_holding ?_;refine um ((intKind prog w).pyHash (k:=x) (intKind_is _ _ _ _) ?_);have p:x∈ks\/ks.length<12:=by
   by_cases c:x∈ks
   ·exact .inl c
   ·right;obtain⟨_,_,_,_,_,_,_,_,_,nd,_,_⟩:=r;have:=(nodup_cons.mpr ⟨c,nd⟩).length_le_of_subset (l₂:=D) fun y K=>by
     rcases mem_cons.mp K with rfl | K
     ·exact Z _ (vm S)
     ·exact Z _ (List.mem_of_mem_take ((f y).mp K))
    rw[vO]at this;lia
  refine setAddG (s:={s' with toks:=s'.toks+1}) u p fun b h' d X B E=>?_
  have H:∀y,y∈d↔y∈xs.take (i+1):=fun y=>by
   have e2:xs.take (i+1)=xs.take i++[x]:=by
    rw[List.take_succ,S];rfl
   rw[e2,E,f,vi,vo]
  refine ul ⟨plainId_quiet F.plain_set_update_loop _,ih (i+1) _ d (by lia) U (W.frame _ s' _ _ O (Nat.le_succ _) fun b C o e=>?_) B H fun M j L g J=>?_⟩
  ·rw[X.2 b (fun z:b=a=>T (by rw[<-z];exact C))];exact e
  ·refine q M j (Moved.trans W.gtrans ((l.mono Y).then_heap (Nat.le_succ _) fun b o C e=>?_) L) g J;rw[X.2 b (fun z:b=a=>C (by rw[z];exact vq))];exact e
end
open PySem PySem.Spec PySem.W PyProof.Rows
theorem YC:Manifest.owners.lookup (String.ofList ['r','o','t','a','r','e','t','i','_','t','e','s'].reverse)=some Manifest.sig_set_iterator:=by kernel_rfl
theorem QG:Slot "set_iterator" "__next__" "set_iterator.__next__":=
 .of (owner:="set_iterator") (n:="__next__") (by rw[typeLookup_type,builtinLookup_eq_fast];kernel_rfl) (by decide +kernel) (by decide +kernel) (by decide +kernel) (by first | exact .inl (by decide +kernel) | exact .inr (by decide +kernel)) (by rw[isSubtype_type];kernel_rfl)
theorem YB:entryFor table "set_iterator.__next__"= some Builtin.«set_iterator.__next__»:=entryFor_of_tree (by kernel_rfl)
theorem Kj(a:Value):argsOk "set_iterator.__next__" ⟨[a],[]⟩:=by
 unfold argsOk;rw[signature?_of (id:="set_iterator.__next__") (n:=['_','_','t','x','e','n','_','_']) (o:=['r','o','t','a','r','e','t','i','_','t','e','s']) (by kernel_rfl) YC];kernel_rfl
theorem Kk:Slot "set_iterator" "__iter__" "set_iterator.__iter__":=
 .of (owner:="set_iterator") (n:="__iter__") (by rw[typeLookup_type,builtinLookup_eq_fast];kernel_rfl) (by decide +kernel) (by decide +kernel) (by decide +kernel) (by first | exact .inl (by decide +kernel) | exact .inr (by decide +kernel)) (by rw[isSubtype_type];kernel_rfl)
theorem KZ:entryFor table "set_iterator.__iter__"= some Builtin.«dict_keyiterator.__iter__»:=entryFor_alias (id':="dict_keyiterator.__iter__") (by kernel_rfl) rfl (by decide +kernel) (by kernel_rfl)
theorem Wo(a:Value):argsOk "set_iterator.__iter__" ⟨[a],[]⟩:=by
 unfold argsOk;rw[signature?_of (id:="set_iterator.__iter__") (n:=['_','_','r','e','t','i','_','_']) (o:=['r','o','t','a','r','e','t','i','_','t','e','s']) (by kernel_rfl) YC];kernel_rfl
theorem Wm:entryFor table "set.__iter__"= some Builtin.«frozenset.__iter__»:=entryFor_alias (id':="frozenset.__iter__") (by kernel_rfl) rfl (by decide +kernel) (by kernel_rfl)
theorem Z2{b:Type}(nx:Nat->Nat):∀(f k:Nat) (left:List b) (out:Array b),f=left.length->(pickOrder.go nx f k left out).toList.Perm (out.toList++left)
 | 0,_,left,out,e=>by
  rw[List.eq_nil_of_length_eq_zero e.symm,append_nil];exact .rfl
 | f+1,k,left,out,e=>by
  have a:nx k%left.length<left.length:=Nat.mod_lt _ (by lia);unfold pickOrder.go;rw[vz a];dsimp only;refine(Z2 nx f (k+1) _ _ (by rw[List.length_eraseIdx_of_lt a];lia)).trans ?_;rw[Array.toList_push,List.append_assoc];refine List.Perm.append_left _ ?_;rw[List.singleton_append,List.eraseIdx_eq_take_drop_succ];have c:left=left.take (nx k%left.length)++left[nx k%left.length]::left.drop (nx k%left.length+1):=by
   rw[List.getElem_cons_drop,List.take_append_drop]
  exact List.perm_middle.symm.trans (List.Perm.of_eq c.symm)
section
variable{prog:Program}{w:World}{A:Around}{E:Value->Shared->Prop}{s:Shared}
noncomputable abbrev byT(w:World):Bool:=w.params.followText "set-order"
noncomputable def ordS(w:World)(a:Addr)(ep:Nat)(es:Array (Int×Value)):Array (Int×Value):=if byT w=true then pickOrder (w.params.setOrder a ep) es else es
theorem zu(a:Addr)(ep:Nat)(b:Array (Int×Value)):(ordS w a ep b).toList.Perm b.toList:=by
 unfold ordS;split
 ·have:=Z2 (w.params.setOrder a ep) b.size 0 b.toList #[] (by rw[Array.length_toList]);rw[show(#[]:Array (Int×Value)).toList++b.toList=b.toList from List.nil_append _]at this;exact this
 ·exact .rfl
noncomputable def plS(w:World)(t:SetTable)(i:Nat):Nat:=if byT w=true then 0 else if i=0 then 0 else t.place.getD (i-1) 0+1
theorem STc.below_at{led:Bool}{n:Nat}{t:SetTable}(T:STc led n t){i:Nat}(hi:i<=n):SetTable.below t.place (if i=0 then 0 else t.place.getD (i-1) 0+1)=i:=by
 obtain⟨g,d,f⟩:=Qo T.up (if i=0 then 0 else t.place.getD (i-1) 0+1);generalize b:(if i=0 then 0 else t.place.getD (i-1) 0+1)=j at g d f|-;have l:=T.sz;have a:∀k,k<n->t.place.toList[k]?=some (t.place.getD k 0):=fun k h=>by
  rw[Array.getElem?_toList,Array.getElem?_eq_getElem (by lia)];simp[Array.getD,show k<t.place.size by lia]
 rcases Nat.lt_trichotomy (SetTable.below t.place j) i with z | z | z
 ·have e:=a (i-1) (by lia);have:=f (i-1) _ (by lia) e;rw[vd (by lia)]at b;lia
 ·exact z
 ·have e:=a i (by lia);have:=d i _ z e;by_cases c:i=0
  ·rw[ve c]at b;lia
  ·rw[vd c]at b;have:=Zo T.up (a (i-1) (by lia)) e (by lia);lia
theorem nextG{a:Addr}{o:Obj}{b:Array (Int×Value)}{ep:Nat}{t:SetTable}{i:Nat}{Q:Option (Value×Nat)->Shared->Prop}(k:s.heap.get? a=some o)(g:o.data = .set b ep t)(T:STc (!byT w) b.size t)(hi:i<=b.size)
  (h:Q (((ordS w a ep b)[i]?).map fun e=>(e.2,plS w t (i+1))) s):wpAny (model prog w) A (setNext a (plS w t i) i ep) Q E s:=by
 have j:=T.fits;have f:∀{R:Bool->Shared->Prop} {l:Shared},R (byT w) l->wpAny (model prog w) A setsByText R E l:=fun h=>um (wpAny_askSetting (ul h))
 unfold setNext;refine um (wpAny_setState_of k g j ?_);dsimp only;refine um (f ?_);by_cases c:byT w=true
 ·rw[ve c];rw[vd (by simp)];unfold setWalk;refine um (um (wpAny_setState_of k g j ?_));dsimp only;refine um (f ?_);rw[ve c];refine um (wpAny_askSetting (ul (ul ?_)));unfold ordS plS at h;rw[ve c,ve c]at h;unfold plS;rw[ve c];exact h
 ·rw[vd c];have n:t.led=true:=by rw[T.ld];simpa using c
  refine wpAny_ite_split (fun z=>?_) (fun _=>?_)
  ·exact uk (show(!t.plain&&decide (b.size>1))=true from z) (by rw[T.plain];simp)
  refine um ?_;show wpAny _ _ (if(!t.led && !b.isEmpty)=true then _ else pure ()) _ _ _;rw[vd (by rw[n];simp)];refine ul ?_;have m:=T.below_at hi;have d:plS w t i=if i=0 then 0 else t.place.getD (i-1) 0+1:=by unfold plS;rw[vd c]
  rw[d,m];unfold ordS plS at h;rw[vd c,vd c,vd (Nat.succ_ne_zero i)]at h;refine ul ?_;rcases Nat.lt_or_ge i b.size with z | z
  ·have p:=T.sz;rw[Array.getElem?_eq_getElem z]at h|-;rw[Array.getElem?_eq_getElem (show i<t.place.size by lia)];dsimp only;rw[show i+1-1=i from rfl]at h;have e:t.place.getD i 0=t.place[i]'(by lia):=by simp[Array.getD,show i<t.place.size by lia]
   rw[e]at h;exact h
  ·rw[Array.getElem?_eq_none z]at h|-;exact h
noncomputable abbrev siO(a:Addr)(p i n ep:Nat):Obj:={cls:=.type "set_iterator",dict:=none,data:=.fields #[.int p 0,.int i 0,.ref a,.int n 0,.int ep 0],slots:=#[]}
theorem nextI{it a:Addr}{o:Obj}{c:Array (Int×Value)}{ep:Nat}{t:SetTable}{i:Nat}{e:Int×Value}{Q:Option Value->Shared->Prop}(g:s.heap.get? a=some o)(f:o.data = .set c ep t)(T:STc (!byT w) c.size t)(hi:i<c.size)(q:(ordS w a ep c)[i]?=some e)
  (b:s.heap.get? it=some (siO a (plS w t i) i c.size ep)) (p:∀h',h'.get? it=some (siO a (plS w t (i+1)) (i+1) c.size ep)->Heap.SameBut it s.heap h'->Q (some e.2) {s with heap:=h'}):wpAny (model prog w) A (pyNext (.ref it)) Q E s:=by
 have d:s.TypeIs (.ref it) "set_iterator":=⟨_,b,rfl⟩
 have r:=T.fits;unfold pyNext;refine um (wpAny_attempt (wpAny_callSpecial?_slot (name:=Str.ofString "__next__") d QG (wpAny_call_entry QG d YB ?_ (Kj _))));unfold Builtin.«set_iterator.__next__»;refine um (m:=slotArgs "__next__" 0 ⟨[.ref it],[]⟩) (ul ?_);refine um (wpAny_fieldsOf b rfl ?_);dsimp only;refine um (wpAny_setEntries_of g f r ?_);rw[vd (by simp)];simp only[Int.toNat_natCast];refine um (nextG g f T (vW hi) ?_);rw[q];dsimp only[Option.map];refine um (wpAny_setField_rec b (by simp) fun u k h=>?_);refine um (wpAny_setField_rec k (by simp) fun n l j=>?_);exact ul ⟨_,rfl,ul (p n (by rw[l];simp[rawInt]) (h.trans j))⟩
theorem endI{it a:Addr}{o:Obj}{d:Array (Int×Value)}{ep:Nat}{t:SetTable}{Q:Option Value->Shared->Prop}(k:A.handled=none)(g:s.heap.get? a=some o)(f:o.data = .set d ep t)(T:STc (!byT w) d.size t)
  (c:s.heap.get? it=some (siO a (plS w t d.size) d.size d.size ep)) (i:∀h',Heap.ExtBut it s.heap h'->Q none {s with heap:=h'}):wpAny (model prog w) A (pyNext (.ref it)) Q E s:=by
 have e:s.TypeIs (.ref it) "set_iterator":=⟨_,c,rfl⟩
 have j:=T.fits;unfold pyNext;refine um (wpAny_attempt (wpAny_callSpecial?_slot (name:=Str.ofString "__next__") e QG (wpAny_call_entry QG e YB ?_ (Kj _))));unfold Builtin.«set_iterator.__next__»;refine um (m:=slotArgs "__next__" 0 ⟨[.ref it],[]⟩) (ul ?_);refine um (wpAny_fieldsOf c rfl ?_);dsimp only;refine um (wpAny_setEntries_of g f j ?_);rw[vd (by simp)];simp only[Int.toNat_natCast];have l:=(zu (w:=w) a ep d).length_eq;rw[Array.length_toList,Array.length_toList]at l;refine um (nextG g f T (vc _) ?_);rw[Array.getElem?_eq_none (by lia)];dsimp only[Option.map];refine um (wpAny_setField_rec c (by simp) fun p n h=>?_);refine um ?_;simp only[newExc,newTuple];refine um (wpAny_newObj_type ?_ (by size_fits));refine um (m:=firstArgMember _ _) (wpAny_of_eq (a:=Value.none) (by first | rfl | (simp only[firstArgMember];rfl)) ?_);refine wpAny_newObj_type ?_ (by size_fits);simp only[raiseNew];refine um (wpAny_handled ?_);rw[show A.in1.handled=none from k];refine um (ul (wpAny_throw ?_));refine um (wpAny_isInstance (T:="StopIteration") (b:=true) ⟨_,Heap.get?_push_size _ rfl,rfl⟩ isSubtype_stop ?_);exact ul (i _ ((h.extBut.push _).push _))
theorem iterI{a:Addr}{o:Obj}{b:Array (Int×Value)}{ep:Nat}{t:SetTable}{Q:Value->Shared->Prop}(c:s.heap.get? a=some o)(h:o.ExactSet)(d:o.data = .set b ep t)(T:STc (!byT w) b.size t)
  (g:Q (.ref s.heap.objs.size) {s with heap:=s.heap.push (siO a 0 0 b.size ep)}):wpAny (model prog w) A (pyIter (.ref a)) Q E s:=by
 have f:s.TypeIs (.ref a) "set":=⟨_,c,h.1⟩
 have e:=T.fits;refine wpAny_pyIter_slot f F.slot_set_iter (wpAny_call_entry F.slot_set_iter f Wm ?_ (F.args_set_iter_1 _));unfold Builtin.«frozenset.__iter__»;refine um (m:=Builtin.Frozenset.slot0 "__iter__" ⟨[.ref a],[]⟩) (ul ?_);unfold Builtin.Frozenset.sizeOf;refine um (um (wpAny_setEntries_of c d e (ul ?_)));unfold setDrawn;refine um (um (wpAny_setState_of c d e ?_));dsimp only;refine um (um (wpAny_askSetting (ul (ul ?_))));refine wpAny_ite_split (fun z=>?_) (fun _=>?_)
 ·exact uk (show(!byT w&&(!t.plain&&decide (b.size>1)))=true from z) (by rw[T.plain];simp)
 refine um (ul ?_);refine um (wpAny_setEpoch_of c d e ?_);refine um (wpAny_newObj_type (ul ⟨_,rfl,"set_iterator",_,⟨_,Heap.get?_push_size _ rfl,rfl⟩,QG.lookup,?_⟩));exact g
theorem walkI(x:A.handled=none)(I a:Addr)(m:a≠I){o:Obj}{d:Array (Int×Value)}{ep:Nat}{t:SetTable}(n:o.data = .set d ep t)(T:STc (!byT w) d.size t) :
  Walks prog w A I [I,a] [I] d.size (fun i v=>∃e,(ordS w a ep d)[i]?=some e/\v=e.2) (fun i h=>h.get? I=some (siO a (plS w t i) i d.size ep)/\h.get? a=some o) where
 sub:=fun b g=>by rw[vo.mp g];exact vq
 frame:=fun _ _ _ c q=>⟨q I vq _ c.1,q a (vp _ vq) _ c.2⟩
 item:=fun i s Q E y c f=>by
  have B:=(zu (w:=w) a ep d).length_eq;rw[Array.length_toList,Array.length_toList]at B;have p:(ordS w a ep d)[i]?=some ((ordS w a ep d)[i]'(by lia)):=Array.getElem?_eq_getElem _;refine nextI c.2 n T y p c.1 fun j u r=>?_
  exact f _ j s.toks ⟨_,p,rfl⟩ ⟨u,(r.2 a m).trans c.2⟩ fun b o g e=>(r.2 b fun z=>g (by rw[z];exact vq)).trans e
 done:=fun s Q E c f=>endI x c.2 n T c.1 fun j l=>f j s.toks fun b o g e=>l b o (fun z=>g (by rw[z];exact vq)) e
 self:=fun i s Q E c f=>by
  have k:s.TypeIs (.ref I) "set_iterator":=⟨_,c.1,rfl⟩
  refine wpAny_pyIter_slot k Kk (wpAny_call_entry Kk k KZ ?_ (Wo _));show wpAny _ _ (ret (.ref I)) _ _ s;exact ul ⟨_,rfl,"set_iterator",_,k,QG.lookup,f⟩
theorem hintI{r:Addr}{Q:Bool->Shared->Prop}(c:s.TypeIs (.ref r) "set")(h:Q false s):wpAny (model prog w) A (Builtin.List.listLengthHint (.ref r)) Q E s:=by
 unfold Builtin.List.listLengthHint;refine um (wpAny_specialOf c F.slot_set_len.lookup ?_);generalize a:("set.__len__" : String)=id0
 wp_delta
 rw[show splitId id0=some ("set","__len__")from by subst a;decide +kernel];subst a;refine um (wpAny_isInstance (T:="set") (b:=true) c (by rw[isSubtype_type];kernel_rfl) ?_);refine wpAny_ite_split (fun z=>uk z (by decide)) (fun _=>?_);refine wpAny_ite_split (fun _=>?_) (fun z=>uk (by decide +kernel) z);exact um (wpAny_typeOf c (ul h))
theorem srcI{a:Addr}{o:Obj}{c:Array (Int×Value)}{ep:Nat}{t:SetTable}(f:o.ExactSet)(g:o.data = .set c ep t)(T:STc (!byT w) c.size t) :
  KdlSrc prog w "set" a a c.size (fun i v=>∃e,(ordS w a ep c)[i]?=some e/\v=e.2) (fun h=>h.get? a=some o) where
 type:=fun _ b=>⟨_,b,f.1⟩
 there:=fun _ b=>⟨vH b,vH b⟩
 keep:=fun _ _ b k=>k a (.inl rfl) o b
 notList:=by decide
 notTuple:=by decide
 hint:=fun _ _ s _ b d=>hintI ⟨_,b,f.1⟩ d
 iter:=fun A s j b=>⟨siO a 0 0 c.size ep,_,(fun _ _ d=>iterI b f g T d),walkI j _ a (vD (vH b)) g T,by
  refine⟨?_,vI _ b⟩;rw[show plS w t 0=0 by unfold plS;split<;>rfl];exact Heap.get?_push_size _ rfl⟩
end
section
variable{prog:Program}{w:World}{A:Around}{E:Value->Shared->Prop}{s:Shared}
noncomputable abbrev emI(w:World):Obj:={cls:=.type "set",dict:=none,data:=.set #[] 0 (.fresh 0 0 (!byT w))}
theorem newI(a:Value){Q:Value->Shared->Prop}(h:Q (.ref s.heap.objs.size) {s with heap:=s.heap.push (emI w)}):codeAny (model prog w) A (.call (.builtin "set.__new__") ⟨[.type "set",a],[]⟩) (wants Q E) s:=by
 refine codeAny_of_tree ?_;show wpAny _ A.in1 (do checkBuiltinCall "set.__new__" ⟨[.type "set",a],[]⟩;again (.builtin "set.__new__" ⟨[.type "set",a],[]⟩)) _ _ s;refine um (wpAny_of_eq (F.newCall_set_1 a) (ul ⟨plainId_quiet F.plain_set_new _,codeAny_builtin F.entry_set_new ?_⟩));rw[Around.under_plainId F.plain_set_new _];unfold Builtin.«set.__new__» Builtin.Frozenset.newClass;have b:=sub_set_self;obtain⟨c,g,d,f,e⟩:=s;dsimp only
 wp_walk
 refine wpAny_askSetting (ul ?_);dsimp only;simp only[newObj];exact um (wpAny_alloc (ul (ul h)))
set_option maxRecDepth 100000 in
set_option maxHeartbeats 3200000 in
theorem Kx{l:Addr}{items:Array Value}{xs D:List Int}{Q:Value->Shared->Prop}(hh:A.handled=none)(hl:s.heap.IsList l items)(X:D.length<=12)(xD:∀x∈xs,x∈D)(hn:xs.length=items.size)(hx:∀(i:Nat) (v:Value),items[i]?=some v->∃(x:Int) (t:Tok),xs[i]?=some x/\v = .int x t)
  (h:∀(h':Heap) (tk:Nat) (ks:List Int),SetG prog w (!byT w) h' s.heap.objs.size ks->(∀x,x∈ks↔x∈xs)->(∀b o,s.heap.get? b=some o->h'.get? b=some o)->Q (.ref s.heap.objs.size) {s with heap:=h',toks:=tk}) :
  wpAny (model prog w) A (call (.type "set") [.ref l]) Q E s:=by
 obtain⟨c,tl,mr⟩:=F.called_set.mro;have k1:=F.called_set.made;have k2:=F.called_set.sub;refine wpAny_call (codeAny_of_tree ?_);show wpAny _ _ (callAny (.type "set") _) _ _ _;refine ul ⟨Code.quiet_builtin _ (by decide +kernel),codeAny_builtin F.entry_type_call ?_⟩;rw[Around.under_plain (weight_type_call_type "set" [.ref l] []) rfl];have k3:=F.called_set.notType;have k4:=F.called_set.canCreate;have k5:=F.typeCall_set_1 (.ref l)
 repeat (any_goals (first | assumption | wp_step))
 refine codeAny_mono (newI (.ref l) (E:=E) (Q:=fun m n=>m = .ref s.heap.objs.size/\n={s with heap:=s.heap.push (emI w)}) ⟨rfl,rfl⟩) fun r s1 B=>?_
 cases r with
 | error e=>exact B
 | ok fl=>
  cases fl with
  | ret m=>
   obtain⟨rfl,rfl⟩:=B;have J:(s.heap.push (emI w)).get? s.heap.objs.size=some (emI w):=Heap.get?_push_size _ rfl;have Y:Shared.TypeIs {s with heap:=s.heap.push (emI w)} (.ref s.heap.objs.size) "set":=⟨_,J,rfl⟩
   have k6:=F.called_set.init.lookup;have k7:=F.called_set.init.bind (.ref s.heap.objs.size)
   repeat (any_goals (first | assumption | wp_step))
   refine codeAny_mono (codeAny_call_builtin (R:=wants (fun r p=>r = .none/\∃h' tk ks,p={s with heap:=h',toks:=tk}/\SetG prog w (!byT w) h' s.heap.objs.size ks/\(∀x,x∈ks↔x∈xs)/\(∀b o,s.heap.get? b=some o->h'.get? b=some o)) E) F.called_set.init.plain F.entry_set_init (check_set_init_1 Y ?_)) fun r2 s2 a=>?_
   ·obtain⟨ol,j,d,M,f⟩:=hl;obtain⟨oc,od,a0,H⟩:=ol;simp only at d f;subst d f;have k:(s.heap.push (emI w)).get? l=some {cls:=.type "list",dict:=od,data:=.seq items M,slots:=H}:=vI _ j;have j1:=F.sub_list_set;have j2:=F.sub_list_frozenset;have j3:(Value.type "list"== Value.type "dict")=false:=by decide
    have g:(s.heap.push (emI w)).IsList l items:=⟨_,k,rfl,M,rfl⟩
    unfold Builtin.«set.__init__» noKeywords Builtin.Frozenset.updateFrom;generalize u:pyIter=PI
    wp_walk
    subst u;refine wpAny_pyIter_list g ?_;refine um (wpAny_runValue ?_);have K:l<s.heap.objs.size:=vH j;have W:A.in1.in1.in1.handled=none:=by simp[hh]
    have n1:l≠(s.heap.push (emI w)).objs.size:=by rw[Heap.size_push];exact vD (Nat.lt_succ_of_lt K)
    have n2:s.heap.objs.size∉[(s.heap.push (emI w)).objs.size,l]:=by
     rw[Heap.size_push];simp only[mem_cons,not_mem_nil,or_false,not_or];exact⟨vD (Nat.lt_succ_self _),Nat.ne_of_gt K⟩
    refine Wn (led:=!byT w) ((Walks.list W _ l n1 items).toS) s.heap.objs.size n2 xs D X xD hn hx (items.size-0) 0 _ [] (by lia) (vb _) ⟨⟨_,Heap.get?_push_size _ rfl,rfl,rfl⟩,(g.push _)⟩ ?hS0 (fun x=>by simp) ?hR
    case hS0=>
     have hg:((s.heap.push (emI w)).push {cls:=.type "list_iterator",data:=.fields #[.ref l,.int 0 0]}).get? s.heap.objs.size=some (emI w):=vI _ J;exact⟨_,#[],0,_,hg,⟨rfl,rfl,rfl⟩,rfl,(fun e Z=>nomatch Z),rfl,.nil,(STb.fresh _).c (by decide),.inl ⟨by decide,STb.fresh _⟩⟩
    case hR=>
     intro s' C q y z;obtain⟨h',U,O,I,G⟩:=s';have S:U=s.gens:=q.gens;have P:O=s.drawn:=q.drawn;have T:G=s.os:=q.os;subst S P T;show wpAny _ _ _ _ _ _;refine ul ?_;show wpAny _ _ (ret Value.none) _ _ _;refine ul ⟨rfl,h',I,C,rfl,y,z,fun b o e=>?_⟩;have L:=vH e;have N:b≠(s.heap.push (emI w)).objs.size:=by rw[Heap.size_push];exact vD (Nat.lt_succ_of_lt L)
     exact q.heap b o (by simp only[mem_cons,not_mem_nil,or_false,not_or];exact⟨vD L,N⟩) (vI _ (vI _ e))
   ·cases r2 with
    | error e=>exact a
    | ok fl2=>
     cases fl2 with
     | ret r=>
      obtain⟨rfl,h',tk,ks,rfl,q1,q2,q3⟩:=a
      repeat (any_goals (first | assumption | wp_step))
      exact h _ _ _ q1 q2 q3
     | _=>exact a.elim
  | _=>exact B.elim
end
section
variable{X:Cx}
theorem KD{prog:Program}{w:World}{l:List (Int×Value)}(h:ElemsOf (intKind prog w) l):IntsAre (l.map (·.2)) (l.map keyI):=by
 induction l with
 | nil=>exact .nil
 | cons e r ih=>
  obtain⟨t,b⟩:=kR h (vq (a:=e) (l:=r));rw[v7,v7,b];exact .cons _ t (ih h.tail)
def tSS(K:Frg)(te:TE):TE:=fun σ H Q=>te σ H fun x H1=>∃(a:Addr) (xs D:List Int),x = .ref a/\SqL K H1 a (xs.map V.int)/\D.length<=12/\(∀x∈xs,x∈D)/\∀(l:Addr) (ms:List Int),H1 l=none->ms.Pairwise (· < ·)->(∀x,x∈ms↔x∈xs)->Q (.ref l) (upd H1 l (.lst (ms.map V.int)))
theorem XI{K:Frg}{c:TE}{d:St}{H:Hp}{Q:VK}(h:c d H fun x H1=>∃(a:Addr) (xs D:List Int),x = .ref a/\SqL K H1 a (xs.map V.int)/\D.length<=12/\(∀x∈xs,x∈D)/\∀(l:Addr) (b:List Int),H1 l=none->b.Pairwise (· < ·)->(∀x,x∈b↔x∈xs)->Q (.ref l) (upd H1 l (.lst (b.map V.int)))):tSS K c d H Q:=h
theorem kj{e:Expr}{te:TE}{p U Y f:Pos}(hc:X.calm=true)(g1:Gl X "sorted")(m1:X.mg "sorted"= none)(g2:Gl X "set")(m2:X.mg "set"= none)(M:PE X e te)(b1:bootBuiltins "sorted"= some (.builtin "sorted"):=by decide +kernel)
  (E:starEach [.Call (.Name "set" U) [e] [] f] X.env=[(false,eval (.Call (.Name "set" U) [e] [] f) X.env)]:=by rfl) (hs:starEach [e] X.env=[(false,eval e X.env)]:=by rfl) :
  PE X (.Call (.Name "sorted" p) [.Call (.Name "set" U) [e] [] f] [] Y) (tSS X.K te):=by
 intro k s σ H Q I h;refine wpAny_Call_Name_kw (qY I g1 m1 b1 ?_);refine PyProof.Rows.callWith_builtin1 ?_ E rfl;rw[E];refine Calls.spliced_cons ?_;refine Call_ (qY I g2 m2 xJ (PyProof.Rows.callWith_type1 ?_ hs rfl));rw[hs];refine Calls.spliced_cons (thn (M k s σ H _ I h) fun u B ⟨x,H1,n,r1,a,xs,D,G,hq,hD,xD,q⟩=>Calls.spliced_nil ?_);subst G;cases r1;obtain⟨F,rv,pl,_⟩:=n.list hq;have lx:=rv.length;rw[vt]at lx;refine Kx (xs:=xs) (D:=D) (n.ok.hd hc) pl.isList hD xD (by rw[size_toArray];exact lx) (fun i v hv=>?_) fun h' tk ks hS R hk=>?_
 ·have hi:i<F.length:=by
   have:=(Array.getElem?_eq_some_iff.mp hv).1;simpa using this
  have G:xs[i]?=some (xs[i]'(by lia)):=vz _;obtain⟨u,hu,ru⟩:=rv.get (i:=i) (x:=V.int (xs[i]'(by lia))) (by rw[vv,G];rfl);obtain⟨t,rfl⟩:=ru;have:v=_:=vK (hv.symm.trans (show F.toArray[i]?=some _ by simpa using hu));exact⟨_,t,G,this⟩
 ·refine Calls.spliced_nil ?_;obtain⟨o,r,K,t,ho,O,hd,N,C,nd,T,L⟩:=hS;have h4:r.size<=12:=by rcases L with⟨z,_⟩ | ⟨_,z,_⟩<;>lia
  have I2:Inv X k σ H1 {B with heap:=h',toks:=tk}:=n.kept hk;refine Calls.call_function_entry kind_sorted plain_sorted entry_sorted (args_sorted1 _) ?_;unfold Builtin.«sorted»;refine um (m:=checkCount "sorted" 1 1 _) (ul ?_);refine um (kdu_collect (A:=X.A.in1) (srcI O hd T) (I2.ok.hd hc) ho (vU h4 (by decide)) fun j Z c P d=>?_);have S:=zu (w:=X.w) B.heap.objs.size K r;have ol:=S.length_eq;rw[Array.length_toList,Array.length_toList]at ol;have ea:c.toList=(ordS X.w B.heap.objs.size K r).toList.map (·.2):=by
   refine List.ext_getElem? fun i=>?_
   rw[vv,Array.getElem?_toList,Array.getElem?_toList];rcases Nat.lt_or_ge i c.size with z | z
   ·obtain⟨e,j,h2⟩:=d.2 i _ (Array.getElem?_eq_getElem z);rw[Array.getElem?_eq_getElem z,j,h2];rfl
   ·rw[Array.getElem?_eq_none z,Array.getElem?_eq_none (by have:=d.1;lia)];rfl
  have hI:IntsAre c.toList ((ordS X.w B.heap.objs.size K r).toList.map keyI):=by rw[ea];exact KD (N.perm S)
  have al:c.toList.length=r.size:=by rw[Array.length_toList];exact d.1
  refine um (wpAny_newList ?_ (by rw[al,sizeLine_eq];lia));have l:(j.push (seqObj "list" c.toList.toArray 0)).get? j.objs.size=some (seqObj "list" c.toList.toArray 0):=Heap.get?_push_size _ rfl;refine um (wpAny_holding (wpAny_call_entry slot_list_sort ⟨_,l,rfl⟩ entry_list_sort (list_sort_tree l hI (by rw[al];lia) fun out J a1 a2 a3=>⟨_,rfl,?_⟩) (args_list_sort _)));refine ul ⟨_,rfl,?_⟩;have W:J.Perm ks:=a2.trans ((S.map keyI).trans (List.Perm.of_eq C));have kl:ks.length=r.size:=by rw[<-C,vt,Array.length_toList]
  have ml:J.length<=12:=by rw[W.length_eq];lia
  have g:∀b o,B.heap.get? b=some o->j.get? b=some o:=fun b o e=>P b o (hk b o e)
  have hn:=n.none_at g;have hb:=n.newB g;have k2:∀b o,B.heap.get? b=some o->(sortedHeap (j.push (seqObj "list" c.toList.toArray 0)) j.objs.size c.toList out).get? b=some o:=fun b o e=>by
   have lt:=vH (g b o e);rw[sortedHeap_old (vD lt) (by rw[size_push'];exact Nat.lt_succ_of_lt lt)];exact vI _ (g b o e)
  obtain⟨e',M⟩:=sortedHeap_at (out:=out) l;refine⟨.ref j.objs.size,_,(n.kept (t':=Z) k2).track hn hb (show ObjOk X.prog X.w _ _ _ (.lst (J.map V.int))from⟨by rw[vt];exact vU ml (by decide),out.toList,_,WB a1,by rw[Array.toArray_toList];exact M⟩),rfl,q _ J hn ?_ fun x=>?_⟩
  ·exact(List.Pairwise.and a3 (W.nodup_iff.mpr nd)).imp fun⟨x,y⟩=>by lia
  ·rw[W.mem_iff,R]
end
section
variable{prog:Program}{w:World}{A:Around}{E:Value->Shared->Prop}{s:Shared}
theorem Xm{a b:Int}{t u:Tok}{Q:Value->Shared->Prop}(h:Q (.bool (decide (a<b))) s):wpAny (model prog w) A (richCompare .Lt (.int a t) (.int b u)) Q E s:=
 richCompare_gives (op:=.Lt) (typeIs_int s _ t) (typeIs_int s _ u) F.slot_int_lt F.entry_int_lt (F.args_int_lt_2 _ _) (gives_int_lt _ _ t u) (fun x=>nomatch x) h
theorem W0(a v:Value):argsOk "min" ⟨[a],[(Str.ofString "default",v)]⟩:=by unfold argsOk;kernel_rfl
noncomputable abbrev dfN:List (Str×Value):=[(Str.ofString "default",Value.none)]
noncomputable abbrev lob(items:Array Value)(c:Nat):Obj:={cls:=.type "list",dict:=none,data:=.seq items c,slots:=#[]}
def LsI(ns:List Int)(m:Int):Prop:=m∈ns/\∀x∈ns,m<=x
section
variable{R:Result->Shared->Prop}{I:Addr}{fp wr:List Addr}{n:Nat}{P:Nat->Value->Prop}{St:Nat->Heap->Prop}
theorem ke(W:Walks prog w A.in1 I fp wr n P St){ns:List Int}(hn:ns.length=n)(Y:∀i v,P i v->∃x t,ns[i]?=some x/\v = .int x t)(S:Addr)(D:S∉fp) :
  ∀(k i:Nat) (s:Shared) (m:Int) (t:Tok) (c:Nat),n-i=k->i<=n->St i s.heap->LsI (ns.take i) m->s.heap.get? S=some (lob #[.int m t,.int m t] c)->
   (∀m t h' tk,LsI ns m->(∀b o,b∉wr->b≠S->s.heap.get? b=some o->h'.get? b=some o)->R (.ok (.ret (.int m t))) {s with heap:=h',toks:=tk})->
   codeAny (model prog w) A (.builtin "min.loop" ⟨[.ref I,.none,.ref S],dfN⟩) R s:=by
 have E:S∉wr:=fun h=>D (W.sub _ h)
 have U:(toString "min"++toString ".loop" : String) = "min.loop":=by decide
 intro k
 induction k with
 | zero=>
  intro i s m t c hk Z N B C H;have K:i=n:=by lia
  subst K;refine codeAny_builtin F.entry_min_loop ?_;rw[Around.under_plainId F.plain_min_loop _];show wpAny _ A.in1 (seqItems? (.ref S) >>= _) _ _ s;refine um (wpAny_seqItems C rfl ?_);show wpAny _ A.in1 (tryCatch (pyNext (.ref I)) _ >>= _) _ _ s;refine um (wpAny_tryCatch (W.done s _ _ N fun h' tk f=>?_));have g:=f S _ E C;show wpAny _ A.in1 (updateSeq S (fun _=>#[]) >>= _) _ _ _;refine um ?_;refine wpAny_updateSeq g rfl (um (wpAny_letGo (ul ?_)));refine H m t _ tk (by rw[<-hn,v3]at B;exact B) fun b o a d e=>(Heap.get?_update_other _ _ (Ne.symm d)).trans (f b o a e)
 | succ k ih=>
  intro i s m t c hk Z N B C H;have q:i<n:=by lia
  refine codeAny_builtin F.entry_min_loop ?_;rw[Around.under_plainId F.plain_min_loop _];show wpAny _ A.in1 (seqItems? (.ref S) >>= _) _ _ s;refine um (wpAny_seqItems C rfl ?_);show wpAny _ A.in1 (tryCatch (pyNext (.ref I)) _ >>= _) _ _ s;refine um (wpAny_tryCatch (W.item i s _ _ q N fun v h' tk pv G f=>?_));obtain⟨x,u,X,rfl⟩:=Y i v pv;have g:=f S _ E C;have Q:ns.take (i+1)=ns.take i++[x]:=by
   rw[List.take_succ,X];rfl
  show wpAny _ A.in1 (tryCatch (holding [Value.int x u,Value.int x u] (richCompare .Lt (.int x u) (.int m t) >>= _)) _ >>= _) _ _ _;refine um (wpAny_tryCatch (wpAny_holding (um (Xm ?_))));refine um (wpAny_holding (wpAny_truthy_bool ?_));refine um (wpAny_letGo (ul ?_));by_cases T:x<m
  ·rw[vF T];simp only[if_true];refine um ?_;refine wpAny_updateSeq g rfl (um (wpAny_letGo ?_));rw[U];refine ul ⟨plainId_quiet F.plain_min_loop _,ih (i+1) _ x u _ (by lia) q (W.frame _ _ _ G fun b J o e=>?_) ?_ (Heap.get?_update_self _ g rfl) fun M O p l r j=>?_⟩
   ·exact(Heap.get?_update_other _ _ (fun h:S=b=>D (by rw[h];exact J))).trans e
   ·rw[Q];refine⟨mem_append_right _ vq,fun y L=>?_⟩;rcases vi.mp L with z | z
    ·have:=B.2 y z;lia
    ·rw[vo.mp z];exact va _
   ·exact H M O p l r fun b o a d e=>j b o a d ((Heap.get?_update_other _ _ (Ne.symm d)).trans (f b o a e))
  ·rw[vG T];simp only[Bool.false_eq_true,if_false];refine um (wpAny_letGo ?_);rw[U];refine ul ⟨plainId_quiet F.plain_min_loop _,ih (i+1) _ m t c (by lia) q G ?_ g fun M O p l r j=>?_⟩
   ·rw[Q];refine⟨mem_append_left _ B.1,fun y L=>?_⟩;rcases vi.mp L with z | z
    ·exact B.2 y z
    ·rw[vo.mp z];lia
   ·exact H M O p l r fun b o a d e=>j b o a d (f b o a e)
end
theorem wO{l:Addr}{items:Array Value}{ns:List Int}{Q:Value->Shared->Prop}(hh:A.handled=none)(K:s.heap.IsList l items)(L:ns.length=items.size)(P:∀(i:Nat) (v:Value),items[i]?=some v->∃(x:Int) (t:Tok),ns[i]?=some x/\v = .int x t)
  (h0:ns=[]->∀h' tk,(∀b o,s.heap.get? b=some o->h'.get? b=some o)->Q .none {s with heap:=h',toks:=tk}) (h1:∀m t h' tk,LsI ns m->(∀b o,s.heap.get? b=some o->h'.get? b=some o)->Q (.int m t) {s with heap:=h',toks:=tk}) :
  wpAny (model prog w) A (call (.builtin "min") [.ref l] dfN) Q E s:=by
 have X:(toString "min"++toString ".loop" : String) = "min.loop":=by decide
 have U:l<s.heap.objs.size:=by obtain⟨_,e,_⟩:=K;exact vH e
 refine wpAny_call (codeAny_call_builtin F.plain_min F.entry_min ?_);simp only[checkBuiltinCall,F.kind_min];have D:∀{R:Unit->Shared->Prop} {N:Value->Shared->Prop},R () s->wpAny (model prog w) A.in1 (match Manifest.signature? "min" with | none=>pure () | some sig=>Bind.checkArgs "min" sig ⟨[.ref l],dfN⟩) R N s:=fun {R N} O=>by
  have ha:=W0 (.ref l) .none;cases hsig:Manifest.signature? "min" with
  | none=>exact ul O
  | some sig=>
   have I:Bind.checkArgs "min" sig ⟨[.ref l],dfN⟩=pure ():=by simpa only[argsOk,hsig]using ha
   simp only[I];exact ul O
 refine D ?_;show wpAny _ A.in1 (Builtin.Builtins.bindParams "min" ["key","default"] 0 ⟨[],dfN⟩ >>= _) _ _ s;refine um (wpAny_of_eq (show Builtin.Builtins.bindParams "min" ["key","default"] 0 ⟨[],dfN⟩=pure [none,some .none]from rfl) ?_);refine um (ul ?_);refine um (wpAny_pyIter_list K ?_);refine um (wpAny_newObj_type ?_);rw[X];generalize c:s.heap.push _=h2;have k2:∀b o,s.heap.get? b=some o->h2.get? b=some o:=fun b o e=>c▸vI _ e
 have Z:h2.objs.size=s.heap.objs.size+1:=by rw[<-c,Heap.size_push]
 have i2:h2.IsListIter s.heap.objs.size l 0:=c▸⟨_,Heap.get?_push_size _ rfl,rfl,rfl⟩;clear c;generalize f:h2.push _=h3;have j:h3.get? h2.objs.size=some (lob #[] 0):=f▸Heap.get?_push_size _ rfl;have S:∀b o,h2.get? b=some o->h3.get? b=some o:=fun b o e=>f▸vI _ e
 clear f;have g:∀b o,s.heap.get? b=some o->h3.get? b=some o:=fun b o e=>S b o (k2 b o e)
 have W:=Walks.list (prog:=prog) (w:=w) (A:=A.in1) hh s.heap.objs.size l (vD U) items;have Y:h3.IsListIter s.heap.objs.size l 0/\h3.IsList l items:=⟨i2.at fun o e=>S _ o e,by obtain⟨o,e,r⟩:=K;exact⟨o,g l o e,r⟩⟩
 have d:h2.objs.size∉[s.heap.objs.size,l]:=by
  rw[Z];simp only[mem_cons,not_mem_nil,or_false,not_or];exact⟨Nat.succ_ne_self _,Nat.ne_of_gt (Nat.lt_succ_of_lt U)⟩
 have H:h2.objs.size∉[s.heap.objs.size]:=fun h=>d (W.sub _ h)
 have q:∀b o,s.heap.get? b=some o->b∉[s.heap.objs.size]/\b≠h2.objs.size:=fun b o e=>by
  have T:=vH e;exact⟨fun z=>vD T (vo.mp z),by rw[Z];exact vD (Nat.lt_succ_of_lt T)⟩
 refine ul ⟨plainId_quiet F.plain_min_loop _,?_⟩;refine codeAny_builtin F.entry_min_loop ?_;rw[Around.under_plainId F.plain_min_loop _];show wpAny _ A.in1 (seqItems? (.ref h2.objs.size) >>= _) _ _ _;refine um (wpAny_seqItems (s:={s with heap:=h3}) j rfl ?_);show wpAny _ A.in1 (tryCatch (pyNext (.ref s.heap.objs.size)) _ >>= _) _ _ _;by_cases C:ns=[]
 ·have e0:items.size=0:=by rw[<-L,C];rfl
  refine um (wpAny_tryCatch (W.done {s with heap:=h3} _ _ (e0.symm▸Y) fun h' tk a=>?_));refine um (wpAny_rule (ul ?_));exact h0 C h' tk fun b o e=>a b o (q b o e).1 (g b o e)
 ·have p:0<items.size:=by
   rw[<-L];exact List.length_pos_iff.mpr C
  refine um (wpAny_tryCatch (W.item 0 {s with heap:=h3} _ _ p Y fun v h4 tk pv M a=>?_));obtain⟨x,u,ex,rfl⟩:=P 0 v pv;have k:=a _ _ H j;show wpAny _ A.in1 (updateSeq h2.objs.size (fun _=>#[Value.int x u,Value.int x u]) >>= _) _ _ _;refine um ?_;refine wpAny_updateSeq k rfl ?_;rw[X];refine ul ⟨plainId_quiet F.plain_min_loop _,ke W L P h2.objs.size d _ 1 _ x u _ rfl p (W.frame _ _ _ M fun b J o e=>?_) ?_ (Heap.get?_update_self _ k rfl) fun m t G B hm n=>?_⟩
  ·exact(Heap.get?_update_other _ _ (fun h:h2.objs.size=b=>d (by rw[h];exact J))).trans e
  ·have e1:ns.take 1=[x]:=by
    cases ns with
    | nil=>exact uk rfl C
    | cons y r=>cases ex;rfl
   rw[e1];exact⟨vq,fun y hy=>by rw[vo.mp hy];exact va _⟩
  ·exact h1 m t G B hm fun b o e=>n b o (q b o e).1 (q b o e).2 ((Heap.get?_update_other _ _ (Ne.symm (q b o e).2)).trans (a b o (q b o e).1 (g b o e)))
end
section
variable{X:Cx}
def tMD(K:Frg)(te:TE):TE:=fun σ H Q=>te σ H fun x H1=>∃(a:Addr) (ns:List Int),x = .ref a/\SqL K H1 a (ns.map V.int)/\(ns=[]->Q .non H1)/\∀m,LsI ns m->Q (.int m) H1
theorem XG{K:Frg}{b:TE}{c:St}{H:Hp}{Q:VK}(h:b c H fun x H1=>∃(a:Addr) (ns:List Int),x = .ref a/\SqL K H1 a (ns.map V.int)/\(ns=[]->Q .non H1)/\∀m,LsI ns m->Q (.int m) H1):tMD K b c H Q:=h
theorem xa{e:Expr}{C:TE}{p b o:Pos}{c:Expr}(N:X.calm=true)(L:Gl X "min")(T:X.mg "min"= none)(O:PE X e C)(n:PE X c (tC .non))(F:bootBuiltins "min"= some (.builtin "min"):=by decide +kernel)(hs:starEach [e] X.env=[(false,eval e X.env)]:=by rfl)
  (g:(backToKw b (keywordEach [⟨some "default",c,o⟩] X.env)).filterMap (·.1)=[Str.ofString "default"]:=by rfl) (f:(backToKw b (keywordEach [⟨some "default",c,o⟩] X.env)).all (·.1.isSome)=true:=by rfl) (q:(backToKw b (keywordEach [⟨some "default",c,o⟩] X.env)).any (·.1.isNone)=false:=by rfl) :
  PE X (.Call (.Name "min" p) [e] [⟨some "default",c,o⟩] b) (tMD X.K C):=by
 intro d s D H Q I h;refine wpAny_Call_Name_kw (qY I L T F (callWith_kw ?_ (by rw[hs];rfl) (by rw[hs];rfl) f q));rw[hs];refine Calls.spliced_cons (thn (O d s D H _ I h) fun u s1 ⟨x,w,E,Z,a,ns,l,R,W,Y⟩=>Calls.spliced_nil ?_);subst l;cases Z;refine kws_cons (thn (n d s1 D w (fun v z=>v = .non/\z=w) E ⟨rfl,rfl⟩) fun y s2 ⟨y',z,k,r2,K,J⟩=>kws_nil ?_);subst K J;cases r2;rw[g];obtain⟨j,B,U,_⟩:=k.list R;have A:=B.length;rw[vt]at A;refine wO (ns:=ns) (k.ok.hd N) U.isList (by rw[size_toArray];exact A) (fun i v n=>?_) (fun G M r g=>⟨.non,_,k.kept (t':=r) g,rfl,W G⟩) fun m t M r P g=>⟨.int m,_,k.kept (t':=r) g,⟨t,rfl⟩,Y m P⟩
 have hi:i<j.length:=by
  have:=(Array.getElem?_eq_some_iff.mp n).1;simpa using this
 have l:ns[i]?=some (ns[i]'(by lia)):=vz _;obtain⟨u,S,ru⟩:=B.get (i:=i) (x:=V.int (ns[i]'(by lia))) (by rw[vv,l];rfl);obtain⟨t,rfl⟩:=ru;have:v=_:=vK (n.symm.trans (show j.toArray[i]?=some _ by simpa using S));exact⟨_,t,l,this⟩
theorem ZG(C:X.calm=true):CallR X (.builtin "any") (fun xs H Q=>∃(p:Addr) (bs:List Bool),xs=[.ref p]/\SqL X.K H p (bs.map V.bl)/\Q (.bl (bs.any id)) H):=by
 intro t s S H xs R Q I r h;obtain⟨p,bs,rfl,F,q⟩:=h;obtain⟨u,rfl,K⟩:=vals1 r;cases K;obtain⟨c,y,G,_⟩:=I.list F;have k:=G.isList;obtain⟨o,E,_⟩:=id k;have l:p≠s.heap.objs.size:=vD (vH E);have n:=y.length;rw[vt]at n;have W:=Walks.list (prog:=X.prog) (w:=X.w) (A:=X.A.in1) (I.ok.hd C) s.heap.objs.size p l c.toArray;refine call_any_walk (wpAny_pyIter_list k ⟨s.heap.objs.size,_,_,_,_,_,fun i=>bs.getD i false,rfl,W,⟨⟨_,Heap.get?_push_size _ rfl,rfl,rfl⟩,k.at fun o e=>vI _ e⟩,?_,?_⟩)
 ·intro i v P N M B j;have d:c[i]?=some v:=by simpa using B
  have a:i<bs.length:=by have:=(vx.mp d).1;lia
  obtain⟨u,m,J⟩:=y.get (i:=i) (x:=.bl bs[i]) (by rw[vv,vz a];rfl);rw[d]at m;cases m;cases J;dsimp only at j;rw[vy,vz a]at j;exact wpAny_truthy_bool j
 ·intro O L D;have e:(List.range c.toArray.size).any (fun i=>bs.getD i false)=bs.any id:=by
   rw[size_toArray,<-n,Bool.eq_iff_iff];simp only[any_eq_true,mem_range,id_eq];constructor
   ·rintro⟨i,f,g⟩;rw[vy,vz f]at g;exact⟨_,getElem_mem f,g⟩
   ·rintro⟨b,g,rfl⟩;obtain⟨i,f,e⟩:=mem_iff_getElem.mp g;exact⟨i,f,by rw[vy,vz f];exact e⟩
  rw[e];refine⟨.bl _,H,I.kept (t':=L) fun b o e=>D b o (fun z=>?_) (vI _ e),rfl,q⟩;rw[vo.mp z]at e;exact Nat.lt_irrefl _ (vH e)
theorem WU{K:Frg}{n i j k:Nat}(hi:i<n)(y:j<n)(z:k<n):GKeeps n (gTup K 3 (gCons (gName i) (gCons (gName j) (gCons (gName k) gNil)))):=fun x B H Q q=>by
 obtain⟨a,w,d,f,g,v,r,h,t,s,l,c,b,o,p,q⟩:=q;refine⟨a,w,d,f,g,v,r,h,t,s,l,c,b,o,p,fun m u A e=>?_,q⟩;rw[List.getElem?_set_ne (by lia),List.getElem?_set_ne (by lia),List.getElem?_set_ne (by lia)];exact e
end
end L2
namespace Rm
open PySem PySem.Spec PyProof.Rows L2
noncomputable def bgs(gs:List Int)(b:Int)(qs:List Pc):List (Nat×Int):=qs.flatMap fun q=>(List.range q.2.1.toNat).map fun u:Nat=>(q.1,b+q.2.2+(u:Int)*gs.getD q.1 0)
inductive sp_begins(vs:List V)(H:Hp)(Q:VK)(xk:XK):Prop
 | mk (l s:Addr) (t:Int) (bs:List Addr) (qs:List Pc) (gs:List Int) (_:vs=[.ref l,.ref s,.int t]) (_:H l=some (.lst (bs.map V.ref))) (_:PcsAt H bs qs) (_:H s=some (.lst (gs.map V.int))) (_:(∀q∈qs,PcOk gs q)) (_:(bgs gs t qs).length<=10000) (_:∀(p:Addr) (as:List Addr) (H':Hp),Same H H'->H p=none->H' p=some (.lst (as.map V.ref))->GonAt H' as (bgs gs t qs)->Q (.ref p) H'):sp_begins vs H Q xk
end Rm
namespace L2
open PySem PySem.Spec PySem.W PyProof.Rows HT
section
variable{prog:Program}{w:World}{A:Around}{E:Value->Shared->Prop}{s:Shared}
theorem Q8{t e:Addr}{items:Array Value}{f g:Value}{lo hi:Option Int}{Q:Value->Shared->Prop}(a:IsTup s.heap t items)(hs:s.heap.IsSliceOf e f g .none)(m:IsPart f lo)(n:IsPart g hi)
  (i:sIx items.size 0 lo=0) (j:sIx items.size items.size hi=items.size) (h:Q (.ref t) s):wpAny (model prog w) A (getItem (.ref t) (.ref e)) Q E s:=by
 obtain⟨l,d,c,k⟩:=id hs;have b:s.TypeIs (.ref e) "slice":=⟨l,d,c⟩
 unfold getItem
 try with_reducible refine wpAny_holding ?_
 first | refine um (ul ?_) | skip
 refine um (wpAny_sequenceKey a.typeIs (by decide) ?_);refine um (wpAny_callSpecial?_slot (name:=Str.ofString "__getitem__") a.typeIs PyProof.Rows.slot_tuple_getitem (wpAny_call_entry PyProof.Rows.slot_tuple_getitem a.typeIs entry_tuple_getitem ?_ (args_tuple_getitem _ _)));show wpAny _ _ (Builtin.Tuple.tupleItemsOf (.ref t) >>= _) _ _ s;refine um (tupleItemsOf_ a ?_);refine um (wpAny_typeOf b ?_);rw[ve (by decide)];refine um (qI hs m n ?_);show wpAny _ _ (if(((sIx items.size 0 lo:Nat):Int)==0&&(1:Int)==1&&(sIx items.size items.size hi-sIx items.size 0 lo)==items.size)=true then _ else _) _ _ s;rw[ve (by rw[i,j];simp)];unfold Builtin.Tuple.tupleIsExact;refine um (um (wpAny_typeOf a.typeIs (ul ?_)));rw[ve (by decide)]
 first
  | exact um (wpAny_rule (ul ⟨_,rfl,ul h⟩))
  | exact um (wpAny_rule (um (ul (ul ⟨_,rfl,ul h⟩))))
end
section
variable{X:Cx}
noncomputable def rSlW(K:Frg):V->Option Int->Option Int->Hp->VK->Prop:=fun x lo hi H Q=>∃a xs,x = .ref a/\SqT K H a xs/\HT.sIx xs.length 0 lo=0/\HT.sIx xs.length xs.length hi=xs.length/\Q (.ref a) H
theorem Xs:SlR X (rSlW X.K):=by
 intro e s z H x v w y t o u Q I m i k l h;obtain⟨a,n,rfl,j,f,g,q⟩:=h;cases m;obtain⟨c,r,d,p⟩:=I.tuple j;have b:c.toArray.size=n.length:=by rw[size_toArray];exact r.length.symm
 refine⟨"tuple",_,PyProof.Rows.slot_tuple_getitem.lookup,d.typeIs,?_⟩;exact Q8 d i k l (by rw[b];exact f) (by rw[b];exact g) ⟨.ref a,H,I,rfl,q⟩
theorem Xt:SlR X (fun x lo hi H Q=>rSlT X.K x lo hi H Q\/rSlW X.K x lo hi H Q):=SlR.or Wp Xs
theorem zT{K:Frg}{e:Expr}{f:Str}{a:Pos}{b:TE}(g:X.K=K)(d:PE X e b)(c:attributeBase e f X.env (eval e X.env)=eval e X.env):PE X (.Attribute e f a) (tFld K b f):=g▸qD d c
end
end L2
namespace Rm
open PySem PySem.Spec PyProof.Rows L2
structure Tq where
 s:Addr
 p:Addr
 w:Addr
 pa:List Addr
noncomputable def fldR(z:Tq)(g:Int):List (Str×V):=putF "wholes" (.ref z.w) (putF "pieces" (.ref z.p) (putF "last" (.int g) (putF "sizes" (.ref z.s) [])))
section
variable{z:Tq}{g:Int}
theorem qb:(fldR z g).lookup ("wholes" : Str)=some (.ref z.w):=zq
theorem ZO:(fldR z g).lookup ("pieces" : Str)=some (.ref z.p):=(QP (by decide +kernel)).trans zq
theorem WR:(fldR z g).lookup ("last" : Str)=some (.int g):=(QP (by decide +kernel)).trans ((QP (by decide +kernel)).trans zq)
theorem Ya:(fldR z g).lookup ("sizes" : Str)=some (.ref z.s):=(QP (by decide +kernel)).trans ((QP (by decide +kernel)).trans ((QP (by decide +kernel)).trans zq))
end
noncomputable def ownW(x:Str):Fm->Int
 | .ring y _=>if y=x then 1 else 0
 | _=>0
noncomputable def wSum(W:List Int)(qs:List Pc):Int:=(qs.map fun q=>q.2.1*W.getD q.1 0).sum
def WPre(ps:List (Str×Fm))(gs:List Int)(x:Str)(W:List Int)(n:Nat):Prop:=W.length=n/\∀(j:Nat) (p:Str×Fm),j<n->ps[j]?=some p->W.getD j 0=ownW x p.2+wSum W (pcB ps gs j)
structure TalAt(C:Addr)(H:Hp)(a:Addr)(z:Tq)(ps:List (Str×Fm))(gs W:List Int):Prop where
 o:∃dx,H a=some (.ins C dx (fldR z (gs.getD (ps.length-1) 0)))
 s:H z.s=some (.lst (gs.map V.int))
 p:H z.p=some (.lst (z.pa.map V.ref))
 pa:PssAt H z.pa (ps.map fun p=>pcsI gs p.2 (inP ps p.2))
 w:H z.w=some (.lst (W.map V.int))
inductive sp_initR(C:Addr)(vs:List V)(H:Hp)(Q:VK)(xk:XK):Prop
 | mk (a dx b pl pp:Addr) (las pas:List Addr) (ls:List (Str×Int)) (ps:List (Str×Fm)) (gs:List Int) (hs:List (List Int)) (x:Str) (_:vs=[.ref a,.ref b,.str x]) (_:H a=some (.ins C dx [])) (_:BookAt H b pl pp las pas ls ps) (_:Sn ls ps gs hs) (_:Ws.isW x=true) (_:(∀p∈ps,FmWs p.2)) (_:∀(z:Tq) (W:List Int) (H':Hp),(∀c u,c≠a->H c=some u->H' c=some u)->WPre ps gs x W ps.length->TalAt C H' a z ps gs W->Q .non H'):sp_initR C vs H Q xk
section
variable{ls:List (Str×Int)}{ps:List (Str×Fm)}{gs:List Int}{hs:List (List Int)}{x:Str}{W:List Int}
theorem TalAt.keep{C:Addr}{H H':Hp}{a:Addr}{z:Tq}(T:TalAt C H a z ps gs W)(s:Same H H'):TalAt C H' a z ps gs W:=by
 obtain⟨⟨f,o⟩,g,i,j,k⟩:=T;exact⟨⟨f,s _ _ o⟩,s _ _ g,s _ _ i,All2.mono j fun c e ⟨d,l,m⟩=>⟨d,s _ _ l,All2.mono m fun b q h=>s _ _ h⟩,s _ _ k⟩
theorem Xa{l:List Int}(h:∀y∈l,0<=y){y:Int}(c:y∈l):y<=l.sum/\0<=l.sum:=by
 induction l generalizing y with
 | nil=>exact nomatch c
 | cons a r ih=>
  have d:=h a vq;have e:0<=r.sum:=by
   cases r with
   | nil=>exact va _
   | cons b r'=>exact(ih (fun y c=>h y (vp _ c)) vq |>.2)
  rw[sum_cons];rcases mem_cons.mp c with rfl | c
  ·lia
  ·have:=(ih (fun y c=>h y (vp _ c)) c).1;lia
theorem wI:∀{l:List Int},l≠[]->∃g,g∈l/\∀y∈l,y<=g
 | [],h=>uk rfl h
 | [a],_=>⟨a,vq,fun y d=>by rw[vo.mp d];exact va _⟩
 | a::b::r,_=>by
  obtain⟨g,i,f⟩:=wI (l:=b::r) (List.cons_ne_nil _ _);by_cases c:a<=g
  ·exact⟨g,vp _ i,fun y d=>(mem_cons.mp d).elim (fun e=>e▸c) (f y)⟩
  ·exact⟨a,vq,fun y d=>(mem_cons.mp d).elim (fun e=>e▸va _) fun z=>by have:=f y z;lia⟩
theorem Sn.fit(N:Sn ls ps gs hs){i:Nat}{q:Pc}(h:q∈pcB ps gs i):q.2.1*gs.getD q.1 0<=gs.getD i 0:=by
 unfold pcB at h;split at h
 case h_2=>exact nomatch h
 rename_i p hp;have B:=(vx.mp hp).1;have o:=(N.s.ln i p hp).2;have C:=(N.s.ln i p hp).1;have t:∀k∈inP ps p.2,1<=gs.getD k 0:=fun k u=>by
  have:=N.s.w.inP_lt hp u;exact(N.g (show k<ps.length by lia)).1
 have f:∀y∈(inP ps p.2).map fun j=>gs.getD j 0,0<=y:=fun y w=>by
  obtain⟨j,a,rfl⟩:=vJ.mp w;have:=t j a;lia
 have x:=Yg h;have c:gs.getD q.1 0∈(inP ps p.2).map fun j=>gs.getD j 0:=vJ.mpr ⟨q.1,x,rfl⟩
 unfold pcsI at h;split at h
 ·rename_i k y e;have m:=N.a18 i p.1 y k (by rw[hp,<-e]);split at h
  ·exact nomatch h
  ·rename_i j r ein;have A:=t j (by rw[ein];exact vq);have b:k*gs.getD j 0=gs.getD i 0:=o _ (by rw[e]at ein|-;rw[ein];exact⟨_,rfl,rfl⟩);rw[<-b];rcases mem_cons.mp h with rfl | h
   ·exact vS m.1 (by show 0<=gs.getD j 0;lia)
   ·split at h
    ·rw[vo.mp h];exact vS (show k-1<=k by lia) (by show 0<=gs.getD j 0;lia)
    ·exact nomatch h
 ·rename_i ns e;have b:=o ((inP ps p.2).map fun j=>gs.getD j 0).sum (by rw[e];rfl);rw[(zt h).2,Int.one_mul,<-b];exact(Xa f c).1
 ·rename_i n1 n2;obtain⟨j,a,rfl⟩:=vJ.mp h;rw[Int.one_mul];cases e:p.2 with
  | side ns=>
   obtain⟨g,s,d⟩:=wI (l:=(inP ps p.2).map fun j=>gs.getD j 0) (fun z=>by rw[z]at c;exact nomatch c);have b:=o g (by rw[e]at s d|-;exact⟨s,d⟩);rw[<-b];exact d _ c
  | row ns=>exact uk e (n2 ns)
  | again k y=>exact uk e (n1 k y)
  | hold n=>rw[e]at a;exact nomatch a
  | ring y n=>rw[e]at a;exact nomatch a
  | rise y v n=>rw[e]at a;exact nomatch a
theorem Kn{b:Type}{f:b->Int}{B:Int}(c:0<=B):∀{l:List b},(∀y∈l,0<=f y/\f y<=B)->0<=(l.map f).sum/\(l.map f).sum<=l.length*B
 | [],_=>by
  rw[map_nil,sum_nil];exact⟨va _,by show(0:Int)<=(0:Nat)*B;simp⟩
 | a::r,h=>by
  have e:=h a vq;have g:=Kn c fun y d=>h y (vp _ d)
  rw[v7,sum_cons,vO];have:((r.length+1:Nat):Int)*B=r.length*B+B:=by rw[show((r.length+1:Nat):Int)=(r.length:Int)+1 by lia,Int.add_mul,Int.one_mul]
  lia
theorem yD(N:Sn ls ps gs hs)(i:Nat):(pcB ps gs i).length<=8:=by
 unfold pcB;split
 ·rename_i p hp;exact wF (N.i8 hp)
 ·exact vb _
theorem WPre.bnd(N:Sn ls ps gs hs){n:Nat}(v:n<=ps.length)(O:WPre ps gs x W n):∀i,i<n->0<=W.getD i 0/\W.getD i 0<=gs.getD i 0*8^(i+1):=by
 intro i
 induction i using Nat.strongRecOn with
 | ind i ih=>
  intro k;obtain⟨p,d⟩:∃p,ps[i]?=some p:=⟨_,vz (by lia)⟩
  have e:=O.2 i p k d;have j:=N.g (show i<ps.length by lia);have C:(0:Int)<8^i:=Int.pow_pos (by decide);have u:1*1<=gs.getD i 0*8^i:=Int.mul_le_mul j.1 (by lia) (by decide) (by lia);have b:=Kn (f:=fun q:Pc=>q.2.1*W.getD q.1 0) (B:=gs.getD i 0*8^i) (by lia) (l:=pcB ps gs i) fun q a=>by
   have r:=Qt N.s.w a;have g:=N.pcOk a;have w:=ih q.1 r (by lia);refine⟨vL (by have:=g.2.2.2.1;lia) w.1,?_⟩;have f:=N.fit a;have s:(8:Int)^(q.1+1)<=8^i:=by
    have:=Nat.pow_le_pow_right (show 0<8 by decide) (show q.1+1<=i by lia)
    exact_mod_cast this
   have t:0<=q.2.1:=by have:=g.2.2.2.1;lia
   calc q.2.1*W.getD q.1 0<=q.2.1*(gs.getD q.1 0*8^(q.1+1)):=Int.mul_le_mul_of_nonneg_left w.2 t
    _=q.2.1*gs.getD q.1 0*8^(q.1+1):=(Int.mul_assoc ..).symm
    _<=gs.getD i 0*8^(q.1+1):=vS f (Int.le_of_lt (Int.pow_pos (by decide)))
    _<=gs.getD i 0*8^i:=Int.mul_le_mul_of_nonneg_left s (by lia)
  have A:=yD N i;have o:0<=ownW x p.2/\ownW x p.2<=1/\(ownW x p.2=1->pcB ps gs i=[]):=by
   unfold ownW;split
   ·rename_i y m e';split
    ·refine⟨by decide,by decide,fun _=>?_⟩;unfold pcB;rw[d];show pcsI gs p.2 (inP ps p.2)=[]
     rw[e'];rfl
    ·exact⟨by decide,by decide,fun z=>by cases z⟩
   ·exact⟨by decide,by decide,fun z=>by cases z⟩
  rw[e,Int.pow_succ,<-Int.mul_assoc];have h:0<=wSum W (pcB ps gs i)/\wSum W (pcB ps gs i)<=(pcB ps gs i).length*(gs.getD i 0*8^i):=b;by_cases c:ownW x p.2=1
  ·rw[o.2.2 c]at h|-;have:wSum W []=0:=rfl;rw[this];lia
  ·have:((pcB ps gs i).length:Int)*(gs.getD i 0*8^i)<=8*(gs.getD i 0*8^i):=vS (by lia) (by lia);lia
theorem WPre.b250(N:Sn ls ps gs hs){n:Nat}(a:n<=ps.length)(O:WPre ps gs x W n){i:Nat}(hi:i<n):0<=W.getD i 0/\W.getD i 0<=10^200:=by
 have b:=O.bnd N a i hi;have g:=N.g (show i<ps.length by lia);have c:=N.s.w.p61;refine⟨b.1,Int.le_trans b.2 ?_⟩;have d:(8:Int)^(i+1)<=8^61:=by
  have:=Nat.pow_le_pow_right (show 0<8 by decide) (show i+1<=61 by lia)
  exact_mod_cast this
 have:=Int.mul_le_mul g.2 d (Int.le_of_lt (Int.pow_pos (by decide))) (by decide);exact Int.le_trans this (by decide)
theorem K6{v:Int}{a:List Pc}(h:∀q∈a,q.1<W.length):wSum (W++[v]) a=wSum W a:=by
 unfold wSum;congr 1;refine map_congr_left fun q b=>?_
 rw[vy,vy,vA (h q b)]
theorem WPre.snoc(c:WfB ls ps){n:Nat}(O:WPre ps gs x W n){p:Str×Fm}(d:ps[n]?=some p):WPre ps gs x (W++[ownW x p.2+wSum W (pcB ps gs n)]) (n+1):=by
 have b:=O.1;refine⟨by rw[vn,b];rfl,fun j f g a=>?_⟩;rw[K6 fun q e=>by have:=Qt c e;lia];rcases Nat.lt_or_ge j n with z | z
 ·rw[<-O.2 j f z a,vy,vy,vA (by lia)]
 ·have:j=n:=by lia
  subst this;rw[d]at a;cases a;rw[vy,vB (by lia),b,Nat.sub_self];rfl
end
theorem Wx{H:Hp}{q:Addr}{f:Fm}{x:Str}(h:FormAt H q f)(j:FmWs f):∃xs:List V,H q=some (.tup xs)/\(xs.length=2\/xs.length=3\/xs.length=4)/\
  ∀(H':Hp) (p:Addr),Same H H'->H' p=some (.tup (xs.take 2))->∃d,DV H' (.ref p) d/\SeqAt.shaped d=true/\PyData.eqv d (.tuple [.str "ring",.str x])=decide (ownW x f=1):=by
 have c:∀y:Str,Ws.isW y=true->Shp 0 (.str y):=fun y w=>Shp.str (Km w)
 have g:∀{a b:PyData},Shp 1 a->Shp 1 b->SeqAt.shaped (.tuple [a,b])=true:=fun t u=>(Shp.tup (n:=1) fun d r=>by
  simp only[mem_cons,not_mem_nil,or_false]at r;rcases r with rfl | rfl
  ·exact t
  ·exact u).ok (by decide)
 have m:∀{d:PyData},Shp 0 d->Shp 1 d:=fun h=>h.mono (by decide)
 have i:∀{y:Str} {a:PyData},(y==("ring" : Str))=false->PyData.eqv (.tuple [.str y,a]) (.tuple [.str "ring",.str x])=false:=fun {y a} e=>by
  show((y==("ring" : Str))&&_)=false;rw[e];rfl
 cases f with
 | hold n=>exact⟨_,h,.inl rfl,fun H' p s e=>⟨_,.tup e (.cons (.str _) (.cons (.int _) .nil)),g (m (c _ (by decide +kernel))) (m .int),by rw[i (by decide +kernel)];rfl⟩⟩
 | ring y n=>
  refine⟨_,h,.inr (.inl rfl),fun H' p s e=>⟨_,.tup e (.cons (.str _) (.cons (.str _) .nil)),g (m (c _ (by decide +kernel))) (m (c _ j.1)),?_⟩⟩;show((("ring" : Str) == "ring")&&((y==x)&&true))=_;rw[beq_self_eq_true,Bool.true_and,Bool.and_true];show(y==x)=decide ((if y=x then(1:Int)else 0)=1);by_cases e:y=x
  ·rw[e,ve rfl];simp
  ·rw[vd e,beq_false_of_ne e];rfl
 | rise y v n=>exact⟨_,h,.inr (.inr rfl),fun H' p s e=>⟨_,.tup e (.cons (.str _) (.cons (.str _) .nil)),g (m (c _ (by decide +kernel))) (m (c _ j.1)),by rw[i (by decide +kernel)];rfl⟩⟩
 | row ns=>
  obtain⟨b,l,o⟩:=h;exact⟨_,l,.inl rfl,fun H' p s e=>⟨_,.tup e (.cons (.str _) (.cons (.tup (s _ _ o) (yk ns)) .nil)),g (m (c _ (by decide +kernel))) (Shp.tup (Zm j.2)),by rw[i (by decide +kernel)];rfl⟩⟩
 | side ns=>
  obtain⟨b,l,o⟩:=h;exact⟨_,l,.inl rfl,fun H' p s e=>⟨_,.tup e (.cons (.str _) (.cons (.tup (s _ _ o) (yk ns)) .nil)),g (m (c _ (by decide +kernel))) (Shp.tup (Zm j.2)),by rw[i (by decide +kernel)];rfl⟩⟩
 | again k y=>exact⟨_,h,.inr (.inl rfl),fun H' p s e=>⟨_,.tup e (.cons (.str _) (.cons (.int _) .nil)),g (m (c _ (by decide +kernel))) (m .int),by rw[i (by decide +kernel)];rfl⟩⟩
theorem cut2{xs:List V}(h:xs.length=3\/xs.length=4):¬(HT.sIx xs.length 0 none=0/\HT.sIx xs.length xs.length (some 2)=xs.length)/\cutV xs none (some 2)=xs.take 2:=by
 unfold cutV;rcases h with e | e<;>rw[e]<;>exact⟨by decide,rfl⟩
theorem xl{K:Frg}{H:Hp}{a:Addr}{xs:List V}{Q:VK}(e:H a=some (.tup xs))(c:xs.length=2\/xs.length=3\/xs.length=4)(k:∀(b:Addr) (H':Hp),Same H H'->H' b=some (.tup (xs.take 2))->Q (.ref b) H'):rSlT K (.ref a) none (some 2) H Q\/rSlW K (.ref a) none (some 2) H Q:=by
 rcases c with h | h
 ·exact .inr ⟨a,xs,rfl,SqT.of e,by rw[h];rfl,by rw[h];rfl,k a H (Same.refl _) (by rw[List.take_of_length_le (by lia)];exact e)⟩
 ·exact .inl ⟨a,xs,rfl,SqT.of e,(cut2 h).1,fun p d=>k p _ (yJ d rfl) (by rw[(cut2 h).2];exact jt)⟩
end Rm
namespace Ct
def GB(r s g f:Int):Prop:=1<=g/\g ∣ r/\g ∣ s/\∃t,r*f=g+s*t
theorem GB.rep{r s g f y:Int}(G:GB r s g f):(∃p q,y=r*p+s*q)↔g ∣ y:=by
 obtain⟨h,⟨a,c⟩,⟨b,d⟩,t,e⟩:=G;constructor
 ·rintro⟨p,q,rfl⟩;rw[c,d];exact⟨a*p+b*q,by rw[Int.mul_add,Int.mul_assoc,Int.mul_assoc]⟩
 ·rintro⟨k,rfl⟩;refine⟨f*k,-(t*k),?_⟩;rw[<-Int.mul_assoc,e,Int.add_mul,Int.mul_neg,Int.mul_assoc s t k];lia
theorem yq{r s g f m:Int}(G:GB r s g f):r*(s/g) ∣ m↔r ∣ m/\s ∣ m:=by
 obtain⟨w,⟨a,n⟩,⟨b,c⟩,t,v⟩:=G;have d:g≠0:=by lia
 have l:s/g=b:=by rw[c,Int.mul_ediv_cancel_left _ d]
 rw[l];constructor
 ·rintro⟨k,rfl⟩;refine⟨⟨b*k,Int.mul_assoc _ _ _⟩,⟨a*k,?_⟩⟩;rw[n,c,Int.mul_assoc g a b,Int.mul_comm a b,<-Int.mul_assoc g b a,Int.mul_assoc]
 ·rintro⟨⟨p,o⟩,q,u⟩;refine⟨q*f-p*t,?_⟩;have e:g*m=g*(r*b*(q*f-p*t)):=by
   have h:g*m=(r*f-s*t)*m:=by rw[v];congr 1;lia
   have i:r*f*m=r*f*(s*q):=by rw[<-u]
   have j:s*t*m=s*t*(r*p):=by rw[<-o]
   rw[h,Int.sub_mul,i,j,c];simp only[Int.mul_sub,Int.mul_left_comm,Int.mul_comm]
  exact Int.eq_of_mul_eq_mul_left d e
theorem W2{r s g f b w:Int}(J:1<=r)(hs:1<=s)(G:GB r s g f)(H:0<=b/\b<r)(hw:0<=w/\w<s)(h:(w-b)%g=0) :
  0<=b+(w-b)/g*f%(s/g)*r/\b+(w-b)/g*f%(s/g)*r<r*(s/g)/\r ∣ b+(w-b)/g*f%(s/g)*r-b/\s ∣ b+(w-b)/g*f%(s/g)*r-w:=by
 have D:=G;obtain⟨F,⟨a,y⟩,⟨c,l⟩,t,A⟩:=G;have n:g≠0:=by lia
 have v:s/g=c:=by rw[l,Int.mul_ediv_cancel_left _ n]
 have E:1<=c:=by
  by_cases z:c<=0
  ·have:=Int.mul_nonpos_of_nonpos_of_nonneg z (show 0<=g by lia);rw[Int.mul_comm]at this;lia
  ·lia
 rw[v];obtain⟨d,m⟩:g ∣ w-b:=Int.dvd_of_emod_eq_zero h;have x:(w-b)/g=d:=by rw[m,Int.mul_ediv_cancel_left _ n]
 rw[x];have o:=vf (d*f) (show c≠0 by lia);have B:=vg (d*f) (show 0<c by lia);have i:=Int.emod_add_mul_ediv (d*f) c;generalize I:d*f%c=k at o B i|-;generalize d*f/c=e at i;have C:0<=k*r:=vL o (by lia);have j:k*r<=(c-1)*r:=vS (by lia) (by lia);rw[Int.sub_mul,Int.one_mul]at j;refine⟨by lia,by rw[Int.mul_comm r c];lia,⟨k,by rw[Int.mul_comm r k];lia⟩,?_⟩;refine⟨d*t-a*e,?_⟩;have p:k*r=d*f*r-c*e*r:=by rw[<-i,Int.add_mul];lia
 have q:d*f*r=(w-b)+s*(d*t):=by
  rw[Int.mul_assoc,Int.mul_comm f r,A,Int.mul_add,m];simp only[Int.mul_comm,Int.mul_left_comm]
 have u:c*e*r=s*(a*e):=by
  rw[y,l];simp only[Int.mul_comm,Int.mul_left_comm]
 rw[p,q,u,Int.mul_sub];lia
theorem qJ{r s g f:Int}(hs:1<=s)(G:GB r s g f):1<=s/g:=by
 obtain⟨d,_,⟨c,a⟩,_⟩:=G;have b:g≠0:=by lia
 rw[show s/g=c by rw[a,Int.mul_ediv_cancel_left _ b]];by_cases z:c<=0
 ·have:=Int.mul_nonpos_of_nonpos_of_nonneg z (show 0<=g by lia);rw[Int.mul_comm]at this;lia
 ·lia
end Ct
namespace Rm
open PySem PySem.Spec PyProof.Rows L2
noncomputable def rq(W:List Int)(qs:List Pc):List Pc:=qs.filter fun q=>decide (0<W.getD q.1 0)
noncomputable def rbL(pc:Nat->List Pc)(gs W:List Int):Nat->Nat->Int->List Int
 | 0,_,t=>[t]
 | n+1,i,t=>if rq W (pc i)=[]then[t]else(bgs gs t (rq W (pc i))).flatMap fun x=>rbL pc gs W n x.1 x.2
noncomputable def nrL(pc:Nat->List Pc)(gs W:List Int):Nat->Nat->Nat
 | 0,_=>1
 | n+1,i=>1+((bgs gs 0 (rq W (pc i))).map fun x=>nrL pc gs W n x.1).sum
noncomputable def RB(ps:List (Str×Fm))(gs W:List Int)(i:Nat)(t:Int):List Int:=rbL (pcB ps gs) gs W (i+1) i t
noncomputable def NR(ps:List (Str×Fm))(gs W:List Int)(i:Nat):Nat:=nrL (pcB ps gs) gs W (i+1) i
section
variable{ls:List (Str×Int)}{ps:List (Str×Fm)}{gs W:List Int}{hs:List (List Int)}{x:Str}
theorem W3{a:List Pc}{b:Int}{y:Nat×Int}(h:y∈bgs gs b a):∃q∈a,y.1=q.1:=by
 obtain⟨q,c,d⟩:=mem_flatMap.mp h;obtain⟨u,_,rfl⟩:=vJ.mp d;exact⟨q,c,rfl⟩
theorem Yx(a:WfB ls ps){i:Nat}{b:Int}{y:Nat×Int}(h:y∈bgs gs b (rq W (pcB ps gs i))):y.1<i/\0<W.getD y.1 0:=by
 obtain⟨q,f,e⟩:=W3 h;obtain⟨c,d⟩:=mem_filter.mp f;exact⟨e▸Qt a c,e▸of_decide_eq_true d⟩
theorem Kh(a:WfB ls ps):∀{n m i:Nat} {t:Int},i<n->i<m->rbL (pcB ps gs) gs W n i t=rbL (pcB ps gs) gs W m i t
 | 0,_,_,_,h,_=>uk h (Nat.not_lt_zero _)
 | _,0,_,_,_,h=>uk h (Nat.not_lt_zero _)
 | n+1,m+1,i,t,h1,h2=>by
  unfold rbL;split
  ·rfl
  ·exact JN fun y b=>by
    have:=(Yx a b).1;exact Kh a (by lia) (by lia)
theorem kT(a:WfB ls ps):∀{n m i:Nat},i<n->i<m->nrL (pcB ps gs) gs W n i=nrL (pcB ps gs) gs W m i
 | 0,_,_,h,_=>uk h (Nat.not_lt_zero _)
 | _,0,_,_,h=>uk h (Nat.not_lt_zero _)
 | n+1,m+1,i,h1,h2=>by
  unfold nrL;congr 2;exact map_congr_left fun y b=>by
   have:=(Yx a b).1;exact kT a (by lia) (by lia)
theorem zP{i:Nat}{t:Int}(h:rq W (pcB ps gs i)=[]):RB ps gs W i t=[t]:=by
 unfold RB rbL;rw[ve h]
theorem QY(a:WfB ls ps){i:Nat}{t:Int}(h:¬rq W (pcB ps gs i)=[]):RB ps gs W i t=(bgs gs t (rq W (pcB ps gs i))).flatMap fun y=>RB ps gs W y.1 y.2:=by
 unfold RB;rw[rbL,vd h];exact JN fun y b=>by
  have:=(Yx a b).1;exact Kh a (by lia) (by lia)
theorem xF{b:Int}(a:List Pc):(bgs gs b a).map (·.1)=(bgs gs 0 a).map (·.1):=by
 unfold bgs;rw[List.map_flatMap,List.map_flatMap];exact JN fun q _=>by rw[v4,v4];rfl
theorem WG(a:WfB ls ps){i:Nat}{t:Int}:NR ps gs W i=1+((bgs gs t (rq W (pcB ps gs i))).map fun y=>NR ps gs W y.1).sum:=by
 unfold NR;rw[nrL];congr 2;have e:∀b,(bgs gs b (rq W (pcB ps gs i))).map (fun y=>nrL (pcB ps gs) gs W (y.1+1) y.1)=((bgs gs b (rq W (pcB ps gs i))).map (·.1)).map fun j=>nrL (pcB ps gs) gs W (j+1) j:=fun b=>by rw[v4];rfl
 rw[e,xF,<-e];exact map_congr_left fun y c=>by
  have:=(Yx a c).1;exact kT a (by lia) (by lia)
theorem xB(i:Nat):1<=NR ps gs W i:=by
 unfold NR nrL;lia
theorem XB(N:Sn ls ps gs hs)(O:WPre ps gs x W ps.length){i:Nat}(hi:i<ps.length)(t:Int):((bgs gs t (rq W (pcB ps gs i))).map fun y=>W.getD y.1 0).sum<=W.getD i 0:=by
 have f:∀j,j<ps.length->0<=W.getD j 0:=fun j w=>(O.bnd N (vc _) j w).1
 have e:=O.2 i _ hi (vz hi);have o:0<=ownW x ps[i].2:=by
  unfold ownW;split
  ·split<;>decide
  ·decide
 have s:∀b:List Pc,(∀q∈b,q.1<ps.length/\1<=q.2.1)->((bgs gs t (rq W b)).map fun y=>W.getD y.1 0).sum<=wSum W b:=by
  intro b
  induction b with
  | nil=>intro _;exact va _
  | cons q r a=>
   intro h;have d:=h q vq;have a:=a fun y A=>h y (vp _ A)
   have g:=f q.1 d.1;have v:wSum W (q::r)=q.2.1*W.getD q.1 0+wSum W r:=by unfold wSum;rw[v7,sum_cons]
   rw[v];unfold rq at a|-;by_cases c:0<W.getD q.1 0
   ·rw[filter_cons,ve (vF c)];have m:bgs gs t (q::r.filter fun q=>decide (0<W.getD q.1 0))=((List.range q.2.1.toNat).map fun u:Nat=>(q.1,t+q.2.2+(u:Int)*gs.getD q.1 0))++bgs gs t (r.filter fun q=>decide (0<W.getD q.1 0)):=by unfold bgs;rw[flatMap_cons]
    rw[m,vk,sum_append,v4];have p:((List.range q.2.1.toNat).map ((fun y:Nat×Int=>W.getD y.1 0)∘fun u:Nat=>(q.1,t+q.2.2+(u:Int)*gs.getD q.1 0))).sum=q.2.1*W.getD q.1 0:=by
     have k:((fun y:Nat×Int=>W.getD y.1 0)∘fun u:Nat=>(q.1,t+q.2.2+(u:Int)*gs.getD q.1 0))=fun _=>W.getD q.1 0:=rfl
     rw[k];have l:∀n:Nat,((List.range n).map fun _=>W.getD q.1 0).sum=(n:Int)*W.getD q.1 0:=fun n=>by
      induction n with
      | zero=>simp
      | succ n a=>rw[range_succ,vk,sum_append,a,v7,map_nil,sum_cons,sum_nil,show((n+1:Nat):Int)=(n:Int)+1 by lia,Int.add_mul];lia
     rw[l,Int.toNat_of_nonneg (by lia)]
    rw[p];lia
   ·rw[filter_cons,vd (fun z=>c (of_decide_eq_true z))];have:=vL (show 0<=q.2.1 by lia) g;lia
 have:=s (pcB ps gs i) fun q d=>⟨by have:=Qt N.s.w d;lia,(N.pcOk d).2.2.2.1⟩
 lia
theorem YE{b:Type}{f:b->Int}:∀{l:List b},(∀y∈l,1<=f y)->(l.length:Int)<=(l.map f).sum
 | [],_=>va _
 | a::r,h=>by
  have:=h a vq;have:=YE fun y c=>h y (vp _ c)
  rw[v7,sum_cons,vO];lia
end
inductive sp_rung(C:Addr)(vs:List V)(H:Hp)(Q:VK)(xk:XK):Prop
 | mk (a:Addr) (z:Tq) (ls:List (Str×Int)) (ps:List (Str×Fm)) (gs W:List Int) (hs:List (List Int)) (x:Str) (_:vs=[.ref a]) (_:TalAt C H a z ps gs W) (_:Sn ls ps gs hs) (_:WPre ps gs x W ps.length) (_:W.getD (ps.length-1) 0<=12) (_:∀(l:Addr) (ms:List Int) (H':Hp),Same H H'->H l=none->H' l=some (.lst (ms.map V.int))->ms.Pairwise (· < ·)->(∀y,y∈ms↔0<W.getD (ps.length-1) 0/\y∈RB ps gs W (ps.length-1) 0)->ms.length<=12->Q (.ref l) H'):sp_rung C vs H Q xk
inductive sp_common(vs:List V)(H:Hp)(Q:VK)(xk:XK):Prop
 | mk (r s:Int) (_:vs=[.int r,.int s]) (_:1<=r) (_:r<=10^200) (_:1<=s) (_:s<=10^100) (_:∀(p:Addr) (g f:Int) (H':Hp),Same H H'->H p=none->H' p=some (.tup [.int g,.int f])->Ct.GB r s g f->-s<=f->f<=s->Q (.ref p) H'):sp_common vs H Q xk
structure Tg(B:List Int)(T:Int)(S:Int->Prop):Prop where
 t1:1<=T
 b:∀y∈B,0<=y/\y<T
 s:∀y,S y↔∃z∈B,T ∣ y-z
inductive sp_together(vs:List V)(H:Hp)(Q:VK)(xk:XK):Prop
 | mk (a b la lb:Addr) (B O:List Int) (T L:Int) (S S':Int->Prop) (_:vs=[.ref a,.ref b]) (_:H a=some (.tup [.ref la,.int T])) (_:H la=some (.lst (B.map V.int))) (_:H b=some (.tup [.ref lb,.int L])) (_:H lb=some (.lst (O.map V.int))) (_:Tg B T S) (_:Tg O L S') (_:T<=10^130) (_:L<=10^61) (_:B.length*O.length<=2000) (_:∀(p l:Addr) (B':List Int) (T':Int) (H':Hp),Same H H'->H p=none->H' p=some (.tup [.ref l,.int T'])->H' l=some (.lst (B'.map V.int))->Tg B' T' (fun y=>S y/\S' y)->B'.length<=B.length*O.length->T'<=T*L->Q (.ref p) H'):sp_together vs H Q xk
noncomputable def mtV(T L g f b w:Int):Int:=b+(w-b)/g*f%(L/g)*T
theorem xo{B O:List Int}{T L g f:Int}{S n:Int->Prop}(h:Tg B T S)(k:Tg O L n)(G:Ct.GB T L g f):Tg (B.flatMap fun b=>(O.filter fun w=>decide ((w-b)%g=0)).map (mtV T L g f b)) (T*(L/g)) (fun y=>S y/\n y):=by
 have x:=Ct.qJ k.t1 G;have l:∀{b w},b∈B->w∈O->(w-b)%g=0->0<=mtV T L g f b w/\mtV T L g f b w<T*(L/g)/\T ∣ mtV T L g f b w-b/\L ∣ mtV T L g f b w-w:=fun c a e=>Ct.W2 h.t1 k.t1 G (h.b _ c) (k.b _ a) e
 refine⟨?_,fun y j=>?_,fun y=>?_⟩
 ·have:=Int.mul_le_mul h.t1 x (by decide) (by have:=h.t1;lia);lia
 ·obtain⟨b,c,j⟩:=mem_flatMap.mp j;obtain⟨w,a,rfl⟩:=vJ.mp j;obtain⟨a,e⟩:=mem_filter.mp a;have:=l c a (of_decide_eq_true e);exact⟨this.1,this.2.1⟩
 ·rw[h.s,k.s];constructor
  ·rintro⟨⟨b,c,o⟩,w,a,r⟩;have s:(w-b)%g=0:=Int.emod_eq_zero_of_dvd (by
    obtain⟨p,z⟩:=o;obtain⟨q,A⟩:=r;exact G.rep.mp ⟨p,-q,by rw[Int.mul_neg];lia⟩)
   have m:=l c a s;refine⟨_,mem_flatMap.mpr ⟨b,c,vJ.mpr ⟨w,mem_filter.mpr ⟨a,vF s⟩,rfl⟩⟩,(Ct.yq G).mpr ⟨?_,?_⟩⟩
   ·have:=Int.dvd_sub o m.2.2.1;rw[show y-b-(mtV T L g f b w-b)=y-mtV T L g f b w by lia]at this;exact this
   ·have:=Int.dvd_sub r m.2.2.2;rw[show y-w-(mtV T L g f b w-w)=y-mtV T L g f b w by lia]at this;exact this
  ·rintro⟨v,i,d⟩;obtain⟨b,c,i⟩:=mem_flatMap.mp i;obtain⟨w,a,rfl⟩:=vJ.mp i;obtain⟨a,e⟩:=mem_filter.mp a;have m:=l c a (of_decide_eq_true e);obtain⟨u,t⟩:=(Ct.yq G).mp d;refine⟨⟨b,c,?_⟩,w,a,?_⟩
   ·have:=Int.dvd_add u m.2.2.1;rw[show y-mtV T L g f b w+(mtV T L g f b w-b)=y-b by lia]at this;exact this
   ·have:=Int.dvd_add t m.2.2.2;rw[show y-mtV T L g f b w+(mtV T L g f b w-w)=y-w by lia]at this;exact this
theorem Wv:Tg [0] 1 (fun _=>True):=⟨by decide,fun y a=>by rw[vo.mp a];decide,fun y=>⟨fun _=>⟨0,vq,Int.one_dvd _⟩,fun _=>trivial⟩⟩
structure Mb where
 ls:List (Str×Int)
 ps:List (Str×Fm)
 gs:List Int
 hs:List (List Int)
 x:Str
 W:List Int
noncomputable def Mb.n(d:Mb):Nat:=d.ps.length-1
noncomputable def Mb.L(d:Mb):Int:=d.gs.getD d.n 0
structure MbOk(d:Mb):Prop where
 sn:Sn d.ls d.ps d.gs d.hs
 w:WPre d.ps d.gs d.x d.W d.ps.length
 few:d.W.getD d.n 0<=12
 x1:Ws.isW d.x=true
 x2:∀p∈d.ps,FmWs p.2
 rb:∀y∈RB d.ps d.gs d.W d.n 0,0<=y/\y<d.L
def Mb.R(d:Mb)(y:Int):Prop:=∃w,(0<d.W.getD d.n 0/\w∈RB d.ps d.gs d.W d.n 0)/\d.L ∣ y-w
def BkA(H:Hp)(a:Addr)(d:Mb):Prop:=∃(pl pp:Addr) (las pas:List Addr),BookAt H a pl pp las pas d.ls d.ps
inductive MeetR(ds:List Mb)(b:Int)(v:V):Prop
 | no (_:v = .non) (_:∀y,¬∀d∈ds,d.R y):MeetR ds b v
 | yes (y:Int) (_:v = .int y) (_:b<=y) (_:y<=b+10^200) (_:∀d∈ds,d.R y) (_:∀y',b<=y'->(∀d∈ds,d.R y')->y<=y'):MeetR ds b v
inductive sp_meeting(vs:List V)(H:Hp)(Q:VK)(xk:XK):Prop
 | mk (a b:Addr) (as:List Addr) (ds:List Mb) (t:Int) (_:vs=[.ref a,.ref b,.int t]) (_:H a=some (.lst (as.map V.ref))) (_:All2 (BkA H) as ds) (_:H b=some (.lst (ds.map fun d=>V.str d.x))) (_:ds.length<=3) (_:(∀d∈ds,MbOk d)) (_:∀(v:V) (H':Hp),Same H H'->MeetR ds (max t 0) v->Q v H'):sp_meeting vs H Q xk
theorem YI{ps:List (Str×Fm)}{ls:List (Str×Int)}{gs:List Int}{x:Str}{W a:List Int}{n:Nat}(e:WfB ls ps)(k:n<=ps.length)(O:WPre ps gs x W n)(b:WPre ps gs x a n):W=a:=by
 have h:∀i,i<n->W.getD i 0=a.getD i 0:=by
  intro i
  induction i using Nat.strongRecOn with
  | ind i ih=>
   intro c;have d:=vz (show i<ps.length by lia);rw[O.2 i _ c d,b.2 i _ c d];congr 1;unfold wSum;congr 1;refine map_congr_left fun q j=>?_
   have:=Qt e j;rw[ih q.1 this (by lia)]
 have l:=O.1;have m:=b.1;refine ext_getElem (by lia) fun i f g=>?_
 have:=h i (by lia);rw[vy,vy,vz f,vz g]at this;exact this
end Rm
namespace Ct
structure Ce(r s a b x y:Int):Prop where
 a1:1<=a
 b0:0<=b
 bs:b<=s
 ar:a<=r\/a<=s
 sg:(0<=x/\y<=0/\b*x-a*y=s)\/(x<=0/\0<=y/\a*y-b*x=s)
 x1 : -s<=x
 x2:x<=s
 y1 : -s<=y
 y2:y<=s
 rx:∃t,r*x=a+s*t
 ry:∃t,r*y=b+s*t
 dv:∀d,d ∣ a->d ∣ b->d ∣ r/\d ∣ s
theorem Ce.start{r s:Int}(c:1<=r)(hs:1<=s):Ce r s r s 1 0:=
 ⟨c,by lia,va _,.inl (va _),.inl ⟨by decide,by decide,by rw[Int.mul_one,Int.mul_zero,Int.sub_zero]⟩,by lia,by lia,by lia,by lia,⟨0,by rw[Int.mul_one,Int.mul_zero,Int.add_zero]⟩,⟨-1,by rw[Int.mul_zero,Int.mul_neg,Int.mul_one];lia⟩,fun d a b=>⟨a,b⟩⟩
theorem ZT{b y s:Int}(a:1<=b)(c:0<=y)(h:b*y<=s):y<=s:=by
 have:=vS a c;lia
theorem Ce.step{r s a b x y:Int}(C:Ce r s a b x y)(i:1<=b):Ce r s b (a-a/b*b) y (x-a/b*y):=by
 have g:0<=a/b:=Int.ediv_nonneg (by have:=C.a1;lia) (by lia);have B:=Int.emod_add_mul_ediv a b;have D:=vf a (show b≠0 by lia);have E:=vg a (show 0<b by lia);have F:a/b*b=b*(a/b):=Int.mul_comm ..;have f:0<=a-a/b*b:=by lia
 have n:a-a/b*b<b:=by lia
 generalize G:a/b=m at *;have H:=C.x1;have I:=C.x2;have z:=C.y1;have A:=C.y2;have o:=C.bs;have w:b*(x-m*y)-(a-m*b)*y=b*x-a*y:=by
  rw[Int.mul_sub,Int.sub_mul,Int.mul_left_comm b m y,Int.mul_assoc m b y];lia
 refine⟨i,f,by lia,.inr o,?_,z,A,?_,?_,C.ry,?_,fun d e c=>?_⟩
 ·rcases C.sg with⟨e,c,h⟩ | ⟨e,c,h⟩
  ·refine .inr ⟨c,?_,by lia⟩;have:=Int.mul_nonpos_of_nonneg_of_nonpos g c;lia
  ·refine .inl ⟨c,?_,by lia⟩;have:=vL g c;lia
 ·rcases C.sg with⟨e,c,h⟩ | ⟨e,c,h⟩
  ·have:=Int.mul_nonpos_of_nonneg_of_nonpos g c;lia
  ·have k:0<=m*y-x:=by have:=vL g c;lia
   have p:=vL f c;have q:b*(m*y-x)<=s:=by
    rw[show m*y-x = -(x-m*y) by lia,Int.mul_neg];lia
   have:=ZT i k q;lia
 ·rcases C.sg with⟨e,c,h⟩ | ⟨e,c,h⟩
  ·have k:0<=x-m*y:=by have:=Int.mul_nonpos_of_nonneg_of_nonpos g c;lia
   have p:=Int.mul_nonpos_of_nonneg_of_nonpos f c;exact ZT i k (by lia)
  ·have:=vL g c;lia
 ·obtain⟨t,v⟩:=C.rx;obtain⟨l,j⟩:=C.ry;refine⟨t-m*l,?_⟩;rw[Int.mul_sub,Int.mul_left_comm r m y,v,j,Int.mul_add,Int.mul_sub,Int.mul_left_comm s m l];lia
 ·have u:d ∣ a:=by
   have:=Int.dvd_add c (Int.dvd_trans e (Int.dvd_mul_left m b));rw[show a-m*b+m*b=a by lia]at this;exact this
  exact C.dv d u e
theorem Ce.done{r s a x y:Int}(C:Ce r s a 0 x y):GB r s a x:=by
 obtain⟨b,c⟩:=C.dv a (Int.dvd_refl a) (Int.dvd_zero a);exact⟨C.a1,b,c,C.rx⟩
end Ct
namespace Rm
open PySem PySem.Spec PyProof.Rows L2
structure RgS(ps:List (Str×Fm))(gs W:List Int)(R:Int->Prop)(F:List Int)(S:List (Nat×Int)):Prop where
 inv:∀y,R y↔y∈F\/∃s∈S,y∈RB ps gs W s.1 s.2
 ok:∀s∈S,s.1<ps.length/\0<W.getD s.1 0
 bnd:(F.length:Int)+(S.map fun s=>W.getD s.1 0).sum<=12
section
variable{ls:List (Str×Int)}{ps:List (Str×Fm)}{gs W:List Int}{hs:List (List Int)}{R:Int->Prop}{F:List Int}{S0:List (Nat×Int)}{s:Nat×Int}{x:Str}
theorem RgS.few(h:RgS ps gs W R F S0):F.length+S0.length<=12:=by
 have b:=h.bnd;have:=YE (f:=fun s:Nat×Int=>W.getD s.1 0) (l:=S0) fun y a=>by have:=(h.ok y a).2;lia
 lia
theorem RgS.leaf(h:RgS ps gs W R F (S0++[s]))(e:rq W (pcB ps gs s.1)=[]):RgS ps gs W R (F++[s.2]) S0:=by
 refine⟨fun y=>?_,fun y c=>h.ok y (mem_append_left _ c),?_⟩
 ·rw[h.inv,vi,vo];constructor
  ·rintro(z | ⟨u,a,z⟩)
   ·exact .inl (.inl z)
   ·rcases vi.mp a with a | a
    ·exact .inr ⟨u,a,z⟩
    ·rw[vo.mp a,zP e,vo]at z;exact .inl (.inr z)
  ·rintro((z | z) | ⟨u,a,z⟩)
   ·exact .inl z
   ·exact .inr ⟨s,mem_append_right _ vq,by rw[zP e,z];exact vq⟩
   ·exact .inr ⟨u,mem_append_left _ a,z⟩
 ·have b:=h.bnd;have:=(h.ok s (mem_append_right _ vq)).2;rw[vk,sum_append,v7,map_nil,sum_cons,sum_nil]at b;rw[vn,List.length_singleton];lia
theorem RgS.node(N:Sn ls ps gs hs)(O:WPre ps gs x W ps.length)(h:RgS ps gs W R F (S0++[s]))(e:¬rq W (pcB ps gs s.1)=[]):RgS ps gs W R F (S0++bgs gs s.2 (rq W (pcB ps gs s.1))):=by
 have f:=h.ok s (mem_append_right _ vq);refine⟨fun y=>?_,fun y c=>?_,?_⟩
 ·rw[h.inv];constructor
  ·rintro(z | ⟨u,a,z⟩)
   ·exact .inl z
   ·rcases vi.mp a with a | a
    ·exact .inr ⟨u,mem_append_left _ a,z⟩
    ·rw[vo.mp a,QY N.s.w e]at z;obtain⟨v,d,z⟩:=mem_flatMap.mp z;exact .inr ⟨v,mem_append_right _ d,z⟩
  ·rintro(z | ⟨u,a,z⟩)
   ·exact .inl z
   ·rcases vi.mp a with a | a
    ·exact .inr ⟨u,mem_append_left _ a,z⟩
    ·exact .inr ⟨s,mem_append_right _ vq,by rw[QY N.s.w e];exact mem_flatMap.mpr ⟨u,a,z⟩⟩
 ·rcases vi.mp c with c | c
  ·exact h.ok y (mem_append_left _ c)
  ·have:=Yx N.s.w c;exact⟨by lia,this.2⟩
 ·have b:=h.bnd;have w:=XB N O f.1 s.2;rw[vk,sum_append,v7,map_nil,sum_cons,sum_nil]at b;rw[vk,sum_append];lia
theorem RgS.done(h:RgS ps gs W R F [])(y:Int):R y↔y∈F:=by
 rw[h.inv];exact⟨fun z=>z.elim id (fun⟨_,a,_⟩=>nomatch a),.inl⟩
end
def TlA(C:Addr)(H:Hp)(a:Addr)(d:Mb):Prop:=∃z,TalAt C H a z d.ps d.gs d.W
theorem MbOk.tg{d:Mb}(k:MbOk d){c:List Int}(b:∀y,y∈c↔0<d.W.getD (d.ps.length-1) 0/\y∈RB d.ps d.gs d.W (d.ps.length-1) 0):Tg c d.L d.R:=by
 have g:=k.sn.ne;refine⟨(k.sn.g (show d.n<_ by unfold Mb.n;lia)).1,fun y f=>k.rb y ((b y).mp f).2,fun y=>⟨?_,?_⟩⟩
 ·rintro⟨w,a,e⟩;exact⟨w,(b w).mpr a,e⟩
 ·rintro⟨w,a,e⟩;exact⟨w,(b w).mp a,e⟩
theorem xq{ds:List Mb}{i:Nat}{d:Mb}(b:ds[i]?=some d):(fun y=>(∀e∈ds.take i,e.R y)/\d.R y)=fun y=>∀e∈ds.take (i+1),Mb.R e y:=by
 funext y;rw[take_snoc b];refine propext ⟨fun h e a=>?_,fun h=>⟨fun e a=>h e (mem_append_left _ a),h d (mem_append_right _ vq)⟩⟩;rcases vi.mp a with z | z
 ·exact h.1 e z
 ·rw[vo.mp z];exact h.2
noncomputable def cnd(b T z:Int):Int:=b+(z-b)%T
section
variable{ds:List Mb}{B:List Int}{T b:Int}
theorem W1(h:Tg B T (fun y=>∀d∈ds,d.R y))(e:B=[]):MeetR ds b .non:=.no rfl fun y c=>by
 obtain⟨z,a,_⟩:=(h.s y).mp c;rw[e]at a;exact nomatch a
theorem wL(h:Tg B T (fun y=>∀d∈ds,d.R y))(l:T<=10^190){m:Int}(k:LsI (B.map (cnd b T)) m):MeetR ds b (.int m):=by
 have v:=h.t1;have c:∀z,b<=cnd b T z/\cnd b T z<=b+T/\T ∣ cnd b T z-z:=fun z=>by
  have s:=vf (z-b) (show T≠0 by lia);have t:=vg (z-b) (show 0<T by lia);have u:=Int.emod_add_mul_ediv (z-b) T;unfold cnd;exact⟨by lia,by lia,⟨-((z-b)/T),by rw[Int.mul_neg];lia⟩⟩
 obtain⟨z,j,rfl⟩:=vJ.mp k.1;have e:=c z;refine .yes _ rfl e.1 (by lia) ((h.s _).mpr ⟨z,j,e.2.2⟩) fun y p i=>?_
 obtain⟨f,a,d⟩:=(h.s y).mp i;refine Int.le_trans (k.2 _ (vJ.mpr ⟨f,a,rfl⟩)) ?_;obtain⟨q,r⟩:=d;unfold cnd;rw[show f-b=(y-b)+T*(-q) by rw[Int.mul_neg];lia,Int.add_mul_emod_self_left];have n:=Int.emod_add_mul_ediv (y-b) T;have g:0<=(y-b)/T:=Int.ediv_nonneg (by lia) (by lia);have o:=vL (show 0<=T by lia) g;lia
end
theorem max0(t:Int):(if(0:Int)>t then 0 else t)=max t 0:=by
 split<;>lia
end Rm
namespace L2
open PySem PySem.Spec PyProof.Rows
theorem ObjOk.has{P:Program}{w:World}{H:Hp}{h:Heap}{a:Addr}{o:HO}(x:ObjOk P w H h a o):∃b,h.get? a=some b:=by
 cases o with
 | lst xs=>obtain⟨_,_,_,_,e⟩:=x;exact⟨_,e⟩
 | tup xs=>obtain⟨_,_,_,_,e,_⟩:=x;exact⟨_,e⟩
 | dK kvs=>obtain⟨_,_,_,_,o,_,_,e,_⟩:=x;exact⟨_,e⟩
 | dT kvs=>obtain⟨_,_,_,_,o,_,_,e,_⟩:=x;exact⟨_,e⟩
 | set S n=>obtain⟨o,_,_,_,e,_⟩:=x;exact⟨_,e⟩
 | ins C dx fs=>obtain⟨_,_,_,e,_⟩:=x;exact⟨_,e⟩
 | own y=>exact x
 | xd fs=>obtain⟨_,⟨_,_,_,e,_⟩,_⟩:=x;exact⟨_,e⟩
 | rng lo hi=>obtain⟨_,_,_,e⟩:=x;exact⟨_,e⟩
 | frz b u=>obtain⟨e,_⟩:=x;exact⟨_,e⟩
 | tbl ps=>exact⟨_,show h.get? a=some _ from x⟩
 | met f y=>exact⟨_,show h.get? a=some _ from x⟩
 | ext φ=>obtain⟨_,e,_⟩:=x;exact e
def Air(B:Heap)(l:List Env)(a:Addr)(cls:Value)(h:Heap):Prop:=
 B.StaysIn h/\B.get? a=none/\h.FunFrames B l/\
  ((∃a0,h.TracedW B a cls a0)\/∃oe vs a0,h.get? a=some oe/\oe.cls=cls/\oe.data = .fields vs/\vs[1]?=some .none/\vs[0]?=some a0)
section
variable{M:Model}{A:Around}{E:Value->Shared->Prop}{s:Shared}{B:Heap}{env:Env}{outer:List Env}{L a:Addr}{cls:Value}{Q:Unit->Shared->Prop}
theorem yU(b:A.frames=some (env::outer))(i:env.frame=some L)(x:Air B (env::outer) a cls s.heap)
  (h:∀h',Air B outer a cls h'->s.heap.UpToSlots h'->Q () {s with heap:=h'}):wpAny M A (leaving env (.ref a)) Q E s:=by
 obtain⟨j,c,k,⟨a0,t⟩ | ⟨p,q,a0,o,rfl,n,m,l⟩⟩:=x
 ·exact wpAny_leaving_nextW b k i t j c fun h' ⟨d,⟨_,_,e⟩,f,g⟩=>h h' ⟨d,c,e,.inl ⟨a0,f⟩⟩ g
 ·exact wpAny_leaving_firstW (a0:=a0) b k i o j c n m l fun h' ⟨d,⟨_,_,e⟩,f,g⟩=>h h' ⟨d,c,e,.inl ⟨a0,f⟩⟩ g
theorem Ko(b:A.frames=some (env::outer))(f:env.frame=some L)(x:Air B (env::outer) a cls s.heap)
  (j:∀h' a0,Heap.FlyingW B (env::outer) a cls a0 h'->s.heap.UpToSlots h'->Q () {s with heap:=h'}) :
  wpAny M A (noteFrame (.ref a) env) (fun _ c=>wpAny M A (setFlight (.ref a) none) Q E c) E s:=by
 obtain⟨m,g,n,⟨a0,t⟩ | ⟨z,C,a0,l,rfl,k,i,o⟩⟩:=x
 ·exact wpAny_looks_onW b f ⟨m,g,n,t⟩ fun p q r=>wpAny_landsW q fun e d h=>j e a0 d (r.trans h)
 ·unfold noteFrame;simp only[f];refine um (wpAny_field l k i ?_);rw[vd (by decide)];refine wpAny_entryW b n f l m g k (Array.getElem?_eq_some_iff.mp i).1 o fun p ⟨u,v,w,y⟩=>?_
  exact wpAny_landsW ⟨u,g,v,w⟩ fun e d h=>j e a0 d (Heap.UpToSlots.trans y h)
end
noncomputable def CX1(P:Program)(w:World):CXT:=fun outer H s E e s'=>∃a cls H' B,e = .ref a/\s.heap.get? a=none/\s'.os=s.os/\AllBare s'.gens/\
 Un (frs outer) [] H H' s.heap s'.heap/\HOk P w H' s'.heap/\H' a=none/\Air B outer a cls s'.heap/\
 (∀b o,s'.heap.get? b=some o->(H' b≠none\/∃o0,s.heap.get? b=some o0)->b∉frs outer->B.get? b=some o)/\E cls none H'
def XP(X:Cx)(pins:List (Addr×Obj))(σ:St)(E:XK)(e:Value)(s':Shared):Prop:=
 ∃a cls H' B,e = .ref a/\X.s₀.heap.get? a=none/\Inv X pins σ H' s'/\H' a=none/\Air B X.stack a cls s'.heap/\
  (∀b o,s'.heap.get? b=some o->(H' b≠none\/(∃o0,X.s₀.heap.get? b=some o0)\/∃p∈X.pn++pins,p.1=b)->b∉frs X.stack->B.get? b=some o)/\E cls none H'
structure Flat(X:Cx):Prop where
 ex:X.ex=[]
 stk:X.stack=X.env::X.outer
 fr:X.env.frame=some X.env.locals
 calm:X.calm=true
section
variable{X:Cx}{pins:List (Addr×Obj)}{σ:St}{H:Hp}{s s':Shared}{E:XK}{e:Value}
theorem Flat.fs(F:Flat X):frs X.stack=X.env.locals::X.fs:=by
 rw[F.stk];unfold frs;rw[filterMap_cons,F.fr];rfl
theorem XP.of_call(F:Flat X)(I:Inv X pins σ H s)(h:CX1 X.prog X.w X.stack H s E e s'):XP X pins σ E e s':=by
 obtain⟨a,g,k,B,rfl,w,y,c,A,j,n,f,i,t⟩:=h;have r:Inv X pins σ k s':=I.call' (ch:=[]) y A j c (fun b z=>uk z (by simp));have d:∀b o,X.s₀.heap.get? b=some o->∃m,s.heap.get? b=some m:=fun b o e=>I.base.there b o e (by rw[F.ex];simp)
 refine⟨a,g,k,B,rfl,?_,r,n,f,fun b o e q u=>i b o e ?_ u,t⟩
 ·cases q:X.s₀.heap.get? a with
  | none=>rfl
  | some o=>obtain⟨m,l⟩:=d a o q;rw[w]at l;cases l
 ·rcases q with q | ⟨x,q⟩ | ⟨p,v,rfl⟩
  ·exact .inl q
  ·exact .inr (d b x q)
  ·exact .inr ⟨_,(I.pin p v).1⟩
theorem XP.of_made{C:Addr}{y:List Value}{h':Heap}{a:Addr}(F:Flat X)(I:Inv X pins σ H s)(c:Heap.MadeExcOf s.heap h' a (.ref C) y)(r:E (.ref C) none H):XP X pins σ E (.ref a) {s with heap:=h'}:=by
 obtain⟨t,j,z,_⟩:=c.there;have m:Inv X pins σ H {s with heap:=h'}:=I.kept (h':=h') (t':=s.toks) c.keeps;have h:∀b o,X.s₀.heap.get? b=some o->∃f,s.heap.get? b=some f:=fun b o e=>I.base.there b o e (by rw[F.ex];simp)
 have w:H a=none:=by
  cases q:H a with
  | none=>rfl
  | some o=>obtain⟨A,e⟩:=(I.hok a o q).has;rw[c.new]at e;cases e
 have k:∀d∈X.stack,∀b,d.frame=some b->b∈frs X.stack:=fun d j b i=>mem_filterMap.mpr ⟨d,j,i⟩
 refine⟨a,.ref C,H,PySem.W.hideAll s.heap (frs X.stack),rfl,?_,m,w,⟨fun b o e=>c.keeps b o (PySem.W.of_hideAll _ e),?_,?_,.inr ⟨_,_,.ref t,j,rfl,rfl,rfl,rfl⟩⟩,fun b o e q i=>?_,r⟩
 ·cases q:X.s₀.heap.get? a with
  | none=>rfl
  | some o=>obtain⟨f,g⟩:=h a o q;rw[c.new]at g;cases g
 ·cases q:(PySem.W.hideAll s.heap (frs X.stack)).get? a with
  | none=>rfl
  | some o=>have:=PySem.W.of_hideAll _ q;rw[c.new]at this;cases this
 ·exact(PySem.W.funFrames_hide I.stack k).of_keeps fun b o e _=>⟨o,c.keeps b o e,rfl⟩
 ·refine PySem.W.hideAll_get _ ?_ i;have:∃f,s.heap.get? b=some f:=by
   rcases q with q | ⟨x,q⟩ | ⟨p,v,rfl⟩
   ·cases q':H b with
    | none=>exact uk q' q
    | some u=>exact(I.hok b u q').has
   ·exact h b x q
   ·exact⟨_,(I.pin p v).1⟩
  obtain⟨f,g⟩:=this;have n:=c.keeps b f g;have l:h'.get? b=some o:=e;rw[n]at l;cases l;exact g
theorem XP.stays(F:Flat X){H':Hp}{B h':Heap}(I:Inv X pins σ H' s')
  (f:∀b o,s'.heap.get? b=some o->(H' b≠none\/(∃a,X.s₀.heap.get? b=some a)\/∃p∈X.pn++pins,p.1=b)->b∉frs X.stack->B.get? b=some o)
  (st:B.StaysIn h') (m:s'.heap.UpToSlots h') :
  (∀b o,s'.heap.get? b=some o->(H' b≠none\/(∃a,X.s₀.heap.get? b=some a)\/∃p∈X.pn++pins,p.1=b)->b∉frs X.stack->h'.get? b=some o)/\
  (∀b o,s'.heap.get? b=some o->b∈frs X.stack->∃l,h'.get? b=some {o with slots:=l})/\HOk X.prog X.w H' h':=by
 have h:∀b o,s'.heap.get? b=some o->(H' b≠none\/(∃a,X.s₀.heap.get? b=some a)\/∃p∈X.pn++pins,p.1=b)->b∉frs X.stack->h'.get? b=some o:=fun b o e q g=>st b o (f b o e q g)
 refine⟨h,fun b o e g=>?_,fun b u e=>?_⟩
 ·obtain⟨_,n,i,k⟩:=I.stack.mem g;rw[e]at i;cases i;exact m b o e k
 ·have j:∀c v,H' c=some v->c∉frs X.stack:=fun c v q z=>by rw[I.stkFree c z]at q;cases q
  refine(I.hok b u e).stay (fun c v d q=>?_) (fun _ q=>q) fun _ _ q=>q
  rcases d with rfl | d
  ·exact h c v q (.inl (by rw[e];simp)) (j c u e)
  ·exact h c v q (.inl (by rw[d];simp)) (j c _ d)
end
theorem XP.leaves{P:Program}{w:World}{K:Frg}{r:Str->Option Value}{g:Heap}{N:List Str}{i:Str}{d:Scope}{f:Addr}{l:Value}{A:Around}{c:List Env}{s U:Shared}{H:Hp}{E:XK}{σ:St}{e:Value}
  (h:XP (cxOf (CX1 P w) P w K r g N i d f l A c s H E) [] σ E e U):(cxOf (CX1 P w) P w K r g N i d f l A c s H E).xe e U:=by
 obtain⟨a,R,O,B,rfl,na,I,n,Q,C,hE⟩:=h;refine yU (L:=s.heap.objs.size) I.ok.frames rfl Q fun h' k up=>?_
 obtain⟨Y,Z,T⟩:=XP.stays (X:=cxOf (CX1 P w) P w K r g N i d f l A c s H E) ⟨rfl,rfl,rfl,rfl⟩ I C k.1 up;have D:frs (cxOf (CX1 P w) P w K r g N i d f l A c s H E).stack=s.heap.objs.size::frs c:=rfl;have nL:∀b o,s.heap.get? b=some o->b≠s.heap.objs.size:=fun b o e=>vD (vH e)
 have x:∀b o,s.heap.get? b=some o->b∉frs c->b∉frs (cxOf (CX1 P w) P w K r g N i d f l A c s H E).stack:=fun b o e j z=>by
  rw[D]at z;rcases mem_cons.mp z with z | z
  ·exact nL b o e z
  ·exact j z
 have G:∀b:Addr,b∉(cxOf (CX1 P w) P w K r g N i d f l A c s H E).ex:=fun b z=>uk (show b∈([]:List Addr)from z) (by simp)
 have F:∀b,b∈frs c->b∈frs (cxOf (CX1 P w) P w K r g N i d f l A c s H E).stack:=fun b z=>by rw[D];exact vp _ z
 refine⟨a,R,O,B,rfl,na,I.os,I.bare,⟨fun b o e m j _=>?_,fun b o e m j _=>?_,fun b o e m _=>I.base.free b o e m (G b),fun b o e _=>?_,I.base.tups,I.base.frzs,I.base.tbls⟩,T,n,k,fun b o e q j=>?_,hE⟩
 ·exact Y b o (I.base.keep b o e m j (G b)) (.inr (.inl ⟨o,e⟩)) (x b o e j)
 ·obtain⟨sl,v⟩:=I.base.slot b o e m j (G b);obtain⟨J,y⟩:=Z b _ v (F b j);exact⟨J,y⟩
 ·obtain⟨t,v⟩:=I.base.there b o e (G b);by_cases j:b∈frs c
  ·obtain⟨J,y⟩:=Z b _ v (F b j);exact⟨_,y⟩
  ·exact⟨t,Y b t v (.inr (.inl ⟨o,e⟩)) (x b o e j)⟩
 ·have S:∃t,U.heap.get? b=some t/\b∉frs (cxOf (CX1 P w) P w K r g N i d f l A c s H E).stack:=by
   rcases q with q | ⟨M,q⟩
   ·cases q':O b with
    | none=>exact uk q' q
    | some u=>
     obtain⟨ob,z⟩:=(I.hok b u q').has;exact⟨ob,z,fun zz=>by rw[I.stkFree b zz]at q';cases q'⟩
   ·obtain⟨t,v⟩:=I.base.there b M q (G b);exact⟨t,v,x b M q j⟩
  obtain⟨t,v,nf⟩:=S;have q2:O b≠none\/(∃M,s.heap.get? b=some M)\/∃p∈(cxOf (CX1 P w) P w K r g N i d f l A c s H E).pn++[],p.1=b:=by
   rcases q with q | q
   ·exact .inl q
   ·exact .inr (.inl q)
  have y:=C b t v q2 nf;have W:h'.get? b=some o:=e;rw[k.1 b t y]at W;cases W;exact y
noncomputable abbrev XS:=St->XK
noncomputable abbrev TRE:=St->Hp->XK->Prop
noncomputable abbrev TRS:=St->Hp->XS->Prop
def XPS(X:Cx)(pins:List (Addr×Obj))(E:XS)(e:Value)(s':Shared):Prop:=∃σ',XP X pins σ' (E σ') e s'
def RE(X:Cx)(e:Expr)(t:TRE):Prop:=
 ∀(pins:List (Addr×Obj)) (s:Shared) (σ:St) (H:Hp) (E:XK),Inv X pins σ H s->t σ H E->wpAny (model X.prog X.w) X.A (eval e X.env) (fun _ _=>False) (XP X pins σ E) s
def RS(X:Cx)(st:Stmt)(t:TRS):Prop:=
 ∀(pins:List (Addr×Obj)) (s:Shared) (σ:St) (H:Hp) (E:XS),Inv X pins σ H s->t σ H E->wpAny (model X.prog X.w) X.A (exec st X.env) (fun _ _=>False) (XPS X pins E) s
def RSs(X:Cx)(st:List Stmt)(t:TRS):Prop:=
 ∀(pins:List (Addr×Obj)) (s:Shared) (σ:St) (H:Hp) (E:XS),Inv X pins σ H s->t σ H E->wpAny (model X.prog X.w) X.A (execs st X.env) (fun _ _=>False) (XPS X pins E) s
noncomputable def rE(t:TRE):TRS:=fun σ H E=>t σ H (E σ)
noncomputable def rSeq(t1:TS)(t2:TRS):TRS:=fun σ H E=>t1 {nx:=fun σ' H'=>t2 σ' H' E,rt:=fun _ _=>False} σ H
noncomputable def rIf(tc:TT)(ta tb:TRS):TRS:=fun σ H E=>tc σ H fun b H1=>if b=true then ta σ H1 E else tb σ H1 E
noncomputable def rNever:TRS:=fun _ _ _=>False
section
variable{X:Cx}{e a b c:Expr}{t:TRE}{ta tb:TRS}{x:Str}{pos pos':Pos}{st:Stmt}{rest l r:List Stmt}
theorem Xo(c:RE X e t)(hs:swapsWith e (some (.Name x pos')) pos.line X.env=pure false:=by rfl):RS X (.Assign [.Name x pos'] e pos) (rE t):=fun a s b H E I h=>
 wpAny_Assign_Name (wpAny_mono (c a s b H _ I h) (fun _ _ z=>z.elim) fun e d q=>⟨b,q⟩) hs
theorem KW:RSs X l rNever:=fun _ _ _ _ _ _ h=>h.elim
theorem Zk(b:RS X st ta):RSs X (st::rest) ta:=fun a s c H E I h=>
 wpAny_execs_cons (wpAny_mono (b a s c H E I h) (fun _ _ z=>z.elim) fun _ _ q=>q)
theorem Wi{c:TS}(g:PS X.nox st c)(i:RSs X rest tb):RSs X (st::rest) (rSeq c tb):=fun a s k H E I h=>by
 refine wpAny_execs_cons (wpAny_mono (g a s k H _ (I.wish _) h) (fun f j q=>?_) fun _ _ z=>False.elim z);cases f with
 | next=>
  obtain⟨b,d,e,q⟩:=q;exact i a j b d E e.unwish q
 | ret v=>obtain⟨_,_,_,_,_,q⟩:=q;exact q.elim
 | brk=>obtain⟨_,_,_,q⟩:=q;exact q.elim
 | cont=>obtain⟨_,_,_,q⟩:=q;exact q.elim
theorem XJ{j:TT}(n:PT X.nox c j)(k:RSs X l ta)(m:RSs X r tb):RS X (.If c l r pos) (rIf j ta tb):=fun a s b H E I h=>by
 refine wpAny_If (wpAny_mono (n a s b H _ (I.wish _) h) (fun d i ⟨e,f,g⟩=>?_) fun _ _ z=>False.elim z);cases d with
 | true=>exact k a i b e E f.unwish g
 | false=>exact m a i b e E f.unwish g
end
section
variable{X:Cx}{k:Nat}{f C:Addr}{fd:FuncData}{ps:List Str}{sp:Sp}{dvs:List V}{ds:List Value}{E:XK}{x m:Str}{p pos apos:Pos}{e o:Expr}{es:List Expr}{ta:TE}{t:TA}
theorem xi{a:List (Addr×Obj)}{i:St}{H:Hp}{s:Shared}{b:List Value}{vs:List V}(F:FnOk X.prog X.w X.K X.mg X.base (CX1 X.prog X.w) k f fd ps sp)(n:Room k X.A)(j:Binds X.K fd ps ds)(l:Vals dvs ds)(d:Flat X)
  (I:Inv X a i H s) (r:Vals vs b) (h:sp (vs++dvs) H (fun _ _=>False) E):wpAny (model X.prog X.w) X.A (call (.ref f) b) (fun _ _=>False) (XP X a i E) s:=by
 have g:Vals (vs++dvs) (b++ds):=r.append l;have m:(b++ds).length=ps.length:=by rw[<-g.length];exact F.len _ _ _ _ h
 refine wpAny_call (codeAny_mono (F.run X.A X.stack s H ⟨b,[]⟩ (b++ds) (vs++dvs) _ E n I.env0 (j s b I.kIn m) g h) fun r o c=>?_);cases r with
 | error e=>exact XP.of_call d I c
 | ok d=>
  cases d with
  | ret u=>obtain⟨_,_,_,_,_,_,_,q⟩:=c;exact q.elim
  | next=>exact False.elim c
  | brk=>exact False.elim c
  | cont=>exact False.elim c
noncomputable def rCall(sp:Sp)(dvs:List V)(t:TA):TRE:=fun σ H E=>t σ H fun vs H1=>sp (vs++dvs) H1 (fun _ _=>False) E
theorem xh(F:FnOk X.prog X.w X.K X.mg X.base (CX1 X.prog X.w) k f fd ps sp)(v:Room k X.A)(n:Gl X x)(u:X.mg x=some (.ref f))(o:PySem.W.keepIn X.K (.ref f)=true)(j:Binds X.K fd ps ds)(l:Vals dvs ds)(g:Flat X)
  (i:PA X.nox (e::es) t) (b:(x==("__debug__" : Str))=false:=by decide) (m:starEach (e::es) X.env=(false,eval e X.env)::starEach es X.env:=by rfl) (c:(backTo pos (starEach es X.env)).any (·.1)=false:=by rfl) :
  RE X (.Call (.Name x p) (e::es) [] pos) (rCall sp dvs t):=by
 intro a s w H E I h;refine wpAny_Call_Name_kw (QD I n u ?_ b);refine PySem.W.callWith_K (h₀:=X.base) I.ok.mod.kin o (wpAny_mono (i pos a s w H _ (I.wish _) h) (fun B A ⟨C,y,d,r,q⟩=>⟨d.unwish.kIn,?_⟩) fun _ _ z=>False.elim z) m c;exact xi F v j l g d.unwish r q
end
theorem wy{K:Frg}{h:Heap}{C:Addr}{d:List Value}{a:String}(X:K.In h)(q:PySem.W.excIn K C d a=true) :
  ∃bm N nm g bs hdct sn sub ab col dd k0 k1 k2 k3 k5 mN,h.get? C=some (excClassObj nm g C N bs bm hdct sn sub ab col dd k0 k1 k2 k3 k5 a)/\h.Ns N mN/\mN "__init__"= none/\OwnTail h d bm:=by
 unfold PySem.W.excIn at q;split at q
 ·rename_i dd cd sl ho;split at q
  ·rename_i C' bm k0 k1 k2 k3 n k5 hm hs;simp only[Bool.and_eq_true,beq_iff_eq,Bool.not_eq_true']at q;obtain⟨⟨⟨⟨⟨rfl,rfl⟩,b⟩,k⟩,c⟩,e⟩:=q;obtain⟨nm,bs,m,o,g,j,sn,sub,ab,col,i⟩:=cd;dsimp only at hm b c e;subst hm b;have f:sl = #[k0,k1,k2,k3,some (.builtin n),k5]:=by
    obtain⟨l⟩:=sl;simp only at hs;rw[hs]
   subst f;exact⟨bm,o,nm,g,bs,j,sn,sub,ab,col,dd,k0,k1,k2,k3,k5,_,X _ _ ho,.of_isNs (PySem.W.isNs_of_in X c),PySem.W.nsMap_none_of_in X c e,PySem.W.tail_of_in X k⟩
  ·cases q
 ·cases q
noncomputable def rRaise(C:Addr):TRS:=fun σ H E=>E σ (.ref C) none H
theorem Wh{X:Cx}{x:Str}{C:Addr}{u e j:Pos}{b c:String}{d:List Value}(k:ExcBaseFacts "ValueError" b c d)(l:Flat X)(r:Gl X x)(t:X.mg x=some (.ref C))(p:PySem.W.excIn X.K C d b=true)
  (g:(x==("__debug__" : Str))=false:=by decide):RS X (.Raise (some (.Call (.Name x u) [] [] e)) none j) (rRaise C):=by
 intro m s w H E I h;obtain⟨v,N,nm,q,bs,hdct,sn,sub,ab,col,dd,k0,k1,k2,k3,k5,mN,n,o,i,T⟩:=wy I.kIn p;refine wpAny_Raise_call_subT (C:=C) (nm:=nm) (q:=q) (N:=N) (bs:=bs) (bm:=v) (hdct:=hdct) (sn:=sn) (sub:=sub) (ab:=ab) (col:=col) (dd:=dd) (k0:=k0) (k1:=k1) (k2:=k2) (k3:=k3) (k5:=k5)
  k (mN:=mN) (T.hasType k.hasBase) (I.ok.hd l.calm) rfl i (QD I r t ⟨rfl,?_⟩ g)
 exact evalArgs_empty ⟨rfl,vb _,n,o,T,fun y a f=>⟨w,XP.of_made l I f h⟩⟩
section
variable{P:Program}{w:World}{K:Frg}{mg:Str->Option Value}{base:Heap}
theorem xO{k:Nat}{f:Addr}{name c:Str}{d:Arguments}{h:List Stmt}{a:Scope}{O kV l R g M oc:Value}{J od:Option Addr}
  {F:Array (Option Value)} {N ps:List Str} {sp:Sp} (lk:K.lookup f=some ⟨oc,od,.func (PySem.W.fnOf name c d h a O kV l R J g M),F⟩) (B:PySem.W.codeIn K g c=true) (S:FnScope N ps a)
  (u:∀vs H Q E,sp vs H Q E->vs.length=ps.length)
  (i:∀(A:Around) (outer:List Env) (s:Shared) (H:Hp) (vs:List V) (Q:VK) (E:XK),Room k (A.deeper (envOfC c a s.heap.objs.size f g))->sp vs H Q E->
   ∃t,RSs (cxOf (CX1 P w) P w K mg base N c a f g A outer s H E) h t/\t (start N vs) H (fun _=>E)) :
  FnOk P w K mg base (CX1 P w) (k+1) f (PySem.W.fnOf name c d h a O kV l R J g M) ps sp:=by
 refine⟨u,fun A outer s H L us vs Q E C m W r p=>?_⟩;have Y:=u _ _ _ _ p;have G:K.In s.heap:=m.mod.kin.keeps fun b o e=>(m.bs b o e).1
 have D:s.heap.NoLimit:=m.mod.nolimit.keeps fun b o e=>(m.bs b o e).1
 have j:∀y∈ps.zip us,a.names.lookup y.1=some .local\/(a.names.lookup y.1=some .cell/\((cellsFrom (s.heap.objs.size+1) a.names []).lookup y.1).isSome=true):=fun⟨n,v⟩ hy=>by
  rcases S.par n (of_mem_zip hy).1 with q | q
  ·exact .inl q
  ·exact .inr ⟨q,PySem.W.cellsFrom_some _ _ _ (.inl q)⟩
 refine codeAny_call_function C.depth (G _ _ lk) rfl S.co S.gen rfl (PySem.W.codeRec_of G B) (W _ _ _ _ ?_);refine wpAny_newFunctionEnv_cells S.kind j fun U X T x=>?_
 subst X;refine⟨D.keeps x.toInCall.keep,codeAny_func ?_⟩;obtain⟨t,ht,Z⟩:=i A outer s H vs Q E (C.deeper _) p;have I:Inv (cxOf (CX1 P w) P w K mg base N c a f g A outer s H E) [] (start N vs) H T:=ZP S C.hd m Y r x;exact wpAny_mono (ht [] T (start N vs) H _ I Z) (fun _ _ z=>z.elim) fun e s' ⟨a0,q⟩=>XP.leaves q
theorem FunD.okR{x a:Str}{st:Stmt}{T f:Addr}{h:FuncData}{N ps:List Str}{k:Nat}{sp:Sp}(F:FunD K x a st T f h)(S:FnScope N ps (defScope st))(g:∀vs H Q E,sp vs H Q E->vs.length=ps.length)
  (c:∀(b:Value) (A:Around) (outer:List Env) (s:Shared) (H:Hp) (vs:List V) (Q:VK) (E:XK),Room k (A.deeper (envOfC a (defScope st) s.heap.objs.size f b))->sp vs H Q E->
   ∃t,RSs (cxOf (CX1 P w) P w K mg base N a (defScope st) f b A outer s H E) (defBody st) t/\t (start N vs) H (fun _=>E)):FnOk P w K mg base (CX1 P w) (k+1) f h ps sp:=by
 obtain⟨p,q,kV,i,r,n,b,o,m,rfl,l,d⟩:=F.ex;exact xO l d S g fun A outer s H vs Q E j e=>c b A outer s H vs Q E j e
end
noncomputable def xcO(cls:Value)(a:Addr):Heap->Prop:=fun h=>∃o vs,h.get? a=some o/\o.cls=cls/\o.data = .fields vs
noncomputable abbrev XcO(cls:Value)(a:Addr):HO:=.ext (xcO cls a)
section
variable{X:Cx}{pins:List (Addr×Obj)}{σ:St}{H:Hp}{s:Shared}
theorem Inv.landed{H':Hp}{B h':Heap}(F:Flat X)(I:Inv X pins σ H' s)
  (A:∀b o,s.heap.get? b=some o->(H' b≠none\/(∃R,X.s₀.heap.get? b=some R)\/∃p∈X.pn++pins,p.1=b)->b∉frs X.stack->B.get? b=some o)
  (st:B.StaysIn h') (E:s.heap.UpToSlots h'):Inv X pins σ H' {s with heap:=h'}:=by
 obtain⟨D,J,C⟩:=XP.stays F I A st E;have w:∀b o,X.s₀.heap.get? b=some o->b∉X.fs->b∉frs X.stack:=fun b o e f z=>by
  rw[F.fs]at z;rcases mem_cons.mp z with z | z
  ·exact uk (Nat.lt_of_lt_of_le (vH e) I.ok.above) (by rw[z];exact Nat.lt_irrefl _)
  ·exact f z
 have t:∀b,b∈X.fs->b∈frs X.stack:=fun b z=>by rw[F.fs];exact vp _ z
 have a:∀c v,s.heap.IsCell c v->h'.IsCell c v:=fun c v ⟨o,Q,G⟩=>by
  obtain⟨S,e⟩:=E c o Q fun T q=>by rw[G]at q;cases q
  exact⟨_,e,G⟩
 refine⟨I.ok,I.os,I.bare,⟨fun b o e n f j=>?_,fun b o e n f j=>?_,I.base.free,fun b o e j=>?_,I.base.tups,I.base.frzs,I.base.tbls⟩,?_,fun x c e=>?_,I.free,I.freeC,fun p H=>?_,C,I.len⟩
 ·exact D b o (I.base.keep b o e n f j) (.inr (.inl ⟨o,e⟩)) (w b o e f)
 ·obtain⟨S,g⟩:=I.base.slot b o e n f j;obtain⟨y,h⟩:=J b _ g (t b f);exact⟨y,h⟩
 ·obtain⟨M,g⟩:=I.base.there b o e j;by_cases f:b∈X.fs
  ·obtain⟨y,h⟩:=J b _ g (t b f);exact⟨_,h⟩
  ·exact⟨M,D b M g (.inr (.inl ⟨o,e⟩)) (w b o e f)⟩
 ·obtain⟨m,P,O⟩:=I.loc;refine⟨m,E.ns P,fun i x v g h N=>?_⟩;obtain⟨u,r,l⟩:=O i x v g h N;refine⟨u,r,?_⟩;rcases l with l | ⟨k,c,e,z⟩
  ·exact .inl l
  ·exact .inr ⟨k,c,e,a c _ z⟩
 ·obtain⟨v,z⟩:=I.cell x c e;exact⟨v,a c v z⟩
 ·obtain⟨e,n,K,L,d⟩:=I.pin p H;refine⟨D p.1 p.2 e (.inr (.inr ⟨p,H,rfl⟩)) ?_,n,K,L,d⟩;rw[F.fs];intro z;rcases mem_cons.mp z with z | z
  ·exact K z
  ·exact L z
theorem Inv.known{T:Addr}{o:HO}(I:Inv X pins σ H s)(h:H T=none)(hs:X.s₀.heap.get? T=none)(j:T≠X.env.locals)(i:∀x c,X.env.cells.lookup x=some c->c≠T)(k:∀p∈X.pn++pins,p.1≠T)
  (f:ObjOk X.prog X.w (upd H T o) s.heap T o):Inv X pins σ (upd H T o) s:=by
 have d:∀b u,H b=some u->b≠T:=fun b u e z=>by rw[z,h]at e;cases e
 have m:∀b u,X.s₀.heap.get? b=some u->b≠T:=fun b u e z=>by rw[z,hs]at e;cases e
 refine⟨I.ok,I.os,I.bare,⟨I.base.keep,I.base.slot,fun b u e n l=>(jf (m b u e)).trans (I.base.free b u e n l),I.base.there,fun b w e=>?_,fun b u v e=>?_,fun b t e=>?_⟩,I.loc,I.cell,(jf (Ne.symm j)).trans I.free,fun x c e=>(jf (i x c e)).trans (I.freeC x c e),fun p g=>?_,fun b u e=>?_,I.len⟩
 ·have:=I.base.tups b w e;exact(jf (d _ _ this)).trans this
 ·have:=I.base.frzs b u v e;exact(jf (d _ _ this)).trans this
 ·obtain⟨a,this⟩:=I.base.tbls b t e;exact⟨a,(jf (d _ _ this)).trans this⟩
 ·obtain⟨e,n,r⟩:=I.pin p g;exact⟨e,(jf (k p g)).trans n,r⟩
 ·by_cases z:b=T
  ·subst z;rw[jt]at e;cases e;exact f
  ·rw[jf z]at e;exact(I.hok b u e).stay (fun c v _ q=>q) (fun c q=>(jf (d _ _ q)).trans q) fun c y q=>(jf (d _ _ q)).trans q
noncomputable abbrev Cx.inExc(X:Cx)(A:Around):Cx:={X with A:=A,calm:=false,xe:=fun _ _=>False}
theorem Inv.inExc(I:Inv X pins σ H s){A:Around}(a:A.frames=X.A.frames):Inv (X.inExc A) pins σ H s:=
 ⟨⟨I.ok.mod,I.ok.kind,I.ok.glob,I.ok.blt,I.ok.above,I.ok.inj,I.ok.has,I.ok.cab,(fun z=>nomatch z),a.trans I.ok.frames,I.ok.stk,I.ok.exf,I.ok.bs,I.ok.bsz,I.ok.noex,I.ok.exfs,I.ok.funs,I.ok.frf⟩,I.os,I.bare,I.base,I.loc,I.cell,I.free,I.freeC,I.pin,I.hok,I.len⟩
theorem Inv.outExc{A:Around}(I:Inv (X.inExc A) pins σ H s)(a:X.Ok):Inv X pins σ H s:=⟨a,I.os,I.bare,I.base,I.loc,I.cell,I.free,I.freeC,I.pin,I.hok,I.len⟩
theorem KM{M:Model}{A:Around}{E:Value->Shared->Prop}{i:Nat}{n:Str}{D:Pos}{Q:Unit->Shared->Prop}(I:Inv X pins σ H s)(N:X.N.Nodup)(hi:X.N[i]?=some n)(O:X.env.scope.names.lookup n=some .local)
  (h:∀s',Inv X pins (σ.set i none) H s'->Q () s'):wpAny M A (do bindName X.env n .none;unbindBehindTheSuite X.env n D) Q E s:=by
 obtain⟨m,F,B⟩:=id I.loc;refine wpAny_nameGoes_keeps O F (by rw[I.ok.kind];rfl) fun L v C f=>h _ ?_
 obtain⟨oL,_,_,P,_⟩:=id F;have r:i<σ.length:=by rw[I.len];exact(vx.mp hi).1
 have a:HOk X.prog X.w H L:=fun b U e=>by
  refine(I.hok b U e).stay (fun c J l q=>(f.2 c ?_).trans q) (fun _ q=>q) fun _ _ q=>q
  rintro rfl;rcases l with l | l
  ·rw[<-l,I.free]at e;cases e
  ·rw[I.free]at l;cases l
 refine⟨I.ok,I.os,I.bare,⟨fun b o e n w t=>?_,fun b o e n w t=>?_,I.base.free,fun b o e t=>?_,I.base.tups,I.base.frzs,I.base.tbls⟩,⟨_,C,fun j y v' g u K=>?_⟩,fun y c e=>?_,I.free,I.freeC,fun p R=>?_,a,by simpa using I.len⟩
 ·exact(f.2 b (vD (Nat.lt_of_lt_of_le (vH e) I.ok.above))).trans (I.base.keep b o e n w t)
 ·obtain⟨Y,g⟩:=I.base.slot b o e n w t;exact⟨Y,(f.2 b (vD (Nat.lt_of_lt_of_le (vH e) I.ok.above))).trans g⟩
 ·obtain⟨T,g⟩:=I.base.there b o e t;exact⟨T,(f.2 b (vD (Nat.lt_of_lt_of_le (vH e) I.ok.above))).trans g⟩
 ·by_cases x:j=i
  ·subst x;rw[List.getElem?_set_self r]at u;cases u
  ·rw[List.getElem?_set_ne (Ne.symm x)]at u;obtain⟨Z,W,q⟩:=B j y v' g u K;refine⟨Z,W,?_⟩;rcases q with⟨k,e⟩ | ⟨k,c,e,z⟩
   ·refine .inl ⟨k,?_⟩;have:y≠n:=fun e=>x (zc N g (e▸hi))
    simp[this,e]
   ·exact .inr ⟨k,c,e,z.sameBut f (I.cne y c e)⟩
 ·obtain⟨J,z⟩:=I.cell y c e;exact⟨J,z.sameBut f (I.cne y c e)⟩
 ·obtain⟨e,n,G,S,d⟩:=I.pin p R;exact⟨(f.2 p.1 G).trans e,n,G,S,d⟩
end
def tTry(K:Frg)(c:Value)(i:Nat)(tn:TS)(tr:TRS)(ts:TS):TS:=fun D σ H=>
 tn D σ H\/tr σ H fun σ' cls _ H'=>PySem.W.exmOne K cls c=some true/\∀a,H' a=none->
  ts {nx:=fun σ2 H2=>D.nx (σ2.set i none) H2,rt:=D.rt,bk:=fun σ2 H2=>D.bk (σ2.set i none) H2,ct:=fun σ2 H2=>D.ct (σ2.set i none) H2} (σ'.set i (some (.ref a))) (upd H' a (XcO cls a))
theorem Xl{X:Cx}{g t:List Stmt}{b0:Stmt}{x n:Str}{C:Addr}{i:Nat}{np Z a8:Pos}{tn:TS}{tr:TRS}{ts:TS}(O:Flat X)(hN:X.N.Nodup)(hi:X.N[i]?=some n)(hl:X.env.scope.names.lookup n=some .local)
  (hg:Gl X x) (hm:X.mg x=some (.ref C)) (hb:PSs X.nox g tn) (hr:RSs X g tr) (hs:∀A,PSs (X.inExc A) (b0::t) ts) (a4:(x==("__debug__" : Str))=false:=by decide) :
  PS X (.Try g [.ExceptHandler (some (.Name x np)) (some n) (b0::t) Z] [] [] a8) (tTry X.K (.ref C) i tn tr ts):=by
 intro b s σ H D I h;rcases h with h | h
 ·refine wpAny_Try_except (wpAny_mono (hb b s σ H D (I.wish _) h) (fun f s1 q=>?_) fun _ _ z=>False.elim z);have q:=q.unwish;cases f with
  | next=>exact wpAny_execs_nil q
  | ret v=>exact q
  | brk=>exact q
  | cont=>exact q
 ·refine wpAny_Try_except (wpAny_mono (hr b s σ H _ I h) (fun _ _ z=>z.elim) fun e s1 xp=>?_);obtain⟨G,a,R,H',B,rfl,na,I1,nT,Q,M,U,a6⟩:=xp;have J:=Q;rw[O.stk]at J;have T:X.A.frames=some (X.env::X.outer):=by rw[<-O.stk];exact I.ok.frames
  refine Ko T O.fr J fun h5 a0 N a2=>?_
  have I5:Inv X b G H' {s1 with heap:=h5}:=I1.landed O M N.1 a2;have a3:Inv (X.inExc (X.A.mark (some (.ref a)))) b G H' {s1 with heap:=h5}:=I5.inExc rfl;have LT:PySem.W.Looks (model X.prog X.w) h5 (typeOf (.ref a)) R:=by
   obtain⟨ob,a5,hc⟩:=N.there;subst hc;exact(PySem.W.Looks.ld a5).andThen .now
  refine wpAny_handleBy_cons (codeAny_handlers_test (QD (X:=X.inExc (X.A.mark (some (.ref a)))) a3 hg hm ?_ a4)) (by intro q;cases q);refine(PySem.W.exm_one I5.kIn LT U).here (codeAny_handlers_suite_as ?_);refine lands_againW N fun h6 S a9=>?_
  have I6:Inv X b G H' {s1 with heap:=h6}:=I1.landed O M S.1 (a2.trans a9);obtain⟨oe,ws,F,Y,l,_⟩:=S.first
  have I7:Inv X b G (upd H' a (XcO R a)) {s1 with heap:=h6}:=by
   refine I6.known nT na (fun z=>?_) (fun y c e z=>?_) (fun p Z z=>?_) ⟨⟨oe,ws,F,Y,l⟩,⟨oe,F⟩,fun h1 h2 ⟨o,vs,e1,e2,e3⟩ k=>⟨o,vs,k o e1,e2,e3⟩⟩
   ·obtain⟨m,⟨o,es,ep,ho,W,_⟩,_⟩:=I6.loc;have j:h6.get? a=some o:=by rw[z];exact ho
    rw[F]at j;cases j;rw[l]at W;cases W
   ·obtain⟨v,o,ho,W⟩:=I6.cell y c e;have j:h6.get? a=some o:=by rw[<-z];exact ho
    rw[F]at j;cases j;rw[l]at W;cases W
   ·obtain⟨e,nn,ne,nf,_⟩:=I1.pin p Z;have a7:p.1∉frs X.stack:=by
     rw[O.fs];intro zz;rcases mem_cons.mp zz with zz | zz
     ·exact ne zz
     ·exact nf zz
    have:=M p.1 p.2 e (.inr (.inr ⟨p,Z,rfl⟩)) a7;rw[z,Q.2.1]at this;cases this
  refine qK (X:=X) I7 hN hi (.inl hl) (v:=.ref a) rfl (fun s8 I8=>?_) (.inr hl);refine wpAny_mono (hs (X.A.mark (some (.ref a))) b s8 _ _ _ (I8.inExc rfl) (a6 a nT)) (fun f s9 q=>?_) fun _ _ z=>False.elim z
  have E:∀{d:St} {K:Hp},Inv (X.inExc (X.A.mark (some (.ref a)))) b d K s9->(∀P,Inv X b (d.set i none) K P->SP X b D f P)->
    wpAny (model X.prog X.w) X.A (do bindName X.env n .none;unbindBehindTheSuite X.env n Z) (fun _ a1=>SP X b D f a1) X.xe s9:=fun {d K} w k=>KM (w.outExc I.ok) hN hi hl k
  cases f with
  | next=>obtain⟨d,K,w,q⟩:=q;exact E w fun P L=>⟨_,_,L,q⟩
  | brk=>obtain⟨d,K,w,q⟩:=q;exact E w fun P L=>⟨_,_,L,q⟩
  | cont=>obtain⟨d,K,w,q⟩:=q;exact E w fun P L=>⟨_,_,L,q⟩
  | ret u=>obtain⟨v,d,K,w,r,q⟩:=q;exact E w fun P L=>⟨v,_,_,L,r,q⟩
def tTryJ(K:Frg)(c:Value)(i:Nat)(tn:TS)(tr:TRS)(ts:TS):TS:=fun D σ H=>∃Mid:St->Hp->Prop,tTry K c i tn tr ts {nx:=Mid,rt:=D.rt} σ H/\∀σ' H',Mid σ' H'->D.nx σ' H'
theorem xb{X:Cx}{a b:List Stmt}{l:Stmt}{x n:Str}{C:Addr}{i:Nat}{J F g:Pos}{m:TS}{o:TRS}{p:TS}(u:Flat X)(w:X.N.Nodup)(hi:X.N[i]?=some n)(B:X.env.scope.names.lookup n=some .local)
  (z:Gl X x) (E:X.mg x=some (.ref C)) (y:PSs X.nox a m) (G:RSs X a o) (hs:∀A,PSs (X.inExc A) (l::b) p) (e:(x==("__debug__" : Str))=false:=by decide) :
  PS X (.Try a [.ExceptHandler (some (.Name x J)) (some n) (l::b) F] [] [] g) (tTryJ X.K (.ref C) i m o p):=by
 intro c s K H D I ⟨t,h,k⟩;refine thn (Xl u w hi B z E y G hs e c s K H _ I h) fun f L q=>?_
 cases f with
 | next=>obtain⟨d,j,r,q⟩:=q;exact⟨d,j,r,k d j q⟩
 | ret v=>exact q
 | brk=>obtain⟨_,_,_,q⟩:=q;exact q.elim
 | cont=>obtain⟨_,_,_,q⟩:=q;exact q.elim
open PySem PySem.Spec PyProof.Rows PySem.W
structure ExcI(K:Frag)(C:Addr):Prop where
 ga:findIn K (.ref C) "__getattribute__"= some (some (.builtin "BaseException.__getattribute__"))
 nh:findIn K (.ref C) "__getattr__"= some none
 cls:findIn K (.ref C) "__class__"= some (some (.builtin "object.__class__"))
 base:subIn K (.ref C) (.type "BaseException")=some true
 obj:subIn K (.ref C) (.type "object")=some true
 is:isClsIn K C=true
section
variable{prog:Program}{w:World}{A:Around}{E:Value->Shared->Prop}{K:Frag}{C a:Addr}
theorem YJ{M:Model}{h:Heap}{cls:Value}(p:xcO cls a h):Looks M h (typeOf (.ref a)) cls:=by
 obtain⟨o,d,b,c,_⟩:=p;exact c▸(Looks.ld b).andThen .now
theorem Xy{R:Result->Shared->Prop}{h:Heap}{g:Array GenState}{d:Drawn}{t:Nat}{c:OsState}(Z:ExcI K C)(X:K.In h)(p:xcO (.ref C) a h)(i:R (.ok (.ret (.ref C))) ⟨h,g,d,t,c⟩) :
  codeAny (model prog w) A (.call (.builtin "getset_descriptor.__get__") ⟨[.builtin "object.__class__",.ref a,.ref C],[]⟩) R ⟨h,g,d,t,c⟩:=by
 have e:Looks (model prog w) h (typeOf (.ref a)) (.ref C):=YJ p;have b:(⟨h,g,d,t,c⟩:Shared).TypeIs (.builtin "object.__class__") "getset_descriptor":=F.typeOf_object_class;have f:Looks (model prog w) h (isSubtype (.ref C) (.type (".".intercalate ("object.__class__".cutAt '.').dropLast))) true:=by rw[F.owner_object_class];exact looks_subIn X Z.obj
 refine codeAny_call_builtin F.slot_gs_get.plain F.entry_gs_get (F.slot_gs_get.check _ _ _ _ _ _ _ _ b (F.args_gs_get _ _ _) ?_)
 repeat (any_goals (first | assumption | with_reducible refine Looks.at e ?_ | with_reducible refine Looks.at f ?_ | wp_step))
 refine⟨Code.quiet_builtin _ (by decide +kernel),codeAny_builtin F.entry_object_class ?_⟩
 repeat (any_goals (first | assumption | with_reducible refine Looks.at e ?_ | wp_step))
theorem WF{i:Tok}{Q:Fin->Shared->Prop}{h:Heap}{g:Array GenState}{d:Drawn}{t:Nat}{b:OsState}(Z:ExcI K C)(X:K.In h)(p:xcO (.ref C) a h)(m:Q (.done (.ret (.ref C))) ⟨h,g,d,t,b⟩) :
  wpAny (model prog w) A (Builtin.«object.__getattribute__» ⟨[.ref a,.str "__class__" i],[]⟩) Q E ⟨h,g,d,t,b⟩:=by
 have c:Looks (model prog w) h (typeOf (.ref a)) (.ref C):=YJ p;have e:=looks_findIn (M:=model prog w) X Z.cls;have f:(⟨h,g,d,t,b⟩:Shared).TypeIs (.builtin "object.__class__") "getset_descriptor":=F.typeOf_object_class;have j:=F.typeOf_object_class;have k:=F.slot_gs_get.lookup;have l:=F.slot_gs_set.lookup
 repeat (any_goals (first | assumption | with_reducible refine Looks.at c ?_ | with_reducible refine Looks.at e ?_ | wp_step))
 refine Xy Z X p ?_
 repeat (any_goals (first | assumption | wp_step))
theorem WD{M:Model}{b:Value}{Q:Unit->Shared->Prop}{h:Heap}{g:Array GenState}{d:Drawn}{t:Nat}{e:OsState}(Z:ExcI K C)(X:K.In h)(p:xcO (.ref C) a h)(k:Q () ⟨h,g,d,t,e⟩) :
  wpAny M A (checkBuiltinCall "BaseException.__getattribute__" ⟨[.ref a,b],[]⟩) Q E ⟨h,g,d,t,e⟩:=by
 have j:builtinKind "BaseException.__getattribute__"= some .slot:=by decide +kernel
 have c:splitId "BaseException.__getattribute__"= some ("BaseException","__getattribute__"):=by decide +kernel
 have f:Looks M h (typeOf (.ref a)) (.ref C):=YJ p;have i:Looks M h (isSubtype (.ref C) (.type "BaseException")) true:=looks_subIn X Z.base;have l:=F.args_bexc_ga (.ref a) b;simp only[checkBuiltinCall,j,c];refine um ?_;unfold isInstance
 repeat (first | with_reducible refine Looks.at f ?_ | with_reducible refine Looks.at i ?_ | wp_step)
 exact k
theorem WE{Q:Option Value->Shared->Prop}{s:Shared}(Z:ExcI K C)(X:K.In s.heap)(p:xcO (.ref C) a s.heap)(q:Q (some (.ref C)) {s with toks:=s.toks+1}) :
  wpAny (model prog w) A (getAttr? (.ref a) "__class__") Q E s:=by
 obtain⟨h,g,d,t,i⟩:=s;have c:Looks (model prog w) h (typeOf (.ref a)) (.ref C):=YJ p;have e:=looks_findIn (M:=model prog w) X Z.ga;have L2:=looks_findIn (M:=model prog w) X Z.nh;have f:=F.attr_ValueError.ga.bind (.ref a);have b:(Value.builtin "BaseException.__getattribute__"== Value.builtin "object.__getattribute__")=false:=by decide +kernel
 unfold getAttr? getAttrBy? getAttrBy;refine um (wpAny_mkText (um (wpAny_attempt (wpAny_holding (um (c.at (um (e.at ?_))))))));dsimp only;rw[show(onTheHeap (Value.ref C)&&Value.builtin "BaseException.__getattribute__"== Value.builtin "object.__getattribute__")=false from by rw[b];rfl];simp only[Bool.false_eq_true,if_false];unfold getAttrByItsOwn hookBefore;rw[show onTheHeap (Value.ref C)=true from rfl];simp only[if_true];refine um (L2.at ?_);refine um (wpAny_attempt (wpAny_holding ?_));unfold callGetattribute;simp only[Bool.false_and,Bool.false_eq_true,if_false];unfold boundAndCalled
 repeat (any_goals (first | assumption | wp_step))
 refine codeAny_call_builtin F.attr_ValueError.ga.plain F.entry_bexc_ga (WD Z X p (WF Z X p ?_))
 repeat (any_goals (first | assumption | wp_step))
theorem Yb(Z:ExcI K C):KitX K (.ref a) (.ref C) (xcO (.ref C) a) where
 ty:=fun _ _ _ p=>YJ p
 it:=fun _ _ X _=>by
  have b:(clsIn K C).isSome=true:=Z.is;unfold clsIn at b;split at b
  ·rename_i c' d' cd' sl' ho;intro g j i m k q;unfold isType loadHead;exact um (wpAny_loadPart (k _ _ (X _ _ ho)) (ul q))
  ·cases b
 ne:=fun h f l d n o X c=>by
  have b:(clsIn K C).isSome=true:=Z.is;refine Bool.eq_false_iff.mpr fun q=>?_
  have e:C=f:=Value.ref.inj (beq_iff_eq.mp q);subst e;unfold clsIn at b;split at b
  ·rename_i c' d' cd' sl' ho;have z:=(X _ _ ho).symm.trans c;cases z
  ·cases b
 ca:=fun X p k=>WE Z X p k
end
section
variable{X:Cx}
def rIsiE(K:Frag)(xs:List V)(H:Hp)(Q:VK):Prop:=∃a C d u b,xs=[.ref a,d]/\H a=some (XcO (.ref C) a)/\ExcI K C/\RelV d u/\kitOne K (.ref C) u=some b/\Q (.bl b) H
theorem ZH:CallR X (.builtin "isinstance") (rIsiE X.K):=by
 intro l s B H A x Q I r h;obtain⟨a,C,d,u,b,rfl,n,Z,g,e,q⟩:=h;obtain⟨v,c,rfl,o,f⟩:=vals2 r;cases(show v=Value.ref a from o);obtain⟨p,_,_⟩:=(show ObjOk X.prog X.w H s.heap a (XcO (.ref C) a)from I.hok a _ n)
 have m:kitOne X.K (.ref C) c=some b:=by
  cases d with
  | ref D=>cases(show c=Value.ref D from f);cases(show u=Value.ref D from g);exact e
  | ty T=>cases(show c=Value.type T from f);cases(show u=Value.type T from g);exact e
  | non=>cases(show u=Value.none from g);cases(show c=Value.none from f);exact e
  | bl y=>cases(show u=Value.bool y from g);cases(show c=Value.bool y from f);exact e
  | int i=>obtain⟨t,z⟩:=(show∃t,u=Value.int i t from g);obtain⟨k,j⟩:=(show∃t,c=Value.int i t from f);subst z j;unfold kitOne at e|-;rw[vd (by intro h;cases beq_iff_eq.mp h)]at e|-;exact e
  | str i=>obtain⟨t,z⟩:=(show∃t,u=Value.str i t from g);obtain⟨k,j⟩:=(show∃t,c=Value.str i t from f);subst z j;unfold kitOne at e|-;rw[vd (by intro h;cases beq_iff_eq.mp h)]at e|-;exact e
  | byt i=>obtain⟨t,z⟩:=(show∃t,u=Value.bytes i t from g);obtain⟨k,j⟩:=(show∃t,c=Value.bytes i t from f);subst z j;unfold kitOne at e|-;rw[vd (by intro h;cases beq_iff_eq.mp h)]at e|-;exact e
  | flt i=>obtain⟨t,z⟩:=(show∃t,u=Value.float i t from g);obtain⟨k,j⟩:=(show∃t,c=Value.float i t from f);subst z j;unfold kitOne at e|-;rw[vd (by intro h;cases beq_iff_eq.mp h)]at e|-;exact e
 exact kia_one (Yb Z) I.kIn p m (fun z=>nomatch z) fun w=>⟨.bl b,H,I.tok _,rfl,q⟩
theorem Ki{a C:Addr}{d:V}{u:Value}{b:Bool}{K:Frag}{H:Hp}{Q:VK}(c:H a=some (XcO (.ref C) a))(Z:ExcI K C)(e:kitOne K (.ref C) u=some b)(q:Q (.bl b) H)(f:RelV d u:=by rfl):rIsiE K [.ref a,d] H Q:=⟨a,C,d,u,b,rfl,c,Z,f,e,q⟩
def rIsiT(K:Frag)(xs:List V)(H:Hp)(Q:VK):Prop:=∃(a C tp:Addr) (cs:List Addr) (b:Bool),xs=[.ref a,.ref tp]/\H a=some (XcO (.ref C) a)/\ExcI K C/\H tp=some (.tup (cs.map V.ref))/\kitAny K (.ref C) (cs.map Value.ref)=some b/\Q (.bl b) H
theorem Zr:∀{a:List Addr} {b:List Value},Vals (a.map V.ref) b->b=a.map Value.ref
 | [],_,.nil=>rfl
 | _::_,_,.cons r t=>by rw[Zr t];cases r;rfl
theorem Ku:CallR X (.builtin "isinstance") (rIsiT X.K):=by
 intro g s K H J G Q I r h;obtain⟨a,C,c,i,b,rfl,k,Z,m,e,q⟩:=h;obtain⟨v,B,rfl,A,x⟩:=vals2 r;cases(show v=Value.ref a from A);cases(show B=Value.ref c from x);obtain⟨p,_,_⟩:=(show ObjOk X.prog X.w H s.heap a (XcO (.ref C) a)from I.hok a _ k)
 obtain⟨_,t,y,⟨o,j,d,n,f⟩⟩:=(show ObjOk X.prog X.w H s.heap c (.tup (i.map V.ref))from I.hok c _ m)
 have l:=Zr y;subst l;obtain⟨D,E,u,w⟩:=o;dsimp only at d f;subst d f;exact kia_tup (Yb Z) I.kIn p j e (fun z=>nomatch z) fun F=>⟨.bl b,H,I.tok _,rfl,q⟩
theorem Zt:bootBuiltins "ValueError"= some (.type "ValueError"):=by decide +kernel
theorem KU{t:TRS}{a σ':St}{H:Hp}{E:XS}(e:a=σ')(h:t σ' H E):t a H E:=by subst e;exact h
theorem xc{a:TS}{b:TRS}{c:St}{H:Hp}{E:XS}(h:a {nx:=fun σ' H'=>b σ' H' E,rt:=fun _ _=>False} c H):rSeq a b c H E:=h
theorem Xn{e:TT}{c d:TRS}{a:St}{H:Hp}{E:XS}(h:e a H fun b H1=>if b=true then c a H1 E else d a H1 E):rIf e c d a H E:=h
theorem XH{t:TRE}{a:St}{H:Hp}{E:XS}(h:t a H (E a)):rE t a H E:=h
theorem Wg{sp:Sp}{a:List V}{t:TA}{b:St}{H:Hp}{E:XK}(h:t b H fun vs H1=>sp (vs++a) H1 (fun _ _=>False) E):rCall sp a t b H E:=h
theorem xf{K:Frag}{c:Value}{i:Nat}{a:TS}{d:TRS}{e:TS}{D:Ends}{b:St}{H:Hp}(h:a D b H):tTry K c i a d e D b H:=.inl h
theorem xg{K:Frag}{c:Value}{i:Nat}{g:TS}{d:TRS}{e:TS}{D:Ends}{f:St}{H:Hp} (h:d f H fun σ' cls _ H'=>exmOne K cls c=some true/\∀a,H' a=none->
  e {nx:=fun b H2=>D.nx (b.set i none) H2,rt:=D.rt,bk:=fun b H2=>D.bk (b.set i none) H2,ct:=fun b H2=>D.ct (b.set i none) H2} (σ'.set i (some (.ref a))) (upd H' a (XcO cls a))):tTry K c i g d e D f H:=.inr h
end
section
variable{X:Cx}{e:PySem.Expr}{es:List PySem.Expr}{te:TE}{t:TRE}{f:Addr}{x:Str}{p pos:Pos}
end
end L2
namespace Ct
def Cnd(s a w o y:Int):Prop:=s ∣ y-a/\w ∣ y-o
inductive DueR(s a w o b:Int)(v:L2.V):Prop
 | no (_:v = .non) (_:∀y,¬Cnd s a w o y):DueR s a w o b v
 | yes (y:Int) (_:v = .int y) (_:b<=y) (_:y<=10^100) (_:Cnd s a w o y) (_:∀y',b<=y'->Cnd s a w o y'->y<=y'):DueR s a w o b v
section
variable{s w g f a o b:Int}
theorem GB.turn(G:GB s w g f):∃c,GB w s g c:=by
 obtain⟨d,a,b,t,e⟩:=G;exact⟨-t,d,b,a,-f,by rw[Int.mul_neg,Int.mul_neg];lia⟩
theorem GB.one(G:GB s w g f):∃d,GB (w/g) (s/g) 1 d:=by
 obtain⟨h,⟨p,b⟩,⟨q,c⟩,t,e⟩:=G;have a:g≠0:=by lia
 rw[show w/g=q by rw[c,Int.mul_ediv_cancel_left _ a],show s/g=p by rw[b,Int.mul_ediv_cancel_left _ a]];refine⟨-t,va _,Int.one_dvd _,Int.one_dvd _,-f,?_⟩;have:g*(q * -t)=g*(1+p * -f):=by
  rw[Int.mul_add,<-Int.mul_assoc,<-Int.mul_assoc,<-b,<-c,Int.mul_neg,Int.mul_neg];lia
 exact Int.eq_of_mul_eq_mul_left a this
theorem xL(G:GB s w g f)(h:(a-o)%g≠0)(y:Int):¬Cnd s a w o y:=by
 rintro⟨⟨p,b⟩,q,c⟩;exact h (Int.emod_eq_zero_of_dvd (G.rep.mp ⟨-p,q,by rw[Int.mul_neg];lia⟩))
theorem WO(E:1<=s)(F:1<=w)(G:GB s w g f)(h:(a-o)%g=0){i:Int}(hi:s/g ∣ w/g*i-1) :
  Cnd s a w o (o+w*((a-o)/g*i%(s/g))):=by
 obtain⟨C,⟨p,r⟩,⟨q,u⟩,t,e⟩:=id G;have b:g≠0:=by lia
 have B:w/g=q:=by rw[u,Int.mul_ediv_cancel_left _ b]
 have j:s/g=p:=by rw[r,Int.mul_ediv_cancel_left _ b]
 rw[B,j]at hi;rw[j];obtain⟨d,n⟩:g ∣ a-o:=Int.dvd_of_emod_eq_zero h;rw[show(a-o)/g=d by rw[n,Int.mul_ediv_cancel_left _ b]];have m:=Int.emod_add_mul_ediv (d*i) p;generalize d*i%p=l at m|-;generalize d*i/p=c at m;obtain⟨k,D⟩:=hi;refine⟨⟨d*k-q*c,?_⟩,⟨l,by lia⟩⟩;have v:o+w*l-a=g*(q*l-d):=by
  rw[Int.mul_sub,<-Int.mul_assoc,<-u,<-n];lia
 have x:q*l-d=p*(d*k-q*c):=by
  have y:l=d*i-p*c:=by lia
  have z:q*i=1+p*k:=by lia
  have A:q*l=d*(q*i)-p*(q*c):=by
   rw[y,Int.mul_sub,Int.mul_left_comm q d i,Int.mul_left_comm q p c]
  rw[A,z,Int.mul_add,Int.mul_one,Int.mul_sub,Int.mul_left_comm d p k];lia
 rw[v,x,r,Int.mul_assoc]
theorem xM(D:1<=s)(F:1<=w)(W:s<=10^20)(H:w<=10^20)(I:0<=b)(J:b<=10^41)(G:GB s w g f){y:Int}(h:Cnd s a w o y) :
  DueR s a w o b (.int (b+(y-b)%(s/g*w))):=by
 obtain⟨N,t⟩:=G.turn;have E:=qJ D t;have O:=G.1;have u:1<=s/g*w:=by
  have:=Int.mul_le_mul E F (by decide) (by lia);lia
 have L2:s/g*w<=10^40:=by
  have P:s/g<=s:=Int.ediv_le_self g (by lia);have:=Int.mul_le_mul (show s/g<=10^20 by lia) H (by lia) (by decide);exact Int.le_trans this (by decide)
 have j:∀m,s/g*w ∣ m↔s ∣ m/\w ∣ m:=fun m=>by
  rw[Int.mul_comm,yq t,and_comm]
 generalize s/g*w=L at u L2 j|-;have S:=vf (y-b) (show L≠0 by lia);have T:=vg (y-b) (show 0<L by lia);have U:=Int.emod_add_mul_ediv (y-b) L;have C:∀{z r},Cnd s a w o z->L ∣ r-z->Cnd s a w o r:=fun {z r} h d=>by
  obtain⟨⟨p,A⟩,q,B⟩:=h;obtain⟨⟨l,e⟩,n,i⟩:=(j _).mp d;exact⟨⟨p+l,by rw[Int.mul_add];lia⟩,q+n,by rw[Int.mul_add];lia⟩
 refine .yes _ rfl (by lia) (by lia) (C h ⟨-((y-b)/L),by rw[Int.mul_neg];lia⟩) fun c Q x=>?_
 have d:L ∣ c-y:=(j _).mpr (by
  obtain⟨⟨p,A⟩,q,B⟩:=h;obtain⟨⟨l,e⟩,n,i⟩:=x;exact⟨⟨l-p,by rw[Int.mul_sub];lia⟩,n-q,by rw[Int.mul_sub];lia⟩)
 obtain⟨k,R⟩:=d;rw[show y-b=(c-b)+L*(-k) by rw[Int.mul_neg];lia,Int.add_mul_emod_self_left];have K:=Int.emod_add_mul_ediv (c-b) L;have v:0<=(c-b)/L:=Int.ediv_nonneg (by lia) (by lia);have M:=vL (show 0<=L by lia) v;lia
end
structure Iv(r s a b x y:Int):Prop where
 h:Ce r s a b x y\/(r=0/\a=0/\b=s/\x=1/\y=0)\/(r=0/\a=s/\b=0/\x=0/\y=1)
theorem Iv.start{r s:Int}(b:0<=r)(a:1<=s):Iv r s r s 1 0:=by
 by_cases c:r=0
 ·exact⟨.inr (.inl ⟨c,c,rfl,rfl,rfl⟩)⟩
 ·exact⟨.inl (Ce.start (by lia) a)⟩
theorem Iv.bnd{r s a b x y:Int}(C:Iv r s a b x y)(d:1<=s)(c:r<s):0<=a/\a<=s/\0<=b/\b<=s/\-s<=x/\x<=s/\-s<=y/\y<=s:=by
 rcases C.h with h | ⟨_,rfl,rfl,rfl,rfl⟩ | ⟨_,rfl,rfl,rfl,rfl⟩
 ·have:=h.a1;have:=h.ar;exact⟨by lia,by lia,h.b0,h.bs,h.x1,h.x2,h.y1,h.y2⟩
 ·lia
 ·lia
theorem Iv.step{r s a b x y:Int}(C:Iv r s a b x y)(d:1<=b):Iv r s b (a-a/b*b) y (x-a/b*y):=by
 rcases C.h with h | ⟨c,rfl,rfl,rfl,rfl⟩ | ⟨_,_,e,_⟩
 ·exact⟨.inl (h.step d)⟩
 ·exact⟨.inr (.inr ⟨c,rfl,by simp,rfl,by simp⟩)⟩
 ·lia
theorem Iv.done{r s a x y f:Int}(C:Iv r s a 0 x y)(m:1<=s)(G:GB r s 1 f):s ∣ r*x-1:=by
 obtain⟨_,_,_,t,e⟩:=G;rcases C.h with h | ⟨_,_,e,_⟩ | ⟨g,rfl,_,rfl,rfl⟩
 ·obtain⟨b,c⟩:=h.dv a (Int.dvd_refl a) (Int.dvd_zero a);obtain⟨p,i⟩:=b;obtain⟨q,j⟩:=c;have k:a=1:=by
   have d:a ∣ 1:=⟨p*f-q*t,by
    rw[Int.mul_sub,<-Int.mul_assoc,<-Int.mul_assoc,<-i,<-j];lia⟩
   exact Int.eq_one_of_dvd_one (by have:=h.a1;lia) d
  obtain⟨u,l⟩:=h.rx;exact⟨u,by lia⟩
 ·lia
 ·refine⟨t,?_⟩;rw[g,Int.zero_mul]at e;rw[Int.mul_zero];lia
theorem WP{s o r x:Int}(f:1<=s)(e:r=o%s)(h:s ∣ r*x-1):s ∣ o*(x%s)-1:=by
 have a:=Int.emod_add_mul_ediv o s;have b:=Int.emod_add_mul_ediv x s;obtain⟨k,d⟩:=h;generalize o/s=p at a;generalize x/s=q at b;rw[<-e]at a;generalize x%s=z at b|-;have c:o*z=r*x+s*(p*z-r*q):=by
  rw[<-a,<-b,Int.add_mul,Int.mul_add,Int.mul_sub,Int.mul_left_comm r s q,Int.mul_assoc s p z];lia
 exact⟨k+(p*z-r*q),by rw[Int.mul_add];lia⟩
end Ct
namespace Rm
open PySem PySem.Spec PyProof.Rows L2
theorem _root_.L2.rd_par{i j:Nat}{b:TA}{D:Ends}{a:L2.St}{H:Hp}(h:b a H fun vs H1=>∃v w,vs=[v,w]/\D.nx ((a.set i (some v)).set j (some w)) H1):tPar i j b D a H:=h
def Z3:Sp:=fun vs H Q _=>∃r s:Int,vs=[.int r,.int s]/\1<=r/\r<=10^200/\1<=s/\s<=10^100/\∀g f:Int,Ct.GB r s g f->Q (.int g) H
def zH:Sp:=fun vs H Q _=>∃o s f:Int,vs=[.int o,.int s]/\0<=o/\o<=10^100/\1<=s/\s<=10^100/\Ct.GB o s 1 f/\∀(x:Int) (H':Hp),Same H H'->0<=x->x<s->s ∣ o*x-1->Q (.int x) H'
def Kl:Sp:=fun vs H Q _=>∃a s o w b:Int,vs=[.int a,.int s,.int o,.int w,.int b]/\0<=a/\a<=1/\1<=s/\s<=10^20/\0<=o/\o<=1/\1<=w/\w<=10^20/\0<=b/\b<=10^41/\∀(v:V) (H':Hp),Same H H'->Ct.DueR s a w o b v->Q v H'
noncomputable def nmY:List Str:=["rung","wait","gong","both","play"]
noncomputable def rwY(m:Bool):List Nat:=if m then[2,0,1,2]else[0,1]
noncomputable def mrY(m:Bool):Int:=if m then 1 else 0
noncomputable def fsY(k b:Int)(m:Bool):List Fn:=[.ring "bell" b,.hold b,.ring "gong" 1,.row (rwY m),.again k 3]
noncomputable def szY(b:Int)(m:Bool):Int:=2*b+2*mrY m
noncomputable def gsY(k b:Int)(m:Bool):List Int:=[b,b,1,szY b m,k*szY b m]
noncomputable def MY:List (List Int):=[[],[],[],[],[]]
noncomputable def wdY(x:Str):Int:=if("bell" : Str)=x then 1 else 0
noncomputable def WY(x:Str)(k:Int):List Int:=[wdY x,0,0,wdY x,k*wdY x]
noncomputable def nmZ:List Str:=["one","two","up","on","left","right","both","play"]
noncomputable def fsZ(k b:Int):List Fn:=[.ring "bell" b,.ring "bell" 1,.rise "arm" 5 2,.rise "head" 7 3,.row [0,2],.row [1,3],.side [4,5],.again k 6]
noncomputable def szZ(b:Int):Int:=max 4 (b+2)
noncomputable def gsZ(k b:Int):List Int:=[b,1,2,3,b+2,4,szZ b,k*szZ b]
noncomputable def MZ:List (List Int):=[[],[],[0],[1],[0],[1],[0,1],[0,1]]
noncomputable def WZ(k:Int):List Int:=[1,1,0,0,1,1,2,k*2]
noncomputable def mbY(k b:Int)(m:Bool)(x:Str):Mb:=⟨[("arm",1)],drawnPs nmY (fsY k b m),gsY k b m,MY,x,WY x k⟩
noncomputable def mbZ(k b:Int):Mb:=⟨[("arm",1),("head",2)],drawnPs nmZ (fsZ k b),gsZ k b,MZ,"bell",WZ k⟩
inductive sp_bookY(vs:List V)(H:Hp)(Q:VK)(xk:XK):Prop
 | mk (k b:Int) (m:Bool) (_:vs=[.int k,.int b,.bl m]) (_:∀(r:Addr) (H':Hp),Same H H'->(∀x,BkA H' r (mbY k b m x))->Q (.ref r) H'):sp_bookY vs H Q xk
inductive sp_doubledY(vs:List V)(H:Hp)(Q:VK)(xk:XK):Prop
 | mk (k b:Int) (_:vs=[.int k,.int b]) (_:∀(r:Addr) (H':Hp),Same H H'->BkA H' r (mbZ k b)->Q (.ref r) H'):sp_doubledY vs H Q xk
structure MbS(d:Mb):Prop where
 sn:Sn d.ls d.ps d.gs d.hs
 w:WPre d.ps d.gs d.x d.W d.ps.length
 x1:Ws.isW d.x=true
 x2:∀p∈d.ps,FmWs p.2
structure MbC(d:Mb)(c s n:Int):Prop where
 ms:MbS d
 wn:d.W.getD d.n 0=n
 ok:n<=12->MbOk d
 r:0<n->∀y,d.R y↔s ∣ y-c
 no:n=0->∀y,¬d.R y
section
variable{ls:List (Str×Int)}{names:List Str}{fs:List Fn}{gs W:List Int}{M:List (List Int)}{L:List Str}{x:Str}{k b:Int}{m:Bool}
theorem Yr(c:fs.length<=names.length)(d:names.Nodup){i:Nat}{f:Fn}(a:fs[i]?=some f)(b:∀j∈f.js,j<fs.length):pcB (drawnPs names fs) gs i=pcsI gs (toldF names f) f.js:=by
 unfold pcB;rw[y4 a];show pcsI gs (toldF names f) (inP _ (toldF names f))=_;rw[Q5 c d b]
theorem za{t:Int}{q:Pc}{y:Nat×Int}:y∈bgs gs t [q]↔∃u:Nat,u<q.2.1.toNat/\y=(q.1,t+q.2.2+(u:Int)*gs.getD q.1 0):=by
 unfold bgs;rw[flatMap_cons,flatMap_nil,append_nil,vJ];exact⟨fun⟨u,a,b⟩=>⟨u,vZ.mp a,b.symm⟩,fun⟨u,a,b⟩=>⟨u,vZ.mpr a,b.symm⟩⟩
theorem yT{ps:List (Str×Fm)}(i:WfB ls ps){n j:Nat}{nm:Str}(e:pcB ps gs n=pcsI gs (.again k nm) [j])(k1:1<=k)(g:0<W.getD j 0)(y:Int) :
  y∈RB ps gs W n 0↔∃u:Int,0<=u/\u<k/\y∈RB ps gs W j (u*gs.getD j 0):=by
 have f:rq W (pcB ps gs n)=(j,1,0)::(if 1<k then[(j,k-1,gs.getD j 0)]else[]):=by
  rw[e];show rq W ((j,1,0)::(if 1<k then[(j,k-1,gs.getD j 0)]else[]))=_;unfold rq;rw[filter_cons,ve (vF g)];congr 1;split
  ·rw[filter_cons,ve (vF g)];rfl
  ·rfl
 rw[QY i (by rw[f];exact fun z=>nomatch z),f,mem_flatMap];have l:∀(q:Pc) (r:List Pc),bgs gs 0 (q::r)=bgs gs 0 [q]++bgs gs 0 r:=fun q r=>by unfold bgs;rw[flatMap_cons,flatMap_cons,flatMap_nil,append_nil]
 rw[l];constructor
 ·rintro⟨z,m,b⟩;rcases vi.mp m with h | h
  ·obtain⟨u,d,rfl⟩:=za.mp h;have d:u<(1:Int).toNat:=d;have:u=0:=by have:(1:Int).toNat=1:=rfl;lia
   subst this;refine⟨0,va _,by lia,?_⟩;have a:(0:Int)+0+((0:Nat):Int)*gs.getD j 0=0*gs.getD j 0:=by simp
   rw[<-a];exact b
  ·split at h
   ·obtain⟨u,d,rfl⟩:=za.mp h;have d:u<(k-1).toNat:=d;refine⟨u+1,by lia,by lia,?_⟩;have a:(0:Int)+gs.getD j 0+(u:Int)*gs.getD j 0=((u:Int)+1)*gs.getD j 0:=by rw[Int.add_mul];lia
    rw[<-a];exact b
   ·exact nomatch h
 ·rintro⟨u,o,p,b⟩;by_cases c:u=0
  ·subst c;refine⟨(j,0+0+((0:Nat):Int)*gs.getD j 0),mem_append_left _ (za.mpr ⟨0,(show 0<(1:Int).toNat by decide),rfl⟩),?_⟩;have a:(0:Int)+0+((0:Nat):Int)*gs.getD j 0=0*gs.getD j 0:=by simp
   rw[<-a]at b;exact b
  ·refine⟨(j,0+gs.getD j 0+(((u-1).toNat:Nat):Int)*gs.getD j 0),mem_append_right _ ?_,?_⟩
   ·rw[ve (by lia)];exact za.mpr ⟨(u-1).toNat,by show(u-1).toNat<(k-1).toNat;lia,rfl⟩
   ·have a:(0:Int)+gs.getD j 0+(((u-1).toNat:Nat):Int)*gs.getD j 0=u*gs.getD j 0:=by
     rw[Int.toNat_of_nonneg (by lia),Int.sub_mul];lia
    rw[<-a]at b;exact b
theorem YM{ps:List (Str×Fm)}(a:WfB ls ps){n j:Nat}{c t:Int}(e:rq W (pcB ps gs n)=[(j,1,c)])(l:pcB ps gs j=[]):RB ps gs W n t=[t+c]:=by
 rw[QY a (by rw[e];exact fun z=>nomatch z),e];have b:bgs gs t [(j,1,c)]=[(j,t+c+((0:Nat):Int)*gs.getD j 0)]:=rfl;rw[b,flatMap_cons,flatMap_nil,append_nil,zP (by rw[l];rfl)];simp
theorem wJ{d:Mb}{c s k v:Int}(a:MbS d)(k1:1<=k)(A:1<=s)(D:0<=c)(E:c<s)(H:0<=v)(j:d.L=k*s)(e:d.W.getD d.n 0=k*v)(i:0<v->∀y,y∈RB d.ps d.gs d.W d.n 0↔∃u:Int,0<=u/\u<k/\y=u*s+c)(x:v=0->RB d.ps d.gs d.W d.n 0=[0]):MbC d c s (k*v):=by
 have g:0<k*v->0<v:=fun h=>by
  by_cases z:v=0
  ·rw[z,Int.mul_zero]at h;lia
  ·lia
 have C:1<=k*s:=by
  have:=Int.mul_le_mul k1 A (by decide) (by lia);lia
 refine⟨a,e,fun h=>⟨a.sn,a.w,by rw[e];exact h,a.x1,a.x2,fun y b=>?_⟩,fun h y=>?_,fun h y b=>?_⟩
 ·rw[j];by_cases z:v=0
  ·rw[x z,vo]at b;lia
  ·obtain⟨u,l,B,rfl⟩:=(i (by lia) y).mp b;have G:=vL l (show 0<=s by lia);have r:=vS (show u<=k-1 by lia) (show 0<=s by lia);rw[Int.sub_mul]at r;lia
 ·have m:=g h;unfold Mb.R;rw[j,e];constructor
  ·rintro⟨w,⟨_,f⟩,q,t⟩;obtain⟨u,l,B,rfl⟩:=(i m w).mp f;refine⟨k*q+u,?_⟩;rw[Int.mul_add,<-Int.mul_assoc,Int.mul_comm s k,Int.mul_comm s u];lia
  ·rintro⟨q,t⟩;have n:=Int.emod_add_mul_ediv q k;have o:=vf q (show k≠0 by lia);have p:=vg q (show 0<k by lia);refine⟨q%k*s+c,⟨h,(i m _).mpr ⟨q%k,o,p,rfl⟩⟩,q/k,?_⟩;have F:s*q=q%k*s+k*s*(q/k):=by
    conv=>lhs;rw[<-n]
    rw[Int.mul_add,Int.mul_comm s (q%k),Int.mul_comm k s,Int.mul_assoc]
   lia
 ·obtain⟨w,⟨f,_⟩,_⟩:=b;rw[e]at f;lia
theorem mov0{f:Fn}(b:∀x h n,f≠.rise x h n)(c:∀j∈f.js,M.getD j []=[]):MovN L M f []:=by
 refine⟨.nil,fun k=>⟨(fun h=>nomatch h),fun h=>?_⟩⟩;rcases h with⟨j,d,a⟩ | ⟨y,g,l,i,e,_⟩
 ·rw[c j d]at a;exact nomatch a
 ·exact uk e (b _ _ _)
theorem yv:0<=mrY m/\mrY m<=1:=by cases m<;>decide
theorem mulk{k s B:Int}(k1:1<=k)(k2:k<=20)(a:1<=s)(b:s<=10^19):1<=k*s/\k*s<=10^60:=by
 have c:=Int.mul_le_mul k1 a (by decide) (by lia);have d:=Int.mul_le_mul k2 b (by lia) (by decide);exact⟨by lia,by lia⟩
theorem yO(a:1<=b)(c:b<=10^18):mrY m<szY b m/\1<=szY b m/\szY b m<=10^19:=by
 have:=yv (m:=m);unfold szY;lia
theorem dokY(k1:1<=k)(k2:k<=20)(c:1<=b)(d:b<=10^18):DOk ["arm"] (fsY k b m) MY (gsY k b m):=by
 have e:=yO (m:=m) c d;have l:=mulk (B:=0) k1 k2 e.2.1 e.2.2;refine⟨rfl,rfl,fun i f h=>?_,fun i g=>?_⟩
 ·match i,h with
  | 0,h=>cases h;exact⟨⟨c,d,by decide +kernel⟩,mov0 (fun _ _ _ z=>nomatch z) (fun j a=>nomatch a),rfl⟩
  | 1,h=>cases h;exact⟨⟨c,d⟩,mov0 (fun _ _ _ z=>nomatch z) (fun j a=>nomatch a),rfl⟩
  | 2,h=>cases h;exact⟨⟨by decide,by decide,by decide +kernel⟩,mov0 (fun _ _ _ z=>nomatch z) (fun j a=>nomatch a),rfl⟩
  | 3,h=>
   cases h;refine⟨?_,mov0 (fun _ _ _ z=>nomatch z) ?_,?_⟩
   ·cases m
    ·exact⟨(fun z=>nomatch z),by decide,by decide⟩
    ·exact⟨(fun z=>nomatch z),by decide,by decide⟩
   ·cases m<;>decide
   ·cases m
    ·show 2*b+2*0=b+(b+0);lia
    ·show 2*b+2*1=1+(b+(b+(1+0)));lia
  | 4,h=>
   cases h;exact⟨⟨k1,by lia,by decide⟩,mov0 (fun _ _ _ z=>nomatch z) (fun j a=>by rw[vo.mp a];rfl),rfl⟩
  | j+5,h=>simp[fsY]at h
 ·match i,g with
  | 0,_=>exact⟨c,by show b<=10^60;lia⟩
  | 1,_=>exact⟨c,by show b<=10^60;lia⟩
  | 2,_=>exact⟨show(1:Int)<=1 by decide,show(1:Int)<=10^60 by decide⟩
  | 3,_=>exact⟨e.2.1,by show szY b m<=10^60;lia⟩
  | 4,_=>exact l
  | j+5,h=>exact uk (show j+5<5 from h) (by lia)
theorem wQ:nmY.Nodup:=by decide +kernel
theorem wR:nmZ.Nodup:=by decide +kernel
theorem Xx:0<=wdY x/\wdY x<=1:=by unfold wdY;split<;>decide
theorem pcY{i:Nat}{f:Fn}(c:(fsY k b m)[i]?=some f):pcB (drawnPs nmY (fsY k b m)) (gsY k b m) i=pcsI (gsY k b m) (toldF nmY f) f.js:=by
 refine Yr (by show 5<=5;decide) wQ c fun j a=>?_
 show j<5
 match i,c with
 | 0,h=>cases h;exact nomatch a
 | 1,h=>cases h;exact nomatch a
 | 2,h=>cases h;exact nomatch a
 | 3,h=>cases h;cases m<;>revert j<;>decide
 | 4,h=>cases h;rw[vo.mp a];decide
 | j+5,h=>simp[fsY]at h
theorem wAgain{W gs:List Int}{nm:Str}{j:Nat}(k1:1<=k):wSum W (pcsI gs (.again k nm) [j])=k*W.getD j 0:=by
 show wSum W ((j,1,0)::(if 1<k then[(j,k-1,gs.getD j 0)]else[]))=_;unfold wSum;split
 ·simp only[map_cons,map_nil,sum_cons,sum_nil,Int.sub_mul];lia
 ·have:k=1:=by lia
  subst this;simp
theorem wpY(d:¬("gong" : Str)=x)(k1:1<=k):WPre (drawnPs nmY (fsY k b m)) (gsY k b m) x (WY x k) (drawnPs nmY (fsY k b m)).length:=by
 refine⟨rfl,fun j p e c=>?_⟩;obtain⟨f,a,rfl⟩:=jZ c;rw[pcY a]
 match j,a with
 | 0,h=>cases h;show wdY x=(if("bell" : Str)=x then 1 else 0)+0;unfold wdY;lia
 | 1,h=>cases h;rfl
 | 2,h=>cases h;show(0:Int)=(if("gong" : Str)=x then 1 else 0)+0;rw[vd d];rfl
 | 3,h=>
  cases h;cases m
  ·show wdY x=0+(1*wdY x+(1*0+0));lia
  ·show wdY x=0+(1*0+(1*wdY x+(1*0+(1*0+0))));lia
 | 4,h=>
  cases h;show k*wdY x=0+wSum _ (pcsI _ (.again k _) [3]);rw[wAgain k1,Int.zero_add];rfl
 | j+5,h=>simp[fsY]at h
theorem mbsY(o:Ws.isW x=true)(e:¬("gong" : Str)=x)(k1:1<=k)(k2:k<=20)(c:1<=b)(a:b<=10^18):MbS (mbY k b m x):=by
 refine⟨DOk.sn (ls:=[("arm",1)]) (dokY k1 k2 c a) (by show 5<=5;decide) wQ (pairwise_singleton ..) (by show 1<=8;decide) (by show 5<=61;decide) (by show 1<=5;decide) (fun q n=>by rw[vo.mp n];exact⟨by decide,by decide⟩),wpY e k1,o,fun p l=>?_⟩;obtain⟨i,g⟩:=List.mem_iff_getElem?.mp l;obtain⟨f,d,rfl⟩:=jZ (show(drawnPs nmY (fsY k b m))[i]?=some p from g)
 match i,d with
 | 0,h=>cases h;exact⟨by decide +kernel,by lia,a⟩
 | 1,h=>cases h;exact⟨by lia,a⟩
 | 2,h=>cases h;exact⟨by decide +kernel,by decide,by decide⟩
 | 3,h=>cases h;cases m<;>exact⟨by decide,by decide +kernel⟩
 | 4,h=>cases h;exact⟨by lia,by lia,by decide +kernel⟩
 | j+5,h=>simp[fsY]at h
theorem mbcY(q:Ws.isW x=true)(p:¬("gong" : Str)=x)(k1:1<=k)(k2:k<=20)(e:1<=b)(g:b<=10^18):MbC (mbY k b m x) (mrY m) (szY b m) (k*wdY x):=by
 have S:=mbsY (m:=m) q p k1 k2 e g;have l:=yO (m:=m) e g;have r:=yv (m:=m);have w:=Xx (x:=x);have d:WfB _ (drawnPs nmY (fsY k b m)):=S.sn.s.w;have i:pcB (drawnPs nmY (fsY k b m)) (gsY k b m) 4=pcsI (gsY k b m) (.again k "both") [3]:=pcY (f:=.again k 3) rfl;have o:pcB (drawnPs nmY (fsY k b m)) (gsY k b m) 3=rowPc (gsY k b m) (rwY m) 0:=pcY (f:=.row (rwY m)) rfl;have n:pcB (drawnPs nmY (fsY k b m)) (gsY k b m) 0=[]:=pcY (f:=.ring "bell" b) rfl;refine wJ S k1 l.2.1 r.1 l.1 w.1 rfl rfl (fun v y=>?_) (fun v=>?_)
 ·have t:wdY x=1:=by lia
  show y∈RB (drawnPs nmY (fsY k b m)) (gsY k b m) (WY x k) 4 0↔_;rw[yT d i k1 (by show 0<wdY x;lia)];have s:rq (WY x k) (pcB (drawnPs nmY (fsY k b m)) (gsY k b m) 3)=[(0,1,mrY m)]:=by
   rw[o];unfold WY;rw[t];cases m<;>rfl
  have j:∀u:Int,(y∈RB (drawnPs nmY (fsY k b m)) (gsY k b m) (WY x k) 3 (u*(gsY k b m).getD 3 0))↔y=u*szY b m+mrY m:=fun u=>by
   rw[YM d s n,vo];rfl
  constructor
  ·rintro⟨u,a,c,h⟩;exact⟨u,a,c,(j u).mp h⟩
  ·rintro⟨u,a,c,h⟩;exact⟨u,a,c,(j u).mpr h⟩
 ·show RB (drawnPs nmY (fsY k b m)) (gsY k b m) (WY x k) 4 0=[0]
  refine zP ?_;rw[i];unfold WY;rw[v];show rq _ ((3,1,0)::(if 1<k then[(3,k-1,szY b m)]else[]))=[]
  split<;>rfl
theorem yN(a:1<=b)(c:b<=10^18):4<=szZ b/\b+2<=szZ b/\(szZ b=4\/szZ b=b+2)/\szZ b<=10^19:=by
 unfold szZ;lia
theorem dokZ(k1:1<=k)(k2:k<=20)(m:1<=b)(o:b<=10^18):DOk ["arm","head"] (fsZ k b) MZ (gsZ k b):=by
 have l:=yN m o;have D:=mulk (B:=0) k1 k2 (show 1<=szZ b by lia) l.2.2.2;have r:∀{M:List (List Int)} {i:Nat} {y:Str} {h n:Int},(["arm","head"]:List Str)[i]?=some y->MovN ["arm","head"] M (.rise y h n) [(i:Int)]:=fun {M i y h n} e=>by
  refine⟨pairwise_singleton ..,fun k=>⟨fun z=>.inr ⟨y,h,n,i,rfl,e,vo.mp z⟩,fun z=>?_⟩⟩;rcases z with⟨j,a,_⟩ | ⟨F,u,E,C,s,t,rfl⟩
  ·exact nomatch a
  ·cases s;have this:i=C:=L2.zc (by decide +kernel) e t;rw[this];exact vo.mpr rfl
 have g:∀{f:Fn} {d:List Int},(∀x h n,f≠.rise x h n)->d.Pairwise (· < ·)->(∀k,k∈d↔∃j∈f.js,k∈MZ.getD j [])->MovN ["arm","head"] MZ f d:=fun {f d} p q v=>⟨q,fun k=>by
  rw[v];exact⟨.inl,fun z=>z.elim id fun⟨y,u,E,i,e,_⟩=>uk e (p _ _ _)⟩⟩
 refine⟨rfl,rfl,fun i f h=>?_,fun i w=>?_⟩
 ·match i,h with
  | 0,h=>cases h;exact⟨⟨m,o,by decide +kernel⟩,mov0 (fun _ _ _ z=>nomatch z) (fun j a=>nomatch a),rfl⟩
  | 1,h=>cases h;exact⟨⟨by decide,by decide,by decide +kernel⟩,mov0 (fun _ _ _ z=>nomatch z) (fun j a=>nomatch a),rfl⟩
  | 2,h=>cases h;exact⟨⟨⟨0,rfl⟩,by decide,by decide,by decide,by decide⟩,r (i:=0) rfl,rfl⟩
  | 3,h=>cases h;exact⟨⟨⟨1,rfl⟩,by decide,by decide,by decide,by decide⟩,r (i:=1) rfl,rfl⟩
  | 4,h=>
   cases h;refine⟨⟨(fun z=>nomatch z),by decide,by decide⟩,g (fun _ _ _ z=>nomatch z) (pairwise_singleton ..) (fun k=>?_),?_⟩
   ·show k∈[0]↔∃j∈[0,2],k∈MZ.getD j [];constructor
    ·exact fun z=>⟨2,by decide,z⟩
    ·rintro⟨j,a,z⟩;rcases mem_cons.mp a with rfl | a
     ·exact nomatch z
     ·rw[vo.mp a]at z;exact z
   ·show b+2=b+(2+0);lia
  | 5,h=>
   cases h;refine⟨⟨(fun z=>nomatch z),by decide,by decide⟩,g (fun _ _ _ z=>nomatch z) (pairwise_singleton ..) (fun k=>?_),?_⟩
   ·show k∈[1]↔∃j∈[1,3],k∈MZ.getD j [];constructor
    ·exact fun z=>⟨3,by decide,z⟩
    ·rintro⟨j,a,z⟩;rcases mem_cons.mp a with rfl | a
     ·exact nomatch z
     ·rw[vo.mp a]at z;exact z
   ·rfl
  | 6,h=>
   cases h;refine⟨⟨by decide,by decide,by decide,?_⟩,g (fun _ _ _ z=>nomatch z) ?_ (fun k=>?_),?_⟩
   ·refine⟨by decide,?_⟩;refine pairwise_cons.mpr ⟨fun j a k A c=>?_,pairwise_singleton ..⟩;rw[vo.mp a]at c;have p:k=0:=vo.mp A;have q:k=1:=vo.mp c;lia
   ·show([0,1]:List Int).Pairwise (· < ·);decide
   ·show k∈[0,1]↔∃j∈[4,5],k∈MZ.getD j [];constructor
    ·intro z;rcases mem_cons.mp z with rfl | z
     ·exact⟨4,by decide,by decide⟩
     ·exact⟨5,by decide,z⟩
    ·rintro⟨j,a,z⟩;rcases mem_cons.mp a with rfl | a
     ·rw[show k=0 from vo.mp z];decide
     ·rw[vo.mp a]at z;rw[show k=1 from vo.mp z];decide
   ·refine⟨?_,fun j a=>?_⟩
    ·rcases l.2.2.1 with e | e
     ·exact⟨5,by decide,e⟩
     ·exact⟨4,by decide,e⟩
    ·rcases mem_cons.mp a with rfl | a
     ·exact l.2.1
     ·rw[vo.mp a];exact l.1
  | 7,h=>
   cases h;refine⟨⟨k1,by lia,by decide⟩,g (fun _ _ _ z=>nomatch z) ?_ (fun k=>?_),rfl⟩
   ·show([0,1]:List Int).Pairwise (· < ·);decide
   ·show k∈[0,1]↔∃j∈[6],k∈MZ.getD j [];constructor
    ·exact fun z=>⟨6,by decide,z⟩
    ·rintro⟨j,a,z⟩;rw[vo.mp a]at z;exact z
  | j+8,h=>simp[fsZ]at h
 ·match i,w with
  | 0,_=>exact⟨m,by show b<=10^60;lia⟩
  | 1,_=>exact⟨show(1:Int)<=1 by decide,show(1:Int)<=10^60 by decide⟩
  | 2,_=>exact⟨show(1:Int)<=2 by decide,show(2:Int)<=10^60 by decide⟩
  | 3,_=>exact⟨show(1:Int)<=3 by decide,show(3:Int)<=10^60 by decide⟩
  | 4,_=>exact⟨by show 1<=b+2;lia,by show b+2<=10^60;lia⟩
  | 5,_=>exact⟨show(1:Int)<=4 by decide,show(4:Int)<=10^60 by decide⟩
  | 6,_=>exact⟨by show 1<=szZ b;lia,by show szZ b<=10^60;lia⟩
  | 7,_=>exact D
  | j+8,h=>exact uk (show j+8<8 from h) (by lia)
theorem pcZ{i:Nat}{f:Fn}(c:(fsZ k b)[i]?=some f):pcB (drawnPs nmZ (fsZ k b)) (gsZ k b) i=pcsI (gsZ k b) (toldF nmZ f) f.js:=by
 refine Yr (by show 8<=8;decide) wR c fun j a=>?_
 show j<8
 match i,c with
 | 0,h=>cases h;exact nomatch a
 | 1,h=>cases h;exact nomatch a
 | 2,h=>cases h;exact nomatch a
 | 3,h=>cases h;exact nomatch a
 | 4,h=>cases h;revert j;decide
 | 5,h=>cases h;revert j;decide
 | 6,h=>cases h;revert j;decide
 | 7,h=>cases h;rw[vo.mp a];decide
 | j+8,h=>simp[fsZ]at h
theorem mbsZ(k1:1<=k)(k2:k<=20)(g:1<=b)(e:b<=10^18):MbS (mbZ k b):=by
 refine⟨DOk.sn (ls:=[("arm",1),("head",2)]) (dokZ k1 k2 g e) (by show 8<=8;decide) wR (by decide +kernel) (by show 2<=8;decide) (by show 8<=61;decide) (by show 1<=8;decide) (fun q d=>?_),⟨rfl,fun j p m c=>?_⟩,(show Ws.isW "bell"= true by decide +kernel),fun p c=>?_⟩
 ·rcases mem_cons.mp d with rfl | d
  ·exact⟨by decide,by decide⟩
  ·rw[vo.mp d];exact⟨by decide,by decide⟩
 ·obtain⟨f,a,rfl⟩:=jZ (show(drawnPs nmZ (fsZ k b))[j]?=some p from c);show(WZ k).getD j 0=ownW "bell" (toldF nmZ f)+wSum (WZ k) (pcB (drawnPs nmZ (fsZ k b)) (gsZ k b) j);rw[pcZ a]
  match j,a with
  | 0,h=>cases h;rfl
  | 1,h=>cases h;rfl
  | 2,h=>cases h;rfl
  | 3,h=>cases h;rfl
  | 4,h=>cases h;rfl
  | 5,h=>cases h;rfl
  | 6,h=>cases h;rfl
  | 7,h=>
   cases h;show k*2=0+wSum _ (pcsI _ (.again k _) [6]);rw[wAgain k1,Int.zero_add];rfl
  | j+8,h=>simp[fsZ]at h
 ·obtain⟨i,l⟩:=List.mem_iff_getElem?.mp c;obtain⟨f,a,rfl⟩:=jZ (show(drawnPs nmZ (fsZ k b))[i]?=some p from l)
  match i,a with
  | 0,h=>cases h;exact⟨by decide +kernel,by lia,e⟩
  | 1,h=>cases h;exact⟨by decide +kernel,by decide,by decide⟩
  | 2,h=>cases h;exact⟨by decide +kernel,by decide,by decide,by decide,by decide⟩
  | 3,h=>cases h;exact⟨by decide +kernel,by decide,by decide,by decide,by decide⟩
  | 4,h=>cases h;exact⟨by decide,by decide +kernel⟩
  | 5,h=>cases h;exact⟨by decide,by decide +kernel⟩
  | 6,h=>cases h;exact⟨by decide,by decide +kernel⟩
  | 7,h=>cases h;exact⟨by lia,by lia,by decide +kernel⟩
  | j+8,h=>simp[fsZ]at h
theorem mbcZ(k1:1<=k)(k2:k<=20)(e:1<=b)(g:b<=10^18):MbC (mbZ k b) 0 (szZ b) (k*2):=by
 have S:=mbsZ k1 k2 e g;have s:=yN e g;have a:WfB _ (drawnPs nmZ (fsZ k b)):=S.sn.s.w;have p:pcB (drawnPs nmZ (fsZ k b)) (gsZ k b) 7=pcsI (gsZ k b) (.again k "both") [6]:=pcZ (f:=.again k 6) rfl;have i:rq (WZ k) (pcB (drawnPs nmZ (fsZ k b)) (gsZ k b) 6)=[(4,1,0),(5,1,0)]:=by rw[pcZ (f:=.side [4,5]) rfl];rfl
 have n:rq (WZ k) (pcB (drawnPs nmZ (fsZ k b)) (gsZ k b) 4)=[(0,1,0)]:=by rw[pcZ (f:=.row [0,2]) rfl];rfl
 have o:rq (WZ k) (pcB (drawnPs nmZ (fsZ k b)) (gsZ k b) 5)=[(1,1,0)]:=by rw[pcZ (f:=.row [1,3]) rfl];rfl
 have l:pcB (drawnPs nmZ (fsZ k b)) (gsZ k b) 0=[]:=pcZ (f:=.ring "bell" b) rfl;have m:pcB (drawnPs nmZ (fsZ k b)) (gsZ k b) 1=[]:=pcZ (f:=.ring "bell" 1) rfl;refine wJ S k1 (by lia) (va _) (by lia) (by decide) rfl rfl (fun _ y=>?_) (fun v=>uk v (by decide));show y∈RB (drawnPs nmZ (fsZ k b)) (gsZ k b) (WZ k) 7 0↔_;rw[yT a p k1 (by show(0:Int)<2;decide)];have r:∀t:Int,RB (drawnPs nmZ (fsZ k b)) (gsZ k b) (WZ k) 6 t=[t+0,t+0]:=fun t=>by
  rw[QY a (by rw[i];exact fun z=>nomatch z),i];have q:bgs (gsZ k b) t [(4,1,0),(5,1,0)]=[(4,t+0+((0:Nat):Int)*(b+2)),(5,t+0+((0:Nat):Int)*4)]:=rfl;rw[q,flatMap_cons,flatMap_cons,flatMap_nil,YM a n l,YM a o m];simp
 have j:∀u:Int,(y∈RB (drawnPs nmZ (fsZ k b)) (gsZ k b) (WZ k) 6 (u*(gsZ k b).getD 6 0))↔y=u*szZ b+0:=fun u=>by
  rw[r];show y∈[u*szZ b+0,u*szZ b+0]↔_;simp
 constructor
 ·rintro⟨u,c,d,h⟩;exact⟨u,c,d,(j u).mp h⟩
 ·rintro⟨u,c,d,h⟩;exact⟨u,c,d,(j u).mpr h⟩
end
theorem wK{d e:Mb}{ds:List Mb}{c s n j k q b:Int}{v u:V}(o:MbC d c s n)(p:MbC e j k q)(r:0<n)(i:0<q)(g:∀f:Mb,f∈ds↔f=d\/f=e)(M:MeetR ds b v)(D:Ct.DueR s c k j b u):v=u:=by
 have a:∀y,(∀f∈ds,f.R y)↔Ct.Cnd s c k j y:=fun y=>by
  constructor
  ·exact fun h=>⟨(o.r r y).mp (h d ((g d).mpr (.inl rfl))),(p.r i y).mp (h e ((g e).mpr (.inr rfl)))⟩
  ·rintro⟨l,m⟩ f w;rcases(g f).mp w with rfl | rfl
   ·exact(o.r r y).mpr l
   ·exact(p.r i y).mpr m
 rcases M with⟨rfl,h⟩ | ⟨y,rfl,x,_,t,A⟩<;>rcases D with⟨rfl,h'⟩ | ⟨z,rfl,z0,_,z1,z2⟩
 ·rfl
 ·exact uk ((a z).mpr z1) (h z)
 ·exact uk ((a y).mp t) (h' y)
 ·have l:=A z z0 ((a z).mpr z1);have m:=z2 y x ((a y).mp t);rw[show y=z by lia]
theorem KJ{e:Mb}{ds:List Mb}{c f b:Int}{v:V}(d:MbC e c f 0)(a:e∈ds)(M:MeetR ds b v):v = .non:=by
 rcases M with⟨rfl,h⟩ | ⟨y,rfl,i,_,g,j⟩
 ·rfl
 ·exact uk (g e a) (d.no rfl y)
def YD(B:Addr):Sp:=fun vs H _ xk=>∃(a b:Addr) (as:List Addr) (ds:List Mb) (t:Int),vs=[.ref a,.ref b,.int t]/\H a=some (.lst (as.map V.ref))/\All2 (BkA H) as ds/\H b=some (.lst (ds.map fun d=>V.str d.x))/\ds.length<=3/\(∀d∈ds,MbS d)/\(∃d∈ds,12<d.W.getD d.n 0)/\∀H',Same H H'->xk (.ref B) none H'
inductive sp_askedY(B:Addr)(vs:List V)(H:Hp)(Q:VK)(xk:XK):Prop
 | mk (a b:Addr) (as:List Addr) (ds:List Mb) (t:Int) (bg:Bool) (_:vs=[.ref a,.ref b,.int t]) (_:H a=some (.lst (as.map V.ref))) (_:All2 (BkA H) as ds) (_:H b=some (.lst (ds.map fun d=>V.str d.x))) (_:ds.length<=3) (_:(∀d∈ds,MbS d)) (_:(bg=true->∃d∈ds,12<d.W.getD d.n 0)) (_:(bg=false->∀d∈ds,MbOk d)) (_:∀(p:Addr) (ev fv:V) (H':Hp),Same H H'->H' p=some (.tup [ev,fv])->(if bg=true then∃x,ev = .ref x/\H' x=some (XcO (.ref B) x)else ev = .non/\MeetR ds (max t 0) fv)->Q (.ref p) H'):sp_askedY B vs H Q xk
theorem BkA.same{H H':Hp}{a:Addr}{d:Mb}(s:Same H H')(h:BkA H a d):BkA H' a d:=by
 obtain⟨e,f,b,c,B⟩:=h;exact⟨e,f,b,c,B.same s⟩
theorem kit2{K:Frg}{t a b:Value}(c:PySem.W.kitOne K t a=some false)(d:PySem.W.kitOne K t b=some false):PySem.W.kitAny K t [a,b]=some false:=by
 unfold PySem.W.kitAny;rw[c];show PySem.W.kitAny K t [b]=_;unfold PySem.W.kitAny;rw[d];rfl
end Rm
namespace L2
inductive IvA2(a0 a1:Prop):Prop | mk:a0->a1->IvA2 a0 a1
inductive IvA3(a0 a1 a2:Prop):Prop | mk:a0->a1->a2->IvA3 a0 a1 a2
inductive IvA4(a0 a1 a2 a3:Prop):Prop | mk:a0->a1->a2->a3->IvA4 a0 a1 a2 a3
inductive IvA5(a0 a1 a2 a3 a4:Prop):Prop | mk:a0->a1->a2->a3->a4->IvA5 a0 a1 a2 a3 a4
inductive IvA6(a0 a1 a2 a3 a4 a5:Prop):Prop | mk:a0->a1->a2->a3->a4->a5->IvA6 a0 a1 a2 a3 a4 a5
inductive IvA7(a0 a1 a2 a3 a4 a5 a6:Prop):Prop | mk:a0->a1->a2->a3->a4->a5->a6->IvA7 a0 a1 a2 a3 a4 a5 a6
inductive IvE1{α0:Type}(p:α0->Prop):Prop | mk (x0) (h:p x0):IvE1 p
inductive IvE2{α0 α1:Type}(p:α0->α1->Prop):Prop | mk (x0 x1) (h:p x0 x1):IvE2 p
inductive IvE3{α0 α1 α2:Type}(p:α0->α1->α2->Prop):Prop | mk (x0 x1 x2) (h:p x0 x1 x2):IvE3 p
inductive IvE4{α0 α1 α2 α3:Type}(p:α0->α1->α2->α3->Prop):Prop | mk (x0 x1 x2 x3) (h:p x0 x1 x2 x3):IvE4 p
inductive IvE5{α0 α1 α2 α3 α4:Type}(p:α0->α1->α2->α3->α4->Prop):Prop | mk (x0 x1 x2 x3 x4) (h:p x0 x1 x2 x3 x4):IvE5 p
inductive IvE6{α0 α1 α2 α3 α4 α5:Type}(p:α0->α1->α2->α3->α4->α5->Prop):Prop | mk (x0 x1 x2 x3 x4 x5) (h:p x0 x1 x2 x3 x4 x5):IvE6 p
inductive IvE7{α0 α1 α2 α3 α4 α5 α6:Type}(p:α0->α1->α2->α3->α4->α5->α6->Prop):Prop | mk (x0 x1 x2 x3 x4 x5 x6) (h:p x0 x1 x2 x3 x4 x5 x6):IvE7 p
inductive IvE15{α0 α1 α2 α3 α4 α5 α6 α7 α8 α9 α10 α11 α12 α13 α14:Type}(p:α0->α1->α2->α3->α4->α5->α6->α7->α8->α9->α10->α11->α12->α13->α14->Prop):Prop | mk (x0 x1 x2 x3 x4 x5 x6 x7 x8 x9 x10 x11 x12 x13 x14) (h:p x0 x1 x2 x3 x4 x5 x6 x7 x8 x9 x10 x11 x12 x13 x14):IvE15 p
end L2
theorem L2.fsc(a:sc.kind = .function:=by rfl)(b:sc.isCoroutine=false:=by rfl)(c:sc.isGenerator=false:=by rfl)(d:N.Nodup:=by decide +kernel)(e:N.take P.length=P:=by rfl)(f:∀x∈P,sc.names.lookup x=some .local\/sc.names.lookup x=some .cell:=by decide +kernel)(g:∀y∈sc.names,y.2≠.free:=by decide +kernel):L2.FnScope N P sc:=⟨a,b,c,d,e,f,g⟩
structure PySem.W.Fast:Prop where
  (tw16885476327166227258 tw5283430016762826576 tw9222387645538077631 tw17678656548626082591 tw14210785061866749008 tw1086537605940556232 tw10941720295726469237 tw13328980846921809153 tw1557715533494226420 tw6160493731017500195 tw17075205543162984368 tw17177363727034844982 tw5894299782898884820 tw1691737118594423709 tw2782324096673971755 tw6143345053643991426 tw8624587640550342755 tw15167298204824251747 tw11498167463579390490 tw10802469025843782179 tw11453038239072235686 tw3106613329376210622 tw7667884271803793103 tw17262659847664178893 tw11294332137662930553 tw8302090038481448247 tw15596357278622205990 tw255704735625411233 tw12537777236164110941 tw10241414970882258073 tw14029966672263930209 tw5976434334740987363 tw15169355332687071268 tw12175543540786627434 tw8871391900741650869 tw3181760648203833609 tw1898258269787829016 tw14909894467641666432 tw2510781933359369170 tw10119448989612415364 tw13785239471918260963 tw10734569012768221923 tw348045576418714652 tw1376291550175656132 tw9689240850096519790 tw13282381589997589052 tw7739197410290793296 tw9639833850285982586 tw11758177025609209507 tw16293029110517049082 tw16782964697262268100 tw7619822733863230756 tw3419393623444832891 tw711590726182076419 tw4830539008333865645 tw15076615634873841162 tw17543246827298533885 tw3826006032178796202 tw2988843264307795801 tw5822060894712616749 tw12815267481974142728 tw2567428688005699843 tw13127285669333865710 tw4171536043365776134 tw9052411171009434758 tw2610507402093201981 tw10900324919818001359 tw11964847816133335035 tw16446302829420782782 tw9235759903154696519 tw4547306207898537133 tw15883476390601806638 tw18207202195935737467 tw4136696458109622165 tw315867059460975571 tw15767761657944832035 tw9571449145856630436 tw17250438822312042700 tw7064516039510166028 tw444892282616108657 tw10345434612855734825 tw4042884832631773314 tw18027819536408990820 tw10810517327187222972 tw1026885858322898115 tw7927408216540294191 tw16891258367925070454 tw16268438318541745134 tw6622224134354357971 tw2120701249669110307 tw10192443827750711145 tw7661062778012251007 tw4641725780141940665 tw2234042623214015513 tw9784629907829592105 tw7651405409163227148 tw10818634764934130820 tw8965557134085669090 tw15999864698243551068 tw7091527329167131339 tw1721291111941590792 tw12801489660078532305 tw3602964602914778455 tw5958241657932338772 tw11104373499939947238 tw13743807795226324088 tw14802144489517546008 tw3662212535927282276 tw18095537189796337900 tw4457344941883999913 tw14670305984920618465 tw7988474629616609912 tw8109905739816081262 tw12847387255231248887 tw12541248312336531979 tw5394415164025180626 tw15111909956495631798 tw15276816456176344670 tw16908292141884401767 tw2846205482924210927 tw3695057086769418502 tw10142345134051879855 tw16385097901355978192 tw5886874554507848654 tw8499840244112914862 tw6470797173284077825 tw6514583307614670673 tw4116207424688386511 tw4306261797442151917 tw12107679408207034462 tw5580211256739546139 tw7108540900022964800 tw5381800094658925093 tw8212472471936265558 tw2646260803093053354 tw14093683859072649288 tw14049154291293506506 tw2508078532582372400 tw7683935488637179980 tw17548308586448202250 tw17554903294757750948 tw15233153806498984118 tw18336232276460055903 tw17337315123372043303 tw9190486092252056368 tw15288859097402845192 tw11455075076907545548 tw5883575521526304932 tw3218437199101535517 tw11361095017984416169 tw14236491574782987654 tw14077701707426635150 tw3912798780182417693 tw8190335509802004736 tw8453064042317666905 tw18401397221099737647 tw16631865623801463298 tw4572869411893478767 tw10696245799350380042 tw17238764174892654441 tw14097167349025139730:True)
namespace L2
open PySem PySem.Spec PyProof.Rows
structure Dfn(K:Frg)(mg:Str->Option Value)(x:Str)(st:Stmt)(f:Addr)(d:FuncData)(ps:List Str):Prop where
  F:Fun K x x st f d
  m:mg x=some (.ref f)
  B:Binds K d ps []
theorem jx{X:Cx}{x:Str}{st:Stmt}{f:Addr}{g:FuncData}{ps:List Str}{j k:Nat}{sp:Sp}{e:Expr}{a:List Expr}{p b:Pos}{t:TA}(D:Dfn X.K X.mg x st f g ps)(F:FnOk X.prog X.w X.K X.mg X.base CX0 j f g ps sp)(n:Room k X.A)(h:PA X (e::a) t)(m:j<=k:=by decide)(l:Gl X x:=by rfl)(c:(x==("__debug__" : Str))=false:=by decide)(i:starEach (e::a) X.env=(false,eval e X.env)::starEach a X.env:=by rfl)(d:(backTo b (starEach a X.env)).any (·.1)=false:=by rfl):PE X (.Call (.Name x p) (e::a) [] b) (tCall sp [] E0 t):=kY (F.mono m) n l D.m D.F.kp D.B .nil pass0 h c i d
end L2
local macro_rules | `(tactic| specialize $e) => do
  let i:=fun(k:String)=>Lean.mkIdent (Lean.Name.mkSimple k)
  `(tactic| (refine $e (fun $(i "vs") $(i "H") $(i "Q") $(i "E") $(i "h")=>?_) (fun $(i "cdv") $(i "A") $(i "outer") $(i "s") $(i "H") $(i "vs") $(i "Q") $(i "E") $(i "hr") $(i "h")=>?_);focus (cases $(i "h"):ident;subst_vars;rfl)))
theorem Rm.iteE0{b:Bool}{A B:Prop}(h:B)(e:b=false:=by decide +kernel):if b=true then A else B:=Rm.iteB0 e h
theorem Rm.iteE1{b:Bool}{A B:Prop}(h:A)(e:b=true:=by decide +kernel):if b=true then A else B:=Rm.iteB1 e h
namespace K49
open PySem L2 Rm
noncomputable def top(i:Nat):Stmt:=PySem.Challenge.pw_camplay_k49_rung_too_often.main.body.getD i (.Pass ⟨0,0,0,0⟩)
noncomputable abbrev yI:Stmt:=top 0
theorem XL:FnScope ["k"] ["k"] (defScope yI):=fsc
noncomputable abbrev Qa:Stmt:=top 10
theorem JP:FnScope ["named","numbers","number","one"] ["named"] (defScope Qa):=fsc
noncomputable abbrev QT:Stmt:=top 11
theorem Yz:FnScope ["form"] ["form"] (defScope QT):=fsc
noncomputable abbrev zV:Stmt:=top 13
theorem Qz:FnScope ["book","numbers","found","name","form"] ["book"] (defScope zV):=fsc
noncomputable abbrev ko:Stmt:=top 14
theorem qA:FnScope ["book","limbs","found","part","inside","form","left","other"] ["book"] (defScope ko):=fsc
noncomputable abbrev zW:Stmt:=top 15
theorem Zl:FnScope ["book","found","left"] ["book"] (defScope zW):=fsc
noncomputable abbrev J3:Stmt:=top 16
theorem qE:FnScope ["row","moves","limbs","number","limb"] ["row","moves","limbs"] (defScope J3):=fsc
noncomputable abbrev Qw:Stmt:=top 17
theorem yK:FnScope ["form","inside"] ["form","inside"] (defScope Qw):=fsc
noncomputable abbrev qG:Stmt:=top 18
theorem Jw:FnScope ["book","moves","found","row","inside","form","length"] ["book"] (defScope qG):=fsc
noncomputable abbrev Qx:Stmt:=top 20
theorem Jd:FnScope ["form","inside","sizes","part","later","found","begin"] ["form","inside","sizes"] (defScope Qx):=fsc
noncomputable abbrev qz:Stmt:=top 21
theorem yL:FnScope ["book","sizes"] ["book","sizes"] (defScope qz):=fsc
noncomputable abbrev jT:Stmt:=(inClass (top 23) 0)
theorem jS:FnScope ["self","book","word","part","pieces","own"] ["self","book","word"] (defScope jT):=fsc
noncomputable abbrev JI:Stmt:=(inClass (top 23) 1)
theorem kq:FnScope ["self","beat"] ["self","beat"] (defScope JI):=fsc
noncomputable abbrev zh:Stmt:=top 25
theorem qH:FnScope ["pieces","sizes","beat","found","part","turns","begin"] ["pieces","sizes","beat"] (defScope zh):=fsc
noncomputable abbrev J2:Stmt:=top 27
theorem Jr:FnScope ["tally","found","todo","now","ringing"] ["tally"] (defScope J2):=fsc
noncomputable abbrev Qv:Stmt:=top 28
theorem Jo:FnScope ["one","other","rests","factors","many"] ["one","other"] (defScope Qv):=fsc
noncomputable abbrev Qb:Stmt:=top 29
theorem Jx:FnScope ["rung","other","common","steps","beats","beat","wanted"] ["rung","other"] (defScope Qb):=fsc
noncomputable abbrev j0:Stmt:=top 30
theorem Jh:FnScope ["books","words","beat","tallies","rung","tally","begin"] ["books","words","beat"] (defScope j0):=fsc
noncomputable abbrev qh:Stmt:=top 32
theorem zN:FnScope ["_law_script","_law_k"] ["_law_script","_law_k"] (defScope qh):=fsc
noncomputable abbrev Qu:Stmt:=top 33
theorem qa:FnScope ["_law_times","_law_beats","_law_more","_law_parts","_law_names"] ["_law_times","_law_beats","_law_more"] (defScope Qu):=fsc
noncomputable abbrev qi:Stmt:=top 34
theorem Ju:FnScope ["_law_times","_law_beats","_law_parts"] ["_law_times","_law_beats"] (defScope qi):=fsc
noncomputable abbrev qj:Stmt:=top 35
theorem jK:FnScope ["_law_one","_law_by","_law_old","_law_new","_law_a","_law_b","_law_much"] ["_law_one","_law_by"] (defScope qj):=fsc
noncomputable abbrev q5:Stmt:=top 36
theorem QH:FnScope ["_law_one","_law_other"] ["_law_one","_law_other"] (defScope q5):=fsc
noncomputable abbrev QS:Stmt:=top 37
theorem Qy:FnScope ["_law_start","_law_size","_law_other","_law_width","_law_beat","_law_share_here","_law_laps"] ["_law_start","_law_size","_law_other","_law_width","_law_beat"] (defScope QS):=fsc
noncomputable abbrev q4:Stmt:=top 38
theorem Jf:FnScope ["_law_books","_law_words","_law_beat","_law_error","_law_found","e"] ["_law_books","_law_words","_law_beat"] (defScope q4):=fsc
noncomputable abbrev Wk:Stmt:=top 39
theorem jV:FnScope ["_law_script","_law_k","_law_number","_law_times","_law_beats","_law_beside","_law_more","_law_also","_law_beat","_law_first","_law_due_here","_law_other","_law_words","_law_books","_law_error","_law_found"] ["_law_script"] (defScope Wk):=fsc
set_option genInjectivity false in
set_option genSizeOf false in
structure Ad where
 WH:Addr
 WN:FuncData
 JB:Addr
 JF:FuncData
 qT:Addr
 qW:FuncData
 Q0:Addr
 Q4:FuncData
 YO:Addr
 YY:FuncData
 Z7:Addr
 yi:FuncData
 JY:Addr
 J1:FuncData
 qp:Addr
 qw:FuncData
 zk:Addr
 zn:FuncData
 qr:Addr
 qx:FuncData
 Qm:Addr
 Qp:FuncData
 jD:Addr
 jH:FuncData
 ql:Addr
 qt:FuncData
 QZ:Addr
 Q3:FuncData
 qS:Addr
 qV:FuncData
 qo:Addr
 qv:FuncData
 QM:Addr
 QO:FuncData
 JJ:Addr
 JK:FuncData
 K2:Addr
 Jy:Addr
 JC:FuncData
 qm:Addr
 qu:FuncData
 Jz:Addr
 JD:FuncData
 JA:Addr
 JE:FuncData
 JX:Addr
 J0:FuncData
 QL:Addr
 QN:FuncData
 qR:Addr
 qU:FuncData
 wa:Addr
 kI:FuncData
 jq:Addr
 jW:Addr
 zF:Addr
 QC:Addr
 ye:Addr
 Jp:Addr
structure Txt(K:Frg)(mg:Str->Option Value)(t:Ad):Prop where
 XM:Dfn K mg "_wall" yI t.WH t.WN ["k"]
 qL:Dfn K mg "numbers_of" Qa t.JB t.JF ["named"]
 zX:Dfn K mg "names_in" QT t.qT t.qW ["form"]
 zO:Dfn K mg "inner" zV t.Q0 t.Q4 ["book"]
 K7:Dfn K mg "ends" ko t.YO t.YY ["book"]
 kC:Dfn K mg "moved" zW t.Z7 t.yi ["book"]
 QX:Dfn K mg "check_side" J3 t.JY t.J1 ["row","moves","limbs"]
 zA:Dfn K mg "length_of" Qw t.qp t.qw ["form","inside"]
 ZA:Dfn K mg "lengths" qG t.zk t.zn ["book"]
 zB:Dfn K mg "pieces_in" Qx t.qr t.qx ["form","inside","sizes"]
 zC:Dfn K mg "pieces_of" qz t.Qm t.Qp ["book","sizes"]
 Qh:Fun K "__init__" "RingTally.__init__" jT t.jD t.jH
 yR:Meth K t.jq "__init__" t.jD
 JQ:Binds K t.jH ["self","book","word"] []
 kD:Fun K "ahead" "RingTally.ahead" JI t.ql t.qt
 Y9:Meth K t.jq "ahead" t.ql
 kB:Binds K t.qt ["self","beat"] []
 yS:Dfn K mg "begins" zh t.QZ t.Q3 ["pieces","sizes","beat"]
 QW:Dfn K mg "beats_rung" J2 t.qS t.qV ["tally"]
 zy:Dfn K mg "common_of" Qv t.qo t.qv ["one","other"]
 zY:Dfn K mg "together" Qb t.QM t.QO ["rung","other"]
 QB:FunD K "meeting" "meeting" j0 t.K2 t.JJ t.JK
 ZV:mg "meeting"= some (.ref t.JJ)
 Zz:Binds K t.JK ["books","words","beat"] []
 jY:Dfn K mg "_law_cell_at" qh t.Jy t.JC ["_law_script","_law_k"]
 Qe:Dfn K mg "_law_book" Qu t.qm t.qu ["_law_times","_law_beats","_law_more"]
 Qf:Dfn K mg "_law_doubled" qi t.Jz t.JD ["_law_times","_law_beats"]
 Qg:Dfn K mg "_law_inverse" qj t.JA t.JE ["_law_one","_law_by"]
 QV:Dfn K mg "_law_share" q5 t.JX t.J0 ["_law_one","_law_other"]
 QI:Dfn K mg "_law_due" QS t.QL t.QN ["_law_start","_law_size","_law_other","_law_width","_law_beat"]
 QU:Dfn K mg "_law_asked" q4 t.qR t.qU ["_law_books","_law_words","_law_beat"]
 K8:Dfn K mg "law" Wk t.wa t.kI ["_law_script"]
 ju:Cls K t.jq
 zD:Mk K t.jq t.jD
 zb:mg "RingTally"= some (.ref t.jq)
 jF:NoAttr K t.jq "sizes"
 Jm:NoAttr K t.jq "last"
 jP:NoAttr K t.jq "pieces"
 jv:NoAttr K t.jq "wholes"
 Yh:mg "Broad"= some (.ref t.jW)
 yu:mg "PlayError"= some (.ref t.zF)
 kc:mg "TooLong"= some (.ref t.QC)
 W4:mg "Long"= some (.ref t.ye)
 QA:W.excIn K t.jW [.type "ValueError",.type "Exception",.type "BaseException",.type "object"] "ValueError.__new__"= true
 Zs:ExcI K t.jW
 jQ:W.exmOne K (.ref t.jW) (.ref t.zF)=some true
 Ja:W.kitOne K (.ref t.jW) (.ref t.QC)=some false
 Js:W.kitOne K (.ref t.jW) (.ref t.ye)=some false
 jL:W.kitOne K (.ref t.jW) (.type "ValueError")=some true
 Ji:W.kitOne K (.ref t.jW) (.ref t.jW)=some true
 yb:mg "ValueError"= none
 xt:mg "any"= none
 xC:mg "bool"= none
 xE:mg "dict"= none
 Qn:mg "enumerate"= none
 Xz:mg "int"= none
 JZ:mg "isinstance"= none
 kF:mg "len"= none
 wc:mg "max"= none
 xu:mg "min"= none
 kG:mg "range"= none
 XA:mg "set"= none
 yV:mg "sorted"= none
 xv:mg "sum"= none
 yW:mg "zip"= none
 yf:mg "MOST_NAMES"= some (.ref t.Jp)
 Jk:TabK K t.Jp [("row",.flat (.int 8)),("side",.flat (.int 4))]
section
variable{P:Program}{w:World}{K:Frg}{mg:Str->Option Value}{base:Heap}{t:Ad}
theorem zK(T:Txt K mg t):FnOk P w K mg base CX0 1 t.Jy t.JC ["_law_script","_law_k"] (Pr.sp_cell_at K):=by
 specialize T.jY.F.ok zN;obtain⟨a,g,k,rfl,b,f,d,q⟩:=h;refine⟨_,(jd (JS (jy XE (pv 1) (jI Q1 (by rfl) T.kF yd (ja (pv 0) jb)) (nomark _))
   (jg (jB (jm jX (pv 0) (pv 1))))
   jM)
  (jg (jB jc))),?_⟩
 refine jw (σ':=[some _,some _]) rfl ?_;exists⟨_,_,rfl,.inl ⟨_,b,rfl⟩,?_⟩;exists iteD (fun c=>?_) (fun c=>?_)
 ·walk_at"g";exact⟨a,_,k,_,rfl,rfl,b,Pr.WJ d (by rw[vt]at c;exact c),q⟩
 ·walk_at"g";have e:Pr.cell g k=0:=by
   rw[vt]at c;unfold Pr.cell;rw[vy,List.getElem?_eq_none (by lia)];rfl
  rw[e]at q;exact q
theorem yw(T:Txt K mg t):FnOk P w K mg base CX0 1 t.qm t.qu ["_law_times","_law_beats","_law_more"] (sp_bookY):=by
 specialize T.Qe.F.ok qa;obtain⟨k,b,m,rfl,q⟩:=h;refine⟨_,(jd (jk (i:=3) qa.nd rfl (.inl rfl) (jE (ja (jp (ja ji (ja (jp (ja ji (ja ji (ja (pv 1) jb)))) jb))) (ja (jp (ja ji (ja (jp (ja ji (ja (pv 1) jb))) jb))) (ja (jp (ja ji (ja (jp (ja ji (ja ji (ja jc jb)))) jb))) jb)))))
  (jd (jk (i:=4) qa.nd rfl (.inl rfl) (jp (ja ji (ja ji jb))))
  (jd (Zj (QR (pv 2))
   (jg (jk (i:=4) qa.nd rfl (.inl rfl) (jp (ja ji (ja ji (ja ji (ja ji jb)))))))
   jM)
  (jg (jB (jp (ja (jE (ja (jp (ja ji (ja jc jb))) jb)) (ja (jh yB (pv 3) (jE (ja (jp (ja ji (ja (jp (ja ji (ja (pv 4) jb))) jb))) (ja (jp (ja ji (ja (jp (ja ji (ja (pv 0) (ja ji jb)))) jb))) jb)))) jb)))))))),?_⟩
 refine jw (σ':=[some _,some _,some _,none,none]) rfl ?_;have J:(200:Nat)<sizeLine:=by decide
 exists⟨uh,?_⟩;walk_at"f 1 t";exists⟨ui,?_⟩;walk_at"f 2 t";exists⟨ui,?_⟩;walk_at"f 3 t";exists⟨ui,?_⟩;walk_at"f 4 t";exists⟨uh,?_⟩;walk_at"f 5 t";exists⟨ui,?_⟩;walk_at"f 6 t";exists⟨uh,?_⟩;walk_at"f 7 t";exists⟨ui,?_⟩;walk_at"f 8 t";have I:Same H8 H8:=Same.refl _;have H:=s8.trans I;have G:=s7.trans H;have F:=s6.trans G;have E:=s5.trans F;have D:=s4.trans E;have C:=s3.trans D;have B:=s2.trans C;exists⟨fun σ' y=>IvE1 fun(s:Addr)=>IvA2 (σ'=[some (.int k),some (.int b),some (.bl m),some (.ref p7),some (.ref s)]) (Same H8 y/\y s=some (.tup (((rwY m).map fun j=>nmY.getD j ⟨#[]⟩).map V.str))),?_,?_⟩
 rotate_left
 ·walk_at"g";cases m with
  | true=>
   refine iteT ?_;exists⟨ug,?_⟩;walk_at"f 9 t";walk_at"g";exact⟨p9,rfl,s9,t9⟩
  | false=>
   refine iteF ?_;exact⟨p8,rfl,Same.refl _,t8⟩
 rintro σ' H9 ⟨s,rfl,s9,t9⟩;exists⟨ui,?_⟩;walk_at"f 10 t";exists⟨uj,?_⟩;walk_at"f 11 t";exists⟨ui,?_⟩;walk_at"f 12 t";exists⟨ui,?_⟩;walk_at"f 13 t";exists⟨uh,?_⟩;walk_at"f 14 t";exists⟨ui,?_⟩;walk_at"f 15 t";exists⟨ui,?_⟩;walk_at"f 16 t";exists⟨p7,p16,_,_,rfl,rfl,(s9.trans (s10.trans (s11.trans (s12.trans (s13.trans (s14.trans (s15.trans s16))))))) _ _ (s8 _ _ t7),t16,(by show 3+2<=sizeLine;lia),?_⟩;walk_at"f 17 t";exists⟨ui,?_⟩;walk_at"f 18 t";have v:Same H18 H18:=Same.refl _;have r:=s18.trans v;have u:=s17.trans r;have o:=s16.trans u;have n:=s15.trans o;have l:=s14.trans n;have g:=s13.trans l;have e:=s12.trans g;have d:=s11.trans e;have A:=s10.trans d;have z:=s9.trans A;refine q p18 H18 ((s1.trans B).trans z) fun x=>⟨p11,p17,[p10],[p2,p4,p6,p13,p15],t18,e _ _ t11,All2.cons (d _ _ t10) .nil,r _ _ t17,?_⟩
 have f (a:Addr) (p:Str×Fm) (h:∃c,H8 a=some (.tup [.str p.1,.ref c])/\FormAt H8 c p.2):PartAt H18 a p:=PartAt.same z h;refine All2.cons (f p2 ("rung",.ring "bell" b) ⟨p1,C _ _ t2,B _ _ t1⟩) (All2.cons (f p4 ("wait",.hold b) ⟨p3,E _ _ t4,D _ _ t3⟩) (All2.cons (f p6 ("gong",.ring "gong" 1) ⟨p5,G _ _ t6,F _ _ t5⟩) (All2.cons ⟨p12,l _ _ t13,s,g _ _ t12,A _ _ t9⟩ (All2.cons ⟨p14,o _ _ t15,n _ _ t14⟩ .nil))))
theorem zL(T:Txt K mg t):FnOk P w K mg base CX0 1 t.Jz t.JD ["_law_times","_law_beats"] (sp_doubledY):=by
 specialize T.Qf.F.ok Ju;obtain⟨k,b,rfl,q⟩:=h;refine⟨_,(jd (jk (i:=2) Ju.nd rfl (.inl rfl) (jE (ja (jp (ja ji (ja (jp (ja ji (ja ji (ja (pv 1) jb)))) jb))) (ja (jp (ja ji (ja (jp (ja ji (ja ji (ja jc jb)))) jb))) (ja (jp (ja ji (ja (jp (ja ji (ja ji (ja jc (ja jc jb))))) jb))) jb)))))
  (jd (jk (i:=2) Ju.nd rfl (.inl rfl) (jh yB (pv 2) (jE (ja (jp (ja ji (ja (jp (ja ji (ja ji (ja jc (ja jc jb))))) jb))) (ja (jp (ja ji (ja (jp (ja ji (ja (jp (ja ji (ja ji jb))) jb))) jb))) jb)))))
  (jd (jk (i:=2) Ju.nd rfl (.inl rfl) (jh yB (pv 2) (jE (ja (jp (ja ji (ja (jp (ja ji (ja (jp (ja ji (ja ji jb))) jb))) jb))) (ja (jp (ja ji (ja (jp (ja ji (ja (jp (ja ji (ja ji jb))) jb))) jb))) jb)))))
  (jd (Jn (Qc PySem.F.plainAttrs_list PySem.F.slot_list_append PySem.F.type_list_append Jl (pv 2) (ja (jp (ja ji (ja (jp (ja ji (ja (pv 0) (ja ji jb)))) jb))) jb)))
  (jg (jB (jp (ja (jE (ja (jp (ja ji (ja jc jb))) (ja (jp (ja ji (ja jc jb))) jb))) (ja (pv 2) jb))))))))),?_⟩
 refine jw (σ':=[some _,some _,none]) rfl ?_;have X:(200:Nat)<sizeLine:=by decide
 exists⟨uh,?_⟩;walk_at"f 1 t";exists⟨ui,?_⟩;walk_at"f 2 t";exists⟨uh,?_⟩;walk_at"f 3 t";exists⟨ui,?_⟩;walk_at"f 4 t";exists⟨ug,?_⟩;walk_at"f 5 t";exists⟨ui,?_⟩;walk_at"f 6 t";exists⟨uh,?_⟩;walk_at"f 7 t";exists⟨ug,?_⟩;walk_at"f 8 t";exists⟨ui,?_⟩;walk_at"f 9 t";exists⟨ui,?_⟩;walk_at"f 10 t";exists⟨ui,?_⟩;walk_at"f 11 t";exists⟨ui,?_⟩;walk_at"f 12 t";exists⟨ui,?_⟩;walk_at"f 13 t";exists⟨p7,p13,_,_,rfl,rfl,(s8.trans (s9.trans (s10.trans (s11.trans (s12.trans s13))))) _ _ t7,t13,(by show 3+2<=sizeLine;lia),?_⟩;walk_at"f 14 t";exists⟨ui,?_⟩;walk_at"f 15 t";exists⟨ui,?_⟩;walk_at"f 16 t";exists⟨ui,?_⟩;walk_at"f 17 t";exists⟨ui,?_⟩;walk_at"f 18 t";exists⟨ui,?_⟩;walk_at"f 19 t";exists⟨ui,?_⟩;walk_at"f 20 t";exists⟨ui,?_⟩;walk_at"f 21 t";exists⟨p14,p21,_,_,rfl,rfl,(s15.trans (s16.trans (s17.trans (s18.trans (s19.trans (s20.trans s21)))))) _ _ t14,t21,(by show 5+2<=sizeLine;lia),?_⟩;walk_at"f 22 t";exists⟨.inl ⟨rfl,_,SqL.of t22⟩,?_⟩;exists⟨uh,?_⟩;walk_at"f 23 t";exists⟨ui,?_⟩;walk_at"f 24 t";exists⟨p22,_,_,rfl,rfl,s24 _ _ (s23 _ _ t22),(by show 7<sizeLine;lia),?_⟩;have G:∀{c u},H21 c=some u->c≠p22:=fun h=>je h hp22
 have H:p23≠p22:=Ne.symm (je t22 hp23);have I:p24≠p22:=Ne.symm (je (s23 _ _ t22) hp24);generalize d:upd H24 p22 _=H25;have J:=ZB d;have e:∀c u,c≠p22->H24 c=some u->H25 c=some u:=fun c u n h=>d▸(jf n).trans h
 clear d;have A:=e _ _ H (s24 _ _ t23);have B:=e _ _ I t24;have z:Same H21 H25:=fun c u h=>e _ _ (G h) (s24 _ _ (s23 _ _ (s22 _ _ h)))
 exists⟨ui,?_⟩;walk_at"f 26 t";exists⟨ui,?_⟩;walk_at"f 27 t";exists⟨ui,?_⟩;walk_at"f 28 t";exists⟨ui,?_⟩;walk_at"f 29 t";have F:Same H29 H29:=Same.refl _;have y:=s29.trans F;have x:=s28.trans y;have v:=s27.trans x;have a:=s26.trans v;have E:=z.trans a;have s:=s21.trans E;have r:=s20.trans s;have p:=s19.trans r;have o:=s18.trans p;have m:=s17.trans o;have l:=s16.trans m;have D:=s15.trans l;have C:=s14.trans D;have j:=s13.trans C;have g:=s12.trans j;have f:=s11.trans g;have U:=s10.trans f;have S:=s9.trans U;have W:=s8.trans S;have R:=s7.trans W;have Q:=s6.trans R;have O:=s5.trans Q;have N:=s4.trans O;have M:=s3.trans N;have L:=s2.trans M;refine q p29 H29 (s1.trans L) ⟨p28,p22,[p26,p27],[p2,p4,p6,p9,p12,p17,p20,p24],t29,y _ _ t28,All2.cons (v _ _ t26) (All2.cons (x _ _ t27) .nil),a _ _ J,?_⟩;refine All2.cons ⟨p1,M _ _ t2,L _ _ t1⟩ (All2.cons ⟨p3,O _ _ t4,N _ _ t3⟩ (All2.cons ⟨p5,R _ _ t6,Q _ _ t5⟩ (All2.cons ⟨p8,U _ _ t9,S _ _ t8⟩ (All2.cons ⟨p11,j _ _ t12,p10,g _ _ t11,f _ _ t10⟩ (All2.cons ⟨p16,o _ _ t17,p15,m _ _ t16,l _ _ t15⟩ (All2.cons ⟨p19,s _ _ t20,p18,r _ _ t19,p _ _ t18⟩ (All2.cons ⟨p23,a _ _ B,a _ _ A⟩ .nil)))))))
theorem zM(T:Txt K mg t):FnOk P w K mg base CX0 1 t.JA t.JE ["_law_one","_law_by"] (zH):=by
 refine T.Qg.F.ok jK (fun M H Q E h=>?_) (fun v A l s H M Q E X h=>?_)
 ·obtain⟨o,s,f,rfl,F,I,d,L,G,q⟩:=h;rfl
 obtain⟨o,s,f,rfl,F,I,d,L,G,q⟩:=h;refine⟨_,(jd (yG (i:=2) (j:=3) rfl jK.nd rfl rfl (by decide) rfl rfl (ja (jh Jc (pv 0) (pv 1)) (ja (pv 1) jb)) (by rfl))
  (jd (wX (jp (ja jc (ja jc jb))) (JG rfl (jr (jn (i:=4) jK.nd rfl (.inl rfl)) (jr (jn (i:=5) jK.nd rfl (.inl rfl)) Jg))))
  (jd (zg PassesOwn.never (jy Qs (pv 3) jc (nomark _))
   (jd (jk (i:=6) jK.nd rfl (.inl rfl) (jh jG (pv 2) (pv 3)))
   (jd (yG (i:=2) (j:=3) rfl jK.nd rfl rfl (by decide) rfl rfl (ja (pv 3) (ja (jh JT (pv 2) (jh jz (pv 6) (pv 3))) jb)) (by rfl))
   (jg (yG (i:=4) (j:=5) rfl jK.nd rfl rfl (by decide) rfl rfl (ja (pv 5) (ja (jh JT (pv 4) (jh jz (pv 6) (pv 5))) jb)) (by rfl))))))
  (jg (jB (jh Jc (pv 4) (pv 1))))))),?_⟩
 refine jw (σ':=[some _,some _,none,none,none,none,none]) rfl ?_;have J:=vf o (show s≠0 by lia);have r:=vg o (show 0<s by lia);exists rd_par ?_;exists⟨_,_,rfl,?_⟩;dsimp only[List.set];exists⟨(by show 2<=sizeLine;decide),?_⟩;walk_at"f p1 hp1 H1 s1' t1";refine JV (SqT.of t1) ?_;exists⟨fun n σ' g=>IvE5 fun(a b x y:Int) (p:Option V)=>IvA3 (σ'=[some (.int o),some (.int s),some (.int a),some (.int b),some (.int x),some (.int y),p]) (Same H g) (Ct.Iv (o%s) s a b x y/\n=b.toNat),⟨_,_,_,_,_,_,rfl,s1',Ct.Iv.start J d,rfl⟩,?_⟩;rintro n σ' g ⟨a,b,x,y,p,rfl,u,C,rfl⟩;obtain⟨N,O,R,U,x0,x1,y0,y1⟩:=C.bnd d r;exists iteD (fun c=>?_) (fun c=>?_)
 ·have k:1<=b:=by lia
  have S:=C.step k;obtain⟨_,_,Z,_⟩:=S.bnd d r;have Y:=Q6 (x:=a) (b:=b) (B:=10^100) (by lia) (by lia) (by lia);have z:=Int.emod_add_mul_ediv a b;have D:=vg a (show 0<b by lia);have W:a/b*b=b*(a/b):=Int.mul_comm ..;refine⟨_,fun σ' g h=>h,?_⟩;exists rd_par ?_;exists⟨_,_,rfl,?_⟩;dsimp only[List.set];refine rd_par ?_;exists⟨_,_,rfl,?_⟩;refine⟨(a-a/b*b).toNat,by lia,_,_,_,_,_,rfl,u,S,rfl⟩
 ·have k:b=0:=by lia
  subst k;exists q _ _ u (vf _ (by lia)) (vg _ (by lia)) (Ct.WP d rfl (C.done d (f:=f) ?_));obtain⟨_,_,_,t,e⟩:=G;refine⟨va _,Int.one_dvd _,Int.one_dvd _,t-o/s*f,?_⟩;have m:=Int.emod_add_mul_ediv o s;have:o%s*f=o*f-s*(o/s*f):=by
   rw[<-Int.mul_assoc,<-Int.sub_mul];congr 1;lia
  rw[this,e,Int.mul_sub];lia
theorem Zv(T:Txt K mg t):FnOk P w K mg base CX0 1 t.JX t.J0 ["_law_one","_law_other"] (Z3):=by
 refine T.QV.F.ok QH (fun D H Q E h=>?_) (fun p A f s H D Q E I h=>?_)
 ·obtain⟨r,s,rfl,g,z,k,B,q⟩:=h;rfl
 obtain⟨r,s,rfl,g,z,k,B,q⟩:=h;refine⟨_,(jd (zg PassesOwn.never (jy Qs (pv 1) jc (nomark _))
   (jg (yG (i:=0) (j:=1) rfl QH.nd rfl rfl (by decide) rfl rfl (ja (pv 1) (ja (jh Jc (pv 0) (pv 1)) jb)) (by rfl))))
  (jg (jB (pv 0)))),?_⟩
 refine jw (σ':=[some _,some _]) rfl ?_;exists⟨fun n σ' d=>IvE4 fun(a b x y:Int)=>IvA3 (σ'=[some (.int a),some (.int b)]) (H=d) (Ct.Ce r s a b x y/\n=b.toNat),⟨_,_,_,_,_,rfl,rfl,Ct.Ce.start g k,rfl⟩,?_⟩;rintro n σ' d ⟨a,b,x,y,rfl,rfl,C,rfl⟩;obtain⟨F,m,o,l,_⟩:=id C;exists iteD (fun c=>?_) (fun c=>?_)
 ·have e:1<=b:=by lia
  have S:=C.step e;have J:=S.b0;have u:=Int.emod_add_mul_ediv a b;have v:=vg a (show 0<b by lia);have G:a/b*b=b*(a/b):=Int.mul_comm ..;rw[show a-a/b*b=a%b by lia]at S;refine⟨_,fun σ' d h=>h,?_⟩;refine rd_par ?_;exists⟨_,_,rfl,(a%b).toNat,by lia,_,_,_,_,rfl,rfl,S,rfl⟩
 ·have e:b=0:=by lia
  subst e;walk_at"g";exact q a x C.done
theorem Yn(T:Txt K mg t)(M:FnOk P w K mg base CX0 1 t.JA t.JE ["_law_one","_law_by"] (zH))(L:FnOk P w K mg base CX0 1 t.JX t.J0 ["_law_one","_law_other"] (Z3)):FnOk P w K mg base CX0 2 t.QL t.QN ["_law_start","_law_size","_law_other","_law_width","_law_beat"] (Kl):=by
 refine T.QI.F.ok Qy (fun O H Q E h=>?_) (fun C A j s H O Q E n h=>?_)
 ·obtain⟨a,s,o,w,b,rfl,y,z,d,p,I,J,e,r,l,m,q⟩:=h;rfl
 obtain⟨a,s,o,w,b,rfl,y,z,d,p,I,J,e,r,l,m,q⟩:=h;refine⟨_,(jd (jk (i:=5) Qy.nd rfl (.inl rfl) (jx T.QV L n (ja (pv 1) (ja (pv 3) jb))))
  (jd (JS (jy xy (jh Jc (jh JT (pv 0) (pv 2)) (pv 5)) jc (nomark _))
   (jg (jB zw))
   jM)
  (jd (jk (i:=6) Qy.nd rfl (.inl rfl) (jh Jc (jh jz (jh jG (jh JT (pv 0) (pv 2)) (pv 5)) (jx T.Qg M n (ja (jh jG (pv 3) (pv 5)) (ja (jh jG (pv 1) (pv 5)) jb)))) (jh jG (pv 1) (pv 5))))
  (jg (jB (jh Jb (pv 4) (jh Jc (jh JT (jh Jb (pv 2) (jh jz (pv 3) (pv 6))) (pv 4)) (jh jz (jh jG (pv 1) (pv 5)) (pv 3))))))))),?_⟩
 refine jw (σ':=[some _,some _,some _,some _,some _,none,none]) rfl ?_;exists⟨s,w,rfl,d,by lia,e,by lia,fun g f G=>?_⟩;have g1:=G.1;obtain⟨Z,u⟩:=G.turn;have N:=Ct.qJ d u;have sw:=Ct.qJ e G;have gs:g<=s:=Int.le_of_dvd (by lia) G.2.1;have W:s/g<=s:=Int.ediv_le_self g (by lia);have X:w/g<=w:=Int.ediv_le_self g (by lia);exists iteN (fun c=>?_) (fun c=>?_)
 ·walk_at"g";exact q _ _ (Same.refl _) (.no rfl (Ct.xL G c))
 ·obtain⟨D,v⟩:=G.one;have U:=Q6 (x:=a-o) (b:=g) (B:=1) (by lia) (by lia) (by lia);exists⟨w/g,s/g,D,rfl,by lia,by lia,N,by lia,v,fun x R k x0 x1 F=>?_⟩;have l0:=vf ((a-o)/g*x) (show s/g≠0 by lia);have l1:=vg ((a-o)/g*x) (show 0<s/g by lia);have Y:=Ct.WO d e G c F;have S:0<s/g*w:=Int.mul_pos (by lia) (by lia);walk_at"g";exact q _ _ k (Ct.xM d e p r l m G Y)
theorem Zy(T:Txt K mg t):FnOk P w K mg base CX0 1 t.JB t.JF ["named"] (sp_numbers_of):=by
 specialize T.qL.F.ok JP;obtain⟨l,I,xs,rfl,x,O,M,R,B,q⟩:=h;refine⟨_,(jd (jk (i:=1) JP.nd rfl (.inl rfl) Yt)
  (jd (JH PassesOwn.never rfl (yE (by rfl) T.Qn (ja (pv 0) jb)) (JG rfl (jr (jn (i:=2) JP.nd rfl (.inl rfl)) (jr (jn (i:=3) JP.nd rfl (.inl rfl)) Jg)))
   (jg (Kf (kO hr) (pv 1) (jm jo (pv 3) jc) (pv 2) rfl)))
  (jg (jB (pv 1))))),?_⟩
 refine jw (σ':=[some _,none,none,none]) rfl ?_;have W:(200:Nat)<sizeLine:=by decide
 walk_at"g";walk_at"f d hd H1 s1 t1";exists⟨l,_,rfl,SqL.of (s1 _ _ x),?_⟩;refine Zf (xs:=I.map V.ref) (fun i p c=>IvE2 fun(m n:Option V)=>IvA2 (p=[some (.ref l),some (.ref d),m,n]) (Same H c/\c d=some (.dK (numK (xs.take i))))) ⟨_,_,rfl,s1,t1⟩ ?_ ?_ ?_
 ·rintro i p c _ ⟨m,n,rfl,g,f⟩;exact SqL.of (g _ _ x)
 ·rintro i v p c P G D ⟨m,n,rfl,g,f⟩ F S;rw[vv]at D;obtain⟨a,s,rfl⟩:=vh.mp D;have U:=(vx.mp s).1;have A:xs[i]?=some xs[i]:=vz (by lia);obtain⟨r,L⟩:=M i a _ s A;have E:=g.trans F;have o:(xs.take i).length=i:=by rw[vj];lia
  refine JV (SqT.of S) ?_;exists ixTm (SqT.of (E _ _ L)) rfl ?_;refine⟨d,_,rfl,DPut.k (k:=Sum.inr xs[i]) (F _ _ f) (by rw[wS,o];lia),?_⟩;have N:(Sum.inr xs[i]:Key)∉(numK (xs.take i)).map (·.1):=fun z=>by
   rw[ZY]at z;obtain⟨y,Q,e⟩:=vJ.mp z;have J:y=xs[i]:=Sum.inr.inj e;subst J;obtain⟨j,C,e⟩:=mem_iff_getElem.mp Q;rw[List.getElem_take]at e;rw[o]at C;exact uk e (pairwise_iff_getElem.mp R j i (by lia) (by lia) C)
  refine⟨_,_,rfl,fun b u h=>(jf (je h hd)).trans (E _ _ h),?_⟩;rw[jt,Wa N,take_snoc A,KN,o]
 rintro σ' c ⟨m,n,rfl,g,f⟩;rw[vt,O,v3]at f;walk_at"g";exact q d c g hd f
theorem Yo(T:Txt K mg t):FnOk P w K mg base CX0 1 t.qT t.qW ["form"] (sp_names_in):=by
 specialize T.zX.F.ok Yz;obtain⟨a,f,rfl,d,q⟩:=h;refine⟨_,(jd (JS (jy Xh (jm jo (pv 0) jc) (zU (v:=.ref t.Jp) (by rfl) T.yf rfl) (by with_unfolding_all rfl))
   (jg (jB (jm jo (pv 0) jc)))
   jM)
  (jg (jB (ze (jy qF (jm jo (pv 0) jc) ji (nomark _)) (Yu Wp (pv 0) (Kc jc) Kb) (jp jb))))),?_⟩
 refine jw (σ':=[some _]) rfl ?_;have e:(200:Nat)<sizeLine:=by decide
 cases f with
 | hold n=>
  have c:H a=some (.tup _):=d;exists ixTm (SqT.of c) rfl ?_;exists⟨_,_,_,rfl,rfl,T.Jk,?_⟩;exists iteE0 ?_;exists ixTm (SqT.of c) rfl ?_;exists iteE0 ?_;exists⟨vb _,?_⟩;walk_at"f b hb H1 s1 t1";exact q b H1 s1 t1
 | ring x n=>
  have c:H a=some (.tup _):=d;exists ixTm (SqT.of c) rfl ?_;exists⟨_,_,_,rfl,rfl,T.Jk,?_⟩;exists iteE0 ?_;exists ixTm (SqT.of c) rfl ?_;exists iteE0 ?_;exists⟨vb _,?_⟩;walk_at"f b hb H1 s1 t1";exact q b H1 s1 t1
 | rise x v n=>
  have c:H a=some (.tup _):=d;exists ixTm (SqT.of c) rfl ?_;exists⟨_,_,_,rfl,rfl,T.Jk,?_⟩;exists iteE0 ?_;exists ixTm (SqT.of c) rfl ?_;exists iteE0 ?_;exists⟨vb _,?_⟩;walk_at"f b hb H1 s1 t1";exact q b H1 s1 t1
 | row ps=>
  obtain⟨b,c,hb⟩:=d;exists ixTm (SqT.of c) rfl ?_;exists⟨_,_,_,rfl,rfl,T.Jk,?_⟩;exists iteE1 ?_;exists ixTm (SqT.of c) rfl ?_;exact q b H (Same.refl _) hb
 | side ps=>
  obtain⟨b,c,hb⟩:=d;exists ixTm (SqT.of c) rfl ?_;exists⟨_,_,_,rfl,rfl,T.Jk,?_⟩;exists iteE1 ?_;exists ixTm (SqT.of c) rfl ?_;exact q b H (Same.refl _) hb
 | again k x=>
  have c:H a=some (.tup _):=d;exists ixTm (SqT.of c) rfl ?_;exists⟨_,_,_,rfl,rfl,T.Jk,?_⟩;exists iteE0 ?_;exists ixTm (SqT.of c) rfl ?_;exists iteE1 ?_;exists⟨a,_,rfl,SqT.of c,(by show¬(HT.sIx 3 0 (some 2)=0/\HT.sIx 3 3 none=3);decide),?_⟩;walk_at"f b hb H1 s1 t1";exact q b H1 s1 t1
theorem wT(T:Txt K mg t)(Jj:FnOk P w K mg base CX0 1 t.JB t.JF ["named"] (sp_numbers_of))(QJ:FnOk P w K mg base CX0 1 t.qT t.qW ["form"] (sp_names_in)):FnOk P w K mg base CX0 2 t.Q0 t.Q4 ["book"] (sp_inner):=by
 specialize T.zO.F.ok Qz;obtain⟨b,pl,pp,a0,D,ls,o,rfl,B,W,q⟩:=h;refine⟨_,(jd (jk (i:=1) Qz.nd rfl (.inr rfl) (jx T.qL Jj hr (ja (jm jo (pv 0) jc) jb)))
  (jd (jk (i:=2) Qz.nd rfl (.inl rfl) (jE jb))
  (jd (JH PassesOwn.never rfl (jR (jm jo (pv 0) jc)) (JG rfl (jr (jn (i:=3) Qz.nd rfl (.inl rfl)) (jr (jn (i:=4) Qz.nd rfl (.inl rfl)) Jg)))
   (jg (Jn (Qc PySem.F.plainAttrs_list PySem.F.slot_list_append PySem.F.type_list_append Jl (pv 2) (ja (Jt (ow:=["other"]) (ci:=[1]) rfl (CompScope.of (defScope zV) ["book","numbers","found","name","form"] rfl rfl (by decide +kernel)) (JO (by decide)) (Xj (jx T.zX QJ hr (ja (pv 4) jb))) (fun _ _ _ _ _=>⟨(jn (i:=0) (jU ["book","numbers","found","name","form"] rfl (by decide +kernel)) rfl (.inl rfl)),JU,(kZ (kO hr) (pv 1) (pv 0))⟩)) jb)))))
  (jg (jB (pv 2)))))),?_⟩
 refine jw (σ':=[some _,none,none,none,none]) rfl ?_;have sz:(200:Nat)<sizeLine:=by decide
 have a1:=W.p61;have pa:=B.pa.1;exists ixTm (SqT.of B.t) rfl ?_;exists⟨pp,D,nmsOf o,rfl,B.p,by rw[nmsOf,vt];exact pa,fun i a x ea O=>?_,W.pn,by rw[nmsOf,vt];lia,fun d H1 E hd ed=>?_⟩
 ·unfold nmsOf at O;rw[vv]at O;obtain⟨p,ep,rfl⟩:=vh.mp O;obtain⟨fb,hb,_⟩:=B.pa.2 i a p ea ep;exact⟨_,hb⟩
 exists⟨vb _,?_⟩;walk_at"f l hl H2 s2 t2";have nl:=none_of E hl;have F:=E.trans s2;exists ixTm (SqT.of (F _ _ B.t)) rfl ?_;refine⟨pp,rfl,⟨_,SqL.of (F _ _ B.p)⟩,?_⟩;refine JR (xs:=D.map V.ref) (fun i Y f=>IvE3 fun(m:List Addr) (J L:Option V)=>IvA4 (Y=[some (.ref b),some (.ref d),some (.ref l),J,L]) (Same H1 f) (f l=some (.lst (m.map V.ref))) ((∀a∈m,H a=none/\a≠l)/\ListsAt f m ((o.take i).map fun p=>(inP o p.2).map fun j:Nat=>(j:Int))))
  ⟨[],_,_,rfl,s2,t2,(fun a h=>nomatch h),.nil⟩ ?_ ?_ ?_
 ·rintro i Y f _ ⟨m,J,L,rfl,s,v,C,z⟩;exact SqL.of ((E.trans s) _ _ B.p)
 ·rintro i x Y f I ⟨m,J,L,rfl,s,v,C,z⟩;obtain⟨a,p,rfl,S,fb,R,hf⟩:=B.pa.at_ref I;have hi:=(vx.mp S).1;have X:=E.trans s;obtain⟨wn,w8⟩:=W.f i p S;have U:=z.1;rw[vt,vj]at U;refine JV (SqT.of (X _ _ R)) ?_;exists⟨.inl ⟨rfl,_,SqL.of v⟩,?_⟩;exists⟨fb,p.2,rfl,FormAt.same X hf,fun c G M hc=>?_⟩;refine⟨c,rfl,⟨_,SqT.of hc⟩,?_⟩;refine wk (xs:=p.2.ns.map V.str) (fun j N f=>N=((p.2.ns.take j).map fun x=>(ixOf (nmsOf o) x:Int)).map V.int/\G=f) ⟨rfl,rfl⟩ ?_ ?_ ?_
  ·rintro j N f _ ⟨rfl,rfl⟩;exact SqT.of hc
  ·rintro j x N f I ⟨rfl,rfl⟩;rw[vv]at I;obtain⟨y,Q,rfl⟩:=vh.mp I;have hj:=(vx.mp Q).1;obtain⟨k,hk,Z⟩:=wn y (vm Q);refine Jv (σ':=[none,some _]) rfl ?_;exists iteT ?_;walk_at"g";have g:DGet G d (.str y) (some (.int (k:Nat))):=by
    have g:=DGet.k (k:=Sum.inr y) ((s.trans M) _ _ ed);rw[Yl W.pn Z]at g;exact g
   refine⟨d,_,rfl,g,?_⟩;refine⟨by rw[vt,vt,vj];lia,?_,rfl⟩;rw[take_snoc Q,vk,vk,<-qX W.pn Z];rfl
  rintro N f ⟨rfl,rfl⟩;rw[show(p.2.ns.map V.str).length=p.2.ns.length from vt _,v3];refine⟨by rw[vt,vt];lia,?_⟩;walk_at"f 4 t";have r:=M.trans s4;exists⟨l,_,_,rfl,rfl,r _ _ v,by rw[vt];lia,?_⟩;have A:p4≠l:=(je (M _ _ v) hp4).symm;have n4:H p4=none:=none_of (X.trans M) hp4;refine⟨m++[p4],_,_,rfl,fun c u h=>(jf (je h hl)).trans ((s.trans r) _ _ h),?_,fun c n=>?_,?_⟩
  ·rw[jt,vk];rfl
  ·rcases vi.mp n with e | e
   ·exact C c e
   ·rw[vo.mp e];exact⟨n4,A⟩
  ·rw[take_snoc S,vk];refine All2.snoc (All2.monoM z fun c n ks h=>(jf (C c n).2).trans (r _ _ h)) ?_;have eq:List.map (fun j:Nat=>(j:Int)) (inP o p.2)=p.2.ns.map fun x=>(ixOf (nmsOf o) x:Int):=by
    unfold inP;rw[v4];rfl
   show upd H4 l _ p4=some (.lst (List.map V.int (List.map (fun j:Nat=>(j:Int)) (inP o p.2))));rw[jf A,t4,eq]
 rintro σ' G ⟨m,J,L,rfl,s,v,C,z⟩;rw[vt,pa,v3]at z;walk_at"g";exact q l m G (E.trans s) nl v (fun a ha=>(C a ha).1) z
theorem W8(T:Txt K mg t)(Jj:FnOk P w K mg base CX0 1 t.JB t.JF ["named"] (sp_numbers_of))(JW:FnOk P w K mg base CX0 2 t.Q0 t.Q4 ["book"] (sp_inner)):FnOk P w K mg base CX0 3 t.YO t.YY ["book"] (sp_ends):=by
 specialize T.K7.F.ok qA;obtain⟨b,pl,pp,an,au,ls,ps,rfl,B,W,q⟩:=h;refine⟨_,(jd (jk (i:=1) qA.nd rfl (.inl rfl) (jx T.qL Jj hr (ja (jm jo (pv 0) jc) jb)))
  (jd (jk (i:=2) qA.nd rfl (.inl rfl) (jE jb))
  (jd (JH PassesOwn.never rfl (Zi (by rfl) T.yW (ja (jm jo (pv 0) jc) (ja (jx T.zO JW hr (ja (pv 0) jb)) jb))) (JG rfl (jr (jn (i:=3) qA.nd rfl (.inl rfl)) (jr (jn (i:=4) qA.nd rfl (.inl rfl)) Jg)))
   (jd (jk (i:=5) qA.nd rfl (.inl rfl) (jm jo (pv 3) jc))
   (jd (jk (i:=6) qA.nd rfl (.inl rfl) Yt)
   (jd (Zj (jy qF (jm jo (pv 5) jc) ji (nomark _))
    (jg (Kf (kO hr) (pv 6) (kZ (kO hr) (pv 1) (jm jo (pv 5) jc)) (jm jo (pv 5) jc) rfl))
    jM)
   (jd (JH PassesOwn.never rfl (jR (pv 4)) (jn (i:=7) qA.nd rfl (.inl rfl))
    (jg (Jn (Qc PySem.F.plainAttrs_dict PySem.F.slot_dict_update PySem.F.type_dict_update KL (pv 6) (ja (Z0 (YS rfl) (by rfl) T.xE WM (ja (jm jX (pv 2) (pv 7)) jb)) jb)))))
   (jg (Jn (Qc PySem.F.plainAttrs_list PySem.F.slot_list_append PySem.F.type_list_append Jl (pv 2) (ja (jI (yg rfl) (by rfl) T.yV Ks (ja (wV PySem.F.plainAttrs_dict PySem.F.slot_dict_items PySem.F.type_dict_items wP (pv 6)) jb)) jb)))))))))
  (jg (jB (pv 2)))))),?_⟩
 refine jw (σ':=[some _,none,none,none,none,none,none,none]) rfl ?_;have sz:(200:Nat)<sizeLine:=by decide
 have aK:=W.p61;have l8:=W.l8;have pa:=B.pa.1;have la:=B.la.1;exists ixTm (SqT.of B.t) rfl ?_;exists⟨pl,an,nmsOf ls,rfl,B.l,by rw[nmsOf,vt];exact la,fun i a x ea ex=>?_,W.ln,by rw[nmsOf,vt];lia,fun d H1 s1 hd ed=>?_⟩
 ·unfold nmsOf at ex;rw[vv]at ex;obtain⟨p,ep,rfl⟩:=vh.mp ex;exact⟨_,B.la.2 i a p ea ep⟩
 exists⟨vb _,?_⟩;walk_at"f l hl H2 s2 t2";have nl:=none_of s1 hl;have ac:=s1.trans s2;have aD:d≠l:=je ed hl;exists ixTm (SqT.of (ac _ _ B.t)) rfl ?_;exists⟨b,pl,pp,an,au,ls,ps,rfl,B.same ac,W,fun li am H3 s3 al af aF lia=>?_⟩;walk_at"g";have C:=ac.trans s3;have ao:=lia.1;rw[vt]at ao;have aG:li≠l:=fun z=>by rw[z,t2]at al;cases al
 refine⟨pp,li,_,_,rfl,SqL.of (C _ _ B.p),SqL.of af,?_⟩;have a9:∀{c u},H c=some u->c≠l:=fun h=>je h nl
 have t3:H3 l=some (.lst []):=s3 _ _ t2;refine kN (xs:=au.map V.ref) (ys:=am.map V.ref) (fun i σ H'=>IvE7 fun(R:List Addr) (E:List (List (Int×Int))) (o3 o4 o5 o6 M:Option V)=>IvA6 (σ=[some (.ref b),some (.ref d),some (.ref l),o3,o4,o5,o6,M]) (∀c u,c≠l->H3 c=some u->H' c=some u) (H' l=some (.lst (R.map V.ref))) (∀a∈R,H a=none/\a≠l) (E.length=i) (EndsAt H' R E/\EndOk ls ps E))
  (by rw[vt,vt];lia) ⟨[],[],_,_,_,_,_,rfl,fun c u _ h=>h,t3,(fun a h=>nomatch h),rfl,.nil,fun i p e _ h=>by simp at h⟩ ?_ ?_ ?_
 ·rintro i σ H' _ ⟨R,E,o3,o4,o5,o6,M,rfl,sm,e1,na,lE,aE,oE⟩;exact⟨SqL.of (sm _ _ (a9 B.p) (C _ _ B.p)),SqL.of (sm _ _ aG af)⟩
 ·rintro i u v σ H' P Q hu hv ⟨R,E,o3,o4,o5,o6,M,rfl,sm,e1,na,lE,aE,oE⟩ sP tP;obtain⟨a,p,rfl,hp,fb,ag,hf⟩:=B.pa.at_ref hu;obtain⟨ia,is,rfl,ak,ay⟩:=lia.at_ref hv;rw[vv,hp]at ak;cases ak;have hi:=(vx.mp hp).1;have aA:ia∈am:=by
   rw[vv]at hv;obtain⟨a',ea,e'⟩:=vh.mp hv;injection e' with e';subst e';exact vm ea
  have aq:ia≠l:=fun z=>by have:=aF ia aA;rw[z,t2]at this;cases this
  have y:∀c u,c≠l->H3 c=some u->Q c=some u:=fun c u S h=>sP _ _ (sm _ _ S h)
  have ah:Q a=_:=y _ _ (a9 ag) (C _ _ ag);have U:Q ia=_:=y _ _ aq ay;have aw:Q d=_:=y _ _ aD (s3 _ _ (s2 _ _ ed));have F:=sP _ _ e1;have a3:FormAt Q fb p.2:=by
   have G:=FormAt.same C hf;generalize p.2=f at G;have Z:∀{c:Addr} {xs:List V},H3 c=some (.tup xs)->c≠l:=fun h=>Yk h t3 (fun z=>by cases z)
   cases f with
   | row ps=>obtain⟨c,s,J⟩:=G;exact⟨c,y _ _ (Z s) s,y _ _ (Z J) J⟩
   | side ps=>obtain⟨c,s,J⟩:=G;exact⟨c,y _ _ (Z s) s,y _ _ (Z J) J⟩
   | hold n=>exact y _ _ (Z G) G
   | ring x n=>exact y _ _ (Z G) G
   | rise x g n=>exact y _ _ (Z G) G
   | again x n=>exact y _ _ (Z G) G
  have w8:=(W.f i p hp).2;have wr:=fun x h n (e:p.2 = .rise x h n)=>W.r i p.1 x h n (by rw[hp,<-e])
  have aB:=fun j=>W.inP_lt (j:=j) hp
  have ad:=y8 W (by lia) oE;have ae:∀(j:Nat) (e:List (Int×Int)),E[j]?=some e->e.length<=8:=fun j e h=>y9 W (by lia) oE h
  refine JV (SqT.of tP) ?_;exists ixTm (SqT.of ah) rfl ?_;walk_at"g";walk_at"f dl hdl H5 s5 t5";exists⟨fun σ' H6=>σ'=[some (.ref b),some (.ref d),some (.ref l),some (.ref a),some (.ref ia),some (.ref fb),some (.ref dl),M]/\Same Q H6/\H6 dl=some (.dK ((kv0 ls p.2).map iiK)),?_,?_⟩
  rotate_left
  ·by_cases a6:∃x h n,p.2 = .rise x h n
   ·obtain⟨x,h,n,e⟩:=a6;rw[e]at a3;have a4:H5 fb=some (.tup [.str "raise",.str x,.int h,.int n]):=s5 _ _ a3;obtain⟨j,L⟩:=wr x h n e;exists ixTm (SqT.of a4) rfl ?_;exists iteE1 ?_;exists ixTm (SqT.of a4) rfl ?_;exists ixTm (SqT.of a4) rfl ?_;have g:DGet H5 d (.str x) (some (.int (j:Nat))):=by
     have g:=DGet.k (k:=Sum.inr x) (s5 _ _ aw);rw[Yl W.ln L]at g;exact g
    refine⟨d,_,rfl,g,?_⟩;refine⟨dl,_,rfl,DPut.k (k:=Sum.inl (j:Int)) t5 (by show 0<sizeLine;lia),?_⟩;refine⟨rfl,fun c u h=>(jf (je h hdl)).trans (s5 _ _ h),?_⟩;rw[jt,e];show _=some (HO.dK [iiK ((ixOf (nmsOf ls) x:Nat),h)]);rw[qX W.ln L];rfl
   ·obtain⟨k,xs,hk,dk⟩:=wD a3 fun x v n e=>a6 ⟨x,v,n,e⟩
    exists ixTm (SqT.of (s5 _ _ hk)) (at0) ?_;exists iteB0 dk ?_;exists⟨rfl,s5,?_⟩;rw[WX fun x v n e=>a6 ⟨x,v,n,e⟩];exact t5
  rintro σ' H6 ⟨rfl,s6,t6⟩;walk_at"g";have ai:=s6 _ _ U;have a8:∀{c u},Q c=some u->c≠dl:=fun h=>je h hdl
  refine⟨ia,rfl,⟨_,SqL.of ai⟩,?_⟩;refine JR (xs:=((inP ps p.2).map fun j:Nat=>(j:Int)).map V.int) (fun t σ H7=>IvE2 fun(m:List (Int×Int)) (M:Option V)=>IvA5 (σ=[some (.ref b),some (.ref d),some (.ref l),some (.ref a),some (.ref ia),some (.ref fb),some (.ref dl),M]) (Same Q H7) (H7 dl=some (.dK (m.map iiK))) ((m.map (·.1)).Nodup) (∀k v,(k,v)∈m↔LastIn E ((inP ps p.2).take t) k v\/(k,v)∈kv0 ls p.2))
   ⟨_,_,rfl,s6,t6,xY _,fun k v=>⟨.inr,fun h=>h.elim (fun⟨ab,j,a1,e,_⟩=>by cases ab<;>simp at e) id⟩⟩ ?_ ?_ ?_
  ·rintro t σ H7 _ ⟨m,M,rfl,D,t7,A,Y⟩;exact SqL.of (D _ _ U)
  ·rintro t x σ H7 hx ⟨m,M,rfl,D,t7,A,Y⟩;rw[vv,vv]at hx;obtain⟨jj,az,rfl⟩:=vh.mp hx;obtain⟨j,L,rfl⟩:=vh.mp az;have aI:=aB j (vm L);have e0:kv0 ls p.2=[]:=by
    rcases xW (ps:=ps) (ls:=ls) p.2 with z | z
    ·rw[z]at L;simp at L
    ·exact z
   rw[e0]at Y;have hE:E[j]?=some (E.getD j []):=by rw[vy,vz (by lia)];rfl
   obtain⟨aj,ax,bs,a2,N⟩:=aE.get hE;have ap:((E.getD j []).map (·.1)).Nodup:=((oE j _ _ (vz (by lia)) hE).1).imp fun h=>Int.ne_of_lt h
   have e8:=ae j _ hE;have k8:m.length<=8:=by
    have z:=QE (n:=ls.length) A fun k hk=>by
     obtain⟨I,a5,rfl⟩:=vJ.mp hk;rcases(Y I.1 I.2).mp a5 with⟨ab,X,a1,_,o,_⟩ | o
     ·exact ad X _ o
     ·exact nomatch o
    rw[vt]at z;lia
   exists⟨.inr (.inr (.inl ⟨rfl,.inl ⟨_,t7⟩⟩)),?_⟩;exists ixLm (SqL.of (D _ _ F)) (Z9 (i:=(j:Int)) (by lia) ax) ?_;exists⟨aj,bs,E.getD j [],rfl,D _ _ (sP _ _ a2),N.1,fun X c I s J=>D _ _ (sP _ _ (N.2 X c I s J)),?_⟩;walk_at"f d2 hd2 H8 s8 t8";walk_at"g";rw[show([]:List (Key×V))=([]:List (Int×Int)).map iiK from rfl,QQ,ka ap]at t8;have n2:dl≠d2:=je t7 hd2;refine⟨dl,d2,_,_,rfl,rfl,s8 _ _ t7,t8,n2,by rw[vt,vt];lia,?_⟩;rw[QQ];obtain⟨mn,mm⟩:=ZW A ap;refine⟨mergeI m (E.getD j []),_,rfl,fun c u h=>(jf (a8 h)).trans (s8 _ _ (D _ _ h)),jt,mn,fun k v=>?_⟩;rw[mm,Y,e0,take_snoc L,KG];constructor
   ·rintro(h | ⟨s,h | h⟩)
    ·exact .inl (.inl h)
    ·exact .inl (.inr ⟨s,h⟩)
    ·exact nomatch h
   ·rintro((h | ⟨s,h⟩) | h)
    ·exact .inl h
    ·exact .inr ⟨s,.inl h⟩
    ·exact nomatch h
  rintro σ' H7 ⟨m,aJ,rfl,D,t7,A,Y⟩;rw[vt,vt,v3]at Y;have k8:m.length<=8:=by
   have z:=QE (n:=ls.length) A fun k hk=>by
    obtain⟨I,a5,rfl⟩:=vJ.mp hk;rcases(Y I.1 I.2).mp a5 with⟨ab,X,a1,_,o,_⟩ | o
    ·exact ad X _ o
    ·obtain⟨x,n,e,ek⟩:=yt.mp o;obtain⟨j,L⟩:=wr x _ n e;have h3:=kQ (vm L);have h4:(nmsOf ls).length=ls.length:=vt _;rw[ek];lia
   rw[vt]at z;lia
  exists⟨.inl ⟨rfl,_,SqL.of (D _ _ F)⟩,?_⟩;exists⟨.inr (.inr (.inl ⟨rfl,.inl ⟨_,t7⟩⟩)),dl,_,rfl,rfl,t7,?_⟩;walk_at"f vw hvw H8 s8 t8";exists⟨vw,dl,m,rfl,t8,s8 _ _ t7,by lia,fun r cs ms H9 s9 a7 e9 n9 a0 pw aC av=>?_⟩;walk_at"g";have aH:=aE.1;refine⟨l,_,_,rfl,rfl,s9 _ _ (s8 _ _ (D _ _ F)),by rw[vt];lia,?_⟩;have O:=D.trans (s8.trans s9);have aa:r≠l:=(je (s8 _ _ (D _ _ F)) a7).symm;have nr:H r=none:=by
   cases z:H r with
   | none=>rfl
   | some u=>rw[s8 _ _ (D _ _ (y _ _ aa (C _ _ z)))]at a7;cases a7
  have ar:∀{c:Addr} {xs:List V},H9 c=some (.tup xs)->c≠l:=fun h=>Yk h (O _ _ F) (fun z=>by cases z)
  refine⟨R++[r],E++[ms],_,_,_,_,_,rfl,fun c u S h=>(jf S).trans (O _ _ (y _ _ S h)),?_,fun c S=>?_,by rw[vn,lE];rfl,?_,?_⟩
  ·rw[jt,vk];rfl
  ·rcases vi.mp S with z | z
   ·exact na c z
   ·rw[vo.mp z];exact⟨nr,aa⟩
  ·refine All2.snoc (All2.monoM aE fun c S e h=>?_) ?_
   ·obtain⟨bs,a2,N⟩:=h;refine⟨bs,(jf (na c S).2).trans (O _ _ (sP _ _ a2)),All2.mono N fun c' I h'=>?_⟩;have h9:=O _ _ (sP _ _ h');exact(jf (ar h9)).trans h9
   ·exact⟨cs,(jf aa).trans e9,aC,fun X c I s J=>(jf (ar (av X c I s J))).trans (av X c I s J)⟩
  ·refine EndOk.snoc W oE (p:=p) (by rw[lE];exact hp) ?_ fun k v=>?_
   ·exact K0 (a0.map _) A pw
   ·rw[a0.mem_iff,Y];exact⟨fun h=>h.imp id yt.mp,fun h=>h.imp id yt.mpr⟩
 rintro σ' H' ⟨R,E,o3,o4,o5,o6,M,rfl,sm,e1,na,lE,aE,oE⟩;rw[vt]at lE;walk_at"g";exact q l R E H' (fun c u h=>sm _ _ (a9 h) (C _ _ h)) nl e1 (fun a ha=>(na a ha).1) (by lia) aE oE
theorem wU(T:Txt K mg t)(YL:FnOk P w K mg base CX0 3 t.YO t.YY ["book"] (sp_ends)):FnOk P w K mg base CX0 4 t.Z7 t.yi ["book"] (sp_moved):=by
 specialize T.kC.F.ok Zl;obtain⟨b,pl,pp,R,Z,ls,ps,rfl,B,W,q⟩:=h;refine⟨_,(jd (jk (i:=1) Zl.nd rfl (.inl rfl) (jE jb))
  (jd (JH PassesOwn.never rfl (jR (jx T.K7 YL hr (ja (pv 0) jb))) (jn (i:=2) Zl.nd rfl (.inl rfl))
   (jg (Jn (Qc PySem.F.plainAttrs_list PySem.F.slot_list_append PySem.F.type_list_append Jl (pv 1) (ja (Jt (ow:=["limb","height"]) (ci:=[]) rfl (CompScope.of (defScope zW) ["book","found","left"] rfl rfl (by decide +kernel)) (zR (by decide) (by decide)) (jR (pv 2)) (fun _ _ _ _ _=>⟨(JG rfl (jr (jn (i:=0) (jU ["book","found","left"] rfl (by decide +kernel)) rfl (.inl rfl)) (jr (jn (i:=1) (jU ["book","found","left"] rfl (by decide +kernel)) rfl (.inl rfl)) Jg))),JU,(pv 0)⟩)) jb)))))
  (jg (jB (pv 1))))),?_⟩
 refine jw (σ':=[some _,none,none]) rfl ?_;have sz:(200:Nat)<sizeLine:=by decide
 have a2:=W.p61;exists⟨vb _,?_⟩;walk_at"f l hl H1 s1 t1";exists⟨b,pl,pp,R,Z,ls,ps,rfl,B.same s1,W,fun e as E H2 s2 he ee ne lE aE Y=>?_⟩;have F:=aE.1;have a0:=s1.trans s2;have l2:H2 l=some (.lst []):=s2 _ _ t1;have X:l≠e:=fun z=>by rw[z,he]at t1;cases t1
 refine⟨e,rfl,⟨_,SqL.of ee⟩,?_⟩;refine JR (xs:=as.map V.ref) (fun i σ n=>IvE2 fun(g:List Addr) (C:Option V)=>IvA4 (σ=[some (.ref b),some (.ref l),C]) (∀c u,c≠l->H2 c=some u->n c=some u) (n l=some (.lst (g.map V.ref))) ((∀c∈g,H1 c=none/\c≠l)/\ListsAt n g ((E.take i).map fun e=>e.map (·.1))))
  ⟨[],_,rfl,fun c u _ h=>h,l2,(fun c h=>nomatch h),.nil⟩ ?_ ?_ ?_
 ·rintro i σ n _ ⟨g,C,rfl,m,p,y,r⟩;exact SqL.of (m _ _ X.symm ee)
 ·rintro i x σ n N ⟨g,C,rfl,m,p,y,r⟩;obtain⟨a,I,rfl,f,G,L,A⟩:=aE.at_ref N;have hi:=(vx.mp f).1;have Q:=r.1;rw[vt,vj]at Q;have am:a∈as:=by
   rw[vv]at N;obtain⟨a',ea,H⟩:=vh.mp N;injection H with H;subst H;exact vm ea
  have S:a≠l:=fun z=>by have:=ne a am;rw[z,t1]at this;cases this
  have s:n a=some (.lst (G.map V.ref)):=m _ _ S L;have a1:=(Y i _ I (vz (by lia)) f).1;have J:=y9 W (by lia) Y f;exists⟨.inl ⟨rfl,_,SqL.of p⟩,?_⟩;exists⟨a,rfl,⟨_,SqL.of s⟩,?_⟩;refine Je (xs:=G.map V.ref) (fun j D d=>D=((I.take j).map (·.1)).map V.int/\n=d) ⟨rfl,rfl⟩ ?_ ?_ ?_
  ·rintro j D d _ ⟨rfl,rfl⟩;exact SqL.of s
  ·rintro j x D d O ⟨rfl,rfl⟩;obtain⟨c,kv,rfl,v,M⟩:=A.at_ref O;have hj:=(vx.mp v).1;have U:c≠l:=fun z=>by rw[z,l2]at M;cases M
   refine Jv (σ':=[none,none]) rfl ?_;refine JV (SqT.of (m _ _ U M)) ?_;exists iteT ?_;exists⟨by rw[vt,vt,vj];lia,?_,rfl⟩;rw[take_snoc v,vk,vk];rfl
  rintro D d ⟨rfl,rfl⟩;rw[show(G.map V.ref).length=I.length by rw[vt];exact A.1,v3];refine⟨by rw[vt,vt];lia,?_⟩;walk_at"f 4 t";exists⟨l,_,_,rfl,rfl,s4 _ _ p,by rw[vt];lia,?_⟩;have o:p4≠l:=(je p hp4).symm;have n4:H1 p4=none:=by
   cases z:H1 p4 with
   | none=>rfl
   | some u=>rw[m _ _ o (s2 _ _ z)]at hp4;cases hp4
  refine⟨g++[p4],_,rfl,fun c u k h=>(jf k).trans (s4 _ _ (m _ _ k h)),?_,fun c k=>?_,?_⟩
  ·rw[jt,vk];rfl
  ·rcases vi.mp k with z | z
   ·exact y c z
   ·rw[vo.mp z];exact⟨n4,o⟩
  ·rw[take_snoc f,vk];exact All2.snoc (All2.monoM r fun c k ks h=>(jf (y c k).2).trans (s4 _ _ h)) ((jf o).trans t4)
 rintro σ' H3 ⟨g,C,rfl,m,p,y,r⟩;rw[vt,F,v3]at r;exists q l g (E.map fun e=>e.map (·.1)) H3 (fun c u h=>m _ _ (je h hl) (a0 _ _ h)) hl p (fun c k=>none_of s1 (y c k).1) (by rw[vt];exact lE) r (Xc lE Y)
theorem Zx(T:Txt K mg t):FnOk P w K mg base CX0 1 t.JY t.J1 ["row","moves","limbs"] (sp_check_side):=by
 specialize T.QX.F.ok qE;obtain⟨r,l,G,F,C,M,rfl,z,B,R,J,g,D,q⟩:=h;refine⟨_,(jd (JS (jy (Xg hr.units) (jE jb) (pv 1) (by with_unfolding_all rfl))
   (jg zf)
   jM)
  (jg (JH PassesOwn.never rfl (yE (by rfl) T.Qn (ja (pv 2) jb)) (JG rfl (jr (jn (i:=3) qE.nd rfl (.inr rfl)) (jr (jn (i:=4) qE.nd rfl (.inl rfl)) Jg)))
   (jg (JS (jy Qs (jI Q1 (by rfl) T.kF yd (ja (Jt (ow:=["move"]) (ci:=[3]) rfl (CompScope.of (defScope J3) ["row","moves","limbs","number","limb"] rfl rfl (by decide +kernel)) (JO (by decide)) (jR (pv 1)) (fun _ _ _ _ _=>⟨(jn (i:=0) (jU ["row","moves","limbs","number","limb"] rfl (by decide +kernel)) rfl (.inl rfl)),(km (jy (kh (K:=K) rfl) (pv 1) (pv 0) (by with_unfolding_all rfl))),kU⟩)) jb)) jc (nomark _))
    (jg zf)
    jM))))),?_⟩
 refine jw (σ':=[some _,some _,some _,none,none]) rfl ?_;have Y:(200:Nat)<sizeLine:=by decide
 have m:=B.1;exists⟨vb _,?_⟩;walk_at"f 0 t";exists⟨p0,l,F,M,rfl,rfl,t0,s0 _ _ z,m,fun i b e L N=>s0 _ _ (B.2 i b e L N),?_⟩;exists iteB0 (any_empty R) ?_;exists⟨G,_,rfl,SqL.of (s0 _ _ g),?_⟩;refine Zf (xs:=C.map V.ref) (fun i E f=>IvE2 fun(p s:Option V)=>E=[some (.int r),some (.ref l),some (.ref G),p,s]/\Same H f) ⟨_,_,rfl,s0⟩ ?_ ?_ ?_
 ·rintro i E f _ ⟨p,s,rfl,n⟩;exact SqL.of (n _ _ g)
 ·rintro i v E f P I W ⟨p,s,rfl,n⟩ S U;have u:=n.trans S;refine JV (SqT.of U) ?_;exists⟨l,rfl,⟨_,SqL.of (u _ _ z)⟩,?_⟩;refine Je (xs:=F.map V.ref) (fun j y c=>y.length=((M.take j).filter fun e=>decide ((i:Int)∈e)).length/\I=c) ⟨rfl,rfl⟩ ?_ ?_ ?_
  ·rintro j y c _ ⟨_,rfl⟩;exact SqL.of (u _ _ z)
  ·rintro j x y c A ⟨o,rfl⟩;obtain⟨a,e,rfl,k,O⟩:=B.at_ref A;refine Jv (σ':=[none,some _]) rfl ?_;exists⟨a,_,rfl,.inl (SqL.of (u _ _ O)),rfl,flats e,?_⟩;rw[inI];walk_at"g";have Q:((M.take j).filter fun e=>decide ((i:Int)∈e)).length<=8:=vU (List.length_filter_le _ _) (vU (List.length_take_le' _ _) J);refine iteD (fun d=>?_) (fun d=>?_)
   ·exists⟨by lia,?_,rfl⟩;rw[take_snoc k,filter_append,filter_cons,ve (vF d),vn,vn,o];rfl
   ·refine⟨?_,rfl⟩;rw[take_snoc k,filter_append,filter_cons,vd (by simpa using d),vn,o];rfl
  rintro y c ⟨o,rfl⟩;rw[vt,m,v3]at o;have X:=D (i:Int);refine⟨by lia,?_⟩;walk_at"f 2 t";exists⟨_,_,rfl,.inl ⟨_,SqL.of t2,rfl⟩,?_⟩;exists iteD (fun d=>?_) (fun d=>?_)
  ·exfalso;lia
  ·walk_at"g";exact⟨_,_,rfl,u.trans s2⟩
 rintro σ' f ⟨p,s,rfl,n⟩;exact q f n
theorem yy(T:Txt K mg t):FnOk P w K mg base CX0 1 t.qp t.qw ["form","inside"] (sp_length_of):=by
 specialize T.zA.F.ok yK;obtain⟨a,l,f,j,rfl,d,i,e,q⟩:=h;refine⟨_,(jd (JS (jy qF (jm jo (pv 0) jc) ji (nomark _))
   (jg (jB (jI (ZJ rfl) (by rfl) T.xv we (ja (pv 1) jb))))
   jM)
  (jd (JS (jy qF (jm jo (pv 0) jc) ji (nomark _))
   (jg (jB (jI (Kv rfl) (by rfl) T.wc YR (ja (pv 1) jb))))
   jM)
  (jd (JS (jy qF (jm jo (pv 0) jc) ji (nomark _))
   (jg (jB (jh jz (jm jo (pv 0) jc) (jm jX (pv 1) jc))))
   jM)
  (jg (jB (jm jo (pv 0) (Yv Zn jc))))))),?_⟩
 refine jw (σ':=[some _,some _]) rfl ?_;have z:(200:Nat)<sizeLine:=by decide
 cases f with
 | hold n=>
  have c:H a=some (.tup _):=d;exists ixTm (SqT.of c) rfl ?_;exists iteE0 ?_;exists ixTm (SqT.of c) rfl ?_;exists iteE0 ?_;exists ixTm (SqT.of c) rfl ?_;exists iteE0 ?_;exists ixTm (SqT.of c) rfl ?_;exact q _ rfl
 | ring x n=>
  have c:H a=some (.tup _):=d;exists ixTm (SqT.of c) rfl ?_;exists iteE0 ?_;exists ixTm (SqT.of c) rfl ?_;exists iteE0 ?_;exists ixTm (SqT.of c) rfl ?_;exists iteE0 ?_;exists ixTm (SqT.of c) rfl ?_;exact q _ rfl
 | rise x v n=>
  have c:H a=some (.tup _):=d;exists ixTm (SqT.of c) rfl ?_;exists iteE0 ?_;exists ixTm (SqT.of c) rfl ?_;exists iteE0 ?_;exists ixTm (SqT.of c) rfl ?_;exists iteE0 ?_;exists ixTm (SqT.of c) rfl ?_;exact q _ rfl
 | row ps=>
  obtain⟨b,c,p⟩:=d;exists ixTm (SqT.of c) rfl ?_;exists iteE1 ?_;exists⟨l,j,rfl,SqL.of i,?_⟩;exact q _ rfl
 | side ps=>
  obtain⟨b,c,p⟩:=d;exists ixTm (SqT.of c) rfl ?_;exists iteE0 ?_;exists ixTm (SqT.of c) rfl ?_;exists iteE1 ?_;exists⟨l,j,rfl,SqL.of i,List.length_pos_iff.mpr e,fun g m o=>?_⟩;exact q g ⟨m,o⟩
 | again k x=>
  have c:H a=some (.tup _):=d;obtain⟨y,r,rfl,s,u,A,B⟩:=e;exists ixTm (SqT.of c) rfl ?_;exists iteE0 ?_;exists ixTm (SqT.of c) rfl ?_;exists iteE0 ?_;exists ixTm (SqT.of c) rfl ?_;exists iteE1 ?_;exists ixTm (SqT.of c) rfl ?_;exists ixLm (SqL.of i) (at0) ?_;walk_at"g";exact q _ ⟨y,rfl,rfl⟩
theorem kf(T:Txt K mg t)(JW:FnOk P w K mg base CX0 2 t.Q0 t.Q4 ["book"] (sp_inner))(Z6:FnOk P w K mg base CX0 4 t.Z7 t.yi ["book"] (sp_moved))(qQ:FnOk P w K mg base CX0 1 t.JY t.J1 ["row","moves","limbs"] (sp_check_side))(Qj:FnOk P w K mg base CX0 1 t.qp t.qw ["form","inside"] (sp_length_of)):FnOk P w K mg base CX0 5 t.zk t.zn ["book"] (sp_lengths):=by
 specialize T.ZA.F.ok Jw;obtain⟨b,pl,pp,R,a6,ls,C,gs,hs,rfl,B,S,q⟩:=h;refine⟨_,(jd (jk (i:=1) Jw.nd rfl (.inr rfl) (jx T.kC Z6 hr (ja (pv 0) jb)))
  (jd (jk (i:=2) Jw.nd rfl (.inr rfl) (jE jb))
  (jd (JH PassesOwn.never rfl (yE (by rfl) T.Qn (ja (jx T.zO JW hr (ja (pv 0) jb)) jb)) (JG rfl (jr (jn (i:=3) Jw.nd rfl (.inl rfl)) (jr (jn (i:=4) Jw.nd rfl (.inl rfl)) Jg)))
   (jd (jk (i:=5) Jw.nd rfl (.inl rfl) (jm jo (jm jX (jm jo (pv 0) jc) (pv 3)) jc))
   (jd (Zj (jy qF (jm jo (pv 5) jc) ji (nomark _))
    (jg (Jn (jx T.QX qQ hr (ja (pv 3) (ja (Jt (ow:=["part"]) (ci:=[1]) rfl (CompScope.of (defScope qG) ["book","moves","found","row","inside","form","length"] rfl rfl (by decide +kernel)) (JO (by decide)) (jR (pv 4)) (fun _ _ _ _ _=>⟨(jn (i:=0) (jU ["book","moves","found","row","inside","form","length"] rfl (by decide +kernel)) rfl (.inl rfl)),JU,(jm (qe (K:=K) rfl) (pv 1) (pv 0))⟩)) (ja (jm jo (pv 0) jc) jb))))))
    jM)
   (jd (jk (i:=6) Jw.nd rfl (.inl rfl) (jx T.zA Qj hr (ja (pv 5) (ja (Jt (ow:=["part"]) (ci:=[2]) rfl (CompScope.of (defScope qG) ["book","moves","found","row","inside","form","length"] rfl rfl (by decide +kernel)) (JO (by decide)) (jR (pv 4)) (fun _ _ _ _ _=>⟨(jn (i:=0) (jU ["book","moves","found","row","inside","form","length"] rfl (by decide +kernel)) rfl (.inl rfl)),JU,(jm (qe (K:=K) rfl) (pv 1) (pv 0))⟩)) jb))))
   (jd (JS (jy Qs (pv 6) (jh yC jc jc) (nomark _))
    (jg zf)
    jM)
   (jg (Jn (Qc PySem.F.plainAttrs_list PySem.F.slot_list_append PySem.F.type_list_append Jl (pv 2) (ja (pv 6) jb)))))))))
  (jg (jB (pv 2)))))),?_⟩
 refine jw (σ':=[some _,none,none,none,none,none,none]) rfl ?_;have sz:(200:Nat)<sizeLine:=by decide
 have W:=S.w;have pa:=B.pa.1;have gl:=S.gl;have av:=W.p61;exists⟨b,pl,pp,R,a6,_,_,rfl,B,W,fun lm aa M H1 s1 aq ad au Ml aM oM=>?_⟩;have mg:=S.mv M Ml oM;have ao:=aM.1;exists⟨vb _,?_⟩;walk_at"f l hl H2 s2 t2";have nl:=none_of s1 hl;have a7:=s1.trans s2;exists⟨b,pl,pp,R,a6,_,_,rfl,B.same a7,W,fun li a2 H3 s3 a1 a0 ak lia=>?_⟩;walk_at"g";have a8:=a7.trans s3;have an:=s2.trans s3;have F:=lia.1;rw[vt]at F;have al:li≠l:=fun z=>by rw[z,t2]at a1;cases a1
 have t3:H3 l=some (.lst []):=s3 _ _ t2;have a5:∀{c u},H c=some u->c≠l:=fun h=>je h nl
 have am:∀{c u},H1 c=some u->c≠l:=fun h=>je h hl
 refine⟨li,_,rfl,SqL.of a0,?_⟩;refine Zf (xs:=a2.map V.ref) (fun i σ r=>IvE4 fun(o3 o4 o5 o6:Option V)=>IvA2 (σ=[some (.ref b),some (.ref lm),some (.ref l),o3,o4,o5,o6]) ((∀c u,c≠l->H3 c=some u->r c=some u)/\r l=some (.lst ((gs.take i).map V.int))))
  ⟨_,_,_,_,rfl,fun c u _ h=>h,t3⟩ ?_ ?_ ?_
 ·rintro i σ r _ ⟨o3,o4,o5,o6,rfl,sm,e1⟩;exact SqL.of (sm _ _ al a0)
 ·rintro i v σ r P y hv ⟨o3,o4,o5,o6,rfl,sm,e1⟩ sP tP;obtain⟨O,ar,rfl,J,ag⟩:=lia.at_ref hv;have hi:i<C.length:=by
   have:=(vx.mp J).1;rw[vt]at this;exact this
  obtain⟨p,Z⟩:∃p,C[i]?=some p:=⟨_,vz hi⟩
  rw[vv,Z]at J;cases J;obtain⟨a,ea,fb,ae,hf⟩:=B.pa.get Z;have ai:O∈a2:=by
   rw[vv]at hv;obtain⟨a',ac,e'⟩:=vh.mp hv;injection e' with e';subst e';exact vm ac
  have a4:O≠l:=fun z=>by have:=ak O ai;rw[z,t2]at this;cases this
  have k4:∀c u,c≠l->H3 c=some u->y c=some u:=fun c u E h=>sP _ _ (sm _ _ E h)
  have s:∀c u,H c=some u->y c=some u:=fun c u h=>k4 _ _ (a5 h) (a8 _ _ h)
  have a3:∀c u,H1 c=some u->y c=some u:=fun c u h=>k4 _ _ (am h) (an _ _ h)
  have o:y O=some (.lst (((inP C p.2).map fun j:Nat=>(j:Int)).map V.int)):=k4 _ _ a4 ag;have ab:=sP _ _ e1;have m:FormAt y fb p.2:=FormAt.same s hf;have Q:=fun j=>W.inP_lt (j:=j) Z
  have w8:(inP C p.2).length<=8:=by unfold inP;rw[vt];exact(W.f i p Z).2
  obtain⟨lp,aj⟩:=S.ln i p Z;have as:=S.gb i hi;refine JV (SqT.of tP) ?_;exists ixTm (SqT.of (s _ _ B.t)) rfl ?_;exists ixLm (SqL.of (s _ _ B.p)) (Z9 (i:=(i:Int)) (by lia) ea) ?_;exists ixTm (SqT.of (s _ _ ae)) rfl ?_;exists⟨fun σ' H5=>σ'=[some (.ref b),some (.ref lm),some (.ref l),some (.int i),some (.ref O),some (.ref fb),o6]/\Same y H5,?_,?_⟩
  rotate_left
  ·by_cases N:∃qs,p.2 = .side qs
   ·obtain⟨qs,e⟩:=N;have ap:=S.sd i p qs Z e;generalize inP C p.2=is at o Q ap w8;rw[e]at m;obtain⟨nb,af,_⟩:=m;exists ixTm (SqT.of af) rfl ?_;exists iteE1 ?_;exists⟨O,rfl,⟨_,SqL.of o⟩,?_⟩;have a9:∀j∈is,∃c,aa[j]?=some c/\y c=some (.lst ((hs.getD j []).map V.int)):=fun j A=>by
     have jl:=Q j A;obtain⟨c,E,Y⟩:=aM.get (i:=j) (x:=M.getD j []) (by rw[vy,vz (by lia)];rfl);rw[mg j (by lia)]at Y;exact⟨c,E,a3 _ _ Y⟩
    refine Je (xs:=(is.map fun j:Nat=>(j:Int)).map V.int) (fun t D r=>IvE1 fun(G:List Addr)=>IvA2 (D=G.map V.ref) (ListsAt y G ((is.take t).map fun j=>hs.getD j [])/\y=r)) ⟨[],rfl,.nil,rfl⟩ ?_ ?_ ?_
    ·rintro t D r _ ⟨G,rfl,U,rfl⟩;exact SqL.of o
    ·rintro t x D r hx ⟨G,rfl,U,rfl⟩;rw[vv,vv]at hx;obtain⟨jj,L,rfl⟩:=vh.mp hx;obtain⟨j,A,rfl⟩:=vh.mp L;obtain⟨c,E,Y⟩:=a9 j (vm A);have X:=U.1;rw[vt,vj]at X;refine Jv (σ':=[none,some _]) rfl ?_;exists iteT ?_;exists ixLm (SqL.of (a3 _ _ ad)) (Z9 (i:=(j:Int)) (by lia) E) ?_;refine⟨by rw[vt];lia,G++[c],by rw[vk];rfl,?_,rfl⟩;rw[take_snoc A,vk];exact All2.snoc U Y
    rintro D r ⟨G,rfl,U,rfl⟩;rw[vt,vt,v3]at U;have X:=U.1;rw[vt]at X;refine⟨by rw[vt];lia,?_⟩;walk_at"f 5 t";exists ixTm (SqT.of (s5 _ _ (s _ _ B.t))) rfl ?_;exists⟨_,p5,pl,G,R,(is.map fun j=>hs.getD j []),rfl,t5,All2.mono U fun c ks h=>s5 _ _ h,fun ks ah=>?_,by rw[vt];lia,s5 _ _ (s _ _ B.l),ap.2,fun H6 s6=>?_⟩
    ·obtain⟨j,A,rfl⟩:=vJ.mp ah;exact ap.1 j A
    walk_at"g";exact⟨rfl,s5.trans s6⟩
   ·have kd:∃k xs,y fb=some (.tup (.str k::xs))/\decide (k=("side" : Str))=false:=by
     generalize p.2=f at m N;cases f with
     | side qs=>exact uk ⟨qs,rfl⟩ N
     | hold n=>exact⟨_,_,m,by decide +kernel⟩
     | ring x n=>exact⟨_,_,m,by decide +kernel⟩
     | rise x v n=>exact⟨_,_,m,by decide +kernel⟩
     | row qs=>obtain⟨_,Y,_⟩:=m;exact⟨_,_,Y,by decide +kernel⟩
     | again k x=>exact⟨_,_,m,by decide +kernel⟩
    obtain⟨k,xs,hk,dk⟩:=kd;exists ixTm (SqT.of hk) (at0) ?_;exists iteB0 dk ?_;walk_at"g";exact⟨rfl,Same.refl _⟩
  rintro σ' H5 ⟨rfl,s5⟩;exists⟨O,rfl,⟨_,SqL.of (s5 _ _ o)⟩,?_⟩;have I:=s5 _ _ ab;refine Je (xs:=((inP C p.2).map fun j:Nat=>(j:Int)).map V.int) (fun t D r=>D=(((inP C p.2).take t).map fun j=>gs.getD j 0).map V.int/\H5=r) ⟨rfl,rfl⟩ ?_ ?_ ?_
  ·rintro t D r _ ⟨rfl,rfl⟩;exact SqL.of (s5 _ _ o)
  ·rintro t x D r hx ⟨rfl,rfl⟩;rw[vv,vv]at hx;obtain⟨jj,L,rfl⟩:=vh.mp hx;obtain⟨j,A,rfl⟩:=vh.mp L;have jl:=Q j (vm A);refine Jv (σ':=[none,some _]) rfl ?_;exists iteT ?_;exists ixLm (SqL.of I) (XD (by lia) jl) ?_;refine⟨by rw[vt,vt,vj];lia,?_,rfl⟩;rw[take_snoc A,vk,vk];rfl
  rintro D r ⟨rfl,rfl⟩;rw[show(((inP C p.2).map fun j:Nat=>(j:Int)).map V.int).length=(inP C p.2).length by rw[vt,vt],v3];refine⟨by rw[vt,vt];lia,?_⟩;walk_at"f 6 t";exists⟨fb,p6,p.2,_,rfl,FormAt.same (s5.trans s6) m,t6,lp,fun g hg=>?_⟩;have eg:=aj g hg;subst eg;exists iteD (fun d=>?_) (fun d=>?_)
  ·exfalso;lia
  exists⟨.inl ⟨rfl,_,SqL.of (s6 _ _ I)⟩,?_⟩;exists⟨l,_,_,rfl,rfl,s6 _ _ I,by rw[vt,vj];lia,?_⟩;refine⟨_,_,_,_,rfl,fun c u E h=>(jf E).trans (s6 _ _ (s5 _ _ (k4 _ _ E h))),?_⟩;rw[jt,WV (by lia),vk];rfl
 rintro σ' r ⟨o3,o4,o5,o6,rfl,sm,e1⟩;rw[vt,F,<-gl,v3]at e1;walk_at"g";exact q l r (fun c u h=>sm _ _ (a5 h) (a8 _ _ h)) nl e1
theorem yz(T:Txt K mg t):FnOk P w K mg base CX0 1 t.qr t.qx ["form","inside","sizes"] (sp_pieces_in):=by
 specialize T.zB.F.ok Jd;obtain⟨a,l,s0,f,g,A,rfl,o,el,es,i8,hj,a2,q⟩:=h;refine⟨_,(jd (JS (jy qF (jm jo (pv 0) jc) ji (nomark _))
   (jd (jk (i:=3) Jd.nd rfl (.inl rfl) (jm jX (pv 1) jc))
   (jd (jk (i:=4) Jd.nd rfl (.inl rfl) (ze (jy Qs (jm jo (pv 0) jc) jc (nomark _)) (jE (ja (jp (ja (pv 3) (ja (jh JT (jm jo (pv 0) jc) jc) (ja (jm jX (pv 2) (pv 3)) jb)))) jb)) (jE jb)))
   (jg (jB (jh yB (jE (ja (jp (ja (pv 3) (ja jc (ja jc jb)))) jb)) (pv 4))))))
   jM)
  (jd (jk (i:=5) Jd.nd rfl (.inl rfl) (jE jb))
  (jd (jk (i:=6) Jd.nd rfl (.inl rfl) jc)
  (jd (JH PassesOwn.never rfl (jR (pv 1)) (jn (i:=3) Jd.nd rfl (.inl rfl))
   (jd (Jn (Qc PySem.F.plainAttrs_list PySem.F.slot_list_append PySem.F.type_list_append Jl (pv 5) (ja (jp (ja (pv 3) (ja jc (ja (pv 6) jb)))) jb)))
   (jg (JS (jy qF (jm jo (pv 0) jc) ji (nomark _))
    (jg (Xk (i:=6) Jd.nd rfl (.inl rfl) (jm jX (pv 2) (pv 3)) xR))
    jM))))
  (jg (jB (pv 5))))))),?_⟩
 refine jw (σ':=[some _,some _,some _,none,none,none,none]) rfl ?_;have sz:(10000:Nat)<sizeLine:=by decide
 have N:∀j,j<A.length->A[j]?=some (A.getD j 0):=fun j h=>by
  rw[vy,vz h];rfl
 by_cases ha:∃k x,f = .again k x
 ·obtain⟨k,x,rfl⟩:=ha;have o:H a=some (.tup [.str "again",.int k,.str x]):=o;obtain⟨j,r,rfl⟩:=List.exists_cons_of_ne_nil (a2 k x rfl);have lj:=hj j vq;exists ixTm (SqT.of o) rfl ?_;exists iteE1 ?_;exists ixLm (SqL.of el) (at0) ?_;exists ixTm (SqT.of o) rfl ?_;exists iteD (fun c=>?_) (fun c=>?_)
  ·exists ixTm (SqT.of o) rfl ?_;exists ixLm (SqL.of es) (JL (j:=j) (by rw[vv,N j lj];rfl)) ?_;exists⟨uh,?_⟩;walk_at"f 1 t";exists⟨uj,?_⟩;walk_at"f 2 t";exists⟨uh,?_⟩;walk_at"f 3 t";exists⟨uj,?_⟩;walk_at"f 4 t";exists⟨p4,p2,_,_,rfl,rfl,t4,s4 _ _ (s3 _ _ t2),ui,?_⟩;walk_at"f 5 t";have L:=s1.trans (s2.trans (s3.trans (s4.trans s5)));refine q p5 [p3,p1] _ L (none_of (s1.trans (s2.trans (s3.trans s4))) hp5) t5 ?_;show PcsAt H5 _ ((j,1,0)::(if 1<k then[(j,k-1,A.getD j 0)]else[]));rw[ve c];exact .cons (s5 _ _ (s4 _ _ t3)) (.cons (s5 _ _ (s4 _ _ (s3 _ _ (s2 _ _ t1)))) .nil)
  ·exists⟨vb _,?_⟩;walk_at"f 2 t";exists⟨uh,?_⟩;walk_at"f 3 t";exists⟨uj,?_⟩;walk_at"f 4 t";exists⟨p4,p2,_,_,rfl,rfl,t4,s4 _ _ (s3 _ _ t2),uj,?_⟩;walk_at"f 5 t";have L:=s2.trans (s3.trans (s4.trans s5));refine q p5 [p3] _ L (none_of (s2.trans (s3.trans s4)) hp5) t5 ?_;show PcsAt H5 _ ((j,1,0)::(if 1<k then[(j,k-1,A.getD j 0)]else[]));rw[vd c];exact .cons (s5 _ _ (s4 _ _ t3)) .nil
 have a3:∃Q xs,H a=some (.tup (.str Q::xs))/\decide (Q=("again" : Str))=false/\((decide (Q=("row" : Str))=true/\∃xs,f = .row xs)\/(decide (Q=("row" : Str))=false/\∀g,pcsI A f g=g.map fun j=>(j,1,0))):=by
  cases f with
  | hold n=>exact⟨_,_,o,by decide +kernel,.inr ⟨by decide +kernel,fun _=>rfl⟩⟩
  | ring x n=>exact⟨_,_,o,by decide +kernel,.inr ⟨by decide +kernel,fun _=>rfl⟩⟩
  | rise x v n=>exact⟨_,_,o,by decide +kernel,.inr ⟨by decide +kernel,fun _=>rfl⟩⟩
  | row ps=>obtain⟨b,C,_⟩:=o;exact⟨_,_,C,by decide +kernel,.inl ⟨by decide +kernel,_,rfl⟩⟩
  | side ps=>obtain⟨b,C,_⟩:=o;exact⟨_,_,C,by decide +kernel,.inr ⟨by decide +kernel,fun _=>rfl⟩⟩
  | again k x=>exact uk ⟨k,x,rfl⟩ ha
 obtain⟨Q,xs,U,dk,s⟩:=a3;exists ixTm (SqT.of U) (at0) ?_;exists iteB0 dk ?_;exists⟨vb _,?_⟩;walk_at"f p hp H1 s1 t1";walk_at"g";have np:∀{c u},H c=some u->c≠p:=fun h=>je h hp
 refine⟨l,rfl,⟨_,SqL.of (s1 _ _ el)⟩,?_⟩;refine JR (xs:=(g.map fun j:Nat=>(j:Int)).map V.int) (fun i σ E=>IvE4 fun(Y:Option V) (B:Int) (d:List Addr) (y:List Pc)=>IvA6 (σ=[some (.ref a),some (.ref l),some (.ref s0),Y,none,some (.ref p),some (.int B)]) (Same H E) (E p=some (.lst (d.map V.ref))) (d.length=i) (PcsAt E d y) (((∃xs,f = .row xs)->rowPc A g 0=y++rowPc A (g.drop i) B)/\(¬(∃xs,f = .row xs)->B=0/\y=(g.take i).map fun j=>(j,1,0))))
  ⟨_,0,[],[],rfl,s1,t1,rfl,.nil,fun _=>rfl,fun _=>⟨rfl,rfl⟩⟩ ?_ ?_ ?_
 ·rintro i σ E _ ⟨Y,B,d,y,rfl,R,F,X,W,C,O⟩;exact SqL.of (R _ _ el)
 ·rintro i v σ E hv ⟨Y,B,d,y,rfl,R,F,X,W,C,O⟩;rw[vv,vv]at hv;obtain⟨jj,a1,rfl⟩:=vh.mp hv;obtain⟨j,D,rfl⟩:=vh.mp a1;have il:=(vx.mp D).1;have ed:g.drop i=j::g.drop (i+1):=by
   obtain⟨h,rfl⟩:=vx.mp D;exact List.drop_eq_getElem_cons h
  have lj:=hj j (vm D);exists⟨.inl ⟨rfl,_,SqL.of F⟩,?_⟩;exists⟨uh,?_⟩;walk_at"f 2 t";exists⟨p,_,_,rfl,rfl,s2 _ _ F,by rw[vt];lia,?_⟩;have n2:p2≠p:=fun z=>by rw[z,s2 _ _ F]at t2;cases t2
  have s3:Same H (upd H2 p (.lst (d.map V.ref++[.ref p2]))):=fun c u h=>(jf (np h)).trans (s2 _ _ (R _ _ h))
  have Z:upd H2 p (.lst (d.map V.ref++[.ref p2])) p=some (.lst ((d++[p2]).map V.ref)):=by rw[jt,vk];rfl
  have I:PcsAt (upd H2 p (.lst (d.map V.ref++[.ref p2]))) (d++[p2]) (y++[(j,1,B)]):=by
   refine All2.snoc (All2.mono W fun c x h=>?_) ((jf n2).trans t2);exact(jf (fun z=>by rw[z,F]at h;cases h)).trans (s2 _ _ h)
  generalize upd H2 p (.lst (d.map V.ref++[.ref p2]))=H3 at s3 Z I|-;exists ixTm (SqT.of (s3 _ _ U)) (at0) ?_;walk_at"g";rcases s with⟨S,m,M⟩ | ⟨S,G⟩
  ·refine iteB1 S ?_;exists ixLm (SqL.of (s3 _ _ es)) (JL (j:=j) (by rw[vv,N j lj];rfl)) ?_;exists⟨_,_,d++[p2],y++[(j,1,B)],rfl,s3,Z,by rw[vn,X];rfl,I,fun h=>?_,fun h=>uk ⟨m,M⟩ h⟩;rw[C h,ed,List.append_assoc];rfl
  ·refine iteB0 S ?_;exists⟨_,_,d++[p2],y++[(j,1,B)],rfl,s3,Z,by rw[vn,X];rfl,I,fun h=>?_,fun h=>?_⟩
   ·obtain⟨m,M⟩:=h;subst M;have:=G [0,0];obtain⟨bb,a0,_⟩:=o;rw[a0]at U;cases U;exact uk S (by decide +kernel)
   ·obtain⟨b0,eq⟩:=O h;refine⟨b0,?_⟩;rw[take_snoc D,vk,eq,b0];rfl
 rintro σ' E ⟨Y,B,d,y,rfl,R,F,X,W,C,O⟩;rw[show((g.map fun j:Nat=>(j:Int)).map V.int).length=g.length by rw[vt,vt]]at C O;exists q p d E R hp F ?_;have e:pcsI A f g=y:=by
  by_cases J:∃xs,f = .row xs
  ·obtain⟨m,rfl⟩:=J;show rowPc A g 0=y;rw[C ⟨m,rfl⟩,List.drop_length];exact append_nil _
  ·rcases s with⟨_,m,M⟩ | ⟨_,G⟩
   ·exact uk ⟨m,M⟩ J
   ·rw[G,(O J).2,v3]
 rw[e];exact W
theorem yA(T:Txt K mg t)(JW:FnOk P w K mg base CX0 2 t.Q0 t.Q4 ["book"] (sp_inner))(Qk:FnOk P w K mg base CX0 1 t.qr t.qx ["form","inside","sizes"] (sp_pieces_in)):FnOk P w K mg base CX0 3 t.Qm t.Qp ["book","sizes"] (sp_pieces_of):=by
 specialize T.zC.F.ok yL;obtain⟨b,pl,pp,s0,S,y,ls,A,Y,rfl,B,W,es,gl,q⟩:=h;refine⟨_,(jg (jB (Jt (ow:=["part","inside"]) (ci:=[1]) rfl (CompScope.of (defScope qz) ["book","sizes"] rfl rfl (by decide +kernel)) (zR (by decide) (by decide)) (Zi (by rfl) T.yW (ja (jm jo (pv 0) jc) (ja (jx T.zO JW hr (ja (pv 0) jb)) jb))) (fun _ _ _ _ _=>⟨(JG rfl (jr (jn (i:=0) (jU ["book","sizes"] rfl (by decide +kernel)) rfl (.inl rfl)) (jr (jn (i:=1) (jU ["book","sizes"] rfl (by decide +kernel)) rfl (.inl rfl)) Jg))),JU,(jx T.zB Qk hr (ja (jm (zS (K:=K) rfl) (pv 0) jc) (ja (pv 1) (ja (pv 2) jb))))⟩)))),?_⟩;refine jw (σ':=[some _,some _]) rfl ?_;have sz:(10000:Nat)<sizeLine:=by decide
 have a3:=W.p61;have pa:=B.pa.1;exists ixTm (SqT.of B.t) rfl ?_;exists⟨b,pl,pp,S,y,ls,A,rfl,B,W,fun li R H3 C a0 n a2 lia=>?_⟩;walk_at"g";have s:=lia.1;rw[vt]at s;refine⟨pp,li,_,_,rfl,SqL.of (C _ _ B.p),SqL.of n,?_⟩;refine Ze (xs:=y.map V.ref) (zs:=R.map V.ref) (fun i F m=>IvE1 fun(d:List Addr)=>IvA4 (F=d.map V.ref) (d.length=i) (Same H3 m) ((∀a∈d,H a=none)/\PssAt m d ((A.take i).map fun p=>pcsI Y p.2 (inP A p.2)))) (by rw[vt,vt];lia) ⟨[],rfl,rfl,Same.refl _,(fun a h=>nomatch h),.nil⟩ ?_ ?_ ?_
 ·rintro i F m _ ⟨d,rfl,D,g,E,l⟩;exact⟨SqL.of (g _ _ (C _ _ B.p)),SqL.of (g _ _ n)⟩
 ·rintro i u v F m T0 H4 Z hv ⟨d,rfl,D,g,E,l⟩ X tP;have hi:=(vx.mp Z).1;rw[vt]at hi;obtain⟨a,p,rfl,r,fb,M,hf⟩:=B.pa.at_ref Z;obtain⟨ia,is,rfl,o,N⟩:=lia.at_ref hv;rw[vv,r]at o;cases o;have a1:=(vx.mp r).1;have s4:=g.trans X;have f:=C.trans s4;have i8:(inP A p.2).length<=8:=by unfold inP;rw[vt];exact(W.f i p r).2
  refine Jv (σ':=[none,none,some _]) rfl ?_;refine JV (SqT.of tP) ?_;exists iteT ?_;exists ixTm (SqT.of (f _ _ M)) rfl ?_;exists⟨fb,ia,s0,p.2,inP A p.2,Y,rfl,FormAt.same f hf,s4 _ _ N,f _ _ es,i8,fun j hj=>by have:=W.inP_lt r hj;lia,fun k x e=>by rw[e];exact List.cons_ne_nil _ _,fun p5 G H5 U O e5 Q=>?_⟩;refine⟨by rw[vt];lia,d++[p5],by rw[vk];rfl,by rw[vn,D];rfl,s4.trans U,fun c hc=>(vi.mp hc).elim (E c) fun z=>by rw[vo.mp z];exact none_of f O,?_⟩;rw[take_snoc r,vk];refine All2.snoc (All2.mono l fun c x h=>?_) ⟨G,e5,Q⟩;obtain⟨I,J,L⟩:=h;exact⟨I,U _ _ (X _ _ J),All2.mono L fun c x h=>U _ _ (X _ _ h)⟩
 rintro F m ⟨d,rfl,D,g,E,l⟩;rw[vt]at D l;refine⟨by rw[vt];lia,?_⟩;walk_at"f 4 t";refine q _ d _ (C.trans (g.trans s4)) (none_of (C.trans g) hp4) t4 ?_ E;rw[pa,v3]at l;refine All2.mono l fun c x h=>?_
 obtain⟨I,J,L⟩:=h;exact⟨I,s4 _ _ J,All2.mono L fun c x h=>s4 _ _ h⟩
theorem Qd(T:Txt K mg t)(zi:FnOk P w K mg base CX0 5 t.zk t.zn ["book"] (sp_lengths))(Ql:FnOk P w K mg base CX0 3 t.Qm t.Qp ["book","sizes"] (sp_pieces_of)):FnOk P w K mg base CX0 6 t.jD t.jH ["self","book","word"] (sp_initR t.jq):=by
 specialize T.Qh.ok jS;obtain⟨a,g,b,pl,pp,aa,Y,ls,ps,gs,hs,x,rfl,ha,B,N,wx,wf,q⟩:=h;refine⟨_,(jd (yF (pv 0) (jx T.ZA zi hr (ja (pv 1) jb)) rfl)
  (jd (yF (pv 0) (jm jX (qD (pv 0) rfl) (Yv Zn jc)) rfl)
  (jd (yF (pv 0) (jx T.zC Ql hr (ja (pv 1) (ja (qD (pv 0) rfl) jb))) rfl)
  (jd (yF (pv 0) (jE jb) rfl)
  (jg (JH PassesOwn.never rfl (Zi (by rfl) T.yW (ja (jm jo (pv 1) jc) (ja (qD (pv 0) rfl) jb))) (JG rfl (jr (jn (i:=3) jS.nd rfl (.inl rfl)) (jr (jn (i:=4) jS.nd rfl (.inl rfl)) Jg)))
   (jd (jk (i:=5) jS.nd rfl (.inl rfl) (ze (jy (Xf hr.units) (Yu Xt (jm jo (pv 3) jc) Kb (Kc jc)) (jp (ja ji (ja (pv 2) jb))) (nomark _)) jc jc))
   (jg (Jn (Qc PySem.F.plainAttrs_list PySem.F.slot_list_append PySem.F.type_list_append Jl (qD (pv 0) rfl) (ja (jh Jb (pv 5) (jI (ZJ rfl) (by rfl) T.xv we (ja (Jt (ow:=["other","turns","begin"]) (ci:=[0]) rfl (CompScope.of (defScope jT) ["self","book","word","part","pieces","own"] rfl rfl (by decide +kernel)) (WU (by decide) (by decide) (by decide)) (jR (pv 4)) (fun _ _ _ _ _=>⟨(JG rfl (jr (jn (i:=0) (jU ["self","book","word","part","pieces","own"] rfl (by decide +kernel)) rfl (.inl rfl)) (jr (jn (i:=1) (jU ["self","book","word","part","pieces","own"] rfl (by decide +kernel)) rfl (.inl rfl)) (jr (jn (i:=2) (jU ["self","book","word","part","pieces","own"] rfl (by decide +kernel)) rfl (.inl rfl)) Jg)))),JU,(jh jz (pv 1) (jm (qe (K:=K) rfl) (zT (K:=K) rfl (pv 3) rfl) (pv 0)))⟩)) jb))) jb))))))))))),?_⟩
 refine jw (σ':=[some _,some _,some _,none,none,none]) rfl ?_;have sz:(200:Nat)<sizeLine:=by decide
 have W:=N.s.w;have gl:=N.s.gl;have aB:=W.p61;have ne:=N.ne;have aq:=B.pa.1;obtain⟨H0,C,n0,B0⟩:=B.less ha;have z0:Same H0 H:=C H fun c u _ h=>h
 exists⟨b,pl,pp,aa,Y,ls,ps,gs,hs,rfl,B,N.s,fun l5 H5 s5 a4 e5=>?_⟩;exists⟨a,_,g,[],rfl,s5 _ _ ha,T.ju,T.jF,(by show 0<1000;decide),?_⟩;have o:l5≠a:=fun z=>by rw[z,ha]at a4;cases a4
 generalize e6:upd H5 a _=H6;have k6:∀c u,c≠a->H5 c=some u->H6 c=some u:=fun c u n h=>e6▸(jf n).trans h
 have a6:=ZB e6;clear e6;have z6:Same H0 H6:=C H6 fun c u n h=>k6 _ _ n (s5 _ _ h)
 exists⟨a,_,g,_,_,rfl,a6,T.ju,T.jF,zq,?_⟩;exists ixLm (SqL.of (k6 _ _ o e5)) (zQ ne gl) ?_;exists⟨a,_,g,_,rfl,a6,T.ju,T.Jm,Rm.few (qf _ _ _) (by decide),?_⟩;generalize e7:upd H6 a _=H7;have k7:∀c u,c≠a->H6 c=some u->H7 c=some u:=fun c u n h=>e7▸(jf n).trans h
 have J:=ZB e7;clear e7;have z7:Same H0 H7:=fun c u h=>k7 _ _ (n0 h) (z6 _ _ h)
 exists⟨a,_,g,_,_,rfl,J,T.ju,T.jF,(QP (by decide +kernel)).trans zq,?_⟩;exists⟨b,pl,pp,l5,aa,Y,ls,ps,gs,rfl,B0.same z7,W,k7 _ _ o (k6 _ _ o e5),gl,fun l8 m G E a5 e8 Q ab=>?_⟩;have n8:l8≠a:=fun z=>by rw[z,J]at a5;cases a5
 exists⟨a,_,g,_,rfl,E _ _ J,T.ju,T.jP,vC (qf _ _ _) (vC (Nat.succ_le_succ (qf _ _ _)) (by decide)),?_⟩;generalize e9:upd G a _=H9;have k9:∀c u,c≠a->G c=some u->H9 c=some u:=fun c u n h=>e9▸(jf n).trans h
 have a9:=ZB e9;clear e9;exists⟨vb _,?_⟩;walk_at"f pw hpw H10 s10 t10";have nw:pw≠a:=fun z=>by rw[z,a9]at hpw;cases hpw
 exists⟨a,_,g,_,rfl,s10 _ _ a9,T.ju,T.jv,few3,?_⟩;generalize L:upd H10 a _=H11;have a8:∀c u,c≠a->H10 c=some u->H11 c=some u:=fun c u n h=>L▸(jf n).trans h
 have I:H11 a=some (.ins t.jq g (fldR ⟨l5,l8,pw,m⟩ (gs.getD (ps.length-1) 0))):=ZB L;clear L;have s:∀c u,c≠a->G c=some u->H11 c=some u:=fun c u n h=>a8 _ _ n (s10 _ _ (k9 _ _ n h))
 have ae:Same H0 H11:=fun c u h=>s _ _ (n0 h) (E _ _ (z7 _ _ h))
 have D:∀{c u},c≠a->G c=some u->c≠pw:=fun n h=>je (k9 _ _ n h) hpw
 have ac:∀{c u},H0 c=some u->c≠pw:=fun h=>D (n0 h) (E _ _ (z7 _ _ h))
 have av:=a8 _ _ nw t10;have F:=B0.same ae;exists ixTm (SqT.of F.t) rfl ?_;exists⟨a,_,g,_,_,rfl,I,T.ju,T.jP,ZO,?_⟩;walk_at"g";have ar:=Q.1;rw[vt]at ar;refine⟨pp,l8,_,_,rfl,SqL.of F.p,SqL.of (s _ _ n8 e8),?_⟩;refine kN (xs:=Y.map V.ref) (ys:=m.map V.ref) (fun i σ H'=>IvE4 fun(o3 o4 o5:Option V) (l:List Int)=>IvA3 (σ=[some (.ref a),some (.ref b),some (.str x),o3,o4,o5]) (∀c u,c≠pw->H11 c=some u->H' c=some u) (H' pw=some (.lst (l.map V.int))/\WPre ps gs x l i)) (by rw[vt,vt];lia) ⟨_,_,_,[],rfl,fun c u _ h=>h,av,rfl,fun j p h=>uk h (Nat.not_lt_zero _)⟩ ?_ ?_ ?_
 ·rintro i σ H' _ ⟨o3,o4,o5,l,rfl,f,e,O⟩;exact⟨SqL.of (f _ _ (ac B0.p) F.p),SqL.of (f _ _ (D n8 e8) (s _ _ n8 e8))⟩
 ·rintro i u v σ H' T0 a0 hu hv ⟨o3,o4,o5,l,rfl,f,ew,O⟩ sP tP;obtain⟨pa,p,rfl,hp,fb,ai,hf⟩:=B0.pa.at_ref hu;obtain⟨c0,qs,rfl,S,bs,ak,a3⟩:=Q.at_ref hv;rw[vv,hp]at S;have al:=(vx.mp hp).1;have M:qs=pcB ps gs i:=by
   unfold pcB;rw[hp];exact(vK S).symm
  clear S;have af:c0∈m:=by
   rw[vv]at hv;obtain⟨a',ea,e'⟩:=vh.mp hv;injection e' with e';subst e';exact vm ea
  have ao:c0≠a:=fun z=>by have:=ab c0 af;rw[z,J]at this;cases this
  have X:∀c u,H0 c=some u->a0 c=some u:=fun c u h=>sP _ _ (f _ _ (ac h) (ae _ _ h))
  have ad:∀c u,c≠a->G c=some u->a0 c=some u:=fun c u n h=>sP _ _ (f _ _ (D n h) (s _ _ n h))
  have r:∀{c:Addr} {xs:List V},G c=some (.tup xs)->c≠a:=fun h=>Yk h (E _ _ J) (fun z=>by cases z)
  obtain⟨xs,ah,an,aw⟩:=Wx (x:=x) hf (wf p (vm hp));refine JV (SqT.of tP) ?_;exists ixTm (SqT.of (X _ _ ai)) rfl ?_;exists xl (X _ _ ah) an fun cc ay as ag=>?_
  exists⟨ui,?_⟩;walk_at"f 14 t";have s1:=as.trans s14;obtain⟨d,dv,sh,ev⟩:=aw H14 cc (fun c u h=>s1 _ _ (X _ _ h)) (s14 _ _ ag);have au:SeqAt.shaped (.tuple [.str "ring",.str x])=true:=(Shp.tup (n:=0) (Zm (xs:=["ring",x]) fun y U=>by
   rcases mem_cons.mp U with rfl | U
   ·decide +kernel
   ·rw[vo.mp U];exact wx)).ok (by decide)
  refine⟨d,_,dv,.tup t14 (.cons (.str _) (.cons (.str _) .nil)),sh,au,?_⟩;refine⟨_,rfl,?_⟩;rw[ev];have ap:ownW x p.2=0\/ownW x p.2=1:=by
   unfold ownW;split
   ·split
    ·exact .inr rfl
    ·exact .inl rfl
   ·exact .inl rfl
  have a1:H14 a=_:=s1 _ _ (sP _ _ (f _ _ (Ne.symm nw) I));have Z:H14 pw=_:=s1 _ _ (sP _ _ ew);have a2:H14 c0=_:=s1 _ _ (ad _ _ ao ak);have aj:=a3.1;have q8:qs.length<=8:=M▸yD N i;have az:=O.1;refine iteD (fun c=>?A) (fun c=>?B)
  case' A=>have eo:ownW x p.2=1:=c
  case' B=>have eo:ownW x p.2=0:=ap.resolve_right c
  all_goals
   exists⟨a,_,g,_,_,rfl,a1,T.ju,T.jv,qb,.inl ⟨rfl,_,SqL.of Z⟩,?_⟩;exists⟨c0,rfl,⟨_,SqL.of a2⟩,?_⟩;refine Je (xs:=bs.map V.ref) (fun j ys k=>ys=((qs.take j).map fun q=>q.2.1*l.getD q.1 0).map V.int/\H14=k) ⟨rfl,rfl⟩ ?_ ?_ ?_
   ·rintro j ys k _ ⟨rfl,rfl⟩;exact SqL.of a2
   ·rintro j v ys k am ⟨rfl,rfl⟩;obtain⟨cq,y,rfl,U,R⟩:=a3.at_ref am;have aA:=(vx.mp U).1;have ym:y∈pcB ps gs i:=M▸vm U;have ax:=Qt W ym;obtain⟨_,_,_,k4,k5,_,_⟩:=N.pcOk ym;have bw:=O.b250 N (vW al) ax;have ey:l[y.1]?=some (l.getD y.1 0):=by rw[vy,vz (by lia)];rfl
    refine Jv (σ':=[none,none,none,some (.ref a)]) rfl ?_;refine We (SqT.of (s1 _ _ (ad _ _ (r R) R))) ?_;exists iteT ?_;exists⟨a,_,g,_,_,rfl,a1,T.ju,T.jv,qb,?_⟩;exists ixLm (SqL.of Z) (JL (j:=y.1) (by rw[vv,ey];rfl)) ?_;exists⟨by rw[vt,vt,vj];lia,?_,rfl⟩;rw[take_snoc U,vk,vk];rfl
   rintro ys k ⟨rfl,rfl⟩;rw[show(bs.map V.ref).length=qs.length from(vt _).trans aj,v3];refine⟨by rw[vt,vt];lia,?_⟩;walk_at"f 15 t";exists⟨p15,_,rfl,SqL.of t15,?_⟩;exists⟨pw,_,_,rfl,rfl,s15 _ _ Z,by rw[vt];lia,?_⟩;walk_at"g";have O2:=O.snoc W hp;rw[eo]at O2;refine⟨_,_,_,_,rfl,fun c u R h=>(jf R).trans (s15 _ _ (s1 _ _ (sP _ _ (f _ _ R h)))),?_,O2⟩;rw[jt,vk,<-M];rfl
 ·rintro σ H' ⟨o3,o4,o5,l,rfl,f,ew,O⟩;rw[vt,aq]at O;exists q ⟨l5,l8,pw,m⟩ l H' (fun c u n h=>?_) O ⟨⟨g,f _ _ (Ne.symm nw) I⟩,f _ _ (D o (E _ _ (k7 _ _ o (k6 _ _ o e5)))) (s _ _ o (E _ _ (k7 _ _ o (k6 _ _ o e5)))),f _ _ (D n8 e8) (s _ _ n8 e8),?_,ew⟩
  ·have h8:=E _ _ (k7 _ _ n (k6 _ _ n (s5 _ _ h)));exact f _ _ (D n h8) (s _ _ n h8)
  ·refine All2.monoM Q fun c R e ⟨bs,h1,h2⟩=>?_
   have r:∀{c:Addr} {xs:List V},G c=some (.tup xs)->c≠a:=fun h=>Yk h (E _ _ J) (fun z=>by cases z)
   have nc:c≠a:=fun z=>by have:=ab c R;rw[z,J]at this;cases this
   exact⟨bs,f _ _ (D nc h1) (s _ _ nc h1),All2.mono h2 fun b' q' h=>f _ _ (D (r h) h) (s _ _ (r h) h)⟩
theorem KP(T:Txt K mg t):FnOk P w K mg base CX0 1 t.QZ t.Q3 ["pieces","sizes","beat"] (sp_begins):=by
 specialize T.yS.F.ok qH;obtain⟨l,ss,m,U,o,f,rfl,N,R,X,ok,bl,q⟩:=h;refine⟨_,(jd (jk (i:=3) qH.nd rfl (.inl rfl) (jE jb))
  (jd (JH PassesOwn.never rfl (jR (pv 0)) (JG rfl (jr (jn (i:=4) qH.nd rfl (.inr rfl)) (jr (jn (i:=5) qH.nd rfl (.inl rfl)) (jr (jn (i:=6) qH.nd rfl (.inr rfl)) Jg))))
   (jg (Jn (Qc PySem.F.plainAttrs_list PySem.F.slot_list_extend PySem.F.type_list_extend ZX (pv 3) (ja (Jt (ow:=["turn"]) (ci:=[4,2,6,1]) rfl (CompScope.of (defScope zh) ["pieces","sizes","beat","found","part","turns","begin"] rfl rfl (by decide +kernel)) (JO (by decide)) (Z1 (by rfl) T.kG (ja (pv 5) jb)) (fun _ _ _ _ _=>⟨(jn (i:=0) (jU ["pieces","sizes","beat","found","part","turns","begin"] rfl (by decide +kernel)) rfl (.inl rfl)),JU,(jp (ja (pv 1) (ja (jh Jb (jh Jb (pv 2) (pv 3)) (jh jz (pv 0) (jm (qe (K:=K) rfl) (pv 4) (pv 1)))) jb)))⟩)) jb)))))
  (jg (jB (pv 3))))),?_⟩
 refine jw (σ':=[some _,some _,some _,none,none,none,none]) rfl ?_;have sz:(100000:Nat)<sizeLine:=by decide
 have L:=R.1;exists⟨vb _,?_⟩;walk_at"f p hp H1 s1 e1";exists⟨l,rfl,⟨_,SqL.of (s1 _ _ N)⟩,?_⟩;have np:∀{c u},H c=some u->c≠p:=fun h=>je h hp
 refine JR (xs:=U.map V.ref) (fun i I n=>IvE4 fun(E F G:Option V) (r:List Addr)=>IvA3 (I=[some (.ref l),some (.ref ss),some (.int m),some (.ref p),E,F,G]) (Same H n) (n p=some (.lst (r.map V.ref))/\GonAt n r (bgs f m (o.take i)))) ⟨_,_,_,[],rfl,s1,e1,.nil⟩ ?_ ?_ ?_
 ·rintro i I n _ ⟨E,F,G,r,rfl,x,B,A⟩;exact SqL.of (x _ _ N)
 ·rintro i v I n Z ⟨E,F,G,r,rfl,x,B,A⟩;obtain⟨a,k,rfl,O,J⟩:=R.at_ref Z;obtain⟨k1,k2,k3,k4,k5,k6,k7⟩:=ok k (vm O);have al:=A.1;have S:bgs f m (o.take (i+1))=bgs f m (o.take i)++(List.range k.2.1.toNat).map fun u:Nat=>(k.1,m+k.2.2+(u:Int)*f.getD k.1 0):=by
   rw[take_snoc O];unfold bgs;rw[List.flatMap_append,flatMap_cons,flatMap_nil,append_nil]
  have W:(bgs f m (o.take (i+1))).length<=(bgs f m o).length:=by
   have e:bgs f m o=bgs f m (o.take (i+1))++bgs f m (o.drop (i+1)):=by
    unfold bgs;rw[<-List.flatMap_append,List.take_append_drop]
   rw[e,vn];lia
  rw[S,vn,vt,length_range]at W;have Y:f[k.1]?=some (f.getD k.1 0):=by rw[vy,vz k1];rfl
  refine We (SqT.of (x _ _ J)) ?_;exists⟨.inl ⟨rfl,_,SqL.of B⟩,?_⟩;exists⟨_,rfl,by lia,by lia,?_⟩;refine YX (fun u M D=>IvE1 fun(d:List Addr)=>IvA2 (M=d.map V.ref) (Same n D/\GonAt D d ((List.range u).map fun u:Nat=>(k.1,m+k.2.2+(u:Int)*f.getD k.1 0)))) ⟨[],rfl,Same.refl _,.nil⟩ ?_ ?_
  ·rintro u M D hu ⟨d,rfl,b,g⟩;have s:=g.1;rw[vt,length_range]at s;refine Jv (σ':=[none,some _,some _,some _,some _]) rfl ?_;exists iteT ?_;exists ixLm (SqL.of (b _ _ (x _ _ X))) (JL (j:=k.1) (by rw[vv,Y];rfl)) ?_;exists⟨ui,?_⟩;walk_at"f 3 e";refine⟨by rw[vt];lia,d++[p3],by rw[vk];rfl,b.trans s3,?_⟩;rw[range_succ,vk];rw[Int.zero_add]at e3;exact All2.snoc (All2.mono g fun c y h=>s3 _ _ h) e3
  ·rintro M D ⟨d,rfl,b,g⟩;have s:=g.1;rw[vt,length_range]at s;refine⟨by rw[vt];lia,?_⟩;walk_at"f 3 e";walk_at"g";have C:=s3 _ _ (b _ _ B);refine⟨p,p3,_,_,rfl,rfl,C,e3,by rw[vt,vt];lia,?_⟩;have Q:∀{c:Addr} {xs:List V},H3 c=some (.tup xs)->c≠p:=fun h z=>by rw[z,C]at h;cases h
   exists⟨_,_,_,r++d,rfl,fun c u h=>(jf (np h)).trans (s3 _ _ (b _ _ (x _ _ h))),by rw[jt,vk],?_⟩;rw[S];exact All2.app (All2.mono A fun c y h=>(jf (Q (s3 _ _ (b _ _ h)))).trans (s3 _ _ (b _ _ h))) (All2.mono g fun c y h=>(jf (Q (s3 _ _ h))).trans (s3 _ _ h))
 ·rintro I n ⟨E,F,G,r,rfl,x,B,A⟩;rw[vt,L,v3]at A;walk_at"g";exact q p r n x hp B A
theorem Zw(T:Txt K mg t)(zZ:FnOk P w K mg base CX0 1 t.QZ t.Q3 ["pieces","sizes","beat"] (sp_begins)):FnOk P w K mg base CX0 2 t.qS t.qV ["tally"] (sp_rung t.jq):=by
 specialize T.QW.F.ok Jr;obtain⟨a,z,ls,ps,gs,f,hs,x,rfl,L,N,O,few,q⟩:=h;refine⟨_,(jd (jk (i:=1) Jr.nd rfl (.inl rfl) (jE jb))
  (jd (jk (i:=2) Jr.nd rfl (.inl rfl) (ze (jy Qs (jm jX (qD (pv 0) rfl) (Yv Zn jc)) jc (nomark _)) (jE (ja (jp (ja (jh JT (jI Q1 (by rfl) T.kF yd (ja (qD (pv 0) rfl) jb)) jc) (ja jc jb))) jb)) (jE jb)))
  (jd (zg PassesOwn.never (wZ (pv 2) (fun _=>rfl))
   (jd (jk (i:=3) Jr.nd rfl (.inl rfl) (wV PySem.F.plainAttrs_list PySem.F.slot_list_pop PySem.F.type_list_pop Xd (pv 2)))
   (jd (yH (i:=4) (ow:=["piece"]) (ci:=[0]) rfl (CompScope.of (defScope J2) ["tally","found","todo","now","ringing"] rfl rfl (by decide +kernel)) (JO (by decide)) Jr.nd rfl (.inl rfl) (jR (jm jX (qD (pv 0) rfl) (jm jo (pv 3) jc))) (fun _ _ _ _ _=>⟨(jn (i:=0) (jU ["tally","found","todo","now","ringing"] rfl (by decide +kernel)) rfl (.inl rfl)),(km (jy Qs (jm (qe (K:=K) rfl) (zT (K:=K) rfl (pv 1) rfl) (jm (zS (K:=K) rfl) (pv 0) jc)) jc (nomark _))),(pv 0)⟩))
   (jg (JS (wZ (pv 4) (fun _=>rfl))
    (jg (Jn (Qc PySem.F.plainAttrs_list PySem.F.slot_list_extend PySem.F.type_list_extend ZX (pv 2) (ja (jx T.yS zZ hr (ja (pv 4) (ja (qD (pv 0) rfl) (ja (jm jo (pv 3) jc) jb)))) jb))))
    (jg (Jn (Qc PySem.F.plainAttrs_list PySem.F.slot_list_append PySem.F.type_list_append Jl (pv 1) (ja (jm jo (pv 3) jc) jb)))))))))
  (jg (jB (kj rfl (by rfl) T.yV (by rfl) T.XA (pv 1))))))),?_⟩
 refine jw (σ':=[some _,none,none,none,none]) rfl ?_;have sz:(20000:Nat)<sizeLine:=by decide
 have W:=N.s.w;have gl:=N.s.gl;have ne:=N.ne;have wl:=O.1;obtain⟨Z,ob⟩:=L.o;exists⟨vb _,?_⟩;walk_at"f pf hpf H1 s1 e1";exists⟨a,_,Z,_,_,rfl,s1 _ _ ob,T.ju,T.jv,qb,?_⟩;exists ixLm (SqL.of (s1 _ _ L.w)) (zQ ne wl) ?_;exists iteD (fun c=>?A) (fun c=>?B)
 case' A=>
  exists⟨a,_,Z,_,_,rfl,s1 _ _ ob,T.ju,T.jF,Ya,?_⟩;exists⟨_,_,rfl,.inl ⟨_,SqL.of (s1 _ _ L.s),rfl⟩,?_⟩;rw[vt,gl];exists⟨ui,?_⟩;walk_at"f 3 e";exists⟨uj,?_⟩;walk_at"f 4 e";rw[show((ps.length:Nat):Int)-1=((ps.length-1:Nat):Int) by lia]at e3;have R:=s3.trans s4;have st:∃(e:List Addr) (S:List (Nat×Int)),H4 p4=some (.lst (e.map V.ref))/\GonAt H4 e S/\RgS ps gs f (fun y=>0<f.getD (ps.length-1) 0/\y∈RB ps gs f (ps.length-1) 0) [] S:=
   ⟨[p3],[(ps.length-1,0)],e4,All2.snoc (as:=[]) (xs:=[]) .nil (s4 _ _ e3),⟨fun y=>⟨fun h=>.inr ⟨_,vq,h.2⟩,fun h=>⟨c,h.elim (fun z=>nomatch z) fun⟨u,k,z⟩=>by rw[vo.mp k]at z;exact z⟩⟩,fun u k=>by rw[vo.mp k];exact⟨by show ps.length-1<_;lia,c⟩,by simpa using few⟩⟩
  have n4:pf≠p4:=je (s3 _ _ e1) hp4;have m4:∀{c u},H c=some u->c≠p4:=fun h=>je (s3 _ _ (s1 _ _ h)) hp4
 case' B=>
  exists⟨vb _,?_⟩;walk_at"f 4 e";have R:=s4;have st:∃(e:List Addr) (S:List (Nat×Int)),H4 p4=some (.lst (e.map V.ref))/\GonAt H4 e S/\RgS ps gs f (fun y=>0<f.getD (ps.length-1) 0/\y∈RB ps gs f (ps.length-1) 0) [] S:=
   ⟨[],[],e4,.nil,⟨fun y=>⟨fun h=>uk h.1 c,fun h=>h.elim (fun z=>nomatch z) fun⟨u,k,_⟩=>nomatch k⟩,(fun u k=>nomatch k),(show(0:Int)+0<=12 by decide)⟩⟩
  have n4:pf≠p4:=je e1 hp4;have m4:∀{c u},H c=some u->c≠p4:=fun h=>je (s1 _ _ h) hp4
 all_goals
  obtain⟨e,S,e4,gT,J⟩:=st;have mf:∀{c u},H c=some u->c≠pf:=fun h=>je h hpf
  exists⟨fun m σ g=>IvE5 fun(U X:Option V) (e:List Addr) (S:List (Nat×Int)) (F:List Int)=>IvA6 (σ=[some (.ref a),some (.ref pf),some (.ref p4),U,X]) (Same H g) (g pf=some (.lst (F.map V.int))) (g p4=some (.lst (e.map V.ref))) (GonAt g e S) (RgS ps gs f (fun y=>0<f.getD (ps.length-1) 0/\y∈RB ps gs f (ps.length-1) 0) F S/\m=(S.map fun s=>NR ps gs f s.1).sum),
   ⟨_,none,none,e,S,[],rfl,s1.trans R,R _ _ e1,e4,gT,J,rfl⟩,?_⟩
  clear gT J e4 e S;rintro m σ g ⟨U,X,e,S,F,rfl,sm,ef,eT,gT,J,rfl⟩;have a5:=J.few;have tl:=gT.1;exists⟨_,.inl ⟨_,SqL.of eT,rfl⟩,?_⟩;rcases List.eq_nil_or_concat S with rfl | ⟨S0,y,rfl⟩
  ·have et:e=[]:=List.length_eq_zero_iff.mp tl;subst et;refine iteF ?_;exists XI ?_;exists⟨pf,F,F,rfl,SqL.of ef,by lia,fun y hy=>hy,?_⟩;intro l ms hl up mm;have ml:ms.length<=12:=by
    have:=len_sub (a:=ms) (b:=F) (up.imp fun h=>by lia) fun y hy=>(mm y).mp hy
    lia
   exact q l ms _ (sm.trans (yJ hl rfl)) (none_of sm hl) jt up (fun y=>(mm y).trans (J.done y).symm) ml
  rw[List.concat_eq_append]at *;obtain⟨d,ax,rfl,a7,aa⟩:=All2.last gT;rw[vk]at eT|-;refine iteB1 (by simp) ?_;obtain⟨y1,y2⟩:=J.ok y (mem_append_right _ vq);have nr:=WG (gs:=gs) (W:=f) (ps:=ps) W (i:=y.1) (t:=y.2);rw[vk,sum_append];have a3:([y].map fun s:Nat×Int=>NR ps gs f s.1).sum=NR ps gs f y.1:=by simp
  rw[a3];have au:=a7.1;rw[vn,List.length_singleton]at a5;refine⟨fun σ g=>IvE5 fun(U X:Option V) (e:List Addr) (S:List (Nat×Int)) (F:List Int)=>IvA6 (σ=[some (.ref a),some (.ref pf),some (.ref p4),U,X]) (Same H g) (g pf=some (.lst (F.map V.int))) (g p4=some (.lst (e.map V.ref))) (GonAt g e S) (RgS ps gs f (fun y=>0<f.getD (ps.length-1) 0/\y∈RB ps gs f (ps.length-1) 0) F S/\(S.map fun s=>NR ps gs f s.1).sum<(S0.map fun s=>NR ps gs f s.1).sum+NR ps gs f y.1),
   fun σ' g ⟨U,X,e,S,F,h1,h2,h3,h4,h5,h6,h7⟩=>⟨_,h7,U,X,e,S,F,h1,h2,h3,h4,h5,h6,rfl⟩,?_⟩
  exists⟨.inl ⟨rfl,_,SqL.of eT⟩,?_⟩;refine⟨p4,_,.ref ax,rfl,rfl,eT,by simp,?_⟩;rw[show((d.map V.ref)++[ax].map V.ref).dropLast=d.map V.ref by simp];have n:∀{c:Addr} {xs:List V},g c=some (.tup xs)->c≠p4:=fun h z=>by rw[z,eT]at h;cases h
  have G:Same H (upd g p4 (.lst (d.map V.ref))):=fun c u h=>(jf (m4 h)).trans (sm _ _ h)
  have a0:upd g p4 (.lst (d.map V.ref)) p4=some (.lst (d.map V.ref)):=jt;have a2:=(jf (o:=HO.lst (d.map V.ref)) n4).trans ef;have a8:GonAt (upd g p4 (.lst (d.map V.ref))) d S0:=All2.mono a7 fun c y h=>(jf (n h)).trans h
  have M:=(jf (o:=HO.lst (d.map V.ref)) (n aa)).trans aa;generalize upd g p4 (.lst (d.map V.ref))=H5 at G a0 a2 a8 M|-;clear n;have ac:=G _ _ ob;obtain⟨p,hp⟩:∃p,ps[y.1]?=some p:=⟨_,vz y1⟩
  have ah:pcB ps gs y.1=pcsI gs p.2 (inP ps p.2):=by unfold pcB;rw[hp]
  have aj:(ps.map fun p=>pcsI gs p.2 (inP ps p.2))[y.1]?=some (pcB ps gs y.1):=by rw[vv,hp,ah];rfl
  obtain⟨al,ae,bs,ab,hq⟩:=L.pa.get aj;have ai:=hq.1;have ar:=yD N y.1;exists⟨a,_,Z,_,_,rfl,ac,T.ju,T.jP,ZO,?_⟩;exists ixTm (SqT.of M) rfl ?_;exists ixLm (SqL.of (G _ _ L.p)) (JL (j:=y.1) (by rw[vv,ae];rfl)) ?_;exists⟨al,rfl,⟨_,SqL.of (G _ _ ab)⟩,?_⟩;refine Je (xs:=bs.map V.ref) (fun j ys C=>IvE1 fun(r:List Addr)=>IvA3 (ys=r.map V.ref) (r.length<=j) (PcsAt H5 r (rq f ((pcB ps gs y.1).take j))/\H5=C)) ⟨[],rfl,vc _,.nil,rfl⟩ ?_ ?_ ?_
  ·rintro j ys C _ ⟨r,rfl,fl,I,rfl⟩;exact SqL.of (G _ _ ab)
  ·rintro j v ys C ak ⟨r,rfl,fl,I,rfl⟩;obtain⟨cq,u,rfl,k,hc⟩:=hq.at_ref ak;have ap:=(vx.mp k).1;have av:=Qt W (vm k);have ey:f[u.1]?=some (f.getD u.1 0):=by rw[vy,vz (by lia)];rfl
   refine Jv (σ':=[none,some (.ref a)]) rfl ?_;exists⟨a,_,Z,_,_,rfl,ac,T.ju,T.jv,qb,?_⟩;exists ixTm (SqT.of (G _ _ hc)) rfl ?_;exists ixLm (SqL.of (G _ _ L.w)) (JL (j:=u.1) (by rw[vv,ey];rfl)) ?_;walk_at"g";have ef:rq f ((pcB ps gs y.1).take (j+1))=rq f ((pcB ps gs y.1).take j)++(if decide (0<f.getD u.1 0)=true then[u]else[]):=by
    unfold rq;rw[take_snoc k,filter_append];congr 1;rw[filter_cons,List.filter_nil]
   refine iteD (fun c=>?_) (fun c=>?_)
   ·exists⟨by rw[vt];lia,r++[cq],by rw[vk];rfl,by rw[vn,List.length_singleton];lia,?_,rfl⟩;rw[ef,ve (vF c)];exact All2.snoc I (G _ _ hc)
   ·refine⟨r,rfl,by lia,?_,rfl⟩;rw[ef,vd (by rw[decide_eq_true_eq];exact c),append_nil];exact I
  rintro ys C ⟨r,rfl,fl,I,rfl⟩;rw[vt]at fl I;rw[ai,v3]at I;refine⟨by rw[vt];lia,?_⟩;walk_at"f 6 e";have E:=G.trans s6;have Q:=s6 _ _ a0;have D:=s6 _ _ a2;have Y:=s6 _ _ M;have a9:GonAt H6 d S0:=All2.mono a8 fun c y h=>s6 _ _ h
  have a4:=I.1;exists⟨_,.inl ⟨_,SqL.of e6,rfl⟩,?_⟩;by_cases c1:rq f (pcB ps gs y.1)=[]
  ·have ag:r=[]:=List.length_eq_zero_iff.mp (by rw[a4,c1];rfl);subst ag;refine iteF ?_;exists⟨.inl ⟨rfl,_,SqL.of D⟩,?_⟩;exists ixTm (SqT.of Y) rfl ?_;exists⟨pf,_,_,rfl,rfl,D,by rw[vt];lia,?_⟩;walk_at"g";have am:∀{c:Addr} {xs:List V},H6 c=some (.tup xs)->c≠pf:=fun h z=>by rw[z,D]at h;cases h
   refine⟨_,_,d,S0,F++[y.2],rfl,fun c u h=>(jf (mf h)).trans (E _ _ h),by rw[jt,vk];rfl,(jf (Ne.symm n4)).trans Q,All2.mono a9 fun c y h=>(jf (am h)).trans h,J.leaf c1,?_⟩;have:=xB (ps:=ps) (gs:=gs) (W:=f) y.1;lia
  ·have an:¬r.map V.ref=[]:=fun z=>by
    have:=congrArg List.length z;rw[vt,a4]at this;exact c1 (List.length_eq_zero_iff.mp this)
   refine iteB1 (by simpa using an) ?_;have rN:=J.node N O c1;have a6:=rN.few;rw[vn]at a6;exists⟨.inl ⟨rfl,_,SqL.of Q⟩,?_⟩;exists⟨a,_,Z,_,_,rfl,E _ _ ob,T.ju,T.jF,Ya,?_⟩;exists ixTm (SqT.of Y) rfl ?_;exists⟨p6,z.s,y.2,r,rq f (pcB ps gs y.1),gs,rfl,e6,All2.mono I fun c q h=>s6 _ _ h,E _ _ L.s,fun u k=>N.pcOk (mem_filter.mp k).1,by lia,fun p7 ad H7 s7 aq e7 g7=>?_⟩;have a1:=s7 _ _ Q;have af:=s7 _ _ D;have ao:=g7.1;exists⟨p4,p7,_,_,rfl,rfl,a1,e7,by rw[vt,vt];lia,?_⟩;walk_at"g";have n:∀{c:Addr} {xs:List V},H7 c=some (.tup xs)->c≠p4:=fun h z=>by rw[z,a1]at h;cases h
   refine⟨_,_,d++ad,_,F,rfl,fun c u h=>(jf (m4 h)).trans (s7 _ _ (E _ _ h)),(jf n4).trans af,by rw[jt,vk],All2.app (All2.mono a9 fun c y h=>(jf (n (s7 _ _ h))).trans (s7 _ _ h)) (All2.mono g7 fun c y h=>(jf (n h)).trans h),rN,?_⟩;rw[vk,sum_append,nr];lia
theorem yx(T:Txt K mg t):FnOk P w K mg base CX0 1 t.qo t.qv ["one","other"] (sp_common):=by
 specialize T.zy.F.ok Jo;obtain⟨r,s,rfl,L,R,M,U,q⟩:=h;refine⟨_,(jd (jk (i:=2) Jo.nd rfl (.inl rfl) (jp (ja (pv 0) (ja (pv 1) jb))))
  (jd (jk (i:=3) Jo.nd rfl (.inl rfl) (jp (ja jc (ja jc jb))))
  (jd (zg PassesOwn.never (jy Qs (jm jo (pv 2) jc) jc (nomark _))
   (jd (jk (i:=4) Jo.nd rfl (.inl rfl) (jh jG (jm jo (pv 2) jc) (jm jo (pv 2) jc)))
   (jd (jk (i:=2) Jo.nd rfl (.inl rfl) (jp (ja (jm jo (pv 2) jc) (ja (jh JT (jm jo (pv 2) jc) (jh jz (pv 4) (jm jo (pv 2) jc))) jb))))
   (jg (jk (i:=3) Jo.nd rfl (.inl rfl) (jp (ja (jm jo (pv 3) jc) (ja (jh JT (jm jo (pv 3) jc) (jh jz (pv 4) (jm jo (pv 3) jc))) jb))))))))
  (jg (jB (jp (ja (jm jo (pv 2) jc) (ja (jm jo (pv 3) jc) jb)))))))),?_⟩
 refine jw (σ':=[some _,some _,none,none,none]) rfl ?_;have g:(2:Nat)<=sizeLine:=by decide
 exists⟨g,?_⟩;walk_at"f p1 hp1 H1 z1 e1";exists⟨g,?_⟩;walk_at"f p2 hp2 H2 z2 e2";exists⟨fun n σ' f=>IvE7 fun(m o:Addr) (a b x y:Int) (v:Option V)=>IvA5 (σ'=[some (.int r),some (.int s),some (.ref m),some (.ref o),v]) (Same H f) (f m=some (.tup [.int a,.int b])) (f o=some (.tup [.int x,.int y])) (Ct.Ce r s a b x y/\n=b.toNat),
  ⟨_,p1,p2,_,_,_,_,_,rfl,z1.trans z2,z2 _ _ e1,e2,Ct.Ce.start L M,rfl⟩,?_⟩
 rintro n σ' f ⟨m,o,a,b,x,y,v,rfl,p,d,u,C,rfl⟩;obtain⟨N,A,D,z,E,j,k,F,G,_⟩:=id C;exists ixTm (SqT.of d) rfl ?_;exists iteD (fun c=>?_) (fun c=>?_)
 ·have l:1<=b:=by lia
  have S:=C.step l;have Q:=Q6 (x:=a) (b:=b) (B:=10^200) (by lia) (by lia) (by lia);have W:=S.b0;have I:=Int.emod_add_mul_ediv a b;have J:=vg a (show 0<b by lia);have O:a/b*b=b*(a/b):=Int.mul_comm ..;refine⟨_,fun σ' f h=>h,?_⟩;exists ixTm (SqT.of d) rfl ?_;exists ixTm (SqT.of d) rfl ?_;exists ixTm (SqT.of d) rfl ?_;exists ixTm (SqT.of d) rfl ?_;exists ixTm (SqT.of d) rfl ?_;exists⟨g,?_⟩;walk_at"f p3 hp3 H3 z3 e3";have e:=z3 _ _ u;exists ixTm (SqT.of e) rfl ?_;exists ixTm (SqT.of e) rfl ?_;exists ixTm (SqT.of e) rfl ?_;exists⟨g,?_⟩;walk_at"f p4 hp4 H4 z4 e4";exists⟨(a-a/b*b).toNat,by lia,p3,p4,_,_,_,_,_,rfl,p.trans (z3.trans z4),z4 _ _ e3,e4,S,rfl⟩
 ·have l:b=0:=by lia
  subst l;exists ixTm (SqT.of d) rfl ?_;exists ixTm (SqT.of u) rfl ?_;exists⟨g,?_⟩;walk_at"f p3 hp3 H3 z3 e3";exact q p3 a x H3 (p.trans z3) (none_of p hp3) e3 C.done j k
theorem Yp(T:Txt K mg t)(Qi:FnOk P w K mg base CX0 1 t.qo t.qv ["one","other"] (sp_common)):FnOk P w K mg base CX0 2 t.QM t.QO ["rung","other"] (sp_together):=by
 specialize T.zY.F.ok Jx;obtain⟨a,b,la,lb,B,O,TT,d,S,S',rfl,R,J,eb,U,tB,tO,T2,a3,a6,q⟩:=h;refine⟨_,(jd (jk (i:=2) Jx.nd rfl (.inr rfl) (jx T.zy Qi hr (ja (jm jo (pv 0) jc) (ja (jm jo (pv 1) jc) jb))))
  (jd (jk (i:=3) Jx.nd rfl (.inl rfl) (jh jG (jm jo (pv 1) jc) (jm jo (pv 2) jc)))
  (jd (jk (i:=4) Jx.nd rfl (.inl rfl) (jE jb))
  (jd (JH PassesOwn.never rfl (jR (jm jo (pv 0) jc)) (jn (i:=5) Jx.nd rfl (.inr rfl))
   (jg (JH PassesOwn.never rfl (jR (Jt (ow:=["one"]) (ci:=[5,2]) rfl (CompScope.of (defScope Qb) ["rung","other","common","steps","beats","beat","wanted"] rfl rfl (by decide +kernel)) (JO (by decide)) (jR (jm jo (pv 1) jc)) (fun _ _ _ _ _=>⟨(jn (i:=0) (jU ["rung","other","common","steps","beats","beat","wanted"] rfl (by decide +kernel)) rfl (.inl rfl)),(km (jy qF (jh Jc (jh JT (pv 0) (pv 1)) (jm (zS (K:=K) rfl) (pv 2) jc)) jc (nomark _))),(pv 0)⟩))) (jn (i:=6) Jx.nd rfl (.inl rfl))
    (jg (Jn (Qc PySem.F.plainAttrs_list PySem.F.slot_list_append PySem.F.type_list_append Jl (pv 4) (ja (jh Jb (pv 5) (jh jz (jh Jc (jh jz (jh jG (jh JT (pv 6) (pv 5)) (jm jo (pv 2) jc)) (jm jo (pv 2) jc)) (pv 3)) (jm jo (pv 0) jc))) jb)))))))
  (jg (jB (jp (ja (pv 4) (ja (jh jz (jm jo (pv 0) jc) (pv 3)) jb))))))))),?_⟩
 refine jw (σ':=[some _,some _,none,none,none,none,none]) rfl ?_;have sz:(5000:Nat)<sizeLine:=by decide
 have T1:=tB.t1;have L1:=tO.t1;exists ixTm (SqT.of R) rfl ?_;exists ixTm (SqT.of eb) rfl ?_;exists⟨TT,d,rfl,T1,by lia,L1,by lia,fun p g f Y s a5 e1 G f1 f2=>?_⟩;have g1:=G.1;have g2:g<=d:=Int.le_of_dvd (by lia) G.2.2.1;have st:=Ct.qJ L1 G;have a8:=Q6 (x:=d) (b:=g) (B:=10^61) (by lia) (by lia) (by lia);exists ixTm (SqT.of (s _ _ eb)) rfl ?_;exists ixTm (SqT.of e1) rfl ?_;exists⟨vb _,?_⟩;walk_at"f pb hpb H2 s2 e2";have M:=s.trans s2;have nb:∀{c u},Y c=some u->c≠pb:=fun h=>je h hpb
 exists ixTm (SqT.of (M _ _ R)) rfl ?_;exists⟨la,rfl,⟨_,SqL.of (M _ _ J)⟩,?_⟩;have pl:∀i,(((B.take i).flatMap fun b=>(O.filter fun w=>decide ((w-b)%g=0)).map (mtV TT d g f b)).length)<=(B.take i).length*O.length:=fun i=>by
  generalize B.take i=l
  induction l with
  | nil=>exact vb _
  | cons y r ih=>
   rw[flatMap_cons,vn,vt,vO,Nat.add_mul,Nat.one_mul];have:=List.length_filter_le (fun w=>decide ((w-y)%g=0)) O;lia
 refine JR (xs:=B.map V.int) (fun i D I=>IvE2 fun(o5 C:Option V)=>IvA2 (D=[some (.ref a),some (.ref b),some (.ref p),some (.int (d/g)),some (.ref pb),o5,C]) ((∀c u,c≠pb->H2 c=some u->I c=some u)/\I pb=some (.lst (((B.take i).flatMap fun b=>(O.filter fun w=>decide ((w-b)%g=0)).map (mtV TT d g f b)).map V.int)))) ⟨_,_,rfl,fun c u _ h=>h,e2⟩ ?_ ?_ ?_
 ·rintro i D I _ ⟨o5,C,rfl,Q,e⟩;exact SqL.of (Q _ _ (nb (s _ _ J)) (M _ _ J))
 ·rintro i v D Z hv ⟨o5,C,rfl,Q,e⟩;rw[vv]at hv;obtain⟨k,L,rfl⟩:=vh.mp hv;have hi:=(vx.mp L).1;have bb:=tB.b k (vm L);have z:∀{c u},Y c=some u->Z c=some u:=fun h=>Q _ _ (nb h) (s2 _ _ h)
  have a0:=z (s _ _ eb);have a4:=z (s _ _ R);have a1:=z e1;exists ixTm (SqT.of a0) rfl ?_;exists⟨lb,rfl,⟨_,SqL.of (z (s _ _ U))⟩,?_⟩;refine Je (xs:=O.map V.int) (fun j ys A=>ys=((O.take j).filter fun w=>decide ((w-k)%g=0)).map V.int/\Z=A) ⟨rfl,rfl⟩ ?_ ?_ ?_
  ·rintro j ys A _ ⟨rfl,rfl⟩;exact SqL.of (z (s _ _ U))
  ·rintro j v ys A o ⟨rfl,rfl⟩;rw[vv]at o;obtain⟨E,m,rfl⟩:=vh.mp o;have hj:=(vx.mp m).1;refine Jv (σ':=[none,some (.int k),some (.ref p)]) rfl ?_;exists ixTm (SqT.of a1) rfl ?_;walk_at"g";have ef:(O.take (j+1)).filter (fun w=>decide ((w-k)%g=0))=((O.take j).filter fun w=>decide ((w-k)%g=0))++(if decide ((E-k)%g=0)=true then[E]else[]):=by
    rw[take_snoc m,filter_append];congr 1;rw[filter_cons,List.filter_nil]
   refine iteD (fun c=>?_) (fun c=>?_)
   ·exists⟨?_,?_,rfl⟩
    ·have:=List.length_filter_le (fun w=>decide ((w-k)%g=0)) (O.take j);rw[vj]at this;have:O.length<=B.length*O.length:=Nat.le_mul_of_pos_left _ (by lia);rw[vt];lia
    ·rw[ef,ve (vF c),vk];rfl
   ·refine⟨?_,rfl⟩;rw[ef,vd (by rw[decide_eq_true_eq];exact c),append_nil]
  rintro ys A ⟨rfl,rfl⟩;rw[show(O.map V.int).length=O.length from vt _,v3];have fl:=List.length_filter_le (fun w=>decide ((w-k)%g=0)) O;have ol:O.length<=B.length*O.length:=Nat.le_mul_of_pos_left _ (by lia);refine⟨by first | lia | (rw[vt];lia),?_⟩;walk_at"f 4 e";walk_at"g";have n4:p4≠pb:=(je e hp4).symm;generalize hF:O.filter (fun w=>decide ((w-k)%g=0))=F at e4 fl|-;refine⟨p4,rfl,⟨_,SqL.of e4⟩,?_⟩;have pi:=pl i;rw[vj]at pi;have a7:min i B.length*O.length+O.length<=B.length*O.length:=by
   have:=Nat.mul_le_mul_right O.length (show i+1<=B.length by lia);rw[Nat.add_mul,Nat.one_mul]at this;rw[Nat.min_eq_left (by lia)];exact this
  generalize hA:(B.take i).flatMap (fun b=>(O.filter fun w=>decide ((w-b)%g=0)).map (mtV TT d g f b))=Ac at e pi;refine JR (xs:=F.map V.int) (fun j D I=>IvE1 fun(C:Option V)=>IvA2 (D=[some (.ref a),some (.ref b),some (.ref p),some (.int (d/g)),some (.ref pb),some (.int k),C]) ((∀c u,c≠pb->H4 c=some u->I c=some u)/\I pb=some (.lst ((Ac++(F.take j).map (mtV TT d g f k)).map V.int)))) ⟨_,rfl,fun c u _ h=>h,by rw[List.take_zero,map_nil,append_nil];exact s4 _ _ e⟩ ?_ ?_ ?_
  ·rintro j D I _ ⟨C,rfl,n,N⟩;exact SqL.of (n _ _ n4 e4)
  ·rintro j v D H5 o ⟨C,rfl,n,N⟩;rw[vv]at o;obtain⟨E,m,rfl⟩:=vh.mp o;have hj:=(vx.mp m).1;have wm:E∈O:=by
    have:=vm m;rw[<-hF]at this;exact(mem_filter.mp this).1
   have wb:=tO.b E wm;have k5:∀{c u},Y c=some u->H5 c=some u:=fun h=>n _ _ (nb h) (s4 _ _ (z h))
   have W:=k5 e1;have d1:=Q6 (x:=E-k) (b:=g) (B:=10^130) (by lia) (by lia) (by lia);have r1:=vf ((E-k)/g*f) (show d/g≠0 by lia);have r2:=vg ((E-k)/g*f) (show 0<d/g by lia);exists⟨.inl ⟨rfl,_,SqL.of N⟩,?_⟩;exists ixTm (SqT.of W) rfl ?_;exists ixTm (SqT.of W) rfl ?_;exists ixTm (SqT.of (k5 (s _ _ R))) rfl ?_;exists⟨pb,_,_,rfl,rfl,N,by rw[vt,vn,vt,vj];lia,?_⟩;exists⟨_,rfl,fun c u X h=>(jf X).trans (n _ _ X h),?_⟩;rw[jt,take_snoc m,vk (f:=mtV TT d g f k),<-List.append_assoc,vk (l₁:=Ac++_)];rfl
  ·rintro D H5 ⟨C,rfl,n,N⟩;rw[vt,v3]at N;exists⟨_,_,rfl,fun c u X h=>n _ _ X (s4 _ _ (Q _ _ X h)),?_⟩;rw[N,take_snoc L,List.flatMap_append,flatMap_cons,flatMap_nil,append_nil,hA,hF]
 ·rintro D Z ⟨o5,C,rfl,Q,e⟩;rw[vt,v3]at e;have z:∀{c u},Y c=some u->Z c=some u:=fun h=>Q _ _ (nb h) (s2 _ _ h)
  have pe:=pl B.length;rw[v3]at pe;exists ixTm (SqT.of (z (s _ _ R))) rfl ?_;exists⟨ui,?_⟩;walk_at"f 6 e";have a2:Same H H6:=fun c u h=>s6 _ _ (z (s _ _ h))
  have n6:H p6=none:=by
   cases hh:H p6 with
   | none=>rfl
   | some u=>rw[z (s _ _ hh)]at hp6;cases hp6
  have up:TT*(d/g)<=TT*d:=by
   have:d/g<=d:=by
    have:=Int.ediv_le_self g (show 0<=d by lia);exact this
   exact Int.mul_le_mul_of_nonneg_left this (by lia)
  exact q p6 pb _ _ H6 a2 n6 e6 (s6 _ _ e) (xo tB tO G) pe up
theorem Ym(T:Txt K mg t)(jC:FnOk P w K mg base CX0 6 t.jD t.jH ["self","book","word"] (sp_initR t.jq)):FnOk P w K mg base (CX1 P w) 8 t.JJ t.JK ["books","words","beat"] (YD t.jW):=by
 refine T.QB.okR Jh (fun vs H Q E h=>?_) (fun a0 A X s H vs Q E hr h=>?_)
 ·obtain⟨a,b,as,n,t0,rfl,L,G,M,d3,U,x,q⟩:=h;rfl
 obtain⟨a,b,as,n,t0,rfl,L,G,M,d3,U,x,q⟩:=h;refine⟨_,(Wi (yH (i:=3) (ow:=["book","word"]) (ci:=[]) rfl (CompScope.of (defScope j0) ["books","words","beat","tallies","rung","tally","begin"] rfl rfl (by decide +kernel)) (zR (by decide) (by decide)) Jh.nd rfl (.inl rfl) (Zi (by rfl) T.yW (ja (pv 0) (ja (pv 1) jb))) (fun _ _ _ _ _=>⟨(JG rfl (jr (jn (i:=0) (jU ["books","words","beat","tallies","rung","tally","begin"] rfl (by decide +kernel)) rfl (.inl rfl)) (jr (jn (i:=1) (jU ["books","words","beat","tallies","rung","tally","begin"] rfl (by decide +kernel)) rfl (.inl rfl)) Jg))),JU,(Ka T.zD (jC.mono (by decide)) hr (by rfl) T.zb T.JQ .nil pass0 (ja (pv 0) (ja (pv 1) jb)))⟩))
  (Zk (XJ (QR (jI (ZG rfl) (by rfl) T.xt wd (ja (Jt (ow:=["tally"]) (ci:=[]) rfl (CompScope.of (defScope j0) ["books","words","beat","tallies","rung","tally","begin"] rfl rfl (by decide +kernel)) (JO (by decide)) (jR (pv 3)) (fun _ _ _ _ _=>⟨(jn (i:=0) (jU ["books","words","beat","tallies","rung","tally","begin"] rfl (by decide +kernel)) rfl (.inl rfl)),JU,(zd Qs (jm (qe (K:=K) rfl) (zT (K:=K) rfl (pv 0) rfl) (Yv Zn jc)) jc (nomark _))⟩)) jb)))
   (Zk (Wh PySem.F.excBase_ValueError ⟨rfl,rfl,rfl,rfl⟩ (by rfl) T.Yh T.QA))
   KW))),?_⟩
 refine KU (σ':=[some _,some _,some _,none,none,none,none]) rfl ?_;have sz:(20000:Nat)<sizeLine:=by decide
 have bl:=G.1;refine xc ?_;exists⟨a,b,_,_,rfl,SqL.of L,SqL.of M,?_⟩;refine Ze (xs:=as.map V.ref) (zs:=n.map fun d=>V.str d.x) (fun i l r=>IvE1 fun(f:List Addr)=>IvA3 (l=f.map V.ref) (f.length=i) (Same H r/\All2 (TlA t.jq r) f (n.take i))) (by rw[vt,vt];exact bl) ⟨[],rfl,rfl,Same.refl _,.nil⟩ ?_ ?_ ?_
 ·rintro i l r _ ⟨f,rfl,D,p,m⟩;exact⟨SqL.of (p _ _ L),SqL.of (p _ _ M)⟩
 ·rintro i u v l r T0 I hu F ⟨f,rfl,D,p,m⟩ sP tP;obtain⟨ba,d,rfl,g,pl,pp,S,Y,Bd⟩:=G.at_ref hu;rw[vv,g]at F;cases F;have hi:=(vx.mp g).1;have k:=U d (vm g);refine Jv (σ':=[none,none]) rfl ?_;refine JV (SqT.of tP) ?_;exists iteT ?_;walk_at"g";intro o y ho R ne;have s3:Same I (upd (upd I y (.own o)) o (.ins t.jq y [])):=fun c u h=>(jf (je h ho)).trans ((jf (je h R)).trans h)
  have B:=p.trans sP;refine⟨o,y,ba,pl,pp,S,Y,d.ls,d.ps,d.gs,d.hs,d.x,rfl,jt,Bd.same (B.trans s3),k.sn,k.x1,k.x2,fun z W H5 k5 O A=>⟨rfl,?_⟩⟩;have eW:=YI k.sn.s.w (vc _) O k.w;subst eW;have C:Same I H5:=fun c u h=>k5 _ _ (je h ho) (s3 _ _ h)
  refine⟨by rw[vt];lia,f++[o],by rw[vk];rfl,by rw[vn,D];rfl,B.trans C,?_⟩;rw[take_snoc g];exact All2.snoc (All2.mono m fun c e ⟨z,h⟩=>⟨z,h.keep (sP.trans C)⟩) ⟨z,A⟩
 rintro l r ⟨f,rfl,D,p,m⟩;rw[vt]at D;rw[vt,bl,v3]at m;refine⟨by rw[vt];lia,?_⟩;walk_at"f 1 e";have Z:=p.trans s1;have J:All2 (TlA t.jq H1) f n:=All2.mono m fun c e ⟨z,h⟩=>⟨z,h.keep s1⟩
 clear m;walk_at"g";dsimp only
 with_reducible refine Xn ?_
 exists⟨p1,rfl,⟨_,SqL.of e1⟩,?_⟩;refine Je (xs:=f.map V.ref) (fun i l j=>l=((n.take i).map fun d=>decide (12<d.W.getD d.n 0)).map V.bl/\H1=j) ⟨rfl,rfl⟩ ?_ ?_ ?_
 ·rintro i l j _ ⟨rfl,rfl⟩;exact SqL.of e1
 ·rintro i v l j F ⟨rfl,rfl⟩;obtain⟨ta,d,rfl,g,z,A⟩:=J.at_ref F;have hi:=(vx.mp g).1;have k:=U d (vm g);obtain⟨y,ob⟩:=A.o;refine Jv (σ':=[none]) rfl ?_;exists iteT ?_;exists⟨ta,_,y,_,_,rfl,ob,T.ju,T.jv,qb,?_⟩;exists ixLm (SqL.of A.w) (zQ k.sn.ne k.w.1) ?_;exists⟨by rw[vt,vt,vj];lia,?_,rfl⟩;rw[take_snoc g,vk,vk];rfl
 rintro l j ⟨rfl,rfl⟩;refine⟨by rw[vt,vt,vj];lia,?_⟩;walk_at"f 2 e";exists⟨p2,_,rfl,SqL.of e2,?_⟩;have eA:(((n.take (f.map V.ref).length).map fun d=>decide (12<d.W.getD d.n 0)).any id)=true:=by
  rw[vt,List.take_of_length_le (by lia)];obtain⟨d,g,N⟩:=x;exact any_eq_true.mpr ⟨true,vJ.mpr ⟨d,g,vF N⟩,rfl⟩
 rw[eA];refine⟨_,rfl,iteT ?_⟩;exact q _ (Z.trans s2)
theorem kg(T:Txt K mg t)(jC:FnOk P w K mg base CX0 6 t.jD t.jH ["self","book","word"] (sp_initR t.jq))(qP:FnOk P w K mg base CX0 2 t.qS t.qV ["tally"] (sp_rung t.jq))(QK:FnOk P w K mg base CX0 2 t.QM t.QO ["rung","other"] (sp_together)):FnOk P w K mg base CX0 8 t.JJ t.JK ["books","words","beat"] (sp_meeting):=by
 specialize T.QB.ok Jh;obtain⟨a,b,as,x,t0,rfl,ea,Bk,eb,d3,ok,q⟩:=h;refine⟨_,(jd (yH (i:=3) (ow:=["book","word"]) (ci:=[]) rfl (CompScope.of (defScope j0) ["books","words","beat","tallies","rung","tally","begin"] rfl rfl (by decide +kernel)) (zR (by decide) (by decide)) Jh.nd rfl (.inl rfl) (Zi (by rfl) T.yW (ja (pv 0) (ja (pv 1) jb))) (fun _ _ _ _ _=>⟨(JG rfl (jr (jn (i:=0) (jU ["books","words","beat","tallies","rung","tally","begin"] rfl (by decide +kernel)) rfl (.inl rfl)) (jr (jn (i:=1) (jU ["books","words","beat","tallies","rung","tally","begin"] rfl (by decide +kernel)) rfl (.inl rfl)) Jg))),JU,(Ka T.zD (jC.mono (by decide)) hr (by rfl) T.zb T.JQ .nil pass0 (ja (pv 0) (ja (pv 1) jb)))⟩))
  (jd (JS (QR (jI (ZG rfl) (by rfl) T.xt wd (ja (Jt (ow:=["tally"]) (ci:=[]) rfl (CompScope.of (defScope j0) ["books","words","beat","tallies","rung","tally","begin"] rfl rfl (by decide +kernel)) (JO (by decide)) (jR (pv 3)) (fun _ _ _ _ _=>⟨(jn (i:=0) (jU ["books","words","beat","tallies","rung","tally","begin"] rfl (by decide +kernel)) rfl (.inl rfl)),JU,(zd Qs (jm (qe (K:=K) rfl) (zT (K:=K) rfl (pv 0) rfl) (Yv Zn jc)) jc (nomark _))⟩)) jb)))
   (jg zf)
   jM)
  (jd (jk (i:=4) Jh.nd rfl (.inr rfl) (jp (ja (jE (ja jc jb)) (ja jc jb))))
  (jd (JH PassesOwn.never rfl (jR (pv 3)) (jn (i:=5) Jh.nd rfl (.inl rfl))
   (jg (jk (i:=4) Jh.nd rfl (.inr rfl) (jx T.zY QK hr (ja (pv 4) (ja (jp (ja (jx T.QW qP hr (ja (pv 5) jb)) (ja (qD (pv 5) rfl) jb))) jb))))))
  (jd (jk (i:=6) Jh.nd rfl (.inr rfl) (jI (ZI rfl) (by rfl) T.wc YR (ja (pv 2) (ja jc jb))))
  (jg (jB (xa rfl (by rfl) T.xu (Jt (ow:=["one"]) (ci:=[6,4]) rfl (CompScope.of (defScope j0) ["books","words","beat","tallies","rung","tally","begin"] rfl rfl (by decide +kernel)) (JO (by decide)) (jR (jm jo (pv 4) jc)) (fun _ _ _ _ _=>⟨(jn (i:=0) (jU ["books","words","beat","tallies","rung","tally","begin"] rfl (by decide +kernel)) rfl (.inl rfl)),JU,(jh Jb (pv 1) (jh Jc (jh JT (pv 0) (pv 1)) (jm (zS (K:=K) rfl) (pv 2) jc)))⟩)) zw)))))))),?_⟩
 refine jw (σ':=[some _,some _,some _,none,none,none,none]) rfl ?_;have sz:(20000:Nat)<sizeLine:=by decide
 have bl:=Bk.1;exists⟨a,b,_,_,rfl,SqL.of ea,SqL.of eb,?_⟩;refine Ze (xs:=as.map V.ref) (zs:=x.map fun d=>V.str d.x) (fun i n s=>IvE1 fun(f:List Addr)=>IvA3 (n=f.map V.ref) (f.length=i) (Same H s/\All2 (TlA t.jq s) f (x.take i))) (by rw[vt,vt];exact bl) ⟨[],rfl,rfl,Same.refl _,.nil⟩ ?_ ?_ ?_
 ·rintro i n s _ ⟨f,rfl,hl,R,Q⟩;exact⟨SqL.of (R _ _ ea),SqL.of (R _ _ eb)⟩
 ·rintro i u v n s T0 H4 hu D ⟨f,rfl,hl,R,Q⟩ sP tP;obtain⟨ba,d,rfl,r,pl,pp,a4,a5,Bd⟩:=Bk.at_ref hu;rw[vv,r]at D;cases D;have hi:=(vx.mp r).1;have k:=ok d (vm r);refine Jv (σ':=[none,none]) rfl ?_;refine JV (SqT.of tP) ?_;exists iteT ?_;walk_at"g";intro o J ho a3 ne;have s3:Same H4 (upd (upd H4 J (.own o)) o (.ins t.jq J [])):=fun c u h=>(jf (je h ho)).trans ((jf (je h a3)).trans h)
  have X:=R.trans sP;refine⟨o,J,ba,pl,pp,a4,a5,d.ls,d.ps,d.gs,d.hs,d.x,rfl,jt,Bd.same (X.trans s3),k.sn,k.x1,k.x2,fun z W H5 k5 O A=>⟨rfl,?_⟩⟩;have eW:=YI k.sn.s.w (vc _) O k.w;subst eW;have a0:Same H4 H5:=fun c u h=>k5 _ _ (je h ho) (s3 _ _ h)
  refine⟨by rw[vt];lia,f++[o],by rw[vk];rfl,by rw[vn,hl];rfl,X.trans a0,?_⟩;rw[take_snoc r];exact All2.snoc (All2.mono Q fun c e ⟨z,h⟩=>⟨z,h.keep (sP.trans a0)⟩) ⟨z,A⟩
 rintro n s ⟨f,rfl,hl,R,Q⟩;rw[vt]at hl;rw[vt,bl,v3]at Q;refine⟨by rw[vt];lia,?_⟩;walk_at"f 1 e";have a6:=R.trans s1;have F:All2 (TlA t.jq H1) f x:=All2.mono Q fun c e ⟨z,h⟩=>⟨z,h.keep s1⟩
 clear Q;exists⟨p1,rfl,⟨_,SqL.of e1⟩,?_⟩;refine Je (xs:=f.map V.ref) (fun i n g=>n=(List.replicate i false).map V.bl/\H1=g) ⟨rfl,rfl⟩ ?_ ?_ ?_
 ·rintro i n g _ ⟨rfl,rfl⟩;exact SqL.of e1
 ·rintro i v n g D ⟨rfl,rfl⟩;obtain⟨ta,d,rfl,r,z,A⟩:=F.at_ref D;have hi:=(vx.mp r).1;have k:=ok d (vm r);obtain⟨J,ob⟩:=A.o;refine Jv (σ':=[none]) rfl ?_;exists iteT ?_;exists⟨ta,_,J,_,_,rfl,ob,T.ju,T.jv,qb,?_⟩;exists ixLm (SqL.of A.w) (zQ k.sn.ne k.w.1) ?_;walk_at"g";have few:d.W.getD (d.ps.length-1) 0<=12:=k.few;refine⟨by rw[vt,List.length_replicate];lia,?_,rfl⟩;rw[List.replicate_succ',vk,vG (by lia)];rfl
 rintro n g ⟨rfl,rfl⟩;refine⟨by rw[vt,List.length_replicate,vt];lia,?_⟩;walk_at"f 2 e";exists⟨p2,_,rfl,SqL.of e2,?_⟩;rw[show(List.replicate (f.map V.ref).length false).any id=false by rw[List.any_replicate];simp];exists iteF ?_;exists⟨uj,?_⟩;walk_at"f 3 e";exists⟨ui,?_⟩;walk_at"f 4 e";have Z:=s2.trans (s3.trans s4);exists⟨p1,rfl,⟨_,SqL.of (Z _ _ e1)⟩,?_⟩;refine JR (xs:=f.map V.ref) (fun i σ s=>IvE5 fun(o5:Option V) (M L:Addr) (B:List Int) (TT:Int)=>IvA6 (σ=[some (.ref a),some (.ref b),some (.int t0),some (.ref p1),some (.ref M),o5,none]) (Same H1 s) (s M=some (.tup [.ref L,.int TT])) (s L=some (.lst (B.map V.int))) (Tg B TT (fun y=>∀d∈x.take i,d.R y)) (B.length<=12^i/\TT<=(10^60)^i))
  ⟨_,p4,p3,[0],1,rfl,Z,e4,s4 _ _ e3,?_,vc _,va _⟩ ?_ ?_ ?_
 ·rw[show(fun y=>∀d∈x.take 0,Mb.R d y)=fun _=>True from funext fun y=>propext ⟨fun _=>trivial,fun _ d h=>nomatch h⟩];exact Wv
 ·rintro i σ s _ ⟨o5,M,L,B,TT,rfl,p,_⟩;exact SqL.of (p _ _ e1)
 ·rintro i v σ H5 D ⟨o5,M,L,B,TT,rfl,p,er,C,E,S,G⟩;obtain⟨ta,d,rfl,r,z,A⟩:=F.at_ref D;have hi:=(vx.mp r).1;have k:=ok d (vm r);have A5:=A.keep p;obtain⟨J,ob⟩:=A5.o;have bL:=(k.sn.g (show d.n<d.ps.length by have:=k.sn.ne;unfold Mb.n;lia)).2;exists⟨ta,z,d.ls,d.ps,d.gs,d.W,d.hs,d.x,rfl,A5,k.sn,k.w,k.few,fun l ms H6 s6 ab e6 up mm ml=>?_⟩;exists⟨ta,_,J,_,_,rfl,s6 _ _ ob,T.ju,T.Jm,WR,?_⟩;exists⟨ui,?_⟩;walk_at"f 7 e";have N:=s6.trans s7;have i2:i<=2:=by lia
  have U:B.length<=144:=vU S (Nat.pow_le_pow_right (by decide) i2);have I:TT<=10^130:=by
   have:i=0\/i=1\/i=2:=by lia
   rcases this with e | e | e<;>rw[e]at G<;>exact Int.le_trans G (by decide)
  have aa:B.length*ms.length<=144*12:=Nat.mul_le_mul U ml;have a7:B.length*ms.length<=12^(i+1):=by rw[Nat.pow_succ];exact Nat.mul_le_mul S ml
  have tO:Tg ms d.L d.R:=k.tg mm;exists⟨M,p7,L,l,B,ms,TT,d.L,_,d.R,rfl,N _ _ er,N _ _ C,e7,s7 _ _ e6,E,tO,I,by show d.gs.getD d.n 0<=_;lia,by lia,fun p8 l8 B8 T8 H8 s8 ac e8 a2 a1 a8 a9=>?_⟩;walk_at"g";rw[xq r]at a1;refine⟨_,p8,l8,B8,T8,rfl,p.trans (N.trans s8),e8,a2,a1,by lia,?_⟩;have t1:=E.t1;have:=Int.mul_le_mul G (show d.L<=10^60 from bL) (by have:=tO.t1;lia) (Int.le_of_lt (Int.pow_pos (by decide)));rw[Int.pow_succ];lia
 ·rintro σ H5 ⟨o5,M,L,B,TT,rfl,p,er,C,E,S,G⟩;have tl:=F.1;rw[show(f.map V.ref).length=x.length from(vt _).trans tl]at E S G;rw[v3]at E;have I:TT<=10^190:=by
   have:x.length=0\/x.length=1\/x.length=2\/x.length=3:=by lia
   rcases this with e | e | e | e<;>rw[e]at G<;>exact Int.le_trans G (by decide)
  have U:B.length<=12^3:=vU S (Nat.pow_le_pow_right (by decide) d3);have t1:=E.t1;exists⟨_,_,rfl,?_⟩;rw[max0];exists XG ?_;exists ixTm (SqT.of er) rfl ?_;exists⟨L,rfl,⟨_,SqL.of C⟩,?_⟩;refine Je (xs:=B.map V.int) (fun j n g=>n=((B.take j).map (cnd (max t0 0) TT)).map V.int/\H5=g) ⟨rfl,rfl⟩ ?_ ?_ ?_
  ·rintro j n g _ ⟨rfl,rfl⟩;exact SqL.of C
  ·rintro j v n g D ⟨rfl,rfl⟩;rw[vv]at D;obtain⟨y,hy,rfl⟩:=vh.mp D;have hj:=(vx.mp hy).1;refine Jv (σ':=[none,some (.int (max t0 0)),some (.ref M)]) rfl ?_;exists iteT ?_;exists ixTm (SqT.of er) rfl ?_;exists⟨by rw[vt,vt,vj];lia,?_,rfl⟩;rw[take_snoc hy,vk,vk];rfl
  rintro n g ⟨rfl,rfl⟩;rw[show(B.map V.int).length=B.length from vt _,v3];refine⟨by rw[vt,vt];lia,?_⟩;walk_at"f 6 e";have Y:=a6.trans (p.trans s6);refine⟨p6,_,rfl,SqL.of e6,fun e=>?_,fun m hm=>?_⟩
  ·exact q _ _ Y (W1 E (List.map_eq_nil_iff.mp e))
  ·exact q _ _ Y (wL E I hm)
theorem Zu(T:Txt K mg t)(F:FnOk P w K mg base CX0 8 t.JJ t.JK ["books","words","beat"] (sp_meeting))(d:FnOk P w K mg base (CX1 P w) 8 t.JJ t.JK ["books","words","beat"] (YD t.jW)):FnOk P w K mg base CX0 9 t.qR t.qU ["_law_books","_law_words","_law_beat"] (sp_askedY t.jW):=by
 specialize T.QU.F.ok Jf;obtain⟨a,b,s,m,g,k,rfl,z,o,A,y,E,l,n,q⟩:=h;refine⟨_,(jd (jk (i:=3) Jf.nd rfl (.inl rfl) zw)
  (jd (jk (i:=4) Jf.nd rfl (.inl rfl) zw)
  (jd (xb (i:=5) ⟨rfl,rfl,rfl,rfl⟩ Jf.nd rfl rfl (by rfl) T.yu
   (jg (jk (i:=4) Jf.nd rfl (.inl rfl) (kY (F.mono (by decide)) hr (by rfl) T.ZV T.QB.kp T.Zz .nil pass0 (ja (pv 0) (ja (pv 1) (ja (pv 2) jb))))))
   (Zk (Xo (xh (d.mono (by decide)) hr (by rfl) T.ZV T.QB.kp T.Zz .nil ⟨rfl,rfl,rfl,rfl⟩ (ja (pv 0) (ja (pv 1) (ja (pv 2) jb))))))
   (fun _=>(jg (jk (i:=3) Jf.nd rfl (.inl rfl) (pv 5)))))
  (jg (jB (jp (ja (pv 3) (ja (pv 4) jb)))))))),?_⟩
 refine jw (σ':=[some _,some _,some _,none,none,none]) rfl ?_;have G:(200:Nat)<sizeLine:=by decide
 exists⟨fun σ' p=>IvE2 fun(f j:V)=>IvA2 (σ'=[some (.ref a),some (.ref b),some (.int g),some f,some j,none]) (Same H p/\(if k=true then∃x,f = .ref x/\p x=some (XcO (.ref t.jW) x)else f = .non/\MeetR m (max g 0) j)),?_,?_⟩
 ·cases k with
  | true=>
   refine xg ?_;refine XH (Wg ?_);exists⟨a,b,s,m,g,rfl,z,o,A,y,E,l rfl,fun r e=>⟨T.jQ,fun x D=>?_⟩⟩;refine jw (σ':=[some (.ref a),some (.ref b),some (.int g),some .non,some .non,some (.ref x)]) rfl ?_;walk_at"g";exact⟨_,_,rfl,fun c u h=>(jf (je (e _ _ h) D)).trans (e _ _ h),x,rfl,jt⟩
  | false=>
   refine xf ?_;exists⟨a,b,s,m,g,rfl,z,o,A,y,n rfl,fun v r e M=>?_⟩;exact⟨_,_,rfl,e,rfl,M⟩
 rintro σ' r ⟨f,j,rfl,e,h⟩;exists⟨ui,?_⟩;walk_at"f 2 t";refine q p2 f j H2 (e.trans s2) t2 ?_;cases k with
 | true=>obtain⟨x,B,C⟩:=h;exact⟨x,B,s2 _ _ C⟩
 | false=>exact h
theorem Xe(T:Txt K mg t)(jO:FnOk P w K mg base CX0 1 t.Jy t.JC ["_law_script","_law_k"] (Pr.sp_cell_at K))(qk:FnOk P w K mg base CX0 1 t.qm t.qu ["_law_times","_law_beats","_law_more"] (sp_bookY))(qc:FnOk P w K mg base CX0 1 t.Jz t.JD ["_law_times","_law_beats"] (sp_doubledY))(qN:FnOk P w K mg base CX0 2 t.QL t.QN ["_law_start","_law_size","_law_other","_law_width","_law_beat"] (Kl))(qM:FnOk P w K mg base CX0 9 t.qR t.qU ["_law_books","_law_words","_law_beat"] (sp_askedY t.jW)):FnOk P w K mg base CX0 10 t.wa t.kI ["_law_script"] (Pr.sp_law K):=by
 specialize T.K8.F.ok jV;obtain⟨a,j,rfl,X,p,hB,q⟩:=h;refine⟨_,(jd (JH PassesOwn.never rfl (Z1 (by rfl) T.kG (ja (jh Jb jc (jI (Kw rfl) (by rfl) T.xu xI (ja jc (ja (jh jG (jI Q1 (by rfl) T.kF yd (ja (pv 0) jb)) jc) jb)))) jb)) (jn (i:=1) jV.nd rfl (.inl rfl))
   (jd (jk (i:=2) jV.nd rfl (.inl rfl) (jx T.jY jO hr (ja (pv 0) (ja (jh jz jc (pv 1)) jb))))
   (jd (jk (i:=3) jV.nd rfl (.inl rfl) (jh Jb jc (jh Jc (pv 2) jc)))
   (jd (jk (i:=4) jV.nd rfl (.inl rfl) (jh Jb jc (jh Jc (jx T.jY jO hr (ja (pv 0) (ja (jh Jb (jh jz jc (pv 1)) jc) jb))) (jh yC jc jc))))
   (jd (jk (i:=5) jV.nd rfl (.inl rfl) (jh Jb jc (jh Jc (jx T.jY jO hr (ja (pv 0) (ja (jh Jb (jh jz jc (pv 1)) jc) jb))) (jh yC jc jc))))
   (jd (jk (i:=6) jV.nd rfl (.inl rfl) (jh Jc (jh jG (pv 2) jc) jc))
   (jd (jk (i:=7) jV.nd rfl (.inl rfl) (jh Jc (jh jG (pv 2) jc) jc))
   (jd (jk (i:=8) jV.nd rfl (.inl rfl) (jh Jc (jh jz (jh jG (pv 2) jc) jc) (jh yC jc jc)))
   (jd (jk (i:=9) jV.nd rfl (.inl rfl) (jx T.Qe qk hr (ja (pv 3) (ja (pv 4) (ja (zd qF (pv 6) jc (nomark _)) jb)))))
   (jd (jk (i:=10) jV.nd rfl (.inl rfl) (jx T.QI qN hr (ja (pv 6) (ja (jh Jb (jh jz jc (pv 4)) (jh jz jc (pv 6))) (ja (pv 7) (ja (jh Jb (jh jz jc (pv 5)) (jh jz jc (pv 7))) (ja (pv 8) jb)))))))
   (jd (Zj (jy qF (jh Jc (jh jG (pv 2) jc) jc) jc (nomark _))
    (jd (jk (i:=9) jV.nd rfl (.inl rfl) (jx T.Qf qc hr (ja (jh jG (pv 3) jc) (ja (pv 4) jb))))
    (jd (jk (i:=3) jV.nd rfl (.inl rfl) (jh jz (jh jG (pv 3) jc) jc))
    (jg (jk (i:=10) jV.nd rfl (.inl rfl) (jx T.QI qN hr (ja jc (ja (jI (ZI rfl) (by rfl) T.wc YR (ja jc (ja (jh Jb (pv 4) jc) jb))) (ja (pv 7) (ja (jh Jb (jh jz jc (pv 5)) (jh jz jc (pv 7))) (ja (pv 8) jb))))))))))
    jM)
   (jd (jk (i:=11) jV.nd rfl (.inl rfl) (jx T.Qe qk hr (ja (jm jX (jE (ja jc (ja (pv 3) jb))) (jh Jc (jh jG (pv 2) jc) jc)) (ja (pv 5) (ja (zd qF (pv 7) jc (nomark _)) jb)))))
   (jd (jk (i:=12) jV.nd rfl (.inl rfl) (jE (ja ji (ja (jm jX (jE (ja ji (ja ji jb))) (jh Jc (jx T.jY jO hr (ja (pv 0) (ja (jh Jb (jh jz jc (pv 1)) jc) jb))) jc)) jb))))
   (jd (jk (i:=13) jV.nd rfl (.inl rfl) (jE (ja (pv 9) (ja (pv 11) jb))))
   (jd (Zj (jy qF (jh Jc (jh jG (jx T.jY jO hr (ja (pv 0) (ja (jh Jb (jh jz jc (pv 1)) jc) jb))) jc) jc) jc (nomark _))
    (jd (jk (i:=13) jV.nd rfl (.inl rfl) (jE (ja (pv 11) (ja (pv 9) jb))))
    (jg (jk (i:=12) jV.nd rfl (.inl rfl) (jE (ja (jm jX (pv 12) jc) (ja (jm jX (pv 12) jc) jb))))))
    jM)
   (jd (wX (jx T.QU qM hr (ja (pv 13) (ja (pv 12) (ja (pv 8) jb)))) (JG rfl (jr (jn (i:=14) jV.nd rfl (.inl rfl)) (jr (jn (i:=15) jV.nd rfl (.inl rfl)) Jg))))
   (jg (JS (jy Qs (pv 3) jc (nomark _))
    (jg (JS (PW.pt (Kg (wY (QR (jI ZH (by rfl) T.JZ JM (ja (pv 14) (ja (zU (v:=.ref t.jW) (by rfl) T.Yh rfl) jb))))) (Kg (wY (QR (jI ZH (by rfl) T.JZ JM (ja (pv 14) (ja (kW (v:=.ty "ValueError") (by rfl) T.yb Zt rfl) jb))))) (Wb (QR (jI Ku (by rfl) T.JZ JM (ja (pv 14) (ja (jp (ja (zU (v:=.ref t.ye) (by rfl) T.W4 rfl) (ja (zU (v:=.ref t.QC) (by rfl) T.kc rfl) jb))) jb))))))))
     (jg (jB kU))
     jM))
    (jg (JS (PW.pt (Kg (jy W9 (pv 14) zw (nomark _)) (Kg (jy xy (pv 15) (jm jX (jE (ja (pv 10) (ja zw jb))) (Z0 Kt (by rfl) T.Xz xH (ja (zd ZZ ji (pv 12) (by with_unfolding_all rfl)) jb))) (nomark _)) (Wb (QR (jI wg (by rfl) T.JZ JM (ja (pv 15) (ja (kW (v:=.ty "bool") (by rfl) T.xC WL rfl) jb))))))))
     (jg (jB kU))
     jM))))))))))))))))))))
  (jg (jB kU))),?_⟩
 refine jw (σ':=[some _,none,none,none,none,none,none,none,none,none,none,none,none,none,none,none]) rfl ?_;have sz:(200:Nat)<sizeLine:=by decide
 have cb:=fun k=>Pr.Kp hB k
 exists⟨_,_,rfl,.inl ⟨_,X,rfl⟩,?_⟩;exists⟨_,_,rfl,?_⟩;rw[vt];have mn:(0:Int)<=(if(j.length:Int)/4<3 then(j.length:Int)/4 else 3)/\(if(j.length:Int)/4<3 then(j.length:Int)/4 else 3)<=3:=by split<;>lia
 generalize(if(j.length:Int)/4<3 then(j.length:Int)/4 else 3)=n at mn|-;exists⟨_,rfl,by lia,by lia,?_⟩;have n4:(1+n).toNat<=4:=by lia
 generalize(1+n).toNat=n at n4|-;refine KA (fun i σ E=>IvE15 fun(o1 o2 o3 o4 o5 o6 o7 o8 o9 W I J L A B:Option V)=>σ=[some (.ref a),o1,o2,o3,o4,o5,o6,o7,o8,o9,W,I,J,L,A,B]/\Same H E) ⟨_,_,_,_,_,_,_,_,_,_,_,_,_,_,_,rfl,Same.refl _⟩ ?_ ?_
 rotate_left
 ·rintro σ H1 ⟨o1,o2,o3,o4,o5,o6,o7,o8,o9,W,I,J,L,A,B,rfl,Y⟩;walk_at"g";exact q H1
 rintro i σ H0 hi ⟨o1,o2,o3,o4,o5,o6,o7,o8,o9,W,I,J,L,A,B,rfl,Y⟩;clear mn;rw[Int.zero_add];exists⟨a,j,_,rfl,Y.seq X,p,by lia,?_⟩;generalize hc:Pr.cell j (4*(i:Int))=c;have bc:Builtin.Int.intBits c<=1048576:=hc▸cb _;exists⟨a,j,_,rfl,Y.seq X,p,by lia,?_⟩;generalize Pr.cell j (4*(i:Int)+1)=c1;exists⟨a,j,_,rfl,Y.seq X,p,by lia,?_⟩;generalize Pr.cell j (4*(i:Int)+2)=c2;walk_at"g";have a1:=vf c (show(13:Int)≠0 by decide);have Z:=vg c (show(0:Int)<13 by decide);have b0:=vf c1 (show(10^18:Int)≠0 by decide);have b1:=vg c1 (show(0:Int)<10^18 by decide);have d0:=vf c2 (show(10^18:Int)≠0 by decide);have d1:=vg c2 (show(0:Int)<10^18 by decide);have t0:=vf (c/312*982451653) (show(10^40:Int)≠0 by decide);have t1:=vg (c/312*982451653) (show(0:Int)<10^40 by decide);obtain⟨m,em⟩:∃m,c/13%2=mrY m:=by
  rcases(show c/13%2=0\/c/13%2=1 by lia)with e | e
  ·exact⟨false,e⟩
  ·exact⟨true,e⟩
 obtain⟨u,eu⟩:∃u,c/156%2=mrY u:=by
  rcases(show c/156%2=0\/c/156%2=1 by lia)with e | e
  ·exact⟨false,e⟩
  ·exact⟨true,e⟩
 have dm:∀m,decide (mrY m=1)=m:=fun m=>by cases m<;>rfl
 rw[em,eu,dm m];have k6:6<=6+c%13:=by lia
 have a4:6+c%13<=18:=by lia
 have l:1<=1+c1%10^18:=by lia
 have o:1+c1%10^18<=10^18:=by lia
 have Q:1<=1+c2%10^18:=by lia
 have S:1+c2%10^18<=10^18:=by lia
 generalize 6+c%13=k at k6 a4|-;generalize 1+c1%10^18=b at l o|-;generalize 1+c2%10^18=e at Q S|-;generalize c/312*982451653%10^40=t' at t0 t1|-;clear a1 Z b0 b1 d0 d1 em eu;have mm:=yv (m:=m);have mu:=yv (m:=u);have sB:=yO (m:=m) l o;have sE:=yO (m:=u) Q S;refine⟨k,b,m,rfl,fun r1 H1 s1 B1=>?_⟩;exists⟨mrY m,szY b m,mrY u,szY e u,t',rfl,by lia,by lia,by lia,by lia,by lia,by lia,by lia,by lia,by lia,by lia,fun v1 H2 s2 D1=>?_⟩;walk_at"g";have wb:∀k:Int,k*wdY "bell"= k:=fun k=>by rw[show wdY "bell"= 1 by decide +kernel,Int.mul_one]
 refine⟨fun σ' E=>IvE6 fun(r:Addr) (v:V) (s z y:Int) (d:Mb)=>IvA7 (σ'=[some (.ref a),some (.int (i:Nat)),some (.int c),some (.int s),some (.int b),some (.int e),some (.int (mrY m)),some (.int (mrY u)),some (.int t'),some (.ref r),some v,I,J,L,A,B]) (Same H E) (BkA E r d) (d.x = "bell") (MbC d y z s) (Ct.DueR z y (szY e u) (mrY u) t' v) (1<=s/\s<=18),?_,?_⟩
 rotate_left
 ·exists iteD (fun x=>?_) (fun x=>?_)
  ·exists⟨k/2,b,rfl,fun r2 H3 s3 B3=>?_⟩;exists⟨_,_,rfl,?_⟩;have zz:=yN l o;rw[show(if b+2>4 then b+2 else 4)=szZ b by unfold szZ;split<;>lia];exists⟨0,szZ b,mrY u,szY e u,t',rfl,by lia,by lia,by lia,by lia,by lia,by lia,by lia,by lia,by lia,by lia,fun v2 H4 s4 D2=>?_⟩;walk_at"g";exact⟨r2,v2,_,_,_,mbZ (k/2) b,rfl,Y.trans (s1.trans (s2.trans (s3.trans s4))),BkA.same s4 B3,rfl,mbcZ (by lia) (by lia) l o,D2,by lia,by lia⟩
  ·refine⟨r1,v1,k,_,_,mbY k b m "bell",rfl,Y.trans (s1.trans s2),BkA.same s2 (B1 "bell"),rfl,?_,D1,by lia,by lia⟩;have M:=mbcY (x:="bell") (k:=k) (b:=b) (m:=m) (by decide +kernel) (by decide +kernel) (by lia) (by lia) l o;rw[wb]at M;exact M
 clear D1 B1 s2 s1 v1 r1 sB mm;rintro σ' H3 ⟨r,v,s,z,y,d,rfl,s3,Bd,ex,Md,D,k1,k2⟩;exists⟨ui,?_⟩;walk_at"f 4 t";obtain⟨f,ef,f1,f2⟩:∃f:Int,atI [V.int 1,V.int s] (c/26%2)=some (.int f)/\1<=f/\(f=1\/f=s):=by
  rcases(show c/26%2=0\/c/26%2=1 by lia)with e | e
  ·exact⟨1,by rw[e];rfl,by decide,.inl rfl⟩
  ·exact⟨s,by rw[e];rfl,k1,.inr rfl⟩
 exists ixLm (SqL.of t4) (ef) ?_;walk_at"g";rw[dm u];refine⟨f,e,u,rfl,fun r5 H5 s5 B5=>?_⟩;exists⟨ui,?_⟩;walk_at"f 6 t";exists⟨a,j,_,rfl,(s3.trans (s4.trans (s5.trans s6))).seq X,p,by lia,?_⟩;generalize Pr.cell j (4*(i:Int)+3)=c3;obtain⟨g,eg⟩:∃g:Bool,c3%2=if g then 1 else 0:=by
  rcases(show c3%2=0\/c3%2=1 by lia)with e | e
  ·exact⟨false,e⟩
  ·exact⟨true,e⟩
 exists⟨p6,_,_,.str (if g then("bel" : Str)else "bell"),rfl,rfl,SqL.of t6,by rw[eg];cases g<;>rfl,?_⟩;walk_at"g";have wx:∀g:Bool,Ws.isW (if g then("bel" : Str)else "bell")=true/\¬("gong" : Str)=(if g then("bel" : Str)else "bell")/\wdY (if g then("bel" : Str)else "bell")=if g then 0 else 1:=fun g=>by cases g<;>decide +kernel
 have F:=mbcY (x:=if g then("bel" : Str)else "bell") (k:=f) (b:=e) (m:=u) (wx g).1 (wx g).2.1 f1 (by lia) Q S;rw[(wx g).2.2]at F;have C:=B5 (if g then("bel" : Str)else "bell");have U:(mbY f e u (if g then("bel" : Str)else "bell")).x=(if g then("bel" : Str)else "bell"):=rfl;generalize mbY f e u (if g then("bel" : Str)else "bell")=d' at F C U;rw[<-U,<-ex];refine⟨ui,?_⟩;walk_at"f 7 t";exists⟨ui,?_⟩;walk_at"f 8 t";have O:=s4.trans (s5.trans (s6.trans (s7.trans s8)));have N:=s3.trans O;exists⟨fun σ' E=>IvE4 fun(bo wo:Addr) (as:List Addr) (G:List Mb)=>IvA5 (σ'=[some (.ref a),some (.int (i:Nat)),some (.int c),some (.int s),some (.int b),some (.int e),some (.int (mrY m)),some (.int (mrY u)),some (.int t'),some (.ref r),some v,some (.ref r5),some (.ref wo),some (.ref bo),A,B]) (Same H E) (E bo=some (.lst (as.map V.ref))) (All2 (BkA E) as G) (E wo=some (.lst (G.map fun d=>V.str d.x))/\(G=[d,d']\/G=[d',d])),?_,?_⟩
 rotate_left
 ·exists⟨a,j,_,rfl,N.seq X,p,by lia,?_⟩;exists iteD (fun x=>?_) (fun x=>?_)
  ·exists⟨ui,?_⟩;walk_at"f 9 t";have a0:=s9 _ _ (s8 _ _ t7);exists ixLm (SqL.of a0) rfl ?_;exists ixLm (SqL.of a0) rfl ?_;exists⟨ui,?_⟩;walk_at"f 10 t";walk_at"g";exact⟨p9,p10,[r5,r],[d',d],rfl,N.trans (s9.trans s10),s10 _ _ t9,All2.cons (BkA.same (s6.trans (s7.trans (s8.trans (s9.trans s10)))) C) (All2.cons (BkA.same (O.trans (s9.trans s10)) Bd) .nil),t10,.inr rfl⟩
  ·exact⟨p8,p7,[r,r5],[d,d'],rfl,N,t8,All2.cons (BkA.same O Bd) (All2.cons (BkA.same (s6.trans (s7.trans s8)) C) .nil),s8 _ _ t7,.inl rfl⟩
 clear O N t8 t7 t6 t4 C B5 Bd;rintro σ' H9 ⟨bo,wo,as,G,rfl,s9,tb,al,tw,hd⟩;have md:∀x,x∈G↔x=d\/x=d':=fun x=>by
  rcases hd with rfl | rfl<;>simp[or_comm]
 have d3:G.length<=3:=by rcases hd with rfl | rfl<;>exact(show 2<=3 by decide)
 exists⟨bo,wo,as,G,t',decide (12<s),rfl,tb,al,tw,d3,fun x hx=>?_,fun h=>⟨d,(md d).mpr (.inl rfl),by rw[Md.wn];exact of_decide_eq_true h⟩,fun h x hx=>?_,fun p10 ev fv H10 s10 t10 R=>?_⟩
 ·rcases(md x).mp hx with rfl | rfl
  ·exact Md.ms
  ·exact F.ms
 ·have h:¬12<s:=of_decide_eq_false h;rcases(md x).mp hx with rfl | rfl
  ·exact Md.ok (by lia)
  ·refine F.ok ?_;cases g
   ·show f*1<=12;lia
   ·show f*0<=12;lia
 refine JV (SqT.of t10) ?_;exists iteD (fun x=>?_) (fun x=>?_)
 ·rw[ve (vF x)]at R;obtain⟨x,rfl,h⟩:=R;exists Ki h T.Zs T.Ji ⟨_,rfl,iteF ?_⟩;exists Ki h T.Zs T.jL ⟨_,rfl,iteF ?_⟩;exists⟨ui,?_⟩;walk_at"f 11 t";exists⟨x,t.jW,p11,[t.ye,t.QC],false,rfl,s11 _ _ h,T.Zs,t11,kit2 T.Js T.Ja,⟨_,rfl,iteF ?_⟩⟩;exact⟨_,_,_,_,_,_,_,_,_,_,_,_,_,_,_,rfl,s9.trans (s10.trans s11)⟩
 ·rw[vd (by rw[decide_eq_true_eq];exact x)]at R;obtain⟨rfl,R⟩:=R;exists⟨rfl,_,rfl,iteF ?_⟩;exists⟨ui,?_⟩;walk_at"f 11 t";walk_at"g";have a3:inV (.str "bel") (G.map fun d=>V.str d.x)=g:=by
   rcases hd with rfl | rfl<;>(simp only[List.map];rw[ex,U];cases g<;>decide +kernel)
  refine⟨wo,_,rfl,.inl (SqL.of (s11 _ _ (s10 _ _ tw))),rfl,by rcases hd with rfl | rfl<;>rfl,?_⟩;rw[vd vE,a3];have a2:fv=if g then .non else v:=by
   rw[show max t' 0=t' by lia]at R;cases g
   ·exact wK Md F (by lia) (by show 0<f*1;lia) md R D
   ·have F:MbC d' (mrY u) (szY e u) (f*0):=F;rw[Int.mul_zero]at F;exact KJ F ((md d').mpr (.inr rfl)) R
  subst a2;exists .inr ⟨_,rfl,?_⟩;refine⟨p11,_,_,(if g then .non else v),rfl,rfl,SqL.of t11,by cases g<;>rfl,?_⟩;have hw:(if g then V.non else v) = .non\/∃y,(if g then V.non else v) = .int y:=by
   cases g
   ·rcases D with⟨rfl,_⟩ | ⟨y,rfl,_⟩
    ·exact .inl rfl
    ·exact .inr ⟨y,rfl⟩
   ·exact .inl rfl
  clear R t10 t11 D;generalize(if g then V.non else v)=w at hw|-;have sN:=s9.trans (s10.trans s11);rcases hw with rfl | ⟨y,rfl⟩
  ·refine⟨rfl,_,rfl,?_⟩;rw[vF rfl];refine iteF ?_;exists⟨_,_,_,_,rfl,.non,zI,?_⟩;refine⟨_,rfl,iteF ?_⟩;exact⟨_,_,_,_,_,_,_,_,_,_,_,_,_,_,_,rfl,sN⟩
  ·refine⟨rfl,_,rfl,?_⟩;rw[vF rfl];refine iteF ?_;exists⟨_,_,_,_,rfl,.int _,Y3,?_⟩;refine⟨_,rfl,iteF ?_⟩;exact⟨_,_,_,_,_,_,_,_,_,_,_,_,_,_,_,rfl,sN⟩
theorem WI(T:Txt K mg t):FnOk P w K mg base CX0 10 t.wa t.kI ["_law_script"] (Pr.sp_law K):=by
 have m:FnOk P w K mg base CX0 1 t.Jy t.JC _ _:=zK T;have v:FnOk P w K mg base CX0 1 t.qm t.qu _ _:=yw T;have s:FnOk P w K mg base CX0 1 t.Jz t.JD _ _:=zL T;have u:FnOk P w K mg base CX0 1 t.JA t.JE _ _:=zM T;have p:FnOk P w K mg base CX0 1 t.JX t.J0 _ _:=Zv T;have o:=Yn T u p;have c:FnOk P w K mg base CX0 1 t.JB t.JF _ _:=Zy T;have e:FnOk P w K mg base CX0 1 t.qT t.qW _ _:=Yo T;have b:=wT T c e;have k:=W8 T c b;have l:=wU T k;have r:FnOk P w K mg base CX0 1 t.JY t.J1 _ _:=Zx T;have h:FnOk P w K mg base CX0 1 t.qp t.qw _ _:=yy T;have y:=kf T b l r h;have i:FnOk P w K mg base CX0 1 t.qr t.qx _ _:=yz T;have j:=yA T b i;have d:=Qd T y j;have x:FnOk P w K mg base CX0 1 t.QZ t.Q3 _ _:=KP T;have q:=Zw T x;have g:FnOk P w K mg base CX0 1 t.qo t.qv _ _:=yx T;have f:=Yp T g;have z:=kg T d q f;have a:FnOk P w K mg base (CX1 P w) 8 t.JJ t.JK _ _:=Ym T d;have n:=Zu T z a;exact Xe T m v s o n
end
@[elab_as_elim] theorem uu1{P:List Value->Prop}(us:List Value)(hl:us.length=1)(h:∀a0,P [a0]):P us:=match us,hl with | [a0],_=>h a0
theorem bb1{K:Frg}{x q:Str}{st:Stmt}{f:Addr}{k:FuncData}{l:Str}(F:Fun K x q st f k)(h:∀(kV j p:Value) (m:Option Addr) (i n:Value) (a0:Value),bindArgs (W.fnOf x q (defArgs st) (defBody st) (defScope st) .none kV j p m i n) ⟨[a0],[]⟩=pure ([l].zip [a0]):=by intros;rfl):Binds K k [l] []:=F.binds fun a b c d e g r o=>uu1 r o (h a b c d e g)
@[elab_as_elim] theorem uu2{P:List Value->Prop}(us:List Value)(hl:us.length=2)(h:∀a0 a1,P [a0,a1]):P us:=match us,hl with | [a0,a1],_=>h a0 a1
theorem bb2{K:Frg}{x q:Str}{st:Stmt}{f:Addr}{l:FuncData}{m n:Str}(F:Fun K x q st f l)(h:∀(kV j s:Value) (o:Option Addr) (i p:Value) (a0 k:Value),bindArgs (W.fnOf x q (defArgs st) (defBody st) (defScope st) .none kV j s o i p) ⟨[a0,k],[]⟩=pure ([m,n].zip [a0,k]):=by intros;rfl):Binds K l [m,n] []:=F.binds fun a b c d e g t r=>uu2 t r (h a b c d e g)
@[elab_as_elim] theorem uu3{P:List Value->Prop}(us:List Value)(hl:us.length=3)(h:∀a0 a1 a2,P [a0,a1,a2]):P us:=match us,hl with | [a0,a1,a2],_=>h a0 a1 a2
theorem bb3{K:Frg}{x q:Str}{st:Stmt}{f:Addr}{m:FuncData}{n o p:Str}(F:Fun K x q st f m)(h:∀(kV j u:Value) (r:Option Addr) (i s:Value) (a0 k l:Value),bindArgs (W.fnOf x q (defArgs st) (defBody st) (defScope st) .none kV j u r i s) ⟨[a0,k,l],[]⟩=pure ([n,o,p].zip [a0,k,l]):=by intros;rfl):Binds K m [n,o,p] []:=F.binds fun a b c d e g v t=>uu3 v t (h a b c d e g)
@[elab_as_elim] theorem uu5{P:List Value->Prop}(us:List Value)(hl:us.length=5)(h:∀a0 a1 a2 a3 a4,P [a0,a1,a2,a3,a4]):P us:=match us,hl with | [a0,a1,a2,a3,a4],_=>h a0 a1 a2 a3 a4
theorem bb5{K:Frg}{x q:Str}{st:Stmt}{f:Addr}{o:FuncData}{p r s t u:Str}(F:Fun K x q st f o)(h:∀(kV j z:Value) (v:Option Addr) (i w:Value) (a0 k l m n:Value),bindArgs (W.fnOf x q (defArgs st) (defBody st) (defScope st) .none kV j z v i w) ⟨[a0,k,l,m,n],[]⟩=pure ([p,r,s,t,u].zip [a0,k,l,m,n]):=by intros;rfl):Binds K o [p,r,s,t,u] []:=F.binds fun a b c d e g A y=>uu5 A y (h a b c d e g)
abbrev Ng(K:Frg)(x:Str)(f:Addr):Prop:=W.nsIn K mainGlobals x=some (some (.ref f))
abbrev N0(K:Frg)(x:Str):Prop:=W.nsIn K mainGlobals x=some none
abbrev Nn(K:Frg)(C:Addr)(x:Str):Prop:=W.findIn K (.ref C) x=some none
abbrev Nx(K:Frg)(C:Addr)(x:Str)(f:Addr):Prop:=W.findIn K (.ref C) x=some (some (.ref f))
abbrev Fn1(K:Frg)(x:Str)(st:Stmt)(f:Addr)(d:FuncData):Prop:=Fun K x x st f d
set_option autoImplicit true in
theorem Xw{K:Frg}{h:Heap}{mg:Str->Option Value}(X:K.In h)(G:h.Ns mainGlobals mg)
  {a:Addr}
  (g:Ng K "RingTally" a) (n:W.plainGet K a Str.empty=true) (k:W.hasDictIn K a=true) (o:W.plainOver K a=true) (p:W.findIn K (.ref a) "__setattr__"= some (some (.builtin "object.__setattr__"))) (m:W.makesIn K a=true) (l:W.keepIn K (.ref a)=true) (jF:Nn K a "sizes") (Jm:Nn K a "last") (jP:Nn K a "pieces") (jv:Nn K a "wholes")
  (a1:Ng K "_wall" f1) (F1:Fn1 K "_wall" yI f1 d1)
  (a2:Ng K "numbers_of" f2) (F2:Fn1 K "numbers_of" Qa f2 d2)
  (a3:Ng K "names_in" f3) (F3:Fn1 K "names_in" QT f3 d3)
  (a4:Ng K "inner" f4) (F4:Fn1 K "inner" zV f4 d4)
  (a5:Ng K "ends" f5) (F5:Fn1 K "ends" ko f5 d5)
  (a6:Ng K "moved" f6) (F6:Fn1 K "moved" zW f6 d6)
  (a7:Ng K "check_side" f7) (F7:Fn1 K "check_side" J3 f7 d7)
  (a8:Ng K "length_of" f8) (F8:Fn1 K "length_of" Qw f8 d8)
  (a9:Ng K "lengths" f9) (F9:Fn1 K "lengths" qG f9 d9)
  (aq:Ng K "pieces_in" f10) (N:Fn1 K "pieces_in" Qx f10 d10)
  (ar:Ng K "pieces_of" f11) (P:Fn1 K "pieces_of" qz f11 d11)
  (af:Nx K a "__init__" f12) (aj:W.isFn K (.ref f12)=true) (F:Fun K "__init__" "RingTally.__init__" jT f12 d12)
  (as:Nx K a "ahead" f13) (aI:W.isFn K (.ref f13)=true) (H:Fun K "ahead" "RingTally.ahead" JI f13 d13)
  (au:Ng K "begins" f14) (Q:Fn1 K "begins" zh f14 d14)
  (av:Ng K "beats_rung" f15) (R:Fn1 K "beats_rung" J2 f15 d15)
  (aw:Ng K "common_of" f16) (S:Fn1 K "common_of" Qv f16 d16)
  (ax:Ng K "together" f17) (T:Fn1 K "together" Qb f17 d17)
  {am ag:Option Addr} {ap:Array (Option Value)} {al ak ai ao E ah:Value} {C:Addr} {I:Addr} {an:Value} {L:Option Addr} {J:Array (Option Value)} {aL:Nat} {D:Tok}
  (ay:Ng K "meeting" C) (aK:K.lookup C=some ⟨al,am,.func (W.fnOf "meeting" "meeting" (defArgs j0) (defBody j0) (defScope j0) (.ref I) ak ai ao ag E ah),ap⟩) (aH:W.codeIn K E "meeting"= true) (aJ:W.keepIn K (.ref C)=true) (aM:K.lookup I=some ⟨an,L,.seq #[.int 0 D] aL,J⟩)
  (az:Ng K "_law_cell_at" f19) (Y:Fn1 K "_law_cell_at" qh f19 d19)
  (aA:Ng K "_law_book" f20) (Z:Fn1 K "_law_book" Qu f20 d20)
  (aB:Ng K "_law_doubled" f21) (a0:Fn1 K "_law_doubled" qi f21 d21)
  (aC:Ng K "_law_inverse" f22) (aa:Fn1 K "_law_inverse" qj f22 d22)
  (aD:Ng K "_law_share" f23) (ab:Fn1 K "_law_share" q5 f23 d23)
  (aE:Ng K "_law_due" f24) (ac:Fn1 K "_law_due" QS f24 d24)
  (aF:Ng K "_law_asked" f25) (ad:Fn1 K "_law_asked" q4 f25 d25)
  (aG:Ng K "law" f26) (ae:Fn1 K "law" Wk f26 d26)
  {Jp:Addr}
  (j:Ng K "MOST_NAMES" Jp) (kk_MOST_NAMES:TabK K Jp [("row",.flat (.int 8)),("side",.flat (.int 4))])
  {b:Addr}
  {c:Addr}
  {d:Addr}
  {q:Addr}
  (A:Ng K "Broad" b)
  (i:Ng K "PlayError" c)
  (r:Ng K "TooLong" d)
  (B:Ng K "Long" q)
  (QA:W.excIn K b [.type "ValueError",.type "Exception",.type "BaseException",.type "object"] "ValueError.__new__"= true)
  (v:W.findIn K (.ref b) "__getattribute__"= some (some (.builtin "BaseException.__getattribute__")))
  (y:Nn K b "__getattr__")
  (u:W.findIn K (.ref b) "__class__"= some (some (.builtin "object.__class__")))
  (s:W.subIn K (.ref b) (.type "BaseException")=some true)
  (z:W.subIn K (.ref b) (.type "object")=some true)
  (w:W.isClsIn K b=true)
  (jQ:W.exmOne K (.ref b) (.ref c)=some true)
  (Ja:W.kitOne K (.ref b) (.ref d)=some false)
  (Js:W.kitOne K (.ref b) (.ref q)=some false)
  (jL:W.kitOne K (.ref b) (.type "ValueError")=some true)
  (Ji:W.kitOne K (.ref b) (.ref b)=some true)
  (z0:N0 K "ValueError") (z1:N0 K "any") (z2:N0 K "bool") (z3:N0 K "dict") (z4:N0 K "enumerate") (z5:N0 K "int") (z6:N0 K "isinstance") (z7:N0 K "len") (z8:N0 K "max") (z9:N0 K "min") (aN:N0 K "range") (aO:N0 K "set") (aP:N0 K "sorted") (aQ:N0 K "sum") (aR:N0 K "zip") :
  ∃t:Ad,Txt K mg t:=by
 have U:=WS (st:=j0) aK aH aJ;have M:∀{x f},Ng K x f->mg x=some (.ref f):=fun e=>W.mg_of X G e
 have O:∀{x},N0 K x->mg x=none:=fun e=>W.mg_none_of X G e
 exact⟨⟨f1,_,f2,_,f3,_,f4,_,f5,_,f6,_,f7,_,f8,_,f9,_,f10,_,f11,_,f12,_,f13,_,f14,_,f15,_,f16,_,f17,_,C,_,I,f19,_,f20,_,f21,_,f22,_,f23,_,f24,_,f25,_,f26,_,a,b,c,d,q,_⟩,⟨⟨F1,M a1,bb1 F1⟩,⟨F2,M a2,bb1 F2⟩,⟨F3,M a3,bb1 F3⟩,⟨F4,M a4,bb1 F4⟩,⟨F5,M a5,bb1 F5⟩,⟨F6,M a6,bb1 F6⟩,⟨F7,M a7,bb3 F7⟩,⟨F8,M a8,bb2 F8⟩,⟨F9,M a9,bb1 F9⟩,⟨N,M aq,bb3 N⟩,⟨P,M ar,bb2 P⟩,F,⟨af,aj,F.kp⟩,bb3 F,H,⟨as,aI,H.kp⟩,bb2 H,⟨Q,M au,bb3 Q⟩,⟨R,M av,bb1 R⟩,⟨S,M aw,bb2 S⟩,⟨T,M ax,bb2 T⟩,U,M ay,(FunD.binds (ps:=["books","words","beat"]) (ds:=[]) 3 U aM rfl rfl fun _ _ _ _ _ _ us hl=>match us,hl with | [_,_,_],_=>⟨_,rfl,rfl⟩),⟨Y,M az,bb2 Y⟩,⟨Z,M aA,bb3 Z⟩,⟨a0,M aB,bb2 a0⟩,⟨aa,M aC,bb2 aa⟩,⟨ab,M aD,bb2 ab⟩,⟨ac,M aE,bb5 ac⟩,⟨ad,M aF,bb3 ad⟩,⟨ae,M aG,bb1 ae⟩,⟨n,k,o,p⟩,⟨m,af,aj,l⟩,M g,jF,Jm,jP,jv,M A,M i,M r,M B,QA,⟨v,y,u,s,z,w⟩,jQ,Ja,Js,jL,Ji,O z0,O z1,O z2,O z3,O z4,O z5,O z6,O z7,O z8,O z9,O aN,O aO,O aP,O aQ,O aR,M j,kk_MOST_NAMES⟩⟩
end K49
open PySem PySem.W PyProof.Rows
set_option maxRecDepth 100000 in
set_option maxHeartbeats 0 in
theorem PySem.Challenge.cw_camplay_k49_rung_too_often_holds : PySem.Challenge.rw_camplay_k49_rung_too_often.Holds := by
 w_on;o_law;k_head;(case hw=>w_witness2)
 k_fill
 refine L2.WC (l:=PySem.Challenge.rw_camplay_k49_rung_too_often) (n:=63) (k:=10) (x:="_law_script") (CX:=L2.CX0) (sp:=Pr.sp_law) rfl (by decide) rfl ⟨rfl,by decide,by decide⟩ (fun w h Y=>PySem.W.kIn_of Y) ?F (fun K H a ns hl hb hO hS=>⟨a,ns,rfl,hS,hl,hb,fun _=>rfl⟩) (fun _ _ _ _ z=>z)
 case F=>
  intro w mg fa h KX G hmg;have TT:∃t:K49.Ad,K49.Txt (L2.KOf KX) mg t:=by
   dsimp only[L2.KOf];refine' K49.Xw KX G ?_ ?_ ?_ ?_ ?_ ?_ ?_ ?_ ?_ ?_ ?_ ?_ (L2.jJ ?_ ?_ ?_) ?_ (L2.jJ ?_ ?_ ?_) ?_ (L2.jJ ?_ ?_ ?_) ?_ (L2.jJ ?_ ?_ ?_) ?_ (L2.jJ ?_ ?_ ?_) ?_ (L2.jJ ?_ ?_ ?_) ?_ (L2.jJ ?_ ?_ ?_) ?_ (L2.jJ ?_ ?_ ?_) ?_ (L2.jJ ?_ ?_ ?_) ?_ (L2.jJ ?_ ?_ ?_) ?_ (L2.jJ ?_ ?_ ?_) ?_ ?_ (L2.jJ ?_ ?_ ?_) ?_ ?_ (L2.jJ ?_ ?_ ?_) ?_ (L2.jJ ?_ ?_ ?_) ?_ (L2.jJ ?_ ?_ ?_) ?_ (L2.jJ ?_ ?_ ?_) ?_ (L2.jJ ?_ ?_ ?_) ?_ ?_ ?_ ?_ ?_ ?_ (L2.jJ ?_ ?_ ?_) ?_ (L2.jJ ?_ ?_ ?_) ?_ (L2.jJ ?_ ?_ ?_) ?_ (L2.jJ ?_ ?_ ?_) ?_ (L2.jJ ?_ ?_ ?_) ?_ (L2.jJ ?_ ?_ ?_) ?_ (L2.jJ ?_ ?_ ?_) ?_ (L2.jJ ?_ ?_ ?_) ?_ ?kk_MOST_NAMES ?_ ?_ ?_ ?_ ?QA ?_ ?_ ?_ ?_ ?_ ?_ ?jQ ?Ja ?Js ?jL ?Ji ?_ ?_ ?_ ?_ ?_ ?_ ?_ ?_ ?_ ?_ ?_ ?_ ?_ ?_ ?_
   any_goals first | (show PySem.W.nsIn _ _ _=_;k_is) | (show PySem.W.findIn _ _ _=_;k_is) | k_is
   (case kk_MOST_NAMES=>(show PyProof.Rows.KTD.tabLook _ _ _ _=true);kernel_rfl)
   (case QA=>k_exc)
   (case jQ=>kts_exm)
   (case Ja=>kit_is)
   (case Js=>kit_is)
   (case jL=>kit_is)
   (case Ji=>kit_is)
  obtain⟨t,T⟩:=TT;obtain⟨_,_,kV,dc,pm,an,cd,ct,_,e,_⟩:=T.K8.F.ex;have e0:=hmg.symm.trans T.K8.m;cases e0;refine⟨t.kI,fun s v=>?_,fun base _ _=>K49.WI T⟩;rw[e];exact .of_eq rfl
#print axioms PySem.Challenge.cw_camplay_k49_rung_too_often_holds
