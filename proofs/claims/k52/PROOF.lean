import PyProof.Rows.All
import Wide.All
import OpenK.AllK
import Wide.FinOn
import Lean
import PyProof.EqAt
import PyProof.EqKinds
import PyProof.TupleCall
import PySem.Challenge.RW_camplay_k52_books_put
set_option Elab.async false
set_option linter.all false
set_option maxRecDepth 100000
set_option maxHeartbeats 4000000
open List (all_cons all_eq_true any_cons any_eq_true append_nil ext_getElem filterMap_cons forIn_cons forIn_nil getD_eq_getElem?_getD getElem_map getElem_range length_cons length_drop length_map length_nil length_range length_take lookup_cons map_append map_congr_left map_cons map_map map_nil mem_append mem_append_left mem_append_right mem_cons mem_cons_of_mem mem_cons_self mem_filter mem_filterMap mem_iff_getElem mem_map mem_range mem_singleton nodup_append nodup_cons not_mem_nil of_mem_zip pairwise_map pairwise_singleton size_toArray sum_cons take_length take_of_length_le)
abbrev vz:=@List.getElem?_eq_getElem
abbrev vy:=@List.getD_eq_getElem?_getD
abbrev vx:=@List.getElem?_eq_some_iff
abbrev vv:=@List.getElem?_map
abbrev vt:=@List.length_map
abbrev vq:=@List.mem_cons_self
abbrev vp:=@List.mem_cons_of_mem
abbrev vo:=@List.mem_singleton
abbrev vm:=@List.length_append
abbrev vj:=@List.mem_of_getElem?
abbrev vi:=@List.map_append
abbrev vh:=@List.length_take
abbrev vg:=@List.mem_append
abbrev vf:=@Option.map_eq_some_iff
abbrev va:=@if_pos
abbrev vA:=@if_neg
abbrev vB:=@Nat.le_refl
abbrev vC:=@Nat.zero_le
abbrev vF:=@List.getElem?_append_left
abbrev vG:=@List.getElem?_append_right
abbrev vI:=@Nat.ne_of_lt
abbrev vJ:=@Bool.false_ne_true
abbrev vK:=@decide_eq_true
abbrev vL:=@decide_eq_false
abbrev vM:=@PySem.Heap.lt_size
abbrev vN:=@PySem.Heap.get?_push_of_some
abbrev vO:=@List.mem_map
abbrev vP:=@Option.some.inj
abbrev vR:=@Nat.ne_of_gt
abbrev vT:=@List.length_cons
abbrev vZ:=@Nat.le_trans
abbrev v3:=@Nat.le_of_lt
abbrev v6:=@List.mem_range
abbrev v7:=@List.take_length
abbrev uy:=@List.map_cons
abbrev ug:=@PySem.wpAny_bind
abbrev uf:=@PySem.wpAny_pure
abbrev ue:=@absurd
theorem ud:1<=PySem.sizeLine:=by decide
theorem uc:2<=PySem.sizeLine:=by decide
abbrev Frg := PySem.W.Frag
namespace L2
open PySem PySem.Spec PyProof.Rows
noncomputable abbrev Key:=Sum Int Str
noncomputable def keyIs:Key->Value->Bool
 | .inl k,v=>Value.isInt k v
 | .inr x,v=>Value.isStrOf x v
noncomputable def keyH(w:World):Key->Int
 | .inl k=>hashInt k
 | .inr x=>hashStr w x
theorem Jk:∀{k:Key} {v:Value},keyIs k v=true->(∃i t,k=Sum.inl i/\v=Value.int i t)\/(∃x t,k=Sum.inr x/\v=Value.str x t)
 | .inl i,v,h=>by
  obtain⟨t,e⟩:=Value.isInt_shape (k:=i) (v:=v) h;exact .inl ⟨i,t,rfl,e⟩
 | .inr x,v,h=>by
  obtain⟨t,e⟩:=Value.isStrOf_shape (x:=x) (v:=v) h;exact .inr ⟨x,t,rfl,e⟩
theorem KR(i:Int)(t:Tok):keyIs (.inl i) (.int i t)=true:=by simp[keyIs,Value.isInt]
theorem j0A(x:Str)(t:Tok):keyIs (.inr x) (.str x t)=true:=by simp[keyIs,Value.isStrOf]
theorem j3C(a b:Int):decide ((Sum.inl a:Key)=Sum.inl b)=(a==b):=by
 by_cases e:a=b
 ·subst e;simp
 ·have h:¬(Sum.inl a:Key)=Sum.inl b:=fun q=>e (Sum.inl.inj q)
  rw[vL h];exact(beq_eq_false_iff_ne.mpr e).symm
theorem j3F(a b:Str):decide ((Sum.inr a:Key)=Sum.inr b)=decide (a=b):=by
 by_cases e:a=b
 ·subst e;simp
 ·have h:¬(Sum.inr a:Key)=Sum.inr b:=fun q=>e (Sum.inr.inj q)
  rw[vL h,vL e]
theorem j3D(a:Int)(b:Str):decide ((Sum.inl a:Key)=Sum.inr b)=false:=vL (fun q=>nomatch q)
theorem j3E(a:Str)(b:Int):decide ((Sum.inr a:Key)=Sum.inl b)=false:=vL (fun q=>nomatch q)
noncomputable def mixKind(prog:Program)(w:World):PySem.KeyKind prog w Key where
 is:=keyIs
 hash:=keyH w
 inj:=fun v a b ha hb=>by
  rcases Jk ha with⟨i,t,rfl,rfl⟩ | ⟨x,t,rfl,rfl⟩
  ·rcases Jk hb with⟨j,u,rfl,e⟩ | ⟨y,u,rfl,e⟩
   ·injection e with e1 _;rw[e1]
   ·exact nomatch e
  ·rcases Jk hb with⟨j,u,rfl,e⟩ | ⟨y,u,rfl,e⟩
   ·exact nomatch e
   ·injection e with e1 _;rw[e1]
 byValue:=fun k v h=>by
  rcases Jk h with⟨i,t,rfl,rfl⟩ | ⟨x,t,rfl,rfl⟩<;>rfl
 pyHash:=fun hv h=>by
  rcases Jk hv with⟨i,t,rfl,rfl⟩ | ⟨x,t,rfl,rfl⟩
  ·exact wpAny_pyHash_int h
  ·exact wpAny_pyHash_str h
 eqBool:=fun hu hv h=>by
  rcases Jk hu with⟨i,t,rfl,rfl⟩ | ⟨x,t,rfl,rfl⟩
  ·rcases Jk hv with⟨j,u,rfl,rfl⟩ | ⟨y,u,rfl,rfl⟩
   ·rw[j3C]at h;exact wpAny_eqBool_int h
   ·rw[j3D]at h;exact SeqAt.EqAt.int_str i t y u _ _ _ _ h
  ·rcases Jk hv with⟨j,u,rfl,rfl⟩ | ⟨y,u,rfl,rfl⟩
   ·rw[j3E]at h;exact SeqAt.EqAt.str_int x t j u _ _ _ _ h
   ·rw[j3F]at h;exact wpAny_eqBool_str h
 «strs»:=fun k x t v h=>by
  rcases Jk h with⟨i,u,rfl,e⟩ | ⟨y,u,rfl,e⟩
  ·exact nomatch e
  ·injection e with e1 _;subst e1;cases v<;>rfl
theorem WE(prog:Program)(w:World)(i:Int)(t:Tok):(mixKind prog w).is (.inl i) (.int i t)=true:=KR i t
theorem WF(prog:Program)(w:World)(x:Str)(t:Tok):(mixKind prog w).is (.inr x) (.str x t)=true:=j0A x t
inductive V where
 | non | bl (b:Bool) | int (i:Int) | str (x:Str) | byt (b:Array UInt8) | flt (b:UInt64) | ref (a:Addr) | ty (n:String)
 deriving DecidableEq
noncomputable def RelV:V->Value->Prop
 | .non,u=>u=Value.none
 | .bl b,u=>u=Value.bool b
 | .int i,u=>∃t,u=Value.int i t
 | .str x,u=>∃t,u=Value.str x t
 | .byt b,u=>∃t,u=Value.bytes b t
 | .flt b,u=>∃t,u=Value.float b t
 | .ref a,u=>u=Value.ref a
 | .ty n,u=>u=Value.type n
noncomputable abbrev Vals:List V->List Value->Prop:=Paired RelV
theorem Vals.length(r:Vals xs us):xs.length=us.length:=Paired.length r
theorem Vals.get:∀{xs:List V} {us:List Value} {i:Nat} {x:V},Vals xs us->xs[i]?=some x->∃u,us[i]?=some u/\RelV x u
 | _,_,_,_,.nil,e=>by simp at e
 | _,_,0,_,.cons r _,e=>by simp at e;subst e;exact⟨_,rfl,r⟩
 | _,_,i+1,x,.cons _ t,e=>by
  obtain⟨u,a,b⟩:=Vals.get (i:=i) (x:=x) t (by simpa using e);exact⟨u,by simpa using a,b⟩
theorem Vals.append:∀{xs ys:List V} {us ws:List Value},Vals xs us->Vals ys ws->Vals (xs++ys) (us++ws)
 | _,_,_,_,.nil,s=>s
 | _,_,_,_,.cons r t,s=>.cons r (Vals.append t s)
theorem Vals.take:∀{xs:List V} {us:List Value} (n:Nat),Vals xs us->Vals (xs.take n) (us.take n)
 | _,_,0,_=>.nil
 | _,_,_+1,.nil=>.nil
 | _,_,n+1,.cons r t=>.cons r (Vals.take n t)
theorem Vals.drop:∀{xs:List V} {us:List Value} (n:Nat),Vals xs us->Vals (xs.drop n) (us.drop n)
 | _,_,0,r=>r
 | _,_,_+1,.nil=>.nil
 | _,_,n+1,.cons _ t=>Vals.drop n t
noncomputable def RelO:Option V->Option Value->Prop
 | some v,some u=>RelV v u
 | none,none=>True
 | _,_=>False
noncomputable def KV{κ:Type}:List (κ×V)->List (κ×Value)->Prop:=Paired fun(p:κ×V) (q:κ×Value)=>p.1=q.1/\RelV p.2 q.2
noncomputable def kV:Key->V
 | .inl i=>.int i
 | .inr x=>.str x
inductive HO where
 | lst (xs:List V)
 | tup (xs:List V)
 | dK (kvs:List (Key×V)) | dT (kvs:List (List Key×V))
 | set (S:Int->Bool) (n:Nat)
 | ins (C dx:Addr) (fs:List (Str×V))
 | own (x:Addr)
 | xd (fs:List (Str×V))
 | met (f x:Addr)
 | rng (lo hi:Int)
 | frz (o:Obj) (u:HO)
 | tbl (ps:Array Value)
 | ext (φ:Heap->Prop)
noncomputable abbrev Hp:=Addr->Option HO
noncomputable def upd(H:Hp)(a:Addr)(o:HO):Hp:=fun b=>if b=a then some o else H b
theorem ji{H:Hp}:upd H a o a=some o:=by unfold upd;rw[va rfl]
theorem jg{H:Hp}(h:b≠a):upd H a o b=H b:=by unfold upd;rw[vA h]
theorem qF{H:Hp}(h:H a=some o)(h':H b=some u)(d:o≠u):a≠b:=by
 intro e;subst e;rw[h]at h';exact d (vP h')
theorem jd{H:Hp}(h:H a=some o)(h':H b=none):a≠b:=by
 intro e;subst e;rw[h]at h';cases h'
section
variable(P:Program)(w:World)
noncomputable def ObjOk(H:Hp)(h:Heap)(a:Addr):HO->Prop
 | .lst xs=>xs.length<=sizeLine/\∃(its:List Value) (n:Nat),Vals xs its/\h.get? a=some {cls:=.type "list",data:=.seq its.toArray n}
 | .tup xs=>xs.length<=sizeLine/\∃its:List Value,Vals xs its/\IsTup h a its.toArray
 | .dK kvs=>kvs.length<=sizeLine/\(a==sysModules)=false/\∃vs,KV kvs vs/\h.DictOf (mixKind P w) a vs
 | .dT kvs=>kvs.length<=sizeLine/\(a==sysModules)=false/\∃xs:List (List Key×Addr×Value),
   Paired (fun(p:List Key×V) (q:List Key×Addr×Value)=>p.1=q.1/\H q.2.1=some (.tup (p.1.map kV))/\RelV p.2 q.2.2) kvs xs/\
   ∃o es ep,h.get? a=some o/\o.ExactDict/\o.data = .dict es ep/\es.toList=xs.map (entryOfKey (tupleKind (mixKind P w)))/\(xs.map (·.1)).Nodup
 | .set S n=>h.SetOf (intKind P w) a S n
 | .ins C dx fs=>H dx=some (.own a)/\fs.length<=1000/\dx≠a/\h.get? a=some (PySem.W.instObj C dx)/\
   ∃mA,h.Ns1 dx mA/\(∀f,RelO (fs.lookup f) (mA f))/\PySem.Within mA (fs.map (·.1))
 | .own _=>∃o,h.get? a=some o
 | .xd fs=>∃mA,h.Ns1 a mA/\∀f,RelO (fs.lookup f) (mA f)
 | .rng lo hi=>∃t u v,h.get? a=some {cls:=.type "range",data:=.fields #[.int lo t,.int hi u,.int 1 v]}
 | .frz o u=>h.get? a=some o/\ObjOk H h a u
 | .tbl ps=>h.get? a=some {cls:=.none,data:=.fields ps}
 | .met f x=>h.get? a=some (PySem.W.methodObj (.ref f) (.ref x))
 | .ext φ=>φ h/\(∃o,h.get? a=some o)/\∀h1 h2:Heap,φ h1->(∀o,h1.get? a=some o->h2.get? a=some o)->φ h2
def HOk(H:Hp)(h:Heap):Prop:=∀a o,H a=some o->ObjOk P w H h a o
end
section
variable{P:Program}{w:World}{H H':Hp}{h h':Heap}{a:Addr}{o:HO}
theorem ObjOk.lt(x:ObjOk P w H h a o):a<h.objs.size:=by
 cases o with
 | lst xs=>obtain⟨_,_,_,_,e⟩:=x;exact vM e
 | tup xs=>obtain⟨_,_,_,p⟩:=x;exact p.lt
 | dK kvs=>obtain⟨_,_,_,_,o,_,_,e,_⟩:=x;exact vM e
 | dT kvs=>obtain⟨_,_,_,_,o,_,_,e,_⟩:=x;exact vM e
 | set S n=>obtain⟨o,_,_,_,e,_⟩:=x;exact vM e
 | ins C dx fs=>obtain⟨_,_,_,e,_⟩:=x;exact vM e
 | own y=>obtain⟨_,e⟩:=x;exact vM e
 | xd fs=>obtain⟨_,⟨_,_,_,e,_⟩,_⟩:=x;exact vM e
 | rng lo hi=>obtain⟨_,_,_,e⟩:=x;exact vM e
 | frz ob u=>obtain⟨e,_⟩:=x;exact vM e
 | tbl ps=>exact vM (show h.get? a=some _ from x)
 | met f y=>exact vM (show h.get? a=some _ from x)
 | ext φ=>obtain⟨_,⟨_,e⟩,_⟩:=x;exact vM e
theorem Paired.mapP{e g:Type}{F G:e->g->Prop}:∀{c:List e} {d:List g},Paired F c d->(∀a b,F a b->G a b)->Paired G c d
 | _,_,.nil,_=>.nil
 | _,_,.cons r t,f=>.cons (f _ _ r) (Paired.mapP t f)
theorem ObjOk.stay(x:ObjOk P w H h a o)(k:∀b u,(b=a\/H b=some (.own a))->h.get? b=some u->h'.get? b=some u)
  (D:∀b,H b=some (.own a)->H' b=some (.own a)) (E:∀b xs,H b=some (.tup xs)->H' b=some (.tup xs)):ObjOk P w H' h' a o:=by
 induction o with
 | lst xs=>obtain⟨z,l,n,r,e⟩:=x;exact⟨z,l,n,r,k _ _ (.inl rfl) e⟩
 | tup xs=>obtain⟨z,l,r,g,e,c⟩:=x;exact⟨z,l,r,g,k _ _ (.inl rfl) e,c⟩
 | dK kvs=>obtain⟨z,y,G,r,g,j,i,e,c⟩:=x;exact⟨z,y,G,r,g,j,i,k _ _ (.inl rfl) e,c⟩
 | dT kvs=>
  obtain⟨z,y,xs,r,g,j,i,e,c⟩:=x;exact⟨z,y,xs,Paired.mapP r fun p q z=>⟨z.1,E _ _ z.2.1,z.2.2⟩,g,j,i,k _ _ (.inl rfl) e,c⟩
 | set S n=>obtain⟨g,j,i,t,e,c⟩:=x;exact⟨g,j,i,t,k _ _ (.inl rfl) e,c⟩
 | ins C dx fs=>
  obtain⟨d,z,F,e,m,⟨s,j,i,B,c⟩,r⟩:=x;exact⟨D _ d,z,F,k _ _ (.inl rfl) e,m,⟨s,j,i,k _ _ (.inr d) B,c⟩,r⟩
 | own y=>obtain⟨g,e⟩:=x;exact⟨g,k _ _ (.inl rfl) e⟩
 | xd fs=>obtain⟨m,⟨s,j,i,e,c⟩,r⟩:=x;exact⟨m,⟨s,j,i,k _ _ (.inl rfl) e,c⟩,r⟩
 | rng lo hi=>obtain⟨t,u,v,e⟩:=x;exact⟨t,u,v,k _ _ (.inl rfl) e⟩
 | frz g u ih=>obtain⟨e,q⟩:=x;exact⟨k _ _ (.inl rfl) e,ih q⟩
 | tbl ps=>
  have e:h.get? a=some {cls:=.none,data:=.fields ps}:=x;show h'.get? a=some {cls:=.none,data:=.fields ps};exact k a _ (.inl rfl) e
 | met f y=>
  have e:h.get? a=some (PySem.W.methodObj (.ref f) (.ref y)):=x;show h'.get? a=some (PySem.W.methodObj (.ref f) (.ref y));exact k a _ (.inl rfl) e
 | ext φ=>obtain⟨p,⟨o,e⟩,A⟩:=x;exact⟨A _ _ p fun o q=>k _ _ (.inl rfl) q,⟨o,k _ _ (.inl rfl) e⟩,A⟩
theorem HOk.lt(x:HOk P w H h)(e:H a=some o):a<h.objs.size:=(x a o e).lt
theorem HOk.fresh(x:HOk P w H h)(e:h.objs.size<=a):H a=none:=by
 cases q:H a with
 | none=>rfl
 | some u=>exact ue (Nat.lt_of_lt_of_le (x.lt q) e) (Nat.lt_irrefl _)
theorem HOk.kept(x:HOk P w H h)(k:∀b u,h.get? b=some u->h'.get? b=some u):HOk P w H h':=fun a o e=>
 (x a o e).stay (fun b u _ q=>k b u q) (fun _ q=>q) fun _ _ q=>q
theorem HOk.laid(x:HOk P w H h)(k:∀b u,h.get? b=some u->h'.get? b=some u)(i:h.objs.size<=a)(d:ObjOk P w (upd H a o) h' a o):HOk P w (upd H a o) h':=fun b u e=>by
 have g:=x.fresh i;by_cases f:b=a
 ·subst f;rw[ji]at e;cases e;exact d
 ·rw[jg f]at e;exact(x b u e).stay (fun c v _ q=>k c v q) (fun c q=>by rw[jg (jd q g)];exact q) fun c j q=>by rw[jg (jd q g)];exact q
end
def Rd(H:Hp)(a:Addr)(u:HO):Prop:=H a=some u\/∃o,H a=some (.frz o u)
theorem Rd.ok{H:Hp}(r:Rd H a u)(x:HOk P w H h):ObjOk P w H h a u:=by
 rcases r with r | ⟨o,r⟩
 ·exact x a u r
 ·obtain⟨_,q⟩:=x a _ r;exact q
noncomputable def Mut:Option HO->Prop
 | some (.lst _)=>True
 | some (.dK _)=>True
 | some (.dT _)=>True
 | some (.set _ _)=>True
 | some (.ins _ _ _)=>True
 | some (.ext _)=>True
 | _=>False
section
variable{P:Program}{w:World}{H:Hp}{h h':Heap}{x e:Addr}{o':HO}
theorem HOk.write(t:HOk P w H h)(j:Mut (H x))(o:e=x\/H e=some (.own x))(k:∀b u,b≠e->h.get? b=some u->h'.get? b=some u)(m:∃u,h'.get? e=some u)
  (n:ObjOk P w (upd H x o') h' x o'):HOk P w (upd H x o') h':=fun b u q=>by
 have d:∀c y,H c=some (.own y)->c≠x:=fun c y r z=>by subst z;rw[r]at j;exact j
 have f:∀c l,H c=some (.tup l)->c≠x:=fun c l r z=>by subst z;rw[r]at j;exact j
 by_cases g:b=x
 ·subst g;rw[ji]at q;cases q;exact n
 ·rw[jg g]at q;by_cases a:b=e
  ·have p:H b=some (.own x):=by
    rcases o with z | z
    ·exact ue (a.trans z) g
    ·rw[a];exact z
   rw[q]at p;cases p;obtain⟨v,s⟩:=m;exact⟨v,by rw[a];exact s⟩
  ·refine(t b u q).stay (fun c v i r=>k c v ?_ r) (fun c r=>by rw[jg (d c b r)];exact r) fun c l r=>by rw[jg (f c l r)];exact r
   rcases i with rfl | i
   ·exact a
   ·rintro rfl;rcases o with z | z
    ·exact d c b i z
    ·rw[i]at z;cases z;exact g rfl
end
structure Un(fs ex:List Addr)(H H':Hp)(h h':Heap):Prop where
 keep:∀b o,h.get? b=some o->H b=none->b∉fs->b∉ex->h'.get? b=some o
 slot:∀b o,h.get? b=some o->H b=none->b∈fs->b∉ex->∃sl,h'.get? b=some {o with slots:=sl}
 free:∀b o,h.get? b=some o->H b=none->b∉ex->H' b=none
 there:∀b o,h.get? b=some o->b∉ex->∃o',h'.get? b=some o'
 tups:∀b xs,H b=some (.tup xs)->H' b=some (.tup xs)
 frzs:∀b o u,H b=some (.frz o u)->H' b=some (.frz o u)
 tbls:∀b ps,H b=some (.tbl ps)->∃more,H' b=some (.tbl (ps++more))
section
variable{fs fs' ex ex':List Addr}{H H1 H2:Hp}{h h1 h2 h':Heap}{a x e:Addr}{o:HO}
theorem Un.any(u:Un fs ex H H1 h h1)(q:h.get? b=some ob)(n:H b=none)(c:b∉ex):∃d,h1.get? b=some {ob with slots:=d}:=by
 by_cases a:b∈fs
 ·exact u.slot b ob q n a c
 ·exact⟨ob.slots,u.keep b ob q n a c⟩
theorem Un.kept(k:∀b u,h.get? b=some u->h'.get? b=some u):Un fs ex H H h h':=
 ⟨fun b a q _ _ _=>k b a q,fun b a q _ _ _=>⟨a.slots,k b a q⟩,fun _ _ _ n _=>n,fun b a q _=>⟨a,k b a q⟩,fun _ _ q=>q,fun _ _ _ q=>q,fun _ c q=>⟨#[],by rw[q];simp⟩⟩
theorem Un.refl:Un fs ex H H h h:=Un.kept fun _ _ q=>q
theorem Un.laid(k:∀b u,h.get? b=some u->h'.get? b=some u)(d:h.objs.size<=a)(c:H a=none):Un fs ex H (upd H a o) h h' where
 keep:=fun b u q _ _ _=>k b u q
 slot:=fun b u q _ _ _=>⟨u.slots,k b u q⟩
 free:=fun b u q n _=>by rw[jg (vI (Nat.lt_of_lt_of_le (vM q) d))];exact n
 there:=fun b u q _=>⟨u,k b u q⟩
 tups:=fun b e q=>by rw[jg (jd q c)];exact q
 frzs:=fun b u e q=>by rw[jg (jd q c)];exact q
 tbls:=fun b f q=>⟨#[],by rw[jg (jd q c),q];simp⟩
theorem Un.write(c:Mut (H x))(j:e=x\/H e=some (.own x))(k:∀b u,b≠e->h.get? b=some u->h'.get? b=some u)(d:∃u,h'.get? e=some u):Un fs ex H (upd H x o) h h':=by
 have i:∀b,H b=none->b≠x:=fun b n z=>by subst z;rw[n]at c;exact c
 have g:∀b,H b=none->b≠e:=fun b n z=>by
  subst z;rcases j with r | r
  ·exact i b n r
  ·rw[n]at r;cases r
 have f:∀b u,H b=some u->¬Mut (some u)->b≠x:=fun b u q l z=>by subst z;rw[q]at c;exact l c
 refine⟨fun b u q n _ _=>k b u (g b n) q,fun b u q n _ _=>⟨u.slots,k b u (g b n) q⟩,fun b u q n _=>by rw[jg (i b n)];exact n,fun b u q _=>?_,
  fun b m q=>by rw[jg (f b _ q fun z=>z)];exact q,fun b u m q=>by rw[jg (f b _ q fun z=>z)];exact q,fun b p q=>⟨#[],by rw[jg (f b _ q fun z=>z),q];simp⟩⟩
 by_cases a:b=e
 ·subst a;exact d
 ·exact⟨u,k b u a q⟩
end
noncomputable def trk(h:Heap)(H:Hp):List Addr:=(List.range h.objs.size).filter fun a=>(H a).isSome
noncomputable def hidT(h:Heap)(H:Hp):Heap:=PySem.W.hideAll h (trk h H)
theorem j0w(h:Heap)(H:Hp):(hidT h H).objs.size=h.objs.size:=PySem.W.hideAll_size _ _
theorem j1u{H:Hp}(e:h.get? b=some o)(n:H b=none):(hidT h H).get? b=some o:=
 PySem.W.hideAll_get _ e fun a=>by
  have q:(H b).isSome=true:=(mem_filter.mp a).2;rw[n]at q;simp at q
theorem j2T{H:Hp}(e:(hidT h H).get? b=some o):h.get? b=some o/\H b=none:=by
 have a:h.get? b=some o:=PySem.W.of_hideAll (trk h H) e;refine⟨a,?_⟩;cases q:H b with
 | none=>rfl
 | some x=>
  have c:b∈trk h H:=mem_filter.mpr ⟨v6.mpr (vM a),by simp[q]⟩;have z:(hidT h H).get? b=none:=PySem.W.hideAll_none (trk h H) c;rw[z]at e;cases e
structure Mod(K:Frg)(mg:Str->Option Value)(base:Heap):Prop where
 kin:K.In base
 glob:base.Ns mainGlobals mg
 blt:∃mb,base.Ns builtinsNs mb/\∀x:Str,x≠"__name__"->mb x=bootBuiltins x
 nolimit:base.NoLimit
structure Cx where
 prog:Program
 w:World
 K:Frg
 mg:Str->Option Value
 base:Heap
 A:Around
 N:List Str
 s₀:Shared
 H₀:Hp
 env:Env
 outer:List Env
 stack:List Env
 ex:List Addr
 fn:Str->Bool
 calm:Bool
 pn:List (Addr×Obj)
 xe:Value->Shared->Prop
noncomputable def frs(l:List Env):List Addr:=l.filterMap (·.frame)
noncomputable abbrev Cx.fs(X:Cx):List Addr:=frs X.outer
def Vis(sc:Scope)(x:Str):Prop:=sc.names.lookup x=some .local\/sc.names.lookup x=some .cell\/sc.names.lookup x=some .free
def Loc(sc:Scope)(x:Str):Prop:=sc.names.lookup x=some .local\/sc.names.lookup x=some .cell
def Look(env:Env)(h:Heap)(m:Str->Option Value)(x:Str)(u:Value):Prop:=
 (env.kindOf x=some .local/\m x=some u)\/((env.kindOf x=some .cell\/env.kindOf x=some .free)/\∃c,env.cells.lookup x=some c/\h.IsCell c (some u))
structure Cx.Ok(X:Cx):Prop where
 mod:Mod X.K X.mg X.base
 kind:X.env.scope.kind = .function
 glob:X.env.globals=mainGlobals
 blt:X.env.builtins=builtinsNs
 above:X.s₀.heap.objs.size<=X.env.locals
 inj:∀x y c,X.env.cells.lookup x=some c->X.env.cells.lookup y=some c->x=y
 has:∀x,(X.env.kindOf x=some .cell\/X.env.kindOf x=some .free)->∃c,X.env.cells.lookup x=some c
 cab:∀x c,X.fn x=true->X.env.cells.lookup x=some c->X.s₀.heap.objs.size<=c
 hd:X.calm=true->X.A.handled=none
 frames:X.A.frames=some X.stack
 stk:X.stack=X.outer\/(X.stack=X.env::X.outer/\X.env.frame=some X.env.locals)
 exf:∀b∈X.ex,b≠X.env.locals/\∀x c,X.env.cells.lookup x=some c->c≠b
 bs:∀b o,X.base.get? b=some o->X.s₀.heap.get? b=some o/\X.H₀ b=none
 bsz:X.base.objs.size<=X.s₀.heap.objs.size
 noex:∀b o,X.base.get? b=some o->b∉X.ex
 exfs:∀b∈X.ex,b∉X.fs
 funs:X.s₀.heap.FunFrames X.base X.outer
 frf:∀b∈X.fs,X.H₀ b=none
structure Inv(X:Cx)(pins:List (Addr×Obj))(σ:List (Option V))(H:Hp)(s:Shared):Prop where
 ok:X.Ok
 os:s.os=X.s₀.os
 bare:AllBare s.gens
 base:Un X.fs X.ex X.H₀ H X.s₀.heap s.heap
 loc:∃m,s.heap.Ns X.env.locals m/\∀(i:Nat) (x:Str) (v:V),X.N[i]?=some x->σ[i]?=some (some v)->Vis X.env.scope x->∃u,RelV v u/\Look X.env s.heap m x u
 cell:∀x c,X.env.cells.lookup x=some c->∃v,s.heap.IsCell c v
 free:H X.env.locals=none
 freeC:∀x c,X.env.cells.lookup x=some c->H c=none
 pin:∀p∈X.pn++pins,s.heap.get? p.1=some p.2/\H p.1=none/\p.1≠X.env.locals/\p.1∉X.fs/\∀v,p.2.data≠.cell v
 hok:HOk X.prog X.w H s.heap
 len:σ.length=X.N.length
section
variable{X:Cx}{pins:List (Addr×Obj)}{σ:List (Option V)}{H H':Hp}{s:Shared}{h':Heap}
theorem Cx.Ok.nofr(c:X.Ok)(e:X.base.get? b=some o):b∉X.fs:=fun a=>by
 have:=(c.funs.mem a).1;rw[e]at this;cases this
theorem Inv.bs(I:Inv X pins σ H s):∀b o,X.base.get? b=some o->s.heap.get? b=some o/\H b=none:=fun b o e=>
 ⟨I.base.keep b o (I.ok.bs b o e).1 (I.ok.bs b o e).2 (I.ok.nofr e) (I.ok.noex b o e),I.base.free b o (I.ok.bs b o e).1 (I.ok.bs b o e).2 (I.ok.noex b o e)⟩
theorem Inv.bk(I:Inv X pins σ H s):∀b o,X.base.get? b=some o->s.heap.get? b=some o:=fun b o e=>(I.bs b o e).1
theorem Inv.mod(I:Inv X pins σ H s):Mod X.K X.mg X.base:=I.ok.mod
theorem Inv.kIn(I:Inv X pins σ H s):X.K.In s.heap:=I.ok.mod.kin.keeps I.bk
theorem Inv.lt(I:Inv X pins σ H s):X.env.locals<s.heap.objs.size:=let ⟨_,hn,_⟩:=I.loc;hn.lt
theorem Inv.sz(I:Inv X pins σ H s):X.s₀.heap.objs.size<=s.heap.objs.size:=vZ I.ok.above (v3 I.lt)
theorem Inv.nofs(I:Inv X pins σ H s)(h:s.heap.objs.size<=a):a∉X.fs:=fun b=>by
 obtain⟨_,o,c,_⟩:=I.ok.funs.mem b;exact ue (Nat.lt_of_lt_of_le (vM c) (vZ I.sz h)) (Nat.lt_irrefl _)
theorem Inv.cne(I:Inv X pins σ H s):∀x c,X.env.cells.lookup x=some c->c≠X.env.locals:=fun x c e z=>by
 obtain⟨v,o,f,d⟩:=I.cell x c e;obtain⟨m,⟨i,h,g,b,a,_⟩,_⟩:=I.loc;rw[z,b]at f;cases f;rw[a]at d;cases d
theorem Inv.funs(I:Inv X pins σ H s):s.heap.FunFrames X.base X.outer:=by
 have a:∀(l:List Env),(∀b∈frs l,b∈X.fs)->X.s₀.heap.FunFrames X.base l->s.heap.FunFrames X.base l:=by
  intro l
  induction l with
  | nil=>intro _ _;trivial
  | cons env r ih=>
   intro g j;obtain⟨i,⟨L,o,f,k,m,h⟩,n⟩:=j;have c:L∈X.fs:=g L (by unfold frs;rw[filterMap_cons,f];exact vq);obtain⟨p,e⟩:=I.base.slot L o m (I.ok.frf L c) c fun z=>I.ok.exfs L z c
   exact⟨i,⟨L,_,f,k,e,h⟩,ih (fun b d=>g b (by unfold frs;rw[filterMap_cons,f];exact vp _ d)) n⟩
 exact a X.outer (fun _ d=>d) I.ok.funs
theorem Inv.stack(I:Inv X pins σ H s):s.heap.FunFrames X.base X.stack:=by
 rcases I.ok.stk with e | ⟨e,a⟩
 ·rw[e];exact I.funs
 ·rw[e];obtain⟨m,b,_⟩:=I.loc;refine .cons (by rw[I.ok.kind];decide) a b ?_ I.funs;exact Heap.get?_none_of_le (vZ I.ok.bsz I.ok.above)
theorem Inv.stkSub(I:Inv X pins σ H s):∀b∈frs X.stack,b∈X.env.locals::X.fs:=fun b a=>by
 rcases I.ok.stk with e | ⟨e,c⟩
 ·rw[e]at a;exact vp _ a
 ·rw[e]at a;unfold frs at a;rw[filterMap_cons,c]at a;exact a
theorem Inv.stkFree(I:Inv X pins σ H s):∀b∈frs X.stack,H b=none:=fun b a=>by
 rcases mem_cons.mp (I.stkSub b a)with e | a
 ·rw[e];exact I.free
 ·obtain⟨_,o,c,_⟩:=I.ok.funs.mem a;exact I.base.free b o c (I.ok.frf b a) fun z=>I.ok.exfs b z a
theorem Inv.step{g':Array GenState}{t':Nat}{d':Drawn}{ch:List Addr}(I:Inv X pins σ H s)
  (h:∀b∈ch,(b∈X.ex\/X.s₀.heap.objs.size<=b)/\b≠X.env.locals/\(∀x c,X.env.cells.lookup x=some c->c≠b)/\∀p∈X.pn++pins,p.1≠b)
  (j:∀b o,b≠X.env.locals->b∉X.fs->b∉ch->s.heap.get? b=some o->H b=none->h'.get? b=some o)
  (A:∀b o,b≠X.env.locals->b∈X.fs->b∉ch->s.heap.get? b=some o->H b=none->∃N,h'.get? b=some {o with slots:=N}) (f:∀b o,b∉ch->s.heap.get? b=some o->H b=none->H' b=none)
  (C:∀b o,b∉ch->s.heap.get? b=some o->∃o',h'.get? b=some o')
  (K:∀b xs,H b=some (.tup xs)->H' b=some (.tup xs)) (F:∀b o u,H b=some (.frz o u)->H' b=some (.frz o u)) (J:∀b ps,H b=some (.tbl ps)->∃more,H' b=some (.tbl (ps++more)))
  (ns:∀m,s.heap.Ns X.env.locals m->h'.Ns X.env.locals m) (M:HOk X.prog X.w H' h') (U:AllBare g') :
  Inv X pins σ H' {s with heap:=h',gens:=g',drawn:=d',toks:=t'}:=by
 have G:∀b o,X.s₀.heap.get? b=some o->b≠X.env.locals:=fun b o e=>vI (Nat.lt_of_lt_of_le (vM e) I.ok.above)
 have y:∀b o,X.s₀.heap.get? b=some o->b∉X.ex->b∉ch:=fun b o e a B=>by
  rcases(h b B).1 with z | z
  ·exact a z
  ·exact ue (Nat.lt_of_lt_of_le (vM e) z) (Nat.lt_irrefl _)
 have g:∀x c,X.env.cells.lookup x=some c->∀v,s.heap.IsCell c v->h'.IsCell c v:=fun x c e v ⟨o,D,L⟩=>by
  have t:c∉ch:=fun z=>(h c z).2.2.1 x c e rfl
  by_cases P:c∈X.fs
  ·obtain⟨N,q⟩:=A c o (I.cne x c e) P t D (I.freeC x c e);exact⟨_,q,L⟩
  ·exact⟨o,j c o (I.cne x c e) P t D (I.freeC x c e),L⟩
 refine⟨I.ok,I.os,U,⟨fun b o e n B a=>?_,fun b o e n B a=>?_,fun b o e n a=>?_,fun b o e a=>?_,fun b xs e=>K b xs (I.base.tups b xs e),fun b o xs e=>F b o xs (I.base.frzs b o xs e),fun b ps e=>?_⟩,?_,fun x c e=>?_,?_,fun x c e=>?_,fun p Q=>?_,M,I.len⟩
 ·exact j b o (G b o e) B (y b o e a) (I.base.keep b o e n B a) (I.base.free b o e n a)
 ·obtain⟨N,w⟩:=I.base.slot b o e n B a;obtain⟨O,E⟩:=A b _ (G b o e) B (y b o e a) w (I.base.free b o e n a);exact⟨O,E⟩
 ·obtain⟨o',w⟩:=I.base.there b o e a;exact f b o' (y b o e a) w (I.base.free b o e n a)
 ·obtain⟨o',w⟩:=I.base.there b o e a;exact C b o' (y b o e a) w
 ·obtain⟨Z,w⟩:=I.base.tbls b ps e;obtain⟨m2,E⟩:=J b _ w;exact⟨Z++m2,by rw[E,Array.append_assoc]⟩
 ·obtain⟨m,Y,W⟩:=I.loc;refine⟨m,ns m Y,fun i x v w E T=>?_⟩;obtain⟨u,r,l⟩:=W i x v w E T;refine⟨u,r,?_⟩;rcases l with l | ⟨k,c,e,z⟩
  ·exact .inl l
  ·exact .inr ⟨k,c,e,g x c e _ z⟩
 ·obtain⟨v,z⟩:=I.cell x c e;exact⟨v,g x c e v z⟩
 ·obtain⟨m,⟨o,_,_,D,_⟩,_⟩:=I.loc;exact f _ o (fun z=>(h _ z).2.1 rfl) D I.free
 ·obtain⟨v,o,D,L⟩:=I.cell x c e;exact f c o (fun z=>(h c z).2.2.1 x c e rfl) D (I.freeC x c e)
 ·obtain⟨e,n,R,S,d⟩:=I.pin p Q;have t:p.1∉ch:=fun z=>(h p.1 z).2.2.2 p Q rfl
  exact⟨j p.1 p.2 R S t e n,f p.1 p.2 t e n,R,S,d⟩
theorem Inv.un{t':Nat}(I:Inv X pins σ H s)(u:Un X.fs [] H H' s.heap h')(g:HOk X.prog X.w H' h'):Inv X pins σ H' {s with heap:=h',toks:=t'}:=by
 obtain⟨m,⟨o,p,l,h,r⟩,_⟩:=id I.loc;obtain⟨v,i⟩:=u.any h I.free (by simp);exact I.step (g':=s.gens) (d':=s.drawn) (ch:=[]) (fun _ z=>nomatch z) (fun b o _ f _ e n=>u.keep b o e n f (by simp)) (fun b o _ f _ e n=>u.slot b o e n f (by simp)) (fun b o _ e n=>u.free b o e n (by simp)) (fun b o _ e=>u.there b o e (by simp)) u.tups u.frzs u.tbls (fun q j=>by
  obtain⟨t,d,c,a,k⟩:=j;rw[h]at a;cases a;exact⟨_,d,c,i,k⟩) g I.bare
theorem Inv.call{g':Array GenState}{t':Nat}{d':Drawn}{ch:List Addr}(I:Inv X pins σ H s)(u:Un (frs X.stack) ch H H' s.heap h')(j:HOk X.prog X.w H' h')(q:AllBare g')
  (d:∀b∈ch,(b∈X.ex\/X.s₀.heap.objs.size<=b)/\b≠X.env.locals/\(∀x c,X.env.cells.lookup x=some c->c≠b)/\∀p∈X.pn++pins,p.1≠b) :
  Inv X pins σ H' {s with heap:=h',gens:=g',drawn:=d',toks:=t'}:=by
 obtain⟨m,⟨o,y,w,k,r⟩,_⟩:=id I.loc;obtain⟨C,i⟩:=u.any k I.free fun z=>(d _ z).2.1 rfl
 exact I.step (ch:=ch) d (fun b o i l a e n=>u.keep b o e n (fun z=>(mem_cons.mp (I.stkSub b z)).elim i l) a) (fun b o _ _ a e n=>u.any e n a) (fun b o a e n=>u.free b o e n a) (fun b o a e=>u.there b o e a) u.tups u.frzs u.tbls (fun A t=>by
  obtain⟨B,h,g,f,v⟩:=t;rw[k]at f;cases f;exact⟨_,h,g,i,v⟩) j q
theorem Inv.turned{t':Nat}{it:Addr}(I:Inv X pins σ H s)(k:∀b o,b≠it->s.heap.get? b=some o->h'.get? b=some o)(y:H it=none)(f:it≠X.env.locals)
  (i:it∈X.ex\/X.s₀.heap.objs.size<=it) (j:∀x c,X.env.cells.lookup x=some c->c≠it) (l:∀p∈X.pn++pins,p.1≠it):Inv X pins σ H {s with heap:=h',toks:=t'}:=by
 have d:∀b u,H b=some u->b≠it:=fun b u e z=>by rw[z,y]at e;cases e
 refine I.step (g':=s.gens) (d':=s.drawn) (ch:=[it]) (fun b t=>?_) (fun b o _ _ a e _=>k b o (fun z=>a (by simp[z])) e) (fun b o _ _ a e _=>⟨o.slots,k b o (fun z=>a (by simp[z])) e⟩) (fun _ _ _ _ n=>n)
  (fun b o a e=>⟨o,k b o (fun z=>a (by simp[z])) e⟩) (fun _ _ e=>e) (fun _ _ _ e=>e) (fun b B e=>⟨#[],by rw[e];simp⟩) (fun m w=>?_) (fun b u e=>?_) I.bare
 ·have e:b=it:=by simpa using t
  subst e;exact⟨i,f,j,l⟩
 ·obtain⟨o,h,g,A,r⟩:=w;exact⟨o,h,g,k _ o (Ne.symm f) A,r⟩
 ·refine(I.hok b u e).stay (fun c v a q=>k c v ?_ q) (fun _ q=>q) fun _ _ q=>q
  rcases a with z | z
  ·rw[z];exact d b u e
  ·exact d c _ z
theorem Inv.tok(I:Inv X pins σ H s)(t:Nat):Inv X pins σ H {s with toks:=t}:=I.un (h':=s.heap) (t':=t) Un.refl I.hok
theorem Inv.kept(I:Inv X pins σ H s)(k:∀b u,s.heap.get? b=some u->h'.get? b=some u):Inv X pins σ H {s with heap:=h',toks:=t'}:=I.un (Un.kept k) (I.hok.kept k)
theorem Inv.laid(I:Inv X pins σ H s)(k:∀b u,s.heap.get? b=some u->h'.get? b=some u)(c:s.heap.objs.size<=a)(d:ObjOk X.prog X.w (upd H a o) h' a o) :
  Inv X pins σ (upd H a o) {s with heap:=h',toks:=t'}:=I.un (Un.laid k c (I.hok.fresh c)) (I.hok.laid k c d)
theorem Inv.write(I:Inv X pins σ H s)(f:Mut (H x))(d:e=x\/H e=some (.own x))(k:∀b u,b≠e->s.heap.get? b=some u->h'.get? b=some u)(a:∃u,h'.get? e=some u)
  (c:ObjOk X.prog X.w (upd H x o) h' x o):Inv X pins σ (upd H x o) {s with heap:=h',toks:=t'}:=I.un (Un.write f d k a) (I.hok.write f d k a c)
theorem Inv.weak(I:Inv X pins σ H s)(d:σ'.length=σ.length)(w:∀(i:Nat) v,σ'[i]?=some (some v)->σ[i]?=some (some v)):Inv X pins σ' H s:=
 ⟨I.ok,I.os,I.bare,I.base,let ⟨m,hn,hl'⟩:=I.loc;⟨m,hn,fun i x v a b c=>hl' i x v a (w i v b) c⟩,I.cell,I.free,I.freeC,I.pin,I.hok,d.trans I.len⟩
theorem Inv.pins_of(I:Inv X pins σ H s)(h:∀p∈pins',s.heap.get? p.1=some p.2/\H p.1=none/\p.1≠X.env.locals/\p.1∉X.fs/\∀v,p.2.data≠.cell v):Inv X pins' σ H s:=
 ⟨I.ok,I.os,I.bare,I.base,I.loc,I.cell,I.free,I.freeC,fun p a=>(vg.mp a).elim (fun z=>I.pin p (mem_append_left _ z)) (h p),I.hok,I.len⟩
theorem kT{N:List Str}(e:N.Nodup){i j:Nat}{x:Str}(a:N[i]?=some x)(b:N[j]?=some x):i=j:=by
 obtain⟨f,c⟩:=vx.mp a;obtain⟨g,d⟩:=vx.mp b;exact(List.getElem_inj e).mp (c.trans d.symm)
theorem K0{M:Model}{A:Around}{E:Value->Shared->Prop}{i:Nat}{x:Str}{v:V}{u:Value}{Q:Unit->Shared->Prop}(I:Inv X pins σ H s)(hN:X.N.Nodup)(hi:X.N[i]?=some x)(w:Loc X.env.scope x)(r:RelV v u)
  (h:∀s',Inv X pins (σ.set i (some v)) H s'->(∃a,Heap.SameBut a s.heap s'.heap/\(a=X.env.locals\/X.env.cells.lookup x=some a))->Q () s') (hf:X.fn x=true\/X.env.scope.names.lookup x=some .local:=by first | exact .inl rfl | exact .inr rfl | assumption):wpAny M A (storeName X.env x u) Q E s:=by
 obtain⟨m,hn,hl⟩:=id I.loc;have R:(X.env.scope.kind == .class||(X.env.scope.kind == .module&&X.env.locals != X.env.globals))=false:=by rw[I.ok.kind];rfl
 have D:i<σ.length:=by rw[I.len];exact(vx.mp hi).1
 have G:=I.cne;have l:∀{a:Addr} {N:Heap},(∃o,s.heap.get? a=some o/\H a=none)->Heap.SameBut a s.heap N->HOk X.prog X.w H N:=fun {a N} ha f b ob e=>by
  obtain⟨_,_,B⟩:=ha;refine(I.hok b ob e).stay (fun c Y t q=>(f.2 c ?_).trans q) (fun _ q=>q) fun _ _ q=>q
  rintro rfl;rcases t with rfl | t
  ·rw[B]at e;cases e
  ·rw[B]at t;cases t
 rcases w with F | F
 ·refine wpAny_storeName_local F hn (fun N a0 f=>?_) R;obtain⟨oL,_,_,a1,_⟩:=id hn;refine h _ ⟨I.ok,I.os,I.bare,⟨fun b o e n J w=>?_,fun b o e n J w=>?_,I.base.free,fun b o e w=>?_,I.base.tups,I.base.frzs,I.base.tbls⟩,⟨_,a0,fun j y v' g C Z=>?_⟩,fun y c e=>?_,I.free,I.freeC,fun p hp=>?_,l ⟨oL,a1,I.free⟩ f,by simpa using I.len⟩ ⟨_,f,.inl rfl⟩
  ·exact(f.2 b (vI (Nat.lt_of_lt_of_le (vM e) I.ok.above))).trans (I.base.keep b o e n J w)
  ·obtain⟨sl,g⟩:=I.base.slot b o e n J w;exact⟨sl,(f.2 b (vI (Nat.lt_of_lt_of_le (vM e) I.ok.above))).trans g⟩
  ·obtain⟨o',g⟩:=I.base.there b o e w;exact⟨o',(f.2 b (vI (Nat.lt_of_lt_of_le (vM e) I.ok.above))).trans g⟩
  ·by_cases L:j=i
   ·subst L;rw[hi]at g;cases g;rw[List.getElem?_set_self D]at C;cases C;exact⟨u,r,.inl ⟨F,by simp⟩⟩
   ·rw[List.getElem?_set_ne (Ne.symm L)]at C;obtain⟨u',r',q⟩:=hl j y v' g C Z;refine⟨u',r',?_⟩;rcases q with⟨k,e⟩ | ⟨k,c,e,z⟩
    ·refine .inl ⟨k,?_⟩;have:y≠x:=fun e=>L (kT hN g (e▸hi))
     simp[this,e]
    ·exact .inr ⟨k,c,e,z.sameBut f (G y c e)⟩
  ·obtain⟨Y,z⟩:=I.cell y c e;exact⟨Y,z.sameBut f (G y c e)⟩
  ·obtain⟨e,n,W,nf,d⟩:=I.pin p hp;exact⟨(f.2 p.1 W).trans e,n,W,nf,d⟩
 ·have K:X.fn x=true:=by
   rcases hf with z | z
   ·exact z
   ·rw[z]at F;cases F
  obtain⟨c,t⟩:=I.ok.has x (.inl F);obtain⟨Y,z⟩:=I.cell x c t;refine wpAny_storeName_cell I.ok.kind F t z (fun N O f=>?_);obtain⟨oc,S,T⟩:=id z;refine h {s with heap:=N} ⟨I.ok,I.os,I.bare,⟨fun b o e n J w=>?_,fun b o e n J w=>?_,I.base.free,fun b o e w=>?_,I.base.tups,I.base.frzs,I.base.tbls⟩,⟨m,hn.sameBut f (Ne.symm (G x c t)),fun j y v' g C Z=>?_⟩,fun y U e=>?_,I.free,I.freeC,fun p hp=>?_,l ⟨oc,S,I.freeC x c t⟩ f,by simpa using I.len⟩ ⟨c,f,.inr t⟩
  ·exact(f.2 b (vI (Nat.lt_of_lt_of_le (vM e) (I.ok.cab x c K t)))).trans (I.base.keep b o e n J w)
  ·obtain⟨sl,g⟩:=I.base.slot b o e n J w;exact⟨sl,(f.2 b (vI (Nat.lt_of_lt_of_le (vM e) (I.ok.cab x c K t)))).trans g⟩
  ·obtain⟨o',g⟩:=I.base.there b o e w;exact⟨o',(f.2 b (vI (Nat.lt_of_lt_of_le (vM e) (I.ok.cab x c K t)))).trans g⟩
  ·by_cases L:j=i
   ·subst L;rw[hi]at g;cases g;rw[List.getElem?_set_self D]at C;cases C;exact⟨u,r,.inr ⟨.inl F,c,t,O⟩⟩
   ·rw[List.getElem?_set_ne (Ne.symm L)]at C;obtain⟨u',r',q⟩:=hl j y v' g C Z;refine⟨u',r',?_⟩;rcases q with q | ⟨k,U,e,z'⟩
    ·exact .inl q
    ·refine .inr ⟨k,U,e,z'.sameBut f ?_⟩;rintro rfl;exact L (kT hN g (I.ok.inj _ _ _ e t▸hi))
  ·by_cases P:U=c
   ·subst P;exact⟨_,O⟩
   ·obtain⟨w2,z2⟩:=I.cell y U e;exact⟨w2,z2.sameBut f P⟩
  ·obtain⟨e,n,W,nf,d⟩:=I.pin p hp;refine⟨(f.2 p.1 ?_).trans e,n,W,nf,d⟩;intro q;rw[q,S]at e;have q':oc=p.2:=vP e;exact d Y (by rw[<-q'];exact T)
theorem Kk{E:Value->Shared->Prop}{Q:Unit->Shared->Prop}(I:Inv X pins σ H s)(b:X.N.Nodup)(hi:X.N[i]?=some x)(d:Loc X.env.scope x)(r:RelV v u)
  (h:∀s',Inv X pins (σ.set i (some v)) H s'->Q () s') (c:X.fn x=true\/X.env.scope.names.lookup x=some .local:=by first | exact .inl rfl | exact .inr rfl | assumption):wpAny M A (storeName X.env x u) Q E s:=
 K0 I b hi d r (fun s' a _=>h s' a) c
theorem Inv.call'(I:Inv X pins σ H s)(g:s'.os=s.os)(u:Un (frs X.stack) ch H H' s.heap s'.heap)(d:HOk X.prog X.w H' s'.heap)(f:AllBare s'.gens)
  (a:∀b∈ch,(b∈X.ex\/X.s₀.heap.objs.size<=b)/\b≠X.env.locals/\(∀x c,X.env.cells.lookup x=some c->c≠b)/\∀p∈X.pn++pins,p.1≠b):Inv X pins σ H' s':=by
 obtain⟨i,g',d',t',h⟩:=s';have e:h=s.os:=g;subst e;exact I.call (g':=g') (t':=t') (d':=d') u d f a
end
noncomputable abbrev XK:=Value->Option Addr->Hp->Prop
noncomputable abbrev St:=List (Option V)
noncomputable abbrev VK:=V->Hp->Prop
noncomputable abbrev TE:=St->Hp->VK->Prop
noncomputable abbrev TT:=St->Hp->(Bool->Hp->Prop)->Prop
noncomputable abbrev TA:=St->Hp->(List V->Hp->Prop)->Prop
structure Ends where
 nx:St->Hp->Prop
 rt:VK
 bk:St->Hp->Prop:=fun _ _=>False
 ct:St->Hp->Prop:=fun _ _=>False
noncomputable abbrev TS:=Ends->St->Hp->Prop
def EP(X:Cx)(pins:List (Addr×Obj))(σ:St)(Q:VK)(u:Value)(s':Shared):Prop:=∃v H',Inv X pins σ H' s'/\RelV v u/\Q v H'
def TP(X:Cx)(pins:List (Addr×Obj))(σ:St)(Q:Bool->Hp->Prop)(b:Bool)(s':Shared):Prop:=∃H',Inv X pins σ H' s'/\Q b H'
def AP(X:Cx)(pins:List (Addr×Obj))(σ:St)(Q:List V->Hp->Prop)(us:List Value)(s':Shared):Prop:=∃vs H',Inv X pins σ H' s'/\Vals vs us/\Q vs H'
def SP(X:Cx)(pins:List (Addr×Obj))(D:Ends)(f:Flow)(s':Shared):Prop:=
 match f with
 | .next=>∃σ' H',Inv X pins σ' H' s'/\D.nx σ' H'
 | .brk=>∃σ' H',Inv X pins σ' H' s'/\D.bk σ' H'
 | .cont=>∃σ' H',Inv X pins σ' H' s'/\D.ct σ' H'
 | .ret u=>∃v σ' H',Inv X pins σ' H' s'/\RelV v u/\D.rt v H'
def PE(X:Cx)(e:Expr)(t:TE):Prop:=
 ∀(pins:List (Addr×Obj)) (s:Shared) (σ:St) (H:Hp) (Q:VK),Inv X pins σ H s->t σ H Q->wpAny (model X.prog X.w) X.A (eval e X.env) (EP X pins σ Q) X.xe s
def PT(X:Cx)(e:Expr)(t:TT):Prop:=
 ∀(pins:List (Addr×Obj)) (s:Shared) (σ:St) (H:Hp) (Q:Bool->Hp->Prop),Inv X pins σ H s->t σ H Q->wpAny (model X.prog X.w) X.A (isTrue e X.env (eval e X.env)) (TP X pins σ Q) X.xe s
def PW(X:Cx)(e:Expr)(t:TT):Prop:=
 ∀(whole:Sem Value) (pins:List (Addr×Obj)) (s:Shared) (σ:St) (H:Hp) (Q:Bool->Hp->Prop),Inv X pins σ H s->t σ H Q->wpAny (model X.prog X.w) X.A (isTrue e X.env whole) (TP X pins σ Q) X.xe s
theorem PW.pt(h:PW X e t):PT X e t:=h _
def PA(X:Cx)(es:List Expr)(t:TA):Prop:=
 ∀(pos:Pos) (pins:List (Addr×Obj)) (s:Shared) (σ:St) (H:Hp) (Q:List V->Hp->Prop),Inv X pins σ H s->t σ H Q->wpAny (model X.prog X.w) X.A (spliced (backTo pos (starEach es X.env))) (AP X pins σ Q) X.xe s
def PS(X:Cx)(st:Stmt)(t:TS):Prop:=
 ∀(pins:List (Addr×Obj)) (s:Shared) (σ:St) (H:Hp) (D:Ends),Inv X pins σ H s->t D σ H->wpAny (model X.prog X.w) X.A (exec st X.env) (SP X pins D) X.xe s
def PSs(X:Cx)(st:List Stmt)(t:TS):Prop:=
 ∀(pins:List (Addr×Obj)) (s:Shared) (σ:St) (H:Hp) (D:Ends),Inv X pins σ H s->t D σ H->wpAny (model X.prog X.w) X.A (execs st X.env) (SP X pins D) X.xe s
theorem thn{c:Type}{t:Sem c}{Q b:c->Shared->Prop}{M:Model}{A:Around}{E:Value->Shared->Prop}{s:Shared}(h:wpAny M A t Q E s)(d:∀a s,Q a s->b a s):wpAny M A t b E s:=wpAny_mono h d fun _ _ x=>x
section
variable{X:Cx}
def tVar(i:Nat):TE:=fun σ H Q=>∃v,σ[i]?=some (some v)/\Q v H
def tC(v:V):TE:=fun _ H Q=>Q v H
theorem j3S{pos:Pos}(n:X.N[i]?=some x)(t:Vis X.env.scope x)(j:(x==("__debug__" : Str))=false:=by decide)(g:(x==("__classdict__" : Str))=false:=by decide):PE X (.Name x pos) (tVar i):=by
 intro f s w H Q I h;obtain⟨v,e,h⟩:=h;obtain⟨m,q,o⟩:=I.loc;obtain⟨u,r,l⟩:=o i x v n e t;have b:EP X f w Q u s:=⟨v,H,I,r,h⟩
 rcases l with⟨d,p⟩ | ⟨d,c,k,a⟩
 ·exact wpAny_Name (wpAny_loadName_local I.ok.kind d q p b) j
 ·rcases d with d | d
  ·exact wpAny_Name (wpAny_loadName_cell I.ok.kind d k a b) j
  ·exact wpAny_Name (wpAny_loadName_free I.ok.kind d k a b g) j
theorem je{i j pos}:PE X (.Constant (.int i) j pos) (tC (.int i)):=fun _ _ _ H _ I h=>wpAny_Constant_int ⟨.int i,H,I.tok _,⟨_,rfl⟩,h⟩
theorem ya{b j pos}:PE X (.Constant (.bool b) j pos) (tC (.bl b)):=fun _ _ _ H _ I h=>Constant_bool ⟨.bl b,H,I,rfl,h⟩
theorem jC{j pos}:PE X (.Constant .none j pos) (tC .non):=fun _ _ _ H _ I h=>Constant_none ⟨.non,H,I,rfl,h⟩
theorem jm{x j pos}:PE X (.Constant (.str x) j pos) (tC (.str x)):=fun _ _ _ H _ I h=>Calls.Constant_str ⟨.str x,H,I.tok _,⟨_,rfl⟩,h⟩
def Gl(X:Cx)(x:Str):Prop:=X.env.kindOf x=some .globalImplicit
theorem zq{E:Value->Shared->Prop}{d:St}{H:Hp}{pos:Pos}{Q:Value->Shared->Prop}(I:Inv X pins d H s)(b:Gl X x)(c:X.mg x=some u)(h:Q u s)
  (a:(x==("__debug__" : Str))=false:=by decide):wpAny (model X.prog X.w) X.A (eval (.Name x pos) X.env) Q E s:=
 Calls.Name_function_global I.ok.kind b (Calls.loadGlobal_global (by rw[I.ok.glob];exact I.mod.glob.keeps I.bk) c h) a
theorem Qa{E:Value->Shared->Prop}{i:St}{H:Hp}{pos:Pos}{Q:Value->Shared->Prop}(I:Inv X pins i H s)(d:Gl X x)(e:X.mg x=none)(g:bootBuiltins x=some u)(h:Q u s)
  (f:x≠"__name__":=by decide) (c:(x==("__debug__" : Str))=false:=by decide):wpAny (model X.prog X.w) X.A (eval (.Name x pos) X.env) Q E s:=by
 obtain⟨j,a,b⟩:=I.mod.blt;exact Calls.Name_function_global I.ok.kind d (Calls.loadGlobal_builtin (by rw[I.ok.glob];exact I.mod.glob.keeps I.bk) e (by rw[I.ok.blt];exact a.keeps I.bk) ((b x f).trans g) h) c
theorem JI{pos:Pos}(b:Gl X x)(c:X.mg x=some u)(r:RelV v u)(a:(x==("__debug__" : Str))=false:=by decide):PE X (.Name x pos) (tC v):=
 fun _ _ _ H _ I h=>zq I b c ⟨v,H,I,r,h⟩ a
theorem wO{pos:Pos}(b:Gl X x)(c:X.mg x=none)(e:bootBuiltins x=some u)(r:RelV v u)(d:x≠"__name__":=by decide)(a:(x==("__debug__" : Str))=false:=by decide):PE X (.Name x pos) (tC v):=
 fun _ _ _ H _ I h=>Qa I b c e ⟨v,H,I,r,h⟩ d a
variable{a b:Expr}{ta tb:TE}{pos:Pos}
def PC(X:Cx)(op:CmpOp)(a b:Expr)(t:TE):Prop:=
 ∀(pins:List (Addr×Obj)) (s:Shared) (σ:St) (H:Hp) (Q:VK),Inv X pins σ H s->t σ H Q->
  wpAny (model X.prog X.w) X.A (eval a X.env) (fun v s₁=>wpAny (model X.prog X.w) X.A (eval b X.env) (fun u s₂=>wpAny (model X.prog X.w) X.A (compareOp op v u) (EP X pins σ Q) X.xe s₂) X.xe s₁) X.xe s
def tB(t:TE):TT:=fun σ H Q=>t σ H fun x H1=>∃c,x = .bl c/\Q c H1
theorem j3R{d:CmpOp}{t:TE}(h:PC X d a b t)(e:behindInMarks d b=false:=by first | exact nobehind _ (by decide) (by decide) | rfl):PE X (.Compare a [d] [b] pos) t:=fun c s g H Q I f=>wpAny_Compare1 (h c s g H Q I f) e
theorem Yu{g:CmpOp}{t:TE}(h:PC X g a b t)(f:behindInMarks g b=false:=by first | exact nobehind _ (by decide) (by decide) | rfl):PT X (.Compare a [g] [b] pos) (tB t):=by
 intro e s o H Q I l;refine wpAny_isTrue_Compare1 (thn (h e s o H _ I l) fun v p f=>thn f fun u r k=>thn k fun c w ⟨x,i,j,n,m⟩=>?_) f;obtain⟨d,rfl,q⟩:=m;cases n;exact wpAny_truthy_bool ⟨i,j,q⟩
theorem QB{e:Expr}{t:TE}(h:PE X e t)(g:∀a,isTrue e X.env a=(do let v <-a;standAt e.pos;holding [v] (truthy v)):=by intro _;rfl):PT X e (tB t):=by
 intro b s l H Q I i;refine isTrue_plain (thn (h b s l H _ I i) fun v m ⟨x,c,f,k,j⟩=>?_) (g _);obtain⟨d,rfl,q⟩:=j;cases k;exact wpAny_truthy_bool ⟨c,f,q⟩
variable{tA tB':TT}{rest:List Expr}
def tAnd(t u:TT):TT:=fun σ H Q=>t σ H fun c H1=>if c=true then u σ H1 Q else Q false H1
def tOr(t u:TT):TT:=fun σ H Q=>t σ H fun c H1=>if c=true then Q true H1 else u σ H1 Q
def tNot(t:TT):TT:=fun σ H Q=>t σ H fun c H1=>Q (!c) H1
theorem Zb(d:PT X a tA):PW X (.BoolOp .And [a] pos) tA:=by
 intro i b s f H Q I h;refine isTrue_and (thn (d b s f H Q I h) fun c g e=>?_);cases c with
 | true=>exact isTrue_and_nil e
 | false=>exact e
theorem QC(d:PT X a tA):PW X (.BoolOp .Or [a] pos) tA:=by
 intro i b s f H Q I h;refine isTrue_or (thn (d b s f H Q I h) fun c g e=>?_);cases c with
 | false=>exact isTrue_or_nil e
 | true=>exact e
theorem yx(j:PT X a tA)(k:PW X (.BoolOp .And (b::rest) pos) tB'):PW X (.BoolOp .And (a::b::rest) pos) (tAnd tA tB'):=by
 intro m d s i H Q I h;refine isTrue_and (thn (j d s i H _ I h) fun c l ⟨e,f,g⟩=>?_);cases c with
 | true=>exact k m d l i e Q f g
 | false=>exact⟨e,f,g⟩
theorem Qh(j:PT X a tA)(k:PW X (.BoolOp .Or (b::rest) pos) tB'):PW X (.BoolOp .Or (a::b::rest) pos) (tOr tA tB'):=by
 intro m d s i H Q I h;refine isTrue_or (thn (j d s i H _ I h) fun c l ⟨e,f,g⟩=>?_);cases c with
 | true=>exact⟨e,f,g⟩
 | false=>exact k m d l i e Q f g
theorem qD(e:PT X a tA):PT X (.UnaryOp .Not a pos) (tNot tA):=by
 intro b s f H Q I h;exact isTrue_not (e b s f H (fun c d=>Q (!c) d) I h)
def tAndV(ta tb:TE):TE:=fun σ H Q=>ta σ H fun x H1=>∃c,x = .bl c/\if c=true then tb σ H1 Q else Q (.bl false) H1
def tOrV(ta tb:TE):TE:=fun σ H Q=>ta σ H fun x H1=>∃c,x = .bl c/\if c=true then Q (.bl true) H1 else tb σ H1 Q
theorem Xq{op}(h:PE X a t):PE X (.BoolOp op [a] pos) t:=fun b s d H Q I c=>BoolOp_one (h b s d H Q I c)
theorem j1S(j:PE X a ta)(k:PE X (.BoolOp .And (b::rest) pos) tb):PE X (.BoolOp .And (a::b::rest) pos) (tAndV ta tb):=by
 intro d s i H Q I h;refine BoolOp_and (thn (j d s i H _ I h) fun v m ⟨x,f,g,l,e⟩=>?_);obtain⟨c,rfl,e⟩:=e;cases l;refine wpAny_truthy_bool ?_;cases c with
 | true=>exact k d m i f Q g e
 | false=>exact⟨.bl false,f,g,rfl,e⟩
theorem j4i(j:PE X a ta)(k:PE X (.BoolOp .Or (b::rest) pos) tb):PE X (.BoolOp .Or (a::b::rest) pos) (tOrV ta tb):=by
 intro d s i H Q I h;refine BoolOp_or (thn (j d s i H _ I h) fun v m ⟨x,f,g,l,e⟩=>?_);obtain⟨c,rfl,e⟩:=e;cases l;refine wpAny_truthy_bool ?_;cases c with
 | false=>exact k d m i f Q g e
 | true=>exact⟨.bl true,f,g,rfl,e⟩
def tIf(t:TT)(ta tb:TE):TE:=fun σ H Q=>t σ H fun c H1=>if c=true then ta σ H1 Q else tb σ H1 Q
theorem Qd{c:Expr}(n:PT X c tA)(l:PE X a ta)(m:PE X b tb):PE X (.IfExp c a b pos) (tIf tA ta tb):=by
 intro e s f H Q I h;refine wpAny_IfExp (thn (n e s f H _ I h) fun d k ⟨g,i,j⟩=>?_);cases d with
 | true=>exact l e k f g Q i j
 | false=>exact m e k f g Q i j
end
def SqL(K:Frg)(H:Hp)(a:Addr)(xs:List V):Prop:=
 Rd H a (.lst xs)\/
  ∃(o:Obj) (its:Array Value) (n:Nat),K.lookup a=some o/\o.cls = .type "list"/\o.dict=none/\o.data = .seq its n/\its.size<=sizeLine/\Vals xs its.toList
def SqT(K:Frg)(H:Hp)(a:Addr)(xs:List V):Prop:=
 Rd H a (.tup xs)\/
  ∃(o:Obj) (its:Array Value) (n:Nat),K.lookup a=some o/\o.cls = .type "tuple"/\o.data = .seq its n/\its.size<=sizeLine/\Vals xs its.toList
noncomputable def absV:Value->Option V
 | .none=>some .non
 | .bool b=>some (.bl b)
 | .int i _=>some (.int i)
 | .str x _=>some (.str x)
 | .bytes b _=>some (.byt b)
 | .float b _=>some (.flt b)
 | .ref a=>some (.ref a)
 | .type n=>some (.ty n)
 | _=>none
theorem RelV.abs(r:RelV x u):absV u=some x:=by
 cases x with
 | non=>cases r;rfl
 | bl _=>cases r;rfl
 | int _=>obtain⟨t,rfl⟩:=r;rfl
 | str _=>obtain⟨t,rfl⟩:=r;rfl
 | byt _=>obtain⟨t,rfl⟩:=r;rfl
 | flt _=>obtain⟨t,rfl⟩:=r;rfl
 | ref _=>cases r;rfl
 | ty _=>cases r;rfl
theorem RelV.inj(r:RelV x u)(q:RelV y u):x=y:=vP (r.abs.symm.trans q.abs)
theorem Vals.inj:∀{xs ys:List V} {us:List Value},Vals xs us->Vals ys us->xs=ys
 | _,_,_,.nil,.nil=>rfl
 | _,_,_,.cons r t,.cons r' t'=>by rw[r.inj r',Vals.inj t t']
section
variable{X:Cx}{pins:List (Addr×Obj)}{σ:St}{H:Hp}{s:Shared}{a:Addr}{xs ys:List V}
theorem SqL.of{K:Frg}(h:H a=some (.lst xs)):SqL K H a xs:=.inl (.inl h)
theorem SqT.of{K:Frg}(h:H a=some (.tup xs)):SqT K H a xs:=.inl (.inl h)
theorem Inv.list(I:Inv X pins σ H s)(h:SqL X.K H a xs):∃b:List Value,Vals xs b/\PlainL s.heap a b.toArray/\xs.length<=sizeLine:=by
 rcases h with h | ⟨o,b,n,f,c,d,g,i,r⟩
 ·obtain⟨z,b,n,r,e⟩:=h.ok I.hok;exact⟨b,r,⟨_,n,e,rfl,rfl,rfl⟩,z⟩
 ·refine⟨b.toList,r,⟨o,n,I.kIn a o f,c,d,by simpa using g⟩,?_⟩;have e:=r.length;simp only[Array.length_toList]at e;lia
theorem Inv.tuple(I:Inv X pins σ H s)(h:SqT X.K H a xs):∃b:List Value,Vals xs b/\IsTup s.heap a b.toArray/\xs.length<=sizeLine:=by
 rcases h with h | ⟨o,b,n,d,c,f,g,r⟩
 ·obtain⟨z,b,r,p⟩:=h.ok I.hok;exact⟨b,r,p,z⟩
 ·refine⟨b.toList,r,⟨o,I.kIn a o d,c,n,by simpa using f⟩,?_⟩;have e:=r.length;simp only[Array.length_toList]at e;lia
theorem Inv.list_inj(I:Inv X pins σ H s)(h:SqL X.K H a xs)(h':SqL X.K H a ys):xs=ys:=by
 obtain⟨c,r,⟨o,n,e,_,_,d⟩,_⟩:=I.list h;obtain⟨b,i,⟨k,j,g,_,_,f⟩,_⟩:=I.list h';rw[e]at g;cases g;rw[d]at f;injection f with d1 _;have:c=b:=by simpa using congrArg Array.toList d1
 subst this;exact r.inj i
theorem Inv.tuple_inj(I:Inv X pins σ H s)(h:SqT X.K H a xs)(h':SqT X.K H a ys):xs=ys:=by
 obtain⟨c,r,⟨o,e,_,n,d⟩,_⟩:=I.tuple h;obtain⟨b,i,⟨k,g,_,j,f⟩,_⟩:=I.tuple h';rw[e]at g;cases g;rw[d]at f;injection f with d1 _;have:c=b:=by simpa using congrArg Array.toList d1
 subst this;exact r.inj i
end
noncomputable abbrev Cx.wish(X:Cx)(E:Value->Shared->Prop):Cx:={X with xe:=E}
noncomputable abbrev Cx.nox(X:Cx):Cx:=X.wish fun _ _=>False
theorem Cx.Ok.wish{X:Cx}(a:X.Ok)(E:Value->Shared->Prop):(X.wish E).Ok:=
 ⟨a.mod,a.kind,a.glob,a.blt,a.above,a.inj,a.has,a.cab,a.hd,a.frames,a.stk,a.exf,a.bs,a.bsz,a.noex,a.exfs,a.funs,a.frf⟩
theorem Cx.Ok.unwish{X:Cx}{E:Value->Shared->Prop}(a:(X.wish E).Ok):X.Ok:=
 ⟨a.mod,a.kind,a.glob,a.blt,a.above,a.inj,a.has,a.cab,a.hd,a.frames,a.stk,a.exf,a.bs,a.bsz,a.noex,a.exfs,a.funs,a.frf⟩
section
variable{X:Cx}{pins:List (Addr×Obj)}{σ:St}{H:Hp}{s:Shared}{E:Value->Shared->Prop}
theorem Inv.wish(I:Inv X pins σ H s)(E:Value->Shared->Prop):Inv (X.wish E) pins σ H s:=⟨I.ok.wish E,I.os,I.bare,I.base,I.loc,I.cell,I.free,I.freeC,I.pin,I.hok,I.len⟩
theorem Inv.unwish(I:Inv (X.wish E) pins σ H s):Inv X pins σ H s:=⟨I.ok.unwish,I.os,I.bare,I.base,I.loc,I.cell,I.free,I.freeC,I.pin,I.hok,I.len⟩
theorem SP.unwish(h:SP (X.wish E) pins D f s'):SP X pins D f s':=by
 cases f with
 | next=>obtain⟨a,b,I,q⟩:=h;exact⟨a,b,I.unwish,q⟩
 | brk=>obtain⟨a,b,I,q⟩:=h;exact⟨a,b,I.unwish,q⟩
 | cont=>obtain⟨a,b,I,q⟩:=h;exact⟨a,b,I.unwish,q⟩
 | ret u=>obtain⟨v,a,b,I,r,q⟩:=h;exact⟨v,a,b,I.unwish,r,q⟩
theorem PSs.nox{st:List Stmt}{t:TS}(h:PSs X.nox st t):PSs X st t:=fun a s c H D I b=>
 wpAny_mono (h a s c H D (I.wish _) b) (fun _ _ q=>q.unwish) fun _ _ z=>False.elim z
end
section
variable{X:Cx}{st:Stmt}{rest:List Stmt}{t u:TS}{e:Expr}{te:TE}{pos:Pos}
def tNext:TS:=fun D σ H=>D.nx σ H
def tSeq(t u:TS):TS:=fun D σ H=>t {D with nx:=u D} σ H
theorem jn:PSs X [] tNext:=fun _ _ a H _ I h=>wpAny_execs_nil ⟨a,H,I,h⟩
theorem jc(e:PS X st t)(g:PSs X rest u):PSs X (st::rest) (tSeq t u):=by
 intro a s j H D I h;refine wpAny_execs_cons (thn (e a s j H {D with nx:=u D} I h) fun f i q=>?_);cases f with
 | next=>
  obtain⟨b,c,d,q⟩:=q;exact g a i b c D d q
 | ret v=>exact q
 | brk=>exact q
 | cont=>exact q
theorem jf(b:PS X st t):PSs X [st] t:=by
 intro a s c H D I h;refine wpAny_execs_cons (thn (b a s c H D I h) fun f d q=>?_);cases f with
 | next=>exact wpAny_execs_nil q
 | ret v=>exact q
 | brk=>exact q
 | cont=>exact q
theorem Inv.quiet{a:St}{H:Hp}(I:Inv X pins a H s):interactive X.env=false:=by simp[interactive,I.ok.kind]
def tDrop(te:TE):TS:=fun D σ H=>te σ H fun _ H1=>D.nx σ H1
theorem jN(f:PE X e te)(g:swapsWith e none pos.line X.env=pure false:=by rfl):PS X (.Expr e pos) (tDrop te):=by
 intro a s b H D I h;exact wpAny_Expr_any (thn (f a s b H _ I h) fun v k ⟨x,c,d,j,i⟩=>⟨b,c,d,i⟩) I.quiet g
def tRet(te:TE):TS:=fun D σ H=>te σ H D.rt
theorem jw(f:PE X e te):PS X (.Return (some e) pos) (tRet te):=by
 intro a s b H D I h;exact wpAny_Return_some (thn (f a s b H _ I h) fun v j ⟨x,c,d,i,g⟩=>⟨x,b,c,d,i,g⟩)
def tIfS(c:TT)(t u:TS):TS:=fun D σ H=>c σ H fun b H1=>if b=true then t D σ H1 else u D σ H1
theorem jI{c:Expr}{a b:List Stmt}{l:TT}(o:PT X c l)(m:PSs X a t)(n:PSs X b u):PS X (.If c a b pos) (tIfS l t u):=by
 intro e s f H D I h;refine wpAny_If (thn (o e s f H _ I h) fun d k ⟨g,i,j⟩=>?_);cases d with
 | true=>exact m e k f g D i j
 | false=>exact n e k f g D i j
def tNever:TS:=fun _ _ _=>False
theorem jJ:PS X st tNever:=fun _ _ _ _ _ _ h=>h.elim
end
noncomputable abbrev TG:=V->St->Hp->(St->Hp->Prop)->Prop
noncomputable abbrev TGs:=List V->St->Hp->(St->Hp->Prop)->Prop
def PG(X:Cx)(target:Expr)(t:TG):Prop:=
 ∀(pins:List (Addr×Obj)) (s:Shared) (σ:St) (H:Hp) (v:V) (u:Value) (Q:St->Hp->Prop),Inv X pins σ H s->RelV v u->t v σ H Q->
  wpAny (model X.prog X.w) X.A (assign target X.env u) (fun _ s'=>∃σ' H',Inv X pins σ' H' s'/\Q σ' H') X.xe s
def PGs(X:Cx)(ts:List Expr)(t:TGs):Prop:=
 ∀(pins:List (Addr×Obj)) (s:Shared) (σ:St) (H:Hp) (vs:List V) (us:List Value) (Q:St->Hp->Prop),Inv X pins σ H s->Vals vs us->t vs σ H Q->
  wpAny (model X.prog X.w) X.A (assignInOrder ((assignEach ts X.env).map (·.2)) us) (fun _ s'=>∃σ' H',Inv X pins σ' H' s'/\Q σ' H') X.xe s
section
variable{X:Cx}{pos:Pos}
def gName(i:Nat):TG:=fun v σ H Q=>Q (σ.set i (some v)) H
theorem jp(c:X.N.Nodup)(hi:X.N[i]?=some x)(e:Loc X.env.scope x)(d:X.fn x=true\/X.env.scope.names.lookup x=some .local:=by first | exact .inl rfl | exact .inr rfl | assumption):PG X (.Name x pos) (gName i):=by
 intro a s g H v u Q I r h;exact wpAny_assign_Name (Kk I c hi e r (fun f b=>⟨_,H,b,h⟩) d)
def gNil:TGs:=fun vs σ H Q=>vs=[]/\Q σ H
def gCons(t:TG)(u:TGs):TGs:=fun vs σ H Q=>∃v r,vs=v::r/\t v σ H fun σ' H'=>u r σ' H' Q
theorem qj:PGs X [] gNil:=by
 intro a s b H d c Q I r h;obtain⟨e,h⟩:=h;subst e;cases r;exact assignInOrder_nil ⟨b,H,I,h⟩
theorem jy{e:Expr}{b:List Expr}{t:TG}{u:TGs}(i:PG X e t)(j:PGs X b u)
  (k:(assignEach (e::b) X.env).map (·.2)=assign e X.env::(assignEach b X.env).map (·.2):=by rfl):PGs X (e::b) (gCons t u):=by
 intro a s n H q o Q I r h;obtain⟨v,p,g,h⟩:=h;subst g;cases r with
 | cons r rr=>
  rw[k];refine assignInOrder_cons (thn (i a s n H _ _ _ I r h) fun _ m ⟨c,d,f,l⟩=>?_);exact j a m c d _ _ Q f rr l
def gTup(K:Frg)(n:Nat)(t:TGs):TG:=fun v σ H Q=>∃a xs,v = .ref a/\SqT K H a xs/\xs.length=n/\t xs σ H Q
theorem Qe(p:X.calm=true)(h:PGs X es t)
  (w:(assignEach es X.env).length=n:=by rfl) (d:(assignEach es X.env).findIdx? (·.1)=none:=by rfl):PG X (.Tuple es k pos) (gTup X.K n t):=by
 intro c s i H v u Q I r f;obtain⟨a,B,l,x,q,f⟩:=f;subst l;cases r;obtain⟨A,g,y,C⟩:=I.tuple x;refine assign_Tuple_tuple (I.ok.hd p) y (by simp[w,<-q,g.length]) d fun m z=>?_
 have j:Inv X c i H {s with heap:=m}:=I.kept (t':=s.toks) fun b o e=>z b o (vI (vM e)) e
 exact h c _ i H B _ Q j (by simpa using g) f
def tAsg(te:TE)(g:TG):TS:=fun D σ H=>te σ H fun x H1=>g x σ H1 D.nx
theorem js{i:Nat}{x:Str}{e:Expr}{c:TE}{a:Pos}(j:X.N.Nodup)(hi:X.N[i]?=some x)(n:Loc X.env.scope x)(k:PE X e c)(m:swapsWith e (some (.Name x a)) pos.line X.env=pure false:=by rfl)(l:X.fn x=true\/X.env.scope.names.lookup x=some .local:=by first | exact .inl rfl | exact .inr rfl | assumption) :
  PS X (.Assign [.Name x a] e pos) (tAsg c (gName i)):=by
 intro b s q H D I h;refine wpAny_Assign_Name (thn (k b s q H _ I h) fun v r ⟨y,d,f,p,o⟩=>?_) m;exact Kk f j hi n p (fun t g=>⟨_,d,g,o⟩) l
end
section
variable{X:Cx}{pos:Pos}
end
structure It where
 go:Nat->Hp->Prop
 yld:Nat->Hp->V->Hp->Prop
 stop:Nat->Hp->Prop
def FpOk(X:Cx)(pins:List (Addr×Obj))(H:Hp)(b:Addr):Prop:=
 H b=none/\b≠X.env.locals/\b∉X.fs/\(b∈X.ex\/X.s₀.heap.objs.size<=b)/\(∀x c,X.env.cells.lookup x=some c->c≠b)/\∀p∈X.pn++pins,p.1≠b
theorem Inv.fpOk{g:St}{H H':Hp}(I:Inv X pins g H s)(a:s.heap.objs.size<=b)(d:H' b=none):FpOk X pins H' b:=by
 refine⟨d,vR (Nat.lt_of_lt_of_le I.lt a),I.nofs a,.inr (vZ I.sz a),fun x c e z=>?_,fun p f z=>?_⟩
 ·obtain⟨v,q⟩:=I.cell x c e;exact ue (Nat.lt_of_lt_of_le q.lt (by rw[z];exact a)) (Nat.lt_irrefl _)
 ·exact ue (Nat.lt_of_lt_of_le (vM (I.pin p f).1) (by rw[z];exact a)) (Nat.lt_irrefl _)
structure Turn(P:Program)(w:World)(K:Frg)(tg:Expr)(J:It)(fp:List Addr)(it:Addr)(tn:Nat->Heap->Prop):Prop where
 mem:it∈fp
 obj:∀i h,tn i h->∀b∈fp,∃o,h.get? b=some o/\∀v,o.data≠.cell v
 keep:∀i h h',tn i h->(∀b∈fp,∀o,h.get? b=some o->h'.get? b=some o)->tn i h'
 item:∀(X:Cx),X.prog=P->X.w=w->X.K=K->X.calm=true->∀(i:Nat) (pins:List (Addr×Obj)) (s:Shared) (σ:St) (H:Hp) (E:Value->Shared->Prop),Inv X pins σ H s->(∀b∈fp,FpOk X pins H b)->tn i s.heap->J.go i H->
  wpAny (model P w) X.A (pyNext (.ref it)) (fun r s1=>∃u,r=some u/\
   wpAny (model P w) X.A (letOwnedTupleGo tg (.ref it) u) (fun _ s2=>∃x H',Inv X pins σ H' s2/\RelV x u/\J.yld i H x H'/\tn (i+1) s2.heap/\∀b∈fp,H' b=none) E s1) E s
 done:∀(X:Cx),X.prog=P->X.w=w->X.K=K->X.calm=true->∀(i:Nat) (pins:List (Addr×Obj)) (s:Shared) (σ:St) (H:Hp) (E:Value->Shared->Prop),Inv X pins σ H s->(∀b∈fp,FpOk X pins H b)->tn i s.heap->J.stop i H->
  wpAny (model P w) X.A (pyNext (.ref it)) (fun r s1=>r=none/\Inv X pins σ H s1) E s
 self:∀(A:Around) (i:Nat) (s:Shared) (Q:Value->Shared->Prop) (E:Value->Shared->Prop),tn i s.heap->Q (.ref it) s->wpAny (model P w) A (pyIter (.ref it)) Q E s
noncomputable abbrev TI:=St->Hp->(It->Hp->Prop)->Prop
def PIE(X:Cx)(pins:List (Addr×Obj))(σ:St)(tg:Expr)(R:It->Hp->Prop)(itv:Value)(s2:Shared):Prop:=
 ∃(it:Addr) (fp:List Addr) (tn:Nat->Heap->Prop) (J:It) (H':Hp),itv = .ref it/\Inv X pins σ H' s2/\Turn X.prog X.w X.K tg J fp it tn/\tn 0 s2.heap/\(∀b∈fp,FpOk X pins H' b)/\R J H'
def PI(X:Cx)(tg iter:Expr)(wi:TI):Prop:=
 ∀(pins:List (Addr×Obj)) (s:Shared) (σ:St) (H:Hp) (R:It->Hp->Prop),Inv X pins σ H s->wi σ H R->
  wpAny (model X.prog X.w) X.A (eval iter X.env) (fun v s1=>wpAny (model X.prog X.w) X.A (pyIter v) (PIE X pins σ tg R) X.xe s1) X.xe s
theorem j1r{E:Value->Shared->Prop}{Q:Unit->Shared->Prop}(e:s.heap.get? it=some o)(b:o.cls = .type n)(c:o.data = .fields vs)
    (d:["enumerate","zip","dict_itemiterator","dict_reverseitemiterator","odict_iterator","itertools.zip_longest","itertools.pairwise"].contains n=false) (a:Q () s):wpAny M A (letOwnedTupleGo tg (.ref it) u) Q E s:=by
  unfold letOwnedTupleGo;cases tg<;>first
    | exact uf a
    | (cases u<;>first
        | exact uf a
        | (refine ug (wpAny_load e ?_)
           rw[b,c];show wpAny M A (if(["enumerate","zip","dict_itemiterator","dict_reverseitemiterator","odict_iterator","itertools.zip_longest","itertools.pairwise"].contains n&&vs[0]?==some (rawInt _))=true then _ else _) Q E s;rw[vA (by intro h;rw[d,Bool.false_and]at h;cases h)];exact uf a))
def Itl(K:Frg)(a:Addr):It:=
 ⟨fun i H=>∃xs x,SqL K H a xs/\xs[i]?=some x,fun i H x H'=>H'=H/\∀xs,SqL K H a xs->xs[i]?=some x,fun i H=>∃xs,SqL K H a xs/\xs.length<=i⟩
def Itt(K:Frg)(a:Addr):It:=
 ⟨fun i H=>∃xs x,SqT K H a xs/\xs[i]?=some x,fun i H x H'=>H'=H/\∀xs,SqT K H a xs->xs[i]?=some x,fun i H=>∃xs,SqT K H a xs/\xs.length<=i⟩
def Itr(lo:Int)(n:Nat):It:=⟨fun i _=>i<n,fun i H x H'=>H'=H/\x = .int (lo+i),fun i _=>n<=i⟩
theorem j10{P:Program}{w:World}{K:Frg}{tg:Expr}(a it:Addr):Turn P w K tg (Itl K a) [it] it (fun i h=>h.IsListIter it a i) where
 mem:=by simp
 obj:=fun i h f b j=>by
  have e:b=it:=by simpa using j
  subst e;obtain⟨o,e,c,d⟩:=f;exact⟨o,e,fun v z=>by rw[d]at z;cases z⟩
 keep:=fun i h m f k=>f.at fun o e=>k it (by simp) o e
 item:=by
  intro X D G C N i g s O H E I n f F;subst D G C;obtain⟨xs,x,q,J⟩:=F;obtain⟨L,M,p,W⟩:=I.list q;obtain⟨u,T,Y⟩:=M.get J;obtain⟨r,t,S,y,A,B⟩:=n it (by simp);refine wpAny_pyNext_list_item f p.isList (x:=u) (by simpa using T) fun m l Z=>?_
  have Q:Inv X g O H {s with heap:=m}:=I.turned (t':=s.toks) (fun b o j e=>(Z.2 b j).trans e) r t y A B;obtain⟨o,e,c,d⟩:=id l;exact⟨u,rfl,j1r (s:={s with heap:=m}) e c d (by decide) ⟨x,H,Q,Y,⟨rfl,fun ys U=>by rw[I.list_inj U q];exact J⟩,l,fun b j=>(n b j).1⟩⟩
 done:=by
  intro X D G C N i g s O H E I n f F;subst D G C;obtain⟨xs,q,J⟩:=F;obtain⟨L,M,p,W⟩:=I.list q;obtain⟨r,t,S,y,A,B⟩:=n it (by simp);have hl:=M.length;exact wpAny_pyNext_list_end (I.ok.hd N) f p.isList (by simp;lia) fun m R=>⟨rfl,I.turned (t':=s.toks) (fun b o j e=>R b o j e) r t y A B⟩
 self:=fun _ _ _ _ _ f h=>wpAny_pyIter_listiter f h
theorem XG{P:Program}{w:World}{K:Frg}{tg:Expr}(a it:Addr):Turn P w K tg (Itt K a) [it] it (fun i h=>h.IsTupleIter it a i) where
 mem:=by simp
 obj:=fun i h f b j=>by
  have e:b=it:=by simpa using j
  subst e;obtain⟨o,e,c,d⟩:=f;exact⟨o,e,fun v z=>by rw[d]at z;cases z⟩
 keep:=fun i h n f k=>f.at fun o e=>k it (by simp) o e
 item:=by
  intro X F J D N i g s O H E I q f G;subst F J D;obtain⟨xs,x,r,L⟩:=G;obtain⟨l,M,p,W⟩:=I.tuple r;obtain⟨u,T,Y⟩:=M.get L;obtain⟨t,y,S,A,B,C⟩:=q it (by simp);refine wpAny_pyNext_tuple_item f (show s.heap.IsTuple a l.toArray from p) (x:=u) (by simpa using T) fun n m Z=>?_
  have Q:Inv X g O H {s with heap:=n}:=I.turned (t':=s.toks) (fun b o j e=>(Z.2 b j).trans e) t y A B C;obtain⟨o,e,c,d⟩:=id m;exact⟨u,rfl,j1r (s:={s with heap:=n}) e c d (by decide) ⟨x,H,Q,Y,⟨rfl,fun ys U=>by rw[I.tuple_inj U r];exact L⟩,m,fun b j=>(q b j).1⟩⟩
 done:=by
  intro X F J D N i g s O H E I q f G;subst F J D;obtain⟨xs,r,L⟩:=G;obtain⟨l,M,p,W⟩:=I.tuple r;obtain⟨t,y,S,A,B,C⟩:=q it (by simp);have hl:=M.length;exact wpAny_pyNext_tuple_end (I.ok.hd N) f (show s.heap.IsTuple a l.toArray from p) (by simp;lia) fun n R=>⟨rfl,I.turned (t':=s.toks) (fun b o j e=>R b o j e) t y A B C⟩
 self:=fun _ _ _ _ _ f h=>wpAny_pyIter_tupleiter f h
theorem XF{P:Program}{w:World}{K:Frg}{N:Expr}(it:Addr)(lo:Int)(n:Nat):Turn P w K N (Itr lo n) [it] it (fun i h=>IsRangeIter h it (lo+(i:Nat)*1) ((n:Int)-(i:Nat)) 1) where
 mem:=by simp
 obj:=fun i h a b d=>by
  have e:b=it:=by simpa using d
  subst e;exact⟨_,a,fun v z=>by
   have O:Data.fields _=Data.cell v:=z;cases O⟩
 keep:=fun i h g a k=>k it (by simp) _ a
 item:=by
  intro X x B u y i c s D H E I j a A;subst x B u;obtain⟨l,m,J,p,q,r⟩:=j it (by simp);have W:=Walks.range (prog:=X.prog) (w:=X.w) (I.ok.hd y) it lo 1 n;refine W.item i s _ _ A a fun v g C L f M=>?_
  obtain⟨t,rfl⟩:=L;have F:Inv X c D H {s with heap:=g,toks:=C}:=I.turned (fun b o d e=>M b o (by simpa using d) e) l m p q r;refine⟨_,rfl,j1r (s:={s with heap:=g,toks:=C}) (n:="range_iterator") f rfl rfl (by decide) ⟨.int (lo+i),H,F,⟨t,?_⟩,⟨rfl,rfl⟩,f,fun b d=>(j b d).1⟩⟩;rw[Int.mul_one]
 done:=by
  intro X x B u y i c s D H E I j a A;subst x B u;obtain⟨l,m,J,p,q,r⟩:=j it (by simp);exact wpAny_pyNext_range_end (I.ok.hd y) a (by have:n<=i:=A;lia) fun g G=>⟨rfl,I.turned (t':=s.toks) (fun b o d e=>G b o d e) l m p q r⟩
 self:=fun _ _ _ _ _ a h=>wpAny_pyIter_rangeiter a h
section
variable{X:Cx}{tg:Expr}
def iList(K:Frg)(tl:TE):TI:=fun σ H R=>tl σ H fun x H1=>∃a,x = .ref a/\(∃xs,SqL K H1 a xs)/\R (Itl K a) H1
def iTup(K:Frg)(tl:TE):TI:=fun σ H R=>tl σ H fun x H1=>∃a,x = .ref a/\(∃xs,SqT K H1 a xs)/\R (Itt K a) H1
theorem jS{l:Expr}{g:TE}(k:PE X l g):PI X tg l (iList X.K g):=by
 intro c s u H R I h;refine thn (k c s u H _ I h) fun v f ⟨x,i,d,t,r⟩=>?_
 obtain⟨a,e,⟨z,m⟩,q⟩:=r;subst e;cases t;obtain⟨n,y,p,w⟩:=d.list m;refine wpAny_pyIter_list p.isList ?_;refine⟨f.heap.objs.size,[f.heap.objs.size],_,_,i,rfl,d.kept (t':=f.toks) fun b o e=>vN _ e,j10 a _,⟨_,Heap.get?_push_size _ rfl,rfl,rfl⟩,fun b j=>?_,q⟩;have e:b=f.heap.objs.size:=by simpa using j
 subst e;exact d.fpOk (vB _) (d.hok.fresh (vB _))
theorem j3U{l:Expr}{i:TE}(m:PE X l i):PI X tg l (iTup X.K i):=by
 intro c s u H R I h;refine thn (m c s u H _ I h) fun v d ⟨x,j,f,t,r⟩=>?_
 obtain⟨a,e,⟨z,n⟩,q⟩:=r;subst e;cases t;obtain⟨g,y,p,w⟩:=f.tuple n;refine wpAny_pyIter_tuple (show d.heap.IsTuple a g.toArray from p) ?_;refine⟨d.heap.objs.size,[d.heap.objs.size],_,_,j,rfl,f.kept (t':=d.toks) fun b o e=>vN _ e,XG a _,⟨_,Heap.get?_push_size _ rfl,rfl,rfl⟩,fun b k=>?_,q⟩;have e:b=d.heap.objs.size:=by simpa using k
 subst e;exact f.fpOk (vB _) (f.hok.fresh (vB _))
theorem j20{a:List (Addr×Obj)}{f:St}{H:Hp}{s:Shared}{R:It->Hp->Prop}{E:Value->Shared->Prop}{lo hi:Int}{t u v:Tok}{d:Nat}(I:Inv X a f H s)(i : -(2^62)<=lo)(j:lo<2^62)(k : -(2^62)<=hi)(l:hi<2^62)
  (q:R (Itr lo (hi-lo).toNat) H):wpAny (model X.prog X.w) X.A (pyIter (.ref s.heap.objs.size)) (PIE X a f tg R) E {s with heap:=s.heap.push {cls:=.type "range",data:=.fields #[.int lo t,.int hi u,.int 1 v]},toks:=d}:=by
 refine wpAny_pyIter_range (IsRange.new ..) (small_one i j k l) ?_;have c:Inv X a f H {s with heap:=s.heap.push {cls:=.type "range",data:=.fields #[.int lo t,.int hi u,.int 1 v]},toks:=d}:=I.kept fun b o e=>vN _ e
 refine⟨(s.heap.push {cls:=.type "range",data:=.fields #[.int lo t,.int hi u,.int 1 v]}).objs.size,[(s.heap.push {cls:=.type "range",data:=.fields #[.int lo t,.int hi u,.int 1 v]}).objs.size],_,_,H,rfl,
  c.kept (t':=d) fun b o e=>vN _ e,XF _ lo (hi-lo).toNat,?_,fun b m=>?_,q⟩
 ·have g:lo+((0:Nat):Int)*1=lo:=by simp
  have h:(((hi-lo).toNat:Nat):Int)-((0:Nat):Int)=Builtin.Range.rangeSize lo hi 1:=by rw[rangeSize_one];split<;>lia
  show IsRangeIter _ _ (lo+((0:Nat):Int)*1) ((((hi-lo).toNat:Nat):Int)-((0:Nat):Int)) 1;rw[g,h];exact Heap.get?_push_size _ rfl
 ·have e:b=(s.heap.push {cls:=.type "range",data:=.fields #[.int lo t,.int hi u,.int 1 v]}).objs.size:=by simpa using m
  subst e;exact c.fpOk (vB _) (c.hok.fresh (vB _))
def iRng1(ta:TA):TI:=fun σ H R=>ta σ H fun vs H1=>∃j:Int,vs=[.int j]/\-(2^62)<=j/\j<2^62/\R (Itr 0 j.toNat) H1
theorem KW{a:Expr}{d:TA}{p pos:Pos}(i:Gl X "range")(k:X.mg "range"= none)(g:PA X [a] d)(l:starEach [a] X.env=[(false,eval a X.env)]:=by rfl):PI X tg (.Call (.Name "range" p) [a] [] pos) (iRng1 d):=by
 intro b s o H R I h;refine Call_ (Qa I i k boot_range (PyProof.Rows.callWith_type1 (thn (g pos b s o H _ I h) fun w v ⟨x,u,f,n,c⟩=>?_) l rfl));obtain⟨j,e,c,m,q⟩:=c;subst e;cases n with
 | cons r rr=>
  cases rr;obtain⟨t,rfl⟩:=r;exact call_range_1 (j20 f (by lia) (by lia) c m (by simpa using q))
def tFor(wi:TI)(g:TG)(tb:TS):TS:=fun D σ H=>wi σ H fun J H1=>∃W:Nat->Nat->St->Hp->Prop,(∃m,W 0 m σ H1)/\∀i m σ H,W i m σ H->
 (J.stop i H/\D.nx σ H)\/(J.go i H/\∃N:St->Hp->Prop,(∀σ' H',N σ' H'->∃m',m'<m/\W (i+1) m' σ' H')/\∀x H',J.yld i H x H'->g x σ H' fun σ2 H2=>tb {D with nx:=N,ct:=N,bk:=D.nx} σ2 H2)
noncomputable def pinsAt(fp:List Addr)(h:Heap):List (Addr×Obj):=fp.filterMap fun b=>(h.get? b).map fun o=>(b,o)
theorem Qz(a:b∈fp)(e:h.get? b=some o):(b,o)∈pinsAt fp h:=mem_filterMap.mpr ⟨b,a,by rw[e];rfl⟩
theorem j0M(d:p∈pinsAt fp h):p.1∈fp/\h.get? p.1=some p.2:=by
 obtain⟨b,c,e⟩:=mem_filterMap.mp d;cases q:h.get? b with
 | none=>rw[q]at e;cases e
 | some o=>
  rw[q]at e;have a:(b,o)=p:=vP e;subst a;exact⟨c,q⟩
theorem Inv.pinned{f:St}{H:Hp}(I:Inv X pins f H s)(j:∀b∈fp,FpOk X pins H b)(k:∀b∈fp,∃o,s.heap.get? b=some o/\∀v,o.data≠.cell v):Inv X (pins++pinsAt fp s.heap) f H s:=
 I.pins_of fun p l=>(vg.mp l).elim (fun z=>I.pin p (mem_append_right _ z)) fun z=>by
  obtain⟨c,e⟩:=j0M z;obtain⟨g,h,i,_⟩:=j p.1 c;obtain⟨o,a,d⟩:=k p.1 c;rw[e]at a;cases a;exact⟨e,g,h,i,d⟩
theorem Inv.unpinned{a:St}{H:Hp}(I:Inv X (pins++pl) a H s):Inv X pins a H s:=I.pins_of fun p b=>I.pin p (mem_append_right _ (mem_append_left _ b))
theorem QT{q:Expr}{A:List Stmt}{wi:TI}{g:TG}{tb:TS}{pos:Pos}(G:PassesOwn (model X.prog X.w) X.A X.env X.xe)(hc:X.calm=true)(hi:PI X tg q wi)(hg:PG X tg g)(p:PSs X A tb)
  (hs:∀x,foldedSetIterable q X.env x=pure x:=by intro _;rfl):PS X (.For tg q A [] pos) (tFor wi g tb):=by
 intro a s σ H D I h;refine wpAny_For (thn (hi a s σ H _ I h) fun v s1 h1=>thn h1 fun a1 s2 h2=>?_) hs;obtain⟨it,E,tn,J,H2,e,I2,T,Z,f2,W,⟨m0,w0⟩,P⟩:=h2;subst e;have t:∀{z:Hp},(∀b∈E,z b=none)->∀b∈E,FpOk X a z b:=fun hn b p=>⟨hn b p,(f2 b p).2⟩
 refine codeAny_forLoop_any (fun n s'=>∃i w z,Inv X a w z s'/\tn i s'.heap/\(∀b∈E,z b=none)/\W i n w z) ?_ m0 ⟨0,σ,H2,I2,Z,fun b p=>(f2 b p).1,w0⟩;rintro n s3 ⟨i,y,Q,I3,L,F,w3⟩;rcases P i n y Q w3 with⟨O,qn⟩ | ⟨go,N,hN,M⟩
 ·refine wpAny_passesOwn G (thn (T.done X rfl rfl rfl hc i a s3 y Q X.xe I3 (t F) L O) fun r s4 ⟨U,I4⟩=>?_);subst U;exact wpAny_execs_nil ⟨y,Q,I4,qn⟩
 ·refine wpAny_passesOwn G (thn (T.item X rfl rfl rfl hc i a s3 y Q X.xe I3 (t F) L go) fun r s4 ⟨u,U,h4⟩=>?_);subst U;refine wpAny_passesOwn G (thn h4 fun _ s5 ⟨x,H5,I5,r5,y5,C,S⟩=>?_);have R:=I5.pinned (t S) (T.obj _ _ C);refine wpAny_passesOwn G (thn (hg _ s5 y H5 x u _ R r5 (M x H5 y5)) fun _ s6 ⟨a0,H6,I6,q6⟩=>?_);refine wpAny_passesOwn G (thn (p _ s6 a0 H6 _ I6 q6) fun f Y B=>?_);have l:∀{c:St} {j:Hp},Inv X (a++pinsAt E s5.heap) c j Y->N c j->∃m,m<n/\∃i w z,Inv X a w z Y/\tn i Y.heap/\(∀b∈E,z b=none)/\W i m w z:=fun {c j} k K=>by
   obtain⟨m',hm,w7⟩:=hN c j K;refine⟨m',hm,i+1,c,j,k.unpinned,T.keep _ _ _ C fun b p o e=>(k.pin (b,o) (mem_append_right _ (mem_append_right _ (Qz p e)))).1,fun b p=>?_,w7⟩;obtain⟨o,e,d⟩:=T.obj _ _ C b p;exact(k.pin (b,o) (mem_append_right _ (mem_append_right _ (Qz p e)))).2.1
  cases f with
  | next=>obtain⟨c,j,k,K⟩:=B;exact l k K
  | cont=>obtain⟨c,j,k,K⟩:=B;exact l k K
  | brk=>obtain⟨c,j,k,B⟩:=B;exact⟨c,j,k.unpinned,B⟩
  | ret v=>obtain⟨x7,c,j,k,r7,B⟩:=B;exact⟨x7,c,j,k.unpinned,r7,B⟩
end
theorem zC{K:Frg}{a:Addr}{xs:List V}{g:TG}{j:TS}{D:Ends}{b:St}{H:Hp}(c:Nat->St->Hp->Prop)(k:c 0 b H)(o:∀i b H,i<=xs.length->c i b H->SqL K H a xs)
  (r:∀i x b H,xs[i]?=some x->c i b H->g x b H fun d H2=>j {D with nx:=c (i+1),ct:=c (i+1),bk:=D.nx} d H2) (l:∀b H,c xs.length b H->D.nx b H) :
  ∃W:Nat->Nat->St->Hp->Prop,(∃m,W 0 m b H)/\∀i m b H,W i m b H->
   ((Itl K a).stop i H/\D.nx b H)\/((Itl K a).go i H/\∃N:St->Hp->Prop,(∀σ' H',N σ' H'->∃h,h<m/\W (i+1) h σ' H')/\∀x H',(Itl K a).yld i H x H'->g x b H' fun d H2=>j {D with nx:=N,ct:=N,bk:=D.nx} d H2):=by
 refine⟨fun i m b H=>m=xs.length-i/\i<=xs.length/\c i b H,⟨xs.length,by simp,vC _,k⟩,?_⟩;rintro i m b H ⟨rfl,n,p⟩;have q:=o i b H n p;by_cases f:i<xs.length
 ·refine .inr ⟨⟨xs,xs[i],q,by simp[f]⟩,c (i+1),fun σ' H' s=>⟨xs.length-(i+1),by lia,rfl,f,s⟩,fun x H' y=>?_⟩;obtain⟨e,y⟩:=y;subst e;exact r i x b _ (y xs q) p
 ·have e:i=xs.length:=by lia
  subst e;exact .inl ⟨⟨xs,q,vB _⟩,l b H p⟩
theorem j0t{lo:Int}{n:Nat}{g:TG}{h:TS}{D:Ends}{a:St}{H:Hp}(b:Nat->St->Hp->Prop)(j:b 0 a H)
  (l:∀i a H,i<n->b i a H->g (.int (lo+i)) a H fun d H2=>h {D with nx:=b (i+1),ct:=b (i+1),bk:=D.nx} d H2) (k:∀a H,b n a H->D.nx a H) :
  ∃W:Nat->Nat->St->Hp->Prop,(∃m,W 0 m a H)/\∀i m a H,W i m a H->
   ((Itr lo n).stop i H/\D.nx a H)\/((Itr lo n).go i H/\∃N:St->Hp->Prop,(∀σ' H',N σ' H'->∃f,f<m/\W (i+1) f σ' H')/\∀x H',(Itr lo n).yld i H x H'->g x a H' fun d H2=>h {D with nx:=N,ct:=N,bk:=D.nx} d H2):=by
 refine⟨fun i m a H=>m=n-i/\i<=n/\b i a H,⟨n,by simp,vC _,j⟩,?_⟩;rintro i m a H ⟨rfl,q,p⟩;by_cases c:i<n
 ·refine .inr ⟨c,b (i+1),fun σ' H' o=>⟨n-(i+1),by lia,rfl,c,o⟩,fun x H' y=>?_⟩;obtain⟨e,y⟩:=y;subst e y;exact l i a _ c p
 ·have e:i=n:=by lia
  subst e;exact .inl ⟨vB _,k a H p⟩
noncomputable abbrev R2:=V->V->Hp->VK->Prop
def OpR(X:Cx)(f:Value->Value->Sem Value)(r:R2):Prop:=
 ∀(pins:List (Addr×Obj)) (s:Shared) (σ:St) (H:Hp) (x y:V) (v u:Value) (Q:VK),Inv X pins σ H s->RelV x v->RelV y u->r x y H Q->
  wpAny (model X.prog X.w) X.A (f v u) (EP X pins σ Q) X.xe s
def UnR(X:Cx)(f:Value->Sem Value)(r:V->Hp->VK->Prop):Prop:=
 ∀(pins:List (Addr×Obj)) (s:Shared) (σ:St) (H:Hp) (x:V) (v:Value) (Q:VK),Inv X pins σ H s->RelV x v->r x H Q->
  wpAny (model X.prog X.w) X.A (f v) (EP X pins σ Q) X.xe s
def CallR(X:Cx)(f:Value)(r:List V->Hp->VK->Prop):Prop:=
 ∀(pins:List (Addr×Obj)) (s:Shared) (σ:St) (H:Hp) (xs:List V) (us:List Value) (Q:VK),Inv X pins σ H s->Vals xs us->r xs H Q->
  wpAny (model X.prog X.w) X.A (call f us) (EP X pins σ Q) X.xe s
def TruR(X:Cx)(r:V->Hp->(Bool->Hp->Prop)->Prop):Prop:=
 ∀(pins:List (Addr×Obj)) (s:Shared) (σ:St) (H:Hp) (x:V) (v:Value) (Q:Bool->Hp->Prop),Inv X pins σ H s->RelV x v->r x H Q->
  wpAny (model X.prog X.w) X.A (truthy v) (TP X pins σ Q) X.xe s
def tOp(r:R2)(ta tb:TE):TE:=fun σ H Q=>ta σ H fun x H1=>tb σ H1 fun y H2=>r x y H2 Q
def tUn(r:V->Hp->VK->Prop)(ta:TE):TE:=fun σ H Q=>ta σ H fun x H1=>r x H1 Q
def rI(C:Int->Int->Prop)(g:Int->Int->V):R2:=fun x y H Q=>∃i j,x = .int i/\y = .int j/\C i j/\Q (g i j) H
def rI0(g:Int->Int->V):R2:=fun x y H Q=>∃i j,x = .int i/\y = .int j/\Q (g i j) H
noncomputable def rU(g:Int->V):V->Hp->VK->Prop:=fun x H Q=>∃i,x = .int i/\Q (g i) H
section
variable{X:Cx}{a b c:Expr}{ta tb tc:TE}{pos:Pos}
theorem binT(k:PE X a ta)(l:PE X b tb){c:St}{H:Hp}{R:V->V->Hp->Prop}(I:Inv X pins c H s)
  (h:ta c H fun x H1=>tb c H1 fun y H2=>R x y H2) {Q:Value->Shared->Prop} {f:Value->Value->Sem Value}
  (m:∀v u g x y H2,Inv X pins c H2 g->RelV x v->RelV y u->R x y H2->wpAny (model X.prog X.w) X.A (f v u) Q X.xe g) :
  wpAny (model X.prog X.w) X.A (eval a X.env) (fun v d=>wpAny (model X.prog X.w) X.A (eval b X.env) (fun u e=>wpAny (model X.prog X.w) X.A (f v u) Q X.xe e) X.xe d) X.xe s:=by
 refine thn (k pins s c H _ I h) fun v r ⟨x,H1,i,p,n⟩=>?_
 refine thn (l pins r c H1 _ i n) fun u g ⟨y,H2,j,q,o⟩=>?_
 exact m v u g x y H2 j p q o
theorem Jc(i:OpR X (binaryOp op) r)(f:PE X a ta)(g:PE X b tb):PE X (.BinOp a op b pos) (tOp r ta tb):=by
 intro c s m H Q I h;exact wpAny_BinOp (binT f g I h fun v u l x y d e j k q=>i c l m d x y v u Q e j k q)
theorem j3i{r:V->Hp->VK->Prop}(g:UnR X (unaryOp op) r)(f:PE X a ta):PE X (.UnaryOp op a pos) (tUn r ta):=by
 intro b s c H Q I h;exact UnaryOp_ (thn (f b s c H _ I h) fun v k ⟨x,d,e,j,i⟩=>g b k c d x v Q e j i)
theorem opI{f:Value->Value->Sem Value}{C:Int->Int->Prop}{g:Int->Int->Int}
  (a:∀(i j:Int) (t u:Tok) (s:Shared) (Q:Value->Shared->Prop) (E:Value->Shared->Prop),C i j->Q (.int (g i j) s.toks) {s with toks:=s.toks+1}->wpAny (model X.prog X.w) X.A (f (.int i t) (.int j u)) Q E s) :
  OpR X f (rI C fun i j=>.int (g i j)):=by
 intro b s l H x y v u Q I d e h;obtain⟨i,j,rfl,rfl,c,q⟩:=h;obtain⟨t,rfl⟩:=d;obtain⟨k,rfl⟩:=e;exact a i j t k s _ _ c ⟨.int (g i j),H,I.tok _,⟨_,rfl⟩,q⟩
theorem opI0{f:Value->Value->Sem Value}{g:Int->Int->Int}
  (a:∀(i j:Int) (t u:Tok) (s:Shared) (Q:Value->Shared->Prop) (E:Value->Shared->Prop),Q (.int (g i j) s.toks) {s with toks:=s.toks+1}->wpAny (model X.prog X.w) X.A (f (.int i t) (.int j u)) Q E s) :
  OpR X f (rI0 fun i j=>.int (g i j)):=by
 intro b s k H x y v u Q I c d h;obtain⟨i,j,rfl,rfl,q⟩:=h;obtain⟨t,rfl⟩:=c;obtain⟨e,rfl⟩:=d;exact a i j t e s _ _ ⟨.int (g i j),H,I.tok _,⟨_,rfl⟩,q⟩
theorem opB0{f:Value->Value->Sem Value}{g:Int->Int->Bool}
  (a:∀(i j:Int) (t u:Tok) (s:Shared) (Q:Value->Shared->Prop) (E:Value->Shared->Prop),Q (.bool (g i j)) s->wpAny (model X.prog X.w) X.A (f (.int i t) (.int j u)) Q E s) :
  OpR X f (rI0 fun i j=>.bl (g i j)):=by
 intro b s k H x y v u Q I c d h;obtain⟨i,j,rfl,rfl,q⟩:=h;obtain⟨t,rfl⟩:=c;obtain⟨e,rfl⟩:=d;exact a i j t e s _ _ ⟨.bl (g i j),H,I,rfl,q⟩
def CPow(i j:Int):Prop:=0<=j/\j<=1000000/\i.natAbs<2^64
theorem j1P:OpR X (binaryOp .Add) (rI0 fun i j=>.int (i+j)):=opI0 fun _ _ _ _ _ _ _ q=>add_int q
theorem j1R:OpR X (binaryOp .Sub) (rI0 fun i j=>.int (i-j)):=opI0 fun _ _ _ _ _ _ _ q=>sub_int q
theorem Zy:OpR X (binaryOp .Mod) (rI (fun _ j=>0<j) fun i j=>.int (i%j)):=opI fun i j _ _ _ _ _ a q=>by
 have b:(0:Int)<j:=a;exact mod_int' (by lia) (by rw[Int.fmod_eq_emod_of_nonneg i (by lia)];exact q)
theorem yw:OpR X (binaryOp .Pow) (rI CPow fun i j=>.int (i^j.toNat)):=opI fun _ _ _ _ _ _ _ a q=>pow_int_small a.1 a.2.1 a.2.2 q
theorem unI{f:Value->Sem Value}{g:Int->Int}
  (a:∀(i:Int) (t:Tok) (s:Shared) (Q:Value->Shared->Prop) (E:Value->Shared->Prop),Q (.int (g i) s.toks) {s with toks:=s.toks+1}->wpAny (model X.prog X.w) X.A (f (.int i t)) Q E s) :
  UnR X f (rU fun i=>.int (g i)):=by
 intro b s d H x v Q I c h;obtain⟨i,rfl,q⟩:=h;obtain⟨t,rfl⟩:=c;exact a i t s _ _ ⟨.int (g i),H,I.tok _,⟨_,rfl⟩,q⟩
theorem j2e:UnR X (unaryOp .USub) (rU fun i=>.int (-i)):=unI fun _ _ _ _ _ q=>neg_int q
end
noncomputable def scal:V->V->Bool
 | .non,.non=>true | .non,.int _=>true | .int _,.non=>true | .non,.bl _=>true | .bl _,.non=>true | .non,.str _=>true | .str _,.non=>true
 | .int _,.int _=>true | .bl _,.bl _=>true | .str _,.str _=>true | .byt _,.byt _=>true
 | .int _,.str _=>true | .str _,.int _=>true | .bl _,.str _=>true | .str _,.bl _=>true
 | _,_=>false
def rEq:R2:=fun x y H Q=>scal x y=true/\Q (.bl (decide (x=y))) H
def rNe:R2:=fun x y H Q=>scal x y=true/\Q (.bl (!decide (x=y))) H
theorem XX:decide (V.int i=V.int j)=(i==j):=by
 rw[Bool.eq_iff_iff];simp
theorem j1i:decide (V.bl i=V.bl j)=(i==j):=by
 rw[Bool.eq_iff_iff];simp
theorem XY:decide (V.str i=V.str j)=(i==j):=by
 rw[Bool.eq_iff_iff];simp
theorem XW:decide (V.byt i=V.byt j)=(i.toList==j.toList):=by
 rw[Bool.eq_iff_iff];cases i;cases j;simp
section
variable{X:Cx}{a b c:Expr}{ta tb tc:TE}{pos:Pos}
theorem jG{a:St}{H:Hp}(I:Inv X pins a H s)(q:Q (.bl k) H)(e:k=k'):EP X pins a Q (.bool k') s:=by
 subst e;exact⟨.bl k,H,I,rfl,q⟩
theorem Jl:OpR X (compareOp .Eq) rEq:=by
 intro e s f H x y v u Q I d a h;obtain⟨c,q⟩:=h;cases x with
 | non=>
  cases d;cases y with
  | non=>cases a;exact PySem.EqNone.eq_none_none (jG I q (by simp))
  | bl j=>cases a;exact PySem.EqNone.eq_none_bool (jG I q (by simp))
  | int j=>obtain⟨b,rfl⟩:=a;exact PySem.EqNone.eq_none_int (jG I q (by simp))
  | str j=>obtain⟨b,rfl⟩:=a;exact PySem.EqNone.eq_none_str (jG I q (by simp))
  | _=>exact ue (show false=true from c) vJ
 | bl i=>
  cases d;cases y with
  | non=>cases a;exact PySem.EqNone.eq_bool_none (jG I q (by simp))
  | bl j=>cases a;exact eq_bool (jG I q j1i)
  | str j=>obtain⟨b,rfl⟩:=a;exact PySem.EqMixed.eq_bool_str (jG I q (by simp))
  | _=>exact ue (show false=true from c) vJ
 | int i=>
  obtain⟨t,rfl⟩:=d;cases y with
  | non=>cases a;exact PySem.EqNone.eq_int_none (jG I q (by simp))
  | int j=>obtain⟨b,rfl⟩:=a;exact eq_int (jG I q XX)
  | str j=>obtain⟨b,rfl⟩:=a;exact PySem.EqMixed.eq_int_str (jG I q (by simp))
  | _=>exact ue (show false=true from c) vJ
 | str i=>
  obtain⟨t,rfl⟩:=d;cases y with
  | non=>cases a;exact PySem.EqNone.eq_str_none (jG I q (by simp))
  | bl j=>cases a;exact PySem.EqMixed.eq_str_bool (jG I q (by simp))
  | int j=>obtain⟨b,rfl⟩:=a;exact PySem.EqMixed.eq_str_int (jG I q (by simp))
  | str j=>obtain⟨b,rfl⟩:=a;exact eq_str (jG I q XY)
  | _=>exact ue (show false=true from c) vJ
 | byt i=>
  obtain⟨t,rfl⟩:=d;cases y with
  | byt j=>obtain⟨b,rfl⟩:=a;exact PySem.W.eq_bytes (jG I q XW)
  | _=>exact ue (show false=true from c) vJ
 | _=>cases y<;>exact ue (show false=true from c) vJ
theorem Z9:OpR X (compareOp .NotEq) rNe:=by
 intro e s f H x y v u Q I d a h;obtain⟨c,q⟩:=h;cases x with
 | non=>
  cases d;cases y with
  | non=>cases a;exact PySem.EqNone.ne_none_none (jG I q (by simp))
  | bl j=>cases a;exact PySem.EqNone.ne_none_bool (jG I q (by simp))
  | int j=>obtain⟨b,rfl⟩:=a;exact PySem.EqNone.ne_none_int (jG I q (by simp))
  | str j=>obtain⟨b,rfl⟩:=a;exact PySem.EqNone.ne_none_str (jG I q (by simp))
  | _=>exact ue (show false=true from c) vJ
 | bl i=>
  cases d;cases y with
  | non=>cases a;exact PySem.EqNone.ne_bool_none (jG I q (by simp))
  | bl j=>cases a;exact ne_bool (jG I q (congrArg not j1i))
  | str j=>obtain⟨b,rfl⟩:=a;exact PySem.EqMixed.ne_bool_str (jG I q (by simp))
  | _=>exact ue (show false=true from c) vJ
 | int i=>
  obtain⟨t,rfl⟩:=d;cases y with
  | non=>cases a;exact PySem.EqNone.ne_int_none (jG I q (by simp))
  | int j=>obtain⟨b,rfl⟩:=a;exact ne_int (jG I q (congrArg not XX))
  | str j=>obtain⟨b,rfl⟩:=a;exact PySem.EqMixed.ne_int_str (jG I q (by simp))
  | _=>exact ue (show false=true from c) vJ
 | str i=>
  obtain⟨t,rfl⟩:=d;cases y with
  | non=>cases a;exact PySem.EqNone.ne_str_none (jG I q (by simp))
  | bl j=>cases a;exact PySem.EqMixed.ne_str_bool (jG I q (by simp))
  | int j=>obtain⟨b,rfl⟩:=a;exact PySem.EqMixed.ne_str_int (jG I q (by simp))
  | str j=>obtain⟨b,rfl⟩:=a;exact ne_str (jG I q (congrArg not XY))
  | _=>exact ue (show false=true from c) vJ
 | byt i=>
  obtain⟨t,rfl⟩:=d;cases y with
  | byt j=>obtain⟨b,rfl⟩:=a;exact PySem.W.ne_bytes (jG I q (congrArg not XW))
  | _=>exact ue (show false=true from c) vJ
 | _=>cases y<;>exact ue (show false=true from c) vJ
theorem j4h:OpR X (compareOp .Lt) (rI0 fun i j=>.bl (decide (i<j))):=opB0 fun _ _ _ _ _ _ _ q=>lt_int q
theorem Z8:OpR X (compareOp .LtE) (rI0 fun i j=>.bl (decide (i<=j))):=opB0 fun _ _ _ _ _ _ _ q=>le_int q
theorem Z7:OpR X (compareOp .Gt) (rI0 fun i j=>.bl (decide (j<i))):=opB0 fun _ _ _ _ _ _ _ q=>gt_int q
theorem j0N:OpR X (compareOp .In) (fun x y H Q=>∃i j,x = .str i/\y = .str j/\Q (.bl (!(Builtin.Str.occurrences j i 0 j.length 1).isEmpty)) H):=by
 intro a s e H x y v u Q I b c h;obtain⟨i,j,rfl,rfl,q⟩:=h;obtain⟨t,rfl⟩:=b;obtain⟨d,rfl⟩:=c;exact in_str (jG I q rfl)
theorem Qc:OpR X (compareOp .Is) (fun x y H Q=>y = .non/\Q (.bl (decide (x = .non))) H):=by
 intro a s d H x y v u Q I b c h;obtain⟨rfl,q⟩:=h;cases c;refine is_none_gen (jG I q ?_);cases x<;>first
  | (cases b;rfl)
  | (obtain⟨t,rfl⟩:=b;rfl)
theorem nomark(b:Expr)(h:op≠.In:=by decide)(d:op≠.NotIn:=by decide):behindInMarks op b=false:=by
 have a:(op==CmpOp.In)=false:=by cases op<;>first | rfl | exact ue rfl h
 have c:(op==CmpOp.NotIn)=false:=by cases op<;>first | rfl | exact ue rfl d
 cases b<;>simp[behindInMarks,a,c]
theorem zY(j:OpR X (compareOp op) r)(f:PE X a ta)(g:PE X b tb)(i:behindInMarks op b=false):PE X (.Compare a [op] [b] pos) (tOp r ta tb):=by
 intro c s n H Q I h;exact wpAny_Compare1 (binT f g I h fun v u m x y d e k l q=>j c m n d x y v u Q e k l q) i
def tTest(t:TE):TT:=fun σ H Q=>t σ H fun x H'=>∃k,x = .bl k/\Q k H'
theorem jh(t:OpR X (compareOp op) r)(o:PE X a ta)(p:PE X b tb)(q:behindInMarks op b=false):PT X (.Compare a [op] [b] pos) (tTest (tOp r ta tb)):=by
 intro d s f H Q I h;refine wpAny_isTrue_Compare1 (thn (o d s f H _ I h) fun v F ⟨x,g,l,C,w⟩=>thn (p d F f g _ l w) fun u G ⟨y,i,m,D,A⟩=>
  thn (t d G f i x y v u _ m C D A) fun c J ⟨z,j,n,E,k,e,B⟩=>?_) q
 subst e;cases E;exact wpAny_truthy_bool ⟨j,n,B⟩
def tChain(r r':R2)(ta tb tc:TE):TE:=fun σ H Q=>ta σ H fun x H1=>tb σ H1 fun y H2=>r x y H2 fun z H3=>∃k,z = .bl k/\
 (if k=true then tc σ H3 fun w' H4=>r' y w' H4 Q else Q (.bl false) H3)
theorem j1U{l g:CmpOp}{r p:R2}(K:OpR X (compareOp l) r)(j:OpR X (compareOp g) p)(E:PE X a ta)(F:PE X b tb)(G:PE X c tc)
  (J:lastMarks [l,g] [b,c]=false:=by with_unfolding_all rfl):PE X (.Compare a [l,g] [b,c] pos) (tChain r p ta tb tc):=by
 intro f s i H Q I h;refine Compare_chain (thn (E f s i H _ I h) fun v S ⟨x,t,B,O,L⟩=>chain_link (thn (F f S i t _ B L) fun u T ⟨y,w,C,q,M⟩=>
  thn (K f T i w x y v u _ C O q M) fun d U ⟨z,m,n,P,k,e,o⟩=>?_)) J
 subst e;cases P;refine wpAny_truthy_bool ?_;cases k with
 | false=>exact ite_ff ⟨.bl false,m,n,rfl,o⟩
 | true=>exact ite_tt (chain_last (thn (G f U i m _ n o) fun Y W ⟨Z,A,D,R,N⟩=>j f W i A y Z u Y Q D q R N))
theorem yY(L:OpR X (compareOp op) r)(i:OpR X (compareOp op') r')(F:PE X a ta)(G:PE X b tb)(J:PE X c tc)
  (K:lastMarks [op,op'] [b,c]=false:=by with_unfolding_all rfl):PT X (.Compare a [op,op'] [b,c] pos) (tTest (tChain r r' ta tb tc)):=by
 intro f s g H Q I h;refine isTrue_chain (thn (F f s g H _ I h) fun v Y ⟨x,o,w,S,N⟩=>test_link (thn (G f Y g o _ w N) fun u Z ⟨y,p,A,n,O⟩=>
  thn (L f Z g p x y v u _ A S n O) fun d s3 ⟨z,j,l,T,k,e,m⟩=>?_)) K
 subst e;cases T;refine wpAny_truthy_bool ?_;cases k with
 | false=>
  obtain⟨k',D,M⟩:=m;cases D;exact ite_ff ⟨j,l,M⟩
 | true=>
  refine ite_tt (test_last (thn (J f s3 g j _ l m) fun w' s4 ⟨z',q,B,U,P⟩=>thn (i f s4 g q y z' u w' _ B n U P) fun d' s5 ⟨z2,t,C,W,k2,E,R⟩=>?_));subst E;cases W;exact wpAny_truthy_bool ⟨t,C,R⟩
def TruV(K:Frg)(x:V)(H:Hp)(k:Bool):Prop:=
 match x with
 | .non=>k=false
 | .bl b=>k=b
 | .int i=>k=(i != 0)
 | .str y=>y.length<=sizeLine/\k=((y.length:Int) != 0)
 | .byt y=>y.size<=sizeLine/\k=((y.size:Int) != 0)
 | .ref p=>(∃xs,SqL K H p xs/\k = !xs.isEmpty)\/(∃xs,SqT K H p xs/\k = !xs.isEmpty)\/∃kvs,H p=some (.dK kvs)/\k = !kvs.isEmpty
 | _=>False
theorem xU{κ:Type}{kvs:List (κ×V)}{vs:List (κ×Value)}(r:KV kvs vs):(!vs.isEmpty) = !kvs.isEmpty:=by
 cases r<;>rfl
theorem kK{xs:List V}{a:List Value}(r:Vals xs a):(!a.toArray.isEmpty) = !xs.isEmpty:=by
 cases r<;>simp
theorem line63:(sizeLine:Nat)<2^63:=by rw[sizeLine_eq];decide
theorem j45:TruR X (fun x H Q=>∃k,TruV X.K x H k/\Q k H):=by
 intro w s D H x v Q I g h;obtain⟨k,e,q⟩:=h;have B:=line63;have C:sizeLine=16777216:=sizeLine_eq;cases x with
 | non=>
  cases g;have a:k=false:=e;subst a;exact truthy_none ⟨H,I,q⟩
 | bl b=>
  cases g;have a:k=b:=e;subst a;exact wpAny_truthy_bool ⟨H,I,q⟩
 | int i=>
  obtain⟨t,rfl⟩:=g;have a:k=(i != 0):=e;subst a;exact PySem.P.truthy_int ⟨H,I,q⟩
 | str y=>
  obtain⟨t,rfl⟩:=g;obtain⟨A,a⟩:y.length<=sizeLine/\k=((y.length:Int) != 0):=e;subst a;exact PySem.P.truthy_str (by lia) ⟨H,I.tok _,q⟩
 | byt y=>
  obtain⟨t,rfl⟩:=g;obtain⟨A,a⟩:y.size<=sizeLine/\k=((y.size:Int) != 0):=e;subst a;exact PySem.W.truthy_bytes (by lia) ⟨H,I.tok _,q⟩
 | ref p=>
  cases g;have a:(∃f,SqL X.K H p f/\k = !f.isEmpty)\/(∃f,SqT X.K H p f/\k = !f.isEmpty)\/∃c,H p=some (.dK c)/\k = !c.isEmpty:=e;rcases a with⟨f,j,a⟩ | ⟨f,j,a⟩ | ⟨c,j,a⟩
  ·subst a;obtain⟨n,r,o,u⟩:=I.list j;have d:=r.length;exact wpAny_truthy_list o.isList (by simp only[size_toArray];lia) ⟨H,I.tok _,by rw[kK r];exact q⟩
  ·subst a;obtain⟨n,r,o,u⟩:=I.tuple j;have d:=r.length;exact truthy_tuple o (by simp only[size_toArray];lia) ⟨H,I.tok _,by rw[kK r];exact q⟩
  ·subst a;obtain⟨u,z,l,r,m⟩:c.length<=sizeLine/\(p==sysModules)=false/\∃l,KV c l/\s.heap.DictOf (mixKind X.prog X.w) p l:=I.hok p _ j;have d:c.length=l.length:=Paired.length r;exact wpAny_truthy_dict z m (by lia) ⟨H,I.tok _,by rw[xU r];exact q⟩
 | _=>exact(show False from e).elim
theorem j1X(f:PE X a ta)(g:∀b,isTrue a X.env b=(do let v <-b;standAt a.pos;holding [v] (truthy v))) :
  PT X a (fun σ H Q=>ta σ H fun x H'=>∃k,TruV X.K x H' k/\Q k H'):=by
 intro c s σ H Q I h;exact isTrue_plain (thn (f c s σ H _ I h) fun v l ⟨x,d,e,j,i⟩=>j45 c l σ d x v Q e j i) (g _)
theorem qM:OpR X (binaryOp .Add) (fun x y H Q=>∃i j,x = .str i/\y = .str j/\i.length+j.length<=sizeLine/\Q (.str (i++j)) H):=by
 intro a s g H x y v u Q I c d h;obtain⟨i,j,rfl,rfl,b,q⟩:=h;obtain⟨t,rfl⟩:=c;obtain⟨e,rfl⟩:=d;exact add_str (fun e f=>⟨.str (i++j),H,I.tok _,⟨_,rfl⟩,q⟩) b
theorem vals1(r:Vals [x] us):∃u,us=[u]/\RelV x u:=by
 cases r with
 | cons r1 r2=>cases r2;exact⟨_,rfl,r1⟩
theorem vals2(r:Vals [x,y] us):∃u a,us=[u,a]/\RelV x u/\RelV y a:=by
 cases r with
 | cons r1 r2=>
  cases r2 with
  | cons r3 r4=>cases r4;exact⟨_,_,rfl,r1,r3⟩
theorem j0k:CallR X (.type "int") (fun xs H Q=>(∃i,xs=[.int i]/\Q (.int i) H)\/∃k,xs=[.bl k]/\Q (.int (if k then 1 else 0)) H):=by
 intro a s d H xs c Q I r h;rcases h with⟨i,rfl,q⟩ | ⟨k,rfl,q⟩
 ·obtain⟨u,rfl,t,rfl⟩:=vals1 r;exact call_int_int ⟨.int i,H,I,⟨_,rfl⟩,q⟩
 ·obtain⟨u,rfl,b⟩:=vals1 r;cases b;exact call_int_bool ⟨.int (if k then 1 else 0),H,I.tok _,⟨_,rfl⟩,q⟩
def LenV(K:Frg)(x:V)(H:Hp)(n:Nat):Prop:=
 match x with
 | .str y=>y.length<=sizeLine/\n=y.length
 | .byt y=>y.size<=sizeLine/\n=y.size
 | .ref p=>(∃xs,SqL K H p xs/\n=xs.length)\/∃xs,SqT K H p xs/\n=xs.length
 | _=>False
theorem jR:CallR X (.builtin "len") (fun xs H Q=>∃x n,xs=[x]/\LenV X.K x H n/\Q (.int n) H):=by
 intro j s w H xs v Q I r h;obtain⟨x,n,rfl,e,q⟩:=h;obtain⟨u,rfl,i⟩:=vals1 r;have m:=line63;have o:sizeLine=16777216:=sizeLine_eq;cases x with
 | str y=>
  obtain⟨t,rfl⟩:=i;obtain⟨k,b⟩:y.length<=sizeLine/\n=y.length:=e;subst b;exact len_str (by lia) ⟨.int _,H,I.tok _,⟨_,rfl⟩,q⟩
 | byt y=>
  obtain⟨t,rfl⟩:=i;obtain⟨k,b⟩:y.size<=sizeLine/\n=y.size:=e;subst b;exact PySem.W.len_bytes (by lia) ⟨.int _,H,I.tok _,⟨_,rfl⟩,q⟩
 | ref p=>
  cases i;have b:(∃xs,SqL X.K H p xs/\n=xs.length)\/∃xs,SqT X.K H p xs/\n=xs.length:=e;rcases b with⟨xs,c,b⟩ | ⟨xs,c,b⟩
  ·subst b;obtain⟨d,g,f,l⟩:=I.list c;have a:=g.length;exact Calls.call_len_list f.isList (by simp only[size_toArray];lia) ⟨.int xs.length,H,I.tok _,⟨_,by simp only[size_toArray];rw[a]⟩,q⟩
  ·subst b;obtain⟨d,g,f,l⟩:=I.tuple c;have a:=g.length;exact len_tuple f (by simp only[size_toArray];lia) ⟨.int xs.length,H,I.tok _,⟨_,by simp only[size_toArray];rw[a]⟩,q⟩
 | _=>exact(show False from e).elim
end
structure ObjM(h:Heap)(x dx C:Addr)(mA:Str->Option Value):Prop where
 obj:h.get? x=some (PySem.W.instObj C dx)
 ns:h.Ns1 dx mA
 ne:dx≠x
theorem j0E{h:Heap}{dx:Addr}{d:Str->Option Value}(n:h.Ns1 dx d):∃f,h.get? dx=some f/\∀name,PySem.W.lookIn name f=some (d name):=by
 obtain⟨o,c,p,l,i,j,_,k⟩:=n;refine⟨o,l,fun name=>?_⟩;have e:=k name;unfold nsFind findBy at e;rw[<-Array.find?_toList]at e;unfold PySem.W.lookIn;rw[i];dsimp only;split
 ·rename_i y q;rw[q]at e;exact congrArg some e
 ·rename_i q;rw[q]at e;have a:c.toList.any (·.refKey)=false:=by
   rw[List.any_eq_false];intro y m;obtain⟨z,t,b⟩:=j y (Array.mem_toList_iff.mp m);simp[DictEntry.refKey,b]
  have g:¬c.toList.any (·.refKey)=true:=by rw[a];exact vJ
  rw[vA g];exact congrArg some e
theorem ObjM.look{b:Str->Option Value}(I:ObjM h x dx C b):∃a,PySem.W.InstAt h x (PySem.W.instObj C dx) C (some a)/\∀name,PySem.W.lookIn name a=some (b name):=
 let ⟨a,ho,hl⟩:=j0E I.ns
 ⟨a,⟨I.obj,rfl,rfl,ho⟩,hl⟩
section
variable{prog:Program}{w:World}{A:Around}{E:Value->Shared->Prop}{s:Shared}{K:Frg}{x dx C f:Addr}{mA:Str->Option Value}{name:Str}{v:Value}
theorem j2G{Q:Value->Shared->Prop}(X:K.In s.heap)(I:ObjM s.heap x dx C mA)(c:PySem.W.plainGet K C name=true)(d:PySem.W.hasDictIn K C=true)
  (b:PySem.W.findIn K (.ref C) name=some none) (f:mA name=some v) (a:PySem.W.handedIn v=true) (h:Q v {s with toks:=s.toks+1}) :
  wpAny (model prog w) A (getAttr (.ref x) name expr) Q E s:=by
 obtain⟨g,J,e⟩:=I.look;exact PySem.W.get_value X J (PySem.W.plainGet_of c).1 (PySem.W.findObj_own d b rfl (by rw[e,f])) a h
theorem j1q{Q:Value×List Value->Shared->Prop}(X:K.In s.heap)(I:ObjM s.heap x dx C mA)(a:PySem.W.plainGet K C name=true)
  (b:PySem.W.findIn K (.ref C) name=some (some (.ref f))) (d:PySem.W.isFn K (.ref f)=true) (e:mA name=none) (h:Q (.ref f,[.ref x]) s) :
  wpAny (model prog w) A (getMethod (.ref x) name pl) Q E s:=by
 obtain⟨g,J,c⟩:=I.look;exact PySem.W.method_fn X J (PySem.W.plainGet_of a).1 (PySem.W.plainGet_of a).2 b (beq_iff_eq.mp d) (by show(PySem.W.lookIn name g).map (·.isSome)=some false;rw[c,e];rfl) h
theorem j36{Q:Unit->Shared->Prop}(X:K.In s.heap)(I:ObjM s.heap x dx C mA)
  (o:PySem.W.findIn K (.ref C) "__setattr__"= some (some (.builtin "object.__setattr__"))) (n:PySem.W.plainOver K C=true) (p:PySem.W.takerIn K C name=some none) (m:PySem.W.hasDictIn K C=true)
  (hw:PySem.Within mA ns) (hsz:ns.length<=sizeLine)
  (h:∀h',ObjM h' x dx C (fun y=>if y=name then some v else mA y)->Heap.SameBut dx s.heap h'->Q () {s with heap:=h',toks:=s.toks+2}) :
  wpAny (model prog w) A (setAttr (.ref x) name v) Q E s:=by
 obtain⟨B,J,u⟩:=I.look;refine PySem.W.set_plain X J o (PySem.W.osa_open (s:={s with toks:=s.toks+1}) (r:=none) X J n p fun b=>?_);obtain⟨t,l,f⟩:=PySem.W.any_some m;have q:s.heap.get? x=some ⟨.ref C,some dx,.plain,#[]⟩:=I.obj;refine ug (uf (ug (ug (wpAny_loadPart q (ug (PySem.W.Looks.here (s:={s with toks:=s.toks+1}) (PySem.W.looks_clsIn X l) ?_))))));rw[f];refine uf (a:=some dx) (ug (uf (ug ?_)));refine wpAny_nsSet1 (s:={s with toks:=s.toks+1}) I.ns fun h' c d=>?_
 obtain⟨z,k,j,i,g,e⟩:=c.count (PySem.Within.cons name v hw);refine ug (wpAny_lookBehind i (by rw[g];exact pastItsLine_dict (vZ e (by rw[vT];lia))) ?_);exact uf (h _ ⟨(d.2 _ (Ne.symm I.ne)).trans I.obj,c,I.ne⟩ d)
theorem j1B{R:Result->Shared->Prop}(X:K.In s.heap)(c:PySem.W.makesIn K C=true)
  (hi:PySem.W.findIn K (.ref C) "__init__"= some (some (.ref f))) (b:PySem.W.typeIn K (.ref f)=some (.type "function"))
  (h:codeAny (model prog w) (A.under (.builtin "type.__call__" ⟨.ref C::vs,kw⟩)) (.call (.ref f) ⟨.ref (s.heap.objs.size+1)::vs,kw⟩) (PySem.W.InitBack (s.heap.objs.size+1) R)
   {s with heap:=(s.heap.push PySem.W.emptyDict).push (PySem.W.instObj C s.heap.objs.size)}) :
  codeAny (model prog w) A (.call (.ref C) ⟨vs,kw⟩) R s:=by
 obtain⟨e,g,d,t,i⟩:=s;exact PySem.W.make_core (PySem.W.makes_of X c) (PySem.W.looks_findIn X hi) (fun a=>PySem.W.bind_fn X a b) (.inl rfl) h
end
noncomputable def putF(f:Str)(v:V):List (Str×V)->List (Str×V)
 | []=>[(f,v)]
 | (g,x)::r=>if g=f then(g,v)::r else(g,x)::putF f v r
theorem qq(f g:Str)(v:V):∀fs:List (Str×V),(putF f v fs).lookup g=if g=f then some v else fs.lookup g
 | []=>by
  show List.lookup g [(f,v)]=_;by_cases h:g=f
  ·have a:(g==f)=true:=beq_iff_eq.mpr h;simp only[List.lookup,a,if_pos h]
  ·have a:(g==f)=false:=beq_eq_false_iff_ne.mpr h;simp only[List.lookup,a,if_neg h]
 | (k,x)::r=>by
  have c:=qq f g v r;rw[show putF f v ((k,x)::r)=(if k=f then(k,v)::r else(k,x)::putF f v r)from rfl];by_cases b:k=f
  ·rw[va b];by_cases h:g=k
   ·have a:(g==k)=true:=beq_iff_eq.mpr h;simp only[List.lookup,a,if_pos (h.trans b)]
   ·have a:(g==k)=false:=beq_eq_false_iff_ne.mpr h;simp only[List.lookup,a,if_neg (fun e:g=f=>h (e.trans b.symm))]
  ·rw[vA b];by_cases h:g=k
   ·have a:(g==k)=true:=beq_iff_eq.mpr h;simp only[List.lookup,a,if_neg (fun e:g=f=>b (h.symm.trans e))]
   ·have a:(g==k)=false:=beq_eq_false_iff_ne.mpr h;simp only[List.lookup,a];exact c
theorem Yk(f:Str)(v:V):∀fs:List (Str×V),f∈(putF f v fs).map (·.1)/\∀g,g∈fs.map (·.1)->g∈(putF f v fs).map (·.1)
 | []=>⟨by simp[putF],fun g h=>by simp at h⟩
 | (k,x)::r=>by
  obtain⟨b,c⟩:=Yk f v r;rw[show putF f v ((k,x)::r)=(if k=f then(k,v)::r else(k,x)::putF f v r)from rfl];by_cases a:k=f
  ·rw[va a];subst a;exact⟨by simp,fun g h=>by simpa using h⟩
  ·rw[vA a];refine⟨?_,fun g h=>?_⟩
   ·rw[uy];exact vp _ b
   ·rw[uy]at h|-;rcases mem_cons.mp h with e | e
    ·exact mem_cons.mpr (.inl e)
    ·exact vp _ (c g e)
theorem YJ(f:Str)(v:V):∀fs:List (Str×V),(putF f v fs).length<=fs.length+1
 | []=>by simp[putF]
 | (k,x)::r=>by
  have b:=YJ f v r;rw[show putF f v ((k,x)::r)=(if k=f then(k,v)::r else(k,x)::putF f v r)from rfl];by_cases a:k=f
  ·rw[va a,vT,vT];lia
  ·rw[vA a,vT,vT];lia
theorem RelO.some_of(r:RelO (some v) o):∃u,o=some u/\RelV v u:=by
 cases o with
 | none=>exact(show False from r).elim
 | some u=>exact⟨u,rfl,r⟩
theorem RelO.none_of(r:RelO none o):o=none:=by
 cases o with
 | none=>rfl
 | some u=>exact(show False from r).elim
theorem j0v(r:RelV v u):PySem.W.handedIn u=true:=by
 cases v with
 | non=>cases(show u=Value.none from r);rfl
 | bl b=>cases(show u=Value.bool b from r);rfl
 | int i=>obtain⟨t,e⟩:=(show∃t,u=Value.int i t from r);cases e;rfl
 | str x=>obtain⟨t,e⟩:=(show∃t,u=Value.str x t from r);cases e;rfl
 | byt b=>obtain⟨t,e⟩:=(show∃t,u=Value.bytes b t from r);cases e;rfl
 | flt b=>obtain⟨t,e⟩:=(show∃t,u=Value.float b t from r);cases e;rfl
 | ref a=>cases(show u=Value.ref a from r);rfl
 | ty n=>cases(show u=Value.type n from r);rfl
section
variable{P:Program}{w:World}{H H':Hp}{h h':Heap}{a C dx:Addr}{fs fs':List (Str×V)}
theorem Y4(b:HOk P w H h)(e:H a=some (.ins C dx fs)):∃mA,ObjM h a dx C mA/\(∀f,RelO (fs.lookup f) (mA f))/\PySem.Within mA (fs.map (·.1))/\fs.length<=1000/\H dx=some (.own a):=by
 obtain⟨d,z,c,g,mA,n,r,q⟩:=(show ObjOk P w H h a (.ins C dx fs)from b a _ e)
 exact⟨mA,⟨g,n,c⟩,r,q,z,d⟩
end
structure Cls(K:Frg)(C:Addr):Prop where
 pg:PySem.W.plainGet K C Str.empty=true
 hd:PySem.W.hasDictIn K C=true
 po:PySem.W.plainOver K C=true
 sa:PySem.W.findIn K (.ref C) "__setattr__"= some (some (.builtin "object.__setattr__"))
theorem Cls.get{K:Frg}{C:Addr}(c:Cls K C)(f:Str):PySem.W.plainGet K C f=true:=c.pg
def NoAttr(K:Frg)(C:Addr)(f:Str):Prop:=PySem.W.findIn K (.ref C) f=some none
theorem NoAttr.taker{K:Frg}{C:Addr}{f:Str}(n:NoAttr K C f):PySem.W.takerIn K C f=some none:=by
 unfold PySem.W.takerIn;rw[show PySem.W.findIn K (.ref C) f=some none from n];rfl
structure Meth(K:Frg)(C:Addr)(m:Str)(f:Addr):Prop where
 at_:PySem.W.findIn K (.ref C) m=some (some (.ref f))
 fn:PySem.W.isFn K (.ref f)=true
 kp:PySem.W.keepIn K (.ref f)=true
section
variable{X:Cx}{pins:List (Addr×Obj)}{σ:St}{H:Hp}{s:Shared}{a C dx:Addr}{fs:List (Str×V)}{f:Str}{v:V}{A:Around}{E:Value->Shared->Prop}
theorem xR{Q:Value->Shared->Prop}(I:Inv X pins σ H s)(e:H a=some (.ins C dx fs))(c:Cls X.K C)(n:NoAttr X.K C f)(l:fs.lookup f=some v)
  (h:∀u s',Inv X pins σ H s'->RelV v u->Q u s'):wpAny (model X.prog X.w) A (getAttr (.ref a) f b) Q E s:=by
 obtain⟨i,O,r,_,_,_⟩:=Y4 I.hok e;obtain⟨u,g,d⟩:=RelO.some_of (v:=v) (o:=i f) (by rw[<-l];exact r f);exact j2G I.kIn O (c.get f) c.hd n g (j0v d) (h u _ (I.tok _) d)
theorem kJ{Q:Value×List Value->Shared->Prop}(I:Inv X pins σ H s)(e:H a=some (.ins C dx fs))(c:Cls X.K C)(k:Meth X.K C m g)(l:fs.lookup m=none)
  (h:Q (.ref g,[.ref a]) s):wpAny (model X.prog X.w) A (getMethod (.ref a) m pl) Q E s:=by
 obtain⟨d,O,r,_,_,_⟩:=Y4 I.hok e;have b:d m=none:=RelO.none_of (by rw[<-l];exact r m);exact j1q I.kIn O (c.get m) k.at_ k.fn b h
theorem Xz{Q:Unit->Shared->Prop}(I:Inv X pins σ H s)(e:H a=some (.ins C dx fs))(c:Cls X.K C)(n:NoAttr X.K C f)(D:fs.length<1000)(w:RelV y u)
  (h:∀s',Inv X pins σ (upd H a (.ins C dx (putF f y fs))) s'->Q () s'):wpAny (model X.prog X.w) A (setAttr (.ref a) f u) Q E s:=by
 obtain⟨j,O,r,k,_,i⟩:=Y4 I.hok e;have v:(fs.map (·.1)).length<=sizeLine:=by rw[vt,sizeLine_eq];lia
 refine j36 I.kIn O c.sa c.po n.taker c.hd k v fun l d B=>h _ ?_
 have p:∃o,l.get? dx=some o:=let ⟨o,_,_,e',_⟩:=d.ns;⟨o,e'⟩;refine I.write (x:=a) (e:=dx) (by rw[e];exact True.intro) (.inr i) (fun b q m z=>(B.2 b m).trans z) p ?_;refine⟨by rw[jg O.ne];exact i,?_,O.ne,d.obj,_,d.ns,fun g=>?_,fun g t=>?_⟩
 ·have:=YJ f y fs;lia
 ·show RelO ((putF f y fs).lookup g) (if g=f then some u else j g);rw[qq];by_cases q:g=f
  ·rw[va q,va q];exact w
  ·rw[vA q,vA q];exact r g
 ·by_cases q:g=f
  ·rw[q];exact(Yk f y fs).1
  ·refine(Yk f y fs).2 g (k g fun z=>t ?_);show(if g=f then some u else j g)=none;rw[vA q];exact z
theorem Inv.made(I:Inv X pins σ H s):Inv X pins σ (upd (upd H s.heap.objs.size (.own (s.heap.objs.size+1))) (s.heap.objs.size+1) (.ins C s.heap.objs.size []))
  {s with heap:=(s.heap.push PySem.W.emptyDict).push (PySem.W.instObj C s.heap.objs.size)}:=by
 have c:(s.heap.push PySem.W.emptyDict).get? s.heap.objs.size=some PySem.W.emptyDict:=Heap.get?_push_size s.heap rfl;have g:((s.heap.push PySem.W.emptyDict).push (PySem.W.instObj C s.heap.objs.size)).get? (s.heap.objs.size+1)=some (PySem.W.instObj C s.heap.objs.size):=by
  have:=Heap.get?_push_size (s.heap.push PySem.W.emptyDict) (o:=PySem.W.instObj C s.heap.objs.size) rfl
  rwa [Heap.size_push]at this
 have h:(s.heap.push PySem.W.emptyDict).Ns s.heap.objs.size (fun _=>none):=⟨PySem.W.emptyDict,#[],_,c,rfl,(fun e i=>ue i (by simp)),fun _=>rfl⟩
 have f:=I.laid (a:=s.heap.objs.size) (o:=.own (s.heap.objs.size+1)) (h':=s.heap.push PySem.W.emptyDict) (t':=s.toks) (fun b u q=>vN _ q) (vB _) ⟨_,c⟩;refine f.laid (a:=s.heap.objs.size+1) (o:=.ins C s.heap.objs.size []) (t':=s.toks) (fun b u q=>vN _ q) (Nat.le_of_eq (Heap.size_push _ _)) ?_;have d:s.heap.objs.size≠s.heap.objs.size+1:=vI (Nat.lt_succ_self _);refine⟨by rw[jg d,ji],vC _,d,g,fun _=>none,(Heap.Ns1.of_empty h).at fun o q=>vN _ q,fun _=>True.intro,fun y j=>ue rfl j⟩
theorem XN{f:Str}{pos:Pos}{s:Shared}{Q:Value->Shared->Prop}(b:attributeBase e f env (eval e env)=eval e env)
  (h:wpAny (model prog w) A (eval e env) (fun o a=>wpAny (model prog w) A (getAttr o f true) Q E a) E s):wpAny (model prog w) A (eval (.Attribute e f pos) env) Q E s:=
 Attribute_any_ h (by rw[arm_eval_Attribute,b])
end
def tFld(K:Frg)(ta:TE)(f:Str):TE:=fun σ H Q=>ta σ H fun x H1=>∃a C dx fs v,x = .ref a/\H1 a=some (.ins C dx fs)/\Cls K C/\NoAttr K C f/\fs.lookup f=some v/\Q v H1
def sFld(K:Frg)(ta tv:TE)(f:Str):TS:=fun D σ H=>tv σ H fun y H1=>ta σ H1 fun x H2=>∃a C dx fs,x = .ref a/\H2 a=some (.ins C dx fs)/\Cls K C/\NoAttr K C f/\fs.length<1000/\
 D.nx σ (upd H2 a (.ins C dx (putF f y fs)))
section
variable{X:Cx}{o e value:Expr}{f:Str}{pos pos' tpos:Pos}{ta tv:TE}
theorem Yt(o:PE X e ta)(m:attributeBase e f X.env (eval e X.env)=eval e X.env):PE X (.Attribute e f pos) (tFld X.K ta f):=by
 intro b s t H Q I h;refine XN m (thn (o b s t H _ I h) fun u z ⟨x,d,g,r,a,C,w,y,v,k,j,c,n,l,q⟩=>?_);subst k;obtain rfl:u=Value.ref a:=r;exact xR g j c n l fun B A i p=>⟨v,d,i,p,q⟩
theorem j3W(p:PE X o ta)(t:PE X value tv)(r:swapsWith value (some (.Attribute o f pos')) pos.line X.env=pure false):PS X (.Assign [.Attribute o f pos'] value pos) (sFld X.K ta tv f):=by
 intro b s d H D I h;refine plainObj_wpAny_Assign_Attribute (thn (t b s d H _ I h) fun u B ⟨y,e,g,A,q⟩=>thn (p b B d e _ g q) fun v J ⟨x,E,i,z,a,C,F,G,m,k,c,n,l,w⟩=>?_) r;subst m;obtain rfl:v=Value.ref a:=z;exact Xz i k c n l A fun K j=>⟨d,_,j,w⟩
end
section
variable{X:Cx}{pins:List (Addr×Obj)}{σ:St}{H:Hp}{s:Shared}{A:Around}{E:Value->Shared->Prop}{Q:Value->Shared->Prop}{c:Value}{b:Bool}
inductive TyOf(K:Frg)(H:Hp):V->Value->Prop where
 | non:TyOf K H .non (.type "NoneType")
 | bl (x:Bool):TyOf K H (.bl x) (.type "bool")
 | int (i:Int):TyOf K H (.int i) (.type "int")
 | str (x:Str):TyOf K H (.str x) (.type "str")
 | flt (x:UInt64):TyOf K H (.flt x) (.type "float")
 | lst {a:Addr} {xs:List V} (e:H a=some (.lst xs)):TyOf K H (.ref a) (.type "list")
 | frz {a:Addr} {o:Obj} {xs:List V} (e:H a=some (.frz o (.lst xs))):TyOf K H (.ref a) (.type "list")
 | tup {a:Addr} {xs:List V} (e:H a=some (.tup xs)):TyOf K H (.ref a) (.type "tuple")
 | dK {a:Addr} {kvs:List (Key×V)} (e:H a=some (.dK kvs)):TyOf K H (.ref a) (.type "dict")
 | dT {a:Addr} {kvs:List (List Key×V)} (e:H a=some (.dT kvs)):TyOf K H (.ref a) (.type "dict")
 | ins {a C dx:Addr} {fs:List (Str×V)} (e:H a=some (.ins C dx fs)) (cl:Cls K C) (ha:PySem.W.findIn K (.ref C) "__class__"= some (some (.builtin "object.__class__")))
   (hn:PySem.W.specialIn K (.builtin "object.__class__") "__get__"= some (some (.builtin "getset_descriptor.__get__"))) (htk:PySem.W.takesIn K (.builtin "object.__class__")=some true)
   (hm:PySem.W.mroIn K C (.type "object")=some true):TyOf K H (.ref a) (.ref C)
theorem j0y(I:Inv X pins σ H s)(d:RelV x u)(m:TyOf X.K H x t)(e:PySem.W.kitOne X.K t c=some b)(h:∀tk,Q (.bool b) {s with toks:=tk}) :
  wpAny (model X.prog X.w) A (call (.builtin "isinstance") [u,c]) Q E s:=by
 cases m with
 | non=>cases(show u=Value.none from d);exact PySem.W.kia_one PySem.W.kitx_none I.kIn True.intro e (fun z=>nomatch z) h
 | bl y=>cases(show u=Value.bool y from d);exact PySem.W.kia_one PySem.W.kitx_bool I.kIn True.intro e (fun z=>nomatch z) h
 | int i=>obtain⟨t,q⟩:=(show∃t,u=Value.int i t from d);cases q;exact PySem.W.kia_one PySem.W.kitx_int I.kIn True.intro e (fun z=>nomatch z) h
 | str y=>obtain⟨t,q⟩:=(show∃t,u=Value.str y t from d);cases q;exact PySem.W.kia_one PySem.W.kitx_str I.kIn True.intro e (fun z=>nomatch z) h
 | flt y=>obtain⟨t,q⟩:=(show∃t,u=Value.float y t from d);cases q;exact PySem.W.kia_one PySem.W.kitx_float I.kIn True.intro e (fun z=>nomatch z) h
 | @lst a g ea=>
  cases(show u=Value.ref a from d);obtain⟨_,_,n,_,f⟩:=(show ObjOk X.prog X.w H s.heap a (.lst g)from I.hok a _ ea)
  exact PySem.W.kia_one PySem.W.kitx_list I.kIn ⟨_,f,rfl⟩ e (fun z=>nomatch z) h
 | @frz a ob g ea=>
  cases(show u=Value.ref a from d);obtain⟨_,_,_,n,_,f⟩:=(show ObjOk X.prog X.w H s.heap a (.frz ob (.lst g))from I.hok a _ ea)
  exact PySem.W.kia_one PySem.W.kitx_list I.kIn ⟨_,f,rfl⟩ e (fun z=>nomatch z) h
 | @tup a g ea=>
  cases(show u=Value.ref a from d);obtain⟨_,_,_,p⟩:=(show ObjOk X.prog X.w H s.heap a (.tup g)from I.hok a _ ea)
  obtain⟨o,f,j,_⟩:=p;exact PySem.W.kia_one PySem.W.kitx_tuple I.kIn ⟨o,f,j⟩ e (fun z=>nomatch z) h
 | @dK a kvs ea=>
  cases(show u=Value.ref a from d);obtain⟨_,_,w,_,p⟩:=(show ObjOk X.prog X.w H s.heap a (.dK kvs)from I.hok a _ ea)
  obtain⟨o,l,k,f,j,_⟩:=p;exact PySem.W.kia_one PySem.W.kitx_dict I.kIn ⟨o,f,j.1⟩ e (fun z=>nomatch z) h
 | @dT a kvs ea=>
  cases(show u=Value.ref a from d);obtain⟨_,_,g,_,o,l,k,f,j,_⟩:=(show ObjOk X.prog X.w H s.heap a (.dT kvs)from I.hok a _ ea)
  exact PySem.W.kia_one PySem.W.kitx_dict I.kIn ⟨o,f,j.1⟩ e (fun z=>nomatch z) h
 | @ins a C dx fs ea cl ha hn htk hm=>
  cases(show u=Value.ref a from d);obtain⟨r,O,_⟩:=Y4 I.hok ea;obtain⟨v,J,_⟩:=O.look;exact PySem.W.kia_one (PySem.W.kitx_own (cl.get _) cl.hd ha hn htk hm) I.kIn J e (fun z=>nomatch z) h
end
structure Room(k:Nat)(A:Around):Prop where
 hd:A.handled=none
 dp:A.depth+3*k+5<recursionLimit
 un:A.units+16*k+200<cLine
theorem Room.mono(r:Room k A)(h:j<=k):Room j A:=⟨r.hd,by have:=r.dp;lia,by have:=r.un;lia⟩
theorem Room.deeper(r:Room (k+1) A)(env:Env):Room k (A.deeper env):=
 ⟨r.hd,by have:=r.dp;show A.depth+1+3*k+5<_;lia,by have:=r.un;show A.units+3+16*k+200<_;lia⟩
theorem Xa{A:Around}{C:Addr}{us:List Value}{a:List (Str×Value)}:(A.under (.builtin "type.__call__" ⟨.ref C::us,a⟩)).depth=A.depth+1:=by
 first | rfl | simp[Around.under,Code.weight,Code.isCreation,Code.isGuard,Code.isCaller,Code.frames,Code.isFrame,guardIds]
theorem Xb{A:Around}{C:Addr}{us:List Value}{a:List (Str×Value)}:(A.under (.builtin "type.__call__" ⟨.ref C::us,a⟩)).units=A.units+1:=by
 first | rfl | simp[Around.under,Code.cUnits,Code.frames,Code.isFrame]
theorem Room.make(r:Room (k+1) A)(C:Addr)(us:List Value)(a:List (Str×Value)):Room k (A.under (.builtin "type.__call__" ⟨.ref C::us,a⟩)):=
 ⟨r.hd,by have:=r.dp;rw[Xa];lia,by have:=r.un;rw[Xb];lia⟩
theorem Room.depth(r:Room k A):A.depth<recursionLimit:=by have:=r.dp;lia
theorem Room.units(r:Room k A):A.units+64<cLine:=by have:=r.un;lia
def tNil:TA:=fun _ H Q=>Q [] H
def tCons(ta:TE)(tr:TA):TA:=fun σ H Q=>ta σ H fun x H1=>tr σ H1 fun xs H2=>Q (x::xs) H2
section
variable{X:Cx}{e:Expr}{es:List Expr}{te:TE}{t:TA}{pos:Pos}
theorem jb:PA X [] tNil:=fun _ _ _ _ H Q I h=>Calls.spliced_nil ⟨[],H,I,.nil,h⟩
theorem ja(i:PE X e te)(j:PA X es t)(k:starEach (e::es) X.env=(false,eval e X.env)::starEach es X.env:=by rfl):PA X (e::es) (tCons te t):=by
 intro pos a s b H Q I h;rw[k];show wpAny _ _ (spliced ((false,eval e X.env)::backTo pos (starEach es X.env))) _ _ s;refine Calls.spliced_cons (thn (i a s b H _ I h) fun u p ⟨x,c,f,n,l⟩=>?_);exact thn (j pos a p b c _ f l) fun v r ⟨q,d,g,o,m⟩=>⟨x::q,d,g,.cons n o,m⟩
def tTup(t:TA):TE:=fun σ H Q=>t σ H fun xs H1=>xs.length<=sizeLine/\∀p,H1 p=none->Q (.ref p) (upd H1 p (.tup xs))
def tLst(t:TA):TE:=fun σ H Q=>t σ H fun xs H1=>xs.length<=sizeLine/\∀p,H1 p=none->Q (.ref p) (upd H1 p (.lst xs))
theorem zZ{x1}(h:PA X es t):PE X (.Tuple es x1 pos) (tTup t):=by
 intro a s l H Q I i;refine wpAny_Tuple_spliced (thn (h pos a s l H _ I i) fun j c ⟨k,d,f,r,z,q⟩=>⟨by rw[<-r.length];exact z,?_⟩);have g:d c.heap.objs.size=none:=f.hok.fresh (vB _);refine⟨.ref c.heap.objs.size,upd d c.heap.objs.size (.tup k),f.laid (t':=c.toks) (fun b u e=>vN _ e) (vB _) ?_,rfl,q _ g⟩;exact⟨z,j,r,⟨_,Heap.get?_push_size _ rfl,rfl,_,rfl⟩⟩
theorem J3(h:PA X es t):PE X (.List es pos) (tLst t):=by
 intro a s l H Q I i;refine wpAny_List_spliced (thn (h pos a s l H _ I i) fun j c ⟨k,d,f,r,z,q⟩=>⟨by rw[<-r.length];exact z,?_⟩);have g:d c.heap.objs.size=none:=f.hok.fresh (vB _);refine⟨.ref c.heap.objs.size,upd d c.heap.objs.size (.lst k),f.laid (t':=c.toks) (fun b u e=>vN _ e) (vB _) ?_,rfl,q _ g⟩;exact⟨z,j,0,r,Heap.get?_push_size _ rfl⟩
end
noncomputable abbrev Sp:=List V->Hp->VK->XK->Prop
noncomputable abbrev CXT:=List Env->Hp->Shared->XK->Value->Shared->Prop
structure Env0(P:Program)(w:World)(K:Frg)(mg:Str->Option Value)(base:Heap)(A:Around)(outer:List Env)(s:Shared)(H:Hp):Prop where
 frames:A.frames=some outer
 mod:Mod K mg base
 bs:∀b o,base.get? b=some o->s.heap.get? b=some o/\H b=none
 bsz:base.objs.size<=s.heap.objs.size
 funs:s.heap.FunFrames base outer
 frf:∀b∈frs outer,H b=none
 hok:HOk P w H s.heap
 bare:AllBare s.gens
def CE(outer:List Env)(P:Program)(w:World)(H:Hp)(s:Shared)(Q:VK)(u:Value)(s':Shared):Prop:=
 ∃v H',s'.os=s.os/\AllBare s'.gens/\Un (frs outer) [] H H' s.heap s'.heap/\HOk P w H' s'.heap/\RelV v u/\Q v H'
def CR(CX:CXT)(outer:List Env)(P:Program)(w:World)(H:Hp)(s:Shared)(Q:VK)(E:XK)(r:Result)(s':Shared):Prop:=
 match r with
 | .ok (.ret u)=>CE outer P w H s Q u s'
 | .ok _=>False
 | .error e=>CX outer H s E e s'
structure FnOk(P:Program)(w:World)(K:Frg)(mg:Str->Option Value)(base:Heap)(CX:CXT)(k:Nat)(f:Addr)(fd:FuncData)(ps:List Str)(sp:Sp):Prop where
 len:∀vs H Q E,sp vs H Q E->vs.length=ps.length
 run:∀(A:Around) (outer:List Env) (s:Shared) (H:Hp) (args:Args) (us:List Value) (vs:List V) (Q:VK) (E:XK),Room k A->Env0 P w K mg base A outer s H->BindsTo s fd args (ps.zip us)->Vals vs us->sp vs H Q E->
  codeAny (model P w) A (.call (.ref f) args) (CR CX outer P w H s Q E) s
theorem FnOk.mono{P:Program}{w:World}{K:Frg}{e:Str->Option Value}{a:Heap}{CX:CXT}{j k:Nat}{f:Addr}{d:FuncData}{ps:List Str}{sp:Sp}(F:FnOk P w K e a CX j f d ps sp)(h:j<=k) :
  FnOk P w K e a CX k f d ps sp:=⟨F.len,fun A b s H c i l Q E g=>F.run A b s H c i l Q E (g.mono h)⟩
theorem Env0.make{P:Program}{w:World}{K:Frg}{c:Str->Option Value}{b:Heap}{A:Around}{a:List Env}{s:Shared}{H:Hp}(e:Env0 P w K c b A a s H)(C:Addr)(us:List Value)(d:List (Str×Value)) :
  Env0 P w K c b (A.under (.builtin "type.__call__" ⟨.ref C::us,d⟩)) a s H:=⟨by first | exact e.frames | (simpa [Around.under,Code.envs,Code.isFrame,pushEnvs]using e.frames),e.mod,e.bs,e.bsz,e.funs,e.frf,e.hok,e.bare⟩
section
variable{X:Cx}{pins:List (Addr×Obj)}{σ:St}{H:Hp}{s s':Shared}
theorem Inv.env0(I:Inv X pins σ H s):Env0 X.prog X.w X.K X.mg X.base X.A X.stack s H:=
 ⟨I.ok.frames,I.ok.mod,I.bs,vZ I.ok.bsz I.sz,I.stack,I.stkFree,I.hok,I.bare⟩
theorem Inv.after(I:Inv X pins σ H s)(h:CE X.stack X.prog X.w H s Q u s'):EP X pins σ Q u s':=by
 obtain⟨v,f,j,a,k,c,r,q⟩:=h;obtain⟨i,g,d,t,e⟩:=s';obtain rfl:e=s.os:=j;exact⟨v,f,I.call (h':=i) (g':=g) (d':=d) (t':=t) (ch:=[]) k c a (fun b z=>ue z (by simp)),r,q⟩
end
def tCall(sp:Sp)(dvs:List V)(E:XK)(t:TA):TE:=fun σ H Q=>t σ H fun vs H1=>sp (vs++dvs) H1 Q E
def tMeth(C:Addr)(m:Str)(sp:Sp)(dvs:List V)(E:XK)(ta:TE)(t:TA):TE:=fun σ H Q=>ta σ H fun x H1=>∃a dx fs,x = .ref a/\H1 a=some (.ins C dx fs)/\fs.lookup m=none/\
 t σ H1 fun vs H2=>sp (x::(vs++dvs)) H2 Q E
def tMake(C:Addr)(sp:Sp)(dvs:List V)(E:XK)(t:TA):TE:=fun σ H Q=>t σ H fun vs H1=>∀x dx,H1 x=none->H1 dx=none->dx≠x->
 sp (.ref x::(vs++dvs)) (upd (upd H1 dx (.own x)) x (.ins C dx [])) (fun v H2=>v = .non/\Q (.ref x) H2) E
def Binds(K:Frg)(fd:FuncData)(ps:List Str)(ds:List Value):Prop:=
 ∀(s:Shared) (us:List Value),K.In s.heap->(us++ds).length=ps.length->BindsTo s fd ⟨us,[]⟩ (ps.zip (us++ds))
theorem Binds.all{K:Frg}{a:FuncData}{ps:List Str}(h:∀us:List Value,us.length=ps.length->bindArgs a ⟨us,[]⟩=pure (ps.zip us)):Binds K a ps []:=fun s us _ b=>by
 rw[append_nil]at b|-;exact .of_eq (h us b)
def Passes(CX:CXT)(X:Cx)(E:XK):Prop:=∀(pins:List (Addr×Obj)) (σ:St) (H:Hp) (s:Shared) (e:Value) (s':Shared),Inv X pins σ H s->CX X.stack H s E e s'->X.xe e s'
section
variable{X:Cx}{CX:CXT}{k:Nat}{f C:Addr}{fd:FuncData}{ps:List Str}{sp:Sp}{dvs:List V}{ds:List Value}{E:XK}{x m:Str}{p pos apos:Pos}{e o:Expr}{es:List Expr}{ta:TE}{t:TA}
theorem Xu{b:St}{H:Hp}(F:FnOk X.prog X.w X.K X.mg X.base CX k f fd ps sp)(j:Room k X.A)(d:Binds X.K fd ps ds)(g:Vals dvs ds)(l:Passes CX X E)
  (I:Inv X pins b H s) (r:Vals vs us) (h:sp (vs++dvs) H Q E):wpAny (model X.prog X.w) X.A (call (.ref f) us) (EP X pins b Q) X.xe s:=by
 have c:Vals (vs++dvs) (us++ds):=r.append g;have i:(us++ds).length=ps.length:=by rw[<-c.length];exact F.len _ _ _ _ h
 refine wpAny_call (codeAny_mono (F.run X.A X.stack s H ⟨us,[]⟩ (us++ds) (vs++dvs) Q E j I.env0 (d s us I.kIn i) c h) fun r m a=>?_);cases r with
 | error e=>exact l pins b H s e m I a
 | ok fl=>
  cases fl with
  | ret u=>exact I.after a
  | next=>exact False.elim a
  | brk=>exact False.elim a
  | cont=>exact False.elim a
theorem wP(F:FnOk X.prog X.w X.K X.mg X.base CX k f fd ps sp)(u:Room k X.A)(m:Gl X x)(o:X.mg x=some (.ref f))(n:PySem.W.keepIn X.K (.ref f)=true)(i:Binds X.K fd ps ds)(j:Vals dvs ds)(v:Passes CX X E)
  (g:PA X (e::es) t) (b:(x==("__debug__" : Str))=false:=by decide) (l:starEach (e::es) X.env=(false,eval e X.env)::starEach es X.env:=by rfl) (c:(backTo pos (starEach es X.env)).any (·.1)=false:=by rfl) :
  PE X (.Call (.Name x p) (e::es) [] pos) (tCall sp dvs E t):=by
 intro a s w H Q I h;refine wpAny_Call_Name_kw (zq I m o ?_ b);refine PySem.W.callWith_K (h₀:=X.base) I.ok.mod.kin n (thn (g pos a s w H _ I h) fun B z ⟨C,y,d,r,q⟩=>⟨d.kIn,?_⟩) l c;exact Xu F u i j v d r q
theorem wQ(J:PE X o ta)(c:Cls X.K C)(n:Meth X.K C m f)(F:FnOk X.prog X.w X.K X.mg X.base CX k f fd ps sp)(K:Room k X.A)(D:Binds X.K fd ps ds)(G:Vals dvs ds)(M:Passes CX X E)(B:PA X (e::es) t)
  (g:starEach (e::es) X.env=(false,eval e X.env)::starEach es X.env:=by rfl) (d:(backTo pos (starEach es X.env)).any (·.1)=false:=by rfl)
  (L:eval (.Call (.Attribute o m apos) (e::es) [] pos) X.env=(do
   let p <-eval o X.env
   standAt apos.atName
   let (f,first) <-holding [p] (getMethod p m pl)
   callWith pos f first (backTo pos (starEach (e::es) X.env)) (backToKw pos (keywordEach [] X.env))):=by rfl) :
  PE X (.Call (.Attribute o m apos) (e::es) [] pos) (tMeth C m sp dvs E ta t):=by
 intro b s v H Q I h;refine PySem.W.methodCall_KW (pl:=pl) (thn (J b s v H _ I h) fun u P ⟨x,w,i,O,a,S,T,z,y,l,q⟩=>?_) L;subst z;obtain rfl:u=Value.ref a:=O;refine kJ i y c n l ?_;refine PySem.W.callWith_K (first:=[.ref a]) (h₀:=X.base) I.ok.mod.kin n.kp (thn (B pos b P v w _ i q) fun us U ⟨vs,R,j,r,N⟩=>⟨j.kIn,?_⟩) g d;exact Xu (us:=.ref a::us) (vs:=.ref a::vs) F K D G M j (.cons rfl r) N
structure Mk(K:Frg)(C f:Addr):Prop where
 makes:PySem.W.makesIn K C=true
 init:PySem.W.findIn K (.ref C) "__init__"= some (some (.ref f))
 fn:PySem.W.isFn K (.ref f)=true
 kp:PySem.W.keepIn K (.ref C)=true
theorem j24{c:St}{H:Hp}(M:Mk X.K C f)(F:FnOk X.prog X.w X.K X.mg X.base CX k f fd ps sp)(o:Room (k+1) X.A)(l:Binds X.K fd ps ds)(m:Vals dvs ds)
  (p:Passes CX X E) (I:Inv X pins c H s) (r:Vals vs us)
  (h:∀x dx,H x=none->H dx=none->dx≠x->sp (.ref x::(vs++dvs)) (upd (upd H dx (.own x)) x (.ins C dx [])) (fun v H2=>v = .non/\Q (.ref x) H2) E) :
  wpAny (model X.prog X.w) X.A (call (.ref C) us) (EP X pins c Q) X.xe s:=by
 have d:=h (s.heap.objs.size+1) s.heap.objs.size (I.hok.fresh (Nat.le_succ _)) (I.hok.fresh (vB _)) (vI (Nat.lt_succ_self _));have b:=Inv.made (C:=C) I;have g:Vals (V.ref (s.heap.objs.size+1)::(vs++dvs)) (Value.ref (s.heap.objs.size+1)::(us++ds)):=.cons rfl (r.append m);have n:(Value.ref (s.heap.objs.size+1)::us++ds).length=ps.length:=by
  have e:=g.length;rw[F.len _ _ _ _ d]at e;exact e.symm
 refine wpAny_call (j1B (f:=f) I.kIn M.makes M.init (beq_iff_eq.mp M.fn) (codeAny_mono (F.run _ X.stack _ _ ⟨Value.ref (s.heap.objs.size+1)::us,[]⟩ (Value.ref (s.heap.objs.size+1)::(us++ds)) _ _ E (o.make C us [])
  (b.env0.make C us []) (l _ (Value.ref (s.heap.objs.size+1)::us) b.kIn n) g d) fun r w a=>?_))
 cases r with
 | error e=>exact p pins c _ _ e w b a
 | ok fl=>
  cases fl with
  | ret u=>
   obtain⟨v,i,j,t,ev,q⟩:=b.after a;subst ev;exact⟨t,⟨V.ref (s.heap.objs.size+1),i,j,rfl,q⟩⟩
  | next=>exact False.elim a
  | brk=>exact False.elim a
  | cont=>exact False.elim a
theorem WT(M:Mk X.K C f)(F:FnOk X.prog X.w X.K X.mg X.base CX k f fd ps sp)(i:Room (k+1) X.A)(e:Gl X x)(g:X.mg x=some (.ref C))(c:Binds X.K fd ps ds)(d:Vals dvs ds)(j:Passes CX X E)
  (a:(x==("__debug__" : Str))=false:=by decide):PE X (.Call (.Name x p) [] [] pos) (tMake C sp dvs E tNil):=by
 intro b s l H Q I h;refine wpAny_Call_Name_kw (zq I e g ?_ a);exact PySem.W.callWith_K0 I.kIn M.kp (j24 (us:=[]) M F i c d j I .nil h)
end
section
variable{X:Cx}{CX:CXT}{k:Nat}{f C:Addr}{fd:FuncData}{ps ks:List Str}{sp:Sp}{E:XK}{x m:Str}{p pos apos kpos:Pos}{e o:Expr}{es:List Expr}{kws:List Keyword}{te ta:TE}{t tk:TA}{nm:Option Str}
variable{g:List Value->List Value->List Value}{gV:List V->List V->List V}
end
structure FnScope(N P:List Str)(sc:Scope):Prop where
 kind:sc.kind = .function
 co:sc.isCoroutine=false
 gen:sc.isGenerator=false
 nd:N.Nodup
 pre:N.take P.length=P
 par:∀x∈P,sc.names.lookup x=some .local\/sc.names.lookup x=some .cell
 nofree:∀y∈sc.names,y.2≠.free
theorem KI{b:Str->Option NameKind}:∀{a:List (Str×Value)} {m:Str->Option Value},(∀v,(x,v)∉a)->bindL b a m x=m x
 | [],_,_=>rfl
 | (n,v)::r,m,h=>by
  unfold bindL;rw[KI fun w c=>h w (vp _ c)];split
  ·have:x≠n:=by rintro rfl;exact h v vq
   simp[this]
  ·rfl
theorem KG{b:Str->Option NameKind}:∀{a:List (Str×Value)} {m:Str->Option Value},(∀v,(x,v)∉a)->bindC b a m x=m x
 | [],_,_=>rfl
 | (n,v)::r,m,h=>by
  unfold bindC;rw[KG fun w c=>h w (vp _ c)];split
  ·rfl
  ·have:x≠n:=by rintro rfl;exact h v vq
   simp[this]
theorem KH{a:Str->Option NameKind}:∀{P:List Str} {vs:List Value} {i:Nat} {m:Str->Option Value},P.Nodup->P[i]?=some x->vs[i]?=some v->a x=some .local->
  bindL a (P.zip vs) m x=some v
 | [],_,_,_,_,h,_,_=>by simp at h
 | _::_,[],_,_,_,_,h,_=>by simp at h
 | p::P,w::vs,0,m,nd,h1,h2,hk=>by
  simp at h1 h2;subst h1;subst h2;show bindL a ((p,w)::P.zip vs) m p=_;unfold bindL;rw[KI fun v b=>(nodup_cons.mp nd).1 (of_mem_zip b).1,va hk];simp
 | p::P,w::vs,i+1,m,nd,h1,h2,hk=>by
  show bindL a ((p,w)::P.zip vs) m x=_;unfold bindL;exact KH (i:=i) (nodup_cons.mp nd).2 (by simpa using h1) (by simpa using h2) hk
theorem KF{a:Str->Option NameKind}:∀{P:List Str} {vs:List Value} {i:Nat} {m:Str->Option Value},P.Nodup->P[i]?=some x->vs[i]?=some v->a x≠some .local->
  bindC a (P.zip vs) m x=some v
 | [],_,_,_,_,h,_,_=>by simp at h
 | _::_,[],_,_,_,_,h,_=>by simp at h
 | p::P,w::vs,0,m,nd,h1,h2,hk=>by
  simp at h1 h2;subst h1;subst h2;show bindC a ((p,w)::P.zip vs) m p=_;unfold bindC;rw[KG fun v b=>(nodup_cons.mp nd).1 (of_mem_zip b).1,vA hk];simp
 | p::P,w::vs,i+1,m,nd,h1,h2,hk=>by
  show bindC a ((p,w)::P.zip vs) m x=_;unfold bindC;exact KF (i:=i) (nodup_cons.mp nd).2 (by simpa using h1) (by simpa using h2) hk
noncomputable def start(N:List Str)(vs:List V):St:=vs.map some++List.replicate (N.length-vs.length) none
noncomputable def cxOf(CX:CXT)(P:Program)(w:World)(K:Frg)(mg:Str->Option Value)(base:Heap)(N:List Str)(qual:Str)(scope:Scope)(f:Addr)(cd:Value)(A:Around)(outer:List Env)(s:Shared)(H:Hp)(E:XK):Cx where
 prog:=P
 w:=w
 K:=K
 mg:=mg
 base:=base
 A:=A.deeper (envOfC qual scope s.heap.objs.size f cd)
 N:=N
 s₀:=s
 H₀:=H
 env:=envOfC qual scope s.heap.objs.size f cd
 outer:=outer
 stack:=envOfC qual scope s.heap.objs.size f cd::outer
 ex:=[]
 calm:=true
 fn:=fun _=>true
 pn:=[]
 xe:=fun e s'=>wpAny (model P w) (A.deeper (envOfC qual scope s.heap.objs.size f cd)) (leaving (envOfC qual scope s.heap.objs.size f cd) e) (fun _ s''=>CX outer H s E e s'') (fun e' s''=>CX outer H s E e' s'') s'
theorem Wk{a:Scope}{n:Nat}{x:Str}(h:a.names.lookup x=some .cell):∃c,(cellsFrom n a.names []).lookup x=some c:=by
 have q:=PySem.W.cellsFrom_some a.names n [] (.inl h);exact Option.isSome_iff_exists.mp q
theorem KO{CX:CXT}{P:Program}{w:World}{K:Frg}{J:Str->Option Value}{m:Heap}{N ps:List Str}{j:Str}{d:Scope}{f:Addr}{F:Value}{A:Around}{g:List Env}{s O:Shared}{H:Hp}{E:XK}{us:List Value}{vs:List V}
  (S:FnScope N ps d) (R:A.handled=none) (o:Env0 P w K J m A g s H) (X:vs.length=ps.length) (r:Vals vs us)
  (x:InCallC s s.heap.objs.size (bindL (envOfC j d s.heap.objs.size f F).kindOf (ps.zip us) fun _=>none) (cellsFrom (s.heap.objs.size+1) d.names []) (bindC (envOfC j d s.heap.objs.size f F).kindOf (ps.zip us) fun _=>none) O) :
  Inv (cxOf CX P w K J m N j d f F A g s H E) [] (start N vs) H O:=by
 have T:ps.length<=N.length:=by have:=congrArg List.length S.pre;rw[vh]at this;lia
 obtain⟨G,Y,rfl,L⟩:=x.done;have B:∀b:Addr,b∉(cxOf CX P w K J m N j d f F A g s H E).ex:=fun b z=>ue (show b∈([]:List Addr)from z) (by simp)
 refine⟨⟨o.mod,S.kind,rfl,rfl,vB _,fun y z c G l=>?_,fun y t=>?_,fun y c _ h=>?_,fun _=>R,Around.frames_deeper o.frames,.inr ⟨rfl,rfl⟩,fun b z=>ue z (B b),o.bs,o.bsz,fun b _ _=>B b,fun b z=>ue z (B b),o.funs,o.frf⟩,
  rfl,o.bare,Un.kept L,⟨_,x.toInCall.ns,fun i y v G l W=>?_⟩,fun y c h=>⟨_,x.cell y c h⟩,o.hok.fresh (vB _),fun y c h=>?_,fun p C=>ue (show p∈([]:List (Addr×Obj))from C) (by simp),o.hok.kept L,?_⟩
 ·exact name_of_addr x.apart (PySem.mem_of_lookup G) (PySem.mem_of_lookup l)
 ·have t:d.names.lookup y=some .cell\/d.names.lookup y=some .free:=t;rcases t with t | t
  ·exact Wk t
  ·exact ue rfl (S.nofree _ (PySem.mem_of_lookup t))
 ·exact v3 (x.above y c (PySem.mem_of_lookup h))
 ·have I:i<vs.length:=by
   unfold start at l;by_cases I:i<vs.length
   ·exact I
   ·rw[vG (by simpa using I)]at l;rw[List.getElem?_replicate]at l;split at l<;>cases l
  have Q:vs[i]?=some v:=by
   unfold start at l;rw[vF (by simpa using I),vv]at l;cases e:vs[i]? with
   | none=>rw[e]at l;cases l
   | some a=>rw[e]at l;cases l;rfl
  obtain⟨u,M,U⟩:=r.get Q;have C:ps[i]?=some y:=by
   rw[<-S.pre,List.getElem?_take_of_lt (by lia)];exact G
  have D:ps.Nodup:=by rw[<-S.pre];exact S.nd.sublist (List.take_sublist _ _)
  refine⟨u,U,?_⟩;rcases S.par y (vj C)with k | k
  ·exact .inl ⟨k,KH D C M k⟩
  ·obtain⟨c,e⟩:=Wk (n:=s.heap.objs.size+1) k;refine .inr ⟨.inl k,c,e,?_⟩;have q:=x.cell y c e;rw[KF D C M (by show d.names.lookup y≠_;rw[k];decide)]at q;exact q
 ·exact o.hok.fresh (v3 (x.above y c (PySem.mem_of_lookup h)))
 ·unfold start;show _=N.length;rw[vm,vt,List.length_replicate];lia
theorem j3f{CX:CXT}{P:Program}{w:World}{K:Frg}{L:Str->Option Value}{g:Heap}{k:Nat}{f:Addr}{name c:Str}{i:Arguments}{j:List Stmt}{a:Scope}{dV kV B pm d ct oc:Value}{Y od:Option Addr}
  {T:Array (Option Value)} {N ps:List Str} {sp:Sp} (lk:K.lookup f=some ⟨oc,od,.func (PySem.W.fnOf name c i j a dV kV B pm Y d ct),T⟩) (M:PySem.W.codeIn K d c=true) (S:FnScope N ps a)
  (G:∀vs H Q E,sp vs H Q E->vs.length=ps.length)
  (m:∀(A:Around) (outer:List Env) (s:Shared) (H:Hp) (vs:List V) (Q:VK) (E:XK),Room k (A.deeper (envOfC c a s.heap.objs.size f d))->sp vs H Q E->
   ∃t,PSs (cxOf CX P w K L g N c a f d A outer s H E) j t/\t {nx:=fun _ H'=>Q .non H',rt:=Q} (start N vs) H) :
  FnOk P w K L g CX (k+1) f (PySem.W.fnOf name c i j a dV kV B pm Y d ct) ps sp:=by
 refine⟨G,fun A outer s H Z us vs Q E O C hb r F=>?_⟩;have hl:=G _ _ _ _ F;have X:K.In s.heap:=C.mod.kin.keeps fun b o e=>(C.bs b o e).1
 have R:s.heap.NoLimit:=C.mod.nolimit.keeps fun b o e=>(C.bs b o e).1
 have p:∀y∈ps.zip us,a.names.lookup y.1=some .local\/(a.names.lookup y.1=some .cell/\((cellsFrom (s.heap.objs.size+1) a.names []).lookup y.1).isSome=true):=fun⟨n,v⟩ hy=>by
  rcases S.par n (of_mem_zip hy).1 with q | q
  ·exact .inl q
  ·exact .inr ⟨q,PySem.W.cellsFrom_some _ _ _ (.inl q)⟩
 refine codeAny_call_function O.depth (X _ _ lk) rfl S.co S.gen rfl (PySem.W.codeRec_of X M) (hb _ _ _ _ ?_);refine wpAny_newFunctionEnv_cells S.kind p fun a0 he s1 x=>?_
 subst he;refine⟨R.keeps x.toInCall.keep,codeAny_func ?_⟩;obtain⟨t,ht,hq⟩:=m A outer s H vs Q E (O.deeper _) F;have I:Inv (cxOf CX P w K L g N c a f d A outer s H E) [] (start N vs) H s1:=KO S O.hd C hl r x;refine wpAny_mono (ht [] s1 (start N vs) H _ I hq) (fun fl W z=>?_) fun e W z=>z
 have D:∀{l:St} {H':Hp} {v:V} {u:Value},Inv (cxOf CX P w K L g N c a f d A outer s H E) [] l H' W->RelV v u->Q v H'->CE outer P w H s Q u W:=
  fun {l H' v u} J U q=>⟨v,H',J.os,J.bare,J.base,J.hok,U,q⟩
 cases fl with
 | ret u=>
  obtain⟨v,l,H',J,U,q⟩:=z;exact D J U q
 | next=>
  obtain⟨l,H',J,q⟩:=z;exact D (v:=V.non) (u:=Value.none) J rfl q
 | brk=>
  obtain⟨_,_,_,q⟩:=z;exact False.elim q
 | cont=>
  obtain⟨_,_,_,q⟩:=z;exact False.elim q
section
variable{X:Cx}{x:Str}{p pos:Pos}{e:Expr}{es:List Expr}{t:TA}{id T:String}{r:List V->Hp->VK->Prop}
def tCB(r:List V->Hp->VK->Prop)(t:TA):TE:=fun σ H Q=>t σ H fun vs H1=>r vs H1 Q
theorem jv(j:CallR X (.builtin id) r)(l:Gl X x)(m:X.mg x=none)(o:bootBuiltins x=some (.builtin id))(i:PA X (e::es) t)(n:x≠"__name__":=by decide)(b:(x==("__debug__" : Str))=false:=by decide)
  (k:starEach (e::es) X.env=(false,eval e X.env)::starEach es X.env:=by rfl) (c:(backTo pos (starEach es X.env)).any (·.1)=false:=by rfl):PE X (.Call (.Name x p) (e::es) [] pos) (tCB r t):=by
 intro a s d H Q I h;refine wpAny_Call_Name_kw (Qa I l m o ?_ n b);exact PyProof.Rows.callWith_builtin1 (thn (i pos a s d H _ I h) fun w v ⟨y,f,g,u,q⟩=>j a v d f y w Q g u q) k c
theorem qS(j:CallR X (.type T) r)(l:Gl X x)(m:X.mg x=none)(o:bootBuiltins x=some (.type T))(i:PA X (e::es) t)(n:x≠"__name__":=by decide)(b:(x==("__debug__" : Str))=false:=by decide)
  (k:starEach (e::es) X.env=(false,eval e X.env)::starEach es X.env:=by rfl) (c:(backTo pos (starEach es X.env)).any (·.1)=false:=by rfl):PE X (.Call (.Name x p) (e::es) [] pos) (tCB r t):=by
 intro a s d H Q I h;refine wpAny_Call_Name_kw (Qa I l m o ?_ n b);exact PyProof.Rows.callWith_type1 (thn (i pos a s d H _ I h) fun w v ⟨y,f,g,u,q⟩=>j a v d f y w Q g u q) k c
end
end L2
namespace HT
open PySem PyProof.Rows
section
open PySem.SeqAt
open PySem.AutoSeq1 (wpAny_loadPart')
open PySem.MeetsSeq PySem.MeetsSeq2 PySem.MeetsSeq3
end
section
variable{prog:Program}{w:World}{A:Around}{E:Value->Shared->Prop}{s:Shared}
theorem j2u{t b:Addr}{vs ws:List Value}{Q:Value->Shared->Prop}(y:IsTup s.heap t vs.toArray)(x:IsTup s.heap b ws.toArray)(p:vs≠[])
  (u:ws=[]->Q (.ref t) s) (v:ws≠[]->Q (.ref s.heap.objs.size) {s with heap:=s.heap.push {cls:=.type "tuple",data:=.seq (vs++ws).toArray}})
  (hsz:vs.length+ws.length<=sizeLine):wpAny (model prog w) A (binaryOp .Add (.ref t) (.ref b)) Q E s:=by
 obtain⟨⟨cls,l,data,r⟩,h,m,n,o⟩:=id y;obtain⟨⟨k,c,j,g⟩,a,d,q,f⟩:=id x;simp only at m o d f;subst m o d f;have e:vs.toArray++ws.toArray=(vs++ws).toArray:=by simp
 by_cases i:ws=[]
 ·exact concat_meets ⟨_,h,rfl⟩ ⟨_,a,rfl⟩ noFill_tuple_add seq_tuple_add PySem.F.slot_tuple_add PySem.F.entry_tuple_add (PySem.F.args_tuple_add_2 _ _)
   (tuple_addW1 t b vs.toArray ws.toArray n q l c r g (by simpa using p) (by simp[i])) ⟨h,a,u i⟩
 ·refine concat_meets ⟨_,h,rfl⟩ ⟨_,a,rfl⟩ noFill_tuple_add seq_tuple_add PySem.F.slot_tuple_add PySem.F.entry_tuple_add (PySem.F.args_tuple_add_2 _ _)
   (tuple_addW2 t b vs.toArray ws.toArray n q l c r g (by simpa using p) (by simpa using i) (by rw[size_toArray,size_toArray];exact hsz)) ⟨h,a,?_⟩
  rw[e];exact v i
noncomputable def sIx(n d:Nat):Option Int->Nat
 | none=>d
 | some v=>if v<0 then(v+(n:Int)).toNat else min v.toNat n
theorem j34(n d k:Nat):sIx n d (some (k:Int))=min k n:=by
 show(if(k:Int)<0 then((k:Int)+(n:Int)).toNat else min (k:Int).toNat n)=min k n;rw[vA (by lia),Int.toNat_natCast]
theorem j42(n d:Nat)(b:d<=n)(o:Option Int):sIx n d o<=n:=by
 cases o with
 | none=>exact b
 | some v=>
  show(if v<0 then(v+(n:Int)).toNat else min v.toNat n)<=n;by_cases a:v<0
  ·rw[va a];lia
  ·rw[vA a];exact Nat.min_le_right _ _
theorem XT(v:Int)(n d:Nat):(if v<0 then max (v+(n:Int)) 0 else min v (n:Int))=((sIx n d (some v):Nat):Int):=by
 show(if v<0 then max (v+(n:Int)) 0 else min v (n:Int))=(((if v<0 then(v+(n:Int)).toNat else min v.toNat n):Nat):Int)
 by_cases a:v<0
 ·simp only[if_pos a];lia
 ·simp only[if_neg a];lia
theorem xw(lo hi:Option Int)(n:Nat):Builtin.Slice.sliceAdjust lo hi 1 (n:Int)=(((sIx n 0 lo:Nat):Int),((sIx n n hi:Nat):Int)):=by
 have a:¬((1:Int)<0):=by lia
 unfold Builtin.Slice.sliceAdjust;simp only[a,if_false];refine Prod.ext ?_ ?_
 ·cases lo with
  | none=>rfl
  | some v=>exact XT v n 0
 ·cases hi with
  | none=>rfl
  | some v=>exact XT v n n
theorem Xs(i j:Nat):Builtin.Slice.slicePlaces (i:Int) (j:Int) 1=j-i:=by
 unfold Builtin.Slice.slicePlaces;have a:(1:Int)>0:=by lia
 simp only[a,if_true,Int.ediv_one];split<;>lia
theorem slicePart_{Q:Option Int->Shared->Prop}(p:IsPart v o)(h:Q o s):wpAny (model prog w) A (Builtin.Slice.slicePartIndex v) Q E s:=by
 cases p with
 | none=>exact slicePart_none h
 | int i t=>exact slicePart_int h
theorem YE{e:Addr}{c d:Value}{lo hi:Option Int}{n:Nat}{Q:Int×Int×Nat->Shared->Prop}(g:s.heap.IsSliceOf e c d .none)(pl:IsPart c lo)(i:IsPart d hi)
  (h:Q (((sIx n 0 lo:Nat):Int),1,sIx n n hi-sIx n 0 lo) s):wpAny (model prog w) A (Builtin.Slice.sliceApplied (.ref e) (pure (n:Int))) Q E s:=by
 obtain⟨j,b,f,a⟩:=id g;unfold Builtin.Slice.sliceApplied Builtin.Slice.sliceFields;refine ug (ug (wpAny_field b a (x:=c) rfl (ug (wpAny_field b a (x:=d) rfl (ug (wpAny_field b a (x:=.none) rfl (uf ?_)))))));refine ug (slicePart_none ?_);show wpAny _ _ (if((1:Int)==0)=true then _ else _) _ _ s;rw[vA (by decide)];refine ug (slicePart_ pl (ug (slicePart_ i (ug (uf ?_)))));show wpAny _ _ (match Builtin.Slice.sliceAdjust lo hi 1 (n:Int)with | (lo,hi)=>pure (lo,(1:Int),Builtin.Slice.slicePlaces lo hi 1)) _ _ s;rw[xw lo hi n];show wpAny _ _ (pure (((sIx n 0 lo:Nat):Int),(1:Int),Builtin.Slice.slicePlaces ((sIx n 0 lo:Nat):Int) ((sIx n n hi:Nat):Int) 1)) _ _ s;rw[Xs];exact uf h
theorem j1V(xs:Array Value)(i k:Nat):((List.range k).filterMap fun(m:Nat)=>xs[((i:Int)+(m:Int)*1).toNat]?).toArray=((xs.toList.drop i).take k).toArray:=by
 have e:(fun(m:Nat)=>xs[((i:Int)+(m:Int)*1).toNat]?)=fun m=>xs[i+m]?:=by
  funext m;have:((i:Int)+(m:Int)*1).toNat=i+m:=by lia
  rw[this]
 rw[e];have:=pick_run xs i k;rw[List.filterMap_map]at this;have a:((fun x=>xs[x]?)∘fun x=>i+x)=fun m=>xs[i+m]?:=rfl
 rw[a]at this;rw[this]
theorem yO{t g:Addr}{items:Array Value}{j k:Value}{lo hi:Option Int}{Q:Value->Shared->Prop}(b:IsTup s.heap t items)(i:s.heap.IsSliceOf g j k .none)(pl:IsPart j lo)(o:IsPart k hi)
  (hw:¬(sIx items.size 0 lo=0/\sIx items.size items.size hi=items.size))
  (h:Q (.ref s.heap.objs.size) {s with heap:=s.heap.push {cls:=.type "tuple",data:=.seq ((items.toList.drop (sIx items.size 0 lo)).take (sIx items.size items.size hi-sIx items.size 0 lo)).toArray}})
  (hsz:items.size<=sizeLine):wpAny (model prog w) A (getItem (.ref t) (.ref g)) Q E s:=by
 have a:sizeOk (.seq ((items.toList.drop (sIx items.size 0 lo)).take (sIx items.size items.size hi-sIx items.size 0 lo)).toArray):=by
  show((items.toList.drop (sIx items.size 0 lo)).take (sIx items.size items.size hi-sIx items.size 0 lo)).toArray.size<=sizeLine;rw[size_toArray,vh,length_drop,Array.length_toList];lia
 have p:sIx items.size items.size hi<=items.size:=j42 _ _ (vB _) hi;obtain⟨n,f,d,l⟩:=id i;have c:s.TypeIs (.ref g) "slice":=⟨n,f,d⟩
 unfold getItem
 try with_reducible refine wpAny_holding ?_
 first | refine ug (uf ?_) | skip
 refine ug (wpAny_sequenceKey b.typeIs (by decide) ?_);refine ug (wpAny_callSpecial?_slot (name:=Str.ofString "__getitem__") b.typeIs PyProof.Rows.slot_tuple_getitem
  (wpAny_call_entry PyProof.Rows.slot_tuple_getitem b.typeIs entry_tuple_getitem ?_ (args_tuple_getitem _ _)))
 show wpAny _ _ (Builtin.Tuple.tupleItemsOf (.ref t) >>= _) _ _ s;refine ug (tupleItemsOf_ b ?_);refine ug (wpAny_typeOf c ?_);rw[va (by decide)];refine ug (YE i pl o ?_);have e:¬((((sIx items.size 0 lo:Nat):Int)==0&&(1:Int)==1&&(sIx items.size items.size hi-sIx items.size 0 lo)==items.size)=true):=by
  intro q;rw[Bool.and_eq_true,Bool.and_eq_true]at q;have r:((sIx items.size 0 lo:Nat):Int)=0:=eq_of_beq q.1.1;have u:sIx items.size items.size hi-sIx items.size 0 lo=items.size:=eq_of_beq q.2;exact hw ⟨by lia,by lia⟩
 show wpAny _ _ (if(((sIx items.size 0 lo:Nat):Int)==0&&(1:Int)==1&&(sIx items.size items.size hi-sIx items.size 0 lo)==items.size)=true then _ else _) _ _ s;rw[vA e,j1V]
 first
  | exact ug (m:=Builtin.Tuple.tupleExact _) (wpAny_newObj_type (uf ⟨_,rfl,uf h⟩) a)
  | exact ug (m:=Builtin.Tuple.tupleExact _) (wpAny_newObj_type (ug (uf (uf ⟨_,rfl,uf h⟩))) a)
  | exact ug (ug (m:=Builtin.Tuple.tupleExact _) (wpAny_newObj_type (uf (uf ⟨_,rfl,uf h⟩)) a))
  | exact ug (ug (m:=Builtin.Tuple.tupleExact _) (wpAny_newObj_type (uf ⟨_,rfl,uf h⟩) a))
end
end HT
namespace L2
open PySem PySem.Spec PyProof.Rows
noncomputable abbrev TO:=St->Hp->(Option Int->Hp->Prop)->Prop
def PO(X:Cx)(e:Option Expr)(t:TO):Prop:=
 ∀(pins:List (Addr×Obj)) (s:Shared) (σ:St) (H:Hp) (Q:Option Int->Hp->Prop),Inv X pins σ H s->t σ H Q->
  wpAny (model X.prog X.w) X.A (evalPart e X.env) (fun u s'=>∃o H',Inv X pins σ H' s'/\IsPart u o/\Q o H') X.xe s
def tNoPart:TO:=fun _ H Q=>Q none H
def tPart(t:TE):TO:=fun σ H Q=>t σ H fun x H1=>∃i,x = .int i/\Q (some i) H1
theorem intsAre_of:∀{us:List Value},Vals (ns.map V.int) us->IntsAre us ns:=by
 induction ns with
 | nil=>intro us r;rw[map_nil]at r;cases r;exact .nil
 | cons n ns ih=>
  intro us r;rw[uy]at r;cases r with
  | cons r1 r2=>
   obtain⟨t,e⟩:=r1;subst e;exact .cons n t (ih r2)
section
variable{X:Cx}{e:Expr}{te:TE}{lo hi:Option Expr}{tl th:TO}{pos p2:Pos}
theorem Za:PO X none tNoPart:=by
 intro a s b H Q I h;rw[evalPart_none];exact uf ⟨none,H,I,.none,h⟩
theorem Qf(h:PE X e te):PO X (some e) (tPart te):=by
 intro a s j H Q I d;rw[evalPart_some];refine thn (h a s j H _ I d) fun u k ⟨x,b,c,g,f⟩=>?_
 obtain⟨i,rfl,q⟩:=f;obtain⟨t,rfl⟩:=g;exact⟨some i,b,c,.int i t,q⟩
def SlR(X:Cx)(r:V->Option Int->Option Int->Hp->VK->Prop):Prop:=
 ∀(pins:List (Addr×Obj)) (s:Shared) (σ:St) (H:Hp) (x:V) (v vl vu:Value) (lo hi:Option Int) (sl:Addr) (Q:VK),Inv X pins σ H s->RelV x v->s.heap.IsSliceOf sl vl vu .none->IsPart vl lo->IsPart vu hi->r x lo hi H Q->
  ∃T id,typeLookup (.type T) "__getitem__"= pure (some (.builtin id))/\s.TypeIs v T/\wpAny (model X.prog X.w) X.A (getItem v (.ref sl)) (EP X pins σ Q) X.xe s
def tSl(r:V->Option Int->Option Int->Hp->VK->Prop)(te:TE)(tl th:TO):TE:=fun σ H Q=>te σ H fun x H1=>tl σ H1 fun l H2=>th σ H2 fun u H3=>r x l u H3 Q
theorem zf{r:V->Option Int->Option Int->Hp->VK->Prop}(A:SlR X r)(w:PE X e te)(z:PO X lo tl)(C:PO X hi th):PE X (.Subscript e (.Slice lo hi none p2) pos) (tSl r te tl th):=by
 intro a s d H Q I h;refine Subscript_ (thn (w a s d H _ I h) fun v L ⟨x,j,m,K,F⟩=>?_);refine wpAny_Slice (thn (z a L d j _ m F) fun f M ⟨l,k,n,D,G⟩=>thn (C a M d k _ n G) fun g c ⟨u,i,o,E,J⟩=>?_);rw[evalPart_none];refine uf ?_;have p:Inv X a d i {c with heap:=c.heap.push {cls:=.type "slice",data:=.fields #[f,g,.none]}}:=o.kept (t':=c.toks) fun b O q=>vN _ q
 obtain⟨T,N,t,B,y⟩:=A a {c with heap:=c.heap.push {cls:=.type "slice",data:=.fields #[f,g,.none]}} d i x v f g l u c.heap.objs.size Q p K (Heap.IsSliceOf.new ..) D E J;show wpAny (model X.prog X.w) X.A (subscriptTail e (.Slice lo hi none p2) v (.ref c.heap.objs.size)) (EP X a d Q) X.xe {c with heap:=c.heap.push {cls:=.type "slice",data:=.fields #[f,g,.none]}};exact tail_any (ops:=[.ref c.heap.objs.size,v]) B t y (by with_unfolding_all rfl)
noncomputable def cutV(xs:List V)(lo hi:Option Int):List V:=(xs.drop (HT.sIx xs.length 0 lo)).take (HT.sIx xs.length xs.length hi-HT.sIx xs.length 0 lo)
theorem Zq(xs:List V)(lo hi:Option Int):(cutV xs lo hi).length<=xs.length:=by
 unfold cutV;rw[vh,length_drop];lia
noncomputable def rSlT(K:Frg):V->Option Int->Option Int->Hp->VK->Prop:=fun x lo hi H Q=>∃a xs,x = .ref a/\SqT K H a xs/\
 ¬(HT.sIx xs.length 0 lo=0/\HT.sIx xs.length xs.length hi=xs.length)/\∀p,H p=none->Q (.ref p) (upd H p (.tup (cutV xs lo hi)))
theorem j43:SlR X (rSlT X.K):=by
 intro k s B H x v z A e f y Q I u l p t h;obtain⟨a,d,rfl,n,m,q⟩:=h;cases u;obtain⟨g,r,i,j⟩:=I.tuple n;have c:g.toArray.size=d.length:=by rw[size_toArray];exact r.length.symm
 refine⟨"tuple",_,PyProof.Rows.slot_tuple_getitem.lookup,i.typeIs,?_⟩;refine HT.yO i l p t (by rw[c];exact m) ?_ (by rw[c];exact j);rw[c];refine⟨.ref s.heap.objs.size,_,I.laid (t':=s.toks) (o:=.tup (cutV d e f)) (fun b w q=>vN _ q) (vB _) ?_,rfl,q _ (I.hok.fresh (vB _))⟩;exact⟨vZ (Zq d e f) j,_,(r.drop (HT.sIx d.length 0 e)).take (HT.sIx d.length d.length f-HT.sIx d.length 0 e),IsTup.new _ _⟩
def rCatT(K:Frg):R2:=fun x y H Q=>∃a b xs ys,x = .ref a/\y = .ref b/\SqT K H a xs/\SqT K H b ys/\xs≠[]/\xs.length+ys.length<=sizeLine/\
 (ys=[]->Q (.ref a) H)/\(ys≠[]->∀p,H p=none->Q (.ref p) (upd H p (.tup (xs++ys))))
theorem Vals.nil_iff{xs:List V}{us:List Value}(r:Vals xs us):us=[]↔xs=[]:=by
 cases r with
 | nil=>simp
 | cons _ _=>simp
theorem j2W:OpR X (binaryOp .Add) (rCatT X.K):=by
 intro g s E H x y v u Q I t A h;obtain⟨a,b,B,C,rfl,rfl,i,j,k,e,p,r⟩:=h;cases t;cases A;obtain⟨l,d,m,_⟩:=I.tuple i;obtain⟨f,c,n,_⟩:=I.tuple j;refine HT.j2u m n (fun z=>k (d.nil_iff.mp z)) (fun z=>⟨.ref a,H,I,rfl,p (c.nil_iff.mp z)⟩) (fun z=>?_) (by rw[<-d.length,<-c.length];exact e);refine⟨.ref s.heap.objs.size,_,I.laid (t':=s.toks) (o:=.tup (B++C)) (fun b D q=>vN _ q) (vB _) ?_,rfl,r (fun w=>z (c.nil_iff.mpr w)) _ (I.hok.fresh (vB _))⟩;exact⟨by rw[vm];exact e,_,d.append c,IsTup.new _ _⟩
end
noncomputable def ixN(n:Nat)(i:Int):Option Nat:=if 0<=i then(if i<n then some i.toNat else none)else if -(n:Int)<=i then some (i+n).toNat else none
noncomputable def atI{α:Type}(xs:List α)(i:Int):Option α:=(ixN xs.length i).bind fun j=>xs[j]?
theorem j2J(h:ixN n i=some j):seqIndex? i n=some j/\j<n/\-(n:Int)<=i/\i<n:=by
 unfold ixN at h;by_cases b:0<=i
 ·rw[va b]at h;by_cases a:i<n
  ·rw[va a]at h;have e:i.toNat=j:=vP h;exact⟨by rw[seqIndex_of b a,e],by lia,by lia,a⟩
  ·rw[vA a]at h;cases h
 ·rw[vA b]at h;by_cases a : -(n:Int)<=i
  ·rw[va a]at h;have e:(i+n).toNat=j:=vP h;exact⟨by rw[seqIndex_neg (by lia) a,e],by lia,a,by lia⟩
  ·rw[vA a]at h;cases h
theorem we{a:Type}{xs:List a}{i:Int}{v:a}(h:atI xs i=some v):∃j,seqIndex? i xs.length=some j/\xs[j]?=some v/\j<xs.length/\-(xs.length:Int)<=i/\i<xs.length:=by
 unfold atI at h;cases e:ixN xs.length i with
 | none=>rw[e]at h;cases h
 | some j=>
  rw[e]at h;obtain⟨b,c,d,f⟩:=j2J e;exact⟨j,b,h,c,d,f⟩
theorem qZ{a:Type}{xs:List a}{j:Nat}{v:a}(h:xs[j]?=some v):atI xs (j:Int)=some v:=by
 have b:j<xs.length:=(vx.mp h).1;have e:ixN xs.length (j:Int)=some j:=by
  unfold ixN;rw[va (by lia),va (by lia)];simp
 unfold atI;rw[e];exact h
def PlainIx(b:Expr):Prop:=∀o i,subscripted b false o i=operate [o,i] (getItem o i)
def IxR(X:Cx)(r:R2):Prop:=
 ∀(value slice:Expr) (pins:List (Addr×Obj)) (s:Shared) (σ:St) (H:Hp) (x y:V) (v u:Value) (Q:VK),Inv X pins σ H s->RelV x v->RelV y u->r x y H Q->
  subscripted slice false v u=operate [v,u] (getItem v u)->wpAny (model X.prog X.w) X.A (subscriptTail value slice v u) (EP X pins σ Q) X.xe s
def MtR(X:Cx)(id:String)(r:V->List V->Hp->VK->Prop):Prop:=
 ∀(pins:List (Addr×Obj)) (s:Shared) (σ:St) (H:Hp) (x:V) (xs:List V) (v:Value) (us:List Value) (Q:VK),Inv X pins σ H s->RelV x v->Vals xs us->r x xs H Q->
  wpAny (model X.prog X.w) X.A (call (.builtin id) (v::us)) (EP X pins σ Q) X.xe s
section
variable{X:Cx}{a b:Expr}{ta tb:TE}{pos:Pos}
theorem jt(i:IxR X r)(f:PE X a ta)(g:PE X b tb)(j:PlainIx b:=by exact fun _ _=>rfl):PE X (.Subscript a b pos) (tOp r ta tb):=by
 intro c s n H Q I h;exact Subscript_ (binT f g I h fun v u m x y d e k l q=>i a b c m n d x y v u Q e k l q (j _ _))
def rIxL(K:Frg):R2:=fun x y H Q=>∃p xs i v,x = .ref p/\y = .int i/\SqL K H p xs/\atI xs i=some v/\Q v H
def rIxT(K:Frg):R2:=fun x y H Q=>∃p xs i v,x = .ref p/\y = .int i/\SqT K H p xs/\atI xs i=some v/\Q v H
def rIxS:R2:=fun x y H Q=>∃z i c,x = .str z/\y = .int i/\z.length<=sizeLine/\atI z.cps.toList i=some c/\Q (.str ⟨#[c]⟩) H
theorem jM:IxR X (rIxL X.K):=by
 intro l k a s A H x y v u Q I J K h o;obtain⟨p,P,i,z,rfl,rfl,G,E,q⟩:=h;cases J;obtain⟨t,rfl⟩:=K;obtain⟨e,r,f,O⟩:=I.list G;obtain⟨j,c,B,M,C,D⟩:=we E;obtain⟨w,m,g⟩:=r.get B;have F:=r.length;have N:=line63;have b:EP X a A Q w s:=⟨z,H,I,g,q⟩
 by_cases n:0<=i
 ·have d:i.toNat=j:=by
   rw[seqIndex_of n D]at c;exact vP c
  exact item_listR f.isList n (by lia) (by rw[d];simpa using m) b o
 ·have d:(i+(e.toArray.size:Int)).toNat=j:=by
   rw[seqIndex_neg (by lia) C]at c;rw[size_toArray,<-F];exact vP c
  exact subscriptTail_builtinR (x:=w) f.isList.typeIs slot_list_getitem.lookup
   (wpAny_getItem_list_neg (Q:=fun r L=>r=w/\EP X a A Q r L) f.isList (by lia) (by rw[size_toArray]<;>lia) (by lia) (by rw[d];simpa using m) ⟨rfl,b⟩) o
theorem jA:IxR X (rIxT X.K):=by
 intro e d a s g H x y v u Q I D E h B;obtain⟨p,N,i,z,rfl,rfl,A,n,q⟩:=h;cases D;obtain⟨t,rfl⟩:=E;obtain⟨C,r,f,M⟩:=I.tuple A;obtain⟨j,l,m,G,J,K⟩:=we n;obtain⟨w,k,c⟩:=r.get m;have o:=r.length;have L:=line63;have b:EP X a g Q w s:=⟨z,H,I,c,q⟩
 exact subscriptTail_builtinR (x:=w) f.typeIs slot_tuple_getitem.lookup
  (getItem_tuple (j:=j) (Q:=fun r F=>r=w/\EP X a g Q r F) f (by lia) (by lia) (by rw[size_toArray,<-o];exact l) (by simpa using k) ⟨rfl,b⟩) B
theorem xV:IxR X rIxS:=by
 intro b a e s E H x y v u Q I r w h p;obtain⟨z,i,c,rfl,rfl,C,n,q⟩:=h;obtain⟨t,rfl⟩:=r;obtain⟨D,rfl⟩:=w;obtain⟨j,d,k,A,l,m⟩:=we n;have o:z.cps.toList.length=z.length:=by simp[Str.length]
 rw[o]at d l m;have B:=line63;exact tail_any (typeIs_str s z t) slot_str_getitem.lookup (getItem_str (c:=c) (by
  have f:decide (i < -(2^63:Int))=false:=vL (by lia);have g:decide (i>=2^63)=false:=vL (by lia);rw[f,g,Bool.or_false]) (by rw[d];simpa using k) ⟨.str ⟨#[c]⟩,H,I.tok _,⟨_,rfl⟩,q⟩) p
theorem w6(lo hi:Option Int)(n:Nat):(sliceBounds lo hi none n).1=((HT.sIx n 0 lo:Nat):Int)/\(sliceBounds lo hi none n).2.1=((HT.sIx n n hi:Nat):Int)/\(sliceBounds lo hi none n).2.2=1:=by
 refine⟨?_,?_,rfl⟩
 ·cases lo with
  | none=>simp[sliceBounds,HT.sIx]
  | some i=>
   simp only[sliceBounds,HT.sIx,Option.getD_none,show(1:Int)>0 by decide,if_true];by_cases h:i<0
   ·simp only[h,if_true]<;>lia
   ·simp only[h,if_false]<;>lia
 ·cases hi with
  | none=>simp[sliceBounds,HT.sIx]
  | some i=>
   simp only[sliceBounds,HT.sIx,Option.getD_none,show(1:Int)>0 by decide,if_true];by_cases h:i<0
   ·simp only[h,if_true]<;>lia
   ·simp only[h,if_false]<;>lia
theorem KB(a:List Value)(lo hi:Option Int):slicePick a.toArray lo hi none=((a.drop (HT.sIx a.length 0 lo)).take (HT.sIx a.length a.length hi-HT.sIx a.length 0 lo)).toArray:=by
 obtain⟨b,c,d⟩:=w6 lo hi a.toArray.size;unfold slicePick;rw[b,c,d];simp only[sliceRange_one,pick_run,size_toArray]<;>rfl
noncomputable def rSlL(K:Frg):V->Option Int->Option Int->Hp->VK->Prop:=fun x lo hi H Q=>∃a xs,x = .ref a/\SqL K H a xs/\∀p,H p=none->Q (.ref p) (upd H p (.lst (cutV xs lo hi)))
theorem ZZ:SlR X (rSlL X.K):=by
 intro i s A H x v y z e f w Q I t j n p h;obtain⟨a,c,rfl,k,q⟩:=h;cases t;obtain⟨m,r,g,l⟩:=I.list k;have d:=r.length;refine⟨"list",_,slot_list_getitem.lookup,g.isList.typeIs,?_⟩;refine wpAny_getItem_list_slice g.isList j n p .none (by simp) ?_ (by rw[size_toArray]<;>lia);rw[KB,<-d];refine⟨.ref s.heap.objs.size,_,I.laid (t':=s.toks) (o:=.lst (cutV c e f)) (fun b u q=>vN _ q) (vB _) ?_,rfl,q _ (I.hok.fresh (vB _))⟩;exact⟨vZ (Zq c e f) l,_,0,(r.drop (HT.sIx c.length 0 e)).take (HT.sIx c.length c.length f-HT.sIx c.length 0 e),Heap.get?_push_size _ rfl⟩
noncomputable def flatV:V->Bool
 | .non=>true
 | .bl _=>true
 | .int _=>true
 | .str _=>true
 | _=>false
noncomputable def eqV:V->V->Bool
 | .non,.non=>true
 | .bl a,.bl b=>a==b
 | .bl a,.int b=>(if a then 1 else 0)==b
 | .int a,.bl b=>a==(if b then 1 else 0)
 | .int a,.int b=>a==b
 | .str a,.str b=>a==b
 | _,_=>false
theorem j3x(f:RelV y u)(c:RelV x v)(g:flatV y=true)(e:flatV x=true):SeqAt.EqAt A s u v (eqV y x):=by
 cases y with
 | non=>
  cases f;cases x with
  | non=>cases c;exact SeqAt.EqAt.same _
  | bl b=>cases c;exact SeqAt.EqAt.none_bool b
  | int b=>obtain⟨t,rfl⟩:=c;exact SeqAt.EqAt.none_int b t
  | str b=>obtain⟨t,rfl⟩:=c;exact SeqAt.EqAt.none_str b t
  | _=>exact ue (show false=true from e) vJ
 | bl a=>
  cases f;cases x with
  | non=>cases c;exact SeqAt.EqAt.bool_none a
  | bl b=>cases c;exact SeqAt.EqAt.bool_bool a b
  | int b=>obtain⟨t,rfl⟩:=c;exact SeqAt.EqAt.bool_int a b t
  | str b=>obtain⟨t,rfl⟩:=c;exact SeqAt.EqAt.bool_str a b t
  | _=>exact ue (show false=true from e) vJ
 | int a=>
  obtain⟨d,rfl⟩:=f;cases x with
  | non=>cases c;exact SeqAt.EqAt.int_none a d
  | bl b=>cases c;exact SeqAt.EqAt.int_bool a d b
  | int b=>obtain⟨t,rfl⟩:=c;exact SeqAt.EqAt.int_int a d b t
  | str b=>obtain⟨t,rfl⟩:=c;exact SeqAt.EqAt.int_str a d b t
  | _=>exact ue (show false=true from e) vJ
 | str a=>
  obtain⟨d,rfl⟩:=f;cases x with
  | non=>cases c;exact SeqAt.EqAt.str_none a d
  | bl b=>cases c;exact SeqAt.EqAt.str_bool a d b
  | int b=>obtain⟨t,rfl⟩:=c;exact SeqAt.EqAt.str_int a d b t
  | str b=>obtain⟨t,rfl⟩:=c;exact SeqAt.EqAt.str_str a d b t
  | _=>exact ue (show false=true from e) vJ
 | _=>exact ue (show false=true from g) vJ
noncomputable def eqU(x:V)(u:Value):Bool:=match u with
 | .none=>eqV .non x
 | .bool b=>eqV (.bl b) x
 | .int i _=>eqV (.int i) x
 | .str z _=>eqV (.str z) x
 | _=>false
theorem j1n(r:RelV y u)(f:flatV y=true):eqU x u=eqV y x:=by
 cases y with
 | non=>cases r;rfl
 | bl b=>cases r;rfl
 | int i=>obtain⟨t,rfl⟩:=r;rfl
 | str z=>obtain⟨t,rfl⟩:=r;rfl
 | _=>exact ue (show false=true from f) vJ
theorem yJ:∀{xs:List V} {us:List Value},Vals xs us->xs.all flatV=true->us.any (eqU x)=xs.any fun y=>eqV y x
 | _,_,.nil,_=>rfl
 | y::xs,u::us,.cons r t,f=>by
  rw[all_cons,Bool.and_eq_true]at f;rw[any_cons,any_cons,j1n r f.1,yJ t f.2]
theorem Zw(c:RelV x v)(b:flatV x=true):∀{xs:List V} {us:List Value},Vals xs us->xs.all flatV=true->∀u∈us,SeqAt.EqAt A s u v (eqU x u)
 | _,_,.nil,_=>fun u a=>by cases a
 | y::xs,u::us,.cons r t,f=>fun d a=>by
  rw[all_cons,Bool.and_eq_true]at f;rcases mem_cons.mp a with rfl | a
  ·rw[j1n r f.1];exact j3x r c f.1 b
  ·exact Zw c b t f.2 d a
noncomputable def inV(x:V)(xs:List V):Bool:=xs.any fun y=>eqV y x
def rIn(K:Frg)(neg:Bool):R2:=fun x y H Q=>∃p xs,y = .ref p/\(SqL K H p xs\/SqT K H p xs)/\flatV x=true/\xs.all flatV=true/\Q (.bl (if neg then !inV x xs else inV x xs)) H
theorem QA:OpR X (compareOp .In) (rIn X.K false):=by
 intro g s m H x y v u Q I i k h;obtain⟨p,l,rfl,b,f,c,q⟩:=h;cases k;rcases b with b | b
 ·obtain⟨a,r,e,j⟩:=I.list b;refine SeqAt.in_listAt (eqU x) e.isList (fun w d=>Zw i f r c w (by simpa using d)) ⟨.bl _,H,I,rfl,?_⟩;rw[show a.toArray.any (eqU x)=a.any (eqU x) by simp,yJ r c];exact q
 ·obtain⟨a,r,e,j⟩:=I.tuple b;refine SeqAt.in_tupleAt (eqU x) e (fun w d=>Zw i f r c w (by simpa using d)) ⟨.bl _,H,I,rfl,?_⟩;rw[show a.toArray.any (eqU x)=a.any (eqU x) by simp,yJ r c];exact q
theorem zX:OpR X (compareOp .NotIn) (rIn X.K true):=by
 intro g s m H x y v u Q I i k h;obtain⟨p,l,rfl,b,f,c,q⟩:=h;cases k;rcases b with b | b
 ·obtain⟨a,r,e,j⟩:=I.list b;refine SeqAt.notIn_listAt (eqU x) e.isList (fun w d=>Zw i f r c w (by simpa using d)) ⟨.bl _,H,I,rfl,?_⟩;rw[show a.toArray.any (eqU x)=a.any (eqU x) by simp,yJ r c];exact q
 ·obtain⟨a,r,e,j⟩:=I.tuple b;refine SeqAt.notIn_tupleAt (eqU x) e (fun w d=>Zw i f r c w (by simpa using d)) ⟨.bl _,H,I,rfl,?_⟩;rw[show a.toArray.any (eqU x)=a.any (eqU x) by simp,yJ r c];exact q
theorem Z6:CallR X (.type "tuple") (fun xs H Q=>∃p ys,xs=[.ref p]/\((SqL X.K H p ys/\∀l,H l=none->Q (.ref l) (upd H l (.tup ys)))\/(SqT X.K H p ys/\Q (.ref p) H))):=by
 intro a s n H xs x Q I r h;obtain⟨p,ys,rfl,h⟩:=h;obtain⟨u,rfl,w⟩:=vals1 r;cases w;rcases h with⟨f,q⟩ | ⟨f,q⟩
 ·obtain⟨c,i,g,m⟩:=I.list f;have k:=i.length;refine call_tuple_list g.isList (fun d v=>?_) (by simp only[size_toArray]<;>lia);have j:Inv X a n H {s with heap:=d}:=I.kept (t':=s.toks) v;have t:Inv X a n (upd H d.objs.size (.tup ys)) {s with heap:=d.push {cls:=.type "tuple",data:=.seq c.toArray}}:=
   j.laid (t':=s.toks) (fun b o e=>vN _ e) (vB _) (show ObjOk X.prog X.w _ _ _ (.tup ys)from⟨m,c,i,IsTup.new _ _⟩)
  exact⟨.ref d.objs.size,_,t,rfl,q _ (j.hok.fresh (vB _))⟩
 ·obtain⟨c,i,g,m⟩:=I.tuple f;exact call_tuple_same g ⟨.ref p,H,I,rfl,q⟩
def tyV(K:Frg)(T:String)(x:V)(H:Hp):Prop:=match x with
 | .str _=>T = "str"
 | .int _=>T = "int"
 | .ref p=>(T = "list"/\∃xs,SqL K H p xs)\/(T = "tuple"/\∃o,K.lookup p=some o/\o.cls = .type "tuple"/\o.dict=none)\/
   (T = "dict"/\((∃kvs,H p=some (.dK kvs))\/∃kvs,H p=some (.dT kvs)))\/(T = "set"/\∃S n,H p=some (.set S n))
 | _=>False
theorem j2d{w:St}{H:Hp}(I:Inv X pins w H s)(r:RelV x v)(f:tyV X.K T x H) :
  s.TypeIs v T/\∀a,v = .ref a->∃k,s.heap.get? a=some k/\k.dict=none:=by
 cases x with
 | str z=>
  obtain⟨t,rfl⟩:=r;cases(show T = "str" from f);exact⟨typeIs_str s z t,fun _ e=>nomatch e⟩
 | int i=>
  obtain⟨t,rfl⟩:=r;cases(show T = "int" from f);exact⟨typeIs_int s i t,fun _ e=>nomatch e⟩
 | ref p=>
  cases r;rcases f with⟨rfl,y,q⟩ | ⟨rfl,o,b,m,h⟩ | ⟨rfl,b⟩ | ⟨rfl,S,n,b⟩
  ·obtain⟨u,_,l,_⟩:=I.list q;refine⟨l.isList.typeIs,fun a e=>?_⟩;cases e;obtain⟨o,n,e,c,h,_⟩:=l;exact⟨o,e,h⟩
  ·refine⟨⟨o,I.kIn p o b,m⟩,fun a e=>?_⟩;cases e;exact⟨o,I.kIn _ o b,h⟩
  ·have z:∃o,s.heap.get? p=some o/\o.ExactDict:=by
    rcases b with⟨j,b⟩ | ⟨j,b⟩
    ·obtain⟨_,_,_,_,o,_,_,e,d,_⟩:=I.hok p _ b;exact⟨o,e,d⟩
    ·obtain⟨_,_,_,_,o,_,_,e,d,_⟩:=I.hok p _ b;exact⟨o,e,d⟩
   obtain⟨o,e,d⟩:=z;refine⟨⟨o,e,d.1⟩,fun a g=>?_⟩;cases g;exact⟨o,e,d.2.1⟩
  ·obtain⟨o,_,_,_,e,d,_⟩:=I.hok p _ b;refine⟨⟨o,e,d.1⟩,fun a g=>?_⟩;cases g;exact⟨o,e,d.2.1⟩
 | _=>exact False.elim f
def tBM0(K:Frg)(T:String)(r:V->List V->Hp->VK->Prop)(to:TE):TE:=fun σ H Q=>to σ H fun x H1=>tyV K T x H1/\r x [] H1 Q
def tBM(K:Frg)(T:String)(r:V->List V->Hp->VK->Prop)(to:TE)(t:TA):TE:=fun σ H Q=>to σ H fun x H1=>tyV K T x H1/\t σ H1 fun xs H2=>r x xs H2 Q
variable{o e:Expr}{es:List Expr}{to:TE}{t:TA}{name:Str}{apos cpos:Pos}{T id:String}{r:V->List V->Hp->VK->Prop}
theorem j3Q(p:PlainAttrs T)(d:Slot T name id)(e:typeOf (.builtin id)=pure (.type "method_descriptor"))(m:MtR X id r)(n:PE X o to)
  (b:attributeBase o name X.env (eval o X.env)=eval o X.env:=by rfl) (c:(apos.endLine==cpos.line)=true:=by rfl):PE X (.Call (.Attribute o name apos) [] [] cpos) (tBM0 X.K T r to):=by
 intro a s i H Q I h;refine wpAny_Call_method0_late b c (thn (n a s i H _ I h) fun v t ⟨x,j,f,g,u,q⟩=>?_);obtain⟨k,l⟩:=j2d f g u;exact⟨T,id,p,d,e,k,l,Calls.callWith_builtin rfl (PySem.evalArgs_none (m a t i j x [] v [] Q f g .nil q))⟩
theorem qi(C:PlainAttrs T)(g:Slot T name id)(i:typeOf (.builtin id)=pure (.type "method_descriptor"))(z:MtR X id r)(A:PE X o to)(y:PA X (e::es) t)
  (c:attributeBase o name X.env (eval o X.env)=eval o X.env:=by rfl)
  (f:((backTo cpos (starEach (e::es) X.env)).all (fun x=>!x.1)&&(backToKw cpos (keywordEach [] X.env)).all (fun x=>x.1.isSome)
   && decide ((e::es).length+([]:List Keyword).length+(if([]:List Keyword).isEmpty then 0 else 1)<30))=true:=by rfl)
  (d:(apos.endLine==cpos.line)=true:=by rfl) (B:starEach (e::es) X.env=(false,eval e X.env)::starEach es X.env:=by rfl) (b:(backTo cpos (starEach es X.env)).any (·.1)=false:=by rfl) :
  PE X (.Call (.Attribute o name apos) (e::es) [] cpos) (tBM X.K T r to t):=by
 intro a s j H Q I h;refine wpAny_Call_method_late c f d rfl (thn (A a s j H _ I h) fun v G ⟨x,n,k,m,K,D⟩=>?_);obtain⟨u,w⟩:=j2d k m K;refine⟨T,id,C,g,i,u,w,?_⟩;have l:=y cpos a G j n _ k D;rw[B]at l|-;refine Calls.callWith_builtin (by show(false||(backTo cpos (starEach es X.env)).any (·.1))=false;rw[b]<;>rfl) (Calls.evalArgs_plain ?_);exact thn l fun L J ⟨M,p,q,F,E⟩=>z a J j p x M v L Q q m F E
end
def MtM(X:Cx)(id:String)(r:V->List V->Hp->VK->Prop):Prop:=
 ∀(pins:List (Addr×Obj)) (s:Shared) (σ:St) (H:Hp) (x:V) (xs:List V) (v:Value) (us:List Value) (Q:VK),Inv X pins σ H s->RelV x v->Vals xs us->r x xs H Q->
  wpAny (model X.prog X.w) X.A (call (.builtin id) (v::us)) (EP X pins σ Q) X.xe s
theorem Vals.one:∀{x:V} {us:List Value},Vals [x] us->∃u,us=[u]/\RelV x u
 | _,_,.cons r .nil=>⟨_,rfl,r⟩
theorem Vals.zero:∀{us:List Value},Vals [] us->us=[]
 | _,.nil=>rfl
section
variable{X:Cx}{pins:List (Addr×Obj)}{σ:St}{H:Hp}{s:Shared}{l b:Addr}{xs ys zs:List V}
theorem Inv.lset{a its':List Value}{n:Nat}{f:Array Value->Array Value}{t':Nat}(I:Inv X pins σ H s)(b:H l=some (.lst xs))
  (e:s.heap.get? l=some {cls:=.type "list",data:=.seq a.toArray n}) (d:f a.toArray=its'.toArray) (h:Vals ys its') (hz:ys.length<=sizeLine) :
  Inv X pins σ (upd H l (.lst ys)) {s with heap:=s.heap.update l (Obj.mapSeq f),toks:=t'}:=by
 have q:=PySem.IsL.update e f;rw[d]at q;refine I.write (x:=l) (e:=l) (by rw[b];exact trivial) (.inl rfl) (fun i u c g=>(Heap.get?_update_other s.heap (Obj.mapSeq f) (Ne.symm c)).trans g) ⟨_,q⟩ ?_;exact⟨hz,its',_,h,q⟩
theorem Inv.lnew(I:Inv X pins σ H s)(a:Vals ys its)(hz:ys.length<=sizeLine) :
  Inv X pins σ (upd H s.heap.objs.size (.lst ys)) {s with heap:=s.heap.push {cls:=.type "list",data:=.seq its.toArray},toks:=t'}:=
 I.laid (fun _ _ q=>vN _ q) (vB _) ⟨hz,its,0,a,Heap.get?_push_size _ rfl⟩
theorem Inv.fresh(I:Inv X pins σ H s):H s.heap.objs.size=none:=I.hok.fresh (vB _)
theorem Inv.lstM(I:Inv X pins σ H s)(b:H l=some (.lst xs)):xs.length<=sizeLine/\∃(a:List Value) (n:Nat),Vals xs a/\xs.length=a.length/\s.heap.get? l=some {cls:=.type "list",data:=.seq a.toArray n}:=by
 obtain⟨z,a,n,r,e⟩:=I.hok l _ b;exact⟨z,a,n,r,r.length,e⟩
end
section
variable{X:Cx}
noncomputable def rAppend:V->List V->Hp->VK->Prop:=fun x vs H Q=>∃l xs y,x = .ref l/\vs=[y]/\H l=some (.lst xs)/\xs.length<sizeLine/\Q .non (upd H l (.lst (xs++[y])))
theorem Jn:MtM X "list.append" rAppend:=by
 intro c s p H x m v k Q I g f h;obtain⟨l,o,y,rfl,rfl,b,j,q⟩:=h;cases g;obtain⟨u,rfl,d⟩:=f.one;obtain⟨z,a,n,r,i,e⟩:=I.lstM b;refine call_meets F.slot_list_append ⟨_,e,rfl⟩ F.entry_list_append (F.args_list_append_2 _ _) (PySem.list_append l a.toArray n u (by rw[size_toArray];lia)) ⟨e,?_⟩;refine⟨.non,_,I.lset (its':=a++[u]) b e (by simp) (r.append (.cons d .nil)) ?_,rfl,q⟩;rw[vm,List.length_singleton];lia
def rCat:R2:=fun x y H Q=>∃l b xs zs,x = .ref l/\y = .ref b/\H l=some (.lst xs)/\H b=some (.lst zs)/\xs.length+zs.length<=sizeLine/\∀p,H p=none->Q (.ref p) (upd H p (.lst (xs++zs)))
theorem j3N:OpR X (binaryOp .Add) rCat:=by
 intro d s E H x y v u Q I o p h;obtain⟨l,b,B,D,rfl,rfl,j,i,w,q⟩:=h;cases o;cases p;obtain⟨z,c,n,r,t,e⟩:=I.lstM j;obtain⟨C,a,A,m,k,f⟩:=I.lstM i;refine PySem.P.add_list e f ?_ (by rw[size_toArray,size_toArray];lia);have g:c.toArray++a.toArray=(c++a).toArray:=by simp
 rw[g];exact⟨.ref _,_,I.lnew (t':=s.toks) (r.append m) (by rw[vm];lia),rfl,q _ I.fresh⟩
end
section
variable{prog:Program}{w:World}{A:Around}{E:Value->Shared->Prop}{s:Shared}
end
section
variable{X:Cx}
end
end L2
namespace Att
open PySem PySem.W PySem.Calls PyProof.Rows
theorem YX:∀(ns:List Int) (vs:List Value),WellAll P h vs (ns.map WData.int)->IntsAre vs ns:=by
 intro ns
 induction ns with
 | nil=>
  intro vs w;rw[map_nil]at w;cases w;exact .nil
 | cons n ns ih=>
  intro vs w;rw[uy]at w;cases w with
  | cons a b=>
   cases a;exact .cons _ _ (ih _ b)
theorem j0V{l:OpenLaw}{n:Nat}(s:l.most=some n){P:Params}{h:Heap}{args:List WData}{c:List Value}
  (b:l.row.toRowW.claim.pre args=true) (j:WellAll P h c args) :
  ∃a vs ns,c=[Value.ref a]/\args=[WData.list (ns.map WData.int)]/\h.get? a=some {cls:=.type "list",data:=.seq vs.toArray}/\IntsAre vs ns/\ns.length<=n:=by
 have i:WShape.hasAll [] args [.list .int]=true:=(pre_splitW b).1;have k:l.pre.holds [] {args:=args}=true:=(pre_splitW b).2;obtain⟨d,r,rfl,m,o⟩:=hasAllW_cons i;obtain rfl:=hasAllW_nil o;obtain⟨u,rfl,p⟩:=hasW_list m;obtain⟨ns,rfl⟩:=items_int p;have e:ns.length<=n:=by
  unfold OpenLaw.pre at k;have f:(WTm.not (.lt (.lit (.int (n:Int))) (.len (.arg 0)))).holds [] {args:=[.list (ns.map .int)]}=true:=by
   have f:=(holds_andW k).1;rw[s]at f;exact f
  have g:=condW_of f (w_not (w_lt w_lit (w_len_list (w_arg rfl))));rw[vt]at g;refine Nat.le_of_not_lt fun q=>?_
  have t:(n:Int)<((ns.length:Nat):Int):=by lia
  first
   | (rw[vK t]at g;exact ue g (by decide))
   | (simp at g;lia)
 cases j with
 | cons w1 w2=>
  cases w2;cases w1 with
  | list ho hall=>exact⟨_,_,ns,rfl,rfl,ho,YX ns _ hall,e⟩
theorem j0Q(l:OpenLaw)(args:List WData):l.row.toRowW.claim.post args (.bool true) args=true:=
 postW_of (r:=l.row.toRowW) (X:=(true==true))
  (show WShape.has [] (.bool true) .bool=true by first | rfl | decide | simp[WShape.has,WShape.arms,WShape.armsAll])
  (show(WTm.eq .res (.lit (.bool true))).value [] {args:=args,res:=some (.bool true),after:=args}=some (.bool (true==true))from w_eq_bool (w_res rfl) w_lit) rfl
section
variable{prog:Program}{w:World}{A:Around}{E:Value->Shared->Prop}{s:Shared}{K:Frag}
end
end Att
namespace L2
open PySem PySem.Spec PyProof.Rows
theorem K7:∀{vs:List Value} {ns:List Int},IntsAre vs ns->Vals (ns.map V.int) vs
 | _,_,.nil=>.nil
 | _,_,.cons n t h=>.cons ⟨t,rfl⟩ (K7 h)
def Only(H:Hp):Prop:=∀b,H b=none\/∃o xs,H b=some (.frz o (.lst xs))
theorem j1z{P:Program}{w:World}{K:Frg}{L W:Str->Option Value}{CX:CXT}{k:Nat}{R a:Addr}{fd:FuncData}{x:Str}{sp:Sp}{c:Shared}{vs:List Value}{ns:List Int}
  (Y:K.In c.heap) (D:c.heap.Ns mainGlobals L) (g:c.heap.Ns builtinsNs W) (T:∀x:Str,x≠"__name__"->W x=bootBuiltins x) (C:c.heap.NoLimit) (hg:c.gens = #[])
  (N:c.heap.get? a=some {cls:=.type "list",data:=.seq vs.toArray}) (hi:IntsAre vs ns) (hl:ns.length<=sizeLine) (hr:Room k callerA)
  (F:∀base:Heap,K.In base->base.Ns mainGlobals L->FnOk P w K L base CX k R fd [x] sp) (l:∀(s:Shared) (u:Value),BindsTo s fd ⟨[u],[]⟩ [(x,u)])
  (U:∀H:Hp,Only H->SqL K H a (ns.map V.int)->sp [.ref a] H (fun v _=>v = .bl true) fun _ _ _=>False)
  (S:∀H e s',CX [] H c (fun _ _ _=>False) e s'->False) :
  codeAny (model P w) callerA (.call (.ref R) ⟨[.ref a],[]⟩) (fun r s'=>r = .ok (.ret (.bool true))/\OldK c.heap s'.heap/\s'.os=c.os/\AllBare s'.gens) c:=by
 have rv:=K7 hi;have J:=hi.length;have j:∀H:Hp,Only H->SqL K H a (ns.map V.int)->HOk P w H c.heap->(∀b,H b≠none->b=a)->(H a≠none->K.lookup a=none)->
   codeAny (model P w) callerA (.call (.ref R) ⟨[.ref a],[]⟩) (fun r s'=>r = .ok (.ret (.bool true))/\OldK c.heap s'.heap/\s'.os=c.os/\AllBare s'.gens) c:=by
  intro H hO hS G hA hK;have f:∀{b:Addr} {o:Obj},c.heap.get? b=some o->H b=none->(hidT c.heap H).get? b=some o:=fun e n=>j1u e n
  have X:∀{b:Addr} {o:Obj} {y:Array DictEntry} {t:Nat},c.heap.get? b=some o->o.data = .dict y t->H b=none:=fun {b o y t} e d=>by
   cases q:H b with
   | none=>rfl
   | some u=>
    have O:b=a:=hA b (by rw[q];simp);subst O;rw[N]at e;cases e;have d':Data.seq vs.toArray _=Data.dict y t:=d;cases d'
  have i:∀{b:Addr} {m:Str->Option Value},c.heap.Ns b m->(hidT c.heap H).Ns b m:=fun {b m} ⟨o,y,t,e,d,r⟩=>⟨o,y,t,f e (X e d),d,r⟩
  have B:K.In (hidT c.heap H):=fun b o e=>f (Y b o e) (by
   cases q:H b with
   | none=>rfl
   | some u=>
    have O:b=a:=hA b (by rw[q];simp);subst O;rw[hK (by rw[q];simp)]at e;cases e)
  have hM:Mod K L (hidT c.heap H):=⟨B,i D,⟨W,i g,T⟩,let ⟨mc,h1,h2⟩:=C;⟨mc,i h1,h2⟩⟩
  have e0:Env0 P w K L (hidT c.heap H) callerA [] c H:=⟨rfl,hM,fun b o e=>j2T e,Nat.le_of_eq (j0w _ _),trivial,fun b g=>ue (show b∈([]:List Addr)from g) (by simp),G,.of_eq hg⟩
  refine codeAny_mono ((F _ B (i D)).run callerA [] c H ⟨[.ref a],[]⟩ [.ref a] [.ref a] _ _ hr e0 (l c (.ref a)) (.cons rfl .nil) (U H hO hS)) fun r s' h=>?_
  cases r with
  | error e=>exact(S H e s' h).elim
  | ok fl=>
   cases fl with
   | next=>exact False.elim h
   | brk=>exact False.elim h
   | cont=>exact False.elim h
   | ret u=>
    obtain⟨v,H',os,p,un,I,r',q⟩:=h;have q':v = .bl true:=q;subst q';obtain rfl:u=Value.bool true:=r';refine⟨rfl,OldK.of_keep fun b o e=>?_,os,p⟩;cases q:H b with
    | none=>exact un.keep b o e q (by intro z;exact ue (show b∈([]:List Addr)from z) (by simp)) (by simp)
    | some u=>
     rcases hO b with z | ⟨ob,xs,z⟩
     ·rw[q]at z;cases z
     ·have z2:=un.frzs b ob _ z;obtain⟨Z,_⟩:=G b _ z;obtain⟨e2,_⟩:=I b _ z2;rw[e]at Z;cases Z;exact e2
 cases hk:K.lookup a with
 | some o=>
  have e:=Y a o hk;rw[N]at e;cases e;refine j (fun _=>none) (fun _=>.inl rfl) (.inr ⟨_,vs.toArray,_,hk,rfl,rfl,rfl,by rw[size_toArray,J];exact hl,by simpa using rv⟩) (fun b u z=>by have M:(none:Option HO)=some u:=z;cases M) (fun b z=>ue rfl z) fun z=>ue rfl z
 | none=>
  refine j (fun b=>if b=a then some (.frz {cls:=.type "list",data:=.seq vs.toArray} (.lst (ns.map V.int)))else none) (fun b=>?_) (.inl (.inr ⟨{cls:=.type "list",data:=.seq vs.toArray},va rfl⟩)) (fun b u z=>?_) (fun b z=>?_) fun _=>hk
  ·by_cases g:b=a
   ·exact .inr ⟨_,_,va g⟩
   ·exact .inl (vA g)
  ·by_cases g:b=a
   ·have M:=(va g).symm.trans z;cases M;subst g;exact⟨N,by rw[vt];exact hl,vs,_,rv,N⟩
   ·have M:=(vA g).symm.trans z;cases M
  ·by_cases g:b=a
   ·exact g
   ·exact ue (vA g) z
noncomputable abbrev KOf{K:Frg}{h:Heap}(_:K.In h):Frg:=K
noncomputable def inClass(s:Stmt)(j:Nat):Stmt:=match s with
 | .ClassDef _ _ _ body _ _ _ _ _ _ _=>body.getD j (.Pass ⟨0,0,0,0⟩)
 | _=>.Pass ⟨0,0,0,0⟩
noncomputable def defArgs(s:Stmt):Arguments:=match s with
 | .FunctionDef _ a _ _ _ _ _ _ _ _=>a
 | _=>{posonlyargs:=[],args:=[],vararg:=none,kwonlyargs:=[],kw_defaults:=[],kwarg:=none,defaults:=[]}
noncomputable def defBody(s:Stmt):List Stmt:=match s with
 | .FunctionDef _ _ b _ _ _ _ _ _ _=>b
 | _=>[]
noncomputable def defScope(s:Stmt):Scope:=match s with
 | .FunctionDef _ _ _ _ _ _ sc _ _ _=>sc
 | _=>{kind:=.function,names:=[],isGenerator:=false,isCoroutine:=false}
noncomputable abbrev CX0:CXT:=fun _ _ _ _ _ _=>False
noncomputable abbrev E0:XK:=fun _ _ _=>False
theorem pass0:Passes CX0 X E0:=fun _ _ _ _ _ _ _ h=>h.elim
structure Fun(K:Frg)(x qual:Str)(st:Stmt)(f:Addr)(fd:FuncData):Prop where
 ex:∃(oc:Value) (od:Option Addr) (kV doc pm:Value) (an:Option Addr) (cdv ct:Value) (osl:Array (Option Value)),
  fd=PySem.W.fnOf x qual (defArgs st) (defBody st) (defScope st) .none kV doc pm an cdv ct/\K.lookup f=some ⟨oc,od,.func fd,osl⟩/\PySem.W.codeIn K cdv qual=true
 kp:PySem.W.keepIn K (.ref f)=true
section
variable{P:Program}{w:World}{K:Frg}{mg:Str->Option Value}{base:Heap}
theorem Fun.ok{x a:Str}{st:Stmt}{f:Addr}{i:FuncData}{N ps:List Str}{k:Nat}{sp:Sp}(F:Fun K x a st f i)(S:FnScope N ps (defScope st))(g:∀vs H Q E,sp vs H Q E->vs.length=ps.length)
  (c:∀(b:Value) (A:Around) (outer:List Env) (s:Shared) (H:Hp) (vs:List V) (Q:VK) (E:XK),Room k (A.deeper (envOfC a (defScope st) s.heap.objs.size f b))->sp vs H Q E->
   ∃t,PSs (cxOf CX0 P w K mg base N a (defScope st) f b A outer s H E).nox (defBody st) t/\t {nx:=fun _ H'=>Q .non H',rt:=Q} (start N vs) H):FnOk P w K mg base CX0 (k+1) f i ps sp:=by
 obtain⟨r,u,kV,j,v,o,b,p,n,rfl,m,d⟩:=F.ex;refine j3f m d S g fun A outer s H vs Q E l e=>?_
 obtain⟨t,h,q⟩:=c b A outer s H vs Q E l e;exact⟨t,h.nox,q⟩
theorem Fun.binds{x a:Str}{st:Stmt}{f:Addr}{i:FuncData}{ps:List Str}(F:Fun K x a st f i)
  (h:∀(kV c g:Value) (d:Option Addr) (b e:Value) (us:List Value),us.length=ps.length->bindArgs (PySem.W.fnOf x a (defArgs st) (defBody st) (defScope st) .none kV c g d b e) ⟨us,[]⟩=pure (ps.zip us)):Binds K i ps []:=by
 obtain⟨m,n,kV,c,g,d,b,e,k,rfl,l,j⟩:=F.ex;exact .all (h kV c g d b e)
theorem jH{x a:Str}{st:Stmt}{f:Addr}{j:Value}{m g:Option Addr}{e:Array (Option Value)}{kV d i b h:Value}(l:K.lookup f=some ⟨j,m,.func (PySem.W.fnOf x a (defArgs st) (defBody st) (defScope st) .none kV d i g b h),e⟩)
  (c:PySem.W.codeIn K b a=true) (k:PySem.W.keepIn K (.ref f)=true):Fun K x a st f (PySem.W.fnOf x a (defArgs st) (defBody st) (defScope st) .none kV d i g b h):=⟨⟨j,m,kV,d,i,g,b,h,e,rfl,l,c⟩,k⟩
end
theorem Qn(a:Room k A):A.units+1<cLine:=Nat.lt_of_le_of_lt (Nat.add_le_add_left (by decide:1<=64) _) a.units
section
variable{X:Cx}
theorem pv(i:Nat){pos:Pos}(b:X.N[i]?=some x:=by rfl)(d:Vis X.env.scope x:=by first | exact Or.inl rfl | exact Or.inr (Or.inl rfl) | exact Or.inr (Or.inr rfl))(c:(x==("__debug__" : Str))=false:=by decide)
  (a:(x==("__classdict__" : Str))=false:=by decide):PE X (.Name x pos) (tVar i):=j3S b d c a
end
theorem iteF{A B:Prop}(h:B):if false=true then A else B:=by
 rw[vA vJ];exact h
theorem iteT{A B:Prop}(h:A):if true=true then A else B:=by
 rw[va rfl];exact h
def Same(H H':Hp):Prop:=∀b o,H b=some o->H' b=some o
theorem Same.refl(H:Hp):Same H H:=fun _ _ h=>h
theorem Same.trans{H d e:Hp}(a:Same H d)(b:Same d e):Same H e:=fun c o h=>b c o (a c o h)
theorem Same.seq{K:Frg}{H H':Hp}{a:Addr}{xs:List V}(e:Same H H')(h:SqL K H a xs):SqL K H' a xs:=by
 rcases h with(h | ⟨o,h⟩) | h
 ·exact .inl (.inl (e _ _ h))
 ·exact .inl (.inr ⟨o,e _ _ h⟩)
 ·exact .inr h
section
variable{κ:Type}[DecidableEq κ]
noncomputable def valV(kvs:List (κ×V))(k:κ):Option V:=(kvs.find? fun kv=>decide (kv.1=k)).map (·.2)
noncomputable def putK(kvs:List (κ×V))(k:κ)(v:V):List (κ×V):=
 if(kvs.any fun kv=>decide (kv.1=k))=true then kvs.map (fun kv=>if kv.1=k then(kv.1,v)else kv)else kvs++[(k,v)]
theorem qc{p:κ×V}{r:List (κ×V)}{k:κ}(e:p.1=k):valV (p::r) k=some p.2:=by simp[valV,List.find?_cons,e]
theorem JM{p:κ×V}{r:List (κ×V)}{k:κ}(e:¬p.1=k):valV (p::r) k=valV r k:=by simp[valV,List.find?_cons,e]
theorem ZJ(k:κ):∀kvs:List (κ×V),(kvs.any fun kv=>decide (kv.1=k))=(valV kvs k).isSome
 | []=>rfl
 | p::r=>by
  rw[any_cons];by_cases e:p.1=k
  ·simp only[qc e,decide_eq_true e,Bool.true_or,Option.isSome_some]
  ·rw[JM e,vL e,Bool.false_or];exact ZJ k r
theorem xg(k j:κ)(y:V):∀kvs:List (κ×V),valV (kvs.map fun kv=>if kv.1=k then(kv.1,y)else kv) j=(valV kvs j).map fun x=>if j=k then y else x
 | []=>rfl
 | p::r=>by
  have a:=xg k j y r;rw[uy];by_cases h:p.1=k
  ·rw[va h];by_cases e:p.1=j
   ·rw[qc (p:=(p.1,y)) e,qc e,Option.map_some,va (e.symm.trans h)]
   ·rw[JM (p:=(p.1,y)) e,JM e,a]
  ·rw[vA h];by_cases e:p.1=j
   ·rw[qc (p:=p) e,qc e,Option.map_some,vA (fun z=>h (e.trans z))]
   ·rw[JM (p:=p) e,JM e,a]
theorem K5(k j:κ)(y:V):∀kvs:List (κ×V),valV kvs k=none->valV (kvs++[(k,y)]) j=if j=k then some y else valV kvs j
 | [],_=>by
  by_cases e:k=j
  ·rw[va e.symm];exact qc (p:=(k,y)) e
  ·rw[vA (fun z=>e z.symm)];exact JM (p:=(k,y)) e
 | p::r,hn=>by
  rw[List.cons_append];have a:¬p.1=k:=fun z=>by rw[qc z]at hn;cases hn
  rw[JM a]at hn;have b:=K5 k j y r hn;by_cases e:p.1=j
  ·rw[qc e,qc e,vA (fun z=>a (e.trans z))]
  ·rw[JM e,JM e,b]
theorem xi(kvs:List (κ×V))(k j:κ)(y:V):valV (putK kvs k y) j=if j=k then some y else valV kvs j:=by
 unfold putK;by_cases a:(kvs.any fun kv=>decide (kv.1=k))=true
 ·rw[va a,xg];rw[ZJ]at a;by_cases e:j=k
  ·obtain⟨x,b⟩:=Option.isSome_iff_exists.mp a;rw[va e,e,b,Option.map_some,va rfl]
  ·rw[vA e];cases valV kvs j with
   | none=>rfl
   | some x=>rw[Option.map_some,vA e]
 ·rw[vA a];refine K5 k j y kvs ?_;rw[ZJ]at a;cases q:valV kvs k with
  | none=>rfl
  | some x=>rw[q]at a;exact(a rfl).elim
theorem Zu(kvs:List (κ×V))(k:κ)(v:V):(putK kvs k v).length<=kvs.length+1:=by
 unfold putK;split
 ·rw[vt];lia
 ·rw[vm,vT,length_nil];lia
theorem RelO.isSome_eq(r:RelO o u):o.isSome=u.isSome:=by
 cases o with
 | none=>cases u with
  | none=>rfl
  | some _=>exact(show False from r).elim
 | some _=>cases u with
  | none=>exact(show False from r).elim
  | some _=>rfl
theorem KV.val{kvs:List (κ×V)}{vs:List (κ×Value)}(r:KV kvs vs)(k:κ):RelO (valV kvs k) (valueAt vs k):=by
 unfold KV at r
 induction r with
 | nil=>exact True.intro
 | @cons p q ps qs h t ih=>
  obtain⟨c,d⟩:=h;by_cases e:p.1=k
  ·have a:q.1=k:=c.symm.trans e;have b:valueAt (q::qs) k=some q.2:=by simp[valueAt,List.find?_cons,a]
   rw[qc e,b];exact d
  ·have a:¬q.1=k:=fun z=>e (c.trans z)
   have b:valueAt (q::qs) k=valueAt qs k:=by simp[valueAt,List.find?_cons,a]
   rw[JM e,b];exact ih
theorem KV.any(r:KV kvs vs)(k:κ):(kvs.any fun kv=>decide (kv.1=k))=vs.any fun kv=>decide (kv.1=k):=by
 unfold KV at r
 induction r with
 | nil=>rfl
 | cons h t ih=>rw[any_cons,any_cons,ih,h.1]
theorem KV.repl(r:KV kvs vs)(k:κ)(c:RelV y u) :
  KV (kvs.map fun kv=>if kv.1=k then(kv.1,y)else kv) (vs.map fun kv=>if kv.1=k then(kv.1,u)else kv):=by
 unfold KV at r|-
 induction r with
 | nil=>exact .nil
 | @cons p q ps qs h t ih=>
  rw[uy,uy];refine .cons ?_ ih;obtain⟨a,b⟩:=h;by_cases e:p.1=k
  ·rw[va e,va (a.symm.trans e)];exact⟨a,c⟩
  ·rw[vA e,vA (fun z=>e (a.trans z))];exact⟨a,b⟩
theorem KV.put(r:KV kvs vs)(k:κ)(a:RelV y u):KV (putK kvs k y) (stored vs k u):=by
 unfold putK stored;rw[r.any k];by_cases e:(vs.any fun kv=>decide (kv.1=k))=true
 ·rw[va e,va e];exact r.repl k a
 ·rw[vA e,vA e];exact Paired.snoc r ⟨rfl,a⟩
theorem KV.keys{kvs:List (κ×V)}{vs:List (κ×Value)}(r:KV kvs vs):kvs.map (·.1)=vs.map (·.1):=by
 unfold KV at r
 induction r with
 | nil=>rfl
 | cons h t ih=>rw[uy,uy,ih,h.1]
theorem KV.length(r:KV kvs vs):kvs.length=vs.length:=Paired.length r
end
theorem Wy(r:RelV (kV k) u):(mixKind P w).is k u=true:=by
 cases k with
 | inl i=>obtain⟨t,e⟩:=(show∃t,u=Value.int i t from r);subst e;exact WE P w i t
 | inr x=>obtain⟨t,e⟩:=(show∃t,u=Value.str x t from r);subst e;exact WF P w x t
theorem KP:∀{ks:List Key} {us:List Value},Vals (ks.map kV) us->ItemsAre (mixKind P w) ks us
 | [],_,r=>by rw[map_nil]at r;cases r;exact .nil
 | k::ks,_,r=>by
  rw[uy]at r;cases r with
  | cons h t=>exact .cons (Wy h) (KP t)
noncomputable abbrev KT(H:Hp):List (List Key×V)->List (List Key×Addr×Value)->Prop:=Paired fun p q=>p.1=q.1/\H q.2.1=some (.tup (p.1.map kV))/\RelV p.2 q.2.2
theorem KT.val{H:Hp}{kvs:List (List Key×V)}{xs:List (List Key×Addr×Value)}(r:KT H kvs xs)(k:List Key):RelO (valV kvs k) ((atKey xs k).map (·.2)):=by
 induction r with
 | nil=>exact True.intro
 | @cons p q ps qs h t ih=>
  obtain⟨c,_,d⟩:=h;by_cases e:p.1=k
  ·have a:q.1=k:=c.symm.trans e;have b:atKey (q::qs) k=some q.2:=by simp[atKey,List.find?_cons,a]
   rw[qc e,b];exact d
  ·have a:¬q.1=k:=fun z=>e (c.trans z)
   have b:atKey (q::qs) k=atKey qs k:=by simp[atKey,List.find?_cons,a]
   rw[JM e,b];exact ih
theorem KT.repl{H:Hp}(r:KT H kvs xs)(k:List Key)(d:RelV y u) :
  KT H (kvs.map fun kv=>if kv.1=k then(kv.1,y)else kv) (xs.map (putAt k u)):=by
 induction r with
 | nil=>exact .nil
 | @cons p q ps qs h t ih=>
  rw[uy,uy];refine .cons ?_ ih;obtain⟨a,b,c⟩:=h;unfold putAt;by_cases e:p.1=k
  ·rw[va e,va (a.symm.trans e)];exact⟨a,b,d⟩
  ·rw[vA e,vA (fun z=>e (a.trans z))];exact⟨a,b,c⟩
theorem KT.put{H:Hp}(r:KT H kvs xs)(k:List Key)(c:H b=some (.tup (k.map kV)))(a:RelV y u) :
  KT H (putK kvs k y) (storedH xs k b u):=by
 have e:(kvs.any fun kv=>decide (kv.1=k))=(atKey xs k).isSome:=by
  rw[ZJ,(r.val k).isSome_eq,Option.isSome_map]
 unfold putK storedH;rw[e];by_cases q:(atKey xs k).isSome=true
 ·rw[va q,va q];exact r.repl k a
 ·rw[vA q,vA q];exact Paired.snoc r ⟨rfl,c,a⟩
theorem KT.keeps{H H':Hp}(r:KT H kvs xs)(a:∀b ys,H b=some (.tup ys)->H' b=some (.tup ys)):KT H' kvs xs:=
 Paired.mapP r fun _ _ z=>⟨z.1,a _ _ z.2.1,z.2.2⟩
section
variable{P:Program}{w:World}{H:Hp}{h:Heap}{a:Addr}
theorem j3k(b:HOk P w H h)(e:Rd H a u):ObjOk P w H h a u:=e.ok b
theorem Wr(b:HOk P w H h)(e:Rd H a (.dK kvs)):kvs.length<=sizeLine/\(a==sysModules)=false/\∃vs,KV kvs vs/\h.DictOf (mixKind P w) a vs:=
 show ObjOk P w H h a (.dK kvs)from j3k b e
theorem Wq(b:HOk P w H h)(e:H a=some (.dK kvs)):kvs.length<=sizeLine/\(a==sysModules)=false/\∃vs,KV kvs vs/\h.DictOf (mixKind P w) a vs:=Wr b (.inl e)
theorem kM(g:HOk P w H h)(e:H a=some (.tup (ks.map kV))):(tupleKind (mixKind P w)).is h ks a:=by
 obtain⟨_,b,r,o,c,d,n,f⟩:=(show ObjOk P w H h a (.tup (ks.map kV))from g a _ e)
 exact⟨o,b.toArray,n,c,d,f,by simpa using KP r⟩
theorem Wu(d:HOk P w H h)(e:Rd H a (.dT kvs)):kvs.length<=sizeLine/\(a==sysModules)=false/\
  ∃xs,KT H kvs xs/\h.DictOfH (tupleKind (mixKind P w)) a xs:=by
 obtain⟨z,y,xs,r,o,g,f,i,j,k,n,s⟩:=(show ObjOk P w H h a (.dT kvs)from j3k d e)
 refine⟨z,y,xs,r,o,g,f,i,j,k,n,fun x b=>?_,s⟩;have c:∀{l:List (List Key×V)} {m:List (List Key×Addr×Value)},KT H l m->∀x∈m,(tupleKind (mixKind P w)).is h x.1 x.2.1:=by
  intro l m q
  induction q with
  | nil=>intro x b;exact nomatch b
  | @cons p q ps qs hq t ih=>
   intro x b;rcases mem_cons.mp b with e | b
   ·subst e;exact kM d (by rw[<-hq.1];exact hq.2.1)
   ·exact ih x b
 exact c r x b
theorem j4d(b:HOk P w H h)(e:H a=some (.dT kvs)):kvs.length<=sizeLine/\(a==sysModules)=false/\
  ∃xs,KT H kvs xs/\h.DictOfH (tupleKind (mixKind P w)) a xs:=Wu b (.inl e)
end
def DGet(H:Hp)(a:Addr)(y:V)(r:Option V):Prop:=
 (∃kvs k,Rd H a (.dK kvs)/\y=kV k/\r=valV kvs k)\/∃kvs k b,Rd H a (.dT kvs)/\y = .ref b/\H b=some (.tup (k.map kV))/\r=valV kvs k
def DPut(H:Hp)(a:Addr)(y v:V)(H':Hp):Prop:=
 (∃kvs k,H a=some (.dK kvs)/\y=kV k/\kvs.length<sizeLine/\H'=upd H a (.dK (putK kvs k v)))\/
 ∃kvs k b,H a=some (.dT kvs)/\y = .ref b/\H b=some (.tup (k.map kV))/\kvs.length<sizeLine/\H'=upd H a (.dT (putK kvs k v))
theorem DGet.k{H:Hp}{a:Addr}{kvs:List (Key×V)}{k:Key}(e:H a=some (.dK kvs)):DGet H a (kV k) (valV kvs k):=.inl ⟨kvs,k,.inl e,rfl,rfl⟩
theorem DPut.k{H:Hp}{a:Addr}{kvs:List (Key×V)}{k:Key}{v:V}(e:H a=some (.dK kvs))(b:kvs.length<sizeLine):DPut H a (kV k) v (upd H a (.dK (putK kvs k v))):=.inl ⟨kvs,k,e,rfl,b,rfl⟩
section
variable{X:Cx}{pins:List (Addr×Obj)}{σ:St}{H:Hp}{s:Shared}{a:Addr}{y v:V}{u r:Value}{o:Option V}{A:Around}{E:Value->Shared->Prop}
theorem Inv.big(I:Inv X pins σ H s):sysModules<s.heap.objs.size:=by
 have h:mainGlobals<s.heap.objs.size:=(I.mod.glob.keeps I.bk).lt;exact Nat.lt_trans (by decide) h
theorem j0p{Q:Value->Shared->Prop}(B:A.units+1<cLine)(I:Inv X pins σ H s)(g:DGet H a y (some v))(r:RelV y u)(h:∀f s',Inv X pins σ H s'->RelV v f->Q f s') :
  wpAny (model X.prog X.w) A (getItem (.ref a) u) Q E s:=by
 rcases g with⟨q,k,e,j,l⟩ | ⟨q,k,b,e,j,t,l⟩
 ·subst j;obtain⟨z,w,C,c,i⟩:=Wr I.hok e;obtain⟨f,n,d⟩:=RelO.some_of (v:=v) (o:=valueAt C k) (by rw[l];exact c.val k);exact wpAny_getItem_of (Wy r) i.mapOf n (h f _ (I.tok _) d)
 ·subst j;cases(show u=Value.ref b from r);obtain⟨z,w,D,c,i⟩:=Wu I.hok e;obtain⟨f,n,d⟩:=RelO.some_of (v:=v) (o:=(atKey D k).map (·.2)) (by rw[l];exact c.val k);obtain⟨p,x,m⟩:=vf.mp n;refine wpAny_getItem_heap (tupleKind_room_in1 B) (kM I.hok t) i x ?_;rw[m];exact h f _ (I.tok _) d
theorem j4v{Q:Value->Shared->Prop}(p:A.units+1<cLine)(I:Inv X pins σ H s)(g:DGet H a y o)(m:RelV y u)(h:∀s',Inv X pins σ H s'->Q (.bool o.isSome) s') :
  wpAny (model X.prog X.w) A (compareOp .In u (.ref a)) Q E s:=by
 rcases g with⟨j,k,e,f,l⟩ | ⟨j,k,b,e,f,n,l⟩
 ·subst f;obtain⟨z,i,r,c,d⟩:=Wr I.hok e;refine wpAny_in_of (Wy m) i d.mapOf ?_;rw[<-(c.val k).isSome_eq,<-l];exact h _ (I.tok _)
 ·subst f;cases(show u=Value.ref b from m);obtain⟨z,i,t,c,d⟩:=Wu I.hok e;refine wpAny_in_heap (tupleKind_room_in1 p) (kM I.hok n) i d ?_;have q:=(c.val k).isSome_eq;rw[Option.isSome_map]at q;rw[<-q,<-l];exact h _ (I.tok _)
theorem j2v{Q:Value->Shared->Prop}(p:A.units+1<cLine)(I:Inv X pins σ H s)(g:DGet H a y o)(m:RelV y u)(h:∀s',Inv X pins σ H s'->Q (.bool (!o.isSome)) s') :
  wpAny (model X.prog X.w) A (compareOp .NotIn u (.ref a)) Q E s:=by
 rcases g with⟨j,k,e,f,l⟩ | ⟨j,k,b,e,f,n,l⟩
 ·subst f;obtain⟨z,i,r,c,d⟩:=Wr I.hok e;refine wpAny_notIn_of (Wy m) i d.mapOf ?_;rw[<-(c.val k).isSome_eq,<-l];exact h _ (I.tok _)
 ·subst f;cases(show u=Value.ref b from m);obtain⟨z,i,t,c,d⟩:=Wu I.hok e;refine wpAny_notIn_heap (tupleKind_room_in1 p) (kM I.hok n) i d ?_;have q:=(c.val k).isSome_eq;rw[Option.isSome_map]at q;rw[<-q,<-l];exact h _ (I.tok _)
theorem wq(I:Inv X pins σ H s)(h:Mut (H a))(g:Heap.SameBut a s.heap h')(f:∃q,h'.get? a=some q)(c:ObjOk X.prog X.w (upd H a ob) h' a ob) :
  Inv X pins σ (upd H a ob) {s with heap:=h',toks:=t'}:=
 I.write (x:=a) (e:=a) h (.inl rfl) (fun b q d z=>(g.2 b d).trans z) f c
theorem xL{H':Hp}(z:kvs.length<=sizeLine)(c:(a==sysModules)=false)(b:KV kvs vs)(dd:h'.DictOf (mixKind P w) a vs) :
  ObjOk P w H' h' a (.dK kvs):=⟨z,c,vs,b,dd⟩
theorem j0q{H':Hp}{Q:Unit->Shared->Prop}(R:A.units+1<cLine)(I:Inv X pins σ H s)(g:DPut H a y v H')(G:RelV y u)(F:RelV v r)(h:∀s',Inv X pins σ H' s'->Q () s') :
  wpAny (model X.prog X.w) A (setItem (.ref a) u r) Q E s:=by
 rcases g with⟨d,k,e,o,l,n⟩ | ⟨d,k,b,e,o,B,l,n⟩
 ·subst o n;obtain⟨z,p,S,f,m⟩:=Wq I.hok e;have x:S.length<=sizeLine:=by rw[<-f.length];exact z
  have t:(putK d k v).length<=sizeLine:=by have:=Zu d k v;lia
  refine wpAny_setItem_pairs (hsz:=x) (Wy G) m fun D i w=>h _ ?_
  have P:∃q,D.get? a=some q:=let ⟨q,_,_,j,_⟩:=i;⟨q,j⟩;exact wq I (by rw[e];exact True.intro) w P (xL t p (f.put k F) i)
 ·subst o n;cases(show u=Value.ref b from G);obtain⟨z,p,T,f,m⟩:=j4d I.hok e;have x:T.length<=sizeLine:=by rw[<-Paired.length f];exact z
  have t:(putK d k v).length<=sizeLine:=by have:=Zu d k v;lia
  refine wpAny_setItem_heap (hsz:=x) (tupleKind_room_in1 R) (kM I.hok B) m fun D i w=>h _ ?_
  obtain⟨q,K,J,j,L,M,N,_,O⟩:=i;refine wq I (by rw[e];exact True.intro) w ⟨q,j⟩ ⟨t,p,_,(f.put k B F).keeps fun c U C=>?_,q,K,J,j,L,M,N,O⟩;rw[jg (qF C e (fun z=>nomatch z))];exact C
end
section
variable{X:Cx}{pins:List (Addr×Obj)}{σ:St}{H:Hp}{s:Shared}{a:Addr}{kvs:List (Key×V)}{k:Key}{u:Value}{A:Around}{E:Value->Shared->Prop}
end
def NoSl(i:Expr):Prop:=∀ov iv,subscripted i false ov iv=operate [ov,iv] (getItem ov iv)
theorem j39{prog:Program}{w:World}{A:Around}{E:Value->Shared->Prop}{s:Shared}{env:Env}{b a:Expr}{pos:Pos}{T id:String}{Q:Value->Shared->Prop}
  (m:typeLookup (.type T) "__getitem__"= pure (some (.builtin id))) (n:NoSl a)
  (h:wpAny (model prog w) A (eval b env) (fun o e=>wpAny (model prog w) A (eval a env) (fun i c=>c.TypeIs o T/\wpAny (model prog w) A (getItem o i) Q E c) E e) E s) :
  wpAny (model prog w) A (eval (.Subscript b a pos) env) Q E s:=by
 refine Subscript_ (wpAny_mono h (fun o e j=>wpAny_mono j (fun i c d=>?_) fun _ _ x=>x) fun _ _ x=>x);obtain⟨l,d⟩:=d;unfold subscriptTail;refine ug ?_;rw[getitemInPython_of_ne l.not_modules];refine ug (wpAny_specialOf l m ?_);have g:wpAny (model prog w) A (subscripted a false o i) (fun r f=>wpAny (model prog w) A (letTemporaryGo b o r >>= fun _=>pure r) Q E f) E c:=by
  rw[n o i];exact wpAny_operating (wpAny_mono d (fun r f k=>ug (wpAny_letTemporaryGo (uf k))) fun _ _ x=>x)
 first
  | exact uf (ug g)
  | exact ug (uf (ug g))
  | exact ug g
theorem Wn{f:St}{H:Hp}(I:Inv X pins f H s)(g:DGet H a y o):s.TypeIs (.ref a) "dict":=by
 rcases g with⟨d,k,e,_,_⟩ | ⟨d,k,b,e,_,_,_⟩
 ·obtain⟨_,_,h,_,c⟩:=Wr I.hok e;exact c.typeIs
 ·obtain⟨_,_,i,_,c⟩:=Wu I.hok e;exact c.typeIs
def tDGet(td ty:TE):TE:=fun σ H Q=>td σ H fun x H1=>ty σ H1 fun y H2=>∃a v,x = .ref a/\DGet H2 a y (some v)/\Q v H2
def tDIn(ty td:TE):TE:=fun σ H Q=>ty σ H fun y H1=>td σ H1 fun x H2=>∃a o,x = .ref a/\DGet H2 a y o/\Q (.bl o.isSome) H2
def tDNotIn(ty td:TE):TE:=fun σ H Q=>ty σ H fun y H1=>td σ H1 fun x H2=>∃a o,x = .ref a/\DGet H2 a y o/\Q (.bl (!o.isSome)) H2
def sDPut(td ty tv:TE):TS:=fun D σ H=>tv σ H fun v H1=>td σ H1 fun x H2=>ty σ H2 fun y H3=>∃a H4,x = .ref a/\DPut H3 a y v H4/\D.nx σ H4
section
variable{X:Cx}{o i e value:Expr}{pos pos' tpos:Pos}{td ty tv:TE}
theorem yV(q:X.A.units+1<cLine)(n:PE X o td)(hi:PE X i ty)(p:NoSl i:=by exact fun _ _=>rfl):PE X (.Subscript o i pos) (tDGet td ty):=by
 intro b s e H Q I h;refine j39 PySem.F.slot_dict_getitem.lookup p (thn (n b s e H _ I h) fun u A ⟨x,f,k,w,r⟩=>thn (hi b A e f _ k r) fun B C ⟨y,j,d,z,a,v,m,g,t⟩=>?_);subst m;obtain rfl:u=Value.ref a:=w;exact⟨Wn d g,j0p q d g z fun E D l c=>⟨v,j,l,c,t⟩⟩
theorem wN(n:X.A.units+1<cLine)(hi:PE X i ty)(m:PE X o td):PC X .In i o (tDIn ty td):=by
 intro b s c H Q I h;refine thn (hi b s c H _ I h) fun z w ⟨y,d,f,v,q⟩=>thn (m b w c d _ f q) fun u A ⟨x,e,j,t,a,p,l,g,r⟩=>?_
 subst l;obtain rfl:u=Value.ref a:=t;exact j4v n j g v fun B k=>⟨.bl p.isSome,e,k,rfl,r⟩
theorem Yr(n:X.A.units+1<cLine)(hi:PE X i ty)(m:PE X o td):PC X .NotIn i o (tDNotIn ty td):=by
 intro b s c H Q I h;refine thn (hi b s c H _ I h) fun z w ⟨y,d,f,v,q⟩=>thn (m b w c d _ f q) fun u A ⟨x,e,j,t,a,p,l,g,r⟩=>?_
 subst l;obtain rfl:u=Value.ref a:=t;exact j2v n j g v fun B k=>⟨.bl (!p.isSome),e,k,rfl,r⟩
theorem ZV(t:X.A.units+1<cLine)(p:PE X o td)(hi:PE X i ty)(w:PE X value tv)(q:swapsWith value (some (.Subscript o i pos')) pos.line X.env=pure false) :
  PS X (.Assign [.Subscript o i pos'] value pos) (sDPut td ty tv):=by
 intro b s c H D I h;refine wpAny_Assign_Subscript (thn (w b s c H _ I h) fun r G ⟨v,d,j,C,z⟩=>thn (p b G c d _ j z) fun u J ⟨x,e,k,E,A⟩=>thn (hi b J c e _ k A) fun L M ⟨y,K,l,F,a,f,n,g,B⟩=>?_) q;subst n;obtain rfl:u=Value.ref a:=E;exact j0q t l g F C fun N m=>⟨c,f,m,B⟩
end
theorem j1k{H:Hp}(h:Heap)(a:sysModules<h.objs.size):ObjOk P w H (h.push {cls:=.type "dict",data:=.dict #[]}) h.objs.size (.dK []):=
 ⟨vC _,beq_eq_false_iff_ne.mpr (Ne.symm (vI a)),[],.nil,Heap.DictOf.new h⟩
def tDNewK:TE:=fun _ H Q=>∀p,H p=none->Q (.ref p) (upd H p (.dK []))
section
variable{X:Cx}{pos:Pos}
theorem zD:PE X (.Dict [] [] pos) tDNewK:=fun b s c H Q I h=>
 wpAny_Dict_empty ⟨.ref s.heap.objs.size,_,I.laid (a:=s.heap.objs.size) (o:=.dK []) (t':=s.toks) (fun _ _ q=>vN _ q) (vB _) (j1k s.heap I.big),rfl,h _ (I.hok.fresh (vB _))⟩
end
noncomputable def mergeK(kvs more:List (Key×V)):List (Key×V):=more.foldl (fun acc kv=>putK acc kv.1 kv.2) kvs
theorem KV.merge:∀{more:List (Key×V)} {a:List (Key×Value)} {kvs:List (Key×V)} {vs:List (Key×Value)},KV more a->KV kvs vs->KV (mergeK kvs more) (merged vs a):=by
 intro more a kvs vs r;unfold KV at r
 induction r generalizing kvs vs with
 | nil=>intro q;exact q
 | @cons p q ps qs h t ih=>
  intro b;have e:KV (putK kvs p.1 p.2) (stored vs q.1 q.2):=by
   have:=b.put p.1 h.2;rw[<-h.1];exact this
  exact ih e
theorem zA:∀(more kvs:List (Key×V)),(mergeK kvs more).length<=kvs.length+more.length
 | [],kvs=>by show kvs.length<=kvs.length+0;lia
 | p::r,kvs=>by
  have a:=zA r (putK kvs p.1 p.2);have b:=Zu kvs p.1 p.2;show(mergeK (putK kvs p.1 p.2) r).length<=_;rw[vT];lia
section
variable{X:Cx}{pins:List (Addr×Obj)}{σ:St}{H:Hp}{s:Shared}{a:Addr}{y d:V}{u r:Value}{o:Option V}{A:Around}{E:Value->Shared->Prop}
end
section
variable{X:Cx}{o e f:Expr}{apos cpos:Pos}{td ty tx:TE}
end
section
variable{X:Cx}{pins:List (Addr×Obj)}{σ:St}{H:Hp}{s:Shared}{a:Addr}{kvs:List (Key×V)}{A:Around}{E:Value->Shared->Prop}
end
section
variable{X:Cx}{pins:List (Addr×Obj)}{σ:St}{H:Hp}{s:Shared}{a:Addr}{y:V}{u:Value}{A:Around}{E:Value->Shared->Prop}
end
section
variable{X:Cx}
end
section
variable{κ:Type}[DecidableEq κ]
end
theorem compLoopT{R:Result->Shared->Prop}{pos:Pos}(I:Nat->Shared->Prop)
  (u:∀n s,I n s->wpAny (model prog w) A (pyNext it) (fun r b=>match r with
   | none=>R (.ok .next) b
   | some v=>wpAny (model prog w) A (letOwnedTupleGo target it v) (fun _ g=>wpAny (model prog w) A (assign target env v) (fun _ i=>
     wpAny (model prog w) A (forIn ifs true fun c r=>if r=true then do let t <-isTrue c env (eval c env);pure (ForInStep.yield t)else pure (ForInStep.yield r)) (fun t d=>
      if t=true then wpAny (model prog w) A (eval elt env) (fun x j=>
       wpAny (model prog w) A (call (.builtin "list.append") [acc,x]) (fun _ k=>∃m,m<n/\I m k) (fun _ _=>False) j) (fun _ _=>False) d
      else∃m,m<n/\I m d) (fun _ _=>False) i) (fun _ _=>False) g) (fun _ _=>False) b) (fun _ _=>False) s)
  (n:Nat) (h:I n s) :
  codeAny (model prog w) A (.compLoop (.ListComp elt [⟨target,iter,ifs,0⟩] scope pos) 0 it acc env) R s:=by
 refine codeAny_loop rfl I (fun n s y=>?_) n h;show wpAny _ A ((compTurn (.ListComp elt [⟨target,iter,ifs,0⟩] scope pos) 0 it acc env).onRaise (fun x=>do noteFrame x env;theTreesLotGoes x)) _ _ s;refine wpAny_noted ?_;rw[compTurn_list];refine ug (wpAny_standAt (ug (wpAny_mono (u n s y) (fun r b e=>?_) fun _ _ a=>a.elim)));cases r with
 | none=>exact uf e
 | some v=>
  refine ug (wpAny_mono e (fun _ g l=>?_) fun _ _ a=>a.elim);refine ug (wpAny_mono l (fun _ i o=>ug (wpAny_mono o (fun t d f=>?_) fun _ _ a=>a.elim)) fun _ _ a=>a.elim);cases t with
  | false=>exact uf ⟨rfl,f⟩
  | true=>
   exact ug (ug (wpAny_mono f (fun x j p=>ug (wpAny_mono p (fun _ k q=>uf (uf ⟨rfl,q⟩)) fun _ _ a=>a.elim)) fun _ _ a=>a.elim))
def PF(X:Cx)(ifs:List Expr)(t:TT):Prop:=
 ∀(pins:List (Addr×Obj)) (s:Shared) (σ:St) (H:Hp) (Q:Bool->Hp->Prop),Inv X pins σ H s->t σ H Q->
  wpAny (model X.prog X.w) X.A (forIn ifs true fun c r=>if r=true then do let ok <-isTrue c X.env (eval c X.env);pure (ForInStep.yield ok)else pure (ForInStep.yield r)) (TP X pins σ Q) X.xe s
def tYes:TT:=fun _ H Q=>Q true H
theorem qh:PF X [] tYes:=fun _ _ _ H _ I h=>wpAny_tests_nil ⟨H,I,h⟩
theorem Xr(b:PT X c t):PF X [c] t:=fun a s d H Q I h=>wpAny_tests_one (b a s d H Q I h)
noncomputable def closL(env:Env):List (Str×NameKind)->List (Str×Addr)->List (Str×Addr)
 | [],acc=>acc
 | (n,k)::r,acc=>closL env r (if k == .free then(n,(env.cells.lookup n).getD 0)::acc else acc)
theorem yL(h:∀y∈scope.names,y.2 = .free->∃c,env.cells.lookup y.1=some c):closureFor scope env=pure (closL env scope.names []):=by
 have o:∀(b:List (Str×NameKind)) (d:List (Str×Addr)),(∀y∈b,y.2 = .free->∃c,env.cells.lookup y.1=some c)->
   (forIn (m:=Sem) b d fun x r=>(match x with | (name,kind)=>if(kind == .free)=true then do let a <-cellOf env name;pure (ForInStep.yield ((name,a)::r))else pure (ForInStep.yield r)))=pure (closL env b d):=by
  intro b
  induction b with
  | nil=>intro d _;rfl
  | cons y r ih=>
   obtain⟨n,k⟩:=y;intro d e;rw[forIn_cons];cases hk:(k==NameKind.free)with
   | true=>
    have f:k = .free:=by simpa using hk
    obtain⟨c,j⟩:=e (n,k) vq f;have l:cellOf env n=pure c:=by unfold cellOf;rw[j]
    simp only[hk,if_true,l,pure_bind,closL,j,Option.getD_some];exact ih _ fun y i=>e y (vp _ i)
   | false=>
    simp only[hk,Bool.false_eq_true,if_false,pure_bind,closL];exact ih _ fun y i=>e y (vp _ i)
 have g:=o scope.names [] h;unfold closureFor;simp only[g,pure_bind]
theorem KL:∀(a:List (Str×NameKind)) (b:List (Str×Addr)),(∀y∈a,y.2 = .free->∃c,env.cells.lookup y.1=some c)->(∀x c,b.lookup x=some c->env.cells.lookup x=some c)->
  ∀x c,(closL env a b).lookup x=some c->env.cells.lookup x=some c
 | [],_,_,ha,x,c,h=>ha x c h
 | (n,k)::r,b,hh,ha,x,c,h=>by
  refine KL r _ (fun y g=>hh y (vp _ g)) (fun x c e=>?_) x c h;cases hk:(k==NameKind.free)with
  | false=>rw[hk]at e;exact ha x c e
  | true=>
   rw[hk]at e;have d:k = .free:=by simpa using hk
   obtain⟨i,f⟩:=hh (n,k) vq d;simp only[if_true,f,Option.getD_some]at e;rw[lookup_cons]at e;cases hx:(x==n)with
   | true=>
    rw[hx]at e;have:x=n:=by simpa using hx
    rw[this,f];exact e
   | false=>rw[hx]at e;exact ha x c e
theorem KK:∀(b:List (Str×NameKind)) (a:List (Str×Addr)) (x:Str),(∃c,a.lookup x=some c)->∃c,(closL env b a).lookup x=some c
 | [],_,_,h=>h
 | (n,k)::r,a,x,h=>by
  refine KK r _ x ?_;cases hk:(k==NameKind.free)with
  | false=>exact h
  | true=>
   simp only[if_true];rw[lookup_cons];cases hx:(x==n)with
   | true=>exact⟨_,rfl⟩
   | false=>exact h
theorem Yg:∀(a:List (Str×NameKind)) (b:List (Str×Addr)) (x:Str),(x,NameKind.free)∈a->∃c,(closL env a b).lookup x=some c
 | [],_,_,h=>by simp at h
 | (n,k)::r,b,x,h=>by
  rcases mem_cons.mp h with e | h
  ·cases e;refine KK r _ _ ?_;simp
  ·exact Yg r _ x h
theorem ze{env:Env}:∀{a:List (Str×NameKind)} {x:Str} {k:NameKind},(a.map fun(n,k)=>if(k==NameKind.free&&env.scope.kind == .function&&env.kindOf n==some .cell)then(n,NameKind.cell)else(n,k)).lookup x=some k->
  ∃c,(x,c)∈a/\a.lookup x=some c/\(c=k\/(c = .free/\k = .cell))
 | [],_,_,h=>by simp at h
 | (n,k₀)::r,x,k,h=>by
  have j:=@ze env r x k;rw[uy]at h;dsimp only at h;cases hx:x==n with
  | true=>
   have e:x=n:=by simpa using hx
   subst e;refine⟨k₀,vq,by simp,?_⟩;by_cases b:(k₀==NameKind.free&&env.scope.kind == .function&&env.kindOf x==some .cell)=true
   ·rw[va b]at h;simp only[lookup_cons,beq_self_eq_true]at h;simp only[Bool.and_eq_true,beq_iff_eq]at b;exact .inr ⟨b.1.1,(vP h).symm⟩
   ·rw[vA b]at h;simp only[lookup_cons,beq_self_eq_true]at h;exact .inl (vP h)
  | false=>
   have d:(r.map fun(n,k)=>if(k==NameKind.free&&env.scope.kind == .function&&env.kindOf n==some .cell)then(n,NameKind.cell)else(n,k)).lookup x=some k:=by
    by_cases b:(k₀==NameKind.free&&env.scope.kind == .function&&env.kindOf n==some .cell)=true
    ·rw[va b]at h;simpa only[lookup_cons,hx]using h
    ·rw[vA b]at h;simpa only[lookup_cons,hx]using h
   obtain⟨c,f,g,i⟩:=j d;exact⟨c,vp _ f,by simpa only[lookup_cons,hx]using g,i⟩
theorem Yf:∀(b:List (Str×NameKind)) (n:Nat) (a:List (Str×Addr)) (x:Str) (c:Addr),(cellsFrom n b a).lookup x=some c->n<=c\/a.lookup x=some c
 | [],_,_,_,_,h=>.inr h
 | (y,k)::r,n,a,x,c,h=>by
  unfold cellsFrom at h;split at h
  ·rcases Yf r (n+1) _ x c h with q | q
   ·exact .inl (by lia)
   ·rw[lookup_cons]at q;cases hx:x==y with
    | true=>rw[hx]at q;cases q;exact .inl (vB _)
    | false=>rw[hx]at q;exact .inr q
  ·exact Yf r n a x c h
theorem xE:∀(b:List (Str×NameKind)) (n:Nat) (a:List (Str×Addr)),(∀x c,a.lookup x=some c->c<n)->(∀x y c,a.lookup x=some c->a.lookup y=some c->x=y)->
  ∀x y c,(cellsFrom n b a).lookup x=some c->(cellsFrom n b a).lookup y=some c->x=y
 | [],_,_,_,hi,x,y,c,h1,h2=>hi x y c h1 h2
 | (z,k)::r,n,a,hb,hi,x,y,c,h1,h2=>by
  unfold cellsFrom at h1 h2;split at h1
  ·rename_i hk;rw[va hk]at h2;refine xE r (n+1) _ (fun x c e=>?_) (fun x y c f d=>?_) x y c h1 h2
   ·rw[lookup_cons]at e;cases hx:x==z with
    | true=>rw[hx]at e;cases e;exact Nat.lt_succ_self _
    | false=>rw[hx]at e;exact Nat.lt_succ_of_lt (hb x c e)
   ·rw[lookup_cons]at f d;cases hx:x==z with
    | true=>
     rw[hx]at f;cases f;cases hy:y==z with
     | true=>rw[beq_iff_eq.mp hx,beq_iff_eq.mp hy]
     | false=>rw[hy]at d;exact ue (hb y n d) (Nat.lt_irrefl _)
    | false=>
     rw[hx]at f;cases hy:y==z with
     | true=>rw[hy]at d;cases d;exact ue (hb x n f) (Nat.lt_irrefl _)
     | false=>rw[hy]at d;exact hi x y c f d
  ·rename_i hk;rw[vA hk]at h2;exact xE r n a hb hi x y c h1 h2
theorem wo:∀(b:List (Str×NameKind)) (n:Nat) (a:List (Str×Addr)) (x:Str),(∃c,a.lookup x=some c)->∃c,(cellsFrom n b a).lookup x=some c
 | [],_,_,_,h=>h
 | (y,k)::r,n,a,x,h=>by
  unfold cellsFrom;split
  ·refine wo r (n+1) _ x ?_;rw[lookup_cons];cases hx:x==y with
   | true=>exact⟨_,rfl⟩
   | false=>exact h
  ·exact wo r n a x h
theorem xD:∀(a:List (Str×NameKind)) (n:Nat) (b:List (Str×Addr)) (x:Str),(x,NameKind.cell)∈a->∃c,(cellsFrom n a b).lookup x=some c
 | [],_,_,_,h=>by simp at h
 | (y,k)::r,n,b,x,h=>by
  unfold cellsFrom;rcases mem_cons.mp h with e | h
  ·cases e;simp only[beq_self_eq_true,if_true];exact wo r _ _ _ (by simp)
  ·split
   ·exact xD r _ _ x h
   ·exact xD r _ _ x h
theorem xG:∀(a:List (Str×NameKind)) (n:Nat) (b:List (Str×Addr)) (x:Str),(x,NameKind.cell)∉a->(cellsFrom n a b).lookup x=b.lookup x
 | [],_,_,_,_=>rfl
 | (y,k)::r,n,b,x,h=>by
  have c:(x,NameKind.cell)∉r:=fun q=>h (vp _ q)
  unfold cellsFrom;split
  ·rename_i hk;rw[xG r _ _ x c,lookup_cons];cases hx:x==y with
   | true=>rw[beq_iff_eq.mp hx,beq_iff_eq.mp hk]at h;exact ue vq h
   | false=>rfl
  ·exact xG r n b x c
theorem xF:∀(b:List (Str×NameKind)) (a n:Nat) (d:List (Str×Addr)) (x:Str) (c:Addr),a<=n->((x,NameKind.cell)∈b\/∀c,d.lookup x=some c->a<=c)->(cellsFrom n b d).lookup x=some c->a<=c
 | [],_,_,_,_,c,_,h,e=>h.elim (fun z=>by simp at z) fun z=>z c e
 | (y,k)::r,a,n,d,x,c,hn,h,e=>by
  unfold cellsFrom at e;split at e
  ·refine xF r a (n+1) _ x c (by lia) ?_ e;rcases h with h | h
   ·rcases mem_cons.mp h with q | q
    ·cases q;exact .inr fun c q=>by rw[lookup_cons,beq_self_eq_true]at q;cases q;exact hn
    ·exact .inl q
   ·refine .inr fun c q=>?_
    rw[lookup_cons]at q;cases hx:x==y with
    | true=>rw[hx]at q;cases q;exact hn
    | false=>rw[hx]at q;exact h c q
  ·rename_i hk;refine xF r a n d x c hn ?_ e;rcases h with h | h
   ·rcases mem_cons.mp h with q | q
    ·cases q;exact ue rfl hk
    ·exact .inl q
   ·exact .inr h
theorem kE:∀(a:List (Str×NameKind)) (h:Heap) (b:List (Str×Addr)) (x:Str) (c:Addr),(cellsFrom h.objs.size a b).lookup x=some c->b.lookup x=some c\/(pushCells h a).IsCell c none
 | [],_,_,_,_,e=>.inl e
 | (y,k)::r,h,b,x,c,e=>by
  unfold cellsFrom at e;unfold pushCells;split
  ·rename_i hk;rw[va hk]at e;rw[<-Heap.size_push h {cls:=.type "cell",data:=.cell none}]at e;rcases kE r _ _ x c e with q | q
   ·rw[lookup_cons]at q;cases hx:x==y with
    | true=>
     rw[hx]at q;cases q;exact .inr ⟨_,pushCells_keeps _ _ _ _ (Heap.get?_push_size _ rfl),rfl⟩
    | false=>rw[hx]at q;exact .inl q
   ·exact .inr q
  ·rename_i hk;rw[vA hk]at e;exact kE r h b x c e
theorem envC{E:Value->Shared->Prop}{Q:Env->Shared->Prop}
  (h:Q (newEnv scope s.heap.objs.size globals (cellsFrom (s.heap.objs.size+1) scope.names cl) qual none .none (some env) builtinsNs) {s with heap:=pushCells (s.heap.push {cls:=.type "dict",data:=.dict #[]}) scope.names}) :
  wpAny M A (newFunctionEnv scope globals cl [] qual none .none (some env)) Q E s:=by
 simp only[newFunctionEnv,Option.isSome_some,if_true];refine ug (wpAny_alloc ?_);refine ug (wpAny_layCells _ (fun c a b=>by cases hkc:a==NameKind.cell<;>simp[hkc]) _ _ _ _ ?_);rw[show({s with heap:=s.heap.push {cls:=.type "dict",data:=.dict #[]}}:Shared).heap.objs.size=s.heap.objs.size+1 from Heap.size_push ..];rw[forIn_nil];exact ug (uf (uf h))
noncomputable def blk(X:Cx)(scope:Scope)(ow:List Str)(ci:List Nat)(C:Addr)(s₀:Shared)(H₀:Hp)(ex:List Addr)(pn:List (Addr×Obj)):Cx:=
 {X with N:=ow++ci.map fun j=>X.N.getD j "",s₀:=s₀,H₀:=H₀,env:=compEnvC scope (cellsFrom (C+1) scope.names (closL X.env scope.names [])) C X.env,outer:=X.stack,stack:=X.stack,ex:=ex,fn:=fun x=>scope.names.lookup x==some .cell,pn:=pn,xe:=fun _ _=>False}
structure CompScope(X:Cx)(scope:Scope)(ow:List Str)(ci:List Nat):Prop where
 kind:scope.kind = .function
 cell:∀y∈scope.names,y.2 = .cell->scope.names.lookup y.1=some .cell
 names:∀y∈scope.names,y.2 = .local->scope.names.lookup y.1=some .local
 free:∀y∈scope.names,y.2 = .free->X.env.kindOf y.1=some .cell\/X.env.kindOf y.1=some .free
 ix:∀j∈ci,j<X.N.length/\scope.names.lookup (X.N.getD j "")=some .free
noncomputable def compOk(fsc:Scope)(N:List Str)(scope:Scope)(ci:List Nat):Bool:=
 scope.kind == .function&&scope.names.all (fun y=>y.2 != .cell||scope.names.lookup y.1==some .cell)&&scope.names.all (fun y=>y.2 != .local||scope.names.lookup y.1==some .local) &&
 scope.names.all (fun y=>y.2 != .free||fsc.names.lookup y.1==some .cell||fsc.names.lookup y.1==some .free)&&ci.all (fun j=>decide (j<N.length)&&scope.names.lookup (N.getD j "")==some .free)
theorem CompScope.of(a:Scope)(N:List Str)(c:X.env.scope=a)(d:X.N=N)(h:compOk a N scope ci=true):CompScope X scope ow ci:=by
 subst c d;unfold compOk at h;simp only[Bool.and_eq_true,all_eq_true,Bool.or_eq_true,bne_iff_ne,ne_eq,beq_iff_eq,decide_eq_true_eq]at h;obtain⟨⟨⟨⟨f,g⟩,i⟩,k⟩,l⟩:=h;refine⟨f,fun y b e=>(g y b).resolve_left fun z=>z e,fun y b e=>?_,fun y b e=>?_,fun j m=>l j m⟩
 ·rcases i y b with z | z
  ·exact ue e z
  ·exact z
 ·rcases k y b with(z | z) | z
  ·exact ue e z
  ·exact .inl z
  ·exact .inr z
theorem Jg{a:Hp}(N:List Str)(e:X.N=N)(h:(ow++ci.map fun j=>N.getD j "").Nodup):(blk X scope ow ci C s₀ a ex pn).N.Nodup:=by
 subst e;exact h
noncomputable def capAt(σ:St)(j:Nat):Option V:=match σ[j]? with | some o=>o | none=>none
noncomputable def capS(n:Nat)(ci:List Nat)(σ:St):St:=List.replicate n none++ci.map (capAt σ)
def tComp(wi:TI)(n:Nat)(ci:List Nat)(g:TG)(tf:TT)(te:TE):TE:=fun σ H Q=>wi σ H fun J H1=>∃W:Nat->Nat->List V->Hp->Prop,(∃m,W 0 m [] H1)/\∀i m ys H,W i m ys H->
 (J.stop i H/\ys.length<=sizeLine/\∀p,H p=none->Q (.ref p) (upd H p (.lst ys)))\/
 (J.go i H/\∃N:List V->Hp->Prop,(∀ys' H',N ys' H'->∃m',m'<m/\W (i+1) m' ys' H')/\∀x H',J.yld i H x H'->g x (capS n ci σ) H' fun σ2 H2=>tf σ2 H2 fun b H3=>
  if b=true then te σ2 H3 fun v H4=>ys.length<sizeLine/\N (ys++[v]) H4 else N ys H3)
section
variable{X:Cx}{pins:List (Addr×Obj)}{σ:St}{H:Hp}{s:Shared}{elt iter tg:Expr}{ifs:List Expr}{scope:Scope}{pos:Pos}{ow:List Str}{ci:List Nat}{g:TG}{tf:TT}{te:TE}
theorem CompScope.cells(S:CompScope X scope ow ci)(b:X.Ok):∀y∈scope.names,y.2 = .free->∃c,X.env.cells.lookup y.1=some c:=fun y a e=>b.has y.1 (S.free y a e)
theorem CompScope.sub(S:CompScope X scope ow ci)(a:X.Ok):∀x c,(closL X.env scope.names []).lookup x=some c->X.env.cells.lookup x=some c:=
 KL scope.names [] (S.cells a) fun _ _ e=>by simp at e
theorem CompScope.cel(S:CompScope X scope ow ci)(a:X.Ok)(h:(cellsFrom (C+1) scope.names (closL X.env scope.names [])).lookup x=some c):C+1<=c\/X.env.cells.lookup x=some c:=
 (Yf _ _ _ _ _ h).imp id (S.sub a x c)
theorem j3q(S:CompScope X scope ow ci)(I:Inv X pins σ H s)(f:s.heap.objs.size<=C)
  (a:∀b∈ex,b<s.heap.objs.size/\FpOk X pins H b):(blk X scope ow ci C s H ex pn).Ok where
 mod:=I.ok.mod
 kind:=S.kind
 glob:=I.ok.glob
 blt:=I.ok.blt
 above:=f
 inj:=xE scope.names (C+1) _ (fun x c e=>by
   obtain⟨v,q⟩:=I.cell x c (S.sub I.ok x c e);exact Nat.lt_succ_of_le (v3 (Nat.lt_of_lt_of_le q.lt f))) fun x y c i j=>I.ok.inj x y c (S.sub I.ok x c i) (S.sub I.ok y c j)
 has:=fun x h=>by
  have n:∃k,(relabel scope X.env).names.lookup x=some k/\(k = .cell\/k = .free):=by
   rcases h with h | h
   ·exact⟨_,h,.inl rfl⟩
   ·exact⟨_,h,.inr rfl⟩
  obtain⟨k,t,r⟩:=n;obtain⟨m,l,_,e⟩:=ze (env:=X.env) t;have g:m = .cell\/m = .free:=by
   rcases e with e | ⟨e,_⟩
   ·subst e;exact r
   ·exact .inr e
  rcases g with g | g
  ·subst g;exact xD scope.names _ _ x l
  ·subst g;exact wo scope.names _ _ x (Yg scope.names [] x l)
 cab:=fun x c h e=>vZ (vZ f (Nat.le_succ _)) (xF scope.names (C+1) (C+1) _ x c (vB _) (.inl (PySem.mem_of_lookup (beq_iff_eq.mp h))) e)
 hd:=I.ok.hd
 frames:=I.ok.frames
 stk:=.inl rfl
 exf:=fun b d=>⟨vI (Nat.lt_of_lt_of_le (a b d).1 f),fun x c e=>(S.cel I.ok e).elim (fun q z=>Nat.lt_irrefl _ (Nat.lt_of_lt_of_le (z▸(a b d).1) (vZ f (vZ (Nat.le_succ _) q)))) fun q=>(a b d).2.2.2.2.2.1 x c q⟩
 bs:=I.bs
 bsz:=vZ I.ok.bsz I.sz
 noex:=fun b o e d=>by
  obtain⟨_,_,_,p,_⟩:=(a b d).2;rcases p with z | z
  ·exact I.ok.noex b o e z
  ·exact ue (Nat.lt_of_lt_of_le (vM e) (vZ I.ok.bsz z)) (Nat.lt_irrefl _)
 exfs:=fun b d z=>by
  obtain⟨_,i,j,_⟩:=(a b d).2;rcases mem_cons.mp (I.stkSub b z)with e | e
  ·exact i e
  ·exact j e
 funs:=I.stack
 frf:=I.stkFree
theorem j0g(S:CompScope X scope ow ci)(I:Inv X pins σ H s){h:Str->Option Value}(D:s.heap.objs.size<=C)
  (F:∀b∈ex,b<s.heap.objs.size/\FpOk X pins H b) (Y:h₁.Ns C h) (k:∀b o,s.heap.get? b=some o->h₁.get? b=some o)
  (A:∀x c,(cellsFrom (C+1) scope.names (closL X.env scope.names [])).lookup x=some c->(closL X.env scope.names []).lookup x=some c\/h₁.IsCell c none) :
  Inv (blk X scope ow ci C s H ex (X.pn++pins)) [] (capS ow.length ci σ) H {s with heap:=h₁,toks:=t₁}:=by
 have ok:=j3q (pn:=X.pn++pins) S I D F;refine⟨ok,rfl,I.bare,Un.kept k,⟨h,Y,fun i x v Q f R=>?_⟩,fun x c e=>?_,I.hok.fresh D,fun x c e=>(S.cel I.ok e).elim (fun q=>I.hok.fresh (vZ D (vZ (Nat.le_succ _) q))) (I.freeC x c),fun p Z=>?_,I.hok.kept k,?_⟩
 ·have l:(ow++ci.map fun j=>X.N.getD j "")[i]?=some x:=Q;unfold capS at f;by_cases G:i<ow.length
  ·rw[vF (by simpa using G),List.getElem?_replicate,va G]at f;cases f
  ·rw[vG (by simpa using G),vv,List.length_replicate]at f;rw[vG (by lia),vv]at l;cases hj:ci[i-ow.length]? with
   | none=>rw[hj]at f;cases f
   | some j=>
    rw[hj]at l f;obtain⟨W,E⟩:=S.ix j (vj hj);have w:X.N.getD j ""= x:=vP l;have T:X.N[j]?=some x:=by
     rw[<-w,vy,vz W];rfl
    have ev:σ[j]?=some (some v):=by
     have a:capAt σ j=some v:=vP f;unfold capAt at a;cases q:σ[j]? with
     | none=>rw[q]at a;cases a
     | some o=>rw[q]at a;rw[show o=some v from a]
    rw[w]at E;have g:(x,NameKind.free)∈scope.names:=PySem.mem_of_lookup E;have N:=S.free _ g rfl;obtain⟨m,_,J⟩:=I.loc;have L:Vis X.env.scope x:=by
     rcases N with q | q
     ·exact .inr (.inl q)
     ·exact .inr (.inr q)
    obtain⟨u,r,lk⟩:=J j x v T ev L;refine⟨u,r,.inr ⟨?_,?_⟩⟩
    ·rcases R with q | q | q
     ·obtain⟨k',_,M,B⟩:=ze (env:=X.env) q;rw[E]at M;cases M;rcases B with B | ⟨_,B⟩<;>cases B
     ·exact .inl q
     ·exact .inr q
    ·rcases lk with⟨q,_⟩ | ⟨_,c,U,t⟩
     ·have O:X.env.kindOf x=some .local:=q;rcases N with z | z<;>(rw[z]at O;cases O)
     ·obtain⟨P,y⟩:=Yg (env:=X.env) scope.names [] x g;have e:=S.sub I.ok x P y;rw[U]at e;cases e;refine⟨c,?_,t.keeps k⟩;show(cellsFrom (C+1) scope.names (closL X.env scope.names [])).lookup x=some c;rw[xG scope.names _ _ x fun z=>?_]
      ·exact y
      ·have:=S.cell _ z rfl;rw[E]at this;cases this
 ·rcases A x c e with q | q
  ·obtain⟨v,q⟩:=I.cell x c (S.sub I.ok x c q);exact⟨v,q.keeps k⟩
  ·exact⟨_,q⟩
 ·have K:p∈X.pn++pins:=by
   rcases vg.mp Z with z | z
   ·exact z
   ·cases z
  obtain⟨e,n,ne,nf,d⟩:=I.pin p K;refine⟨k _ _ e,n,vI (Nat.lt_of_lt_of_le (vM e) D),fun z=>?_,d⟩;rcases mem_cons.mp (I.stkSub p.1 z)with q | q
  ·exact ne q
  ·exact nf q
 ·show(capS ow.length ci σ).length=(ow++ci.map fun j=>X.N.getD j "").length;simp[capS]
theorem Inv.forget{σ':St}(I:Inv X pins σ' H s)(n:Nat)(ci:List Nat)(a:St)(c:(capS n ci a).length=X.N.length)(h:∀i v,n<=i->(capS n ci a)[i]?=some (some v)->σ'[i]?=some (some v)):Inv X pins (capS n ci a) H s:=
 I.weak (by rw[c,I.len]) fun i v e=>by
  by_cases b:n<=i
  ·exact h i v b e
  ·unfold capS at e;rw[vF (by simpa using b),List.getElem?_replicate,va (by lia)]at e;cases e
def GKeeps(n:Nat)(g:TG):Prop:=∀x σ H (Q:St->Hp->Prop),g x σ H Q->g x σ H fun σ2 H2=>(∀(i:Nat) v,n<=i->σ[i]?=some (some v)->σ2[i]?=some (some v))/\Q σ2 H2
theorem Jv(h:i<n):GKeeps n (gName i):=fun x b H Q q=>⟨fun j v a e=>by rw[List.getElem?_set_ne (by lia)];exact e,q⟩
theorem wy{K:Frg}{n i j:Nat}(hi:i<n)(p:j<n):GKeeps n (gTup K 2 (gCons (gName i) (gCons (gName j) gNil))):=fun x t H Q q=>by
 obtain⟨a,o,b,c,d,v,r,f,m,l,g,h,q⟩:=q;refine⟨a,o,b,c,d,v,r,f,m,l,g,h,fun k u s e=>?_,q⟩;rw[List.getElem?_set_ne (by lia),List.getElem?_set_ne (by lia)];exact e
theorem kF{E:Value->Shared->Prop}{tn:Nat->Heap->Prop}{RR:Value->Addr->Result->Shared->Prop}(hc:X.calm=true)(S:CompScope X scope ow ci)(hk:GKeeps ow.length g)
  (a:∀C F y ex pn,PG (blk X scope ow ci C F y ex pn) tg g/\PF (blk X scope ow ci C F y ex pn) ifs tf/\PE (blk X scope ow ci C F y ex pn) elt te)
  (I:Inv X pins σ H s) (T:Turn X.prog X.w X.K tg J fp it tn) (st:tn 0 s.heap) (hf:∀b∈fp,FpOk X pins H b) (Z:List V->Hp->Prop)
  (W:Nat->Nat->List V->Hp->Prop) (w0:∃m,W 0 m [] H)
  (aP:∀i m ys H,W i m ys H->(J.stop i H/\ys.length<=sizeLine/\Z ys H)\/
   (J.go i H/\∃N:List V->Hp->Prop,(∀aQ H',N aQ H'->∃m',m'<m/\W (i+1) m' aQ H')/\∀x H',J.yld i H x H'->g x (capS ow.length ci σ) H' fun aR H2=>tf aR H2 fun b H3=>
    if b=true then te aR H3 fun v H4=>ys.length<sizeLine/\N (ys++[v]) H4 else N ys H3))
  (aY:∀D C s' H' m ys,Inv X pins σ (upd H' D (.lst ys)) s'->H' D=none->Z ys H'->s'.heap.Ns C m->s.heap.objs.size<=C->C≠D->H' C=none->RR (.ref D) C (.ok .next) s') :
  wpAny (model X.prog X.w) X.A (newList []) (fun an aN=>wpAny (model X.prog X.w) X.A (newFunctionEnv scope X.env.globals (closL X.env scope.names []) [] X.env.qual none .none (some X.env)) (fun a6 aO=>
   codeAny (model X.prog X.w) X.A (.compStart (.ListComp elt [⟨tg,iter,ifs,0⟩] scope pos) 0 (.ref it) an {a6 with scope:=relabel scope X.env}) (RR an a6.locals) aO) E aN) E s:=by
 refine wpAny_newObj_type (envC ?_);dsimp only;generalize O:({s with heap:=s.heap.push {cls:=.type "list",dict:=none,data:=.seq ([]:List Value).toArray}}:Shared)=s3;have e3:s3.heap=s.heap.push {cls:=.type "list",dict:=none,data:=.seq ([]:List Value).toArray}:=by rw[<-O]
 rw[<-e3];generalize ad:pushCells (s3.heap.push {cls:=.type "dict",data:=.dict #[]}) scope.names=h₁;have k3:∀b o,s.heap.get? b=some o->s3.heap.get? b=some o:=fun b o e=>by rw[e3];exact vN _ e
 have hsz:s3.heap.objs.size=s.heap.objs.size+1:=by rw[e3,Heap.size_push]
 have I3:Inv X pins σ H s3:=by rw[<-O];exact I.kept (t':=s.toks) fun b o e=>vN _ e
 have b4:s3.heap.get? s.heap.objs.size=some {cls:=.type "list",dict:=none,data:=.seq ([]:List Value).toArray}:=by rw[e3];exact Heap.get?_push_size _ rfl
 generalize ac:s.heap.objs.size=D at *;generalize l:s3.heap.objs.size=C at *;have A:D<C:=by lia
 have ar:H D=none:=I.hok.fresh (Nat.le_of_eq ac);have aZ:FpOk X pins H D:=I.fpOk (Nat.le_of_eq ac) ar;have ae:∀(b:Addr) o,s.heap.get? b=some o->b<D:=fun b o e=>by rw[<-ac];exact vM e
 have bd:∀(b:Addr) o,s3.heap.get? b=some o->b<C:=fun b o e=>by rw[<-l];exact vM e
 have a8:∀b∈fp,b<D:=fun b a=>by
  obtain⟨o,e,_⟩:=T.obj 0 _ st b a;exact ae b o e
 have G:∀b∈D::fp,b<s3.heap.objs.size/\FpOk X pins H b:=fun b a=>by
  rw[l];rcases mem_cons.mp a with rfl | a
  ·exact⟨A,aZ⟩
  ·exact⟨Nat.lt_trans (a8 b a) A,hf b a⟩
 have kk:∀b o,s3.heap.get? b=some o->h₁.get? b=some o:=fun b o e=>by rw[<-ad];exact pushCells_keeps _ _ b o (vN _ e)
 have M:h₁.Ns C fun _=>none:=by rw[<-ad,<-l];exact(Heap.Ns.new s3.heap (.type "dict")).keeps (pushCells_keeps _ _)
 have ay:∀x c,(cellsFrom (C+1) scope.names (closL X.env scope.names [])).lookup x=some c->(closL X.env scope.names []).lookup x=some c\/h₁.IsCell c none:=fun x c e=>by
  rw[<-ad];refine kE scope.names _ _ x c ?_;rw[Heap.size_push,l];exact e
 obtain⟨hg,av,he⟩:=a C s3 H (D::fp) (X.pn++pins);generalize w:blk X scope ow ci C s3 H (D::fp) (X.pn++pins)=Y at hg av he;have f:Y.prog=X.prog:=by rw[<-w];rfl
 have Yw:Y.w=X.w:=by rw[<-w];rfl
 have YK:Y.K=X.K:=by rw[<-w];rfl
 have YA:Y.A=X.A:=by rw[<-w];rfl
 have Yc:Y.calm=true:=by rw[<-w];exact hc
 have h:Y.env=compEnvC scope (cellsFrom (C+1) scope.names (closL X.env scope.names [])) C X.env:=by rw[<-w];rfl
 have aa:Y.xe=fun _ _=>False:=by rw[<-w];rfl
 have am:Y.fs=frs X.stack:=by rw[<-w];rfl
 have al:Y.ex=D::fp:=by rw[<-w];rfl
 have aW:Y.pn=X.pn++pins:=by rw[<-w];rfl
 have Ys:Y.s₀=s3:=by rw[<-w];rfl
 have YH:Y.H₀=H:=by rw[<-w];rfl
 have YN:(capS ow.length ci σ).length=Y.N.length:=by rw[<-w];show(capS ow.length ci σ).length=(ow++ci.map fun j=>X.N.getD j "").length;simp[capS]
 have af:∀b∈D::fp,b≠Y.env.locals/\b∉Y.fs/\b∈Y.ex/\(∀x c,Y.env.cells.lookup x=some c->c≠b)/\∀p∈Y.pn,p.1≠b:=fun b a=>by
  obtain⟨h0,h1,h2,h3,h4,h5⟩:=(G b a).2;refine⟨by rw[h];exact vI (l▸(G b a).1),fun z=>?_,by rw[al];exact a,fun x c e=>?_,by rw[aW];exact h5⟩
  ·rw[am]at z;rcases mem_cons.mp (I.stkSub b z)with q | q
   ·exact h1 q
   ·exact h2 q
  ·rw[h]at e;rcases S.cel I.ok e with q | q
   ·exact fun z=>Nat.lt_irrefl _ (Nat.lt_of_lt_of_le (l▸(G b a).1) (vZ (Nat.le_succ _) (z▸q)))
   ·exact h4 x c q
 have aE:D∉fp:=fun z=>Nat.lt_irrefl _ (a8 D z)
 have aC:∀s4:Shared,Inv Y [] (capS ow.length ci σ) H s4->tn 0 s4.heap->s4.heap.PlainList D #[]->
   codeAny (model X.prog X.w) X.A (.compLoop (.ListComp elt [⟨tg,iter,ifs,0⟩] scope pos) 0 (.ref it) (.ref D) (compEnvC scope (cellsFrom (C+1) scope.names (closL X.env scope.names [])) C X.env)) (RR (.ref D) C) s4:=by
  intro s4 J4 Q ag;obtain⟨m0,w0⟩:=w0;refine compLoopT (fun n s'=>∃i ys k H',Inv Y [] (capS ow.length ci σ) H' s'/\tn i s'.heap/\(∀b∈fp,H' b=none)/\H' D=none/\s'.heap.PlainList D k/\Vals ys k.toList/\W i n ys H') ?_ m0
   ⟨0,[],#[],H,J4,Q,fun b a=>(hf b a).1,ar,ag,.nil,w0⟩
  rintro n s5 ⟨i,ys,k,U,J5,aK,ap,t,⟨aH,b9⟩,R,w5⟩;have vl:ys.length=k.size:=by have:=R.length;simpa using this
  have aF:∀{H':Hp} {s':Shared} {ai:St},Inv Y [] ai H' s'->H' D=none->∀{o:Obj},s'.heap.get? D=some o->(∀v,o.data≠.cell v)->Inv Y [(D,o)] ai H' s':=fun {H' s' ai} K hD o e d=>
   K.pins_of fun p hp=>by
    have ep:p=(D,o):=by simpa using hp
    subst ep;obtain⟨a1,a2,_⟩:=af D vq;exact⟨e,hD,a1,a2,d⟩
  have P5:=aF J5 t b9 (fun v z=>by cases z);have ab:∀{H':Hp},(∀b∈fp,H' b=none)->∀{o:Obj},∀b∈fp,FpOk Y [(D,o)] H' b:=fun {H'} hn {o} b a=>by
   obtain⟨a1,a2,a3,a4,a5⟩:=af b (vp _ a);refine⟨hn b a,a1,a2,.inl a3,a4,fun p hp=>?_⟩;rcases vg.mp hp with q | q
   ·exact a5 p q
   ·have ep:p=(D,o):=by simpa using q
    subst ep;exact fun z=>aE (by have z':D=b:=z;rw[z'];exact a)
  rcases aP i n ys U w5 with⟨aM,aB,z5⟩ | ⟨go,NN,as,aL⟩
  ·have d:=T.done Y f Yw YK Yc i [(D,_)] s5 _ U (fun _ _=>False) P5 (ab ap) aK aM;rw[YA]at d;refine thn d fun r s6 ⟨hr,J6⟩=>?_
   subst hr;have D6:=(J6.pin (D,_) (mem_append_right _ vq)).1;obtain⟨mC,aw,_⟩:=J6.loc;rw[h]at aw;have ax:s6.heap.Ns C mC:=aw;have b3:U C=none:=by have:=J6.free;rw[h]at this;exact this
   refine aY D C s6 U mC ys ?_ t z5 ax (v3 A) (vR A) b3;have B:=J6.base;rw[am,al,YH,Ys]at B;have aD:∀b o,s.heap.get? b=some o->b≠D/\b≠C:=fun b o e=>⟨vI (ae b o e),vI (Nat.lt_trans (ae b o e) A)⟩
   have P:∀b o,s.heap.get? b=some o->b∉fp->b∉D::fp:=fun b o e a z=>by
    rcases mem_cons.mp z with q | q
    ·exact(aD b o e).1 q
    ·exact a q
   have uN:Un (frs X.stack) fp H (upd U D (.lst ys)) s.heap s6.heap:=by
    refine⟨fun b o e n a hx=>B.keep b o (k3 b o e) n a (P b o e hx),fun b o e n a hx=>B.slot b o (k3 b o e) n a (P b o e hx),fun b o e n hx=>?_,fun b o e hx=>B.there b o (k3 b o e) (P b o e hx),fun b xs q=>?_,fun b o u q=>?_,fun b ps q=>?_⟩
    ·rw[jg (aD b o e).1];exact B.free b o (k3 b o e) n (P b o e hx)
    ·rw[jg (jd (B.tups b xs q) t)];exact B.tups b xs q
    ·rw[jg (jd (B.frzs b o u q) t)];exact B.frzs b o u q
    ·obtain⟨mo,q'⟩:=B.tbls b ps q;exact⟨mo,by rw[jg (jd q' t)];exact q'⟩
   have az:HOk X.prog X.w U s6.heap:=by rw[<-f,<-Yw];exact J6.hok
   have aA:HOk X.prog X.w (upd U D (.lst ys)) s6.heap:=fun b u e=>by
    by_cases au:b=D
    ·subst au;rw[ji]at e;cases e;exact⟨aB,k.toList,_,R,by simpa using D6⟩
    ·rw[jg au]at e;exact(az b u e).stay (fun c v _ q=>q) (fun c q=>by rw[jg (jd q t)];exact q) fun c xs q=>by rw[jg (jd q t)];exact q
   refine I.call' (by rw[J6.os,Ys,<-O]) uN aA J6.bare fun b a=>?_
   obtain⟨h0,h1,h2,h3,h4,h5⟩:=hf b a;exact⟨h3,h1,h4,h5⟩
  ·have d:=T.item Y f Yw YK Yc i [(D,_)] s5 _ U (fun _ _=>False) P5 (ab ap) aK go;rw[YA]at d;refine thn d fun r s6 ⟨u,hr,h6⟩=>?_
   subst hr;refine thn h6 fun _ s7 ⟨x,H7,J7,r7,y7,ah,b0⟩=>?_
   have aT:=J7.pinned (ab b0) (T.obj _ _ ah);have h8:=hg _ s7 _ H7 x u _ aT r7 (hk _ _ _ _ (aL x H7 y7));rw[f,Yw,YA,h,aa]at h8;refine thn h8 fun _ s8 ⟨aj,H8,J8,b7,q8⟩=>?_
   have h9:=av _ s8 aj H8 _ J8 q8;rw[f,Yw,YA,h,aa]at h9;refine thn h9 fun b s9 ⟨H9,J9,q9⟩=>?_
   have a0:∀{H':Hp} {s':Shared},Inv Y ([(D,({cls:=.type "list",data:=.seq k aH}:Obj))]++pinsAt fp s7.heap) aj H' s'->Inv Y [] (capS ow.length ci σ) H' s'/\tn (i+1) s'.heap/\(∀b∈fp,H' b=none)/\H' D=none/\s'.heap.get? D=some {cls:=.type "list",data:=.seq k aH}:=fun {H' s'} K=>by
    have pD:=K.pin (D,_) (mem_append_right _ (mem_append_left _ vq));refine⟨(K.pins_of (pins':=[]) (by simp)).forget _ _ _ YN (fun j v hj e=>b7 j v hj e),T.keep _ _ _ ah fun b a o e=>(K.pin (b,o) (mem_append_right _ (mem_append_right _ (Qz a e)))).1,fun b a=>?_,pD.2.1,pD.1⟩;obtain⟨o,e,_⟩:=T.obj _ _ ah b a;exact(K.pin (b,o) (mem_append_right _ (mem_append_right _ (Qz a e)))).2.1
   cases b with
   | false=>
    rw[vA vJ]at q9|-;obtain⟨m',hm,w9⟩:=as _ _ q9;obtain⟨K9,bb,b1,b5,e9⟩:=a0 J9;exact⟨m',hm,i+1,ys,k,H9,K9,bb,b1,b5,⟨_,e9⟩,R,w9⟩
   | true=>
    rw[va rfl]at q9|-;have aq:=he _ s9 aj H9 _ J9 q9;rw[f,Yw,YA,h,aa]at aq;refine thn aq fun z aI ⟨v,ak,aS,ba,b6,b8⟩=>?_
    obtain⟨m',hm,bc⟩:=as _ _ b8;obtain⟨aU,aJ,ao,a7,aX⟩:=a0 aS;refine wpAny_list_append_plain (hsz:=by rw[<-vl];exact v3 b6) ⟨_,aX⟩ fun b2 aG a9=>?_
    obtain⟨a1,a2,a3,a4,a5⟩:=af D vq;have aV:Inv Y [] (capS ow.length ci σ) ak {aI with heap:=b2}:=aU.turned (t':=aI.toks) (fun b o a e=>(a9.2 b a).trans e) a7 a1 (.inl a3) a4 (fun p hp=>a5 p (by simpa using hp));refine⟨m',hm,i+1,ys++[v],k.push z,ak,aV,T.keep _ _ _ aJ fun b a o e=>(a9.2 b (fun q=>aE (q▸a))).trans e,ao,a7,aG,?_,bc⟩;rw[Array.toList_push];exact R.append (.cons ba .nil)
 have J4:Inv Y [] (capS ow.length ci σ) H {s3 with heap:=h₁}:=by
  rw[<-w];exact j0g (t₁:=s3.toks) S I3 (Nat.le_of_eq l) G M kk ay
 have Q:tn 0 h₁:=T.keep _ _ _ st fun b _ o e=>kk b o (k3 b o e)
 have ag:h₁.PlainList D #[]:=⟨_,kk _ _ b4⟩
 have L:=aC _ J4 Q ag;subst O;exact codeAny_compStart_list L (T.self _ 0 _ _ _ Q L)
variable{wi:TI}
theorem Jw(P:X.calm=true)(S:CompScope X scope ow ci)(R:GKeeps ow.length g)(hi:PI X tg iter wi)
  (n:∀C c a ex pn,PG (blk X scope ow ci C c a ex pn) tg g/\PF (blk X scope ow ci C c a ex pn) ifs tf/\PE (blk X scope ow ci C c a ex pn) elt te)
  (Y:∀x,foldedSetIterable iter X.env x=pure x:=by intro _;rfl):PE X (.ListComp elt [⟨tg,iter,ifs,0⟩] scope pos) (tComp wi ow.length ci g tf te):=by
 intro d s u H Q I h;rw[eval_ListComp];refine wpAny_comprehension_free (use:=none) rfl Y (yL (S.cells I.ok)) S.kind S.names (thn (hi d s u H _ I h) fun v s1 L=>thn L fun Z s2 M=>?_);obtain⟨it,fp,tn,J,H2,e,t,T,r,A,W,w0,f⟩:=M;subst e;refine kF (RR:=fun j C=>compPost (model X.prog X.w) X.A X.xe none (EP X d u Q) j C) P S R n t T r A (fun i H=>∀p,H p=none->Q (.ref p) (upd H p (.lst i))) W w0 f fun D C s' H' m i K O z U N l k=>?_
 refine⟨m,U,fun h' q=>⟨.ref D,upd H' D (.lst i),?_,rfl,z D O⟩⟩;obtain⟨w,y,B,E,F,G⟩:=t.fpOk (H':=upd H' D (.lst i)) N (by rw[jg l];exact k);exact K.turned (t':=s'.toks) (fun b o n e=>(q.2 b n).trans e) w y E F G
theorem wU(hc:X.calm=true)(S:CompScope X scope ow ci)(hk:GKeeps ow.length g)(hN:X.N.Nodup)(A:X.N[i]?=some x)(hx:Loc X.env.scope x)(hi:PI X tg iter wi)
  (t:∀C f c ex pn,PG (blk X scope ow ci C f c ex pn) tg g/\PF (blk X scope ow ci C f c ex pn) ifs tf/\PE (blk X scope ow ci C f c ex pn) elt te)
  (y:swapsWith (.ListComp elt [⟨tg,iter,ifs,0⟩] scope pos) (some (.Name x px)) spos.line X.env=pure true:=by rfl)
  (hf:X.fn x=true\/X.env.scope.names.lookup x=some .local:=by first | exact .inl rfl | exact .inr rfl | assumption)
  (hs:∀x,foldedSetIterable iter X.env x=pure x:=by intro _;rfl):PS X (.Assign [.Name x px] (.ListComp elt [⟨tg,iter,ifs,0⟩] scope pos) spos) (tAsg (tComp wi ow.length ci g tf te) (gName i)):=by
 intro d s M H D I h;rw[exec_Assign_Name_used _ _ _ _ y];refine ug (wpAny_standAt (ug ?_));show wpAny _ X.A (do let _ <-comprehension (.ListComp elt [⟨tg,iter,ifs,0⟩] scope pos) scope X.env _ (newList []) false (eval iter X.env) (some (assign (.Name x px) X.env))) _ _ s;refine ug (wpAny_mono (wpAny_comprehension_free (use:=some (assign (.Name x px) X.env)) (Q:=fun _ j=>SP X d D .next j) rfl hs (yL (S.cells I.ok)) S.kind S.names
  (thn (hi d s M H _ I h) fun v s1 h1=>thn h1 fun a0 s2 h2=>?_)) (fun _ j hq=>uf (uf hq)) fun _ _ e=>e)
 obtain⟨it,fp,tn,J,H2,e,F,T,B,R,W,w0,k⟩:=h2;subst e;refine kF (RR:=fun l C=>compPost (model X.prog X.w) X.A X.xe (some (assign (.Name x px) X.env)) (fun _ j=>SP X d D .next j) l C) hc S hk t F T B R
  (fun E H=>∀p,H p=none->gName i (.ref p) M (upd H p (.lst E)) D.nx) W w0 k fun P C j H' m E K hD z hn hC r n=>?_
 obtain⟨O,G,U,Y,L,Z⟩:=F.fpOk (H':=upd H' P (.lst E)) hC (by rw[jg r];exact n);show wpAny _ X.A (assign (.Name x px) X.env (.ref P)) _ _ j;refine wpAny_assign_Name (K0 K hN A hx (v:=.ref P) rfl (fun s3 N ⟨a,w,ha⟩=>⟨m,hn.sameBut w ?_,fun h' u=>?_⟩) hf)
 ·rcases ha with q | q
  ·rw[q];exact G
  ·exact fun z=>L x a q z.symm
 ·exact⟨_,_,N.turned (t':=s3.toks) (fun b o t e=>(u.2 b t).trans e) O G Y L Z,z P hD⟩
theorem xH{lo:Int}{n k:Nat}{ci:List Nat}{g:TG}{q:TT}{o:TE}{r:St}{H:Hp}{Z:Addr->List V->Hp->Prop}(c:Nat->List V->Hp->Prop)(s:c 0 [] H)
  (u:∀i ys H,i<n->c i ys H->g (.int (lo+i)) (capS k ci r) H fun a H2=>q a H2 fun b h=>if b=true then o a h fun v j=>ys.length<sizeLine/\c (i+1) (ys++[v]) j else c (i+1) ys h)
  (t:∀ys H,c n ys H->ys.length<=sizeLine/\∀p,H p=none->Z p ys H) :
  ∃W:Nat->Nat->List V->Hp->Prop,(∃m,W 0 m [] H)/\∀i m ys H,W i m ys H->
   ((Itr lo n).stop i H/\ys.length<=sizeLine/\∀p,H p=none->Z p ys H)\/
   ((Itr lo n).go i H/\∃N:List V->Hp->Prop,(∀f H',N f H'->∃l,l<m/\W (i+1) l f H')/\∀x H',(Itr lo n).yld i H x H'->g x (capS k ci r) H' fun a H2=>q a H2 fun b h=>
    if b=true then o a h fun v j=>ys.length<sizeLine/\N (ys++[v]) j else N ys h):=by
 refine⟨fun i m ys H=>m=n-i/\i<=n/\c i ys H,⟨n,by simp,vC _,s⟩,?_⟩;rintro i m ys H ⟨rfl,z,p⟩;by_cases d:i<n
 ·refine .inr ⟨d,c (i+1),fun f H' w=>⟨n-(i+1),by lia,rfl,d,w⟩,fun x H' y=>?_⟩;obtain⟨e,y⟩:=y;subst e y;exact u i ys _ d p
 ·have e:i=n:=by lia
  subst e;exact .inl ⟨vB _,t ys H p⟩
theorem jZ{K:Frg}{a:Addr}{xs:List V}{k:Nat}{ci:List Nat}{g:TG}{r:TT}{o:TE}{s:St}{H:Hp}{Z:Addr->List V->Hp->Prop}(d:Nat->List V->Hp->Prop)(t:d 0 [] H)(z:∀i ys H,i<=xs.length->d i ys H->SqL K H a xs)
  (A:∀i x ys H,xs[i]?=some x->d i ys H->g x (capS k ci s) H fun c H2=>r c H2 fun b h=>if b=true then o c h fun v l=>ys.length<sizeLine/\d (i+1) (ys++[v]) l else d (i+1) ys h)
  (u:∀ys H,d xs.length ys H->ys.length<=sizeLine/\∀p,H p=none->Z p ys H) :
  ∃W:Nat->Nat->List V->Hp->Prop,(∃m,W 0 m [] H)/\∀i m ys H,W i m ys H->
   ((Itl K a).stop i H/\ys.length<=sizeLine/\∀p,H p=none->Z p ys H)\/
   ((Itl K a).go i H/\∃N:List V->Hp->Prop,(∀f H',N f H'->∃n,n<m/\W (i+1) n f H')/\∀x H',(Itl K a).yld i H x H'->g x (capS k ci s) H' fun c H2=>r c H2 fun b h=>
    if b=true then o c h fun v l=>ys.length<sizeLine/\N (ys++[v]) l else N ys h):=by
 refine⟨fun i m ys H=>m=xs.length-i/\i<=xs.length/\d i ys H,⟨xs.length,by simp,vC _,t⟩,?_⟩;rintro i m ys H ⟨rfl,w,p⟩;have q:=z i ys H w p;by_cases j:i<xs.length
 ·refine .inr ⟨⟨xs,xs[i],q,by simp[j]⟩,d (i+1),fun f H' B=>⟨xs.length-(i+1),by lia,rfl,j,B⟩,fun x H' y=>?_⟩;obtain⟨e,y⟩:=y;subst e;exact A i x ys _ (y xs q) p
 ·have e:i=xs.length:=by lia
  subst e;exact .inl ⟨⟨xs,q,vB _⟩,u ys H p⟩
end
theorem j03:(10:Nat)^250<2^831:=by decide +kernel
theorem Wh(a : -10^250<=x)(b:x<=10^250):Builtin.Int.intBits x<=1048576:=by
 refine vZ (PySem.intBits_le_iff.mpr ?_:Builtin.Int.intBits x<=831) (by decide);have:x.natAbs<=10^250:=by lia
 exact Nat.lt_of_le_of_lt this j03
theorem mulOk(a : -10^250<=x)(b:x<=10^250)(c : -10^250<=y)(d:y<=10^250):IntMulOk x y:=.of_bits (Wh a b) (Wh c d)
section
variable{X:Cx}
theorem j2X:OpR X (binaryOp .Mult) (rI IntMulOk fun i j=>.int (i*j)):=opI fun _ _ _ _ _ _ _ a q=>mul_int q a
def CDivB(_ j:Int):Prop:=0<j/\j<=10^250
theorem cdivB(a:0<j)(b:j<=10^250):CDivB i j:=⟨a,b⟩
theorem yT:OpR X (binaryOp .FloorDiv) (rI CDivB fun i j=>.int (i/j)):=opI fun i j _ _ _ _ _ a q=>by
 have b:(0:Int)<j:=a.1;have c:j<=10^250:=a.2;refine floordiv_int (by lia) ?_ (.inl (PyProof.noPylong_of_log2 ?_))
 ·rw[Int.fdiv_eq_ediv_of_nonneg _ (by lia)];exact q
 ·have e:j.natAbs<=10^250:=by lia
  have g:j.natAbs.log2<831:=(Nat.log2_lt (by lia)).mpr (Nat.lt_of_le_of_lt e j03);lia
theorem Wj:CallR X (.builtin "isinstance") (fun xs H Q=>∃x T t b,xs=[x,.ty T]/\TyOf X.K H x t/\PySem.W.kitOne X.K t (.type T)=some b/\Q (.bl b) H):=by
 intro a s j H xs i Q I r h;obtain⟨x,T,t,b,rfl,ty,e,q⟩:=h;obtain⟨u,f,rfl,d,c⟩:=vals2 r;cases(show f=Value.type T from c);exact j0y I d ty e fun g=>⟨.bl b,H,I.tok _,rfl,q⟩
theorem j0X{E:Value->Shared->Prop}{Q:Value->Shared->Prop}(y:A.handled=none)(d:s.heap.IsList l (intItems xs))
  (h:∀h' tk t',(∀b o,s.heap.get? b=some o->h'.get? b=some o)->Q (.int (preSum (numAt xs) xs.size) t') {s with heap:=h',toks:=tk}) :
  wpAny (model prog w) A (call (.builtin "sum") [.ref l]) Q E s:=by
 obtain⟨o,m,B,n,C⟩:=id d;have f:l≠s.heap.objs.size:=vI (vM m);have g:(intItems xs).size=xs.size:=by simp[intItems]
 have W:=(Walks.list (prog:=prog) (w:=w) (A:=A.in1) y s.heap.objs.size l f (intItems xs)).toS;rw[g]at W;refine call_sum_walkAnyS (wpAny_pyIter_list d ?_);refine⟨s.heap.objs.size,_,_,_,_,_,_,numAt xs,rfl,W,⟨⟨_,Heap.get?_push_size _ rfl,rfl,rfl⟩,d.at fun o e=>vN _ e⟩,fun b a=>?_,fun i v x=>intItems_at x,fun z t' c=>?_⟩
 ·rcases mem_cons.mp a with rfl | a
  ·exact vM (Heap.get?_push_size _ rfl)
  ·obtain rfl:=vo.mp a;exact vM (vN _ m)
 ·obtain⟨h',u,p,k,j⟩:=z;have q:u=s.gens:=c.gens;have r:p=s.drawn:=c.drawn;have t:j=s.os:=c.os;subst q r t;exact h h' k t' fun b o e=>c.heap b o (fun a=>ue (vM e) ((vo.mp a)▸Nat.lt_irrefl _)) (vN _ e)
theorem j0o(f:X.calm=true):CallR X (.builtin "sum") (fun xs H Q=>∃(p:Addr) (ns:List Int),xs=[.ref p]/\SqL X.K H p (ns.map V.int)/\Q (.int ns.sum) H):=by
 intro e s y H xs w Q I r h;obtain⟨p,ns,rfl,i,q⟩:=h;obtain⟨u,rfl,m⟩:=vals1 r;cases m;obtain⟨a,l,k,o⟩:=I.list i;have c:IntsAre a ns:=intsAre_of l;obtain⟨x,j⟩:=c.allInts.items;have b:numsOf a.toArray.toList=ns:=by rw[show a.toArray.toList=a from rfl,c.numsOf]
 have d:=k.isList;rw[j]at d b;rw[nums_intItems]at b;refine j0X (I.ok.hd f) d fun n v t g=>?_
 rw[preSum_eq,take_of_length_le (by simp),b];exact⟨.int ns.sum,H,I.kept g,⟨_,rfl⟩,q⟩
end
end L2
namespace Att
open PySem PySem.W PySem.Calls PyProof.Rows
theorem YI:∀(ns:List Int) (x:Int),x∈ns->Builtin.Int.intBits x<=WData.weightAll (ns.map WData.int)
 | [],_,h=>by cases h
 | n::r,x,h=>by
  show _<=WData.weight (.int n)+1+WData.weightAll (r.map WData.int);rcases mem_cons.mp h with e | h
  ·subst e;have e:Builtin.Int.intBits x=WData.weight (.int x):=by
    unfold Builtin.Int.intBits WData.weight;rfl
   lia
  ·have:=YI r x h;lia
theorem wf{l:OpenLaw}{n:Nat}{q:Program}{c:List Str}{XP:(Str->Option Value)->Heap->Prop}{D:World->Heap->Prop}{d:DefRec}
  (Q:l.most=some n) (y:d.params.defaults=[])
  (j:∀(w:World) (e b:Shared) (mg B:Str->Option Value) (k:Addr) (o:Obj) (C u g:Value) (a:Addr) (vs:List Value) (ns:List Int),
   Ground q c [] XP w e mg B b.heap->D w b.heap->
   b.heap.get? k=some o->o.data = .func (docDef d.name d.params d.body d.scope C u g)->b.heap.CodeRec u d.name->mg d.name=some (.ref k)->
   b.heap.get? a=some {cls:=.type "list",data:=.seq vs.toArray}->IntsAre vs ns->ns.length<=n->(∀x∈ns,Builtin.Int.intBits x<=1048576)->b.gens = #[]->
   codeAny (model l.prog w) callerA (.call (.ref k) ⟨[.ref a],[]⟩) (fun r s'=>r = .ok (.ret (.bool true))/\OldK b.heap s'.heap/\s'.os=b.os/\AllBare s'.gens) b) :
  WalkO q c XP D l.row.toRowW d [] (fun f vs=>PySem.call f vs):=by
 intro w e b mg B G Y k o C u g I kV R M v F z N E H X t m T A O;obtain rfl:I = .none:=Dflts.none F y;obtain rfl:kV = .none:=Dflts.noKw F;obtain⟨a,vs,ns,rfl,rfl,s,i,p⟩:=j0V Q t A;have h:∀x∈ns,Builtin.Int.intBits x<=1048576:=by
  have U:(WData.list (ns.map WData.int)).weight<=2^20:=(layableW_iff.mp (layW_cons m).1).2.2;intro x W;exact vZ (YI ns x W) U
 refine enter_call (codeAny_mono (j w e b mg B k o C u g a vs ns G Y R (fd_plain M) v z s i p h N) fun r s' S=>?_);obtain⟨rfl,J,K,L⟩:=S;exact⟨.inl ⟨.bool true,.bool true,[],rfl,fun _=>rfl,.bool true,j0Q l _,fun _=>⟨List.Pairwise.nil,fun _ P=>(nomatch P)⟩⟩,J,K,L⟩
end Att
namespace L2
open PySem PySem.Spec PyProof.Rows
theorem j2i{l:PySem.W.OpenLaw}{n k:Nat}{q:Program}{i:List Str}{XP:(Str->Option Value)->Heap->Prop}{D:World->Heap->Prop}{d:DefRec}{K:Params->Frg}{CX:CXT}{sp:Frg->Sp}{x:Str}
  (T:l.most=some n) (z:n<=sizeLine) (t:d.params.defaults=[]) (U:Room k callerA)
  (O:∀(w:World) (h:Heap),D w h->(K w.params).In h)
  (F:∀(w:World) (mg:Str->Option Value) (p:Addr) (h:Heap),(K w.params).In h->h.Ns mainGlobals mg->mg d.name=some (.ref p)->
   ∃fd:FuncData,(∀(s:Shared) (u:Value),BindsTo s fd ⟨[u],[]⟩ [(x,u)])/\
    ∀base:Heap,(K w.params).In base->base.Ns mainGlobals mg->FnOk l.prog w (K w.params) mg base CX k p fd [x] (sp (K w.params)))
  (B:∀(K:Frg) (H:Hp) (a:Addr) (ns:List Int),ns.length<=n->(∀x∈ns,Builtin.Int.intBits x<=1048576)->Only H->SqL K H a (ns.map V.int)->sp K [.ref a] H (fun v _=>v = .bl true) fun _ _ _=>False)
  (r:∀(H:Hp) (s:Shared) (e:Value) (s':Shared),CX [] H s (fun _ _ _=>False) e s'->False) :
  PySem.W.WalkO q i XP D l.row.toRowW d [] (fun f vs=>PySem.call f vs):=by
 refine Att.wf T t fun w I m mg mb p o pm W J a vs ns G Y Z X R y j g b c S=>?_
 have C:=O w _ Y;obtain⟨fd,P,L⟩:=F w mg p _ C G.T.g y;exact j1z C G.T.g G.T.b G.T.builtins G.T.nolimit S j g (vZ b z) U L P (fun H M N=>B _ H a ns b c M N) fun H e s'=>r H m e s'
structure FunD(K:Frg)(x qual:Str)(st:Stmt)(T:Addr)(f:Addr)(fd:FuncData):Prop where
 ex:∃(oc:Value) (od:Option Addr) (kV doc pm:Value) (an:Option Addr) (cdv ct:Value) (osl:Array (Option Value)),
  fd=PySem.W.fnOf x qual (defArgs st) (defBody st) (defScope st) (.ref T) kV doc pm an cdv ct/\K.lookup f=some ⟨oc,od,.func fd,osl⟩/\PySem.W.codeIn K cdv qual=true
 kp:PySem.W.keepIn K (.ref f)=true
section
variable{P:Program}{w:World}{K:Frg}{mg:Str->Option Value}{base:Heap}
theorem FunD.ok{x a:Str}{st:Stmt}{T f:Addr}{i:FuncData}{N ps:List Str}{k:Nat}{sp:Sp}(F:FunD K x a st T f i)(S:FnScope N ps (defScope st))(g:∀vs H Q E,sp vs H Q E->vs.length=ps.length)
  (c:∀(b:Value) (A:Around) (outer:List Env) (s:Shared) (H:Hp) (vs:List V) (Q:VK) (E:XK),Room k (A.deeper (envOfC a (defScope st) s.heap.objs.size f b))->sp vs H Q E->
   ∃t,PSs (cxOf CX0 P w K mg base N a (defScope st) f b A outer s H E).nox (defBody st) t/\t {nx:=fun _ H'=>Q .non H',rt:=Q} (start N vs) H):FnOk P w K mg base CX0 (k+1) f i ps sp:=by
 obtain⟨r,u,kV,j,v,o,b,p,n,rfl,m,d⟩:=F.ex;refine j3f m d S g fun A outer s H vs Q E l e=>?_
 obtain⟨t,h,q⟩:=c b A outer s H vs Q E l e;exact⟨t,h.nox,q⟩
theorem FunD.binds{x a:Str}{st:Stmt}{T f:Addr}{i:FuncData}{ps:List Str}{ds:List Value}{o:Obj}{items:Array Value}{n:Nat}(m:Nat)(F:FunD K x a st T f i)(u:K.lookup T=some o)(t:o.data = .seq items n)(w:m+ds.length=ps.length)
  (h:∀(kV c g:Value) (d:Option Addr) (b e:Value) (us:List Value),us.length=m->∃k,bindArgs (PySem.W.fnOf x a (defArgs st) (defBody st) (defScope st) (.ref T) kV c g d b e) ⟨us,[]⟩=seqItems? (.ref T) >>= k/\k (some items)=pure (ps.zip (us++ds))):Binds K i ps ds:=by
 obtain⟨z,A,kV,c,g,d,b,e,v,rfl,y,q⟩:=F.ex;intro s us j r;obtain⟨k,l,p⟩:=h kV c g d b e us (by rw[vm]at r;lia);exact BindsTo.of_defaults rfl (j _ _ u) t l p
theorem j2F{x a:Str}{st:Stmt}{T f:Addr}{j:Value}{m g:Option Addr}{e:Array (Option Value)}{kV d i b h:Value}(l:K.lookup f=some ⟨j,m,.func (PySem.W.fnOf x a (defArgs st) (defBody st) (defScope st) (.ref T) kV d i g b h),e⟩)
  (c:PySem.W.codeIn K b a=true) (k:PySem.W.keepIn K (.ref f)=true):FunD K x a st T f (PySem.W.fnOf x a (defArgs st) (defBody st) (defScope st) (.ref T) kV d i g b h):=⟨⟨j,m,kV,d,i,g,b,h,e,rfl,l,c⟩,k⟩
end
theorem SP.nx{R:St->Hp->Prop}(hR:∀σ' H',R σ' H'->D.nx σ' H')(h:SP X pins {D with nx:=R} f s):SP X pins D f s:=by
 cases f with
 | next=>obtain⟨σ',H',I,q⟩:=h;exact⟨σ',H',I,hR _ _ q⟩
 | brk=>exact h
 | cont=>exact h
 | ret u=>exact h
def tIfJ(c:TT)(t u:TS):TS:=fun D σ H=>∃R:St->Hp->Prop,(∀σ' H',R σ' H'->D.nx σ' H')/\tIfS c t u {D with nx:=R} σ H
theorem Qg{pos:Pos}(j:PT X c tc)(g:PSs X a t)(i:PSs X b u):PS X (.If c a b pos) (tIfJ tc t u):=by
 intro d s k H D I h;obtain⟨R,e,h⟩:=h;exact thn (jI j g i d s k H _ I h) fun f l q=>q.nx e
open PySem
theorem JX:bootBuiltins "len"= some (.builtin "len"):=by decide +kernel
theorem j3r:bootBuiltins "max"= some (.builtin "max"):=by decide +kernel
theorem j3t:bootBuiltins "sum"= some (.builtin "sum"):=by decide +kernel
theorem Jj:bootBuiltins "isinstance"= some (.builtin "isinstance"):=by decide +kernel
theorem xy:bootBuiltins "all"= some (.builtin "all"):=by decide +kernel
theorem j0h:bootBuiltins "sorted"= some (.builtin "sorted"):=by decide +kernel
theorem xz:bootBuiltins "int"= some (.type "int"):=by decide +kernel
theorem xA:bootBuiltins "str"= some (.type "str"):=by decide +kernel
theorem j2s:bootBuiltins "bool"= some (.type "bool"):=by decide +kernel
theorem XR:bootBuiltins "list"= some (.type "list"):=by decide +kernel
theorem Wi:bootBuiltins "tuple"= some (.type "tuple"):=by decide +kernel
theorem j2t:bootBuiltins "dict"= some (.type "dict"):=by decide +kernel
theorem j3s:bootBuiltins "set"= some (.type "set"):=by decide +kernel
theorem yK:bootBuiltins "enumerate"= some (.type "enumerate"):=by decide +kernel
theorem wj:bootBuiltins "zip"= some (.type "zip"):=by decide +kernel
theorem j1x(K:Frg)(t:Value)(h:(t==t)=true):PySem.W.kitOne K t t=some true:=by unfold PySem.W.kitOne;rw[va h]
theorem j0B(K:Frg)(c:(Value.type a==Value.type b)=false)(d:PySem.W.kitMeta b=true)(e:PySem.W.subIn [] (.type a) (.type b)=some v):PySem.W.kitOne K (.type a) (.type b)=some v:=by
 unfold PySem.W.kitOne;rw[vA (by rw[c];exact vJ)];show(if PySem.W.kitMeta b=true then _ else _)=_;rw[va d];exact e
theorem j0x{K:Frg}:PySem.W.kitOne K (.type "int") (.type "int")=some true:=j1x K _ (by decide +kernel)
theorem xT{K:Frg}:PySem.W.kitOne K (.type "int") (.type "bool")=some false:=j0B K (by decide +kernel) (by decide +kernel) (by decide +kernel)
def Its(z:Str):It:=⟨fun i _=>i<z.cps.size,fun i H x H'=>H'=H/\∃c,z.cps[i]?=some c/\x = .str ⟨#[c]⟩,fun i _=>i=z.cps.size⟩
theorem xf{P:Program}{w:World}{K:Frg}{O:Expr}{it:Addr}{x:Str}{t:Tok}{m:String}(Z:∀a v,letOwnedTupleGo O a v=pure ())
  (W:∀A:Around,A.handled=none->Walks P w A it [it] [it] x.cps.size (SignAt x) (fun i h=>h.IsStrIter it m x t i))
  (sf:∀(A:Around) (i:Nat) (s:Shared) (Q:Value->Shared->Prop) (E:Value->Shared->Prop),s.heap.IsStrIter it m x t i->Q (.ref it) s->wpAny (model P w) A (pyIter (.ref it)) Q E s) :
  Turn P w K O (Its x) [it] it (fun i h=>h.IsStrIter it m x t i) where
 mem:=by simp
 obj:=fun i h f b j=>by
  have e:b=it:=by simpa using j
  subst e;obtain⟨o,e,c,d⟩:=f;exact⟨o,e,fun v z=>by rw[d]at z;cases z⟩
 keep:=fun i h C f k=>let ⟨o,ho,r⟩:=f;⟨o,k it (by simp) o ho,r⟩
 item:=by
  intro X F L D G i g s S H E I l f J;subst F L D;obtain⟨n,p,Y,q,y,B⟩:=l it (by simp);refine(W X.A (I.ok.hd G)).item i s _ _ J f fun v C R hv N M=>?_
  obtain⟨c,u,U,rfl⟩:=hv;have T:Inv X g S H {s with heap:=C,toks:=R}:=I.turned (fun b o j e=>M b o (by simpa using j) e) n p q y B;refine⟨_,rfl,?_⟩;rw[Z];exact uf ⟨.str ⟨#[c]⟩,H,T,⟨_,rfl⟩,⟨rfl,c,U,rfl⟩,N,fun b j=>(l b j).1⟩
 done:=by
  intro X F L D G i g s S H E I l f J;subst F L D;obtain⟨n,p,Y,q,y,B⟩:=l it (by simp);have e:i=x.cps.size:=J;subst e;exact(W X.A (I.ok.hd G)).done s _ _ f fun C R M=>⟨rfl,I.turned (fun b o j e=>M b o (by simpa using j) e) n p q y B⟩
 self:=fun A i s Q E f h=>sf A i s Q E f h
section
variable{X:Cx}{tg:Expr}
def iStr(tl:TE):TI:=fun σ H R=>tl σ H fun x H1=>∃z,x = .str z/\R (Its z) H1
theorem j3T{l:Expr}{p:TE}(u:PE X l p)(n:∀a v,letOwnedTupleGo tg a v=pure ():=by intro _ _;rfl):PI X tg l (iStr p):=by
 intro c s B H R I h;refine thn (u c s B H _ I h) fun v d ⟨x,g,f,y,w⟩=>?_
 obtain⟨z,e,q⟩:=w;subst e;obtain⟨t,rfl⟩:=y;have m:∀b∈[d.heap.objs.size],FpOk X c g b:=fun b r=>by
  have e:b=d.heap.objs.size:=by simpa using r
  subst e;exact f.fpOk (vB _) (f.hok.fresh (vB _))
 cases ha:z.cps.all (· < 128)
 ·refine wpAny_pyIter_wide ha ?_;exact⟨d.heap.objs.size,[d.heap.objs.size],_,_,g,rfl,f.kept (t':=d.toks) fun b o e=>vN _ e,
   xf n (fun A j=>Walks.strWide j _ z t) (fun A i s Q E k h=>wpAny_pyIter_striter_wide k h),⟨_,Heap.get?_push_size _ rfl,rfl,rfl⟩,m,q⟩
 ·refine wpAny_pyIter_ascii ha ?_;exact⟨d.heap.objs.size,[d.heap.objs.size],_,_,g,rfl,f.kept (t':=d.toks) fun b o e=>vN _ e,
   xf n (fun A j=>Walks.strAscii j _ z t) (fun A i s Q E k h=>wpAny_pyIter_striter_ascii k h),⟨_,Heap.get?_push_size _ rfl,rfl,rfl⟩,m,q⟩
theorem j1f{z:Str}{k:Nat}{ci:List Nat}{g:TG}{q:TT}{o:TE}{r:St}{H:Hp}{Z:Addr->List V->Hp->Prop}(d:Nat->List V->Hp->Prop)(u:d 0 [] H)
  (A:∀i c ys H,z.cps[i]?=some c->d i ys H->g (.str ⟨#[c]⟩) (capS k ci r) H fun a H2=>q a H2 fun b h=>if b=true then o a h fun v l=>ys.length<sizeLine/\d (i+1) (ys++[v]) l else d (i+1) ys h)
  (w:∀ys H,d z.cps.size ys H->ys.length<=sizeLine/\∀p,H p=none->Z p ys H) :
  ∃W:Nat->Nat->List V->Hp->Prop,(∃m,W 0 m [] H)/\∀i m ys H,W i m ys H->
   ((Its z).stop i H/\ys.length<=sizeLine/\∀p,H p=none->Z p ys H)\/
   ((Its z).go i H/\∃N:List V->Hp->Prop,(∀f H',N f H'->∃n,n<m/\W (i+1) n f H')/\∀x H',(Its z).yld i H x H'->g x (capS k ci r) H' fun a H2=>q a H2 fun b h=>
    if b=true then o a h fun v l=>ys.length<sizeLine/\N (ys++[v]) l else N ys h):=by
 refine⟨fun i m ys H=>m=z.cps.size-i/\i<=z.cps.size/\d i ys H,⟨z.cps.size,by simp,vC _,u⟩,?_⟩;rintro i m ys H ⟨rfl,C,p⟩;by_cases j:i<z.cps.size
 ·refine .inr ⟨j,d (i+1),fun f H' B=>⟨z.cps.size-(i+1),by lia,rfl,j,B⟩,fun x H' y=>?_⟩;obtain⟨e,c,s,t⟩:=y;subst e t;exact A i c ys _ s p
 ·have e:i=z.cps.size:=by lia
  subst e;exact .inl ⟨rfl,w ys H p⟩
theorem XC{ys:List Str}:∀{us:List Value},Vals (ys.map V.str) us->StrsAre us ys:=by
 induction ys with
 | nil=>intro us r;rw[map_nil]at r;cases r;exact .nil
 | cons n ns ih=>
  intro us r;rw[uy]at r;cases r with
  | cons r1 r2=>
   obtain⟨t,e⟩:=r1;subst e;exact .cons n t (ih r2)
theorem j2O:MtR X "str.join" (fun x vs H Q=>∃(z:Str) (p:Addr) (ys:List Str),x = .str z/\vs=[.ref p]/\SqL X.K H p (ys.map V.str)/\(ys.map (·.length)).sum+ys.length*z.length<=16777216/\Q (.str (Txt.join z ys)) H):=by
 intro a s n H x vs v m Q I j i h;obtain⟨z,p,ys,rfl,rfl,b,c,q⟩:=h;obtain⟨t,rfl⟩:=j;obtain⟨u,rfl,g⟩:=vals1 i;cases g;obtain⟨d,f,e,_⟩:=I.list b;exact join_list e.isList (by simpa using XC f) c fun l k=>⟨.str _,H,I.tok _,⟨_,rfl⟩,q⟩
theorem j3P:OpR X (compareOp .In) (fun x y H Q=>∃(c:Nat) (z:Str),x = .str ⟨#[c]⟩/\y = .str z/\Q (.bl (decide (c∈z.cps.toList))) H):=by
 intro a s e H x y v u Q I b d h;obtain⟨c,z,rfl,rfl,q⟩:=h;refine j0N a s e H _ _ v u Q I b d ⟨_,_,rfl,rfl,?_⟩;rw[StrLaws.found_one];exact q
theorem j0l:CallR X (.type "int") (fun xs H Q=>∃(x:Str) (n:Int),xs=[.str x]/\PySem.intText? x=some n/\x.length<=640/\Q (.int n) H):=by
 intro a s d H xs c Q I r h;obtain⟨x,n,rfl,e,b,q⟩:=h;obtain⟨u,rfl,t,rfl⟩:=vals1 r;exact PySem.W.KIN.call_text e b ⟨.int n,H,I.tok _,⟨_,rfl⟩,q⟩
theorem Yd(D:X.calm=true):CallR X (.builtin "all") (fun xs H Q=>∃(p:Addr) (bs:List Bool),xs=[.ref p]/\SqL X.K H p (bs.map V.bl)/\Q (.bl (bs.all id)) H):=by
 intro z s T H xs S Q I r h;obtain⟨p,bs,rfl,G,q⟩:=h;obtain⟨u,rfl,L⟩:=vals1 r;cases L;obtain⟨a,t,J,_⟩:=I.list G;have l:=J.isList;obtain⟨o,F,_⟩:=id l;have n:p≠s.heap.objs.size:=vI (vM F);have W:=Walks.list (prog:=X.prog) (w:=X.w) (A:=X.A.in1) (I.ok.hd D) s.heap.objs.size p n a.toArray;refine call_all_walk (wpAny_pyIter_list l ⟨s.heap.objs.size,_,_,_,_,_,fun i=>bs.getD i true,rfl,W,⟨⟨_,Heap.get?_push_size _ rfl,rfl,rfl⟩,l.at fun o e=>vN _ e⟩,?_,?_⟩)
 ·intro i v P N M C j;have d:a[i]?=some v:=by simpa using C
  have f:∃b,bs[i]?=some b/\v = .bool b:=by
   have c:i<bs.length:=by
    have:=(vx.mp d).1;have e:=t.length;rw[vt]at e;lia
   obtain⟨u,y,K⟩:=t.get (i:=i) (x:=.bl bs[i]) (by rw[vv,vz c];rfl);rw[d]at y;cases y;exact⟨_,vz c,K⟩
  obtain⟨b,B,rfl⟩:=f;dsimp only at j;rw[vy,B]at j;exact wpAny_truthy_bool j
 ·intro O R E;have e:(List.range a.toArray.size).all (fun i=>bs.getD i true)=bs.all id:=by
   have m:a.toArray.size=bs.length:=by
    have e:=t.length;rw[vt]at e;simp[e]
   rw[m,Bool.eq_iff_iff];simp only[all_eq_true,mem_range,id_eq];constructor
   ·intro k b f;obtain⟨i,g,rfl⟩:=mem_iff_getElem.mp f;have:=k i g;rw[vy,vz g]at this;exact this
   ·intro k i g;rw[vy,vz g];exact k _ (List.getElem_mem g)
  rw[e];refine⟨.bl _,H,I.kept fun b o e=>E b o ?_ (vN _ e),rfl,q⟩;intro f;have:b=s.heap.objs.size:=by simpa using f
  exact ue (vM e) (this▸Nat.lt_irrefl _)
theorem rd_iStr{a:TE}{b:St}{H:Hp}{R:It->Hp->Prop}(h:a b H fun x H1=>∃z,x = .str z/\R (Its z) H1):iStr a b H R:=h
theorem rd_str{R:Str->Prop}(h:R z):∃a,V.str z = .str a/\R a:=⟨z,rfl,h⟩
end
section
variable{X:Cx}{K:Frg}
theorem zc(e:X.K=K):IxR X (rIxL K):=by subst e;exact jM
theorem X6(e:X.K=K):IxR X (rIxT K):=by subst e;exact jA
theorem yv(e:X.K=K):OpR X (compareOp .In) (rIn K false):=by subst e;exact QA
end
mutual
inductive DV(H:Hp):V->PyData->Prop
 | non:DV H .non .none
 | bl (b:Bool):DV H (.bl b) (.bool b)
 | int (i:Int):DV H (.int i) (.int i)
 | str (x:Str):DV H (.str x) (.str x)
 | lst {a:Addr} {xs:List V} {ds:List PyData}:H a=some (.lst xs)->DVs H xs ds->DV H (.ref a) (.list ds)
 | tup {a:Addr} {xs:List V} {ds:List PyData}:H a=some (.tup xs)->DVs H xs ds->DV H (.ref a) (.tuple ds)
inductive DVs(H:Hp):List V->List PyData->Prop
 | nil:DVs H [] []
 | cons {x:V} {d:PyData} {xs:List V} {ds:List PyData}:DV H x d->DVs H xs ds->DVs H (x::xs) (d::ds)
end
section
variable{X:Cx}
mutual
theorem Zt{p:St}{H:Hp}(I:Inv X pins p H s):∀{v:V} {d:PyData} {u:Value},DV H v d->RelV v u->∃as,Reads s.heap u d as
 | _,_,_,.non,r=>⟨_,by cases r;exact Reads.none⟩
 | _,_,_,.bl b,r=>⟨_,by cases r;exact Reads.bool b⟩
 | _,_,_,.int i,r=>by obtain⟨t,rfl⟩:=r;exact⟨_,Reads.int i t⟩
 | _,_,_,.str x,r=>by obtain⟨t,rfl⟩:=r;exact⟨_,Reads.str x t⟩
 | _,_,_,.lst e q,r=>by
  cases r;obtain⟨_,a,c,g,k⟩:=I.hok _ _ e;obtain⟨as,f⟩:=Yj I q g;exact⟨_,reads_list_at k rfl rfl (by simpa using f)⟩
 | _,_,_,.tup e q,r=>by
  cases r;obtain⟨a,g,m,_⟩:=I.tuple (SqT.of e);obtain⟨o,l,h,n,j⟩:=m;obtain⟨as,f⟩:=Yj I q g;exact⟨_,reads_tuple_at l h j (by simpa using f)⟩
theorem Yj{d:St}{H:Hp}(I:Inv X pins d H s):∀{vs:List V} {ds:List PyData} {us:List Value},DVs H vs ds->Vals vs us->∃as,ReadsAll s.heap us ds as
 | _,_,_,.nil,r=>by cases r;exact⟨_,ReadsAll.nil⟩
 | _,_,_,.cons a q,r=>by
  cases r with
  | cons r1 r2=>
   obtain⟨as,b⟩:=Zt I a r1;obtain⟨e,c⟩:=Yj I q r2;exact⟨_,ReadsAll.cons b c⟩
end
theorem j3O(f:X.A.units+64<cLine):OpR X (compareOp .Eq) (fun x y H Q=>∃d e,DV H x d/\DV H y e/\SeqAt.shaped d=true/\SeqAt.shaped e=true/\Q (.bl (PyData.eqv d e)) H):=by
 intro a s p H x y v u Q I j k h;obtain⟨d,e,b,c,l,m,q⟩:=h;obtain⟨n,g⟩:=Zt I b j;obtain⟨o,i⟩:=Zt I c k;exact eq_dataH g i l m f ⟨.bl _,H,I,rfl,q⟩
theorem j0m(o:X.calm=true):CallR X (.builtin "max") (fun xs H Q=>∃(p:Addr) (ns:List Int),xs=[.ref p]/\SqL X.K H p (ns.map V.int)/\0<ns.length/\∀m∈ns,(∀a∈ns,a<=m)->Q (.int m) H):=by
 intro l s K H xs J Q I r h;obtain⟨p,ns,rfl,z,c,q⟩:=h;obtain⟨u,rfl,D⟩:=vals1 r;cases D;obtain⟨A,C,B,_⟩:=I.list z;have i:=intsAre_of C;have k:=B.isList;obtain⟨xs,e⟩:=i.allInts.items;have b:ns=xs.toList.map (·.1):=by rw[<-i.numsOf,<-nums_intItems,<-e]
 have d:0<xs.size:=by
  have f:=c;rw[b,vt,Array.length_toList]at f;exact f
 rw[e]at k;refine max_intList (I.ok.hd o) k d fun v F E y x=>?_
 obtain⟨t,rfl⟩:=intItems_at y;obtain⟨G,n⟩:=argBest_gt (numAt xs) (xs.size-1);refine⟨.int _,H,I.kept (t':=E) x,⟨_,rfl⟩,q _ ?_ fun a g=>?_⟩
 ·rw[b,numAt_eq];exact getD_mem (by rw[vt,Array.length_toList];lia)
 ·rw[b]at g;obtain⟨j,w,rfl⟩:=mem_getD g;rw[vt,Array.length_toList]at w;rw[<-numAt_eq];exact n j (by lia)
end
section
variable{σ:St}{H:Hp}{Q:VK}
theorem rd_dget(h:td σ H fun x H1=>ty σ H1 fun y H2=>∃a v,x = .ref a/\DGet H2 a y (some v)/\Q v H2):tDGet td ty σ H Q:=h
end
def TabK(K:Frg)(a:Addr)(D:List (Str×PyProof.Rows.KTD.Dat)):Prop:=PyProof.Rows.KTD.tabLook (PyProof.Rows.KTD.datLooks fun b=>K.lookup b) (fun b=>K.lookup b) a D=true
section
variable{X:Cx}
theorem j1Q:OpR X (compareOp .In) (fun x y H Q=>∃a k D,x = .str k/\y = .ref a/\TabK X.K a D/\Q (.bl (PyProof.Rows.KTD.inKeys k D)) H):=by
 intro b s f H x y v u Q I c d h;obtain⟨a,k,D,rfl,rfl,T,q⟩:=h;obtain⟨t,rfl⟩:=c;cases d;exact PyProof.Rows.KTD.in_text (h₀:=s.heap) ⟨PySem.W.kt_text_in I.kIn T,fun _ _ e=>e⟩ ⟨.bl _,H,I.tok _,rfl,q⟩
theorem j0O:OpR X (compareOp .NotIn) (fun x y H Q=>∃a k D,x = .str k/\y = .ref a/\TabK X.K a D/\Q (.bl (!PyProof.Rows.KTD.inKeys k D)) H):=by
 intro b s f H x y v u Q I c d h;obtain⟨a,k,D,rfl,rfl,T,q⟩:=h;obtain⟨t,rfl⟩:=c;cases d;exact PyProof.Rows.KTD.notin_text (h₀:=s.heap) ⟨PySem.W.kt_text_in I.kIn T,fun _ _ e=>e⟩ ⟨.bl _,H,I.tok _,rfl,q⟩
theorem Ye:CallR X (.type "str") (fun xs H Q=>(∃i,xs=[.int i]/\i.natAbs.log2<1920/\Q (.str (toString i)) H)\/∃x,xs=[.str x]/\Q (.str x) H):=by
 intro a s d H xs c Q I r h;rcases h with⟨i,rfl,b,q⟩ | ⟨x,rfl,q⟩
 ·obtain⟨u,rfl,t,rfl⟩:=vals1 r;exact PySem.P.str_of_int b ⟨.str _,H,I.tok _,⟨_,rfl⟩,q⟩
 ·obtain⟨u,rfl,t,rfl⟩:=vals1 r;exact PySem.P.str_of_str ⟨.str x,H,I,⟨_,rfl⟩,q⟩
end
theorem j1g{K:Frg}{a:Addr}{xs:List V}{k:Nat}{ci:List Nat}{g:TG}{r:TT}{o:TE}{s:St}{H:Hp}{Z:Addr->List V->Hp->Prop}(d:Nat->List V->Hp->Prop)(t:d 0 [] H)(z:∀i ys H,i<=xs.length->d i ys H->SqT K H a xs)
  (A:∀i x ys H,xs[i]?=some x->d i ys H->g x (capS k ci s) H fun c H2=>r c H2 fun b h=>if b=true then o c h fun v l=>ys.length<sizeLine/\d (i+1) (ys++[v]) l else d (i+1) ys h)
  (u:∀ys H,d xs.length ys H->ys.length<=sizeLine/\∀p,H p=none->Z p ys H) :
  ∃W:Nat->Nat->List V->Hp->Prop,(∃m,W 0 m [] H)/\∀i m ys H,W i m ys H->
   ((Itt K a).stop i H/\ys.length<=sizeLine/\∀p,H p=none->Z p ys H)\/
   ((Itt K a).go i H/\∃N:List V->Hp->Prop,(∀f H',N f H'->∃n,n<m/\W (i+1) n f H')/\∀x H',(Itt K a).yld i H x H'->g x (capS k ci s) H' fun c H2=>r c H2 fun b h=>
    if b=true then o c h fun v l=>ys.length<sizeLine/\N (ys++[v]) l else N ys h):=by
 refine⟨fun i m ys H=>m=xs.length-i/\i<=xs.length/\d i ys H,⟨xs.length,by simp,vC _,t⟩,?_⟩;rintro i m ys H ⟨rfl,w,p⟩;have q:=z i ys H w p;by_cases j:i<xs.length
 ·refine .inr ⟨⟨xs,xs[i],q,by simp[j]⟩,d (i+1),fun f H' B=>⟨xs.length-(i+1),by lia,rfl,j,B⟩,fun x H' y=>?_⟩;obtain⟨e,y⟩:=y;subst e;exact A i x ys _ (y xs q) p
 ·have e:i=xs.length:=by lia
  subst e;exact .inl ⟨⟨xs,q,vB _⟩,u ys H p⟩
theorem rd_iTup{K:Frg}{b:TE}{c:St}{H:Hp}{R:It->Hp->Prop}(h:b c H fun x H1=>∃a,x = .ref a/\(∃xs,SqT K H1 a xs)/\R (Itt K a) H1):iTup K b c H R:=h
theorem Qi{K:Frg}{i j:Nat}{a:Addr}{x y:V}{b:St}{H:Hp}{R:St->Hp->Prop}(e:SqT K H a [x,y])(h:gName i x b H fun σ' H'=>gName j y σ' H' R):gTup K 2 (gCons (gName i) (gCons (gName j) gNil)) (.ref a) b H R:=
 ⟨a,[x,y],rfl,e,rfl,x,[y],rfl,y,[],rfl,rfl,h⟩
theorem rd_dnew{a:St}{H:Hp}(h:∀p,H p=none->Q (.ref p) (upd H p (.dK []))):tDNewK a H Q:=h
theorem rd_dput{b:St}{H:Hp}(h:tv b H fun v H1=>td b H1 fun x H2=>ty b H2 fun y d=>∃a c,x = .ref a/\DPut d a y v c/\D.nx b c):sDPut td ty tv D b H:=h
theorem rd_bm0{K:Frg}{T:String}{r:V->List V->Hp->VK->Prop}{a:TE}{b:St}{H:Hp}{Q:VK}(h:a b H fun x H1=>tyV K T x H1/\r x [] H1 Q):tBM0 K T r a b H Q:=h
section
variable{X:Cx}{pins:List (Addr×Obj)}{σ:St}{H:Hp}{s:Shared}{h':Heap}
theorem Inv.turnedL{t':Nat}{ch:List Addr}(I:Inv X pins σ H s)(f:∀b∈ch,FpOk X pins H b)(k:∀b o,b∉ch->s.heap.get? b=some o->h'.get? b=some o):Inv X pins σ H {s with heap:=h',toks:=t'}:=by
 have d:∀b u,H b=some u->b∉ch:=fun b u e z=>by rw[(f b z).1]at e;cases e
 refine I.step (g':=s.gens) (d':=s.drawn) (ch:=ch) (fun b t=>?_) (fun b o _ _ a e _=>k b o a e) (fun b o _ _ a e _=>⟨o.slots,k b o a e⟩) (fun _ _ _ _ n=>n)
  (fun b o a e=>⟨o,k b o a e⟩) (fun _ _ e=>e) (fun _ _ _ e=>e) (fun b y e=>⟨#[],by rw[e];simp⟩) (fun m w=>?_) (fun b u e=>?_) I.bare
 ·obtain⟨_,i,_,j,l,p⟩:=f b t;exact⟨j,i,l,p⟩
 ·obtain⟨o,h,g,x,r⟩:=w;exact⟨o,h,g,k _ o (fun z=>(f _ z).2.1 rfl) x,r⟩
 ·refine(I.hok b u e).stay (fun c v a q=>k c v ?_ q) (fun _ q=>q) fun _ _ q=>q
  rcases a with z | z
  ·rw[z];exact d b u e
  ·exact d c _ z
theorem Inv.pair{t':Nat}{ch:List Addr}{x y:V}{u v:Value}(I:Inv X pins σ H s)(c:∀b∈ch,FpOk X pins H b)(h:∀b∈ch,b<s.heap.objs.size)(i:RelV x u)(j:RelV y v)
  (g:h'.get? s.heap.objs.size=some {cls:=.type "tuple",data:=.seq #[u,v]}) (k:∀b o,b∉ch->s.heap.get? b=some o->h'.get? b=some o) :
  Inv X pins σ (upd H s.heap.objs.size (.tup [x,y])) {s with heap:=h',toks:=t'}/\∀b∈ch,FpOk X pins (upd H s.heap.objs.size (.tup [x,y])) b:=by
 have f:∀b∈ch,FpOk X pins (upd H s.heap.objs.size (.tup [x,y])) b:=fun b a=>⟨(jg (vI (h b a))).trans (c b a).1,(c b a).2⟩
 have d:Inv X pins σ (upd H s.heap.objs.size (.tup [x,y])) {s with heap:=s.heap.push {cls:=.type "tuple",data:=.seq #[u,v]},toks:=t'}:=
  I.laid (t':=t') (fun b o e=>vN _ e) (vB _) (show ObjOk X.prog X.w _ _ _ (.tup [x,y])from⟨(by show 2<=sizeLine;decide),[u,v],.cons i (.cons j .nil),IsTup.new _ _⟩)
 refine⟨d.turnedL (h':=h') (t':=t') f fun b o a e=>?_,f⟩;rcases Heap.get?_push_cases e with⟨rfl,rfl⟩ | e
 ·exact g
 ·exact k b o a e
end
def Ite(K:Frg)(a:Addr):It:=
 ⟨fun i H=>∃xs x,SqL K H a xs/\xs[i]?=some x,fun i H x H'=>∃T v,x = .ref T/\H T=none/\H'=upd H T (.tup [.int i,v])/\∀xs,SqL K H a xs->xs[i]?=some v,fun i H=>∃xs,SqL K H a xs/\xs.length<=i⟩
theorem j0Z{P:Program}{w:World}{K:Frg}{n:List Expr}{k:Nat}{pos:Pos}(a e it:Addr)(t:e≠it) :
  Turn P w K (.Tuple n k pos) (Ite K a) [e,it] e (fun i h=>(∃f,IsEnum h e it ((i:Nat):Int) f)/\h.IsListIter it a i) where
 mem:=by simp
 obj:=fun i h j b g=>by
  rcases(by simpa using g:b=e\/b=it)with rfl | rfl
  ·obtain⟨f,l⟩:=j.1;exact⟨_,l,fun v z=>by cases z⟩
  ·obtain⟨o,e,c,d⟩:=j.2;exact⟨o,e,fun v z=>by rw[d]at z;cases z⟩
 keep:=fun i h h' j k=>⟨let ⟨f,l⟩:=j.1;⟨f,k e (by simp) _ l⟩,j.2.at fun o q=>k it (by simp) o q⟩
 item:=by
  intro X D L C R i A s σ H E I G j J;subst D L C;obtain⟨xs,x,B,M⟩:=J;obtain⟨N,O,p,hz⟩:=I.list B;obtain⟨u,hu,ru⟩:=O.get M;obtain⟨⟨f,l⟩,m⟩:=j;have le:e<s.heap.objs.size:=vM l;have li:it<s.heap.objs.size:=by obtain⟨o,q,_⟩:=id m;exact vM q
  refine wpAny_pyNext_enum_item l m p.isList (x:=u) (by simpa using hu) t fun h' ho r Z a0 hk=>?_
  obtain⟨T,Q⟩:=I.pair (t':=s.toks+1) (ch:=[e,it]) (x:=.int i) (y:=x) G (fun b g=>by rcases(by simpa using g:b=e\/b=it)with rfl | rfl<;>assumption) ⟨s.toks,rfl⟩ ru Z
   (fun b o g q=>hk b o (fun z=>g (by simp[z])) (fun z=>g (by simp[z])) q)
  refine⟨_,rfl,wpAny_letOwnedTupleGo_enum ho fun Y F S=>?_⟩;have U:=T.turnedL (h':=Y) (t':=s.toks+1) (ch:=[e,it]) Q fun b o g q=>(S.2 b fun z=>g (by simp[z])).trans q
  exact⟨.ref s.heap.objs.size,_,U,rfl,⟨_,x,rfl,I.hok.fresh (vB _),rfl,fun ys hy=>by rw[I.list_inj hy B];exact M⟩,
   ⟨⟨u,by simpa using F⟩,r.at fun o q=>(S.2 it t.symm).trans q⟩,fun b g=>(Q b g).1⟩
 done:=by
  intro X D L C R i A s σ H E I G j J;subst D L C;obtain⟨xs,B,M⟩:=J;obtain⟨N,O,p,hz⟩:=I.list B;obtain⟨⟨f,l⟩,m⟩:=j;have hl:=O.length;exact wpAny_pyNext_enum_end (I.ok.hd R) l m p.isList (by simp;lia) fun h' W=>⟨rfl,I.turnedL (t':=s.toks) (ch:=[e,it]) G fun b o g q=>W b o (fun z=>g (by simp[z])) q⟩
 self:=fun _ _ _ _ _ j h=>let ⟨_,l⟩:=j.1;wpAny_pyIter_enum l h
def iEnum(K:Frg)(ta:TA):TI:=fun σ H R=>ta σ H fun vs H1=>∃a xs,vs=[.ref a]/\SqL K H1 a xs/\R (Ite K a) H1
theorem yW{X:Cx}{a:Expr}{m:TA}{f:List Expr}{k:Nat}{p pos i:Pos}(t:Gl X "enumerate")(w:X.mg "enumerate"= none)(o:PA X [a] m)(y:starEach [a] X.env=[(false,eval a X.env)]:=by rfl) :
  PI X (.Tuple f k i) (.Call (.Name "enumerate" p) [a] [] pos) (iEnum X.K m):=by
 intro g s E H R I h;refine Call_ (Qa I t w yK (PyProof.Rows.callWith_type1 (thn (o pos g s E H _ I h) fun K e ⟨L,n,d,C,B⟩=>?_) y rfl));obtain⟨b,M,rfl,x,q⟩:=B;obtain⟨u,rfl,D⟩:=vals1 C;cases D;obtain⟨A,J,p,G⟩:=d.list x;refine call_enumerate_list p.isList fun F l j z v=>?_
 refine wpAny_pyIter_enum l ?_;refine⟨e.heap.objs.size+1,[e.heap.objs.size+1,e.heap.objs.size],_,_,n,rfl,d.kept (t':=e.toks) v,j0Z b _ _ (Nat.succ_ne_self _),⟨⟨_,by simpa using l⟩,j⟩,fun c r=>?_,q⟩;rcases(by simpa using r:c=e.heap.objs.size+1\/c=e.heap.objs.size)with rfl | rfl
 ·exact d.fpOk (Nat.le_succ _) (d.hok.fresh (Nat.le_succ _))
 ·exact d.fpOk (vB _) (d.hok.fresh (vB _))
theorem kI{K:Frg}{a:Addr}{xs:List V}{g:TG}{l:TS}{D:Ends}{c:St}{H:Hp}(d:Nat->St->Hp->Prop)(n:d 0 c H)(u:∀i c H,i<=xs.length->d i c H->SqL K H a xs)
  (w:∀i v c H T H',xs[i]?=some v->d i c H->Same H H'->H' T=some (.tup [.int i,v])->g (.ref T) c H' fun f H2=>l {D with nx:=d (i+1),ct:=d (i+1),bk:=D.nx} f H2) (s:∀c H,d xs.length c H->D.nx c H) :
  ∃W:Nat->Nat->St->Hp->Prop,(∃m,W 0 m c H)/\∀i m c H,W i m c H->
   ((Ite K a).stop i H/\D.nx c H)\/((Ite K a).go i H/\∃N:St->Hp->Prop,(∀σ' H',N σ' H'->∃k,k<m/\W (i+1) k σ' H')/\∀x H',(Ite K a).yld i H x H'->g x c H' fun f H2=>l {D with nx:=N,ct:=N,bk:=D.nx} f H2):=by
 refine⟨fun i m c H=>m=xs.length-i/\i<=xs.length/\d i c H,⟨xs.length,by simp,vC _,n⟩,?_⟩;rintro i m c H ⟨rfl,t,p⟩;have q:=u i c H t p;by_cases j:i<xs.length
 ·refine .inr ⟨⟨xs,xs[i],q,by simp[j]⟩,d (i+1),fun σ' H' z=>⟨xs.length-(i+1),by lia,rfl,j,z⟩,fun x H' y=>?_⟩;obtain⟨T,v,rfl,r,e,y⟩:=y;exact w i v c H T H' (y xs q) p (fun b o h=>by rw[e,jg (jd h r)];exact h) (by rw[e];exact ji)
 ·have e:i=xs.length:=by lia
  subst e;exact .inl ⟨⟨xs,q,vB _⟩,s c H p⟩
theorem rd_iEnum{K:Frg}{b:TA}{c:St}{H:Hp}{R:It->Hp->Prop}(h:b c H fun vs H1=>∃a xs,vs=[.ref a]/\SqL K H1 a xs/\R (Ite K a) H1):iEnum K b c H R:=h
def Itz(K:Frg)(a b:Addr):It:=
 ⟨fun i H=>∃xs x ys y,SqL K H a xs/\xs[i]?=some x/\SqL K H b ys/\ys[i]?=some y,
  fun i H x H'=>∃T u v,x = .ref T/\H T=none/\H'=upd H T (.tup [u,v])/\(∀xs,SqL K H a xs->xs[i]?=some u)/\∀ys,SqL K H b ys->ys[i]?=some v,
  fun i H=>∃xs ys,SqL K H a xs/\SqL K H b ys/\(xs.length<=i\/ys.length<=i)⟩
theorem qC{h:Heap}{a b:Addr}{o u:Obj}(d:h.get? a=some o)(c:h.get? b=some u)(f:o.cls≠u.cls):a≠b:=fun e=>by
 subst e;rw[d]at c;cases c;exact f rfl
theorem j2c{P:Program}{w:World}{K:Frg}{T:List Expr}{k:Nat}{pos:Pos}(t A z TI TO l m:Addr)
  (D:∀t A,t≠z->t≠TO->t≠l->t≠m->A≠z->A≠TO->A≠l->A≠m->ZipApart z TI TO l m t A) :
  Turn P w K (.Tuple T k pos) (Itz K t A) [z,TI,TO,l,m] z (fun i h=>IsZip h z TI TO .none/\IsPair h TI (.ref l) (.ref m)/\(∃a b,IsPair h TO a b)/\h.IsListIter l t i/\h.IsListIter m A i) where
 mem:=by simp
 obj:=fun i h M b j=>by
  obtain⟨n,g,⟨a,c,f⟩,J,L⟩:=M;rcases(by simpa using j:b=z\/b=TI\/b=TO\/b=l\/b=m)with rfl | rfl | rfl | rfl | rfl
  ·exact⟨_,n,fun v z=>by cases z⟩
  ·exact⟨_,g,fun v z=>by cases z⟩
  ·exact⟨_,f,fun v z=>by cases z⟩
  ·obtain⟨o,e,c,d⟩:=J;exact⟨o,e,fun v z=>by rw[d]at z;cases z⟩
  ·obtain⟨o,e,c,d⟩:=L;exact⟨o,e,fun v z=>by rw[d]at z;cases z⟩
 keep:=fun i h h' M k=>by
  obtain⟨n,g,⟨a,c,f⟩,J,L⟩:=M;exact⟨k z (by simp) _ n,k TI (by simp) _ g,⟨a,c,k TO (by simp) _ f⟩,J.at fun o q=>k l (by simp) o q,L.at fun o q=>k m (by simp) o q⟩
 item:=by
  intro X hP hw hK hc i W s σ H E I hf M hg;subst hP hw hK;obtain⟨xs,x,ys,y,hq,hx,hr,hy⟩:=hg;obtain⟨a8,rv,p,_⟩:=I.list hq;obtain⟨a9,N,U,_⟩:=I.list hr;obtain⟨u,hu,ru⟩:=rv.get hx;obtain⟨v,hv,aa⟩:=N.get hy;obtain⟨n,g,⟨a,c,f⟩,J,L⟩:=M;obtain⟨o1,n1,F,B,_⟩:=id p;obtain⟨o2,n2,G,C,_⟩:=id U;obtain⟨o3,O,R,_⟩:=id J;obtain⟨o4,Q,S,_⟩:=id L;have r:=D t A (qC F n (by rw[B];show Value.type "list"≠Value.type "zip";decide)) (qC F f (by rw[B];show Value.type "list"≠Value.type "tuple";decide)) (qC F O (by rw[B,R];decide)) (qC F Q (by rw[B,S];decide))
   (qC G n (by rw[C];show Value.type "list"≠Value.type "zip";decide)) (qC G f (by rw[C];show Value.type "list"≠Value.type "tuple";decide)) (qC G O (by rw[C,R];decide)) (qC G Q (by rw[C,S];decide))
  have lt:∀b∈[z,TI,TO,l,m],b<s.heap.objs.size:=fun b j=>by
   rcases(by simpa using j:b=z\/b=TI\/b=TO\/b=l\/b=m)with rfl | rfl | rfl | rfl | rfl
   ·exact vM n
   ·exact vM g
   ·exact vM f
   ·exact vM O
   ·exact vM Q
  refine wpAny_pyNext_zip_item r n g f J L p.isList U.isList (x:=u) (y:=v) (by simpa using hu) (by simpa using hv) fun h' a1 a2 a3 a4 a5 a6 Z=>?_
  obtain⟨I1,f1⟩:=I.pair (t':=s.toks) (ch:=[z,TI,TO,l,m]) (x:=x) (y:=y) hf lt ru aa a5
   (fun b o j q=>Z b o (fun e=>j (by simp[e])) (fun e=>j (by simp[e])) (fun e=>j (by simp[e])) (fun e=>j (by simp[e])) q)
  refine⟨_,rfl,wpAny_letOwnedTupleGo_zip a1 fun h3 a7 Y=>?_⟩;have I2:=I1.turnedL (h':=h3) (t':=s.toks) (ch:=[z,TI,TO,l,m]) f1 fun b o j q=>(Y.2 b fun e=>j (by simp[e])).trans q
  exact⟨.ref s.heap.objs.size,_,I2,rfl,⟨_,x,y,rfl,I.hok.fresh (vB _),rfl,(fun ys hy=>by rw[I.list_inj hy hq];exact hx),fun ys a0=>by rw[I.list_inj a0 hr];exact hy⟩,
   ⟨a7,(Y.2 TI r.TIz).trans (Z TI _ r.TIz r.TITO r.TIi1 r.TIi2 g),⟨_,_,(Y.2 TO r.TOz).trans a2⟩,a3.at fun o q=>(Y.2 l r.i1z).trans q,a4.at fun o q=>(Y.2 m r.i2z).trans q⟩,fun b j=>(f1 b j).1⟩
 done:=by
  intro X hP hw hK hc i W s σ H E I hf M hg;subst hP hw hK;obtain⟨xs,ys,hq,hr,hl⟩:=hg;obtain⟨a8,rv,p,_⟩:=I.list hq;obtain⟨a9,N,U,_⟩:=I.list hr;obtain⟨n,g,⟨a,c,f⟩,J,L⟩:=M;obtain⟨o1,n1,F,B,_⟩:=id p;obtain⟨o2,n2,G,C,_⟩:=id U;obtain⟨o3,O,R,_⟩:=id J;obtain⟨o4,Q,S,_⟩:=id L;have r:=D t A (qC F n (by rw[B];show Value.type "list"≠Value.type "zip";decide)) (qC F f (by rw[B];show Value.type "list"≠Value.type "tuple";decide)) (qC F O (by rw[B,R];decide)) (qC F Q (by rw[B,S];decide))
   (qC G n (by rw[C];show Value.type "list"≠Value.type "zip";decide)) (qC G f (by rw[C];show Value.type "list"≠Value.type "tuple";decide)) (qC G O (by rw[C,R];decide)) (qC G Q (by rw[C,S];decide))
  have ab:=rv.length;have ac:=N.length;refine wpAny_pyNext_zip_end (I.ok.hd hc) r n g f J L p.isList U.isList ?_ fun h' Z=>⟨rfl,I.turnedL (t':=s.toks) (ch:=[z,TI,TO,l,m]) hf fun b o j q=>Z b o (fun e=>j (by simp[e])) (fun e=>j (by simp[e])) (fun e=>j (by simp[e])) (fun e=>j (by simp[e])) q⟩
  rcases hl with q | q
  ·exact .inl (by simp;lia)
  ·exact .inr (by simp;lia)
 self:=fun _ _ _ _ _ M h=>wpAny_pyIter_zip M.1 h
theorem jz{n i j:Nat}(h:i≠j):n+i≠n+j:=fun e=>h (Nat.add_left_cancel e)
def iZip(K:Frg)(ta:TA):TI:=fun σ H R=>ta σ H fun vs H1=>∃a b xs ys,vs=[.ref a,.ref b]/\SqL K H1 a xs/\SqL K H1 b ys/\R (Itz K a b) H1
theorem j3V{X:Cx}{a b:Expr}{v:TA}{f:List Expr}{k:Nat}{p pos n:Pos}(N:Gl X "zip")(P:X.mg "zip"= none)(L:PA X [a,b] v)(T:starEach [a,b] X.env=[(false,eval a X.env),(false,eval b X.env)]:=by rfl)(l:starEach [b] X.env=[(false,eval b X.env)]:=by rfl) :
  PI X (.Tuple f k n) (.Call (.Name "zip" p) [a,b] [] pos) (iZip X.K v):=by
 intro m s σ H R I h;refine Call_ (Qa I N P wj (PyProof.Rows.callWith_type1 (thn (L pos m s σ H _ I h) fun us d ⟨vs,w,e,r1,q1⟩=>?_) (by rw[T,l]) (by rw[l];rfl)));obtain⟨t,u,xs,ys,rfl,Q,S,q⟩:=q1;cases r1 with
 | cons r rr=>
  cases rr with
  | cons r' rr=>
   cases rr;cases r;cases r';obtain⟨W,rv,p,hz⟩:=e.list Q;obtain⟨Y,a0,Z,U⟩:=e.list S;refine call_zip_2 p.isList Z.isList fun h' o x y z A a6 O=>?_
   refine wpAny_pyIter_zip o ?_;refine⟨d.heap.objs.size+4,[d.heap.objs.size+4,d.heap.objs.size+2,d.heap.objs.size+3,d.heap.objs.size,d.heap.objs.size+1],_,_,w,rfl,e.kept (t':=d.toks) O,
    j2c t u _ _ _ _ _ (fun t u B C D E F G J K=>⟨jz (by decide),jz (by decide),jz (i:=0) (by decide),jz (by decide),jz (by decide),jz (j:=0) (by decide),jz (by decide),jz (j:=0) (by decide),jz (by decide),jz (i:=0) (by decide),B,C,D,E,F,G,J,K⟩),⟨o,x,⟨_,_,y⟩,z,A⟩,fun c M=>?_,q⟩
   have g:d.heap.objs.size<=c:=by
    rcases(by simpa using M:c=d.heap.objs.size+4\/c=d.heap.objs.size+2\/c=d.heap.objs.size+3\/c=d.heap.objs.size\/c=d.heap.objs.size+1)with rfl | rfl | rfl | rfl | rfl<;>lia
   exact e.fpOk g (e.hok.fresh g)
theorem j2D{K:Frg}{a b:Addr}{xs ys:List V}{g:TG}{r:TS}{D:Ends}{c:St}{H:Hp}(d:Nat->St->Hp->Prop)(l:xs.length=ys.length)(s:d 0 c H)(A:∀i c H,i<=xs.length->d i c H->SqL K H a xs/\SqL K H b ys)
  (B:∀i u v c H T H',xs[i]?=some u->ys[i]?=some v->d i c H->Same H H'->H' T=some (.tup [u,v])->g (.ref T) c H' fun f H2=>r {D with nx:=d (i+1),ct:=d (i+1),bk:=D.nx} f H2) (w:∀c H,d xs.length c H->D.nx c H) :
  ∃W:Nat->Nat->St->Hp->Prop,(∃m,W 0 m c H)/\∀i m c H,W i m c H->
   ((Itz K a b).stop i H/\D.nx c H)\/((Itz K a b).go i H/\∃N:St->Hp->Prop,(∀σ' H',N σ' H'->∃n,n<m/\W (i+1) n σ' H')/\∀x H',(Itz K a b).yld i H x H'->g x c H' fun f H2=>r {D with nx:=N,ct:=N,bk:=D.nx} f H2):=by
 refine⟨fun i m c H=>m=xs.length-i/\i<=xs.length/\d i c H,⟨xs.length,by simp,vC _,s⟩,?_⟩;rintro i m c H ⟨rfl,z,p⟩;obtain⟨q,k⟩:=A i c H z p;by_cases j:i<xs.length
 ·refine .inr ⟨⟨xs,xs[i],ys,ys[i],q,by simp[j],k,by simp⟩,d (i+1),fun σ' H' C=>⟨xs.length-(i+1),by lia,rfl,j,C⟩,fun x H' y=>?_⟩;obtain⟨T,u,v,rfl,t,e,y,E⟩:=y;exact B i u v c H T H' (y xs q) (E ys k) p (fun b o h=>by rw[e,jg (jd h t)];exact h) (by rw[e];exact ji)
 ·have e:i=xs.length:=by lia
  subst e;exact .inl ⟨⟨xs,ys,q,k,.inl (vB _)⟩,w c H p⟩
theorem rd_iZip{K:Frg}{c:TA}{d:St}{H:Hp}{R:It->Hp->Prop}(h:c d H fun vs H1=>∃a b xs ys,vs=[.ref a,.ref b]/\SqL K H1 a xs/\SqL K H1 b ys/\R (Itz K a b) H1):iZip K c d H R:=h
theorem KN:entryFor table "dict.update.loop"= some Builtin.«dict.update.loop»:=entryFor_of_tree (by kernel_rfl)
theorem ZU:plainId "dict.update.loop"= true:=by decide +kernel
theorem j0H:typeLookup (.type "list") "keys"= pure none:=by rw[typeLookup_type,builtinLookup_eq_fast];kernel_rfl
section
variable{prog:Program}{w:World}{A:Around}{E:Value->Shared->Prop}{s:Shared}
theorem noKeys{Q:Option Value->Shared->Prop}(p:s.heap.get? a=some o)(m:o.cls = .type "list")(f:o.data = .seq xs k)(n:o.dict=none)(t:A.handled=none)
  (h:∀h' tk,(∀b o,s.heap.get? b=some o->h'.get? b=some o)->Q none {s with heap:=h',toks:=tk}):wpAny (model prog w) A (getAttr? (.ref a) "keys") Q E s:=by
 obtain⟨c,r,q,x⟩:=o;simp only at m f n;subst m f n;obtain⟨u,g,d,tk,v⟩:=s;have l:∀j,(⟨u,g,d,j,v⟩:Shared).TypeIs (.ref a) "list":=fun _=>⟨_,p,rfl⟩
 have y:=sub_AttributeError;have z:=F.slot_list_getattribute.lookup;have B:=F.slot_list_getattribute.bind (.ref a);have C:=am_list_getattr_none;unfold getAttr? getAttrBy? getAttrBy
 repeat (any_goals (first | assumption | exact l _ | ((with_reducible show wpAny _ _ (call (Value.builtin "list.__getattribute__") _ _) _ _ _);refine call_meets F.slot_list_getattribute (l _) am_entry_list_getattribute (F.args_list_getattribute_2 _ _) (meets_getattribute_miss_list a xs k x "keys" _ j0H (by decide +kernel) (by decide +kernel)) ⟨p,t,fun h' j e i=>?_⟩) | wp_step))
 obtain⟨G,H,D⟩:=i.there;show wpAny _ _ (getattributeRaised _ _ _ _ _ _ _) _ _ _;unfold getattributeRaised
 repeat (any_goals (first | assumption | wp_step))
 exact h _ _ i.keeps
variable{K:Type}[DecidableEq K]{knd:KeyKind prog w K}
noncomputable def foldS(acc:List (K×Value))(ps:List (K×Value)):List (K×Value):=ps.foldl (fun acc kv=>stored acc kv.1 kv.2) acc
theorem XB(a:List (K×Value))(k:K)(v:Value):(stored a k v).length<=a.length+1:=by
 unfold stored;split
 ·rw[vt];exact Nat.le_succ _
 ·rw[vm];exact vB _
theorem dul{R:Result->Shared->Prop}{d it l:Addr}{items:List Value}{res:Value}(N:A.handled=none)(h:d≠it)(q:d≠l)(r:it≠l) :
  ∀(ps:List (K×Value)) (i:Nat) (c:List (K×Value)) (s:Shared),s.heap.IsListIter it l i->s.heap.IsList l items.toArray->(items.length=i+ps.length)->
   (∀j kv,ps[j]?=some kv->∃a key,items[i+j]?=some (.ref a)/\IsTup s.heap a #[key,kv.2]/\knd.is kv.1 key=true/\a≠d/\a≠it)->s.heap.DictOf knd d c->c.length+ps.length<=sizeLine->
   (∀h' tk,(∀b o,b≠d->b≠it->s.heap.get? b=some o->h'.get? b=some o)->h'.DictOf knd d (foldS c ps)->R (.ok (.ret res)) {s with heap:=h',toks:=tk})->
   codeAny (model prog w) A (.builtin "dict.update.loop" ⟨[.ref d,.ref it,rawInt i,res],[]⟩) R s
 | [],i,c,s,hit,hl,hn,hp,hd,hz,hR=>by
  refine codeAny_builtin KN ?_;rw[Around.under_plainId ZU _];show wpAny _ A.in1 (pyNext (.ref it) >>= _) _ _ s;refine ug (wpAny_pyNext_list_end (A:=A.in1) N hit hl (by simp;simp at hn;lia) fun h' M=>?_);show wpAny _ A.in1 (Builtin.Dict.addKeywords d [] >>= _) _ _ _;refine ug (uf (uf (hR h' s.toks (fun b o _ C e=>M b o C e) ?_)));exact hd.extBut M h
 | kv::ps,i,c,s,hit,hl,hn,hp,hd,hz,hR=>by
  obtain⟨a,key,W,ht,Z,X,B⟩:=hp 0 kv rfl;refine codeAny_builtin KN ?_;rw[Around.under_plainId ZU _];show wpAny _ A.in1 (pyNext (.ref it) >>= _) _ _ s;refine ug (wpAny_pyNext_list_item (A:=A.in1) hit hl (x:=.ref a) (by simpa using W) fun y t L=>?_);obtain⟨ot,Q,oc,n,od⟩:=ht;have p:y.get? a=some ot:=(L.2 a B).trans Q;show wpAny _ A.in1 (holding [Value.ref a] _ >>= _) _ _ _;refine ug (wpAny_holding ?_);refine ug (wpAny_tryCatch ?_);unfold Builtin.Dict.pairItems;refine ug (wpAny_typeOf (T:="tuple") ⟨_,p,oc⟩ ?_);show wpAny _ A.in1 (if((Value.type "tuple"== Value.type "list")||(Value.type "tuple"== Value.type "tuple"))=true then _ else _) _ _ _;rw[va (by decide)];refine ug (wpAny_seqItems p od ?_);refine uf ?_;show wpAny _ A.in1 (holding [key,kv.2] (dictSet d key kv.2)) _ _ _;have D:y.DictOf knd d c:=hd.extBut (fun b o C e=>(L.2 b C).trans e) h;refine wpAny_holding (wpAny_dictSet_pairs (s:={s with heap:=y}) Z D (fun S E v=>?_) (by simp at hz;lia));show wpAny _ A.in1 (again _) _ _ _;refine uf ⟨plainId_quiet ZU _,?_⟩;have I:∀b o,b≠d->b≠it->s.heap.get? b=some o->S.get? b=some o:=fun b o f g e=>(v.2 b f).trans ((L.2 b g).trans e)
  have sl:=XB c kv.1 kv.2;refine dul N h q r ps (i+1) (stored c kv.1 kv.2) _ (t.at fun o e=>(v.2 it h.symm).trans e) (hl.at fun o e=>I l o q.symm r.symm e) (by simp at hn;lia) (fun j J Y=>?_) E (by simp at hz;lia) fun U tk k3 F=>?_
  ·obtain⟨O,u,z,H,G,k,m⟩:=hp (j+1) J (by simpa using Y);obtain⟨o',P,r'⟩:=H;exact⟨O,u,by rw[<-z];congr 1;lia,⟨o',I _ _ k m P,r'⟩,G,k,m⟩
  ·exact hR U tk (fun b o f g e=>k3 b o f g (I b o f g e)) F
end
open PySem PySem.W PyProof.Rows
section
variable{n:Nat}{key:Nat->Int}{p:Array Nat}
noncomputable def Tw(n:Nat)(key:Nat->Int){α:Type}:KasT α->(α->Prop)->Prop
 | .ret a,Q=>Q a
 | .ask i j k,Q=>i<n/\j<n/\Tw n key (k (decide (key i<key j))) Q
theorem Tw.bind{b c:Type}{f:b->KasT c}{Q:c->Prop}:∀{t:KasT b},Tw n key t (fun a=>Tw n key (f a) Q)->Tw n key (t.bind f) Q
 | .ret _,h=>h
 | .ask _ _ _,h=>⟨h.1,h.2.1,Tw.bind h.2.2⟩
theorem Tw.mono{d:Type}{Q b:d->Prop}(c:∀a,Q a->b a):∀{t:KasT d},Tw n key t Q->Tw n key t b
 | .ret _,h=>c _ h
 | .ask _ _ _,h=>⟨h.1,h.2.1,Tw.mono c h.2.2⟩
theorem Tw.run{d:Type}{b:Nat->Nat->(Bool->Shared->Prop)->Shared->Prop}{Q:d->Shared->Prop}(c:∀i j C,i<n->j<n->C (decide (key i<key j)) s->b i j C s) :
  ∀{t:KasT d},Tw n key t (fun a=>Q a s)->t.kasWp b Q s
 | .ret _,h=>h
 | .ask i j k,h=>c i j _ h.1 h.2.1 (Tw.run c h.2.2)
theorem Tw.asks{a:Type}{k:Bool->KasT a}{Q:a->Prop}(hi:i<n)(e:j<n)(b:key i<key j->Tw n key (k true) Q)(d:¬key i<key j->Tw n key (k false) Q):Tw n key (.ask i j k) Q:=by
 refine⟨hi,e,?_⟩;by_cases c:key i<key j
 ·rw[vK c];exact b c
 ·rw[vL c];exact d c
def Pk(n:Nat)(p:Array Nat):Prop:=p.toList.Perm (List.range n)
noncomputable def kv(key:Nat->Int)(p:Array Nat)(i:Nat):Int:=key (p.getD i 0)
def Up(key:Nat->Int)(p:Array Nat)(k:Nat):Prop:=∀i j,i<=j->j<k->kv key p i<=kv key p j
def Dn(key:Nat->Int)(p:Array Nat)(k:Nat):Prop:=∀i j,i<=j->j<k->kv key p j<=kv key p i
def Eqs(key:Nat->Int)(p:Array Nat)(m q:Nat):Prop:=∀k,m-(q+1)<=k->k<m->kv key p k=kv key p (m-1)
theorem Pk.size(h:Pk n p):p.size=n:=by have:=h.length_eq;simpa using this
theorem Pk.lt(h:Pk n p)(a:0<n)(i:Nat):p.getD i 0<n:=by
 rw[Array.getD_eq_getD_getElem?];cases e:p[i]? with
 | none=>exact a
 | some x=>exact v6.mp (h.mem_iff.mp (Array.mem_toList_iff.mpr (Array.mem_of_getElem? e)))
theorem Pk.of(h:Pk n p)(a:q.Perm p):Pk n q:=(Array.perm_iff_toList_perm.mp a).trans h
theorem Wz(h:a[i]?=b[j]?):kv key a i=kv key b j:=by
 unfold kv;rw[Array.getD_eq_getD_getElem?,Array.getD_eq_getD_getElem?,h]
theorem xW(a:j<=p.size)(k:Nat):kv key (kas_rev p i j) k=if i<=k/\k<j then kv key p (i+j-1-k)else kv key p k:=by
 have h:=getElem?_mirror_all (xs:=p) (i:=i) a k;split
 ·rename_i c;rw[va c]at h;exact Wz h
 ·rename_i c;rw[vA c]at h;exact Wz h
theorem j3I(b:src<p.size)(a:d<=src)(k:Nat):kv key (bubble p src d) k=if k=src-d then kv key p src else if src-d<k/\k<=src then kv key p (k-1)else kv key p k:=by
 have h:=getElem?_bubble (xs:=p) b d a k;split
 ·rename_i c;rw[va c]at h;exact Wz h
 ·rename_i c;rw[vA c]at h;split
  ·rename_i c';rw[va c']at h;exact Wz h
  ·rename_i c';rw[vA c']at h;exact Wz h
theorem Up.snoc(h:Up key p m)(d:1<=m)(f:¬kv key p m<kv key p (m-1)):Up key p (m+1):=fun i j a g=>by
 by_cases e:j<m
 ·exact h i j a e
 ·have c:j=m:=by lia
  subst c;by_cases b:i=j
  ·rw[b];exact Int.le_refl _
  ·have:=h i (j-1) (by lia) (by lia);lia
theorem Dn.snoc(h:Dn key p m)(d:1<=m)(f:kv key p m<=kv key p (m-1)):Dn key p (m+1):=fun i j a g=>by
 by_cases e:j<m
 ·exact h i j a e
 ·have c:j=m:=by lia
  subst c;by_cases b:i=j
  ·rw[b];exact Int.le_refl _
  ·have:=h i (j-1) (by lia) (by lia);lia
theorem j29(a:Pk n p):∀f m,1<=m->m+f<=n->Up key p m->Tw n key (kas_asc p f m) fun r=>m<=r/\r<=m+f/\Up key p r/\(r<m+f->kv key p r<kv key p (r-1))
 | 0,m,h1,hn,hu=>⟨vB _,vB _,hu,fun h=>ue h (Nat.lt_irrefl _)⟩
 | f+1,m,h1,hn,hu=>by
  refine Tw.asks (a.lt (by lia) _) (a.lt (by lia) _) (fun c=>?_) (fun c=>?_)<;>simp only[Bool.false_eq_true,if_true,if_false]
  ·exact⟨vB _,by lia,hu,fun _=>c⟩
  ·exact Tw.mono (fun r h=>⟨by lia,by lia,h.2.2.1,fun b=>h.2.2.2 (by lia)⟩) (j29 a f (m+1) (by lia) (by lia) (hu.snoc h1 c))
theorem X8(b:m<=p.size)(a:Eqs key p m q)(k:Nat):kv key (kas_rev p (m-(q+1)) m) k=kv key p k:=by
 rw[xW b];split
 ·rename_i c;rw[a k c.1 c.2,a _ (by lia) (by lia)]
 ·rfl
theorem Wa:∀f (p:Array Nat) m q,Pk n p->1<=m->m+f<=n->q+1<=m->Dn key p m->Eqs key p m q->
  Tw n key (kas_desc f p m q) fun r=>Pk n r.1/\m<=r.2.1/\r.2.1<=m+f/\Dn key r.1 r.2.1/\r.2.2+1<=r.2.1/\Eqs key r.1 r.2.1 r.2.2
 | 0,p,m,q,hp,h1,hn,hq,hd,he=>⟨hp,vB _,vB _,hd,hq,he⟩
 | f+1,p,m,q,hp,h1,hn,hq,hd,he=>by
  have t:=hp.size;refine Tw.asks (hp.lt (by lia) _) (hp.lt (by lia) _) (fun c=>?_) (fun c=>?_)<;>simp only[Bool.false_eq_true,if_true,if_false]
  ·have c:kv key p m<kv key p (m-1):=c;split
   ·have g:=X8 (key:=key) (p:=p) (m:=m) (q:=q) (by lia) he;have d:Pk n (kas_rev p (m-(q+1)) m):=hp.of (mirror_perm _ _ _ _);refine Tw.mono (fun r h=>⟨h.1,by lia,by lia,h.2.2.2⟩) (Wa f _ (m+1) 0 d (by lia) (by lia) (by lia) (fun i j b s=>?_) fun k l o=>?_)
    ·rw[g,g];exact hd.snoc h1 (by lia) i j b s
    ·rw[show k=m+1-1 by lia]
   ·refine Tw.mono (fun r h=>⟨h.1,by lia,by lia,h.2.2.2⟩) (Wa f p (m+1) 0 hp (by lia) (by lia) (by lia) (hd.snoc h1 (by lia)) fun k l o=>?_);rw[show k=m+1-1 by lia]
  ·have c:¬kv key p m<kv key p (m-1):=c;refine Tw.asks (hp.lt (by lia) _) (hp.lt (by lia) _) (fun a=>?_) (fun a=>?_)<;>simp only[Bool.false_eq_true,if_true,if_false]
   ·exact⟨hp,vB _,Nat.le_add_right m (f+1),hd,hq,he⟩
   ·have a:¬kv key p (m-1)<kv key p m:=a;refine Tw.mono (fun r h=>⟨h.1,by lia,by lia,h.2.2.2⟩) (Wa f p (m+1) (q+1) hp (by lia) (by lia) (by lia) (hd.snoc h1 (by lia)) fun k l o=>?_);rw[Nat.add_sub_cancel];by_cases e:k=m
    ·rw[e]
    ·rw[he k (by lia) (by lia)];lia
theorem j2b(c:Pk n p)(d:1<=m)(k:m<=n)(e:Dn key p m):Tw n key (kas_tail3 m n p) fun r=>Pk n r.2/\1<=r.1/\r.1<=n/\Up key r.2 r.1:=by
 have l:=c.size;have a:Pk n (kas_rev p 0 m):=c.of (mirror_perm _ _ _ _);have b:=xW (key:=key) (p:=p) (i:=0) (j:=m) (by lia);refine Tw.bind (Tw.mono (fun r h=>?_) (j29 a (n-m) m d (by lia) fun i j f g=>?_))
 ·exact⟨a,by lia,by lia,h.2.2.1⟩
 ·rw[b,b,va ⟨vC _,by lia⟩,va ⟨vC _,g⟩];exact e _ _ (by lia) (by lia)
theorem j2a(t:Pk n p)(u:m+1<=n)(o:Dn key p (m+1)):Tw n key (kas_descPart m n p) fun r=>Pk n r.2/\1<=r.1/\r.1<=n/\Up key r.2 r.1:=by
 refine Tw.bind (Tw.mono (fun r h=>?_) (Wa (n-(m+1)) p (m+1) 0 t (by lia) (by lia) (by lia) o fun k v w=>by rw[show k=m+1-1 by lia]));obtain⟨a,b,c,d,e,g⟩:=h;have x:=a.size;split
 ·have l:=X8 (key:=key) (p:=r.1) (m:=r.2.1) (q:=r.2.2) (by lia) g;exact j2b (a.of (mirror_perm _ _ _ _)) (by lia) (by lia) fun i j f s=>by rw[l,l];exact d i j f s
 ·exact j2b a (by lia) (by lia) d
theorem j3b(g:Pk n p)(t:1<=n):Tw n key (kas_count n p) fun r=>Pk n r.2/\1<=r.1/\r.1<=n/\Up key r.2 r.1:=by
 have y:=g.size;refine Tw.bind (Tw.mono (fun r h=>?_) (j29 (key:=key) g (n-1) 1 (by lia) (by lia) fun i j l m=>by rw[show i=j by lia];exact Int.le_refl _));obtain⟨a,b,c,d⟩:=h;split
 ·exact⟨g,a,by lia,c⟩
 rename_i hne;have w:r<n:=by
  have:r≠n:=fun e=>hne (by rw[e];simp)
  lia
 have d:=d (by lia);split
 ·refine Tw.asks (g.lt (by lia) _) (g.lt (by lia) _) (fun q=>?_) (fun q=>?_)<;>simp only[Bool.false_eq_true,if_true,if_false]
  ·exact⟨g,a,by lia,c⟩
  ·have q:¬kv key p 0<kv key p (r-1):=q;have v:=xW (key:=key) (p:=p) (i:=0) (j:=r) (by lia);have f:∀i,i<r->kv key p i=kv key p (r-1):=fun i u=>by
    have t:=c 0 i (vC _) u;have x:=c i (r-1) (by lia) (by lia);lia
   have k:∀i,kv key (kas_rev p 0 r) i=kv key p i:=fun i=>by
    rw[v];split
    ·rename_i q';rw[f _ q'.2,f _ (by lia)]
    ·rfl
   refine j2a (g.of (mirror_perm _ _ _ _)) (by lia) fun i j l m=>?_
   rw[k,k];by_cases e:j=r
   ·by_cases o:i=r
    ·rw[e,o];exact Int.le_refl _
    ·rw[e,f i (by lia)];lia
   ·rw[f i (by lia),f j (by lia)];exact Int.le_refl _
 ·have s:r=1:=by lia
  subst s;refine j2a g (by lia) fun i j l m=>?_
  rcases(by lia:(i=0/\j=0)\/(i=0/\j=1)\/(i=1/\j=1))with⟨rfl,rfl⟩ | ⟨rfl,rfl⟩ | ⟨rfl,rfl⟩
  ·exact Int.le_refl _
  ·have:kv key p 1<kv key p (1-1):=d;exact Int.le_of_lt this
  ·exact Int.le_refl _
theorem Wb(e:Pk n p)(c:k<n)(g:Up key p k):∀f l r,l<=r->r<=k->r-l<=f->(∀i,i<l->kv key p i<=kv key p k)->(∀i,r<=i->i<k->kv key p k<kv key p i)->
  Tw n key (kas_place p k f l r) fun m=>m<=k/\(∀i,i<m->kv key p i<=kv key p k)/\∀i,m<=i->i<k->kv key p k<kv key p i
 | 0,l,r,h1,h2,h3,a,b=>⟨by lia,a,fun i d=>b i (by lia)⟩
 | f+1,l,r,h1,h2,h3,a,b=>by
  unfold kas_place;split
  ·exact⟨by lia,a,fun i d=>b i (by lia)⟩
  refine Tw.asks (e.lt (by lia) _) (e.lt (by lia) _) (fun q=>?_) (fun q=>?_)<;>simp only[Bool.false_eq_true,if_true,if_false]
  ·have q:kv key p k<kv key p ((l+r)/2):=q;exact Wb e c g f l _ (by lia) (by lia) (by lia) a fun i d h=>by
    have:=g ((l+r)/2) i d h;lia
  ·have q:¬kv key p k<kv key p ((l+r)/2):=q;exact Wb e c g f _ r (by lia) h2 (by lia) (fun i d=>by
    have:=g i ((l+r)/2) (by lia) (by lia);lia) b
theorem j3m:∀f (p:Array Nat) k,Pk n p->k+f<=n->Up key p k->Tw n key (kas_bin f p k) fun q=>Pk n q/\Up key q (k+f)
 | 0,p,k,hp,hn,hu=>⟨hp,hu⟩
 | f+1,p,k,hp,hn,hu=>by
  have t:=hp.size;refine Tw.bind (Tw.mono (fun l h=>?_) (Wb hp (by lia) hu k 0 k (vC _) (vB _) (by lia) (fun i o=>ue o (Nat.not_lt_zero _)) fun i e m=>ue e (by lia)));obtain⟨a,b,c⟩:=h;have g:=j3I (key:=key) (p:=p) (src:=k) (d:=k-l) (by lia) (by lia);refine Tw.mono (fun q h=>⟨h.1,by rw[show k+(f+1)=k+1+f by lia];exact h.2⟩) (j3m f _ (k+1) (hp.of (bubble_perm _ _ _)) (by lia) fun i j r s=>?_);rw[g,g,show k-(k-l)=l by lia]
  repeat' split
  all_goals first
   | exact Int.le_refl _
   | (exfalso;lia)
   | exact Int.le_of_lt (c _ (by lia) (by lia))
   | exact b _ (by lia)
   | exact hu _ _ (by lia) (by lia)
   | (have e:=b i (by lia);have m:=c (j-1) (by lia) (by lia);lia)
theorem j44(f:1<=n):Tw n key (kas_sort n) fun q=>Pk n q/\Up key q n:=by
 have g:Pk n (List.toArray (List.range n)):=List.Perm.refl _;refine Tw.bind (Tw.mono (fun r h=>?_) (j3b (key:=key) g f));obtain⟨a,b,c,d⟩:=h;split
 ·refine Tw.mono (fun q h=>⟨h.1,?_⟩) (j3m (n-max r.1 1) r.2 (max r.1 1) a (by lia) (by rw[show max r.1 1=r.1 by lia];exact d));have e:max r.1 1+(n-max r.1 1)=n:=by lia
  rw[e]at h;exact h.2
 ·have e:r.1=n:=by lia
  exact⟨a,by rw[<-e];exact d⟩
end
section
variable{prog:Program}{w:World}{A:Around}{E:Value->Shared->Prop}{s:Shared}
def PrAt(h:Heap)(as:List Addr)(key:Nat->Int):Prop:=∀i a,as[i]?=some a->∃o t u n,h.get? a=some o/\o.cls = .type "tuple"/\o.data = .seq #[.int (key i) t,u] n
theorem PrAt.keep{key:Nat->Int}(x:PrAt h as key)(k:∀a∈as,∀o,h.get? a=some o->h'.get? a=some o):PrAt h' as key:=fun i a e=>by
 obtain⟨o,t,u,n,q,r⟩:=x i a e;exact⟨o,t,u,n,k a (vj e) _ q,r⟩
theorem j4j{key:Nat->Int}(x:PrAt s.heap as key)(d:∀i j,i<as.length->j<as.length->key i=key j->i=j){C:Bool->Shared->Prop}(hi:i<as.length)(b:j<as.length)
  (h:C (decide (key i<key j)) s):kas_ask prog w A (tuples' true) (as.map Value.ref) i j C s:=by
 unfold kas_ask;obtain⟨o,t,u,n,k,B,f⟩:=x i _ (vz hi);obtain⟨y,z,m,E,l,D,g⟩:=x j _ (vz b);have p:(as.map Value.ref).getD i Value.none = .ref as[i]:=by rw[vy,vv,vz hi];rfl
 have q:(as.map Value.ref).getD j Value.none = .ref as[j]:=by rw[vy,vv,vz b];rfl
 rw[p,q];refine kat_lt k f l g ?_;show KatLex prog w A true _ C [(.int (key i) t,.int (key j) z),(u,m)] 0 s;refine kat_cons (wpAny_eqBool_int ?_);by_cases c:key i=key j
 ·have v:=d i j hi b c;subst v;rw[beq_self_eq_true];have r:u=m:=by
   have e:o=y:=vP (k.symm.trans l);subst e;have e:=f.symm.trans g;injection e with e _;have:=congrArg (fun a:Array Value=>a[1]?) e;simpa using this
  subst r;refine kat_yes (kat_cons (SeqAt.EqAt.same _ _ _ _ _ ?_));refine kat_yes (kat_nil ?_);rw[vL (Int.lt_irrefl _)]at h;exact h
 ·rw[beq_false_of_ne c];exact kat_no (oneLt_int h)
theorem j04{key:Nat->Int}:∀{as:List Addr} (_:PrAt h as key),∃fs,KatTups h (as.map Value.ref) fs/\fs.length=as.length/\∀v∈fs,∃n t,v=Value.int n t
 | [],_=>⟨[],KatTups.nil,rfl,fun v g=>nomatch g⟩
 | a::r,x=>by
  obtain⟨o,t,u,n,q,c,d⟩:=x 0 a rfl;obtain⟨fs,k,l,f⟩:=j04 (key:=fun i=>key (i+1)) (as:=r) fun i b e=>x (i+1) b (by simpa using e)
  refine⟨.int (key 0) t::fs,KatTups.cons q c d rfl k,by rw[vT,l,vT],fun v g=>?_⟩;rcases mem_cons.mp g with rfl | g
  ·exact⟨_,_,rfl⟩
  ·exact f v g
theorem j3d(vs:List Value):(vs.toArray.zip vs.toArray).map (·.2)=vs.toArray:=by
 apply Array.toList_inj.mp;rw[Array.toList_map,Array.toList_zip];exact List.map_snd_zip (vB _)
theorem j0T(vs:List Value):(List.range vs.length).map (fun i=>vs.getD i Value.none)=vs:=by
 refine ext_getElem (by simp) fun i b a=>?_
 rw[getElem_map,getElem_range,vy,vz a];rfl
theorem j1Z:∀{l:List Int},l.length<2->l.Pairwise (·<=·)
 | [],_=>.nil
 | [_],_=>pairwise_singleton _ _
 | _::_::_,h=>ue h (by rw[vT,vT];lia)
theorem j27{key:Nat->Int}{P:PySem.Fin->Shared->Prop}(d:s.heap.get? a=some (seqObj "list" (as.map Value.ref).toArray c0))(S:a∉as)(x:PrAt s.heap as key)
  (U:∀i j,i<as.length->j<as.length->key i=key j->i=j) (O:as.length<64)
  (D:∀(q:List Nat) (h':Heap) (c:Nat),q.Perm (List.range as.length)->(q.map key).Pairwise (·<=·)->(∀b o,b≠a->s.heap.get? b=some o->h'.get? b=some o)->
   h'.get? a=some (seqObj "list" ((q.map fun i=>as.getD i 0).map Value.ref).toArray c)->P (.done (.ret .none)) {s with heap:=h'}) :
  wpAny (model prog w) A (Builtin.«list.sort» ⟨[.ref a],[]⟩) P E s:=by
 have a5:a<s.heap.objs.size:=vM d;obtain⟨u,k⟩:∃u,(s.heap.update a (Obj.mapSeq fun _=>(#[]:Array Value))).get? a=some (seqObj "list" #[] u):=⟨_,get?_update_seq d fun _=>#[]⟩
 have X:=Heap.SameBut.update s.heap a (Obj.mapSeq fun _=>(#[]:Array Value));rw[list_sort_plain];refine ug (listItems_at (s:=s) d rfl ?_);refine ug (listUpdate_at (s:=s) d rfl ?_ (by rw[size_toArray,vt,sizeLine_eq];lia) (vC _));refine ug (seqEpoch_at (n:=u) k rfl ?_);refine ug (wpAny_newTuple ?_ (by show(as.map Value.ref).length<=_;rw[vt,sizeLine_eq];lia));refine ug (wpAny_newList ?_ (vC (sizeLine)));refine wpAny_holding ?_;generalize Y:((s.heap.update a (Obj.mapSeq fun _=>(#[]:Array Value))).push (seqObj "tuple" (as.map Value.ref).toArray 0)).push (seqObj "list" #[] 0)=hX;have kX:∀b o,b≠a->s.heap.get? b=some o->hX.get? b=some o:=fun b o y e=>by
  rw[<-Y];exact vN _ (vN _ ((X.2 b y).trans e))
 have F:hX.get? a=some (seqObj "list" #[] u):=by
  rw[<-Y];exact vN _ (vN _ k)
 have xX:PrAt hX as key:=x.keep fun b y o e=>kX b o (fun z=>S (z▸y)) e
 show wpAny (model prog w) A _ P E {s with heap:=hX};dsimp only;have K:(as.map Value.ref).toArray.size=as.length:=by rw[size_toArray,vt]
 have H:∀q:List Nat,q.Perm (List.range as.length)->(List.map (fun i=>(as.map Value.ref).getD i Value.none) q)=(q.map fun i=>as.getD i 0).map Value.ref:=fun q M=>by
  rw[map_map];refine map_congr_left fun i B=>?_
  have hl:i<as.length:=v6.mp (M.mem_iff.mp B);show(as.map Value.ref).getD i Value.none=Value.ref (as.getD i 0);rw[vy,vy,vv,vz hl];rfl
 have g:∀(q:List Nat),q.Perm (List.range as.length)->(q.map key).Pairwise (·<=·)->∀r:Array Value,r=(List.map (fun i=>(as.map Value.ref).getD i Value.none) q).toArray->
   P (.done (.ret .none)) {s with heap:=hX.update a (Obj.mapSeq fun _=>r)}:=fun q M hs r ho=>by
  subst ho;have o2:=get?_update_seq F fun _=>(List.map (fun i=>(as.map Value.ref).getD i Value.none) q).toArray
  have J:=Heap.SameBut.update hX a (Obj.mapSeq fun _=>(List.map (fun i=>(as.map Value.ref).getD i Value.none) q).toArray);rw[H q M]at o2 J|-;exact D q _ _ M hs (fun b o y e=>(J.2 b y).trans (kX b o y e)) o2
 by_cases l:(as.map Value.ref).toArray.size<2
 ·rw[va l,va l];refine ug (uf ?_);rw[StateT.run_pure];refine ug (uf ?_);dsimp only;refine ug (seqEpoch_at (n:=u) F rfl ?_);have eo:(arrOf (SortSt.mk' general' ((as.map Value.ref).toArray.zip (as.map Value.ref).toArray) #[] 7 none)).map (·.2)=(List.map (fun i=>(as.map Value.ref).getD i Value.none) (List.range as.length)).toArray:=by
   have e:=j0T (as.map Value.ref);rw[vt]at e;rw[e];exact j3d _
  rw[eo];refine ug (listUpdate_at (s:={s with heap:=hX}) F rfl ?_ (vC _) (by rw[size_toArray,vt,length_range,sizeLine_eq];lia));simp only[bne_self_eq_false,Bool.false_eq_true,if_false];refine uf (g (List.range as.length) (List.Perm.refl _) ?_ _ rfl);rw[K]at l;exact j1Z (by rw[vt,length_range];exact l)
 ·rw[vA l,vA l];rw[K]at l;obtain⟨fs,kt,kl,ki⟩:=j04 xX;have a0:hX=({s with heap:=hX}:Shared).heap:=rfl;refine ug (kat_kind (s:={s with heap:=hX}) (T:=Value.type "int") kt (by lia) (fun v hv=>?_) (by decide) ?_)
  ·obtain⟨m,t,rfl⟩:=ki v hv;exact Looks.of_pure rfl
  refine ug (wpAny_mono (kat_run (s:={s with heap:=hX}) (ks:=as.map Value.ref) (vs:=as.map Value.ref) (κ:=tuples' true) (Q:=fun f I=>∃p:Array Nat,Pk as.length p/\Up key p as.length/\arrOf f=p.map (kas_item ((as.map Value.ref).toArray.zip (as.map Value.ref).toArray))/\failedOf f=none/\I={s with heap:=hX}) (G:=fun p I=>Pk as.length p/\Up key p as.length/\I={s with heap:=hX})
   rfl (by rw[vt];lia) (by rw[vt];exact O) (fun p f I _ a2 a3 N=>⟨p,N.1,N.2.1,a2,a3,N.2.2⟩) ?_) ?_ fun _ _ e=>e)
  ·rw[vt];exact Tw.run (n:=as.length) (key:=key) (fun i j C B L hC=>j4j xX U B L hC) (Tw.mono (fun q h=>⟨h.1,h.2,rfl⟩) (j44 (key:=key) (by lia)))
  rintro⟨⟨⟩,f⟩ I ⟨p,Z,hu,R,hf,rfl⟩;dsimp only;rw[kat_snds rfl R];refine ug (seqEpoch_at (n:=u) F rfl ?_);have W:=Z.size;refine ug (listUpdate_at (s:={s with heap:=hX}) F rfl ?_ (vC _) (by rw[size_toArray,vt,Array.length_toList,W,sizeLine_eq];lia));rw[hf];simp only[bne_self_eq_false,Bool.false_eq_true,if_false];refine uf (g p.toList Z ?_ _ rfl);refine pairwise_map.mpr (List.pairwise_iff_getElem.mpr fun i j B L a1=>?_);rw[Array.length_toList]at B L;have:=hu i j (by lia) (by lia);unfold kv at this;rw[Array.getD_eq_getD_getElem?,Array.getD_eq_getD_getElem?,Array.getElem?_eq_getElem B,Array.getElem?_eq_getElem L]at this;exact this
end
open PySem PySem.Spec PySem.W PyProof.Rows
section
variable{X:Cx}{pins:List (Addr×Obj)}{σ:St}{H:Hp}{s:Shared}
def NewA(X:Cx)(pins:List (Addr×Obj))(T:Addr):Prop:=X.s₀.heap.objs.size<=T/\T≠X.env.locals/\(∀x c,X.env.cells.lookup x=some c->c≠T)/\∀p∈X.pn++pins,p.1≠T
theorem Inv.newA(I:Inv X pins σ H s)(a:s.heap.objs.size<=T):NewA X pins T:=by
 obtain⟨_,b,_,_,c,d⟩:=I.fpOk (H':=fun _=>none) a rfl;exact⟨vZ I.sz a,b,c,d⟩
theorem ObjOk.obj(x:ObjOk P w H h a o):∃u,h.get? a=some u:=by
 cases o with
 | lst xs=>obtain⟨_,_,_,_,e⟩:=x;exact⟨_,e⟩
 | tup xs=>obtain⟨_,_,_,u,e,_⟩:=x;exact⟨u,e⟩
 | dK kvs=>obtain⟨_,_,_,_,u,_,_,e,_⟩:=x;exact⟨u,e⟩
 | dT kvs=>obtain⟨_,_,_,_,u,_,_,e,_⟩:=x;exact⟨u,e⟩
 | set S n=>obtain⟨u,_,_,_,e,_⟩:=x;exact⟨u,e⟩
 | ins C dx fs=>obtain⟨_,_,_,e,_⟩:=x;exact⟨_,e⟩
 | own y=>exact x
 | xd fs=>obtain⟨_,⟨u,_,_,e,_⟩,_⟩:=x;exact⟨u,e⟩
 | rng lo hi=>obtain⟨_,_,_,e⟩:=x;exact⟨_,e⟩
 | frz u v=>exact⟨_,x.1⟩
 | tbl ps=>exact⟨_,x⟩
 | met f y=>exact⟨_,x⟩
 | ext φ=>exact x.2.1
theorem Inv.none_at{a:Heap}(I:Inv X pins σ H s)(c:∀b o,s.heap.get? b=some o->a.get? b=some o):H a.objs.size=none:=by
 cases e:H a.objs.size with
 | none=>rfl
 | some u=>
  obtain⟨v,q⟩:=(I.hok _ _ e).obj;exact ue (vM (c _ _ q)) (Nat.lt_irrefl _)
theorem Inv.newB{a:Heap}(I:Inv X pins σ H s)(h:∀b o,s.heap.get? b=some o->a.get? b=some o):NewA X pins a.objs.size:=by
 have f:∀b o,s.heap.get? b=some o->b<a.objs.size:=fun b o e=>vM (h b o e)
 obtain⟨m,⟨o,_,_,d,_⟩,_⟩:=I.loc;have g:=f _ _ d;refine⟨v3 (Nat.lt_of_le_of_lt I.ok.above g),vR g,fun x c e=>?_,fun p i=>vI (f _ _ (I.pin p i).1)⟩;obtain⟨v,o,d,_⟩:=I.cell x c e;exact vI (f _ _ d)
theorem Inv.track(I:Inv X pins σ H s)(h:H T=none)(d:NewA X pins T)(g:ObjOk X.prog X.w (upd H T o) s.heap T o):Inv X pins σ (upd H T o) s:=by
 have a:∀b u,H b=some u->b≠T:=fun b u e z=>by rw[z,h]at e;cases e
 refine I.step (h':=s.heap) (H':=upd H T o) (g':=s.gens) (d':=s.drawn) (t':=s.toks) (ch:=[T]) (fun b f=>?_) (fun b o _ _ _ e _=>e) (fun b o _ _ _ e _=>⟨o.slots,e⟩) (fun b u f _ n=>?_) (fun b u _ e=>⟨u,e⟩)
  (fun b k e=>(jg (a _ _ e)).trans e) (fun b u v e=>(jg (a _ _ e)).trans e) (fun b j e=>⟨#[],by rw[jg (a _ _ e),e];simp⟩) (fun m i=>i) (fun b u e=>?_) I.bare
 ·have e:b=T:=by simpa using f
  subst e;exact⟨.inr d.1,d.2.1,d.2.2.1,d.2.2.2⟩
 ·exact(jg fun z=>f (by simp[z])).trans n
 ·by_cases z:b=T
  ·subst z;rw[ji]at e;cases e;exact g
  ·rw[jg z]at e;exact(I.hok b u e).stay (fun c v _ q=>q) (fun c q=>(jg (a _ _ q)).trans q) fun c l q=>(jg (a _ _ q)).trans q
theorem Inv.trackAll:∀(ws:List (Addr×HO)) {H:Hp},Inv X pins σ H s->(∀p∈ws,H p.1=none/\NewA X pins p.1/\∀H',ObjOk X.prog X.w H' s.heap p.1 p.2)->(ws.map (·.1)).Nodup->∃H',Inv X pins σ H' s/\Same H H'/\∀p∈ws,H' p.1=some p.2
 | [],H,I,_,_=>⟨H,I,Same.refl _,fun p d=>nomatch d⟩
 | w::r,H,I,h,nd=>by
  obtain⟨a,b,c⟩:=h w vq;rw[uy,nodup_cons]at nd;have f:=I.track a b (c _);obtain⟨H',g,e,l⟩:=Inv.trackAll r f (fun p d=>by
   obtain⟨i,j,k⟩:=h p (vp _ d);exact⟨(jg fun z:p.1=w.1=>nd.1 (by rw[<-z];exact vO.mpr ⟨p,d,rfl⟩)).trans i,j,k⟩) nd.2
  have m:Same H (upd H w.1 w.2):=fun b u q=>(jg (jd q a)).trans q
  refine⟨H',g,m.trans e,fun p d=>?_⟩;rcases mem_cons.mp d with rfl | d
  ·exact e _ _ ji
  ·exact l p d
end
section
variable{X:Cx}
theorem valsR:∀as:List Addr,Vals (as.map V.ref) (as.map Value.ref)
 | []=>.nil
 | _::r=>.cons rfl (valsR r)
theorem KV.get{κ:Type}:∀{kvs:List (κ×V)} {vs:List (κ×Value)} {i:Nat} {p:κ×V},KV kvs vs->kvs[i]?=some p->∃q,vs[i]?=some q/\p.1=q.1/\RelV p.2 q.2
 | _,_,_,_,.nil,e=>by simp at e
 | _,_,0,_,.cons r _,e=>by simp at e;subst e;exact⟨_,rfl,r⟩
 | _,_,i+1,p,.cons _ t,e=>by
  obtain⟨q,a,b⟩:=KV.get (i:=i) (p:=p) t (by simpa using e);exact⟨q,by simpa using a,b⟩
theorem j0I:MtR X "dict.update" (fun x vs H Q=>∃d o kvs more,x = .ref d/\vs=[.ref o]/\H d=some (.dK kvs)/\H o=some (.dK more)/\d≠o/\kvs.length+more.length<=sizeLine/\Q .non (upd H d (.dK (mergeK kvs more)))):=by
 intro l s G H x vs v D Q I B A h;obtain⟨d,o,kvs,more,rfl,rfl,k,p,g,y,q⟩:=h;cases B;obtain⟨u,rfl,z⟩:=vals1 A;cases z;obtain⟨E,e,i,m,b⟩:=Wq I.hok k;obtain⟨F,f,j,n,c⟩:=Wq I.hok p;refine call_meetsIn PySem.F.slot_dict_update b.typeIs PySem.F.entry_dict_update (PySem.F.args_dict_update_2 _ _) (meets_dict_update (mixKind X.prog X.w) d o g f) ⟨i,j,b,c,by rw[<-m.length,<-n.length];exact y,fun r a _ w=>?_⟩;have t:∃q,r.get? d=some q:=let ⟨q,_,_,hq,_⟩:=a;⟨q,hq⟩;have C:=zA more kvs;exact⟨.non,_,wq (t':=s.toks) I (by rw[k];exact True.intro) w t (xL (by lia) e (n.merge m) a),rfl,q⟩
noncomputable def IView(v d:Addr):HO:=.ext fun h=>h.get? v=some {cls:=.type "dict_items",data:=.fields #[.ref d]}
theorem j1E:MtR X "dict.items" (fun x vs H Q=>∃d kvs,x = .ref d/\vs=[]/\H d=some (.dK kvs)/\∀v,H v=none->Q (.ref v) (upd H v (IView v d))):=by
 intro i s y H x vs v t Q I m l h;obtain⟨d,kvs,rfl,rfl,j,q⟩:=h;cases m;have f:=l.zero;subst f;obtain⟨w,c,g,r,a⟩:=Wq I.hok j;refine call_meetsIn PySem.F.slot_dict_items a.typeIs PySem.F.entry_dict_items (PySem.F.args_dict_items_1 (.ref d)) (meets_dict_items (mixKind X.prog X.w) d c) ⟨⟨g,a⟩,?_⟩;have e:(s.heap.push {cls:=.type "dict_items",data:=.fields #[.ref d]}).get? s.heap.objs.size=some {cls:=.type "dict_items",data:=.fields #[.ref d]}:=Heap.get?_push_size _ rfl;exact⟨.ref s.heap.objs.size,_,I.laid (t':=s.toks) (o:=IView s.heap.objs.size d) (fun b u q=>vN _ q) (vB _) (show ObjOk X.prog X.w _ _ _ (IView s.heap.objs.size d)from⟨e,⟨_,e⟩,fun n p q k=>k _ q⟩),rfl,q _ (I.hok.fresh (vB _))⟩
noncomputable def iiK(p:Int×Int):Key×V:=(Sum.inl p.1,.int p.2)
theorem wm(hc:X.calm=true):CallR X (.builtin "sorted") (fun xs H Q=>∃(v d:Addr) (kvs:List (Int×Int)),xs=[.ref v]/\H v=some (IView v d)/\H d=some (.dK (kvs.map iiK))/\kvs.length<64/\
  ∀(l:Addr) (as:List Addr) (R:List (Int×Int)) (H':Hp),Same H H'->H l=none->H' l=some (.lst (as.map V.ref))->(∀a∈as,H a=none)->R.Perm kvs->(R.map (·.1)).Pairwise (·<=·)->as.length=R.length->(∀(i:Nat) (a:Addr) (p:Int×Int),as[i]?=some a->R[i]?=some p->H' a=some (.tup [.int p.1,.int p.2]))->Q (.ref l) H'):=by
 intro y s σ H xs us Q I r h;obtain⟨v,d,kvs,rfl,ev,ed,a0,q⟩:=h;obtain⟨u,rfl,ru⟩:=vals1 r;cases ru;obtain⟨z1,a5,N,r1,G⟩:=Wq I.hok ed;have hv:s.heap.get? v=some {cls:=.type "dict_items",data:=.fields #[.ref d]}:=(I.hok v _ ev).1;obtain⟨ep,da⟩:=G.dictAt;have lv:=r1.length;rw[vt]at lv;have nd:(kvs.map (·.1)).Nodup:=by
  have S:(N.map (·.1)).Nodup:=let ⟨_,_,_,_,_,_,_,_,hn⟩:=G;hn;rw[<-r1.keys,map_map]at S;refine pairwise_map.mpr ((pairwise_map.mp S).imp fun {a b} h e=>h ?_);show(Sum.inl a.1:Key)=Sum.inl b.1;rw[e]
 refine Calls.call_function_entry kind_sorted plain_sorted entry_sorted (args_sorted1 (.ref v)) ?_;unfold Builtin.«sorted»;refine ug (m:=checkCount "sorted" 1 1 1) (uf ?_);refine ug (kdx_collect (knd:=mixKind X.prog X.w) (kvs:=N) (ep:=ep) (A:=X.A.in1) (I.ok.hd hc) ⟨_,hv,rfl,rfl⟩ da (by rw[<-lv,sizeLine_eq];lia) fun g tk as P C J=>?_);rw[<-lv]at C;refine ug (wpAny_newList ?_ (by rw[vt,C,sizeLine_eq];lia));have K:(g.push (seqObj "list" (as.map Value.ref).toArray 0)).get? g.objs.size=some (seqObj "list" (as.map Value.ref).toArray 0):=Heap.get?_push_size _ rfl;have D:g.objs.size∉as:=fun z=>Nat.lt_irrefl _ (J.there z)
 have E:∀i p,kvs[i]?=some p->(fun i=>(kvs.getD i (0,0)).1) i=p.1/\(fun i=>(kvs.getD i (0,0)).2) i=p.2:=fun i p e=>by
  dsimp only;rw[vy,e];exact⟨rfl,rfl⟩
 have xQ:∀i a,as[i]?=some a->∃t u,(g.push (seqObj "list" (as.map Value.ref).toArray 0)).get? a=some {cls:=.type "tuple",data:=.seq #[.int ((fun i=>(kvs.getD i (0,0)).1) i) t,.int ((fun i=>(kvs.getD i (0,0)).2) i) u]}:=fun i a e=>by
  obtain⟨ky,k,x,O,w,e3⟩:=J.pairs i a e;have f:i<kvs.length:=by rw[<-C];exact(vx.mp e).1
  obtain⟨w',e4,a4⟩:=KV.get r1 (i:=i) (p:=iiK kvs[i]) (by rw[vv,vz f];rfl);rw[O]at e4;cases e4;obtain⟨ek,T,ex⟩:=a4;have U:k=Sum.inl kvs[i].1:=ek.symm;subst U;have W:x = .int kvs[i].2 T:=ex;subst W;obtain⟨Y,Z⟩:=E i _ (vz f);rw[show(fun i=>(kvs.getD i (0,0)).1) i=kvs[i].1 from Y,show(fun i=>(kvs.getD i (0,0)).2) i=kvs[i].2 from Z];rcases Jk (show keyIs (Sum.inl kvs[i].1) ky=true from w)with⟨n,t,q1,q2⟩ | ⟨n,t,q1,q2⟩
  ·cases q1;subst q2;exact⟨t,T,vN _ e3⟩
  ·cases q1
 have xP:PrAt (g.push (seqObj "list" (as.map Value.ref).toArray 0)) as (fun i=>(kvs.getD i (0,0)).1):=fun i a e=>by
  obtain⟨t,u,z⟩:=xQ i a e;exact⟨_,t,_,_,z,rfl,rfl⟩
 have a1:∀i j,i<as.length->j<as.length->(fun i=>(kvs.getD i (0,0)).1) i=(fun i=>(kvs.getD i (0,0)).1) j->i=j:=fun i j f B e=>by
  rw[C]at f B;obtain⟨Y,_⟩:=E i _ (vz f);obtain⟨Z,_⟩:=E j _ (vz B);rw[Y,Z]at e;rcases Nat.lt_trichotomy i j with z | z | z
  ·exact ue e (by have:=List.pairwise_iff_getElem.mp nd i j (by rw[vt];exact f) (by rw[vt];exact B) z;simpa using this)
  ·exact z
  ·exact ue e.symm (by have:=List.pairwise_iff_getElem.mp nd j i (by rw[vt];exact B) (by rw[vt];exact f) z;simpa using this)
 refine ug (wpAny_holding (wpAny_call_entry slot_list_sort ⟨_,K,rfl⟩ entry_list_sort (j27 (s:={s with heap:=g.push (seqObj "list" (as.map Value.ref).toArray 0),toks:=tk}) K D xP a1 (by rw[C];exact a0) fun M F c hq hs kk o2=>⟨_,rfl,?_⟩) (args_list_sort _)));refine uf ⟨_,rfl,?_⟩;have a2:∀b o,s.heap.get? b=some o->b<g.objs.size:=fun b o e=>vM (P b o e)
 have k2:∀b o,s.heap.get? b=some o->F.get? b=some o:=fun b o e=>kk b o (vI (a2 b o e)) (vN _ (P b o e))
 have I2:Inv X y σ H {s with heap:=F,toks:=tk}:=I.kept (t':=tk) k2;have hB:H g.objs.size=none:=I.none_at P;have nB:=I.newB P;have ha:∀a∈as,H a=none/\NewA X y a:=fun a h=>⟨I.hok.fresh (v3 (J.above a h)),I.newA (v3 (J.above a h))⟩
 have L:∀i∈M,i<as.length:=fun i f=>v6.mp (hq.mem_iff.mp f)
 have a3:(((g.objs.size,HO.lst ((M.map fun i=>as.getD i 0).map V.ref))::(List.range as.length).map fun i=>(as.getD i 0,HO.tup [.int (kvs.getD i (0,0)).1,.int (kvs.getD i (0,0)).2])).map (·.1)).Nodup:=by
  rw[uy,nodup_cons,map_map];have w:(List.range as.length).map ((fun x=>x.1)∘fun i=>(as.getD i 0,HO.tup [.int (kvs.getD i (0,0)).1,.int (kvs.getD i (0,0)).2]))=as:=ext_getElem (by simp) fun i g F=>by
   rw[getElem_map,getElem_range];show as.getD i 0=_;rw[vy,vz F];rfl
  rw[w];exact⟨D,J.rise.imp fun h=>vI h⟩
 obtain⟨H',I3,s3,k3⟩:=I2.trackAll ((g.objs.size,HO.lst ((M.map fun i=>as.getD i 0).map V.ref))::(List.range as.length).map fun i=>(as.getD i 0,HO.tup [.int (kvs.getD i (0,0)).1,.int (kvs.getD i (0,0)).2])) (fun p hp=>by
  rcases mem_cons.mp hp with rfl | hp
  ·refine⟨hB,nB,fun H'=>⟨?_,_,c,valsR _,o2⟩⟩;rw[vt,vt,hq.length_eq,length_range,C,sizeLine_eq];lia
  ·obtain⟨i,f,rfl⟩:=vO.mp hp;have f:=v6.mp f;have e:as[i]?=some (as.getD i 0):=by rw[vy,vz f];rfl
   obtain⟨t1,T,eo⟩:=xQ i _ e;have hm:=vj e;obtain⟨S,n2⟩:=ha _ hm;exact⟨S,n2,fun H'=>⟨(by show 2<=sizeLine;decide),[_,_],.cons ⟨t1,rfl⟩ (.cons ⟨T,rfl⟩ .nil),⟨_,kk _ _ (fun z=>D (z▸hm)) eo,rfl,_,rfl⟩⟩⟩) a3
 ·refine⟨.ref g.objs.size,H',I3,rfl,q g.objs.size (M.map fun i=>as.getD i 0) (M.map fun i=>kvs.getD i (0,0)) H' s3 hB (k3 _ vq) (fun a h=>?_) ?_ ?_ (by rw[vt,vt]) fun i a p O w=>?_⟩
  ·obtain⟨i,f,rfl⟩:=vO.mp h;have e:as[i]?=some (as.getD i 0):=by rw[vy,vz (L i f)];rfl
   exact(ha _ (vj e)).1
  ·have e:=hq.map fun i=>kvs.getD i (0,0)
   rw[C]at e;have w:(List.range kvs.length).map (fun i=>kvs.getD i (0,0))=kvs:=ext_getElem (by simp) fun i g F=>by
    rw[getElem_map,getElem_range,vy,vz F];rfl
   rw[w]at e;exact e
  ·rw[map_map];exact hs
  ·rw[vv]at O w;obtain⟨j,B,rfl⟩:=vf.mp O;rw[B]at w;cases w;exact k3 _ (vp _ (vO.mpr ⟨j,v6.mpr (L j (vj B)),rfl⟩))
end
theorem YF:∀{as:List Addr} {us:List Value},Vals (as.map V.ref) us->us=as.map Value.ref
 | [],_,r=>by cases r;rfl
 | a::as,_,r=>by
  cases r with
  | cons r1 r2=>rw[YF r2,show _=Value.ref a from r1];rfl
theorem WR:∀{as:List Addr} {kvs:List (Int×Int)},as.length=kvs.length->(∀(i:Nat) (a:Addr) (q:Int×Int),as[i]?=some a->kvs[i]?=some q->∃t u,IsTup h a #[.int q.1 t,.int q.2 u])->
  ∃ps:List (Key×Value),KV (kvs.map iiK) ps/\ps.length=kvs.length/\∀(j:Nat) (kv:Key×Value),ps[j]?=some kv->∃a key,as[j]?=some a/\IsTup h a #[key,kv.2]/\keyIs kv.1 key=true
 | [],[],_,_=>⟨[],.nil,rfl,fun j kv e=>by simp at e⟩
 | [],_::_,l,_=>by simp at l
 | _::_,[],l,_=>by simp at l
 | a::as,q::kvs,l,f=>by
  obtain⟨ps,o,p,r⟩:=WR (as:=as) (kvs:=kvs) (by simpa using l) fun i a q m n=>f (i+1) a q (by simpa using m) (by simpa using n)
  obtain⟨t,u,e⟩:=f 0 a q rfl rfl;refine⟨(Sum.inl q.1,.int q.2 u)::ps,.cons ⟨rfl,u,rfl⟩ o,by rw[vT,p,vT],fun j kv c=>?_⟩;cases j with
  | zero=>simp at c;subst c;exact⟨a,_,rfl,e,KR _ _⟩
  | succ j=>obtain⟨b,s,d,g,k⟩:=r j kv (by simpa using c);exact⟨b,s,by simpa using d,g,k⟩
section
variable{X:Cx}
theorem xB(G:X.calm=true):CallR X (.type "dict") (fun xs H Q=>∃(p:Addr) (as:List Addr) (kvs:List (Int×Int)),xs=[.ref p]/\H p=some (.lst (as.map V.ref))/\as.length=kvs.length/\
  (∀(i:Nat) (a:Addr) (q:Int×Int),as[i]?=some a->kvs[i]?=some q->H a=some (.tup [.int q.1,.int q.2]))/\∀d,H d=none->Q (.ref d) (upd H d (.dK (mergeK [] (kvs.map iiK))))):=by
 intro M s σ H xs us Q I r h;obtain⟨p,as,kvs,rfl,Z,B,ht,q⟩:=h;obtain⟨u,rfl,ru⟩:=vals1 r;cases ru;obtain⟨z,D,n,rv,lv,e⟩:=I.lstM Z;have W:=YF rv;subst W;rw[vt]at z;have J:p<s.heap.objs.size:=vM e;obtain⟨ps,kp,N,pt⟩:=WR (h:=s.heap) B fun i a q S U=>by
  obtain⟨_,D,r',t'⟩:=I.hok a _ (ht i a q S U);cases r' with
  | cons ra rr=>
   cases rr with
   | cons rb rr=>
    cases rr;obtain⟨t1,rfl⟩:=ra;obtain⟨t2,rfl⟩:=rb;exact⟨t1,t2,t'⟩
 refine callType_codes (Q₁:=fun t g=>t = .ref s.heap.objs.size/\g={s with heap:=s.heap.push {cls:=.type "dict",data:=.dict #[]}}) PySem.F.kt_called_dict (PySem.F.kt_typeCall_dict_1 (.ref p)) PySem.F.entry_dict_init (kt_code_dict_new (.ref p) ⟨rfl,rfl⟩) ?_;rintro t g ⟨rfl,rfl⟩;have c:(s.heap.push {cls:=.type "dict",data:=.dict #[]}).DictOf (mixKind X.prog X.w) s.heap.objs.size []:=Heap.DictOf.new s.heap;have v:∀b o,s.heap.get? b=some o->(s.heap.push {cls:=.type "dict",data:=.dict #[]}).get? b=some o:=fun b o e=>vN _ e
 generalize s.heap.push {cls:=.type "dict",data:=.dict #[]}=h0 at c v;refine⟨c.typeIs (s:={s with heap:=h0}),PySem.F.args_dict_init_2 _ _,?_⟩;unfold Builtin.«dict.__init__»;refine ug ?_;unfold Builtin.Dict.selfAndRest;refine ug (wpAny_notOrdered_dict (c.typeIs (s:={s with heap:=h0})) ?_);show wpAny (model X.prog X.w) _ (pure (s.heap.objs.size,[Value.ref p])) _ _ _;refine uf ?_;show wpAny (model X.prog X.w) _ (Builtin.Dict.updateFrom "dict.__init__" s.heap.objs.size (.ref p) [] .none) _ _ _;unfold Builtin.Dict.updateFrom;refine ug (wpAny_typeOf (T:="list") ⟨_,v _ _ e,rfl⟩ ?_);rw[va (by decide)];refine ug (noKeys (s:={s with heap:=h0}) (v _ _ e) rfl rfl rfl (I.ok.hd G) fun m tk K=>?_);rw[va (show(none:Option Value).isNone=true from rfl)];have f:∀b o,s.heap.get? b=some o->m.get? b=some o:=fun b o e=>K b o (v b o e)
 have k:m.DictOf (mixKind X.prog X.w) s.heap.objs.size []:=c.keep K;have w:s.heap.objs.size<m.objs.size:=by obtain⟨_,_,_,hg,_⟩:=k;exact vM hg
 have lp:p<m.objs.size:=Nat.lt_trans J w;refine ug (wpAny_rule ?_);refine ug (wpAny_pyIter_list (l:=p) (items:=(as.map Value.ref).toArray) ⟨_,f _ _ e,rfl,n,rfl⟩ ?_);refine uf ⟨plainId_quiet ZU _,?_⟩;refine dul (knd:=mixKind X.prog X.w) (A:=X.A.in1) (d:=s.heap.objs.size) (it:=m.objs.size) (l:=p) (items:=as.map Value.ref) (res:=.none) (I.ok.hd G) (vI w) (vR J) (vR lp) ps 0 [] _
  ⟨_,Heap.get?_push_size _ rfl,rfl,rfl⟩ ⟨_,vN _ (f _ _ e),rfl,n,rfl⟩ (by rw[vt,B,N,Nat.zero_add]) (fun j kv Y=>?_) (k.push _) (by rw[length_nil,N,<-B,Nat.zero_add];exact z) fun h2 E k2 x=>?_
 ·obtain⟨a,ky,O,⟨o,F,P⟩,R⟩:=pt j kv Y;have L:a<s.heap.objs.size:=vM F;exact⟨a,ky,by rw[Nat.zero_add,vv,O];rfl,⟨o,vN _ (f _ _ F),P⟩,R,vI L,vI (Nat.lt_trans L w)⟩
 ·refine⟨rfl,.ref s.heap.objs.size,upd H s.heap.objs.size (.dK (mergeK [] (kvs.map iiK))),I.laid (t':=E) (fun b o y=>k2 b o (vI (vM y)) (vI (Nat.lt_trans (vM y) w)) (vN _ (f _ _ y))) (vB _) ?_,rfl,q _ (I.hok.fresh (vB _))⟩;have hm:=zA (kvs.map iiK) [];rw[length_nil,vt]at hm;have C:(s.heap.objs.size==sysModules)=false:=by
   rw[beq_eq_false_iff_ne];exact vR I.big
  exact xL (by lia) C (kp.merge .nil) x
end
theorem XZ{H:Hp}:∀(ks:List Int),DVs H (ks.map V.int) (ks.map PyData.int)
 | []=>.nil
 | k::r=>.cons (.int k) (XZ r)
theorem j2B(ks:List Int):PyData.eqv (.list (ks.map PyData.int)) (.list [])=decide (ks=[]):=by
 cases ks<;>simp[PyData.eqv,PyData.eqvAll]
theorem Xm(T:X.A.units+64<cLine):OpR X (compareOp .In) (fun x y H Q=>∃(a l:Addr) (as:List Addr) (d:List (List Int)),x = .ref a/\y = .ref l/\H a=some (.lst [])/\H l=some (.lst (as.map V.ref))/\as.length=d.length/\
  (∀(i:Nat) (b:Addr) (ks:List Int),as[i]?=some b->d[i]?=some ks->H b=some (.lst (ks.map V.int)))/\Q (.bl (d.any fun ks=>decide (ks=[]))) H):=by
 intro p s W H x y v u Q I M N h;obtain⟨a,l,as,d,rfl,rfl,A,C,S,E,q⟩:=h;cases M;cases N;obtain⟨G,r,J,U⟩:=I.list (SqL.of C);have B:=YF r;subst B;obtain⟨O,K⟩:=Zt I (DV.lst A .nil) (show RelV (.ref a) (.ref a)from rfl)
 classical
 have t:∀(i:Nat) (b:Addr) (ks:List Int),as[i]?=some b->d[i]?=some ks->∃c,Reads s.heap (.ref b) (.list (ks.map PyData.int)) c:=fun i b ks f g=>Zt I (DV.lst (E i b ks f g) (XZ ks)) (show RelV (.ref b) (.ref b)from rfl)
 have o:∀(i:Nat) (b:Addr) (ks:List Int),as[i]?=some b->d[i]?=some ks->decide (∃c,Reads s.heap (.ref b) (.list []) c)=decide (ks=[]):=fun i b ks f g=>by
  obtain⟨c,n⟩:=t i b ks f g;rw[decide_eq_decide];constructor
  ·rintro⟨P,L⟩;have e:=SeqAt.Reads.unique _ _ _ _ _ (show PyData.canLay0 (.list [])=true from rfl) L n;cases ks with
   | nil=>rfl
   | cons k r=>simp at e
  ·rintro rfl;exact⟨c,n⟩
 refine SeqAt.in_listAt (fun w=>decide (∃c,Reads s.heap w (.list []) c)) J.isList (fun w m=>?_) ⟨.bl _,H,I,rfl,?_⟩
 ·obtain⟨i,j,e⟩:=mem_iff_getElem.mp (show w∈as.map Value.ref by simpa using m);rw[getElem_map]at e;rw[vt]at j;subst e;have f:as[i]?=some as[i]:=vz j;have g:d[i]?=some d[i]:=vz (by lia);obtain⟨c,n⟩:=t i _ _ f g;have z:=SeqAt.eqAt_reads _ _ X.A.in1 s _ _ _ _ n K (by show PyData.canLayAll0 _=true;exact ke_canLayAll0 _) rfl (by
   show X.A.in1.units+min (PyData.depthAll _+1) (0+1)<cLine;have R:X.A.in1.units=X.A.units+1:=rfl;lia)
  rw[j2B,<-o i _ _ f g]at z;exact z
 ·have e:(as.map Value.ref).toArray.any (fun w=>decide (∃c,Reads s.heap w (.list []) c))=d.any fun ks=>decide (ks=[]):=by
   rw[List.any_toArray,List.any_map,Bool.eq_iff_iff,any_eq_true,any_eq_true];constructor
   ·rintro⟨b,D,m⟩;obtain⟨i,j,rfl⟩:=mem_iff_getElem.mp D;exact⟨d[i],List.getElem_mem _,by rw[<-o i _ _ (vz j) (vz (by lia))];exact m⟩
   ·rintro⟨ks,F,m⟩;obtain⟨i,j,rfl⟩:=mem_iff_getElem.mp F;refine⟨as[i],List.getElem_mem _,?_⟩;show decide _=true;rw[o i _ _ (vz (by lia)) (vz j)];exact m
  rw[e];exact q
section
variable{X:Cx}
def tTru(K:Frg)(ta:TE):TT:=fun σ H Q=>ta σ H fun x H'=>∃k,TruV K x H' k/\Q k H'
theorem j3Y{a:Expr}{c:TE}(d:PE X a c)(e:∀b,isTrue a X.env b=(do let v <-b;standAt a.pos;holding [v] (truthy v))):PT X a (tTru X.K c):=j1X d e
end
theorem rd_tru{K:Frg}{a:TE}{b:St}{H:Hp}{Q:Bool->Hp->Prop}(h:a b H fun x H'=>∃k,TruV K x H' k/\Q k H'):tTru K a b H Q:=h
section
variable{X:Cx}{e:Expr}{te:TE}
end
abbrev IsZipK(h:Heap)(z TI TO T:Addr)(f:Bool):Prop:=h.get? z=some {cls:=.type "zip",dict:=none,data:=.fields #[rawInt T,.bool f,.bool false,.ref TI,.ref TO],slots:=#[]}
section
variable{prog:Program}{w:World}{A:Around}{E:Value->Shared->Prop}{s:Shared}
theorem Q6{z TI TO T:Addr}{f:Bool}{i:Obj}(hz:IsZipK s.heap z TI TO T f)(h:s.heap.get? T=some i) :
  wpAny (model prog w) A (Builtin.SmallTypes.ownedTupleIsFree (.ref z)) (fun a g=>a=false/\∃b,g={s with heap:=b}/\IsZipK b z TI TO T true/\Heap.SameBut z s.heap b) E s:=by
 unfold Builtin.SmallTypes.ownedTupleIsFree;refine ug (wpAny_field hz rfl (x:=rawInt T) rfl ?_);show wpAny _ _ (loadIfAlive ((T:Int).toNat) >>= _) _ _ _;rw[Int.toNat_natCast];refine ug (kdx_alive h ?_);simp only[Option.isNone_some,Bool.false_eq_true,if_false];refine ug (wpAny_field hz rfl (x:=.bool f) rfl ?_);cases f with
 | true=>
  rw[vA (show¬((Value.bool true != Value.bool true)=true)from vJ)];exact uf ⟨rfl,_,rfl,hz,Heap.SameBut.refl ..⟩
 | false=>
  rw[va (show(Value.bool false != Value.bool true)=true from rfl)];refine ug (wpAny_setField_rec hz (by simp) fun e c d=>?_);exact uf ⟨rfl,e,rfl,c,d⟩
theorem Kn{z TI TO T m n q r:Addr}{f:Bool}{W:Obj}{k1 k2:Nat}{xs ys:Array Value}{x y:Value}{Q:Value->Shared->Prop}(D:ZipApart z TI TO m n q r)
  (hz:IsZipK s.heap z TI TO T f) (p:s.heap.get? T=some W) (F:IsPair s.heap TI (.ref m) (.ref n))
  (M:s.heap.IsListIter m q k1) (N:s.heap.IsListIter n r k2) (G:s.heap.IsList q xs) (H:s.heap.IsList r ys) (S:xs[k1]?=some x) (U:ys[k2]?=some y)
  (O:∀h',IsZipK h' z TI TO T true->h'.IsListIter m q (k1+1)->h'.IsListIter n r (k2+1)->IsPair h' s.heap.objs.size x y->h'.objs.size=s.heap.objs.size+1->
   (∀c o,c≠z->c≠m->c≠n->s.heap.get? c=some o->h'.get? c=some o)->Q (.ref s.heap.objs.size) {s with heap:=h'}) :
  wpAny (model prog w) A (Builtin.«zip.__next__» ⟨[.ref z],[]⟩) (fun C s'=>∃v,C=Fin.done (.ret v)/\Q v s') E s:=by
 show wpAny _ _ (field (.ref z) 2 >>= _) _ _ _;refine ug (wpAny_field hz rfl (x:=.bool false) rfl ?_);show wpAny _ _ (field (.ref z) 3 >>= _) _ _ _;refine ug (wpAny_field hz rfl (x:=.ref TI) rfl ?_);refine ug (wpAny_seqItems F rfl ?_);show wpAny _ _ (Builtin.SmallTypes.ownedTupleIsFree (.ref z) >>= _) _ _ _;refine ug (thn (Q6 hz p) fun a K ⟨P,I,L,k,b⟩=>?_);subst P L;simp only[Bool.false_eq_true,if_false];refine ug ?_;rw[<-Array.forIn_toList];simp only[forIn_cons,forIn_nil];refine ug (ug (wpAny_holding ?_));show wpAny _ _ (Builtin.SmallTypes.nextOf (.ref m) >>= _) _ _ _;refine ug (wpAny_nextOf_list_item (M.extBut b.extBut D.i1z) (G.extBut b.extBut D.l1z) S fun J i d=>uf ?_);refine uf ?_;refine ug (ug (wpAny_holding ?_));show wpAny _ _ (Builtin.SmallTypes.nextOf (.ref n) >>= _) _ _ _;refine ug (wpAny_nextOf_list_item ((N.extBut b.extBut D.i2z).extBut d.extBut D.i12.symm) ((H.extBut b.extBut D.l2z).extBut d.extBut D.l2i1) U fun g j h=>uf ?_);refine uf (uf ?_);refine ug (wpAny_newTuple (hsz:=by show 2<=sizeLine;decide) ?_);have hsz:g.objs.size=s.heap.objs.size:=by rw[h.1,d.1,b.1]
 have l:IsZipK g z TI TO T true:=h.extBut _ _ D.i2z.symm (d.extBut _ _ D.i1z.symm k);have R:∀c o,c≠z->c≠m->c≠n->s.heap.get? c=some o->g.get? c=some o:=fun c o t u B e=>h.extBut _ _ B (d.extBut _ _ u (b.extBut _ _ t e))
 refine uf ⟨_,rfl,?_⟩;show Q (.ref g.objs.size) _;have p:(g.push {cls:=.type "tuple",data:=.seq #[x,y]}).get? g.objs.size=some {cls:=.type "tuple",data:=.seq #[x,y]}:=Heap.get?_push_size _ rfl;rw[hsz]at p|-;exact O _ (vN _ l) ((i.extBut h.extBut D.i12).at fun o e=>vN _ e) (j.at fun o e=>vN _ e) p (by rw[Heap.size_push,hsz]) fun c o t u B e=>vN _ (R c o t u B e)
theorem Zi{z TI TO T b d e g:Addr}{f:Bool}{G:Obj}{k1 k2:Nat}{xs ys:Array Value}{x y:Value}{Q:Option Value->Shared->Prop}(D:ZipApart z TI TO b d e g)
  (hz:IsZipK s.heap z TI TO T f) (v:s.heap.get? T=some G) (h:IsPair s.heap TI (.ref b) (.ref d))
  (r:s.heap.IsListIter b e k1) (t:s.heap.IsListIter d g k2) (i:s.heap.IsList e xs) (j:s.heap.IsList g ys) (B:xs[k1]?=some x) (C:ys[k2]?=some y)
  (u:∀h',IsZipK h' z TI TO T true->h'.IsListIter b e (k1+1)->h'.IsListIter d g (k2+1)->IsPair h' s.heap.objs.size x y->h'.objs.size=s.heap.objs.size+1->
   (∀c o,c≠z->c≠b->c≠d->s.heap.get? c=some o->h'.get? c=some o)->Q (some (.ref s.heap.objs.size)) {s with heap:=h'}) :
  wpAny (model prog w) A (pyNext (.ref z)) Q E s:=by
 have a:s.TypeIs (.ref z) "zip":=⟨_,hz,rfl⟩
 unfold pyNext;refine ug (wpAny_attempt (wpAny_callSpecial?_slot (name:=Str.ofString "__next__") a F.slot_zip_next
  (wpAny_call_entry F.slot_zip_next a F.entry_zip_next (Kn D hz v h r t i j B C fun h' k l m n p q=>?_) (F.args_zip_next_1 _))))
 exact uf (u h' k l m n p q)
theorem KC{z TI TO T h l m H:Addr}{f:Bool}{I:Obj}{k1:Nat}{xs:Array Value}{Q:Fin->Shared->Prop}(F:A.handled=none)(D:ZipApart z TI TO h l m H)
  (hz:IsZipK s.heap z TI TO T f) (y:s.heap.get? T=some I) (i:IsPair s.heap TI (.ref h) (.ref l))
  (u:s.heap.IsListIter h m k1) (j:s.heap.IsList m xs) (G:xs[k1]?=none)
  (v:∀h' e,(∀c o,c≠z->c≠h->c≠l->s.heap.get? c=some o->h'.get? c=some o)->(∃o,h'.get? e=some o/\o.cls = .type "StopIteration")->E (.ref e) {s with heap:=h'}) :
  wpAny (model prog w) A (Builtin.«zip.__next__» ⟨[.ref z],[]⟩) Q E s:=by
 show wpAny _ _ (field (.ref z) 2 >>= _) _ _ _;refine ug (wpAny_field hz rfl (x:=.bool false) rfl ?_);show wpAny _ _ (field (.ref z) 3 >>= _) _ _ _;refine ug (wpAny_field hz rfl (x:=.ref TI) rfl ?_);refine ug (wpAny_seqItems i rfl ?_);show wpAny _ _ (Builtin.SmallTypes.ownedTupleIsFree (.ref z) >>= _) _ _ _;refine ug (thn (Q6 hz y) fun a p ⟨B,n,t,k,b⟩=>?_);subst B t;simp only[Bool.false_eq_true,if_false];refine ug ?_;rw[<-Array.forIn_toList];simp only[forIn_cons,forIn_nil];refine ug (ug (wpAny_holding ?_));show wpAny _ _ (Builtin.SmallTypes.nextOf (.ref h) >>= _) _ _ _;refine ug (wpAny_nextOf_list_end F (u.extBut b.extBut D.i1z) (j.extBut b.extBut D.l1z) G fun g e d C=>?_);exact v g e (fun c o q r _ x=>d _ _ r (b.extBut _ _ q x)) C
theorem Zm{z TI TO T d i j v:Addr}{f:Bool}{x:Obj}{k1:Nat}{xs:Array Value}{Q:Option Value->Shared->Prop}(q:A.handled=none)(D:ZipApart z TI TO d i j v)
  (hz:IsZipK s.heap z TI TO T f) (m:s.heap.get? T=some x) (g:IsPair s.heap TI (.ref d) (.ref i))
  (k:s.heap.IsListIter d j k1) (h:s.heap.IsList j xs) (u:xs[k1]?=none)
  (l:∀h',(∀c o,c≠z->c≠d->c≠i->s.heap.get? c=some o->h'.get? c=some o)->Q none {s with heap:=h'}):wpAny (model prog w) A (pyNext (.ref z)) Q E s:=by
 have a:s.TypeIs (.ref z) "zip":=⟨_,hz,rfl⟩
 unfold pyNext;refine ug (wpAny_attempt (wpAny_callSpecial?_slot (name:=Str.ofString "__next__") a F.slot_zip_next
  (wpAny_call_entry F.slot_zip_next a F.entry_zip_next (KC q D hz m g k h u fun h' e r p=>?_) (F.args_zip_next_1 _))))
 obtain⟨o,t,n⟩:=p;refine ug (wpAny_isInstance (T:="StopIteration") (b:=true) ⟨o,t,n⟩ isSubtype_stop ?_);exact uf (l _ r)
theorem Kp:typeLookup (.type "zip") "__len__"= pure none:=by rw[typeLookup_type,builtinLookup_eq_fast];kernel_rfl
theorem YS:typeLookup (.type "zip") "__length_hint__"= pure none:=by rw[typeLookup_type,builtinLookup_eq_fast];kernel_rfl
def ZipSt(h:Heap)(z TI TO i1 i2 l1 l2:Addr)(i:Nat):Prop:=
 IsPair h TI (.ref i1) (.ref i2)/\h.IsListIter i1 l1 i/\h.IsListIter i2 l2 i/\((i=0/\IsZip h z TI TO .none/\∃a b,IsPair h TO a b)\/(∃T f oT,IsZipK h z TI TO T f/\h.get? T=some oT/\T≠z/\T≠i1/\T≠i2))
theorem XJ{z TI TO k l p q:Addr}{i:Nat}{xs ys:Array Value}{x y:Value}{Q:Option Value->Shared->Prop}(D:ZipApart z TI TO k l p q)(st:ZipSt s.heap z TI TO k l p q i)
  (h:s.heap.IsList p xs) (j:s.heap.IsList q ys) (I:xs[i]?=some x) (J:ys[i]?=some y)
  (G:∀h',ZipSt h' z TI TO k l p q (i+1)->IsPair h' s.heap.objs.size x y->h'.objs.size=s.heap.objs.size+1->(∀c o,c≠z->c≠TO->c≠k->c≠l->s.heap.get? c=some o->h'.get? c=some o)->Q (some (.ref s.heap.objs.size)) {s with heap:=h'}) :
  wpAny (model prog w) A (pyNext (.ref z)) Q E s:=by
 obtain⟨d,B,C,st⟩:=st;have R:s.heap.objs.size≠k:=by obtain⟨o,e,_⟩:=id B;exact vR (vM e)
 have S:s.heap.objs.size≠l:=by obtain⟨o,e,_⟩:=id C;exact vR (vM e)
 rcases st with⟨rfl,n,a,b,F⟩ | ⟨T,f,W,n,H,K,L,M⟩
 ·have U:s.heap.objs.size≠z:=vR (vM n);refine wpAny_pyNext_zip_item D n d F B C h j I J fun h' r X t u m v g=>?_
  exact G h' ⟨g TI _ D.TIz D.TITO D.TIi1 D.TIi2 d,t,u,.inr ⟨_,false,_,r,m,U,R,S⟩⟩ m v g
 ·refine Zi D n H d B C h j I J fun h' r t u m v g=>?_
  exact G h' ⟨g TI _ D.TIz D.TIi1 D.TIi2 d,t,u,.inr ⟨T,true,W,r,g T _ K L M H,K,L,M⟩⟩ m v fun c o N Y O P e=>g c o N O P e
theorem j13{z TI TO l m n p:Addr}{i:Nat}{xs ys:Array Value}{Q:Option Value->Shared->Prop}(t:A.handled=none)(D:ZipApart z TI TO l m n p)(st:ZipSt s.heap z TI TO l m n p i)
  (g:s.heap.IsList n xs) (j:s.heap.IsList p ys) (u:xs[i]?=none)
  (r:∀h',(∀c o,c≠z->c≠TO->c≠l->c≠m->s.heap.get? c=some o->h'.get? c=some o)->Q none {s with heap:=h'}):wpAny (model prog w) A (pyNext (.ref z)) Q E s:=by
 obtain⟨d,q,B,st⟩:=st;rcases st with⟨rfl,k,a,b,h⟩ | ⟨T,f,H,k,C,I,J,K⟩
 ·exact wpAny_pyNext_zip_end t D k d h q B g j (.inl u) r
 ·exact Zm t D k C d q g u fun h' F=>r h' fun c o v G x y e=>F c o v x y e
def ZPs(h:Heap)(lo:Nat)(as:List Addr)(xs ys:Array Value):Prop:=as.Pairwise (· < ·)/\(∀a∈as,lo<=a/\a<h.objs.size)/\∀(j:Nat) (a:Addr),as[j]?=some a->∃x y,xs[j]?=some x/\ys[j]?=some y/\IsPair h a x y
theorem j2p{R:Result->Shared->Prop}{z TI TO K L Z l2 S:Addr}{lo:Nat}{xs ys:Array Value}(hh:A.in1.handled=none)(D:ZipApart z TI TO K L Z l2)(n:S≠z/\S≠TI/\S≠TO/\S≠K/\S≠L/\S≠Z/\S≠l2)(g:z<lo/\TO<lo/\K<lo/\L<lo/\S<lo)(O:xs.size=ys.size)(hn:xs.size<=sizeLine)(res:Value) :
  ∀(k i:Nat) (s:Shared) (as:List Addr) (c:Nat),xs.size-i=k->i<=xs.size->ZipSt s.heap z TI TO K L Z l2 i->s.heap.IsList Z xs->s.heap.IsList l2 ys->lo<=s.heap.objs.size->
  s.heap.get? S=some {cls:=.type "list",dict:=none,data:=.seq (as.map Value.ref).toArray c,slots:=#[]}->as.length=i->ZPs s.heap lo as xs ys->
  (∀h' v c',h'.get? S=some {cls:=.type "list",dict:=none,data:=.seq (v.map Value.ref).toArray c',slots:=#[]}->v.length=xs.size->ZPs h' lo v xs ys->
   (∀b o,b≠S->b≠z->b≠TO->b≠K->b≠L->s.heap.get? b=some o->h'.get? b=some o)->R (.ok (.ret res)) {s with heap:=h'})->
  codeAny (model prog w) A (.builtin "list.extend.loop" ⟨[.ref S,.ref z,res],[]⟩) R s:=by
 intro k
 induction k with
 | zero=>
  intro i s as c hk hi st C E t I G l hR;have a8:i=xs.size:=by lia
  refine codeAny_builtin F.entry_extend_loop ?_;rw[Around.under_plainId F.plain_extend_loop _];show wpAny _ A.in1 (pyNext (.ref z) >>= _) _ _ s;refine ug (j13 hh D st C E (by rw[Array.getElem?_eq_none_iff];lia) fun h' m=>?_);have B:∀a∈as,a≠z/\a≠TO/\a≠K/\a≠L/\a≠S:=fun a d=>⟨vR (Nat.lt_of_lt_of_le g.1 (l.2.1 a d).1),vR (Nat.lt_of_lt_of_le g.2.1 (l.2.1 a d).1),vR (Nat.lt_of_lt_of_le g.2.2.1 (l.2.1 a d).1),vR (Nat.lt_of_lt_of_le g.2.2.2.1 (l.2.1 a d).1),vR (Nat.lt_of_lt_of_le g.2.2.2.2 (l.2.1 a d).1)⟩
  have u:∀a∈as,∀o,s.heap.get? a=some o->h'.get? a=some o:=fun a d o e=>m a o (B a d).1 (B a d).2.1 (B a d).2.2.1 (B a d).2.2.2.1 e
  refine uf (hR h' as c (m S _ n.1 n.2.2.1 n.2.2.2.1 n.2.2.2.2.1 I) (by lia) ⟨l.1,fun a d=>?_,fun j a e=>?_⟩ fun b o _ U W X Y e=>m b o U W X Y e)
  ·obtain⟨j,hj,ej⟩:=List.getElem_of_mem d;obtain⟨x,y,_,_,p⟩:=l.2.2 j a (by rw[vz hj,ej]);exact⟨(l.2.1 a d).1,vM (u a d _ p)⟩
  ·obtain⟨x,y,p1,p2,p⟩:=l.2.2 j a e;exact⟨x,y,p1,p2,u a (vj e) _ p⟩
 | succ k ih=>
  intro i s as c hk hi st C E t I G l hR;have J:i<xs.size:=by lia
  refine codeAny_builtin F.entry_extend_loop ?_;rw[Around.under_plainId F.plain_extend_loop _];show wpAny _ A.in1 (pyNext (.ref z) >>= _) _ _ s;have ex:xs[i]?=some xs[i]:=by simp[J]
  have ey:ys[i]?=some (ys[i]'(by lia)):=by simp[<-O,J]
  refine ug (XJ D st C E ex ey fun h' a7 hp a5 m=>?_);have M:=m S _ n.1 n.2.2.1 n.2.2.2.1 n.2.2.2.2.1 I;show wpAny _ A.in1 (updateSeq S (·.push (.ref s.heap.objs.size)) >>= _) _ _ _;refine ug ?_;have P:(as.map Value.ref).toArray.size=i:=by simp[G]
  refine wpAny_updateSeq M rfl (uf ⟨plainId_quiet F.plain_extend_loop _,?_⟩) (by rw[P];lia) (by show((as.map Value.ref).toArray.push _).size<=sizeLine+1;rw[Array.size_push,P];lia);have h:∀b o,b≠S->h'.get? b=some o->(h'.update S (Obj.mapSeq (·.push (.ref s.heap.objs.size)))).get? b=some o:=fun b o hb e=>(Heap.get?_update_other _ _ (Ne.symm hb)).trans e
  have H:=Heap.get?_update_self (Obj.mapSeq (·.push (.ref s.heap.objs.size))) M rfl;have e2:∃c2,(Obj.mapSeq (·.push (.ref s.heap.objs.size)) {cls:=.type "list",dict:=none,data:=.seq (as.map Value.ref).toArray c,slots:=#[]}:Obj)={cls:=.type "list",dict:=none,data:=.seq ((as++[s.heap.objs.size]).map Value.ref).toArray c2,slots:=#[]}:=by
   have e3:(as.map Value.ref).toArray.push (.ref s.heap.objs.size)=((as++[s.heap.objs.size]).map Value.ref).toArray:=by simp
   rw[<-e3];exact⟨_,rfl⟩
  obtain⟨c2,e2⟩:=e2;rw[e2]at H;have Q:(h'.update S (Obj.mapSeq (·.push (.ref s.heap.objs.size)))).objs.size=s.heap.objs.size+1:=by rw[<-a5];exact(Heap.SameBut.update ..).1
  have nS:s.heap.objs.size≠S:=vR (Nat.lt_of_lt_of_le g.2.2.2.2 t);have B:∀a∈as,a≠z/\a≠TO/\a≠K/\a≠L/\a≠S:=fun a d=>⟨vR (Nat.lt_of_lt_of_le g.1 (l.2.1 a d).1),vR (Nat.lt_of_lt_of_le g.2.1 (l.2.1 a d).1),vR (Nat.lt_of_lt_of_le g.2.2.1 (l.2.1 a d).1),vR (Nat.lt_of_lt_of_le g.2.2.2.1 (l.2.1 a d).1),vR (Nat.lt_of_lt_of_le g.2.2.2.2 (l.2.1 a d).1)⟩
  have a6:∀a∈as,a<s.heap.objs.size:=fun a d=>(l.2.1 a d).2
  have u:∀a∈as,∀o,s.heap.get? a=some o->(h'.update S (Obj.mapSeq (·.push (.ref s.heap.objs.size)))).get? a=some o:=fun a d o e=>h a o (B a d).2.2.2.2 (m a o (B a d).1 (B a d).2.1 (B a d).2.2.1 (B a d).2.2.2.1 e)
  refine ih (i+1) _ (as++[s.heap.objs.size]) c2 (by lia) J ?_ ?_ ?_ ?_ H (by rw[vm,G];rfl) ?_ ?_
  ·obtain⟨q1,q2,q3,q4⟩:=a7;refine⟨h _ _ n.2.1.symm q1,q2.at fun o e=>h _ _ n.2.2.2.1.symm e,q3.at fun o e=>h _ _ n.2.2.2.2.1.symm e,?_⟩;rcases q4 with⟨z0,_⟩ | ⟨T,f,oT,q5,q6,q7,q8,q9⟩
   ·cases z0
   ·by_cases zS:T=S
    ·subst zS;exact .inr ⟨T,f,_,h _ _ n.1.symm q5,H,q7,q8,q9⟩
    ·exact .inr ⟨T,f,oT,h _ _ n.1.symm q5,h _ _ zS q6,q7,q8,q9⟩
  ·obtain⟨o,e,r⟩:=C;exact⟨o,h _ _ n.2.2.2.2.2.1.symm (m _ _ D.l1z D.l1TO D.l1i1 D.l1i2 e),r⟩
  ·obtain⟨o,e,r⟩:=E;exact⟨o,h _ _ n.2.2.2.2.2.2.symm (m _ _ D.l2z D.l2TO D.l2i1 D.l2i2 e),r⟩
  ·show lo<=(h'.update S _).objs.size;rw[Q];exact Nat.le_succ_of_le t
  ·refine⟨List.pairwise_append.mpr ⟨l.1,pairwise_singleton _ _,fun a d b hb=>by rw[vo.mp hb];exact a6 a d⟩,fun a d=>?_,fun j a e=>?_⟩
   ·show lo<=a/\a<(h'.update S _).objs.size;rw[Q];rcases vg.mp d with q | q
    ·exact⟨(l.2.1 a q).1,Nat.lt_succ_of_lt (l.2.1 a q).2⟩
    ·rw[vo.mp q];exact⟨t,Nat.lt_succ_self _⟩
   ·by_cases hj:j<as.length
    ·rw[vF hj]at e;obtain⟨x,y,p1,p2,p⟩:=l.2.2 j a e;exact⟨x,y,p1,p2,u a (vj e) _ p⟩
    ·rw[vG (by lia)]at e;have N:j=i:=by
      have:=(vx.mp e).1;simp at this;lia
     rw[N,G,Nat.sub_self]at e;have ea:s.heap.objs.size=a:=by simpa using e
     subst ea;subst N;exact⟨_,_,ex,ey,h _ _ nS hp⟩
  ·intro a0 v c' a1 a2 a3 a4;exact hR a0 v c' a1 a2 a3 fun b o b0 U W X Y e=>a4 b o b0 U W X Y (h b o b0 (m b o U W X Y e))
theorem XL{R:Result->Shared->Prop}{z TI TO t u v x S:Addr}{lo n:Nat}{xs ys:Array Value}(hh:A.in1.handled=none)(D:ZipApart z TI TO t u v x)(i:S≠z/\S≠TI/\S≠TO/\S≠t/\S≠u/\S≠v/\S≠x)(G:z<lo/\TO<lo/\t<lo/\u<lo/\S<lo)(q:xs.size=ys.size)(hn:xs.size<=sizeLine)(res:Value)
  (st:ZipSt s.heap z TI TO t u v x 0) (hz:IsZip s.heap z TI TO .none) (C:s.heap.IsList v xs) (E:s.heap.IsList x ys) (r:lo<=s.heap.objs.size) (p:s.heap.get? S=some {cls:=.type "list",data:=.seq #[] n})
  (hR:∀h' d m,h'.get? S=some {cls:=.type "list",dict:=none,data:=.seq (d.map Value.ref).toArray m,slots:=#[]}->d.length=xs.size->ZPs h' lo d xs ys->
   (∀b o,b≠S->b≠z->b≠TO->b≠t->b≠u->s.heap.get? b=some o->h'.get? b=some o)->R (.ok (.ret res)) {s with heap:=h'}) :
  wpAny (model prog w) A.in1 (Builtin.List.listExtendWith (.ref S) (.ref z) res)
   (fun y s'=>match y with | .done f=>R (.ok f) s' | .again m=>m.quiet=true/\codeAny (model prog w) A m R s') (fun e s'=>R (.error e) s') s:=by
 have B:s.TypeIs (.ref z) "zip":=⟨_,hz,rfl⟩
 unfold Builtin.List.listExtendWith;refine ug (wpAny_typeOf B ?_);have Y:Builtin.List.listSameRef (.ref S) (.ref z)=false:=by simp[Builtin.List.listSameRef,i.1]
 have Z:(Value.type "zip"== Value.type "list")=false:=by decide
 have h3:(Value.type "zip"== Value.type "tuple")=false:=by decide
 simp only[Y,Z,h3,Bool.or_false,Bool.false_eq_true,if_false];refine ug (wpAny_pyIter_zip hz ?_);refine ug (wpAny_holding ?_);unfold Builtin.List.listLengthHint;refine ug (wpAny_specialOf B Kp ?_);show wpAny _ A.in1 (specialOf (Value.ref z) (Str.ofString "__length_hint__") >>= _) _ _ _;refine ug (wpAny_specialOf B YS ?_);refine uf ?_;show wpAny _ A.in1 (rule "list.extend.makes-room" >>= fun _=>Builtin.List.listTouch (.ref S) >>= fun _=>
  again (.builtin "list.extend.loop" ⟨[.ref S,.ref z,res],[]⟩)) _ _ _
 refine ug (wpAny_rule ?_);refine ug ?_;show wpAny _ A.in1 (updateSeq S (·.push .none) >>= fun _=>updateSeq S (·.pop)) _ _ _;refine ug (wpAny_updateSeq p rfl ?_);have g:=Heap.get?_update_self (Obj.mapSeq (·.push Value.none)) p rfl;refine wpAny_updateSeq (hz:=by seq_fits) g rfl ?_;have k:=Heap.get?_update_self (Obj.mapSeq (·.pop)) g rfl;have c:∀b o,b≠S->s.heap.get? b=some o->((s.heap.update S (Obj.mapSeq (·.push Value.none))).update S (Obj.mapSeq (·.pop))).get? b=some o:=
  fun b o J e=>(Heap.get?_update_other _ _ (Ne.symm J)).trans ((Heap.get?_update_other _ _ (Ne.symm J)).trans e)
 have H:((s.heap.update S (Obj.mapSeq (·.push Value.none))).update S (Obj.mapSeq (·.pop))).objs.size=s.heap.objs.size:=by rw[(Heap.SameBut.update ..).1,(Heap.SameBut.update ..).1]
 obtain⟨q1,q2,q3,q4⟩:=st;obtain⟨o1,W,r1⟩:=C;obtain⟨o2,X,r2⟩:=E;have l:∃a b,IsPair s.heap TO a b:=by
  rcases q4 with⟨_,_,h⟩ | ⟨T,f,oT,h,_⟩
  ·exact h
  ·have:=hz.symm.trans h;have:=congrArg (fun o=>(o.map fun o:Obj=>o.data)) this;simp[rawInt]at this
 obtain⟨ta,tb,l⟩:=l;refine uf ⟨plainId_quiet F.plain_extend_loop _,j2p hh D i G q hn res xs.size 0 _ [] _ rfl (vC _)
  ⟨c _ _ i.2.1.symm q1,q2.at fun o e=>c _ _ i.2.2.2.1.symm e,q3.at fun o e=>c _ _ i.2.2.2.2.1.symm e,.inl ⟨rfl,c _ _ i.1.symm hz,ta,tb,c _ _ i.2.2.1.symm l⟩⟩
  ⟨o1,c _ _ i.2.2.2.2.2.1.symm W,r1⟩ ⟨o2,c _ _ i.2.2.2.2.2.2.symm X,r2⟩ (by show lo<=Array.size _;rw[H];exact r) k rfl ⟨.nil,(fun a h=>nomatch h),fun j a h=>by simp at h⟩ fun h' d m K L M N=>?_⟩
 exact hR h' d m K L M fun b o I O P Q U e=>N b o I O P Q U (c b o I e)
theorem KD{R:Result->Shared->Prop}{z TI TO n p q r S:Addr}{lo:Nat}{xs ys:Array Value}(P:A.in1.handled=none)(D:ZipApart z TI TO n p q r)(g:S≠z/\S≠TI/\S≠TO/\S≠n/\S≠p/\S≠q/\S≠r)(x:z<lo/\TO<lo/\n<lo/\p<lo/\S<lo)(l:xs.size=ys.size)(Q:xs.size<=sizeLine)
  (st:ZipSt s.heap z TI TO n p q r 0) (hz:IsZip s.heap z TI TO .none) (u:s.heap.IsList q xs) (v:s.heap.IsList r ys) (m:lo<=s.heap.objs.size) (h:s.heap.get? S=some {cls:=.type "list",data:=.seq #[]})
  (j:∃a b,IsPair s.heap TO a b)
  (hR:∀h' d k,h'.get? S=some {cls:=.type "list",dict:=none,data:=.seq (d.map Value.ref).toArray k,slots:=#[]}->d.length=xs.size->ZPs h' lo d xs ys->
   (∀b o,b≠S->b≠z->b≠TO->b≠n->b≠p->s.heap.get? b=some o->h'.get? b=some o)->R (.ok (.ret .none)) {s with heap:=h'}) :
  wpAny (model prog w) A.in1 (Builtin.«list.__init__» ⟨[.ref S,.ref z],[]⟩)
   (fun t s'=>match t with | .done f=>R (.ok f) s' | .again k=>k.quiet=true/\codeAny (model prog w) A k R s') (fun e s'=>R (.error e) s') s:=by
 show wpAny _ A.in1 (do let y <-Builtin.List.listItems (.ref S);Builtin.List.listUpdate (.ref S) (fun _=>#[]);letGo y.toList.reverse;Builtin.List.listExtendWith (.ref S) (.ref z) .none) _ _ s;refine ug ?_;unfold Builtin.List.listItems;refine ug (wpAny_seqItems h rfl (uf ?_));show wpAny _ A.in1 (updateSeq S (fun _=>#[]) >>= fun _=>letGo (#[]:Array Value).toList.reverse >>= fun _=>Builtin.List.listExtendWith (.ref S) (.ref z) .none) _ _ s;refine ug (wpAny_updateSeq h rfl ?_);have i:=Heap.get?_update_self (Obj.mapSeq (fun _=>(#[]:Array Value))) h rfl;have c:∀b o,b≠S->s.heap.get? b=some o->(s.heap.update S (Obj.mapSeq (fun _=>(#[]:Array Value)))).get? b=some o:=
  fun b o O e=>(Heap.get?_update_other _ _ (Ne.symm O)).trans e
 have B:(s.heap.update S (Obj.mapSeq (fun _=>(#[]:Array Value)))).objs.size=s.heap.objs.size:=(Heap.SameBut.update ..).1;obtain⟨W,X,Y,q4⟩:=st;obtain⟨T,M,Z⟩:=u;obtain⟨U,N,r2⟩:=v;obtain⟨ta,tb,j⟩:=j;refine ug (wpAny_letGo ?_);refine XL P D g x l Q .none
  ⟨c _ _ g.2.1.symm W,X.at fun o e=>c _ _ g.2.2.2.1.symm e,Y.at fun o e=>c _ _ g.2.2.2.2.1.symm e,.inl ⟨rfl,c _ _ g.1.symm hz,ta,tb,c _ _ g.2.2.1.symm j⟩⟩
  (c _ _ g.1.symm hz) ⟨T,c _ _ g.2.2.2.2.2.1.symm M,Z⟩ ⟨U,c _ _ g.2.2.2.2.2.2.symm N,r2⟩ (by show lo<=Array.size _;rw[B];exact m) i fun h' d k E F G H=>?_
 exact hR h' d k E F G fun b o C I J K L e=>H b o C I J K L (c b o C e)
theorem Ks{z TI TO l m t u:Addr}{xs ys:Array Value}{Q:Value->Shared->Prop}(W:A.handled=none)(D:ZipApart z TI TO l m t u)(j:xs.size=ys.size)(X:xs.size<=sizeLine)
  (hz:IsZip s.heap z TI TO .none) (g:IsPair s.heap TI (.ref l) (.ref m)) (d:∃a b,IsPair s.heap TO a b) (C:s.heap.IsListIter l t 0) (G:s.heap.IsListIter m u 0) (h:s.heap.IsList t xs) (i:s.heap.IsList u ys)
  (U:∀h' c v,h'.get? s.heap.objs.size=some {cls:=.type "list",dict:=none,data:=.seq (c.map Value.ref).toArray v,slots:=#[]}->c.length=xs.size->ZPs h' (s.heap.objs.size+1) c xs ys->
   (∀b o,b≠z->b≠TO->b≠l->b≠m->s.heap.get? b=some o->h'.get? b=some o)->Q (.ref s.heap.objs.size) {s with heap:=h'}) :
  wpAny (model prog w) A (call (.type "list") [.ref z]) Q E s:=by
 have I:=vM hz;have x:=vM g;obtain⟨J,K,d⟩:=d;have n:=vM d;have p:l<s.heap.objs.size:=by obtain⟨o,e,_⟩:=id C;exact vM e
 have q:m<s.heap.objs.size:=by obtain⟨o,e,_⟩:=id G;exact vM e
 have y:t<s.heap.objs.size:=by obtain⟨o,e,_⟩:=id h;exact vM e
 have B:u<s.heap.objs.size:=by obtain⟨o,e,_⟩:=id i;exact vM e
 refine callType_codes (Q₁:=fun r f=>r = .ref s.heap.objs.size/\f={s with heap:=s.heap.push {cls:=.type "list",data:=.seq #[]}}) F.called_list (F.typeCall_list_1 _) F.entry_list_init
  (code_list_new _ ⟨rfl,rfl⟩) fun r f k=>?_
 obtain⟨rfl,rfl⟩:=k;have H:(s.heap.push {cls:=.type "list",data:=.seq #[]}).get? s.heap.objs.size=some {cls:=.type "list",data:=.seq #[]}:=Heap.get?_push_size _ rfl;refine⟨⟨_,H,rfl⟩,F.args_list_init_2 _ _,KD (lo:=s.heap.objs.size+1) (by simp[W]) D ⟨vR I,vR x,vR n,vR p,vR q,vR y,vR B⟩ ⟨Nat.lt_succ_of_lt I,Nat.lt_succ_of_lt n,Nat.lt_succ_of_lt p,Nat.lt_succ_of_lt q,Nat.lt_succ_self _⟩ j X
  ⟨vN _ g,C.at fun o e=>vN _ e,G.at fun o e=>vN _ e,.inl ⟨rfl,vN _ hz,J,K,vN _ d⟩⟩ (vN _ hz) (h.push _) (i.push _) (by rw[Heap.size_push];exact vB _) H ⟨J,K,vN _ d⟩ fun h' c v L M N O=>?_⟩
 exact⟨rfl,U h' c v L M N fun b o P R S T e=>O b o (vI (vM e)) P R S T (vN _ e)⟩
end
def tLZ(K:Frg)(ta:TA):TE:=fun σ H Q=>ta σ H fun vs H1=>∃a b xs ys,vs=[.ref a,.ref b]/\SqL K H1 a xs/\SqL K H1 b ys/\xs.length=ys.length/\∀(l:Addr) (as:List Addr) (H':Hp),Same H1 H'->H1 l=none->H' l=some (.lst (as.map V.ref))->as.length=xs.length->
 (∀(i:Nat) (c:Addr) (x y:V),as[i]?=some c->xs[i]?=some x->ys[i]?=some y->H' c=some (.tup [x,y]))->Q (.ref l) H'
theorem rd_lz{K:Frg}{d:TA}{e:St}{H:Hp}{Q:VK} (h:d e H fun vs H1=>∃a b xs ys,vs=[.ref a,.ref b]/\SqL K H1 a xs/\SqL K H1 b ys/\xs.length=ys.length/\∀(l:Addr) (as:List Addr) (H':Hp),Same H1 H'->H1 l=none->H' l=some (.lst (as.map V.ref))->as.length=xs.length->
 (∀(i:Nat) (c:Addr) (x y:V),as[i]?=some c->xs[i]?=some x->ys[i]?=some y->H' c=some (.tup [x,y]))->Q (.ref l) H'):tLZ K d e H Q:=h
theorem Xp{X:Cx}{a b:Expr}{ta:TA}{p p' pos g:Pos}(U:X.calm=true)(W:Gl X "list")(a0:X.mg "list"= none)(Y:Gl X "zip")(a7:X.mg "zip"= none)(ha:PA X [a,b] ta)
  (N:starEach [.Call (.Name "zip" p') [a,b] [] g] X.env=[(false,eval (.Call (.Name "zip" p') [a,b] [] g) X.env)]:=by rfl)
  (hs:starEach [a,b] X.env=[(false,eval a X.env),(false,eval b X.env)]:=by rfl) (O:starEach [b] X.env=[(false,eval b X.env)]:=by rfl) :
  PE X (.Call (.Name "list" p) [.Call (.Name "zip" p') [a,b] [] g] [] pos) (tLZ X.K ta):=by
 intro f s σ H Q I h;refine wpAny_Call_Name_kw (Qa I W a0 XR ?_);refine PyProof.Rows.callWith_type1 ?_ N rfl;rw[N];refine Calls.spliced_cons ?_;refine Call_ (Qa I Y a7 wj (PyProof.Rows.callWith_type1 (thn (ha g f s σ H _ I h) fun us m ⟨vs,H1,t,r1,q1⟩=>?_) (by rw[hs,O]) (by rw[O];rfl)));obtain⟨l1,l2,xs,ys,rfl,M,hr,a9,q⟩:=q1;cases r1 with
 | cons r rr=>
  cases rr with
  | cons r' rr=>
   cases rr;cases r;cases r';obtain⟨w,rv,D,aa⟩:=t.list M;obtain⟨C,P,E,ab⟩:=t.list hr;have lx:=rv.length;have ly:=P.length;refine call_zip_2 D.isList E.isList fun K a1 a2 a3 a4 a5 R Z=>?_
   refine Calls.spliced_nil ?_;have z:l1<m.heap.objs.size:=by obtain⟨o,e,_⟩:=id D.isList;exact vM e
   have A:l2<m.heap.objs.size:=by obtain⟨o,e,_⟩:=id E.isList;exact vM e
   have n:∀{l k:Nat},l<m.heap.objs.size->l≠m.heap.objs.size+k:=fun h=>vI (Nat.lt_of_lt_of_le h (Nat.le_add_right _ _))
   refine Ks (s:={m with heap:=K}) (xs:=w.toArray) (ys:=C.toArray) (t.ok.hd U)
    ⟨jz (by decide),jz (by decide),jz (i:=0) (by decide),jz (by decide),jz (by decide),jz (j:=0) (by decide),jz (by decide),jz (j:=0) (by decide),jz (by decide),jz (i:=0) (by decide),n z,n z,n (k:=0) z,n z,n A,n A,n (k:=0) A,n A⟩
    (by rw[size_toArray,size_toArray];lia) (by rw[size_toArray];lia) a1 a2 ⟨_,_,a3⟩ a4 a5 ?_ ?_ fun B d c T la F k2=>?_
   ·obtain⟨o,e,r⟩:=D.isList;exact⟨o,Z _ _ e,r⟩
   ·obtain⟨o,e,r⟩:=E.isList;exact⟨o,Z _ _ e,r⟩
   have R:K.objs.size=m.heap.objs.size+5:=R;have T:B.get? K.objs.size=_:=T;have F:ZPs B (K.objs.size+1) d w.toArray C.toArray:=F;rw[R]at T F;show EP X f σ Q (.ref K.objs.size) _;rw[R];have ac:d.length=w.length:=by rw[size_toArray]at la;exact la
   have k3:∀b o,m.heap.get? b=some o->B.get? b=some o:=fun b o e=>k2 b o (n (vM e)) (n (vM e)) (n (k:=0) (vM e)) (n (vM e)) (Z b o e)
   have I2:Inv X f σ H1 {m with heap:=B}:=t.kept (t':=m.toks) k3;have lo:∀c∈d,m.heap.objs.size<=c:=fun c U=>vZ (Nat.le_add_right _ 6) (F.2.1 c U).1
   have ws:∀q∈((m.heap.objs.size+5,HO.lst (d.map V.ref))::(List.range d.length).map fun i=>(d.getD i 0,HO.tup [xs.getD i .non,ys.getD i .non])),H1 q.1=none/\NewA X f q.1/\∀G,ObjOk X.prog X.w G B q.1 q.2:=fun q M=>by
    rcases mem_cons.mp M with rfl | M
    ·exact⟨t.hok.fresh (Nat.le_add_right _ _),t.newA (Nat.le_add_right _ _),fun G=>⟨by rw[vt];lia,d.map Value.ref,c,valsR d,T⟩⟩
    ·obtain⟨i,L,rfl⟩:=vO.mp M;have L:=v6.mp L;have ea:d[i]?=some (d.getD i 0):=by rw[vy,vz L];rfl
     have lc:=lo _ (vj ea);obtain⟨u,v,S,J,pr⟩:=F.2.2 i _ ea;have ex:xs[i]?=some (xs.getD i .non):=by rw[vy,vz (by lia)];rfl
     have ey:ys[i]?=some (ys.getD i .non):=by rw[vy,vz (by lia)];rfl
     obtain⟨u',eu,ru⟩:=rv.get ex;obtain⟨v',ev,a8⟩:=P.get ey;have:u=u':=by have:=S.symm.trans (show w.toArray[i]?=some u' by simpa using eu);exact vP this
     subst this;have:v=v':=by have:=J.symm.trans (show C.toArray[i]?=some v' by simpa using ev);exact vP this
     subst this;exact⟨t.hok.fresh lc,t.newA lc,fun G=>⟨(by show 2<=sizeLine;decide),[u,v],.cons ru (.cons a8 .nil),⟨_,pr,rfl,_,rfl⟩⟩⟩
   have nd:(((m.heap.objs.size+5,HO.lst (d.map V.ref))::(List.range d.length).map fun i=>(d.getD i 0,HO.tup [xs.getD i .non,ys.getD i .non])).map (·.1)).Nodup:=by
    rw[uy,nodup_cons,map_map];have J:(List.range d.length).map ((fun x=>x.1)∘fun i=>(d.getD i 0,HO.tup [xs.getD i .non,ys.getD i .non]))=d:=ext_getElem (by simp) fun i h1 B=>by
     rw[getElem_map,getElem_range];show d.getD i 0=_;rw[vy,vz B];rfl
    rw[J];exact⟨fun h=>ue (F.2.1 _ h).1 (Nat.not_succ_le_self _),F.1.imp fun h=>vI h⟩
   obtain⟨G,I3,s3,k4⟩:=Inv.trackAll _ I2 ws nd;refine⟨.ref (m.heap.objs.size+5),G,I3,rfl,q _ d G s3 (t.hok.fresh (Nat.le_add_right _ _)) (k4 _ vq) (by lia) fun i c x y S J e3=>?_⟩;have L:=(vx.mp S).1;have:=k4 (d.getD i 0,HO.tup [xs.getD i .non,ys.getD i .non]) (vp _ (vO.mpr ⟨i,v6.mpr L,rfl⟩));rw[vy,vy,vy,S,J,e3]at this;exact this
section
variable{X:Cx}{tg:Expr}
end
section
variable{X:Cx}
end
section
variable{prog:Program}{w:World}{A:Around}{E:Value->Shared->Prop}{s:Shared}
end
section
variable{X:Cx}{pos:Pos}
end
end L2
namespace Sp
open PySem PySem.Builtin.Str PySem.StrLaws
noncomputable def pos(c:Nat):Nat->List Nat->List Nat
 | _,[]=>[]
 | k,a::r=>if a=c then k::pos c (k+1) r else pos c (k+1) r
theorem Ka{c:Nat}:∀{k:Nat} {w r:List Nat},c∉w->pos c k (w++r)=pos c (k+w.length) r
 | k,[],r,_=>rfl
 | k,a::w,r,h=>by
  have b:¬a=c:=fun e=>h (by rw[e];exact vq)
  rw[List.cons_append,pos,vA b,Ka fun e=>h (vp _ e),vT];congr 1;lia
theorem wS{c k:Nat}{r:List Nat}:pos c k (c::r)=k::pos c (k+1) r:=by rw[pos,va rfl]
theorem j0b{x:Str}{c i:Nat}:subAt x ⟨#[c]⟩ i=true↔x.cps.toList[i]?=some c:=by
 unfold subAt;rw[beq_iff_eq];show x.cps.extract i (i+1) = #[c]↔_;constructor
 ·intro h;have a:(x.cps.extract i (i+1))[0]?=some c:=by rw[h];rfl
  rw[Array.getElem?_extract]at a;split at a
  ·rw[Array.getElem?_toList];simpa using a
  ·cases a
 ·intro h;rw[Array.getElem?_toList]at h;have d:i<x.cps.size:=(Array.getElem?_eq_some_iff.mp h).1;apply Array.ext
  ·simp;lia
  ·intro j a b;have:j=0:=by simp at b;lia
   subst this;have e:=(Array.getElem?_eq_some_iff.mp h).2;simp[e]
theorem kU{x:Str}{c:Nat}:∀(l:List Nat) (k:Nat) (st:Array Nat×Nat),x.cps.toList.drop k=l->k+l.length=x.length->st.1.size<=k->st.2<=k->
  (forIn (List.range' k (l.length+1)) st (occBody x ⟨#[c]⟩ x.length (x.length+1))).run.1.toList=st.1.toList++pos c k l
 | [],k,st,_,hk,h1,h2=>by
  rw[show List.range' k (([]:List Nat).length+1)=[k]from rfl,forIn_cons];unfold occBody;rw[vA (fun h=>by have:k+1<=x.length:=h.1.2;have:k+0=x.length:=hk;lia)];rw[pos,append_nil];rfl
 | a::l,k,st,hd,hk,h1,h2=>by
  rw[vT]at hk;have d:x.cps.toList[k]?=some a:=by
   have:=congrArg (fun l=>l[0]?) hd;simpa using this
  have b:x.cps.toList.drop (k+1)=l:=by
   rw[<-List.drop_drop,hd];rfl
  rw[show List.range' k ((a::l).length+1)=k::List.range' (k+1) (l.length+1)from rfl,forIn_cons];by_cases e:a=c
  ·subst e;unfold occBody;rw[va ⟨⟨⟨by show st.1.size<x.length+1;lia,h2⟩,by show k+1<=x.length;lia⟩,j0b.mpr d⟩,wS];have:=kU (c:=a) l (k+1) (st.1.push k,k+1) b (by lia) (by rw[Array.size_push];lia) (vB _);rw[show st.1.toList++k::pos a (k+1) l=(st.1.push k).toList++pos a (k+1) l by simp,<-this];rfl
  ·unfold occBody;rw[vA (fun h=>e (vP (d.symm.trans (j0b.mp h.2)))),pos,vA e];exact kU l (k+1) st b (by lia) (by lia) (by lia)
theorem wF(x:Str)(c:Nat):occurrences x ⟨#[c]⟩ 0 x.length (x.length+1)=pos c 0 x.cps.toList:=by
 rw[occ_eq];have:=kU (x:=x) (c:=c) x.cps.toList 0 (#[],0) rfl (by rw[Nat.zero_add];rfl) (vB _) (vB _);rw[show x.length+1-0=x.cps.toList.length+1 from rfl];simpa using this
noncomputable def glue(c:Nat):List (List Nat)->List Nat
 | []=>[]
 | [w]=>w
 | w::v::r=>w++c::glue c (v::r)
noncomputable def cutAll(x:Str)(st:Nat)(cuts:List Nat):List Str:=((st::cuts.map (· + 1)).zip (cuts++[x.length])).map fun(i,j)=>strSub x i j
theorem j1h{x:Str}{st k:Nat}{a:List Nat}:cutAll x st (k::a)=strSub x st k::cutAll x (k+1) a:=rfl
theorem j0a{x:Str}{p w r:List Nat}(h:x.cps.toList=p++(w++r)):strSub x p.length (p.length+w.length)=⟨w.toArray⟩:=by
 unfold strSub;congr 1;apply Array.toList_inj.mp;rw[Array.toList_extract,h];simp[List.extract]
theorem XU{x:Str}{c:Nat}:∀(ws:List (List Nat)) (p:List Nat),ws≠[]->(∀w∈ws,c∉w)->x.cps.toList=p++glue c ws->cutAll x p.length (pos c p.length (glue c ws))=ws.map fun w=>⟨w.toArray⟩
 | [],_,h,_,_=>ue rfl h
 | [w],p,_,hw,hx=>by
  have e:pos c p.length (glue c [w])=[]:=by
   have:=Ka (k:=p.length) (r:=[]) (hw w vq);rw[append_nil]at this;exact this
  rw[e];have a:x.cps.toList=p++(w++[]):=by rw[hx,append_nil];rfl
  have d:x.length=p.length+w.length:=by
   have:=congrArg List.length hx;rw[vm]at this;exact this
  show[strSub x p.length x.length]=_;rw[d,j0a a];rfl
 | w::v::r,p,_,hw,hx=>by
  have e:pos c p.length (glue c (w::v::r))=(p.length+w.length)::pos c (p.length+w.length+1) (glue c (v::r)):=by
   show pos c p.length (w++c::glue c (v::r))=_;rw[Ka (hw w vq),wS]
  have a:x.cps.toList=p++(w++c::glue c (v::r)):=hx;have b:=XU (x:=x) (c:=c) (v::r) (p++(w++[c])) (by simp) (fun y f=>hw y (vp _ f)) (by rw[a];simp);rw[show(p++(w++[c])).length=p.length+w.length+1 by simp;lia]at b;rw[e,j1h,j0a a,b];rfl
theorem j28{x:Str}{c:Nat}{ws:List (List Nat)}(h:ws≠[])(hw:∀w∈ws,c∉w)(a:x.cps.toList=glue c ws):partsBetween x (occurrences x ⟨#[c]⟩ 0 x.length (x.length+1)) 1=ws.map fun w=>⟨w.toArray⟩:=by
 rw[wF,a];exact XU ws [] h hw a
end Sp
namespace L2
open PySem PySem.Spec PyProof.Rows
section
variable{X:Cx}
theorem K6:∀(ws:List Str) (k:Nat),Vals (ws.map V.str) (strsFrom k ws)
 | [],_=>.nil
 | x::r,k=>.cons ⟨k,rfl⟩ (K6 r (k+1))
theorem j1F:MtR X "str.split" (fun x vs H Q=>∃(z:Str) (c:Nat) (v w:List Nat) (ws:List (List Nat)),x = .str z/\vs=[.str ⟨#[c]⟩]/\c<256/\(∀u∈v::w::ws,c∉u)/\z.cps.toList=Sp.glue c (v::w::ws)/\ws.length+2<=sizeLine/\z.length<=sizeLine/\
  ∀p,H p=none->Q (.ref p) (upd H p (.lst (((v::w::ws).map fun u=>(⟨u.toArray⟩:Str)).map V.str)))):=by
 intro g s K H x vs C G Q I A y h;obtain⟨z,c,v,w,ws,rfl,rfl,k,f,a,d,n,q⟩:=h;obtain⟨t,rfl⟩:=A;obtain⟨u,rfl,B,rfl⟩:=vals1 y;have i:=Sp.j28 (x:=z) (c:=c) (ws:=v::w::ws) (by simp) f a;have J:1<=z.length:=by
  have:z.length=(Sp.glue c (v::w::ws)).length:=by rw[<-a];rfl
  rw[this];show 1<=(v++c::Sp.glue c (w::ws)).length;rw[vm,vT];lia
 have r:Builtin.Str.strKind ⟨#[c]⟩=1:=by
  unfold Builtin.Str.strKind;rw[va (by simpa using k)]
 have D:1<=Builtin.Str.strKind z:=by
  unfold Builtin.Str.strKind;split
  ·exact vB _
  ·split<;>decide
 have j:(decide (z.length<(⟨#[c]⟩:Str).length)||decide (Builtin.Str.strKind z<Builtin.Str.strKind ⟨#[c]⟩))=false:=by
  rw[r];show(decide (z.length<1)||decide (Builtin.Str.strKind z<1))=false;rw[vL (show¬z.length<1 by lia),vL (show¬Builtin.Str.strKind z<1 by lia)];rfl
 have l:(Builtin.Str.occurrences z ⟨#[c]⟩ 0 z.length (z.length+1)).isEmpty=false:=by
  rw[Sp.wF,a];show(Sp.pos c 0 (v++c::Sp.glue c (w::ws))).isEmpty=false;rw[Sp.Ka (f v vq),Sp.wS];rfl
 have m:(Builtin.Str.partsBetween z (Builtin.Str.occurrences z ⟨#[c]⟩ 0 z.length (z.length+1)) (⟨#[c]⟩:Str).length).length<=sizeLine:=by
  show(Builtin.Str.partsBetween z _ 1).length<=_;rw[i,vt];exact d
 refine call_meets F.slot_str_split (typeIs_str _ _ _) F.entry_str_split (F.args_str_split_2 _ _) (meets_str_split_sep z ⟨#[c]⟩ t B j rfl l n m) ?_;rw[show(⟨#[c]⟩:Str).length=1 from rfl,i];refine⟨.ref s.heap.objs.size,_,I.laid (o:=.lst (((v::w::ws).map fun u=>(⟨u.toArray⟩:Str)).map V.str)) (fun b E e=>vN _ e) (vB _) ?_,rfl,q _ (I.hok.fresh (vB _))⟩;exact⟨by rw[vt,vt];exact d,_,0,K6 _ _,Heap.get?_push_size _ rfl⟩
end
noncomputable def ev{α:Type}:List α->List α
 | []=>[]
 | [a]=>[a]
 | a::_::r=>a::ev r
theorem X0{c:Type}:∀l:List c,(List.range ((l.length+1)/2)).filterMap (fun j=>l[2*j]?)=ev l
 | []=>by simp[ev]
 | [a]=>by simp[ev,List.range_succ]
 | a::b::r=>by
  rw[show((a::b::r).length+1)/2=(r.length+1)/2+1 by rw[vT,vT];lia,List.range_succ_eq_map,filterMap_cons];show a::_=_;rw[List.filterMap_map];show a::List.filterMap (fun j=>(a::b::r)[2*(j+1)]?) _=a::ev r;rw[<-X0 r];rfl
theorem ww{c:Type}:∀l:List c,(ev l).length<=l.length
 | []=>vB _
 | [a]=>vB _
 | a::b::r=>by
  have:=ww r;show(ev r).length+1<=r.length+1+1;lia
theorem j0c:∀{xs:List V} {us:List Value},Vals xs us->Vals (ev xs) (ev us)
 | _,_,.nil=>.nil
 | _,_,.cons r .nil=>.cons r .nil
 | _,_,.cons r (.cons _ t)=>.cons r (j0c t)
theorem j1W(items:Array Value)(k:Nat)(a:k<=items.size):slicePick items (some (k:Int)) none (some 2)=(ev (items.toList.drop k)).toArray:=by
 unfold slicePick;have b:sliceBounds (some (k:Int)) none (some 2) items.size=((k:Int),(items.size:Int),2):=by
  unfold sliceBounds;simp only[Option.getD_some];rw[vA (show¬((k:Int)<0) by lia),va (show(2:Int)>0 by decide),va (show(2:Int)>0 by decide)];congr 1;lia
 rw[b];show((sliceRange (k:Int) (items.size:Int) 2).filterMap (items[·]?)).toArray=_;congr 1;rw[<-X0];unfold sliceRange;have c:((if(2:Int)>0 then(if(k:Int)<(items.size:Int)then((items.size:Int)-k+2-1)/2 else 0)else(if(k:Int)>(items.size:Int)then((k:Int)-items.size-2-1)/(-2)else 0):Int)).toNat=((items.toList.drop k).length+1)/2:=by
  rw[va (by decide),length_drop,Array.length_toList];split<;>lia
 show(List.map _ (List.range (Int.toNat _))).filterMap _=_;rw[c,List.filterMap_map];congr 1;funext j;show items[((k:Int)+2*(j:Int)).toNat]?=_;rw[List.getElem?_drop,Array.getElem?_toList,show((k:Int)+2*(j:Int)).toNat=k+2*j by lia]
section
variable{X:Cx}{e:Expr}{te:TE}
end
theorem kHeap{K:Frg}{h:Heap}(x:K.In h):∃i:Heap,(∀b o,K.lookup b=some o->i.get? b=some o)/\∀b o,i.get? b=some o->K.lookup b=some o:=by
 have a:∀b,((Array.range h.objs.size).map fun b=>(K.lookup b).getD ⟨.none,none,.freed,#[]⟩)[b]?=if b<h.objs.size then some ((K.lookup b).getD ⟨.none,none,.freed,#[]⟩)else none:=fun b=>by
  rw[Array.getElem?_map];by_cases c:b<h.objs.size
  ·rw[va c,Array.getElem?_range,va c];rfl
  ·rw[vA c,Array.getElem?_range,vA c];rfl
 refine⟨⟨(Array.range h.objs.size).map fun b=>(K.lookup b).getD ⟨.none,none,.freed,#[]⟩,h.life⟩,fun b o e=>?_,fun b o e=>?_⟩
 ·have f:=x b o e;have j:=vM f;unfold Heap.get?;show(match((Array.range h.objs.size).map fun b=>(K.lookup b).getD ⟨.none,none,.freed,#[]⟩)[b]? with | some ⟨_,_,.freed,_⟩=>none | o=>o)=some o;rw[a,va j,e];show(match some o with | some ⟨_,_,.freed,_⟩=>none | o=>o)=some o;have k:o.data≠.freed:=fun z=>by
   unfold Heap.get? at f;split at f
   ·cases f
   ·rename_i hn;obtain⟨c,d,g,l⟩:=o;simp only at z;subst z;exact hn _ _ _ f
  obtain⟨c,d,g,l⟩:=o;cases g<;>first | rfl | exact ue rfl k
 ·unfold Heap.get? at e;have e:(match((Array.range h.objs.size).map fun b=>(K.lookup b).getD ⟨.none,none,.freed,#[]⟩)[b]? with | some ⟨_,_,.freed,_⟩=>none | o=>o)=some o:=e;rw[a]at e;split at e
  ·cases e
  ·split at e
   ·cases hk:K.lookup b with
    | none=>rw[hk]at e;rename_i hn _;rw[hk]at hn;rw[va (by assumption)]at hn;exact ue rfl (hn _ _ _)
    | some o'=>rw[hk]at e;exact e
   ·cases e
section
variable{X:Cx}
theorem yr:∀{vs:List Value} {a:List Str},KTD.Flats vs (a.map PyData.str)->Vals (a.map V.str) vs
 | _,[],.nil=>.nil
 | _,x::r,.cons f t=>.cons (by have f:=f {};cases f;exact⟨_,rfl⟩) (yr t)
theorem X5:IxR X (fun x y H Q=>∃(a:Addr) (k:Str) (D:List (Str×KTD.Dat)) (f:List Str),x = .ref a/\y = .str k/\TabK X.K a D/\KTD.datumAt k D=some (.tup (f.map PyData.str))/\f.length<=100/\∀b,(∀H',SqT X.K H' b (f.map V.str))->Q (.ref b) H):=by
 intro i g w s O H x y v u Q I K L h F;obtain⟨a,k,D,f,rfl,rfl,T,m,N,q⟩:=h;cases K;obtain⟨t,rfl⟩:=L;obtain⟨C,J,r⟩:=kHeap I.kIn;have c:KTD.Here C s.heap a D:=⟨KTD.text_of_look J T,fun b o e=>I.kIn b o (r b o e)⟩
 refine tail_any (ops:=[.ref a,.str k t]) c.typeIs slot_dict_getitem.lookup ?_ F;unfold getItem
 try with_reducible refine wpAny_holding ?_
 refine ug (wpAny_sequenceKey c.typeIs (by decide) ?_);refine ug (wpAny_callSpecial?_slot (name:=Str.ofString "__getitem__") c.typeIs slot_dict_getitem
  (wpAny_call_entry slot_dict_getitem c.typeIs entry_dict_getitem ?_ (args_dict_getitem _ _)))
 show wpAny _ _ (dictGet a (.str k t) >>= _) _ _ s;refine ug (KTD.dictGet_text c (fun d v l G=>uf ⟨v,rfl,uf ?_⟩) fun p=>by rw[m]at p;cases p);rw[m]at l;cases l;obtain⟨b,M,rfl,⟨o,z,A,n,B⟩,E⟩:=G;have j:=yr E;refine⟨.ref b,H,I.tok _,rfl,q b fun H'=>.inr ⟨o,M.toArray,n,r _ _ z,A,B,?_,by simpa using j⟩⟩;have:=j.length;rw[vt]at this;rw[size_toArray,sizeLine_eq];lia
theorem X4:IxR X (fun x y H Q=>∃(a:Addr) (k:Str) (D:List (Str×KTD.Dat)) (i:Int),x = .ref a/\y = .str k/\TabK X.K a D/\KTD.datumAt k D=some (.flat (.int i))/\Q (.int i) H):=by
 intro g f n s w H x y v u Q I p r h o;obtain⟨a,k,D,i,rfl,rfl,T,l,q⟩:=h;cases p;obtain⟨t,rfl⟩:=r;have b:KTD.Here s.heap s.heap a D:=⟨PySem.W.kt_text_in I.kIn T,fun _ _ e=>e⟩
 refine tail_any (ops:=[.ref a,.str k t]) b.typeIs slot_dict_getitem.lookup ?_ o;unfold getItem
 try with_reducible refine wpAny_holding ?_
 refine ug (wpAny_sequenceKey b.typeIs (by decide) ?_);refine ug (wpAny_callSpecial?_slot (name:=Str.ofString "__getitem__") b.typeIs slot_dict_getitem
  (wpAny_call_entry slot_dict_getitem b.typeIs entry_dict_getitem ?_ (args_dict_getitem _ _)))
 show wpAny _ _ (dictGet a (.str k t) >>= _) _ _ s;refine ug (KTD.dictGet_text b (fun d v j c=>uf ⟨v,rfl,uf ?_⟩) fun m=>by rw[l]at m;cases m);rw[l]at j;cases j;have c:=c s.heap;cases c;exact⟨.int i,H,I.tok _,⟨_,rfl⟩,q⟩
end
section
variable{prog:Program}{w:World}{A:Around}{R:Result->Shared->Prop}{I:Addr}{fp wr:List Addr}{G:Array GenState->Array GenState->Prop}{n:Nat}{P:Nat->Value->Prop}{St:Nat->Shared->Prop}
end
structure Nxt(prog:Program)(w:World)(it:Addr)(fp:List Addr)(P P':Heap->Prop)(x:Value):Prop where
 run:∀(A:Around) (s:Shared) (Q:Value->Shared->Prop) (E:Value->Shared->Prop),P s.heap->(∀h',P' h'->Heap.SameBut it s.heap h'->Q x {s with heap:=h'})->wpAny (model prog w) A (Builtin.SmallTypes.nextOf (.ref it)) Q E s
 kp:∀h h',P h->(∀b∈fp,∀o,h.get? b=some o->h'.get? b=some o)->P h'
 kp':∀h h',P' h->(∀b∈fp,∀o,h.get? b=some o->h'.get? b=some o)->P' h'
structure ZA(z TI TO i j:Addr)(f g:List Addr):Prop where
 a1:TI≠z
 a2:TO≠z
 a3:i≠z
 a4:j≠z
 a5:TI≠TO
 a6:TI≠i
 a7:TI≠j
 a8:TO≠i
 a9:TO≠j
 b1:z∉f
 b2:TO∉f
 b3:j∉f
 c1:z∉g
 c2:TO∉g
 c3:i∉g
section
variable{prog:Program}{w:World}{A:Around}{E:Value->Shared->Prop}{s:Shared}
theorem kS{it t:Addr}{i:Nat}{xs:Array Value}{x:Value}{Q:Value->Shared->Prop}(a:s.heap.IsTupleIter it t i)(h:s.heap.IsTuple t xs)(j:xs[i]?=some x)
  (f:∀h',h'.IsTupleIter it t (i+1)->Heap.SameBut it s.heap h'->Q x {s with heap:=h'}):wpAny (model prog w) A (Builtin.SmallTypes.nextOf (.ref it)) Q E s:=by
 obtain⟨o,c,g,b⟩:=id a;obtain⟨l,e,_,k,d⟩:=h;unfold Builtin.SmallTypes.nextOf;refine ug (wpAny_callSpecial?_slot (name:=Str.ofString "__next__") a.typeIs F.slot_tuple_iterator_next (wpAny_call_entry F.slot_tuple_iterator_next a.typeIs F.entry_tuple_iterator_next ?_ (F.args_tuple_iterator_next_1 _)));show wpAny _ _ (field (.ref it) 0 >>= _) _ _ s;refine ug (wpAny_field c b (x:=.ref t) rfl ?_);show wpAny _ _ (if(Value.ref t==Value.none)=true then _ else _) _ _ s;rw[vA (show¬((Value.ref t==Value.none)=true)from vJ)];show wpAny _ _ (field (.ref it) 1 >>= _) _ _ s;refine ug (wpAny_field c b (x:=.int i 0) rfl ?_);show wpAny _ _ (seqItems? (.ref t) >>= _) _ _ s;refine ug (wpAny_seqItems e d ?_);simp only[Int.toNat_natCast,j];refine ug (wpAny_setField c b (by simp) (uf ⟨x,rfl,uf (f _ ?_ (Heap.SameBut.update ..))⟩));exact⟨_,Heap.get?_update_self _ c (Obj.isFreed_of_fields (Obj.data_mapFields b _)),(Obj.cls_mapFields ..).trans g,by rw[Obj.data_mapFields b];simp[rawInt]⟩
theorem Ym{it t:Addr}{i:Nat}{xs:Array Value}{Q:Value->Shared->Prop}(h:A.handled=none)(b:s.heap.IsTupleIter it t i)(k:s.heap.IsTuple t xs)(l:xs[i]?=none)
  (j:∀h' e,Heap.ExtBut it s.heap h'->(∃o,h'.get? e=some o/\o.cls = .type "StopIteration")->E (.ref e) {s with heap:=h'}):wpAny (model prog w) A (Builtin.SmallTypes.nextOf (.ref it)) Q E s:=by
 obtain⟨o,f,n,c⟩:=id b;obtain⟨q,g,_,p,d⟩:=k;unfold Builtin.SmallTypes.nextOf;refine ug (wpAny_callSpecial?_slot (name:=Str.ofString "__next__") b.typeIs F.slot_tuple_iterator_next (wpAny_call_entry F.slot_tuple_iterator_next b.typeIs F.entry_tuple_iterator_next ?_ (F.args_tuple_iterator_next_1 _)));show wpAny _ _ (field (.ref it) 0 >>= _) _ _ s;refine ug (wpAny_field f c (x:=.ref t) rfl ?_);show wpAny _ _ (if(Value.ref t==Value.none)=true then _ else _) _ _ s;rw[vA (show¬((Value.ref t==Value.none)=true)from vJ)];show wpAny _ _ (field (.ref it) 1 >>= _) _ _ s;refine ug (wpAny_field f c (x:=.int i 0) rfl ?_);show wpAny _ _ (seqItems? (.ref t) >>= _) _ _ s;refine ug (wpAny_seqItems g d ?_);simp only[Int.toNat_natCast,l];refine ug (wpAny_rule (ug (wpAny_setField f c (by simp) ?_)));show wpAny _ _ (newExc (.type "StopIteration") [] >>= _) _ _ _;refine ug ?_;simp only[newExc,newTuple];refine ug (wpAny_newObj_type ?_ (by size_fits));refine ug (m:=firstArgMember _ _) (wpAny_of_eq (a:=Value.none) (by first | rfl | (simp only[firstArgMember];rfl)) ?_);refine wpAny_newObj_type ?_ (by size_fits);simp only[raiseNew];refine ug (wpAny_handled ?_)
 first | rw[show A.in1.handled=none from h] | rw[h]
 refine ug (uf (wpAny_throw ?_));exact j _ _ (((Heap.SameBut.update ..).extBut.push _).push _) ⟨_,Heap.get?_push_size _ rfl,rfl⟩
theorem j01{it t:Addr}{i:Nat}{xs:Array Value}{x:Value}(l:t≠it)(j:xs[i]?=some x):Nxt prog w it [it,t] (fun h=>h.IsTupleIter it t i/\h.IsTuple t xs) (fun h=>h.IsTupleIter it t (i+1)/\h.IsTuple t xs) x where
 run:=fun A s Q E p q=>kS p.1 p.2 j fun d a g=>q d ⟨a,p.2.extBut g.extBut l⟩ g
 kp:=fun h d ⟨⟨o,e,r⟩,b,c,f⟩ k=>⟨⟨o,k it (by simp) o e,r⟩,b,k t (by simp) b c,f⟩
 kp':=fun h d ⟨⟨o,e,r⟩,b,c,f⟩ k=>⟨⟨o,k it (by simp) o e,r⟩,b,k t (by simp) b c,f⟩
theorem wD{it t:Addr}{i:Nat}{xs:Array Value}{x:Value}(l:t≠it)(j:xs[i]?=some x):Nxt prog w it [it,t] (fun h=>h.IsListIter it t i/\h.IsList t xs) (fun h=>h.IsListIter it t (i+1)/\h.IsList t xs) x where
 run:=fun A s Q E p q=>wpAny_nextOf_list_item p.1 p.2 j fun d a g=>q d ⟨a,p.2.extBut g.extBut l⟩ g
 kp:=fun h d ⟨⟨o,e,r⟩,b,c,f⟩ k=>⟨⟨o,k it (by simp) o e,r⟩,b,k t (by simp) b c,f⟩
 kp':=fun h d ⟨⟨o,e,r⟩,b,c,f⟩ k=>⟨⟨o,k it (by simp) o e,r⟩,b,k t (by simp) b c,f⟩
theorem K8{z TI TO i j:Addr}{f g:List Addr}{P I R J:Heap->Prop}{x y a b:Value}{Q:Value->Shared->Prop}(G:Nxt prog w i f P I x)(H:Nxt prog w j g R J y)(D:ZA z TI TO i j f g)
  (hz:IsZip s.heap z TI TO .none) (L:IsPair s.heap TI (.ref i) (.ref j)) (M:IsPair s.heap TO a b) (h1:P s.heap) (h2:R s.heap)
  (hQ:∀h',IsZip h' z TI TO (rawInt s.heap.objs.size)->IsPair h' TO x y->I h'->J h'->IsPair h' s.heap.objs.size x y->(∀c o,c≠z->c≠TO->c≠i->c≠j->s.heap.get? c=some o->h'.get? c=some o)->Q (.ref s.heap.objs.size) {s with heap:=h'}) :
  wpAny (model prog w) A (Builtin.«zip.__next__» ⟨[.ref z],[]⟩) (fun K s'=>∃v,K = .done (.ret v)/\Q v s') E s:=by
 show wpAny _ _ (field (.ref z) 2 >>= _) _ _ _;refine ug (wpAny_field hz rfl (x:=.bool false) rfl ?_);show wpAny _ _ (field (.ref z) 3 >>= _) _ _ _;refine ug (wpAny_field hz rfl (x:=.ref TI) rfl ?_);refine ug (wpAny_seqItems L rfl ?_);show wpAny _ _ (Builtin.SmallTypes.ownedTupleIsFree (.ref z) >>= _) _ _ _;refine ug ?_;unfold Builtin.SmallTypes.ownedTupleIsFree;refine ug (wpAny_field hz rfl (x:=.none) rfl (uf ?_));simp only[if_true];refine ug (wpAny_rule ?_);refine ug (wpAny_field hz rfl (x:=.ref TO) rfl ?_);refine ug (wpAny_setField_rec hz (by simp) fun N U X=>?_)
 replace U:IsZip N z TI TO .ellipsis:=U
 refine ug ?_;simp only[List.zipIdx_cons,List.zipIdx_nil,forIn_cons,forIn_nil];have p:∀c o,c≠z->s.heap.get? c=some o->N.get? c=some o:=fun c o n=>X.extBut c o n
 refine ug (ug (wpAny_onRaise ?_));show wpAny _ _ (Builtin.SmallTypes.nextOf (.ref i) >>= _) _ _ _;refine ug (G.run _ _ _ _ (G.kp _ _ h1 fun b d o q=>p b o (fun e=>D.b1 (e▸d)) q) fun O p2 Y=>uf ?_);have r:∀c o,c≠i->N.get? c=some o->O.get? c=some o:=fun c o n=>Y.extBut c o n
 have t2:IsPair O TO a b:=r _ _ D.a8 (p _ _ D.a2 M);refine ug (wpAny_seqItems t2 rfl ?_);refine ug (wpAny_updateSeq_pair t2 fun l T Z=>?_)
 replace T:IsPair l TO x b:=T
 have t:∀c o,c≠TO->O.get? c=some o->l.get? c=some o:=fun c o n=>Z.extBut c o n
 refine ug (wpAny_letGo (uf ?_));refine ug (ug (wpAny_onRaise ?_));show wpAny _ _ (Builtin.SmallTypes.nextOf (.ref j) >>= _) _ _ _;have r3:R l:=H.kp _ _ h2 fun b d o q=>t b o (fun e=>D.c2 (e▸d)) (r b o (fun e=>D.c3 (e▸d)) (p b o (fun e=>D.c1 (e▸d)) q))
 refine ug (H.run _ _ _ _ r3 fun S p4 e4=>uf ?_);have u:∀c o,c≠j->l.get? c=some o->S.get? c=some o:=fun c o n=>e4.extBut c o n
 have t4:IsPair S TO x b:=u _ _ D.a9 T;refine ug (wpAny_seqItems t4 rfl ?_);refine ug (wpAny_updateSeq_pair t4 fun h m e5=>?_)
 replace m:IsPair h TO x y:=m
 have B:∀c o,c≠TO->S.get? c=some o->h.get? c=some o:=fun c o n=>e5.extBut c o n
 refine ug (wpAny_letGo (uf (uf ?_)));refine ug (wpAny_seqItems m rfl ?_);refine ug (wpAny_newTuple (hsz:=by show 2<=sizeLine;decide) ?_);have sz:h.objs.size=s.heap.objs.size:=by rw[e5.1,e4.1,Z.1,Y.1,X.1]
 have z5:IsZip h z TI TO .ellipsis:=B _ _ D.a2.symm (u _ _ D.a4.symm (t _ _ D.a2.symm (r _ _ D.a3.symm U)));show wpAny _ _ (Builtin.SmallTypes.ownedTupleHandOut (.ref z) (.ref h.objs.size) >>= _) _ _ _;refine ug ?_;unfold Builtin.SmallTypes.ownedTupleHandOut;have z6:IsZip (h.push {cls:=.type "tuple",data:=.seq #[x,y]}) z TI TO .ellipsis:=vN _ z5;refine ug (wpAny_setField_rec z6 (by simp) fun k7 W e7=>?_)
 replace W:IsZip k7 z TI TO (rawInt h.objs.size):=W
 refine wpAny_setField_rec W (by simp) fun k F e8=>?_
 replace F:IsZip k z TI TO (rawInt h.objs.size):=F
 have C:∀c o,c≠z->h.get? c=some o->k.get? c=some o:=fun c o n q=>e8.extBut c o n (e7.extBut c o n (vN _ q))
 have nz:h.objs.size≠z:=vR (vM z5);have t8:IsPair k h.objs.size x y:=e8.extBut _ _ nz (e7.extBut _ _ nz (Heap.get?_push_size _ rfl));have p8:I k:=G.kp' _ _ p2 fun b d o q=>C b o (fun e=>D.b1 (e▸d)) (B b o (fun e=>D.b2 (e▸d)) (u b o (fun e=>D.b3 (e▸d)) (t b o (fun e=>D.b2 (e▸d)) q)))
 have r8:J k:=H.kp' _ _ p4 fun b d o q=>C b o (fun e=>D.c1 (e▸d)) (B b o (fun e=>D.c2 (e▸d)) q)
 refine uf ⟨_,rfl,?_⟩;show Q (.ref h.objs.size) _;rw[sz]at F t8|-;exact hQ k F (C _ _ D.a2 m) p8 r8 t8 fun c o n1 n2 n3 n4 q=>C c o n1 (B c o n2 (u c o n4 (t c o n2 (r c o n3 (p c o n1 q)))))
theorem xo{z TI TO i j:Addr}{f g:List Addr}{a b:Value}{Q:Fin->Shared->Prop}(D:ZA z TI TO i j f g)(P:Heap->Prop)(M:∀h h',P h->(∀b∈f,∀o,h.get? b=some o->h'.get? b=some o)->P h')
  (k:∀(s:Shared) (Q:Value->Shared->Prop) (E:Value->Shared->Prop),P s.heap->(∀h' e,Heap.ExtBut i s.heap h'->(∃o,h'.get? e=some o/\o.cls = .type "StopIteration")->E (.ref e) {s with heap:=h'})->wpAny (model prog w) A (Builtin.SmallTypes.nextOf (.ref i)) Q E s)
  (hz:IsZip s.heap z TI TO .none) (m:IsPair s.heap TI (.ref i) (.ref j)) (G:IsPair s.heap TO a b) (C:P s.heap)
  (F:∀h' e,(∀c o,c≠z->c≠TO->c≠i->c≠j->s.heap.get? c=some o->h'.get? c=some o)->(∃o,h'.get? e=some o/\o.cls = .type "StopIteration")->E (.ref e) {s with heap:=h'}) :
  wpAny (model prog w) A (Builtin.«zip.__next__» ⟨[.ref z],[]⟩) Q E s:=by
 show wpAny _ _ (field (.ref z) 2 >>= _) _ _ _;refine ug (wpAny_field hz rfl (x:=.bool false) rfl ?_);show wpAny _ _ (field (.ref z) 3 >>= _) _ _ _;refine ug (wpAny_field hz rfl (x:=.ref TI) rfl ?_);refine ug (wpAny_seqItems m rfl ?_);show wpAny _ _ (Builtin.SmallTypes.ownedTupleIsFree (.ref z) >>= _) _ _ _;refine ug ?_;unfold Builtin.SmallTypes.ownedTupleIsFree;refine ug (wpAny_field hz rfl (x:=.none) rfl (uf ?_));simp only[if_true];refine ug (wpAny_rule ?_);refine ug (wpAny_field hz rfl (x:=.ref TO) rfl ?_);refine ug (wpAny_setField_rec hz (by simp) fun J n r=>?_)
 replace n:IsZip J z TI TO .ellipsis:=n
 refine ug ?_;simp only[List.zipIdx_cons,List.zipIdx_nil,forIn_cons,forIn_nil];refine ug (ug (wpAny_onRaise ?_));show wpAny _ _ (Builtin.SmallTypes.nextOf (.ref i) >>= _) _ _ _;refine ug (k _ _ _ (M _ _ C fun b H o q=>r.extBut b o (fun e=>D.b1 (e▸H)) q) fun K e u I=>?_);obtain⟨N,d,l⟩:=I;have v:IsZip K z TI TO .ellipsis:=u _ _ D.a3.symm n;have B:e≠z:=fun q=>by subst q;rw[v]at d;cases d;simp at l
 exact wpAny_setField_rec v (by simp) fun L _ t=>F L e (fun c o p _ y _ q=>t.extBut _ _ p (u _ _ y (r.extBut _ _ p q))) ⟨N,t.extBut _ _ B d,l⟩
noncomputable abbrev zT1(h:Heap)(t:Addr):Heap:=h.push {cls:=.type "tuple_iterator",data:=.fields #[.ref t,.int 0 0]}
noncomputable abbrev zT2(h:Heap)(t l:Addr):Heap:=(zT1 h t).push {cls:=.type "list_iterator",data:=.fields #[.ref l,.int 0 0]}
noncomputable abbrev zT3(h:Heap)(t l:Addr):Heap:=(zT2 h t l).push {cls:=.type "tuple",data:=.seq #[.ref h.objs.size,.ref (zT1 h t).objs.size]}
noncomputable abbrev zT4(h:Heap)(t l:Addr):Heap:=(zT3 h t l).push {cls:=.type "tuple",data:=.seq #[.none,.none]}
noncomputable abbrev zT5(h:Heap)(t l:Addr):Heap:=(zT4 h t l).push {cls:=.type "zip",data:=.fields #[.none,.bool false,.bool false,.ref (zT2 h t l).objs.size,.ref (zT3 h t l).objs.size]}
theorem Xe(t l:Addr)(xs ys:Array Value):Meets (Builtin.«zip.__new__» ⟨[.type "zip",.ref t,.ref l],[]⟩) (fun _ R s=>s.heap.IsTuple t xs/\s.heap.IsList l ys/\R (.ok (.ret (.ref (zT4 s.heap t l).objs.size))) {s with heap:=zT5 s.heap t l}):=
 .of_wp fun e w A R s h=>by
  obtain⟨a,g,d,f,c⟩:=s;obtain⟨k,m,h⟩:=h;have b:=sub_zip;have i:Heap.IsTuple (Shared.heap ⟨a,g,d,f,c⟩) t xs:=k;have j:Heap.IsList (Shared.heap ⟨a.push {cls:=.type "tuple_iterator",data:=.fields #[.ref t,.int 0 0]},g,d,f,c⟩) l ys:=Heap.IsList.push m _
  wp_walk using wpAny_pyIter_tuple i,wpAny_pyIter_list j
  exact⟨_,rfl,h⟩
theorem KJ{t l:Addr}{xs ys:Array Value}{Q:Value->Shared->Prop}(p:s.heap.IsTuple t xs)(r:s.heap.IsList l ys)
  (h:∀h',IsZip h' (s.heap.objs.size+4) (s.heap.objs.size+2) (s.heap.objs.size+3) .none->IsPair h' (s.heap.objs.size+2) (.ref s.heap.objs.size) (.ref (s.heap.objs.size+1))->IsPair h' (s.heap.objs.size+3) .none .none->
   h'.IsTupleIter s.heap.objs.size t 0->h'.IsListIter (s.heap.objs.size+1) l 0->(∀c o,s.heap.get? c=some o->h'.get? c=some o)->Q (.ref (s.heap.objs.size+4)) {s with heap:=h'}):wpAny (model prog w) A (call (.type "zip") [.ref t,.ref l]) Q E s:=by
 refine callType_new F.called_zip (by decide) (F.typeCall_zip_2 _ _) (F.newCall_zip_2 _ _) (fun f=>F.args_object_init_3 f _ _) F.entry_zip_new (Xe t l xs ys) ⟨p,r,?_⟩;have d:(zT1 s.heap t).objs.size=s.heap.objs.size+1:=Heap.size_push ..;have e:(zT2 s.heap t l).objs.size=s.heap.objs.size+2:=by rw[Heap.size_push,d]
 have n3:(zT3 s.heap t l).objs.size=s.heap.objs.size+3:=by rw[Heap.size_push,e]
 have k:(zT4 s.heap t l).objs.size=s.heap.objs.size+4:=by rw[Heap.size_push,n3]
 have a:∀{h:Heap} {o n:Obj} {c:Addr},h.get? c=some o->(h.push n).get? c=some o:=fun q=>vN _ q
 have b:(zT5 s.heap t l).get? (zT4 s.heap t l).objs.size=some _:=Heap.get?_push_size _ rfl;have j:(zT5 s.heap t l).get? (zT3 s.heap t l).objs.size=some _:=a (Heap.get?_push_size _ rfl);have i:(zT5 s.heap t l).get? (zT2 s.heap t l).objs.size=some _:=a (a (Heap.get?_push_size _ rfl));have g:(zT5 s.heap t l).get? (zT1 s.heap t).objs.size=some _:=a (a (a (Heap.get?_push_size _ rfl)));have m:(zT5 s.heap t l).get? s.heap.objs.size=some _:=a (a (a (a (Heap.get?_push_size _ rfl))));show _/\_;rw[e,n3,k]at b;rw[d,e]at i;rw[n3]at j;rw[d]at g;rw[k];exact⟨⟨_,b,rfl⟩,h _ b i j ⟨_,m,rfl,rfl⟩ ⟨_,g,rfl,rfl⟩ fun c o x=>a (a (a (a (a x))))⟩
end
def Izt(K:Frg)(a b:Addr):It:=
 ⟨fun i H=>∃xs x ys y,SqT K H a xs/\xs[i]?=some x/\SqL K H b ys/\ys[i]?=some y,
  fun i H x H'=>∃T u v,x = .ref T/\H T=none/\H'=upd H T (.tup [u,v])/\(∀xs,SqT K H a xs->xs[i]?=some u)/\∀ys,SqL K H b ys->ys[i]?=some v,
  fun i H=>∃xs,SqT K H a xs/\xs.length<=i⟩
theorem j11{P:Program}{w:World}{K:Frg}{J:List Expr}{k:Nat}{pos:Pos}(t l z TI TO j m:Addr)(D:ZA z TI TO j m [j,t] [m,l])(a8:t≠j)(a9:l≠m) :
  Turn P w K (.Tuple J k pos) (Izt K t l) [z,TI,TO,j,m] z (fun i h=>IsZip h z TI TO .none/\IsPair h TI (.ref j) (.ref m)/\(∃a b,IsPair h TO a b)/\h.IsTupleIter j t i/\h.IsListIter m l i) where
 mem:=by simp
 obj:=fun i h C b g=>by
  obtain⟨A,d,⟨a,c,f⟩,⟨o1,e1,_,d1⟩,o2,e2,_,d2⟩:=C;rcases(by simpa using g:b=z\/b=TI\/b=TO\/b=j\/b=m)with rfl | rfl | rfl | rfl | rfl
  ·exact⟨_,A,fun v z=>by cases z⟩
  ·exact⟨_,d,fun v z=>by cases z⟩
  ·exact⟨_,f,fun v z=>by cases z⟩
  ·exact⟨o1,e1,fun v z=>by rw[d1]at z;cases z⟩
  ·exact⟨o2,e2,fun v z=>by rw[d2]at z;cases z⟩
 keep:=fun i h h' ⟨A,d,⟨a,c,f⟩,G,L⟩ k=>⟨k z (by simp) _ A,k TI (by simp) _ d,⟨a,c,k TO (by simp) _ f⟩,G.at fun o q=>k j (by simp) o q,L.at fun o q=>k m (by simp) o q⟩
 item:=by
  intro X Y hw W O i M s σ H E I Z C hg;subst Y hw W;obtain⟨xs,x,ys,y,S,hx,hr,U⟩:=hg;obtain⟨B,rv,p,_⟩:=I.tuple S;obtain⟨a7,ab,p',_⟩:=I.list hr;obtain⟨u,hu,ru⟩:=rv.get hx;obtain⟨v,hv,aa⟩:=ab.get U;obtain⟨A,d,⟨a,c,f⟩,G,L⟩:=C;have lt:∀b∈[z,TI,TO,j,m],b<s.heap.objs.size:=fun b g=>by
   rcases(by simpa using g:b=z\/b=TI\/b=TO\/b=j\/b=m)with rfl | rfl | rfl | rfl | rfl
   ·exact vM A
   ·exact vM d
   ·exact vM f
   ·obtain⟨o,e,_⟩:=G;exact vM e
   ·obtain⟨o,e,_⟩:=L;exact vM e
  have n:s.TypeIs (.ref z) "zip":=⟨_,A,rfl⟩
  unfold pyNext;refine ug (wpAny_attempt (wpAny_callSpecial?_slot (name:=Str.ofString "__next__") n F.slot_zip_next (wpAny_call_entry F.slot_zip_next n F.entry_zip_next ?_ (F.args_zip_next_1 _))));refine K8 (j01 a8 (x:=u) (xs:=B.toArray) (by simpa using hu)) (wD a9 (x:=v) (xs:=a7.toArray) (by simpa using hv)) D A d f ⟨G,p⟩ ⟨L,p'.isList⟩ fun h' a1 a2 a3 a4 a5 R=>uf ?_
  obtain⟨I1,f1⟩:=I.pair (t':=s.toks) (ch:=[z,TI,TO,j,m]) (x:=x) (y:=y) Z lt ru aa a5
   (fun b o g q=>R b o (fun e=>g (by simp[e])) (fun e=>g (by simp[e])) (fun e=>g (by simp[e])) (fun e=>g (by simp[e])) q)
  refine⟨_,rfl,wpAny_letOwnedTupleGo_zip a1 fun h3 a6 N=>?_⟩;have I2:=I1.turnedL (h':=h3) (t':=s.toks) (ch:=[z,TI,TO,j,m]) f1 fun b o g q=>(N.2 b fun e=>g (by simp[e])).trans q
  exact⟨.ref s.heap.objs.size,_,I2,rfl,⟨_,x,y,rfl,I.hok.fresh (vB _),rfl,(fun ys U=>by rw[I.tuple_inj U S];exact hx),fun ys a0=>by rw[I.list_inj a0 hr];exact U⟩,
   ⟨a6,(N.2 TI D.a1).trans (R TI _ D.a1 D.a5 D.a6 D.a7 d),⟨_,_,(N.2 TO D.a2).trans a2⟩,a3.1.at fun o q=>(N.2 j D.a3).trans q,a4.1.at fun o q=>(N.2 m D.a4).trans q⟩,fun b g=>(f1 b g).1⟩
 done:=by
  intro X Y hw W O i M s σ H E I Z C hg;subst Y hw W;obtain⟨xs,S,hl⟩:=hg;obtain⟨B,rv,p,_⟩:=I.tuple S;obtain⟨A,d,⟨a,c,f⟩,G,L⟩:=C;have ac:=rv.length;have n:s.TypeIs (.ref z) "zip":=⟨_,A,rfl⟩
  unfold pyNext;refine ug (wpAny_attempt (wpAny_callSpecial?_slot (name:=Str.ofString "__next__") n F.slot_zip_next (wpAny_call_entry F.slot_zip_next n F.entry_zip_next ?_ (F.args_zip_next_1 _))));refine xo D (fun h=>h.IsTupleIter j t i/\h.IsTuple t B.toArray) (fun h h' ⟨⟨o,e,r⟩,o',e',r'⟩ k=>⟨⟨o,k j (by simp) o e,r⟩,o',k t (by simp) o' e',r'⟩)
   (fun s Q E p q=>Ym (I.ok.hd O) p.1 p.2 (by simp;lia) q) A d f ⟨G,p⟩ fun h' e R he=>?_
  obtain⟨o,ho,O⟩:=he;refine ug (wpAny_isInstance (T:="StopIteration") (b:=true) ⟨o,ho,O⟩ isSubtype_stop ?_);exact uf ⟨rfl,I.turnedL (t':=s.toks) (ch:=[z,TI,TO,j,m]) Z fun b o g q=>R b o (fun e=>g (by simp[e])) (fun e=>g (by simp[e])) (fun e=>g (by simp[e])) (fun e=>g (by simp[e])) q⟩
 self:=fun _ _ _ _ _ C h=>wpAny_pyIter_zip C.1 h
def iZipT(K:Frg)(ta:TA):TI:=fun σ H R=>ta σ H fun vs H1=>∃a b xs ys,vs=[.ref a,.ref b]/\SqT K H1 a xs/\SqL K H1 b ys/\R (Izt K a b) H1
theorem j02{X:Cx}{a b:Expr}{F:TA}{m:List Expr}{k:Nat}{p pos A:Pos}(P:Gl X "zip")(S:X.mg "zip"= none)(N:PA X [a,b] F)(W:starEach [a,b] X.env=[(false,eval a X.env),(false,eval b X.env)]:=by rfl)(w:starEach [b] X.env=[(false,eval b X.env)]:=by rfl) :
  PI X (.Tuple m k A) (.Call (.Name "zip" p) [a,b] [] pos) (iZipT X.K F):=by
 intro z s σ H R I h;refine Call_ (Qa I P S wj (PyProof.Rows.callWith_type1 (thn (N pos z s σ H _ I h) fun us d ⟨vs,G,g,r1,q1⟩=>?_) (by rw[W,w]) (by rw[w];rfl)));obtain⟨t,l,xs,ys,rfl,T,U,q⟩:=q1;obtain⟨u,w',rfl,r,r'⟩:=vals2 r1;cases r;cases r';obtain⟨Z,rv,p,hz⟩:=g.tuple T;obtain⟨a0,a6,E,Y⟩:=g.list U;have B:t<d.heap.objs.size:=by obtain⟨o,e,_⟩:=id p;exact vM e
 have y:l<d.heap.objs.size:=by obtain⟨o,e,_⟩:=id E.isList;exact vM e
 refine KJ p E.isList fun h' C J K L M Q=>?_
 refine wpAny_pyIter_zip C ?_;have f:∀{x:Addr} (i:Nat),x<d.heap.objs.size->d.heap.objs.size+i≠x:=fun i h=>vR (Nat.lt_of_lt_of_le h (Nat.le_add_right _ _))
 have D:ZA (d.heap.objs.size+4) (d.heap.objs.size+2) (d.heap.objs.size+3) d.heap.objs.size (d.heap.objs.size+1) [d.heap.objs.size,t] [d.heap.objs.size+1,l]:=
  ⟨jz (by decide),jz (by decide),jz (i:=0) (by decide),jz (by decide),jz (by decide),jz (j:=0) (by decide),jz (by decide),jz (j:=0) (by decide),jz (by decide),
   by simp[jz (n:=d.heap.objs.size) (i:=4) (j:=0) (by decide),f 4 B],by simp[f 3 B],by simp[f 1 B],
   by simp[f 4 y],by simp[f 3 y],by simp[f 0 y,Nat.ne_of_gt y]⟩
 refine⟨d.heap.objs.size+4,[d.heap.objs.size+4,d.heap.objs.size+2,d.heap.objs.size+3,d.heap.objs.size,d.heap.objs.size+1],_,_,G,rfl,g.kept (t':=d.toks) Q,
  j11 t l _ _ _ _ _ D (vI B) (vI (Nat.lt_succ_of_lt y)),⟨C,J,⟨_,_,K⟩,L,M⟩,fun c O=>?_,q⟩
 have v:d.heap.objs.size<=c:=by
  rcases(by simpa using O:c=d.heap.objs.size+4\/c=d.heap.objs.size+2\/c=d.heap.objs.size+3\/c=d.heap.objs.size\/c=d.heap.objs.size+1)with rfl | rfl | rfl | rfl | rfl<;>lia
 exact g.fpOk v (g.hok.fresh v)
theorem rd_iZipT{K:Frg}{c:TA}{d:St}{H:Hp}{R:It->Hp->Prop}(h:c d H fun vs H1=>∃a b xs ys,vs=[.ref a,.ref b]/\SqT K H1 a xs/\SqL K H1 b ys/\R (Izt K a b) H1):iZipT K c d H R:=h
theorem KM{K:Frg}{a b:Addr}{xs zs:List V}{k:Nat}{ci:List Nat}{g:TG}{z:TT}{w:TE}{A:St}{H:Hp}{Z:Addr->List V->Hp->Prop}(d:Nat->List V->Hp->Prop)(r:xs.length=zs.length)(B:d 0 [] H)(F:∀i ys H,i<=xs.length->d i ys H->SqT K H a xs/\SqL K H b zs)
  (G:∀i u v ys H T H',xs[i]?=some u->zs[i]?=some v->d i ys H->Same H H'->H' T=some (.tup [u,v])->g (.ref T) (capS k ci A) H' fun c H2=>z c H2 fun b j=>if b=true then w c j fun v n=>ys.length<sizeLine/\d (i+1) (ys++[v]) n else d (i+1) ys j)
  (D:∀ys H,d xs.length ys H->ys.length<=sizeLine/\∀p,H p=none->Z p ys H) :
  ∃W:Nat->Nat->List V->Hp->Prop,(∃m,W 0 m [] H)/\∀i m ys H,W i m ys H->
   ((Izt K a b).stop i H/\ys.length<=sizeLine/\∀p,H p=none->Z p ys H)\/
   ((Izt K a b).go i H/\∃N:List V->Hp->Prop,(∀f H',N f H'->∃s,s<m/\W (i+1) s f H')/\∀x H',(Izt K a b).yld i H x H'->g x (capS k ci A) H' fun c H2=>z c H2 fun b j=>
    if b=true then w c j fun v n=>ys.length<sizeLine/\N (ys++[v]) n else N ys j):=by
 refine⟨fun i m ys H=>m=xs.length-i/\i<=xs.length/\d i ys H,⟨xs.length,by simp,vC _,B⟩,?_⟩;rintro i m ys H ⟨rfl,E,p⟩;obtain⟨q,t⟩:=F i ys H E p;by_cases l:i<xs.length
 ·refine .inr ⟨⟨xs,xs[i],zs,zs[i],q,by simp[l],t,by simp⟩,d (i+1),fun f H' I=>⟨xs.length-(i+1),by lia,rfl,l,I⟩,fun x H' y=>?_⟩;obtain⟨T,u,v,rfl,C,e,y,J⟩:=y;exact G i u v ys H T H' (y xs q) (J zs t) p (fun b o h=>by rw[e,jg (jd h C)];exact h) (by rw[e];exact ji)
 ·have e:i=xs.length:=by lia
  subst e;exact .inl ⟨⟨xs,q,vB _⟩,D ys H p⟩
section
variable{prog:Program}{w:World}{A:Around}{E:Value->Shared->Prop}{s:Shared}
end
section
variable{X:Cx}
end
section
variable{prog:Program}{w:World}{A:Around}{E:Value->Shared->Prop}{s:Shared}
theorem j2z(a v:Value):checkTypeCall "enumerate" ⟨[a],[(Str.ofString "start",v)]⟩=pure ():=by kernel_rfl
theorem j3w(a v:Value):checkBuiltinCall "enumerate.__new__" ⟨[.type "enumerate",a],[(Str.ofString "start",v)]⟩=pure ():=by kernel_rfl
theorem j2y(a b v:Value):argsOk "object.__init__" ⟨[a,b],[(Str.ofString "start",v)]⟩:=by
 unfold argsOk;rw[signature?_of (id:="object.__init__") (n:=['_','_','t','i','n','i','_','_']) (o:=['t','c','e','j','b','o']) (by kernel_rfl) F.owner_object];kernel_rfl
set_option maxRecDepth 100000 in
theorem WC(l:Addr)(items:Array Value)(n:Nat)(b:Option Addr)(m:Array (Option Value))(t:Tok) :
  Meets (Builtin.«enumerate.__new__» ⟨[.type "enumerate",.ref l],[(Str.ofString "start",.int 1 t)]⟩) (fun _ R s=>s.heap.get? l=some {cls:=.type "list",dict:=b,data:=.seq items n,slots:=m}/\
   R (.ok (.ret (.ref (s.heap.push {cls:=.type "list_iterator",data:=.fields #[.ref l,.int 0 0]}).objs.size)))
    {s with heap:=(s.heap.push {cls:=.type "list_iterator",data:=.fields #[.ref l,.int 0 0]}).push {cls:=.type "enumerate",data:=.fields #[.none,.bool false,.ref s.heap.objs.size,rawInt 1,.none,.none]}}):=
 .of_wp fun i w A R s h=>by
  obtain⟨j,g,d,o,k⟩:=s;obtain⟨a,h⟩:=h;have f:=sub_enumerate;have e:Heap.IsList (Shared.heap ⟨j,g,d,o,k⟩) l items:=⟨_,a,rfl,n,rfl⟩
  wp_walk using AutoSeq1.wpAny_loadPart' a
  refine wpAny_stack_any fun p=>uf ?_
  split
  ·rename_i c _ _ _ _ _;cases(c==Value.type "enumerate")
   ·wp_walk using AutoSeq1.wpAny_loadPart' a,wpAny_pyIter_list e
    exact⟨_,rfl,h⟩
   ·wp_walk using AutoSeq1.wpAny_loadPart' a,wpAny_pyIter_list e
    exact⟨_,rfl,h⟩
  ·wp_walk using AutoSeq1.wpAny_loadPart' a,wpAny_pyIter_list e
   exact⟨_,rfl,h⟩
theorem WD{T b:String}{c a v:Value}(i:typeLookup (.type T) "__init__"= pure (some (.builtin "object.__init__")))(j:Bind.madeBy (.type T)=pure (some b))(e:(some b != some "object.__new__")=true) :
  Meets (Builtin.«object.__init__» ⟨[c,a],[(Str.ofString "start",v)]⟩) (fun _ R s=>s.TypeIs c T/\R (.ok (.ret .none)) s):=by
 refine Meets.of_wp fun d w A R s g=>?_
 obtain⟨h,f⟩:=g
 repeat (any_goals (first | assumption | wp_step))
 exact⟨_,rfl,f⟩
set_option maxRecDepth 100000 in
set_option maxHeartbeats 3200000 in
theorem xC{l:Addr}{items:Array Value}{t:Tok}{Q:Value->Shared->Prop}(z:s.heap.IsList l items)
  (h:∀h',IsEnum h' (s.heap.objs.size+1) s.heap.objs.size 1 .none->h'.IsListIter s.heap.objs.size l 0->(∀b o,s.heap.get? b=some o->h'.get? b=some o)->Q (.ref (s.heap.objs.size+1)) {s with heap:=h'}) :
  wpAny (model prog w) A (call (.type "enumerate") [.ref l] [(Str.ofString "start",.int 1 t)]) Q E s:=by
 obtain⟨⟨c,k,y,H⟩,D,m,n,p⟩:=z
 replace m:c = .type "list":=m
 replace p:y = .seq items n:=p
 subst m p;have a:=F.called_enumerate;obtain⟨c,T,P⟩:=a.mro;have I:=a.made;have J:=a.sub;refine wpAny_call (codeAny_of_tree ?_);show wpAny _ _ (callAny (.type "enumerate") _) _ _ _;refine uf ⟨Code.quiet_builtin _ (by decide +kernel),codeAny_builtin F.entry_type_call ?_⟩;rw[Around.under_plain (weight_type_call_type "enumerate" [.ref l] [(Str.ofString "start",.int 1 t)]) (units_type_call_type "enumerate" [.ref l] [(Str.ofString "start",.int 1 t)])];have K:=a.notType;have L:=a.canCreate;have M:=j2z (.ref l) (.int 1 t)
 repeat (any_goals (first | assumption | wp_step))
 refine codeAny_mono (codeAny_call_builtin a.plain F.entry_enumerate_new (wpAny_of_eq (j3w (.ref l) (.int 1 t)) (WC l items n k H t prog w A.in1 (wants (fun g i=>g = .ref (s.heap.objs.size+1)/\∃h',i={s with heap:=h'}/\IsEnum h' (s.heap.objs.size+1) s.heap.objs.size 1 .none/\h'.IsListIter s.heap.objs.size l 0/\∀b o,s.heap.get? b=some o->h'.get? b=some o) E) s ⟨D,?_⟩))) fun r R q=>?_
 ·have v:(s.heap.push {cls:=.type "list_iterator",data:=.fields #[.ref l,.int 0 0]}).objs.size=s.heap.objs.size+1:=Heap.size_push ..;have f:=Heap.get?_push_size (s.heap.push {cls:=.type "list_iterator",data:=.fields #[.ref l,.int 0 0]}) (o:={cls:=.type "enumerate",data:=.fields #[.none,.bool false,.ref s.heap.objs.size,rawInt 1,.none,.none]}) rfl;rw[v]at f;exact⟨by rw[v],_,rfl,f,⟨_,vN _ (Heap.get?_push_size _ rfl),rfl,rfl⟩,fun b o x=>vN _ (vN _ x)⟩
 cases r with
 | error e=>exact q
 | ok fl=>
  cases fl with
  | ret g=>
   obtain⟨rfl,h',rfl,f,B,C⟩:=q;have u:Shared.TypeIs {s with heap:=h'} (.ref (s.heap.objs.size+1)) "enumerate":=⟨_,f,rfl⟩
   have N:=a.init.lookup;have O:=a.init.bind (.ref (s.heap.objs.size+1))
   repeat (any_goals (first | assumption | wp_step))
   refine codeAny_mono (codeAny_call_builtin a.init.plain F.entry_object_init (a.init.check _ _ _ _ _ _ _ _ u (j2y _ _ _) (WD a.init.lookup a.made (by decide) prog w A.in1 (wants (fun r j=>r = .none/\j={s with heap:=h'}) E) _ ⟨u,rfl,rfl⟩))) fun G S d=>?_
   cases G with
   | error e=>exact d
   | ok fl2=>
    cases fl2 with
    | ret r=>
     obtain⟨rfl,rfl⟩:=d
     repeat (any_goals (first | assumption | wp_step))
     exact h h' f B C
    | _=>exact d.elim
  | _=>exact q.elim
theorem xM{e it:Addr}{U:List Addr}{P T:Heap->Prop}{n:Int}{x c:Value}{Q:Value->Shared->Prop}(N:Nxt prog w it U P T x)(ne:e≠it)(X:e∉U)(K:IsEnum s.heap e it n c)(h1:P s.heap)
  (hQ:∀h',IsEnumOut h' e it (n+1) x s.heap.objs.size->T h'->h'.get? s.heap.objs.size=some {cls:=.type "tuple",data:=.seq #[.int n s.toks,x]}->(∀b o,b≠e->b≠it->s.heap.get? b=some o->h'.get? b=some o)->Q (.ref s.heap.objs.size) {s with heap:=h',toks:=s.toks+1}) :
  wpAny (model prog w) A (Builtin.«enumerate.__next__» ⟨[.ref e],[]⟩) (fun J s'=>∃v,J = .done (.ret v)/\Q v s') E s:=by
 obtain⟨k,g,d,a,j⟩:=s;show wpAny _ _ (field (.ref e) 2 >>= _) _ _ _;refine ug (wpAny_field K rfl (x:=.ref it) rfl ?_);refine ug (N.run _ _ _ _ h1 fun h p1 l=>?_)
 replace l:Heap.SameBut it k h:=l
 have C:IsEnum h e it n c:=(l.2 e ne).trans K;show wpAny _ _ (field (.ref e) 3 >>= _) _ _ ⟨h,g,d,a,j⟩;refine ug (wpAny_field C rfl (x:=rawInt n) rfl ?_);show wpAny _ _ (field (.ref e) 4 >>= _) _ _ ⟨h,g,d,a,j⟩;refine ug (wpAny_field C rfl (x:=.none) rfl ?_);show wpAny _ _ (mkInt n >>= _) _ _ ⟨h,g,d,a,j⟩;refine ug (wpAny_mkInt ?_);show wpAny _ _ (setField (.ref e) 3 (rawInt (n+1)) >>= _) _ _ ⟨h,g,d,a+1,j⟩;refine ug (wpAny_setField_rec C (by simp) fun m D u=>?_)
 replace u:Heap.SameBut e h m:=u
 replace D:IsEnum m e it (n+1) c:=D
 show wpAny _ _ (setField (.ref e) 4 .none >>= _) _ _ ⟨m,g,d,a+1,j⟩;refine ug (wpAny_setField_rec D (by simp) fun i F y=>?_)
 replace y:Heap.SameBut e m i:=y
 replace F:IsEnum i e it (n+1) c:=F
 show wpAny _ _ (newTuple [.int n a,x] >>= _) _ _ ⟨i,g,d,a+1,j⟩;refine ug (wpAny_newTuple (hsz:=by show 2<=sizeLine;decide) ?_);have t:IsEnum (i.push {cls:=.type "tuple",data:=.seq #[.int n a,x]}) e it (n+1) c:=vN _ F;have Y:i.objs.size=k.objs.size:=by rw[y.1,u.1,l.1]
 have lt:e<k.objs.size:=vM K;have Z:(i.push {cls:=.type "tuple",data:=.seq #[.int n a,x]}).get? k.objs.size=some {cls:=.type "tuple",data:=.seq #[.int n a,x]}:=by rw[<-Y];exact Heap.get?_push_size _ rfl
 have L:∀b o,b≠e->h.get? b=some o->(i.push {cls:=.type "tuple",data:=.seq #[.int n a,x]}).get? b=some o:=fun b o f q=>vN _ (y.extBut b o f (u.extBut b o f q))
 generalize i.push {cls:=.type "tuple",data:=.seq #[.int n a,x]}=a4 at t Z L;show wpAny _ _ (Builtin.SmallTypes.ownedTupleIsFree (.ref e) >>= _) _ _ ⟨a4,g,d,a+1,j⟩;rw[Y];refine ug ?_;unfold Builtin.SmallTypes.ownedTupleIsFree;refine ug (wpAny_field t rfl (x:=.none) rfl (uf ?_));simp only[if_true];refine ug (wpAny_rule ?_);refine ug (wpAny_field t rfl (x:=c) rfl ?_);refine ug (wpAny_setField_rec t (by simp) fun p G M=>?_)
 replace M:Heap.SameBut e a4 p:=M
 replace G:IsEnum p e it (n+1) x:=G
 show wpAny _ _ (Builtin.SmallTypes.ownedTupleHandOut (.ref e) (.ref k.objs.size) >>= _) _ _ ⟨p,g,d,a+1,j⟩;refine ug ?_;unfold Builtin.SmallTypes.ownedTupleHandOut;refine ug (wpAny_setField_rec G (by simp) fun B H O=>?_)
 replace O:Heap.SameBut e p B:=O
 replace H:IsEnumOut B e it (n+1) x k.objs.size:=H
 refine wpAny_setField_rec H (by simp) fun r I R=>?_
 replace R:Heap.SameBut e B r:=R
 replace I:IsEnumOut r e it (n+1) x k.objs.size:=I
 have S:∀b o,b≠e->a4.get? b=some o->r.get? b=some o:=fun b o f q=>R.extBut b o f (O.extBut b o f (M.extBut b o f q))
 refine ug (wpAny_letGo (uf ⟨_,rfl,hQ r I ?_ (S _ _ (vR lt) Z) fun b o W n2 q=>S b o W (L b o W (l.extBut b o n2 q))⟩));exact N.kp' _ _ p1 fun b f o q=>S b o (fun z=>X (z▸f)) (L b o (fun z=>X (z▸f)) q)
end
def Ite1(K:Frg)(a:Addr):It:=
 ⟨fun i H=>∃xs x,SqL K H a xs/\xs[i]?=some x,fun i H x H'=>∃T v,x = .ref T/\H T=none/\H'=upd H T (.tup [.int (i+1),v])/\∀xs,SqL K H a xs->xs[i]?=some v,fun i H=>∃xs,SqL K H a xs/\xs.length<=i⟩
theorem XD{P:Program}{w:World}{K:Frg}{r:List Expr}{k:Nat}{pos:Pos}(a e it:Addr)(m:e≠it)(na:a≠e)(ni:a≠it) :
  Turn P w K (.Tuple r k pos) (Ite1 K a) [e,it] e (fun i h=>(∃c,IsEnum h e it ((i:Nat)+1) c)/\h.IsListIter it a i) where
 mem:=by simp
 obj:=fun i h n b f=>by
  obtain⟨⟨c,g⟩,o,eo,_,d⟩:=n;rcases(by simpa using f:b=e\/b=it)with rfl | rfl
  ·exact⟨_,g,fun v z=>by cases z⟩
  ·exact⟨o,eo,fun v z=>by rw[d]at z;cases z⟩
 keep:=fun i h h' ⟨⟨c,g⟩,hi⟩ k=>⟨⟨c,k e (by simp) _ g⟩,hi.at fun o q=>k it (by simp) o q⟩
 item:=by
  intro X G O D B i A s σ H E I L n M;subst G O D;obtain⟨xs,x,C,Q⟩:=M;obtain⟨t,S,p,hz⟩:=I.list C;obtain⟨u,hu,ru⟩:=S.get Q;obtain⟨⟨c,g⟩,l⟩:=n;have le:e<s.heap.objs.size:=vM g;have li:it<s.heap.objs.size:=by obtain⟨o,q,_⟩:=id l;exact vM q
  have j:s.TypeIs (.ref e) "enumerate":=⟨_,g,rfl⟩
  unfold pyNext;refine ug (wpAny_attempt (wpAny_callSpecial?_slot (name:=Str.ofString "__next__") j F.slot_enumerate_next (wpAny_call_entry F.slot_enumerate_next j F.entry_enumerate_next ?_ (F.args_enumerate_next_1 _))));refine xM (wD ni (x:=u) (xs:=t.toArray) (by simpa using hu)) m (by simp[m,na.symm]) g ⟨l,p.isList⟩ fun h' N p' hT hk=>uf ?_
  obtain⟨Y,U⟩:=I.pair (t':=s.toks+1) (ch:=[e,it]) (x:=.int (i+1)) (y:=x) L (fun b f=>by rcases(by simpa using f:b=e\/b=it)with rfl | rfl<;>assumption) ⟨s.toks,rfl⟩ ru hT
   (fun b o f q=>hk b o (fun z=>f (by simp[z])) (fun z=>f (by simp[z])) q)
  refine⟨_,rfl,wpAny_letOwnedTupleGo_enum N fun h2 J W=>?_⟩;have Z:=Y.turnedL (h':=h2) (t':=s.toks+1) (ch:=[e,it]) U fun b o f q=>(W.2 b fun z=>f (by simp[z])).trans q
  exact⟨.ref s.heap.objs.size,_,Z,rfl,⟨_,x,rfl,I.hok.fresh (vB _),rfl,fun ys hy=>by rw[I.list_inj hy C];exact Q⟩,
   ⟨⟨u,by simpa using J⟩,p'.1.at fun o q=>(W.2 it m.symm).trans q⟩,fun b f=>(U b f).1⟩
 done:=by
  intro X G O D B i A s σ H E I L n M;subst G O D;obtain⟨xs,C,Q⟩:=M;obtain⟨t,S,p,hz⟩:=I.list C;obtain⟨⟨c,g⟩,l⟩:=n;have hl:=S.length;have j:s.TypeIs (.ref e) "enumerate":=⟨_,g,rfl⟩
  unfold pyNext;refine ug (wpAny_attempt (wpAny_callSpecial?_slot (name:=Str.ofString "__next__") j F.slot_enumerate_next (wpAny_call_entry F.slot_enumerate_next j F.entry_enumerate_next ?_ (F.args_enumerate_next_1 _))));show wpAny _ _ (field (.ref e) 2 >>= _) _ _ _;refine ug (wpAny_field g rfl (x:=.ref it) rfl ?_);refine ug (wpAny_nextOf_list_end (I.ok.hd B) l p.isList (by simp;lia) fun h' x eb R=>?_);obtain⟨o,N,B⟩:=R;refine ug (wpAny_isInstance (T:="StopIteration") (b:=true) ⟨o,N,B⟩ isSubtype_stop ?_);exact uf ⟨rfl,I.turnedL (t':=s.toks) (ch:=[e,it]) L fun b o f q=>eb b o (fun z=>f (by simp[z])) q⟩
 self:=fun _ _ _ _ _ n h=>let ⟨_,g⟩:=n.1;wpAny_pyIter_enum g h
def iEnum1(K:Frg)(ta:TA)(tk:TE):TI:=fun σ H R=>ta σ H fun vs H1=>tk σ H1 fun y H2=>y = .int 1/\∃a xs,vs=[.ref a]/\SqL K H2 a xs/\R (Ite1 K a) H2
theorem rd_iEnum1{K:Frg}{c:TA}{d:TE}{b:St}{H:Hp}{R:It->Hp->Prop}(h:c b H fun vs H1=>d b H1 fun y H2=>y = .int 1/\∃a xs,vs=[.ref a]/\SqL K H2 a xs/\R (Ite1 K a) H2):iEnum1 K c d b H R:=h
theorem kB{M:Model}{A:Around}{E:Value->Shared->Prop}{s:Shared}{env:Env}{pos:Pos}{T:String}{e:Expr}{b:List Keyword}{Q:Value->Shared->Prop}
  (h:wpAny M A (spliced (backTo pos (starEach [e] env))) (fun vs c=>wpAny M A (evalAll ((backToKw pos (keywordEach b env)).map (·.2))) (fun kvs f=>wpAny M A (call (.type T) vs (((backToKw pos (keywordEach b env)).filterMap (·.1)).zip kvs)) Q E f) E c) E s)
  (i:backTo pos (starEach [e] env)=[(false,eval e env)]) (d:(backToKw pos (keywordEach b env)).all (·.1.isSome)=true) (g:(backToKw pos (keywordEach b env)).any (·.1.isNone)=false) :
  wpAny M A (callWith pos (.type T) [] (backTo pos (starEach [e] env)) (backToKw pos (keywordEach b env))) Q E s:=by
 unfold callWith;have q:wpAny M A (evalArgs (.type T) true (backTo pos (starEach [e] env)) (backToKw pos (keywordEach b env))) (fun a c=>wpAny M A (call (.type T) a.pos a.kw) Q E c) E s:=by
  rw[i]at h|-;exact evalArgs_kwB d h
 refine ug (wpAny_holding (wpAny_mono q (fun a l j=>ug (wpAny_standAt ?_)) fun _ _ x=>x));simp only[g,i,any_cons,List.any_nil,Bool.or_false];refine ug (uf ?_);exact ug (wpAny_mono j (fun r m k=>ug (wpAny_holding (wpAny_point (uf k)))) fun _ _ x=>x)
theorem WV{X:Cx}{a v:Expr}{B:TA}{C:TE}{i:List Expr}{k:Nat}{p pos l m:Pos}(M:Gl X "enumerate")(N:X.mg "enumerate"= none)(K:PA X [a] B)(Q:PE X v C)(P:starEach [a] X.env=[(false,eval a X.env)]:=by rfl)
  (r:(backToKw pos (keywordEach [⟨some "start",v,m⟩] X.env)).filterMap (·.1)=[Str.ofString "start"]:=by rfl) (j:(backToKw pos (keywordEach [⟨some "start",v,m⟩] X.env)).all (·.1.isSome)=true:=by rfl) (w:(backToKw pos (keywordEach [⟨some "start",v,m⟩] X.env)).any (·.1.isNone)=false:=by rfl) :
  PI X (.Tuple i k l) (.Call (.Name "enumerate" p) [a] [⟨some "start",v,m⟩] pos) (iEnum1 X.K B C):=by
 intro d s D H R I h;refine wpAny_Call_Name_kw (Qa I M N yK (kB (thn (K pos d s D H _ I h) fun us Z ⟨vs,E,G,U,T⟩=>?_) (by rw[P];rfl) j w));refine kws_cons (thn (Q d Z D E _ G T) fun y f ⟨y',F,g,W,J,b,xs,ev,O,q⟩=>kws_nil ?_);subst J;subst ev;obtain⟨t,rfl⟩:=W;rw[r];obtain⟨u,rfl,Y⟩:=vals1 U;cases Y;obtain⟨S,rv,A,hz⟩:=g.list O;have z:b<f.heap.objs.size:=by obtain⟨o,e,_⟩:=id A.isList;exact vM e
 refine xC A.isList fun h' x n r=>?_
 refine wpAny_pyIter_enum x ?_;refine⟨f.heap.objs.size+1,[f.heap.objs.size+1,f.heap.objs.size],_,_,F,rfl,g.kept (t':=f.toks) r,XD b _ _ (Nat.succ_ne_self _) (vI (Nat.lt_succ_of_lt z)) (vI z),⟨⟨_,by simpa using x⟩,n⟩,fun c L=>?_,q⟩;rcases(by simpa using L:c=f.heap.objs.size+1\/c=f.heap.objs.size)with rfl | rfl
 ·exact g.fpOk (Nat.le_succ _) (g.hok.fresh (Nat.le_succ _))
 ·exact g.fpOk (vB _) (g.hok.fresh (vB _))
theorem j0s{K:Frg}{a:Addr}{xs:List V}{g:TG}{l:TS}{D:Ends}{c:St}{H:Hp}(d:Nat->St->Hp->Prop)(n:d 0 c H)(u:∀i c H,i<=xs.length->d i c H->SqL K H a xs)
  (w:∀i v c H T H',xs[i]?=some v->d i c H->Same H H'->H' T=some (.tup [.int (i+1),v])->g (.ref T) c H' fun f H2=>l {D with nx:=d (i+1),ct:=d (i+1),bk:=D.nx} f H2) (s:∀c H,d xs.length c H->D.nx c H) :
  ∃W:Nat->Nat->St->Hp->Prop,(∃m,W 0 m c H)/\∀i m c H,W i m c H->
   ((Ite1 K a).stop i H/\D.nx c H)\/((Ite1 K a).go i H/\∃N:St->Hp->Prop,(∀σ' H',N σ' H'->∃k,k<m/\W (i+1) k σ' H')/\∀x H',(Ite1 K a).yld i H x H'->g x c H' fun f H2=>l {D with nx:=N,ct:=N,bk:=D.nx} f H2):=by
 refine⟨fun i m c H=>m=xs.length-i/\i<=xs.length/\d i c H,⟨xs.length,by simp,vC _,n⟩,?_⟩;rintro i m c H ⟨rfl,t,p⟩;have q:=u i c H t p;by_cases j:i<xs.length
 ·refine .inr ⟨⟨xs,xs[i],q,by simp[j]⟩,d (i+1),fun σ' H' z=>⟨xs.length-(i+1),by lia,rfl,j,z⟩,fun x H' y=>?_⟩;obtain⟨T,v,rfl,r,e,y⟩:=y;exact w i v c H T H' (y xs q) p (fun b o h=>by rw[e,jg (jd h r)];exact h) (by rw[e];exact ji)
 ·have e:i=xs.length:=by lia
  subst e;exact .inl ⟨⟨xs,q,vB _⟩,s c H p⟩
section
variable{σ:St}{H:Hp}{D:Ends}{Q:VK}{ta tb te:TE}
theorem rd_seq(h:t {D with nx:=u D} σ H):tSeq t u D σ H:=h
theorem rd_asg(h:te σ H fun x H1=>g x σ H1 D.nx):tAsg te g D σ H:=h
theorem rd_v0{r:St}(h:Q v H):tVar 0 (some v::r) H Q:=⟨v,rfl,h⟩
theorem rd_n0{r:St}{R:St->Hp->Prop}(h:R (some v::r) H):gName 0 v (a0::r) H R:=h
theorem rd_v1{r:St}(h:Q v H):tVar 1 (a0::some v::r) H Q:=⟨v,rfl,h⟩
theorem rd_n1{r:St}{R:St->Hp->Prop}(h:R (a0::some v::r) H):gName 1 v (a0::a1::r) H R:=h
theorem rd_v2{r:St}(h:Q v H):tVar 2 (a0::a1::some v::r) H Q:=⟨v,rfl,h⟩
theorem rd_n2{r:St}{R:St->Hp->Prop}(h:R (a0::a1::some v::r) H):gName 2 v (a0::a1::a2::r) H R:=h
theorem rd_v3{r:St}(h:Q v H):tVar 3 (a0::a1::a2::some v::r) H Q:=⟨v,rfl,h⟩
theorem rd_n3{r:St}{R:St->Hp->Prop}(h:R (a0::a1::a2::some v::r) H):gName 3 v (a0::a1::a2::a3::r) H R:=h
theorem rd_v4{r:St}(h:Q v H):tVar 4 (a0::a1::a2::a3::some v::r) H Q:=⟨v,rfl,h⟩
theorem rd_n4{r:St}{R:St->Hp->Prop}(h:R (a0::a1::a2::a3::some v::r) H):gName 4 v (a0::a1::a2::a3::a4::r) H R:=h
theorem rd_v5{r:St}(h:Q v H):tVar 5 (a0::a1::a2::a3::a4::some v::r) H Q:=⟨v,rfl,h⟩
theorem rd_n5{r:St}{R:St->Hp->Prop}(h:R (a0::a1::a2::a3::a4::some v::r) H):gName 5 v (a0::a1::a2::a3::a4::a5::r) H R:=h
theorem rd_v6{r:St}(h:Q v H):tVar 6 (a0::a1::a2::a3::a4::a5::some v::r) H Q:=⟨v,rfl,h⟩
theorem rd_n6{r:St}{R:St->Hp->Prop}(h:R (a0::a1::a2::a3::a4::a5::some v::r) H):gName 6 v (a0::a1::a2::a3::a4::a5::a6::r) H R:=h
theorem rd_v7{r:St}(h:Q v H):tVar 7 (a0::a1::a2::a3::a4::a5::a6::some v::r) H Q:=⟨v,rfl,h⟩
theorem rd_n7{r:St}{R:St->Hp->Prop}(h:R (a0::a1::a2::a3::a4::a5::a6::some v::r) H):gName 7 v (a0::a1::a2::a3::a4::a5::a6::a7::r) H R:=h
theorem rd_v8{r:St}(h:Q v H):tVar 8 (a0::a1::a2::a3::a4::a5::a6::a7::some v::r) H Q:=⟨v,rfl,h⟩
theorem rd_n8{r:St}{R:St->Hp->Prop}(h:R (a0::a1::a2::a3::a4::a5::a6::a7::some v::r) H):gName 8 v (a0::a1::a2::a3::a4::a5::a6::a7::a8::r) H R:=h
theorem rd_v9{r:St}(h:Q v H):tVar 9 (a0::a1::a2::a3::a4::a5::a6::a7::a8::some v::r) H Q:=⟨v,rfl,h⟩
theorem rd_n9{r:St}{R:St->Hp->Prop}(h:R (a0::a1::a2::a3::a4::a5::a6::a7::a8::some v::r) H):gName 9 v (a0::a1::a2::a3::a4::a5::a6::a7::a8::a9::r) H R:=h
theorem rd_v10{r:St}(h:Q v H):tVar 10 (a0::a1::a2::a3::a4::a5::a6::a7::a8::a9::some v::r) H Q:=⟨v,rfl,h⟩
theorem rd_n10{r:St}{R:St->Hp->Prop}(h:R (a0::a1::a2::a3::a4::a5::a6::a7::a8::a9::some v::r) H):gName 10 v (a0::a1::a2::a3::a4::a5::a6::a7::a8::a9::a10::r) H R:=h
theorem rd_const(h:Q v H):tC v σ H Q:=h
theorem rd_op(h:ta σ H fun x H1=>tb σ H1 fun y H2=>r x y H2 Q):tOp r ta tb σ H Q:=h
theorem rd_un{r:V->Hp->VK->Prop}(h:ta σ H fun x H1=>r x H1 Q):tUn r ta σ H Q:=h
theorem rd_i0{g:Int->Int->V}(h:Q (g i j) H):rI0 g (.int i) (.int j) H Q:=⟨i,j,rfl,rfl,h⟩
theorem j4w{C:Int->Int->Prop}{g:Int->Int->V}(c:C i j)(h:Q (g i j) H):rI C g (.int i) (.int j) H Q:=⟨i,j,rfl,rfl,c,h⟩
theorem rd_u{g:Int->V}(h:Q (g i) H):rU g (.int i) H Q:=⟨i,rfl,h⟩
theorem rd_eqI(h:Q (.bl (decide (i=j))) H):rEq (.int i) (.int j) H Q:=by
 refine⟨rfl,?_⟩;rw[show decide (V.int i=V.int j)=decide (i=j) by simp];exact h
theorem rd_neI(h:Q (.bl (!decide (i=j))) H):rNe (.int i) (.int j) H Q:=by
 refine⟨rfl,?_⟩;rw[show decide (V.int i=V.int j)=decide (i=j) by simp];exact h
theorem rd_eqS(h:Q (.bl (decide (i=j))) H):rEq (.str i) (.str j) H Q:=by
 refine⟨rfl,?_⟩;rw[show decide (V.str i=V.str j)=decide (i=j) by simp];exact h
theorem rd_neS{i j:Str}(h:Q (.bl (!decide (i=j))) H):rNe (.str i) (.str j) H Q:=by
 refine⟨rfl,?_⟩;rw[show decide (V.str i=V.str j)=decide (i=j) by simp];exact h
theorem rd_if(h:c σ H fun b H1=>if b=true then t D σ H1 else u D σ H1):tIfS c t u D σ H:=h
theorem rd_test{R:Bool->Hp->Prop}(h:te σ H fun x H'=>∃k,x = .bl k/\R k H'):tTest te σ H R:=h
theorem rd_tB{R:Bool->Hp->Prop}(h:te σ H fun x H'=>∃k,x = .bl k/\R k H'):tB te σ H R:=h
theorem rd_blP{R:Bool->Prop}(h:R k):∃a,V.bl k = .bl a/\R a:=⟨k,rfl,h⟩
theorem rd_not{R:Bool->Hp->Prop}(h:t σ H fun c H1=>R (!c) H1):tNot t σ H R:=h
theorem rd_and{R:Bool->Hp->Prop}(h:t σ H fun c H1=>if c=true then u σ H1 R else R false H1):tAnd t u σ H R:=h
theorem rd_or{R:Bool->Hp->Prop}(h:t σ H fun c H1=>if c=true then R true H1 else u σ H1 R):tOr t u σ H R:=h
theorem rd_andV(h:ta σ H fun x H1=>∃c,x = .bl c/\if c=true then tb σ H1 Q else Q (.bl false) H1):tAndV ta tb σ H Q:=h
theorem rd_orV(h:ta σ H fun x H1=>∃c,x = .bl c/\if c=true then Q (.bl true) H1 else tb σ H1 Q):tOrV ta tb σ H Q:=h
theorem rd_ifE(h:t σ H fun c H1=>if c=true then ta σ H1 Q else tb σ H1 Q):tIf t ta tb σ H Q:=h
theorem rd_ret(h:te σ H D.rt):tRet te D σ H:=h
theorem rd_next(h:D.nx σ H):tNext D σ H:=h
theorem rd_drop(h:te σ H fun _ H1=>D.nx σ H1):tDrop te D σ H:=h
theorem rd_cb{r:List V->Hp->VK->Prop}(h:t σ H fun vs H1=>r vs H1 Q):tCB r t σ H Q:=h
theorem rd_call{sp:Sp}(h:t σ H fun vs H1=>sp (vs++dvs) H1 Q E):tCall sp dvs E t σ H Q:=h
theorem rd_fld{K:Frg}{f:Str}(h:ta σ H fun x H1=>∃a C dx fs v,x = .ref a/\H1 a=some (.ins C dx fs)/\Cls K C/\NoAttr K C f/\fs.lookup f=some v/\Q v H1):tFld K ta f σ H Q:=h
theorem rd_sfld{K:Frg}{f:Str}(h:tb σ H fun y H1=>ta σ H1 fun x H2=>∃a C dx fs,x = .ref a/\H2 a=some (.ins C dx fs)/\Cls K C/\NoAttr K C f/\fs.length<1000/\D.nx σ (upd H2 a (.ins C dx (putF f y fs)))):sFld K ta tb f D σ H:=h
theorem rd_meth{sp:Sp}(h:ta σ H fun x H1=>∃a dx fs,x = .ref a/\H1 a=some (.ins C dx fs)/\fs.lookup m=none/\t σ H1 fun vs H2=>sp (x::(vs++dvs)) H2 Q E):tMeth C m sp dvs E ta t σ H Q:=h
theorem rd_make{sp:Sp}(h:t σ H fun vs H1=>∀x dx,H1 x=none->H1 dx=none->dx≠x->sp (.ref x::(vs++dvs)) (upd (upd H1 dx (.own x)) x (.ins C dx [])) (fun v H2=>v = .non/\Q (.ref x) H2) E):tMake C sp dvs E t σ H Q:=h
theorem rd_dIn(h:ta σ H fun y H1=>tb σ H1 fun x H2=>∃a o,x = .ref a/\DGet H2 a y o/\Q (.bl o.isSome) H2):tDIn ta tb σ H Q:=h
theorem rd_nil{R:List V->Hp->Prop}(h:R [] H):tNil σ H R:=h
theorem rd_cons{R:List V->Hp->Prop}(h:ta σ H fun x H1=>tr σ H1 fun xs H2=>R (x::xs) H2):tCons ta tr σ H R:=h
theorem rd_lst(h:t σ H fun xs H1=>xs.length<=sizeLine/\∀p,H1 p=none->Q (.ref p) (upd H1 p (.lst xs))):tLst t σ H Q:=h
theorem rd_tup(h:t σ H fun xs H1=>xs.length<=sizeLine/\∀p,H1 p=none->Q (.ref p) (upd H1 p (.tup xs))):tTup t σ H Q:=h
theorem rd_chain(h:ta σ H fun x H1=>tb σ H1 fun y H2=>r x y H2 fun z a=>∃k,z = .bl k/\(if k=true then tc σ a fun c b=>r' y c b Q else Q (.bl false) a)):tChain r r' ta tb tc σ H Q:=h
theorem rd_bm{K:Frg}{T:String}{r:V->List V->Hp->VK->Prop}{t:TA}(h:te σ H fun x H1=>tyV K T x H1/\t σ H1 fun xs H2=>r x xs H2 Q):tBM K T r te t σ H Q:=h
theorem rd_sl{r:V->Option Int->Option Int->Hp->VK->Prop}(h:te σ H fun x H1=>tl σ H1 fun l H2=>th σ H2 fun u a=>r x l u a Q):tSl r te tl th σ H Q:=h
theorem rd_nopart{R:Option Int->Hp->Prop}(h:R none H):tNoPart σ H R:=h
theorem rd_part{R:Option Int->Hp->Prop}(h:te σ H fun x H1=>∃i,x = .int i/\R (some i) H1):tPart te σ H R:=h
theorem rd_int{R:Int->Prop}(h:R i):∃a,V.int i = .int a/\R a:=⟨i,rfl,h⟩
theorem iteD{p A B:Prop}[Decidable p](a:p->A)(b:¬p->B):if decide p=true then A else B:=by
 by_cases h:p
 ·rw[va (vK h)];exact a h
 ·rw[vA (by simpa using h)];exact b h
theorem iteN{p A B:Prop}[Decidable p](a:¬p->A)(b:p->B):if(!decide p)=true then A else B:=by
 by_cases h:p
 ·rw[vA (by simpa using h)];exact b h
 ·rw[va (by simpa using h)];exact a h
theorem rd_rng1{a:TA}{R:It->Hp->Prop}(h:a σ H fun vs H1=>∃j:Int,vs=[.int j]/\-(2^62)<=j/\j<2^62/\R (Itr 0 j.toNat) H1):iRng1 a σ H R:=h
theorem rd_iList{K:Frg}{R:It->Hp->Prop}(h:te σ H fun x H1=>∃a,x = .ref a/\(∃xs,SqL K H1 a xs)/\R (Itl K a) H1):iList K te σ H R:=h
theorem rd_p6(h:Q (.int (10^6)) H):rI CPow (fun i j=>.int (i^j.toNat)) (.int 10) (.int 6) H Q:=⟨10,6,rfl,rfl,⟨by decide,by decide,by decide⟩,h⟩
theorem rd_p18(h:Q (.int (10^18)) H):rI CPow (fun i j=>.int (i^j.toNat)) (.int 10) (.int 18) H Q:=⟨10,18,rfl,rfl,⟨by decide,by decide,by decide⟩,h⟩
theorem rd_p60(h:Q (.int (10^60)) H):rI CPow (fun i j=>.int (i^j.toNat)) (.int 10) (.int 60) H Q:=⟨10,60,rfl,rfl,⟨by decide,by decide,by decide⟩,h⟩
theorem rd_for{c:TS} (h:wi σ H fun J H1=>∃W:Nat->Nat->St->Hp->Prop,(∃m,W 0 m σ H1)/\∀i m σ H,W i m σ H->
 (J.stop i H/\D.nx σ H)\/(J.go i H/\∃N:St->Hp->Prop,(∀σ' H',N σ' H'->∃b,b<m/\W (i+1) b σ' H')/\∀x H',J.yld i H x H'->g x σ H' fun a H2=>c {D with nx:=N,ct:=N,bk:=D.nx} a H2)):tFor wi g c D σ H:=h
theorem rd_comp (h:wi σ H fun J H1=>∃W:Nat->Nat->List V->Hp->Prop,(∃m,W 0 m [] H1)/\∀i m ys H,W i m ys H->
 (J.stop i H/\ys.length<=sizeLine/\∀p,H p=none->Q (.ref p) (upd H p (.lst ys)))\/
 (J.go i H/\∃N:List V->Hp->Prop,(∀a H',N a H'->∃e,e<m/\W (i+1) e a H')/\∀x H',J.yld i H x H'->g x (capS n ci σ) H' fun c H2=>tf c H2 fun b d=>
  if b=true then te c d fun v f=>ys.length<sizeLine/\N (ys++[v]) f else N ys d)):tComp wi n ci g tf te σ H Q:=h
theorem rd_yes{R:Bool->Hp->Prop}(h:R true H):tYes σ H R:=h
theorem JJ{n:Nat}{ci:List Nat}{g:TG}{x:V}{σ':St}{R:St->Hp->Prop}(e:capS n ci σ=σ')(h:g x σ' H R):g x (capS n ci σ) H R:=by rw[e];exact h
theorem jr{t:TS}{σ':St}(e:σ=σ')(h:t D σ' H):t D σ H:=by subst e;exact h
theorem j35{H H':Hp}(h:H p=none)(e:upd H p o=H'):Same H H':=fun b u q=>by rw[<-e,jg (jd q h)];exact q
theorem j19{H H':Hp}(e:upd H p o=H'):H' p=some o:=by rw[<-e];exact ji
end
theorem ixLm{K:Frg}{p:Addr}{xs:List V}{i:Int}{v:V}{H:Hp}{Q:VK}(h:SqL K H p xs)(e:atI xs i=some v)(q:Q v H):rIxL K (.ref p) (.int i) H Q:=⟨p,xs,i,v,rfl,rfl,h,e,q⟩
theorem ixTm{K:Frg}{p:Addr}{xs:List V}{i:Int}{v:V}{H:Hp}{Q:VK}(h:SqT K H p xs)(e:atI xs i=some v)(q:Q v H):rIxT K (.ref p) (.int i) H Q:=⟨p,xs,i,v,rfl,rfl,h,e,q⟩
end L2
local macro_rules | `(tactic| walk_at "side") => `(tactic| first | with_reducible assumption | exact L2.cdivB (by lia) (by lia) | exact L2.mulOk (by lia) (by lia) (by lia) (by lia) | exact L2.mulOkC (by first | assumption | exact L2.bits_ediv (by assumption) _) (by lia) (by lia) | lia)
local macro_rules | `(tactic| walk_at $s:str) => do
 let ws:=s.getString.splitOn " "
 if ws.head?==some "f" then
  let vs:=if ws.length==3 then["p"++ws.getD 1 "","hp"++ws.getD 1 "","H"++ws.getD 1 "","s"++ws.getD 1 "",ws.getD 2 ""++ws.getD 1 ""]else ws.drop 1
  let i:=fun(k:Nat)=>Lean.mkIdent (Lean.Name.mkSimple (vs.getD k ""))
  return <-`(tactic| (intro $(i 0):ident $(i 1):ident;generalize eH:L2.upd _ $(i 0) _ = $(i 2):ident;have $(i 3):ident:=L2.j35 $(i 1) eH;have $(i 4):ident:=L2.j19 eH;clear eH))
 if s.getString != "g" then Lean.Macro.throwUnsupported
 let as <-("rd_seq rd_asg rd_op rd_const rd_i0 rd_cons rd_nil rd_call rd_ret rd_if rd_test rd_tB rd_blP rd_not rd_next rd_v0 rd_v1 rd_v2 rd_v3 rd_v4 rd_v5 rd_v6 rd_v7 rd_v8 rd_v9 rd_v10 rd_un rd_u rd_and rd_or rd_andV rd_orV rd_ifE rd_drop rd_cb rd_lst rd_tup rd_chain rd_bm rd_sl rd_nopart rd_part rd_eqI rd_neI rd_eqS rd_neS rd_iStr rd_str rd_int rd_rng1 rd_iList rd_for rd_comp rd_yes rd_dget rd_iTup rd_iEnum rd_iZip rd_dnew rd_dput rd_bm0 rd_tru rd_lz rd_fld rd_sfld rd_meth rd_make rd_dIn rd_iZipT rd_iEnum1 rd_n0 rd_n1 rd_n2 rd_n3 rd_n4 rd_n5 rd_n6 rd_n7 rd_n8 rd_n9 rd_n10 rd_p6 rd_p18 rd_p60".splitOn " ").toArray.mapM λn=>`(Lean.Parser.Tactic.tacticSeq| refine $(Lean.mkIdent (Lean.Name.mkStr2 "L2" n)) ?_)
 `(tactic| repeat first | with_reducible (first $[| $as]*) | (with_reducible refine L2.j4w ?c ?_; (case c => ((try dsimp only); walk_at "side"))))
local macro_rules | `(tactic| exists $e) => `(tactic| (walk_at "g"; refine $e))
namespace Pr
open PySem L2
end Pr
namespace Pr
open PySem L2
inductive sp_law(K:Frg)(vs:List V)(H:Hp)(Q:VK)(xk:XK):Prop
 | mk (a:Addr) (ns:List Int) (_:vs=[.ref a]) (_:SqL K H a (ns.map V.int)) (_:ns.length<=63) (_:(∀x∈ns,Builtin.Int.intBits x<=1048576)) (_:∀H',Q (.bl true) H'):sp_law K vs H Q xk
end Pr
namespace Pr
open PySem L2
theorem j2M{ns:List Int}{lo hi:Option Int}{x:V}(h:x∈cutV (ns.map V.int) lo hi):∃c∈ns,x = .int c:=by
 have a:x∈ns.map V.int:=List.mem_of_mem_drop (List.mem_of_mem_take h);obtain⟨c,b,e⟩:=vO.mp a;exact⟨c,b,e.symm⟩
end Pr
namespace Pr
open PySem L2
theorem j26{H:Hp}(h:H p=none)(o:HO):Same H (upd H p o):=fun b u q=>by rw[jg (jd q h)];exact q
end Pr
namespace Pr
open PySem L2
end Pr
namespace Ws
open PySem PySem.NumText L2
noncomputable def digs:List Nat:=[48,49,50,51,52,53,54,55,56,57]
noncomputable def figs:Str:="0123456789"
noncomputable def lets:Str:="abcdefghijklmnopqrstuvwxyz"
theorem j2C:figs.cps.toList=digs:=by decide +kernel
theorem j1C{c:Nat}:c∈digs↔48<=c/\c<=57:=by
 have a:∀c∈digs,48<=c/\c<=57:=by decide
 have b:∀k,k<58->48<=k->k∈digs:=by decide
 exact⟨a c,fun h=>b c (Nat.lt_succ_of_le h.2) h.1⟩
noncomputable def among(x z:Str):Bool:=decide (∀c∈x.cps.toList,c∈z.cps.toList)
noncomputable def isW(x:Str):Bool:=decide (1<=x.length/\x.length<=8)&&among x lets
noncomputable def numV(x:Str)(m:Int):V:=if(1<=x.length/\(x.length:Int)<=m)/\among x figs=true/\¬(x.cps.toList.head?=some 48/\x.length≠1)then .int (digitsVal x.cps.toList:Nat)else .non
theorem j2R(x:Str)(m:Int):numV x m = .non\/∃i,numV x m = .int i:=by
 unfold numV;split
 ·exact .inr ⟨_,rfl⟩
 ·exact .inl rfl
theorem kO(x:Str):x.cps.toList.length=x.length:=Array.length_toList
theorem yI{x:Str}(h:among x figs=true):AllDigits x.cps.toList:=fun c b=>by
 have a:=of_decide_eq_true h c b;rw[j2C]at a;exact j1C.mp a
theorem intText{x:Str}(h:among x figs=true)(a:1<=x.length)(b:x.length<=200):intText? x=some ((digitsVal x.cps.toList:Nat):Int):=
 intText_digits (yI h) (fun e=>by have:=kO x;rw[e]at this;simp at this;lia) (by lia)
def Zg:Sp:=fun vs H Q _=>∃x z:Str,vs=[.str x,.str z]/\x.length<=200/\∀H',Same H H'->Q (.bl (among x z)) H'
def QF:Sp:=fun vs H Q _=>∃x:Str,vs=[.str x]/\x.length<=200/\∀H',Same H H'->Q (.bl (isW x)) H'
inductive sp_number_of(vs:List V)(H:Hp)(Q:VK)(xk:XK):Prop
 | mk (x:Str) (m:Int) (_:vs=[.str x,.int m]) (_:x.length<=200) (_:∀H',Same H H'->Q (numV x m) H'):sp_number_of vs H Q xk
end Ws
namespace Ws
open PySem PySem.NumText L2
theorem j2S{x:Str}{m:Int}(h:¬((1<=x.length/\(x.length:Int)<=m)/\among x figs=true/\¬(x.cps.toList.head?=some 48/\x.length≠1))):numV x m = .non:=by unfold numV;rw[vA h]
theorem j1K{x:Str}{m:Int}(h:(1<=x.length/\(x.length:Int)<=m)/\among x figs=true/\¬(x.cps.toList.head?=some 48/\x.length≠1)):numV x m = .int (digitsVal x.cps.toList:Nat):=by unfold numV;rw[va h]
theorem j2H{x:Str}(h:1<=x.length):∃c r,x.cps.toList=c::r/\atI x.cps.toList 0=some c:=by
 have a:=kO x;cases e:x.cps.toList with
 | nil=>rw[e]at a;simp at a;lia
 | cons c r=>exact⟨c,r,rfl,by unfold atI ixN;simp⟩
theorem j09{c:Nat}:(⟨#[c]⟩:Str) = "0"↔c=48:=by
 constructor
 ·intro h;have e:(⟨#[c]⟩:Str)=⟨#[48]⟩:=h.trans (by decide +kernel);injection e with e;simpa using e
 ·intro h;subst h;decide +kernel
theorem j0d{x:Str}(h:x.cps.toList.head?=some 48):x = "0"↔x.length=1:=by
 have b:=kO x;constructor
 ·intro e;subst e;decide +kernel
 ·intro e;have d:x.cps.toList=[48]:=by
   cases q:x.cps.toList with
   | nil=>rw[q]at h;cases h
   | cons c r=>
    rw[q]at h b;have:r.length=0:=by simp at b;lia
    rw[List.length_eq_zero_iff.mp this];have g:c=48:=vP h;rw[g]
  have f:x=⟨#[48]⟩:=by
   cases x with
   | mk a=>
    congr 1;exact Array.toList_inj.mp d
  rw[f];decide +kernel
end Ws
namespace Ws
open PySem L2
end Ws
namespace Rm
open PySem PySem.NumText PyProof.Rows L2
open PySem L2
theorem none_of{H H':Hp}(s:Same H H')(h:H' p=none):H p=none:=by
 cases e:H p with
 | none=>rfl
 | some u=>rw[s _ _ e]at h;cases h
inductive Fm where
 | hold (n:Int) | ring (x:Str) (n:Int) | rise (x:Str) (h n:Int) | row (ps:List Str) | side (ps:List Str) | again (k:Int) (x:Str)
noncomputable def FormAt(H:Hp)(a:Addr):Fm->Prop
 | .hold n=>H a=some (.tup [.str "hold",.int n])
 | .ring x n=>H a=some (.tup [.str "ring",.str x,.int n])
 | .rise x h n=>H a=some (.tup [.str "raise",.str x,.int h,.int n])
 | .row ps=>∃b,H a=some (.tup [.str "row",.ref b])/\H b=some (.tup (ps.map V.str))
 | .side ps=>∃b,H a=some (.tup [.str "side",.ref b])/\H b=some (.tup (ps.map V.str))
 | .again k x=>H a=some (.tup [.str "again",.int k,.str x])
def PartAt(H:Hp)(a:Addr)(p:Str×Fm):Prop:=∃b,H a=some (.tup [.str p.1,.ref b])/\FormAt H b p.2
def LimbAt(H:Hp)(a:Addr)(p:Str×Int):Prop:=H a=some (.tup [.str p.1,.int p.2])
def All2{α:Type}(R:Addr->α->Prop)(as:List Addr)(xs:List α):Prop:=as.length=xs.length/\∀(i:Nat) (a:Addr) (x:α),as[i]?=some a->xs[i]?=some x->R a x
theorem All2.nil{b:Type}{R:Addr->b->Prop}:All2 R [] []:=⟨rfl,fun i a x h=>by simp at h⟩
theorem All2.mono{b:Type}{R S:Addr->b->Prop}{as:List Addr}{xs:List b}(h:All2 R as xs)(k:∀a x,R a x->S a x):All2 S as xs:=⟨h.1,fun i a x c d=>k a x (h.2 i a x c d)⟩
theorem All2.snoc{f:Type}{R:Addr->f->Prop}{as:List Addr}{xs:List f}{a:Addr}{x:f}(h:All2 R as xs)(k:R a x):All2 R (as++[a]) (xs++[x]):=by
 have j:=h.1;refine⟨by simp[j],fun i b y c d=>?_⟩;by_cases g:i<as.length
 ·rw[vF g]at c;rw[vF (by lia)]at d;exact h.2 i b y c d
 ·rw[vG (by lia)]at c;rw[vG (by lia)]at d;have e:i-as.length=0:=by
   have:=(vx.mp c).1;simp at this;lia
  rw[e]at c;rw[show i-xs.length=0 by lia]at d;simp at c d;subst c d;exact k
theorem All2.get{b:Type}{R:Addr->b->Prop}{as:List Addr}{xs:List b}{i:Nat}{x:b}(h:All2 R as xs)(d:xs[i]?=some x):∃a,as[i]?=some a/\R a x:=by
 have e:=(vx.mp d).1;have f:=h.1;have c:as[i]?=some as[i]:=vz (by lia);exact⟨_,c,h.2 i _ _ c d⟩
section
variable{H H':Hp}{z:Ra}{m:Rr}
end
section
variable{m:Rr}{f:Fm}{ks:List Int}{g:Int}
theorem getD_snoc{a:Type}{l:List a}{x d:a}{j:Nat}(h:j<l.length):(l++[x]).getD j d=l.getD j d:=by
 rw[vy,vy,vF h]
theorem getD_last{a:Type}{l:List a}{x d:a}:(l++[x]).getD l.length d=x:=by
 rw[vy,vG (vB _),Nat.sub_self];rfl
end
theorem Q1{as:List Addr}{i:Int}{a:Addr}(b:0<=i)(h:as[i.toNat]?=some a):atI (as.map V.ref) i=some (.ref a):=by
 have e:atI (as.map V.ref) ((i.toNat:Nat):Int)=some (.ref a):=qZ (by rw[vv,h];rfl);rw[Int.toNat_of_nonneg b]at e;exact e
open PySem PySem.Spec PyProof.Rows L2
theorem KS:∀{ks:List Int} {lo hi:Int},ks.Pairwise (· < ·)->(∀k∈ks,lo<=k/\k<hi)->ks.length<=(hi-lo).toNat
 | [],_,_,_,_=>vC _
 | k::r,lo,hi,h,b=>by
  have c:=KS (ks:=r) (lo:=k+1) (hi:=hi) (List.pairwise_cons.mp h).2 fun x a=>⟨(List.pairwise_cons.mp h).1 x a,(b x (vp _ a)).2⟩
  have d:=b k vq;rw[vT];lia
theorem X3(n:Int):∀a:List Int,inV (.int n) (a.map V.int)=decide (n∈a)
 | []=>rfl
 | h::r=>by
  have b:=X3 n r;unfold inV at b|-;rw[uy,any_cons,b];have e:eqV (.int h) (.int n)=decide (h=n):=by
   show decide _=_;simp
  rw[e,Bool.eq_iff_iff];simp only[Bool.or_eq_true,decide_eq_true_eq,mem_cons];constructor
  ·rintro(x | x)
   ·exact .inl x.symm
   ·exact .inr x
  ·rintro(x | x)
   ·exact .inl x.symm
   ·exact .inr x
theorem inI(n:Int)(a:List Int):(if false=true then !inV (.int n) (a.map V.int)else inV (.int n) (a.map V.int))=decide (n∈a):=by rw[vA (by decide),X3]
theorem flats:∀a:List Int,(a.map V.int).all flatV=true
 | []=>rfl
 | h::r=>by rw[uy,all_cons,flats r];rfl
theorem take_snoc{a:Type}{l:List a}{i:Nat}{x:a}(h:l[i]?=some x):l.take (i+1)=l.take i++[x]:=by
 rw[List.take_add_one,h];rfl
theorem j0W{c d:List Int}(f:c.Perm d)(g:d.Nodup)(e:c.Pairwise (·<=·)):c.Pairwise (· < ·):=
 (List.Pairwise.and e (f.nodup_iff.mpr g)).imp fun {a b} h=>by have i:=h.1;have j:a≠b:=h.2;lia
def Shp(n:Nat)(d:PyData):Prop:=d.canLay0=true/\d.depth<=n
theorem w4:∀{ds:List PyData},(∀d∈ds,Shp n d)->PyData.canLayAll0 ds=true/\PyData.depthAll ds<=n
 | [],_=>⟨rfl,vC _⟩
 | d::r,h=>by
  have a:=h d vq;have b:=w4 (ds:=r) fun x c=>h x (vp _ c)
  constructor
  ·show(d.canLay0&&PyData.canLayAll0 r)=true;rw[a.1,b.1];rfl
  ·show max d.depth (PyData.depthAll r)<=n;exact Nat.max_le.mpr ⟨a.2,b.2⟩
theorem Shp.lst(h:∀d∈ds,Shp n d):Shp (n+1) (.list ds):=⟨(w4 h).1,Nat.succ_le_succ (w4 h).2⟩
theorem Shp.ok(h:Shp n d)(a:n<=64):SeqAt.shaped d=true:=by
 unfold SeqAt.shaped;rw[h.1,Bool.true_and];exact vK (vZ h.2 a)
theorem j3g{x:Str}(h:Ws.isW x=true):x.length<=8:=by
 unfold Ws.isW at h;rw[Bool.and_eq_true]at h;exact(of_decide_eq_true h.1).2
structure BookAt(H:Hp)(b pl pp:Addr)(las pas:List Addr)(ls:List (Str×Int))(ps:List (Str×Fm)):Prop where
 t:H b=some (.tup [.ref pl,.ref pp])
 l:H pl=some (.lst (las.map V.ref))
 la:All2 (LimbAt H) las ls
 p:H pp=some (.lst (pas.map V.ref))
 pa:All2 (PartAt H) pas ps
theorem FormAt.same{H H':Hp}(s:Same H H')(h:FormAt H a f):FormAt H' a f:=by
 cases f with
 | row ps=>obtain⟨b,c,d⟩:=h;exact⟨b,s _ _ c,s _ _ d⟩
 | side ps=>obtain⟨b,c,d⟩:=h;exact⟨b,s _ _ c,s _ _ d⟩
 | hold n=>exact s _ _ h
 | ring x n=>exact s _ _ h
 | rise x g n=>exact s _ _ h
 | again x n=>exact s _ _ h
theorem PartAt.same{H H':Hp}(s:Same H H')(h:PartAt H a p):PartAt H' a p:=by
 obtain⟨b,c,d⟩:=h;exact⟨b,s _ _ c,FormAt.same s d⟩
theorem BookAt.same{H H':Hp}(B:BookAt H b pl pp las pas ls ps)(s:Same H H'):BookAt H' b pl pp las pas ls ps:=
 ⟨s _ _ B.t,s _ _ B.l,B.la.mono fun a x h=>s _ _ h,s _ _ B.p,B.pa.mono fun a x h=>PartAt.same s h⟩
noncomputable def tI(n:Int):Str:=Str.ofString (toString n)
noncomputable def limbW(p:Str×Int):List Str:=[p.1,tI p.2]
theorem kQ{n:Int}(a:0<=n)(b:n<=10^18):n.natAbs.log2<1920:=by
 by_cases e:n.natAbs=0
 ·rw[e];decide
 ·exact(Nat.log2_lt e).mpr (Nat.lt_of_lt_of_le (show n.natAbs<2^60 by lia) (Nat.pow_le_pow_right (by decide) (by decide)))
theorem yD{n:Int}(a:0<=n)(b:n<=10^18):(tI n).length<=19:=toString_length_le a (by decide) (by lia)
theorem X7(z:Str)(ys:List Str):Txt.join z ys=Str.join z ys:=by
 show Builtin.Str.glued z ys=_;rw[StrLaws.glued_eq_join]
theorem Wx(z:Str):∀ys:List Str,(Str.join z ys).length<=(ys.map (·.length)).sum+ys.length*z.length
 | []=>vC _
 | [a]=>by
  show a.length<=a.length+0+1*z.length;lia
 | a::b::r=>by
  have c:=Wx z (b::r);show(a++z++Str.join z (b::r)).length<=_;rw[Str.length_append,Str.length_append,uy,sum_cons,vT,Nat.add_mul];lia
theorem j3a{ys:List Str}{B:Nat}(h:∀y∈ys,y.length<=B):(ys.map (·.length)).sum<=ys.length*B:=by
 induction ys with
 | nil=>exact vC _
 | cons y r ih=>
  have b:=h y vq;have c:=ih fun x a=>h x (vp _ a)
  rw[uy,sum_cons,vT,Nat.add_mul];lia
open PyProof.Rows.KTD (inKeys Dat)
noncomputable def MN:List (Str×Dat):=[("row",.flat (.int 8)),("side",.flat (.int 4))]
theorem at0:atI (x::xs) 0=some x:=qZ (j:=0) rfl
theorem iteB0{A B:Prop}(e:b=false)(h:B):if b=true then A else B:=by rw[e];exact h
theorem iteB1{A B:Prop}(e:b=true)(h:A):if b=true then A else B:=by rw[e];exact h
theorem Wl{x:V}{xs:List V}:cutV (x::xs) (some 1) none=xs:=by
 unfold cutV;rw[show HT.sIx (x::xs).length 0 (some 1)=min 1 (x::xs).length from HT.j34 _ 0 1,show HT.sIx (x::xs).length (x::xs).length none=(x::xs).length from rfl,vT,show min 1 (xs.length+1)=1 by lia];show List.take (xs.length+1-1) xs=xs;rw[Nat.add_sub_cancel,v7]
theorem All2.at_ref{e:Type}{R:Addr->e->Prop}{as:List Addr}{xs:List e}{i:Nat}{v:V}(h:All2 R as xs)(c:(as.map V.ref)[i]?=some v):∃a x,v = .ref a/\xs[i]?=some x/\R a x:=by
 rw[vv]at c;obtain⟨a,b,rfl⟩:=vf.mp c;have f:=(vx.mp b).1;have g:=h.1;have d:xs[i]?=some xs[i]:=vz (by lia);exact⟨a,_,rfl,d,h.2 i a _ b d⟩
theorem ZT:∀{n:Nat} {a:List Int},a.Nodup->(∀k∈a,0<=k/\k<(n:Int))->a.length<=n
 | 0,a,_,h=>by
  cases a with
  | nil=>exact vB _
  | cons k r=>have:=h k vq;lia
 | n+1,a,nd,h=>by
  by_cases e:(n:Int)∈a
  ·have i:=ZT (n:=n) (nd.erase (n:Int)) fun k b=>by
    have c:=h k (List.mem_of_mem_erase b);have d:k≠(n:Int):=fun z=>nd.not_mem_erase (z▸b)
    lia
   have l:=List.length_erase_of_mem e;lia
  ·have i:=ZT (n:=n) nd fun k b=>by
    have c:=h k b;have d:k≠(n:Int):=fun z=>e (z▸b)
    lia
   lia
noncomputable def Fm.ns:Fm->List Str
 | .row ps=>ps
 | .side ps=>ps
 | .again _ x=>[x]
 | _=>[]
noncomputable def numK(xs:List Str):List (Key×V):=xs.zipIdx.map fun p=>(Sum.inr p.1,.int (p.2:Nat))
theorem j0L(xs:List Str)(x:Str):numK (xs++[x])=numK xs++[(Sum.inr x,.int (xs.length:Nat))]:=by
 unfold numK;rw[List.zipIdx_append,vi];simp
theorem j1J(xs:List Str):(numK xs).length=xs.length:=by simp[numK]
theorem Yn(xs:List Str):(numK xs).map (·.1)=xs.map Sum.inr:=by
 unfold numK;rw[map_map];have e:∀(k:Nat) (xs:List Str),(xs.zipIdx k).map ((fun x=>x.1)∘fun p:Str×Nat=>((Sum.inr p.1:Key),V.int (p.2:Nat)))=xs.map Sum.inr:=fun k xs=>by
  induction xs generalizing k with
  | nil=>rfl
  | cons x r ih=>rw[List.zipIdx_cons,uy,uy,ih];rfl
 exact e 0 xs
theorem j2P{xs:List Str}{j:Nat}{x:Str}(h:xs[j]?=some x):(numK xs)[j]?=some (Sum.inr x,.int (j:Nat)):=by
 unfold numK;rw[vv,List.getElem?_zipIdx,h];simp
theorem j2f:∀{kvs:List (Key×V)} {j:Nat} {k:Key} {v:V},(kvs.map (·.1)).Nodup->kvs[j]?=some (k,v)->valV kvs k=some v
 | [],j,k,v,_,h=>by simp at h
 | p::r,0,k,v,_,h=>by
  simp at h;subst h;unfold valV;simp
 | p::r,j+1,k,v,nd,h=>by
  rw[uy,nodup_cons]at nd;have a:r[j]?=some (k,v):=by simpa using h
  have c:p.1≠k:=fun e=>nd.1 (e▸vO.mpr ⟨(k,v),vj a,rfl⟩)
  have b:=j2f nd.2 a;unfold valV at b|-;rw[List.find?_cons,vL c];exact b
theorem WH{xs:List Str}(a:xs.Nodup){j:Nat}{x:Str}(h:xs[j]?=some x):valV (numK xs) (Sum.inr x)=some (.int (j:Nat)):=
 j2f (by rw[Yn];exact pairwise_map.mpr (a.imp fun h e=>h (Sum.inr.inj e))) (j2P h)
theorem WY{kvs:List (Key×V)}{k:Key}{v:V}(h:k∉kvs.map (·.1)):putK kvs k v=kvs++[(k,v)]:=by
 unfold putK;rw[vA];intro e;obtain⟨p,b,a⟩:=any_eq_true.mp e;exact h (vO.mpr ⟨p,b,of_decide_eq_true a⟩)
noncomputable def ixOf:List Str->Str->Nat
 | [],_=>0
 | y::r,x=>if y=x then 0 else ixOf r x+1
theorem Y5:∀{xs:List Str} {j:Nat} {x:Str},xs.Nodup->xs[j]?=some x->ixOf xs x=j
 | [],j,x,_,h=>by simp at h
 | y::r,0,x,_,h=>by
  simp at h;subst h;exact va rfl
 | y::r,j+1,x,nd,h=>by
  rw[nodup_cons]at nd;have a:r[j]?=some x:=by simpa using h
  have b:y≠x:=fun e=>nd.1 (e▸vj a)
  show(if y=x then 0 else ixOf r x+1)=j+1;rw[vA b,Y5 nd.2 a]
noncomputable def nmsOf{α:Type}(ps:List (Str×α)):List Str:=ps.map (·.1)
noncomputable def inP(ps:List (Str×Fm))(f:Fm):List Nat:=f.ns.map (ixOf (nmsOf ps))
structure WfB(ls:List (Str×Int))(ps:List (Str×Fm)):Prop where
 ln:(nmsOf ls).Nodup
 l8:ls.length<=8
 pn:(nmsOf ps).Nodup
 p61:ps.length<=61
 f:∀(i:Nat) (p:Str×Fm),ps[i]?=some p->(∀x∈p.2.ns,∃j,j<i/\(nmsOf ps)[j]?=some x)/\p.2.ns.length<=8
 r:∀(i:Nat) (y x:Str) (h n:Int),ps[i]?=some (y,.rise x h n)->∃j:Nat,(nmsOf ls)[j]?=some x
theorem WfB.inP_lt(W:WfB ls ps)(h:ps[i]?=some p)(a:j∈inP ps p.2):j<i:=by
 obtain⟨x,c,rfl⟩:=vO.mp a;obtain⟨k,b,e⟩:=(W.f i p h).1 x c;rw[Y5 W.pn e];exact b
inductive sp_numbers_of(vs:List V)(H:Hp)(Q:VK)(xk:XK):Prop
 | mk (l:Addr) (as:List Addr) (xs:List Str) (_:vs=[.ref l]) (_:H l=some (.lst (as.map V.ref))) (_:as.length=xs.length) (_:(∀(i:Nat) (a:Addr) (x:Str),as[i]?=some a->xs[i]?=some x->∃r,H a=some (.tup [.str x,r]))) (_:xs.Nodup) (_:xs.length<=100) (_:∀(d:Addr) (H':Hp),Same H H'->H d=none->H' d=some (.dK (numK xs))->Q (.ref d) H'):sp_numbers_of vs H Q xk
inductive sp_names_in(vs:List V)(H:Hp)(Q:VK)(xk:XK):Prop
 | mk (a:Addr) (f:Fm) (_:vs=[.ref a]) (_:FormAt H a f) (_:∀(b:Addr) (H':Hp),Same H H'->H' b=some (.tup (f.ns.map V.str))->Q (.ref b) H'):sp_names_in vs H Q xk
def ListsAt(H:Hp)(as:List Addr)(M:List (List Int)):Prop:=All2 (fun a ks=>H a=some (.lst (ks.map V.int))) as M
theorem All2.monoM{c:Type}{R S:Addr->c->Prop}{as:List Addr}{xs:List c}(h:All2 R as xs)(k:∀a∈as,∀x,R a x->S a x):All2 S as xs:=⟨h.1,fun i a x b d=>k a (vj b) x (h.2 i a x b d)⟩
inductive sp_inner(vs:List V)(H:Hp)(Q:VK)(xk:XK):Prop
 | mk (b pl pp:Addr) (las pas:List Addr) (ls:List (Str×Int)) (ps:List (Str×Fm)) (_:vs=[.ref b]) (_:BookAt H b pl pp las pas ls ps) (_:WfB ls ps) (_:∀(l:Addr) (as:List Addr) (H':Hp),Same H H'->H l=none->H' l=some (.lst (as.map V.ref))->(∀a∈as,H a=none)->ListsAt H' as (ps.map fun p=>(inP ps p.2).map fun j:Nat=>(j:Int))->Q (.ref l) H'):sp_inner vs H Q xk
def PrsAt(H:Hp)(bs:List Addr)(e:List (Int×Int)):Prop:=All2 (fun b q=>H b=some (.tup [.int q.1,.int q.2])) bs e
def EndsAt(H:Hp)(as:List Addr)(E:List (List (Int×Int))):Prop:=All2 (fun a e=>∃bs,H a=some (.lst (bs.map V.ref))/\PrsAt H bs e) as E
def LastIn(E:List (List (Int×Int)))(is:List Nat)(k v:Int):Prop:=∃pre j post,is=pre++j::post/\(k,v)∈E.getD j []/\∀j'∈post,∀v',(k,v')∉E.getD j' []
def EndIs(ls:List (Str×Int))(ps:List (Str×Fm))(E:List (List (Int×Int)))(f:Fm)(k v:Int):Prop:=LastIn E (inP ps f) k v\/∃x n,f = .rise x v n/\k=(ixOf (nmsOf ls) x:Nat)
def EndOk(ls:List (Str×Int))(ps:List (Str×Fm))(E:List (List (Int×Int))):Prop:=∀(i:Nat) (p:Str×Fm) (e:List (Int×Int)),ps[i]?=some p->E[i]?=some e->(e.map (·.1)).Pairwise (· < ·)/\∀k v,(k,v)∈e↔EndIs ls ps E p.2 k v
inductive sp_ends(vs:List V)(H:Hp)(Q:VK)(xk:XK):Prop
 | mk (b pl pp:Addr) (las pas:List Addr) (ls:List (Str×Int)) (ps:List (Str×Fm)) (_:vs=[.ref b]) (_:BookAt H b pl pp las pas ls ps) (_:WfB ls ps) (_:∀(l:Addr) (as:List Addr) (E:List (List (Int×Int))) (H':Hp),Same H H'->H l=none->H' l=some (.lst (as.map V.ref))->(∀a∈as,H a=none)->E.length=ps.length->EndsAt H' as E->EndOk ls ps E->Q (.ref l) H'):sp_ends vs H Q xk
def MovOk(ls:List (Str×Int))(ps:List (Str×Fm))(M:List (List Int)):Prop:=∀(i:Nat) (p:Str×Fm) (ks:List Int),ps[i]?=some p->M[i]?=some ks->ks.Pairwise (· < ·)/\∀k,k∈ks↔(∃j∈inP ps p.2,k∈M.getD j [])\/∃x h n,p.2 = .rise x h n/\k=(ixOf (nmsOf ls) x:Nat)
inductive sp_moved(vs:List V)(H:Hp)(Q:VK)(xk:XK):Prop
 | mk (b pl pp:Addr) (las pas:List Addr) (ls:List (Str×Int)) (ps:List (Str×Fm)) (_:vs=[.ref b]) (_:BookAt H b pl pp las pas ls ps) (_:WfB ls ps) (_:∀(l:Addr) (as:List Addr) (M:List (List Int)) (H':Hp),Same H H'->H l=none->H' l=some (.lst (as.map V.ref))->(∀a∈as,H a=none)->M.length=ps.length->ListsAt H' as M->MovOk ls ps M->Q (.ref l) H'):sp_moved vs H Q xk
theorem XH:∀{a b:List Int},a.Pairwise (· < ·)->b.Pairwise (· < ·)->(∀k,k∈a↔k∈b)->a=b
 | [],[],_,_,_=>rfl
 | [],y::s,_,_,h=>ue ((h y).mpr vq) (by simp)
 | x::r,[],_,_,h=>ue ((h x).mp vq) (by simp)
 | x::r,y::s,ha,hb,h=>by
  rw[List.pairwise_cons]at ha hb;have e:x=y:=by
   rcases mem_cons.mp ((h x).mp vq)with q | q
   ·exact q
   ·rcases mem_cons.mp ((h y).mpr vq)with d | d
    ·exact d.symm
    ·have f:=hb.1 x q;have g:=ha.1 y d;lia
  subst e;congr 1;refine XH ha.2 hb.2 fun k=>⟨fun c=>?_,fun c=>?_⟩
  ·rcases mem_cons.mp ((h k).mp (vp _ c))with q | q
   ·have:=ha.1 k c;lia
   ·exact q
  ·rcases mem_cons.mp ((h k).mpr (vp _ c))with q | q
   ·have:=hb.1 k c;lia
   ·exact q
theorem getD_map{E:List (List (Int×Int))}(j:Nat):(E.map fun e=>e.map (·.1)).getD j []=(E.getD j []).map (·.1):=by
 rw[vy,vy,vv];cases E[j]?<;>rfl
theorem Y6{k:Int}{e:List (Int×Int)}:k∈e.map (·.1)↔∃v,(k,v)∈e:=by
 constructor
 ·intro h;obtain⟨p,a,rfl⟩:=vO.mp h;exact⟨p.2,a⟩
 ·rintro⟨v,h⟩;exact vO.mpr ⟨_,h,rfl⟩
theorem wC:∀{is:List Nat},(∃v,LastIn E is k v)↔∃j∈is,∃v,(k,v)∈E.getD j []
 | []=>⟨fun⟨v,b,j,a,e,_⟩=>by cases b<;>simp at e,fun⟨j,h,_⟩=>by simp at h⟩
 | i::r=>by
  have p:=wC (E:=E) (k:=k) (is:=r);constructor
  ·rintro⟨v,b,j,a,e,c,m⟩;exact⟨j,by rw[e];simp,v,c⟩
  ·rintro⟨j,d,v,n⟩;by_cases q:∃j∈r,∃v,(k,v)∈E.getD j []
   ·obtain⟨l,b,g,a,e,c,m⟩:=p.mpr q;exact⟨l,i::b,g,a,by rw[e];rfl,c,m⟩
   ·rcases mem_cons.mp d with rfl | d
    ·exact⟨v,[],j,r,rfl,n,fun g o l f=>q ⟨g,o,l,f⟩⟩
    ·exact ue ⟨j,d,v,n⟩ q
theorem j3K{ls:List (Str×Int)}{ps:List (Str×Fm)}{E:List (List (Int×Int))}(s:E.length=ps.length)(h:EndOk ls ps E):MovOk ls ps (E.map fun e=>e.map (·.1)):=fun i p t q d=>by
 rw[vv]at d;obtain⟨e,o,rfl⟩:=vf.mp d;obtain⟨a,b⟩:=h i p e q o;refine⟨a,fun k=>?_⟩;rw[Y6];constructor
 ·rintro⟨v,r⟩;rcases(b k v).mp r with z | ⟨x,n,f,g⟩
  ·obtain⟨j,l,m,c⟩:=wC.mp ⟨v,z⟩;exact .inl ⟨j,l,by rw[getD_map];exact Y6.mpr ⟨m,c⟩⟩
  ·exact .inr ⟨x,v,n,f,g⟩
 ·rintro(⟨j,l,d⟩ | ⟨x,h,n,f,g⟩)
  ·rw[getD_map]at d;obtain⟨m,c⟩:=Y6.mp d;obtain⟨v,z⟩:=wC.mpr ⟨j,l,m,c⟩;exact⟨v,(b k v).mpr (.inl z)⟩
  ·exact⟨h,(b k h).mpr (.inr ⟨x,n,f,g⟩)⟩
theorem wz(h:x∈xs):ixOf xs x<xs.length:=by
 induction xs with
 | nil=>exact nomatch h
 | cons y r ih=>
  show(if y=x then 0 else ixOf r x+1)<r.length+1;split
  ·lia
  ·rename_i hne;rcases mem_cons.mp h with e | e
   ·exact ue e.symm hne
   ·have:=ih e;lia
theorem Wv(W:WfB ls ps)(s:E.length<=ps.length)(h:EndOk ls ps E):∀(i:Nat),∀q∈E.getD i [],0<=q.1/\q.1<(ls.length:Int):=by
 intro i
 induction i using Nat.strongRecOn with
 | ind i ih=>
  intro q a;rw[vy]at a;cases e:E[i]? with
  | none=>rw[e]at a;exact nomatch a
  | some ev=>
   rw[e]at a;have r:=(vx.mp e).1;have f:ps[i]?=some ps[i]:=vz (by lia);obtain⟨_,b⟩:=h i _ ev f e;rcases(b q.1 q.2).mp a with⟨m,j,k,c,d,_⟩ | ⟨x,n,c,d⟩
   ·exact ih j (W.inP_lt f (by rw[c];simp)) _ d
   ·have g:ps[i]?=some (ps[i].1,.rise x q.2 n):=by rw[f,<-c]
    obtain⟨j,l⟩:=W.r i _ _ _ _ g;have o:=wz (vj l);have p:(nmsOf ls).length=ls.length:=vt _;rw[d];lia
theorem Ww{ls:List (Str×Int)}{ps:List (Str×Fm)}(W:WfB ls ps){E:List (List (Int×Int))}(f:E.length<=ps.length)(h:EndOk ls ps E){i:Nat}{e:List (Int×Int)}(c:E[i]?=some e):e.length<=8:=by
 have hi:=(vx.mp c).1;have a:=(h i _ e (vz (by lia)) c).1;have b:=Wv W f h i;rw[vy,c]at b;have z:=KS (ks:=e.map (·.1)) (lo:=0) (hi:=ls.length) a fun k d=>by
  obtain⟨q,g,rfl⟩:=vO.mp d;exact b q g
 rw[vt]at z;have:=W.l8;lia
noncomputable def putI(kvs:List (Int×Int))(k v:Int):List (Int×Int):=if k∈kvs.map (·.1)then kvs.map (fun q=>if q.1=k then(q.1,v)else q)else kvs++[(k,v)]
noncomputable def mergeI(kvs more:List (Int×Int)):List (Int×Int):=more.foldl (fun acc q=>putI acc q.1 q.2) kvs
theorem j1Y(kvs:List (Int×Int))(k v:Int):putK (kvs.map iiK) (Sum.inl k) (.int v)=(putI kvs k v).map iiK:=by
 have e:(((kvs.map iiK).any fun kv=>decide (kv.1=(Sum.inl k:Key)))=true)↔k∈kvs.map (·.1):=by
  rw[List.any_map,any_eq_true];constructor
  ·rintro⟨q,a,h⟩;have b:(Sum.inl q.1:Key)=Sum.inl k:=of_decide_eq_true h;exact vO.mpr ⟨q,a,Sum.inl.inj b⟩
  ·intro h;obtain⟨q,a,rfl⟩:=vO.mp h;exact⟨q,a,vK rfl⟩
 unfold putK putI;by_cases c:k∈kvs.map (·.1)
 ·rw[va (e.mpr c),va c,map_map,map_map];refine map_congr_left fun q _=>?_
  show(if(Sum.inl q.1:Key)=Sum.inl k then _ else _)=iiK (if q.1=k then(q.1,v)else q);by_cases z:q.1=k
  ·rw[va z,va (by rw[z])];rfl
  ·rw[vA z,vA (fun w=>z (Sum.inl.inj w))]
 ·rw[vA (fun w=>c (e.mp w)),vA c,vi];rfl
theorem yt:∀(more kvs:List (Int×Int)),mergeK (kvs.map iiK) (more.map iiK)=(mergeI kvs more).map iiK
 | [],kvs=>rfl
 | q::r,kvs=>by
  show mergeK (putK (kvs.map iiK) (Sum.inl q.1) (.int q.2)) (r.map iiK)=(mergeI (putI kvs q.1 q.2) r).map iiK;rw[j1Y,yt r]
theorem j0R(kvs:List (Int×Int))(k v:Int)(d:(kvs.map (·.1)).Nodup):((putI kvs k v).map (·.1)).Nodup:=by
 unfold putI;split
 ·rw[map_map];have e:kvs.map ((fun x=>x.1)∘fun q=>if q.1=k then(q.1,v)else q)=kvs.map (·.1):=map_congr_left fun q _=>by
   show(if q.1=k then(q.1,v)else q).1=q.1;split<;>rfl
  rw[e];exact d
 ·rename_i c;rw[vi,nodup_append];exact⟨d,pairwise_singleton _ _,fun a f b g e=>c (by rw[show k=b from(vo.mp g).symm,<-e];exact f)⟩
theorem j1D:(a,b)∈putI kvs k v↔(a=k/\b=v)\/(a≠k/\(a,b)∈kvs):=by
 unfold putI;split
 ·rename_i c;rw[vO];constructor
  ·rintro⟨q,d,e⟩;by_cases z:q.1=k
   ·rw[va z]at e;cases e;exact .inl ⟨z,rfl⟩
   ·rw[vA z]at e;subst e;exact .inr ⟨z,d⟩
  ·rintro(⟨rfl,rfl⟩ | ⟨f,g⟩)
   ·obtain⟨q,d,e⟩:=vO.mp c;exact⟨q,d,by rw[va e,e]⟩
   ·exact⟨(a,b),g,by rw[vA f]⟩
 ·rename_i c;rw[vg];constructor
  ·rintro(h | h)
   ·exact .inr ⟨fun e=>c (e▸vO.mpr ⟨(a,b),h,rfl⟩),h⟩
   ·cases vo.mp h;exact .inl ⟨rfl,rfl⟩
  ·rintro(⟨rfl,rfl⟩ | ⟨_,h⟩)
   ·exact .inr (vo.mpr rfl)
   ·exact .inl h
theorem KU:∀{more kvs:List (Int×Int)},(kvs.map (·.1)).Nodup->(more.map (·.1)).Nodup->((mergeI kvs more).map (·.1)).Nodup/\∀k v,(k,v)∈mergeI kvs more↔(k,v)∈more\/((∀c,(k,c)∉more)/\(k,v)∈kvs)
 | [],kvs,nd,_=>⟨nd,fun k v=>⟨fun h=>.inr ⟨(fun _ h=>nomatch h),h⟩,fun h=>h.elim (fun h=>nomatch h) (·.2)⟩⟩
 | q::r,kvs,nd,nm=>by
  rw[uy,nodup_cons]at nm;obtain⟨a,b⟩:=KU (more:=r) (kvs:=putI kvs q.1 q.2) (j0R _ _ _ nd) nm.2;refine⟨a,fun k v=>(b k v).trans ?_⟩;rw[j1D];have i:∀c,(q.1,c)∉r:=fun c h=>nm.1 (vO.mpr ⟨_,h,rfl⟩)
  constructor
  ·rintro(h | ⟨f,⟨rfl,rfl⟩ | ⟨g,j⟩⟩)
   ·exact .inl (vp _ h)
   ·exact .inl vq
   ·refine .inr ⟨fun c d=>?_,j⟩;rcases mem_cons.mp d with e | e
    ·exact g (by rw[<-e])
    ·exact f c e
  ·rintro(h | ⟨f,g⟩)
   ·rcases mem_cons.mp h with e | e
    ·refine .inr ⟨fun c d=>?_,.inl ⟨by rw[<-e],by rw[<-e]⟩⟩;rw[<-e]at i;exact i c d
    ·exact .inl e
   ·refine .inr ⟨fun c d=>f c (vp _ d),.inr ⟨fun e=>?_,g⟩⟩;exact f q.2 (by rw[e];exact vq)
theorem Xf(b:(ms.map (·.1)).Nodup):mergeI [] ms=ms:=by
 have e:∀(r a:List (Int×Int)),((a++r).map (·.1)).Nodup->mergeI a r=a++r:=by
  intro r
  induction r with
  | nil=>intro a _;exact(append_nil _).symm
  | cons q r ih=>
   intro a b;have c:q.1∉a.map (·.1):=fun h=>by
    rw[vi,nodup_append]at b;exact b.2.2 q.1 h q.1 (by simp) rfl
   show mergeI (putI a q.1 q.2) r=_;unfold putI;rw[vA c,ih (a++[(q.1,q.2)]) (by rw[List.append_assoc];exact b),List.append_assoc];rfl
 exact e ms [] b
theorem j0C:LastIn E (is++[j]) k v↔(k,v)∈E.getD j []\/((∀m,(k,m)∉E.getD j [])/\LastIn E is k v):=by
 constructor
 ·rintro⟨c,i,a,e,g,l⟩;rcases List.eq_nil_or_concat a with rfl | ⟨b,x,rfl⟩
  ·have f:=List.append_inj' (show is++[j]=c++[i]from e) rfl;have n:j=i:=by simpa using f.2
   rw[n];exact .inl g
  ·have p:is++[j]=(c++i::b)++[x]:=by rw[e];simp
   have f:=List.append_inj' p rfl;have n:j=x:=by simpa using f.2
   subst n;exact .inr ⟨l j (by simp),c,i,b,f.1,g,fun o d=>l o (by simp[d])⟩
 ·rintro(h | ⟨g,c,i,a,e,l,q⟩)
  ·exact⟨is,j,[],rfl,h,(fun _ h=>nomatch h)⟩
  ·refine⟨c,i,a++[j],by rw[e];simp,l,fun o d m=>?_⟩;rcases vg.mp d with z | z
   ·exact q o z m
   ·rw[vo.mp z];exact g m
theorem WA(h:∀j∈is,E.getD j []=E'.getD j []):LastIn E is k v->LastIn E' is k v:=by
 rintro⟨c,j,b,e,f,g⟩;refine⟨c,j,b,e,by rw[<-h j (by rw[e];simp)];exact f,fun d a=>?_⟩;rw[<-h d (by rw[e];simp[a])];exact g d a
theorem EndOk.snoc{ls:List (Str×Int)}{ps:List (Str×Fm)}(W:WfB ls ps){E:List (List (Int×Int))}{p:Str×Fm}{e:List (Int×Int)}(h:EndOk ls ps E)(u:ps[E.length]?=some p)(o:(e.map (·.1)).Pairwise (· < ·))
  (r:∀k v,(k,v)∈e↔EndIs ls ps E p.2 k v):EndOk ls ps (E++[e]):=fun i q f g c=>by
 have t:i<=E.length:=by
  have:=(vx.mp c).1;rw[vm]at this;exact Nat.le_of_lt_succ this
 have ext:∀j∈inP ps q.2,E.getD j []=(E++[e]).getD j []:=fun j l=>(getD_snoc (by have:=W.inP_lt g l;lia)).symm
 have d:∀k v,EndIs ls ps E q.2 k v↔EndIs ls ps (E++[e]) q.2 k v:=fun k v=>by
  unfold EndIs;exact⟨fun h=>h.imp (WA ext) id,fun h=>h.imp (WA fun j l=>(ext j l).symm) id⟩
 by_cases s:i<E.length
 ·rw[vF s]at c;obtain⟨a,b⟩:=h i q f g c;exact⟨a,fun k v=>(b k v).trans (d k v)⟩
 ·have n:i=E.length:=by lia
  subst n;rw[vG (vB _),Nat.sub_self]at c;have m:e=f:=by simpa using c
  subst m;rw[u]at g;cases g;exact⟨o,fun k v=>(r k v).trans (d k v)⟩
theorem j1w{H:Hp}(h:FormAt H a f)(d:∀x v n,f≠.rise x v n):∃k xs,H a=some (.tup (.str k::xs))/\decide (k=("raise" : Str))=false:=by
 cases f with
 | hold n=>exact⟨_,_,h,by decide +kernel⟩
 | ring x n=>exact⟨_,_,h,by decide +kernel⟩
 | rise x v n=>exact ue rfl (d x v n)
 | row ps=>obtain⟨b,c,_⟩:=h;exact⟨_,_,c,by decide +kernel⟩
 | side ps=>obtain⟨b,c,_⟩:=h;exact⟨_,_,c,by decide +kernel⟩
 | again k x=>exact⟨_,_,h,by decide +kernel⟩
noncomputable def kv0(ls:List (Str×Int)):Fm->List (Int×Int)
 | .rise x h _=>[((ixOf (nmsOf ls) x:Nat),h)]
 | _=>[]
theorem j2L(a:∀x v n,f≠.rise x v n):kv0 ls f=[]:=by
 cases f with
 | rise x v n=>exact ue rfl (a x v n)
 | _=>rfl
theorem yQ:(k,v)∈kv0 ls f↔∃x n,f = .rise x v n/\k=(ixOf (nmsOf ls) x:Nat):=by
 cases f with
 | rise x h n=>
  constructor
  ·intro a;cases vo.mp a;exact⟨x,n,rfl,rfl⟩
  ·rintro⟨c,b,e,rfl⟩;injection e with e1 e2 e3;subst e1 e2;exact vo.mpr rfl
 | _=>exact⟨(fun h=>nomatch h),fun⟨_,_,e,_⟩=>nomatch e⟩
theorem j3G(f:Fm):inP ps f=[]\/kv0 ls f=[]:=by
 cases f with
 | rise x h n=>exact .inl rfl
 | _=>exact .inr rfl
theorem j3H(f:Fm):((kv0 ls f).map (·.1)).Nodup:=by
 cases f with
 | rise x h n=>exact pairwise_singleton _ _
 | _=>exact .nil
inductive sp_check_side(vs:List V)(H:Hp)(Q:VK)(xk:XK):Prop
 | mk (r:Int) (l ll:Addr) (as las:List Addr) (M:List (List Int)) (_:vs=[.int r,.ref l,.ref ll]) (_:H l=some (.lst (as.map V.ref))) (_:ListsAt H as M) (_:(∀ks∈M,ks≠[])) (_:M.length<=8) (_:H ll=some (.lst (las.map V.ref))) (_:(∀k:Int,(M.filter fun ks=>decide (k∈ks)).length<=1)) (_:∀H',Same H H'->Q .non H'):sp_check_side vs H Q xk
noncomputable def LenIs:Fm->List Int->Int->Prop
 | .hold n,_,g=>g=n
 | .ring _ n,_,g=>g=n
 | .rise _ _ n,_,g=>g=n
 | .row _,gs,g=>g=gs.sum
 | .side _,gs,g=>g∈gs/\∀x∈gs,x<=g
 | .again k _,gs,g=>∃y,gs.head?=some y/\g=k*y
noncomputable def LenPre:Fm->List Int->Prop
 | .side _,gs=>gs≠[]
 | .again k _,gs=>∃y r,gs=y::r/\0<=k/\k<=10^18/\0<=y/\y<=10^60
 | _,_=>True
inductive sp_length_of(vs:List V)(H:Hp)(Q:VK)(xk:XK):Prop
 | mk (a l:Addr) (f:Fm) (gs:List Int) (_:vs=[.ref a,.ref l]) (_:FormAt H a f) (_:H l=some (.lst (gs.map V.int))) (_:LenPre f gs) (_:∀g,LenIs f gs g->Q (.int g) H):sp_length_of vs H Q xk
structure Snd(ls:List (Str×Int))(ps:List (Str×Fm))(gs:List Int)(hs:List (List Int)):Prop where
 w:WfB ls ps
 gl:gs.length=ps.length
 gb:∀i,i<ps.length->0<=gs.getD i 0/\gs.getD i 0<=10^60
 mv:∀M:List (List Int),M.length=ps.length->MovOk ls ps M->∀i,i<ps.length->M.getD i []=hs.getD i []
 ln:∀(i:Nat) (p:Str×Fm),ps[i]?=some p->LenPre p.2 ((inP ps p.2).map fun j=>gs.getD j 0)/\∀g,LenIs p.2 ((inP ps p.2).map fun j=>gs.getD j 0) g->g=gs.getD i 0
 sd:∀(i:Nat) (p:Str×Fm) (qs:List Str),ps[i]?=some p->p.2 = .side qs->(∀j∈inP ps p.2,hs.getD j []≠[])/\∀k:Int,(((inP ps p.2).map fun j=>hs.getD j []).filter fun ks=>decide (k∈ks)).length<=1
inductive sp_lengths(vs:List V)(H:Hp)(Q:VK)(xk:XK):Prop
 | mk (b pl pp:Addr) (las pas:List Addr) (ls:List (Str×Int)) (ps:List (Str×Fm)) (gs:List Int) (hs:List (List Int)) (_:vs=[.ref b]) (_:BookAt H b pl pp las pas ls ps) (_:Snd ls ps gs hs) (_:∀(l:Addr) (H':Hp),Same H H'->H l=none->H' l=some (.lst (gs.map V.int))->Q (.ref l) H'):sp_lengths vs H Q xk
theorem any_empty{M:List (List Int)}(h:∀ks∈M,ks≠[]):(M.any fun ks=>decide (ks=[]))=false:=by
 rw[List.any_eq_false];intro ks a;simpa using h ks a
theorem X2{a:List Int}{i:Nat}(h:i<a.length):a.take (i+1)=a.take i++[a.getD i 0]:=by
 refine take_snoc ?_;rw[vy,vz h];rfl
theorem j1s{a:List Int}{i j:Nat}(hi:i<=a.length)(b:j<i):atI ((a.take i).map V.int) (j:Int)=some (.int (a.getD j 0)):=by
 refine qZ ?_;rw[vv,List.getElem?_take,va b,vy,vz (by lia)];rfl
noncomputable def hd0(ls:List (Str×Int))(f:Fm):List Int:=(kv0 ls f).map (·.1)
theorem j2N{ls:List (Str×Int)}{f:Fm}{k:Int}:k∈hd0 ls f↔∃x h n,f = .rise x h n/\k=(ixOf (nmsOf ls) x:Nat):=by
 unfold hd0;rw[Y6];constructor
 ·rintro⟨v,c⟩;obtain⟨x,n,a,b⟩:=yQ.mp c;exact⟨x,v,n,a,b⟩
 ·rintro⟨x,v,n,a,b⟩;exact⟨v,yQ.mpr ⟨x,n,a,b⟩⟩
theorem FormAt.keep{H H':Hp}(k:∀c xs,H c=some (.tup xs)->H' c=some (.tup xs))(h:FormAt H a f):FormAt H' a f:=by
 cases f with
 | row ps=>obtain⟨c,b,d⟩:=h;exact⟨c,k _ _ b,k _ _ d⟩
 | side ps=>obtain⟨c,b,d⟩:=h;exact⟨c,k _ _ b,k _ _ d⟩
 | hold n=>exact k _ _ h
 | ring x n=>exact k _ _ h
 | rise x g n=>exact k _ _ h
 | again x n=>exact k _ _ h
theorem PartAt.keep{H H':Hp}(k:∀c xs,H c=some (.tup xs)->H' c=some (.tup xs))(h:PartAt H a p):PartAt H' a p:=by
 obtain⟨b,d,e⟩:=h;exact⟨b,k _ _ d,FormAt.keep k e⟩
end Rm
namespace Nm
open PySem PySem.Spec PyProof.Rows L2
theorem j1t:∀m:Nat,1<=m->∃c r,Nat.toDigits 10 m=c::r/\c≠'0':=by
 intro m
 induction m using Nat.strongRecOn with
 | ind m ih=>
  intro h;rw[Nat.toDigits_eq_if (by decide)];split
  ·rename_i lt;refine⟨_,[],rfl,?_⟩;have:∀k:Nat,k<10->1<=k->Nat.digitChar k≠'0':=by decide
   exact this m lt h
  ·rename_i ge;obtain⟨c,r,e,a⟩:=ih (m/10) (by lia) (by lia);exact⟨c,r++[Nat.digitChar (m%10)],by rw[e];rfl,a⟩
theorem XM:∀m:Nat,∀c∈Nat.toDigits 10 m,48<=c.toNat/\c.toNat<=57:=by
 intro m
 induction m using Nat.strongRecOn with
 | ind m ih=>
  intro c a;have b:∀k:Nat,k<10->48<=(Nat.digitChar k).toNat/\(Nat.digitChar k).toNat<=57:=by decide
  rw[Nat.toDigits_eq_if (by decide)]at a;split at a
  ·rename_i lt;rw[vo.mp a];exact b m lt
  ·rename_i ge;rcases vg.mp a with z | z
   ·exact ih (m/10) (by lia) c z
   ·rw[vo.mp z];exact b _ (by lia)
theorem j1L{n:Int}(b:0<=n)(i:n<=10^18):Ws.numV (Rm.tI n) 19 = .int n:=by
 obtain⟨m,rfl⟩:=Int.eq_ofNat_of_zero_le b;have a:(Rm.tI (m:Int)).cps.toList=(Nat.toDigits 10 m).map Char.toNat:=PySem.W.KIN.signs_num m;have p:=Rm.yD b i;have l:(Rm.tI (m:Int)).length=(Nat.toDigits 10 m).length:=by
  have:=congrArg List.length a;rw[vt]at this;exact this
 have q:1<=(Nat.toDigits 10 m).length:=by
  rw[Nat.toDigits_eq_if (by decide)];split
  ·exact vB _
  ·rw[vm];show 1<=_+1;lia
 unfold Ws.numV;rw[va,a,PySem.W.KIN.val_back];refine⟨⟨by lia,by lia⟩,?_,?_⟩
 ·unfold Ws.among;refine vK fun c g=>?_
  rw[a]at g;obtain⟨d,j,rfl⟩:=vO.mp g;have:=XM m d j;have f:Ws.figs.cps.toList=List.range' 48 10:=by decide +kernel
  rw[f,List.mem_range'_1];lia
 ·rintro⟨h,k⟩;by_cases z:m=0
  ·subst z;exact k (by rw[l];rfl)
  ·obtain⟨c,r,e,o⟩:=j1t m (by lia);rw[a,e]at h;have:c.toNat=48:=vP h;exact o (Char.ext (UInt32.toNat_inj.mp this))
end Nm
namespace Rm
open PySem PySem.Spec PyProof.Rows L2
open PyProof.Rows.KTD (inKeys Dat datumAt)
noncomputable def FT:List (Str×Dat):=[("raise",.tup [.str "limb",.str "height",.str "beats"]),("hold",.tup [.str "beats"]),("ring",.tup [.str "word",.str "beats"]),("again",.tup [.str "times",.str "part"])]
theorem wt{k x:Str}{d:Dat}{r:List (Str×Dat)}(h:decide (k=x)=true):datumAt k ((x,d)::r)=some d:=by rw[datumAt,va h]
theorem Yi{k x:Str}{d:Dat}{r:List (Str×Dat)}(h:decide (k=x)=false):datumAt k ((x,d)::r)=datumAt k r:=by rw[datumAt,vA (by rw[h];decide)]
theorem yN{c:Type}(a:c)(l:List c):ev (a::l)=a::ev (l.drop 1):=by
 cases l with
 | nil=>rfl
 | cons b r=>rfl
noncomputable def tabB(xs:List Str):List (Key×V):=xs.map fun x=>(Sum.inr x,V.bl true)
theorem j0Y(xs:List Str):(tabB xs).map (·.1)=xs.map Sum.inr:=by simp[tabB]
theorem K2:∀{xs:List Str} {x:Str},x∈xs->(valV (tabB xs) (Sum.inr x)).isSome=true
 | [],_,h=>nomatch h
 | y::r,x,h=>by
  by_cases e:y=x
  ·subst e;rw[show tabB (y::r)=(Sum.inr y,V.bl true)::tabB r from rfl,qc rfl];rfl
  ·rw[show tabB (y::r)=(Sum.inr y,V.bl true)::tabB r from rfl,JM (fun z=>e (Sum.inr.inj z))];rcases mem_cons.mp h with z | z
   ·exact ue z.symm e
   ·exact K2 z
theorem K1:∀{xs:List Str} {x:Str},x∉xs->valV (tabB xs) (Sum.inr x)=none
 | [],_,_=>rfl
 | y::r,x,h=>by
  rw[show tabB (y::r)=(Sum.inr y,V.bl true)::tabB r from rfl,JM (fun z=>h (by rw[Sum.inr.inj z];exact vq))];exact K1 fun z=>h (vp _ z)
theorem xb{xs:List Str}{x:Str}(h:x∉xs):putK (tabB xs) (Sum.inr x) (.bl true)=tabB (xs++[x]):=by
 rw[WY,show tabB (xs++[x])=tabB xs++[(Sum.inr x,V.bl true)] by simp[tabB]];rw[j0Y];intro z;obtain⟨y,a,e⟩:=vO.mp z;exact h (Sum.inr.inj e▸a)
def Cln(y:Str):Prop:=∀c∈y.cps.toList,48<=c
theorem j3e{n:Int}(b:0<=n):Cln (tI n):=by
 obtain⟨m,rfl⟩:=Int.eq_ofNat_of_zero_le b;have f:(tI (m:Int)).cps.toList=(Nat.toDigits 10 m).map Char.toNat:=PySem.W.KIN.signs_num m;intro c a;rw[f]at a;obtain⟨d,e,rfl⟩:=vO.mp a;exact(Nm.XM m d e).1
theorem KQ{c:Nat}:∀ys:List Str,(Str.join ⟨#[c]⟩ ys).cps.toList=Sp.glue c (ys.map fun y=>y.cps.toList)
 | []=>rfl
 | [a]=>rfl
 | a::b::r=>by
  show(a++⟨#[c]⟩++Str.join ⟨#[c]⟩ (b::r)).cps.toList=a.cps.toList++c::Sp.glue c ((b::r).map fun y=>y.cps.toList);rw[<-KQ (b::r)];show((a.cps++#[c])++(Str.join ⟨#[c]⟩ (b::r)).cps).toList=_;simp
theorem no32{y:Str}(h:Cln y):32∉y.cps.toList:=fun z=>by
 have:=h 32 z;lia
theorem PartAt.put{H H':Hp}{a:Addr}{p:Str×Fm}(k:∀b xs,H b=some (.tup xs)->H' b=some (.tup xs))(h:PartAt H a p):PartAt H' a p:=by
 obtain⟨b,i,d⟩:=h;refine⟨b,k _ _ i,?_⟩;generalize p.2=f at d|-;cases f with
 | row ps=>obtain⟨c,e,g⟩:=d;exact⟨c,k _ _ e,k _ _ g⟩
 | side ps=>obtain⟨c,e,g⟩:=d;exact⟨c,k _ _ e,k _ _ g⟩
 | hold n=>exact k _ _ d
 | ring x n=>exact k _ _ d
 | rise x v n=>exact k _ _ d
 | again k' x=>exact k _ _ d
end Rm
namespace L2
open PySem PySem.Spec PyProof.Rows
theorem ObjOk.has{P:Program}{w:World}{H:Hp}{h:Heap}{a:Addr}{o:HO}(x:ObjOk P w H h a o):∃b,h.get? a=some b:=by
 cases o with
 | lst xs=>obtain⟨_,_,_,_,e⟩:=x;exact⟨_,e⟩
 | tup xs=>obtain⟨_,_,_,_,e,_⟩:=x;exact⟨_,e⟩
 | dK kvs=>obtain⟨_,_,_,_,o,_,_,e,_⟩:=x;exact⟨_,e⟩
 | dT kvs=>obtain⟨_,_,_,_,o,_,_,e,_⟩:=x;exact⟨_,e⟩
 | set S n=>obtain⟨o,_,_,_,e,_⟩:=x;exact⟨_,e⟩
 | ins C dx fs=>obtain⟨_,_,_,e,_⟩:=x;exact⟨_,e⟩
 | own y=>exact x
 | xd fs=>obtain⟨_,⟨_,_,_,e,_⟩,_⟩:=x;exact⟨_,e⟩
 | rng lo hi=>obtain⟨_,_,_,e⟩:=x;exact⟨_,e⟩
 | frz b u=>obtain⟨e,_⟩:=x;exact⟨_,e⟩
 | tbl ps=>exact⟨_,show h.get? a=some _ from x⟩
 | met f y=>exact⟨_,show h.get? a=some _ from x⟩
 | ext φ=>obtain⟨_,e,_⟩:=x;exact e
def Air(B:Heap)(l:List Env)(a:Addr)(cls:Value)(h:Heap):Prop:=
  B.StaysIn h/\B.get? a=none/\h.FunFrames B l/\
    ((∃a0,h.TracedW B a cls a0)\/(∃oe vs a0,h.get? a=some oe/\oe.cls=cls/\oe.data = .fields vs/\vs[1]?=some .none/\vs[0]?=some a0)\/
     ∃env r L a0,l=env::r/\env.frame=some L/\h.TracedAtW B a cls a0 (rawInt L))
section
variable{M:Model}{A:Around}{E:Value->Shared->Prop}{s:Shared}{B:Heap}{env:Env}{outer:List Env}{L a:Addr}{cls:Value}{Q:Unit->Shared->Prop}
theorem Wf(b:A.frames=some (env::outer))(m:env.frame=some L)(x:Air B (env::outer) a cls s.heap)
  (h:∀h',Air B outer a cls h'->s.heap.UpToSlots h'->Q () {s with heap:=h'}):wpAny M A (leaving env (.ref a)) Q E s:=by
 obtain⟨j,c,k,⟨a0,t⟩ | ⟨y,z,a0,v,rfl,q,p,o⟩ | ⟨l,r,w,a0,n,i,t⟩⟩:=x
 ·exact wpAny_leaving_nextW b k m t j c fun h' ⟨d,⟨_,_,e⟩,f,g⟩=>h h' ⟨d,c,e,.inl ⟨a0,f⟩⟩ g
 ·exact wpAny_leaving_firstW (a0:=a0) b k m v j c q p o fun h' ⟨d,⟨_,_,e⟩,f,g⟩=>h h' ⟨d,c,e,.inl ⟨a0,f⟩⟩ g
 ·cases n;unfold leaving;refine ug (wpAny_noteFrame_againW i t (wpAny_landsW ⟨j,c,k,t⟩ fun h' ⟨d,e,⟨_,_,f⟩,g⟩ u=>h h' ⟨d,e,f,.inl ⟨a0,g⟩⟩ u))
theorem j0e(d:A.frames=some (env::outer))(i:env.frame=some L)(x:Air B (env::outer) a cls s.heap)
  (h:∀h' a0,Heap.FlyingW B (env::outer) a cls a0 h'->s.heap.UpToSlots h'->Q () {s with heap:=h'}) :
  wpAny M A (noteFrame (.ref a) env) (fun _ e=>wpAny M A (setFlight (.ref a) none) Q E e) E s:=by
 obtain⟨k,g,l,⟨a0,t⟩ | ⟨H,I,a0,p,rfl,o,n,u⟩ | ⟨m,r,G,a0,q,j,t⟩⟩:=x
 ·exact wpAny_looks_onW d i ⟨k,g,l,t⟩ fun v w y=>wpAny_landsW w fun c b f=>h c a0 b (y.trans f)
 ·unfold noteFrame;simp only[i];refine ug (wpAny_field p o n ?_);rw[vA (by decide)];refine wpAny_entryW d l i p k g o (Array.getElem?_eq_some_iff.mp n).1 u fun v ⟨z,C,D,F⟩=>?_
  exact wpAny_landsW ⟨z,g,C,D⟩ fun c b f=>h c a0 b (Heap.UpToSlots.trans F f)
 ·cases q;exact wpAny_noteFrame_againW j t (wpAny_landsW ⟨k,g,l,t⟩ fun c b f=>h c a0 b f)
theorem j0f(c:A.frames=some (env::outer))(d:env.frame=some L)(x:Air B (env::outer) a cls s.heap)
  (g:∀h' a0,Heap.HeldW B (env::outer) a cls a0 L h'->s.heap.UpToSlots h'->Q () {s with heap:=h'}):wpAny M A (noteFrame (.ref a) env) Q E s:=by
 obtain⟨h,e,i,⟨a0,t⟩ | ⟨C,D,a0,m,rfl,l,k,p⟩ | ⟨j,r,n,a0,o,b,t⟩⟩:=x
 ·exact wpAny_looks_onW c d ⟨h,e,i,t⟩ fun f q u=>g f a0 q u
 ·unfold noteFrame;simp only[d];refine ug (wpAny_field m l k ?_);rw[vA (by decide)];exact wpAny_entryW c i d m h e l (Array.getElem?_eq_some_iff.mp k).1 p fun f ⟨v,w,y,z⟩=>g f a0 ⟨v,e,w,y⟩ z
 ·cases o;obtain rfl:L=n:=vP (d.symm.trans b);exact wpAny_noteFrame_againW b t (g _ a0 ⟨h,e,i,t⟩ (.refl _))
theorem xS{a0:Value}(x:Heap.HeldW B (env::outer) a cls a0 L s.heap)(D:env.frame=some L)
  (C:∀h',Heap.HeldW B (env::outer) a cls a0 L h'->s.heap.UpToSlots h'->Q () {s with heap:=h'}) :
  wpAny M A (do
   if(<-field (.ref a) 1) == .none then unsupported "frame.own-activation:exception-without-traceback"
   setFlight (.ref a) env.frame) Q E s:=by
 obtain⟨v,u,F,G,w,T,H,y,t,l,r,n,m,k,p,h,z⟩:=x;have i:3<y.size:=(Array.getElem?_eq_some_iff.mp z).1;have d:∀b,b≠T->(s.heap.update T (Obj.mapFields (·.setIfInBounds 3 ((some L).elim Value.none fun f=>rawInt f)))).get? b=s.heap.get? b:=
  fun b e=>Heap.get?_update_other _ _ (Ne.symm e)
 have c:∀b o,s.heap.get? b=some o->(∀w,o.data≠.fields w)->b≠T:=fun b o e g q=>by
  rw[q,p]at e;injection e with e;subst e;exact g y h
 rw[D];refine ug (wpAny_field t r n ?_);rw[vA (show¬((Value.ref T==Value.none)=true)from by simp)];unfold setFlight;refine ug (wpAny_field t r n ?_);rw[va (show(Value.ref T != Value.none)=true from by simp)];refine wpAny_setField p h i (C _ ⟨fun b o j=>(d b fun q=>by rw[q,m]at j;cases j).trans (v b o j),u,
  F.of_keeps fun b o e g=>⟨o,(d b (c b o e g)).trans e,rfl⟩,?_⟩ fun b o e g=>⟨o.slots,(d b (c b o e g)).trans e⟩)
 exact⟨G,w,T,_,_,(d a (Ne.symm k)).trans t,l,r,n,m,k,Heap.get?_update_self _ p (Obj.isFreed_of_fields (Obj.data_mapFields h _)),Obj.data_mapFields h _,by simp[i]⟩
end
def DS(h h':Heap):Prop:=∀b o,h.get? b=some o->∃o',h'.get? b=some o'/\o'.cls=o.cls/\o'.dict=o.dict
theorem DS.refl(h:Heap):DS h h:=fun _ o e=>⟨o,e,rfl,rfl⟩
theorem DS.trans{a c d:Heap}(x:DS a c)(y:DS c d):DS a d:=fun b o e=>
 let ⟨o1,e1,c1,d1⟩:=x b o e;let ⟨o2,e2,c2,d2⟩:=y b o1 e1;⟨o2,e2,c2.trans c1,d2.trans d1⟩
def Kf(f:Obj->Obj):Prop:=∀o,(f o).cls=o.cls/\(f o).dict=o.dict/\(o.isFreed=false->(f o).isFreed=false)
theorem DS.upd{h:Heap}{a:Addr}{f:Obj->Obj}(k:Kf f):DS h (h.update a f):=fun b o e=>by
 by_cases z:b=a
 ·subst z;exact⟨f o,Heap.get?_update_self _ e ((k o).2.2 (Heap.get?_some_iff.mp e).2),(k o).1,(k o).2.1⟩
 ·exact⟨o,(Heap.get?_update_ne _ _ _ _ z).trans e,rfl,rfl⟩
theorem DS.push{h:Heap}{o:Obj}:DS h (h.push o):=fun b a e=>⟨a,vN _ e,rfl,rfl⟩
inductive DK{α:Type}:Sem α->Prop
 | pure (a:α):DK (.pure a)
 | raise (e:Value):DK (.raise e)
 | unsupported (w:String):DK (.unsupported w)
 | finish (e:Ending):DK (.finish e)
 | rule {t:String} {k:Unit->Sem α} (h:∀u,DK (k u)):DK (.rule t k)
 | at {p:Pos} {k:Unit->Sem α} (h:∀u,DK (k u)):DK (.at p k)
 | load {a:Addr} {pt:Option Value} {k:Obj->Sem α} (h:∀o,DK (k o)):DK (.load a pt k)
 | update {a:Addr} {pt:Option Value} {f:Obj->Obj} {k:Unit->Sem α} (kf:Kf f) (h:∀u,DK (k u)):DK (.update a pt f k)
 | alloc {o:Obj} {k:Addr->Sem α} (h:∀a,DK (k a)):DK (.alloc o k)
 | alive {a:Addr} {k:Option Obj->Sem α} (h:∀o,DK (k o)):DK (.loadIfAlive a k)
 | point {l:List Value} {k:Unit->Sem α} (h:∀u,DK (k u)):DK (.point l k)
 | ask {k:Setting->Sem α} (h:∀u,DK (k u)):DK (.ask k)
 | stack {k:List (Code×Pos)->Sem α} (h:∀u,DK (k u)):DK (.stack k)
 | fresh {k:Tok->Sem α} (h:∀u,DK (k u)):DK (.fresh k)
 | handled {b:Bool} {k:Option Value->Sem α} (h:∀u,DK (k u)):DK (.handled b k)
theorem wpMono{g:Type}{M:Model}{c:PySem.Ctx}{t:Sem g}{Q f:g->Pos->Shared->Prop}{E d:Value->Pos->Shared->Prop}{p:Pos}{s:Shared}(h:Sem.wp M c t Q E p s)(q:∀a b s',Q a b s'->f a b s')(e:∀a b s',E a b s'->d a b s'):Sem.wp M c t f d p s:=Sem.wp_mono M c t q e p s h
theorem j4s{f:Type}{M:Model}{c:PySem.Ctx}{t:Sem f}(d:DK t):∀{Q:f->Pos->Shared->Prop} {E:Value->Pos->Shared->Prop} {p:Pos} {s:Shared},Sem.wp M c t Q E p s->
  Sem.wp M c t (fun a b s'=>Q a b s'/\DS s.heap s'.heap) (fun a b s'=>E a b s'/\DS s.heap s'.heap) p s:=by
 induction d with
 | pure a=>intro Q E p s h;rw[Sem.wp]at h|-;exact⟨h,.refl _⟩
 | raise a=>intro Q E p s h;rw[Sem.wp]at h|-;exact⟨h,.refl _⟩
 | unsupported=>intro Q E p s h;rw[Sem.wp]at h;exact h.elim
 | finish=>intro Q E p s h;rw[Sem.wp]at h;exact h.elim
 | rule _ ih=>intro Q E p s h;rw[Sem.wp]at h|-;exact ih _ h
 | «at» _ ih=>intro Q E p s h;rw[Sem.wp]at h|-;exact ih _ h
 | load _ ih=>intro Q E p s h;rw[Sem.wp]at h|-;obtain⟨o,e,h⟩:=h;exact⟨o,e,ih _ h⟩
 | update kf _ ih=>
  intro Q E p s h;rw[Sem.wp]at h|-;refine⟨h.1,wpMono (ih _ h.2) (fun a b s' z=>⟨z.1,(DS.upd kf).trans z.2⟩) fun a b s' z=>⟨z.1,(DS.upd kf).trans z.2⟩⟩
 | alloc _ ih=>
  intro Q E p s h;rw[Sem.wp]at h|-;exact wpMono (ih _ h) (fun a b s' z=>⟨z.1,DS.push.trans z.2⟩) fun a b s' z=>⟨z.1,DS.push.trans z.2⟩
 | alive _ ih=>intro Q E p s h;rw[Sem.wp]at h|-;exact ih _ h
 | point _ ih=>intro Q E p s h;rw[Sem.wp]at h|-;exact ih _ h
 | ask _ ih=>intro Q E p s h;rw[Sem.wp]at h|-;exact ih _ h
 | stack _ ih=>intro Q E p s h;rw[Sem.wp]at h|-;exact ih _ h
 | fresh _ ih=>intro Q E p s h;rw[Sem.wp]at h|-;exact ih _ h
 | handled _ ih=>intro Q E p s h;rw[Sem.wp]at h|-;exact ih _ h
theorem zF{b:Type}{M:Model}{A:Around}{t:Sem b}(d:DK t){Q:b->Shared->Prop}{E:Value->Shared->Prop}{s:Shared}(h:wpAny M A t Q E s):wpAny M A t (fun a s'=>Q a s'/\DS s.heap s'.heap) (fun e s'=>E e s'/\DS s.heap s'.heap) s:=
 fun c p z=>j4s d (h c p z)
theorem DK.bind{b c:Type}{t:Sem b}{f:b->Sem c}(d:DK t)(h:∀a,DK (f a)):DK (t >>= f):=by
 show DK (Sem.bind t f)
 induction d with
 | pure a=>exact h a
 | raise=>exact .raise _
 | unsupported=>exact .unsupported _
 | finish=>exact .finish _
 | rule _ ih=>exact .rule ih
 | «at» _ ih=>exact .at ih
 | load _ ih=>exact .load ih
 | update kf _ ih=>exact .update kf ih
 | alloc _ ih=>exact .alloc ih
 | alive _ ih=>exact .alive ih
 | point _ ih=>exact .point ih
 | ask _ ih=>exact .ask ih
 | stack _ ih=>exact .stack ih
 | fresh _ ih=>exact .fresh ih
 | handled _ ih=>exact .handled ih
theorem j1v(f:Array Value->Array Value):Kf (Obj.mapFields f):=fun o=>by
 obtain⟨c,d,a,b⟩:=o;cases a<;>exact⟨rfl,rfl,fun h=>h⟩
theorem Zr(v:Value):DK (fieldsOf v):=by
 unfold fieldsOf;split
 ·refine DK.bind (.load fun o=>.pure _) fun o=>?_
  split
  ·exact .pure _
  ·exact .unsupported _
 ·exact .unsupported _
theorem zB(v:Value)(i:Nat):DK (field v i):=by
 unfold field;refine DK.bind (Zr v) fun a=>?_
 split
 ·exact .pure _
 ·exact .unsupported _
theorem kH(a:Addr)(i:Nat)(v:Value):DK (updateField a i v):=by
 unfold updateField
 repeat (first | exact DK.pure _ | exact DK.unsupported _ | exact DK.raise _ | exact Zr _ | exact zB _ _ | (refine DK.update (j1v _) fun _=>?_) | (refine DK.load fun _=>?_) | (refine DK.stack fun _=>?_) | (refine DK.alloc fun _=>?_) | (refine DK.rule fun _=>?_) | (refine DK.point fun _=>?_) | (refine DK.bind ?_ fun _=>?_) | split | assumption)
theorem Zs(v:Value)(i:Nat)(x:Value):DK (setField v i x):=by
 unfold setField;split
 ·exact kH _ _ _
 ·exact .unsupported _
theorem q0(e:Value)(f:Option Addr):DK (setFlight e f):=by
 unfold setFlight;refine DK.bind (zB _ _) fun _=>?_
 split
 ·exact Zs _ _ _
 ·exact .pure _
theorem j0r(env:Env)(l:List Env):DK (behindIsImport env l):=by
 unfold behindIsImport
 repeat (first | exact DK.pure _ | exact DK.unsupported _ | exact DK.raise _ | exact Zr _ | exact zB _ _ | (refine DK.update (j1v _) fun _=>?_) | (refine DK.load fun _=>?_) | (refine DK.stack fun _=>?_) | (refine DK.alloc fun _=>?_) | (refine DK.rule fun _=>?_) | (refine DK.point fun _=>?_) | (refine DK.bind ?_ fun _=>?_) | split | assumption)
theorem j1m:DK underTheClaimsCaller:=.stack fun _=>.pure _
theorem Wo(env:Env)(i:Bool)(l:List Env):DK (keptBack env i l):=by
 unfold keptBack;split
 ·split
  ·exact .pure _
  ·exact .bind j1m fun _=>.pure _
 ·exact .pure _
theorem Wt:∀l:List Env,DK (readyFrames l)
 | []=>.pure _
 | env::outer=>by
  unfold readyFrames;split
  ·refine DK.bind (.load fun o=>.pure _) fun o=>?_
   split
   ·exact .pure _
   ·refine DK.bind (j0r _ _) fun _=>DK.bind (Wo _ _ _) fun _=>DK.bind (.update (fun o=>⟨rfl,rfl,fun h=>by obtain⟨c,d,a,b⟩:=o;cases a<;>exact h⟩) fun _=>.pure _) fun _=>Wt outer
  ·exact .unsupported _
theorem kG:∀l:List Env,DK (frameObject l)
 | []=>.pure _
 | env::outer=>.bind (Wt _) fun _=>.pure _
theorem xJ(env:Env):DK (PySem.frameOf env):=by
 unfold PySem.frameOf;refine DK.bind (.stack fun _=>.pure _) fun _=>DK.bind (kG _) fun a=>?_
 split
 ·exact .pure _
 ·exact .unsupported _
theorem j1l(f:Addr)(b:Bool):DK (entryPlaceOf f b):=by
 unfold entryPlaceOf;refine DK.bind (.stack fun _=>.pure _) fun _=>?_
 split<;>exact .pure _
theorem Wp(a b c d e:Value)(pl:List Value):DK (EntryCells.newEntry a b c d e pl):=by
 unfold EntryCells.newEntry newFields newObj;dsimp only;have f:∀g:Data,DK (newObjAsIs (.type "traceback") g):=fun g=>DK.bind (.alloc fun _=>.pure _) fun _=>.pure _
 split<;>split<;>first | exact f _ | exact DK.bind (.unsupported _) fun _=>f _
theorem wu(e:Value)(env:Env):DK (noteFrame e env):=by
 unfold noteFrame;split
 ·refine DK.bind (zB _ _) fun b=>?_
  have a:∀(f:Addr),DK (do setField e 1 (<-EntryCells.newEntry b (<-frameOf env) .none (rawInt f) .none (<-entryPlaceOf f (b != .none)))):=fun f=>
   DK.bind (xJ _) fun _=>DK.bind (j1l _ _) fun _=>DK.bind (Wp _ _ _ _ _ _) fun _=>Zs _ _ _
  split
  ·refine DK.bind (zB _ _) fun _=>?_
   split
   ·exact .pure _
   ·exact DK.bind (Zs _ _ _) fun _=>a _
  ·exact a _
 ·exact .unsupported _
theorem xK(env:Env)(e:Value):DK (leaving env e):=.bind (wu _ _) fun _=>q0 _ _
theorem wb{M:Model}{A:Around}{E:Value->Shared->Prop}{s:Shared}{B:Heap}{env:Env}{b:List Env}{L a:Addr}{cls:Value}{Q:Unit->Shared->Prop}(d:A.frames=some (env::b))(g:env.frame=some L)(x:Air B (env::b) a cls s.heap)
  (f:∀h',Air B b a cls h'->s.heap.UpToSlots h'->DS s.heap h'->Q () {s with heap:=h'}):wpAny M A (leaving env (.ref a)) Q E s:=by
 refine wpAny_mono (zF (xK env (.ref a)) (Wf (E:=E) (Q:=fun u c=>Air B b a cls c.heap/\s.heap.UpToSlots c.heap/\c={s with heap:=c.heap}) d g x fun h' e u=>⟨e,u,rfl⟩)) (fun u c z=>?_) fun _ _ z=>z.1
 obtain⟨⟨h,i,j⟩,k⟩:=z;rw[j];exact f _ h i k
theorem xx{M:Model}{A:Around}{E:Value->Shared->Prop}{s:Shared}{B:Heap}{env:Env}{b:List Env}{L a:Addr}{cls:Value}{Q:Unit->Shared->Prop}(e:A.frames=some (env::b))(i:env.frame=some L)(x:Air B (env::b) a cls s.heap)
  (h:∀h' a0,Heap.FlyingW B (env::b) a cls a0 h'->s.heap.UpToSlots h'->DS s.heap h'->Q () {s with heap:=h'}) :
  wpAny M A (noteFrame (.ref a) env) (fun _ d=>wpAny M A (setFlight (.ref a) none) Q E d) E s:=by
 have g:=zF (wu (.ref a) env) (j0e (M:=M) (E:=E) (Q:=fun u c=>(∃a0,Heap.FlyingW B (env::b) a cls a0 c.heap)/\s.heap.UpToSlots c.heap/\c={s with heap:=c.heap}) e i x fun h' a0 f u=>⟨⟨a0,f⟩,u,rfl⟩);refine wpAny_mono g (fun u c z=>?_) fun _ _ z=>z.1
 refine wpAny_mono (zF (q0 _ _) z.1) (fun o n y=>?_) fun _ _ y=>y.1
 obtain⟨⟨⟨a0,j⟩,k,l⟩,m⟩:=y;rw[l];exact h _ a0 j k (z.2.trans m)
noncomputable def CX1(P:Program)(w:World):CXT:=fun outer H s E e s'=>∃a cls H' B dd,e = .ref a/\s.heap.get? a=none/\s'.os=s.os/\AllBare s'.gens/\
 Un (frs outer) [] H H' s.heap s'.heap/\HOk P w H' s'.heap/\H' a=none/\Air B outer a cls s'.heap/\
 (∀b o,s'.heap.get? b=some o->(H' b≠none\/∃o0,s.heap.get? b=some o0)->b∉frs outer->B.get? b=some o)/\(∃oe,s'.heap.get? a=some oe/\oe.dict=dd)/\E cls dd H'
def XP(X:Cx)(pins:List (Addr×Obj))(σ:St)(E:XK)(e:Value)(s':Shared):Prop:=
 ∃a cls H' B dd,e = .ref a/\X.s₀.heap.get? a=none/\Inv X pins σ H' s'/\H' a=none/\Air B X.stack a cls s'.heap/\
  (∀b o,s'.heap.get? b=some o->(H' b≠none\/(∃o0,X.s₀.heap.get? b=some o0)\/∃p∈X.pn++pins,p.1=b)->b∉frs X.stack->B.get? b=some o)/\(∃oe,s'.heap.get? a=some oe/\oe.dict=dd)/\E cls dd H'
structure Flat(X:Cx):Prop where
 ex:X.ex=[]
 stk:X.stack=X.env::X.outer
 fr:X.env.frame=some X.env.locals
 calm:X.calm=true
section
variable{X:Cx}{pins:List (Addr×Obj)}{σ:St}{H:Hp}{s s':Shared}{E:XK}{e:Value}
theorem Flat.fs(F:Flat X):frs X.stack=X.env.locals::X.fs:=by
 rw[F.stk];unfold frs;rw[filterMap_cons,F.fr];rfl
theorem XP.of_call(F:Flat X)(I:Inv X pins σ H s)(h:CX1 X.prog X.w X.stack H s E e s'):XP X pins σ E e s':=by
 obtain⟨a,g,k,B,t,rfl,y,C,c,D,j,n,f,i,u,v⟩:=h;have r:Inv X pins σ k s':=I.call' (ch:=[]) C D j c (fun b z=>ue z (by simp));have d:∀b o,X.s₀.heap.get? b=some o->∃m,s.heap.get? b=some m:=fun b o e=>I.base.there b o e (by rw[F.ex];simp)
 refine⟨a,g,k,B,t,rfl,?_,r,n,f,fun b o e q w=>i b o e ?_ w,u,v⟩
 ·cases q:X.s₀.heap.get? a with
  | none=>rfl
  | some o=>obtain⟨m,l⟩:=d a o q;rw[y]at l;cases l
 ·rcases q with q | ⟨A,q⟩ | ⟨p,x,rfl⟩
  ·exact .inl q
  ·exact .inr (d b A q)
  ·exact .inr ⟨_,(I.pin p x).1⟩
theorem XP.of_made{C:Addr}{us:List Value}{h':Heap}{a:Addr}(F:Flat X)(I:Inv X pins σ H s)(c:Heap.MadeExcOf s.heap h' a (.ref C) us)(r:E (.ref C) none H):XP X pins σ E (.ref a) {s with heap:=h'}:=by
 obtain⟨t,i,y,_⟩:=c.there;have m:Inv X pins σ H {s with heap:=h'}:=I.kept (h':=h') (t':=s.toks) c.keeps;have h:∀b o,X.s₀.heap.get? b=some o->∃f,s.heap.get? b=some f:=fun b o e=>I.base.there b o e (by rw[F.ex];simp)
 have w:H a=none:=by
  cases q:H a with
  | none=>rfl
  | some o=>obtain⟨z,e⟩:=(I.hok a o q).has;rw[c.new]at e;cases e
 have k:∀d∈X.stack,∀b,d.frame=some b->b∈frs X.stack:=fun d i b j=>mem_filterMap.mpr ⟨d,i,j⟩
 refine⟨a,.ref C,H,PySem.W.hideAll s.heap (frs X.stack),none,rfl,?_,m,w,⟨fun b o e=>c.keeps b o (PySem.W.of_hideAll _ e),?_,?_,.inr (.inl ⟨_,_,.ref t,i,rfl,rfl,rfl,rfl⟩)⟩,fun b o e q j=>?_,⟨_,i,rfl⟩,r⟩
 ·cases q:X.s₀.heap.get? a with
  | none=>rfl
  | some o=>obtain⟨f,g⟩:=h a o q;rw[c.new]at g;cases g
 ·cases q:(PySem.W.hideAll s.heap (frs X.stack)).get? a with
  | none=>rfl
  | some o=>have:=PySem.W.of_hideAll _ q;rw[c.new]at this;cases this
 ·exact(PySem.W.funFrames_hide I.stack k).of_keeps fun b o e _=>⟨o,c.keeps b o e,rfl⟩
 ·refine PySem.W.hideAll_get _ ?_ j;have:∃f,s.heap.get? b=some f:=by
   rcases q with q | ⟨x,q⟩ | ⟨p,v,rfl⟩
   ·cases q':H b with
    | none=>exact ue q' q
    | some u=>exact(I.hok b u q').has
   ·exact h b x q
   ·exact⟨_,(I.pin p v).1⟩
  obtain⟨f,g⟩:=this;have n:=c.keeps b f g;have l:h'.get? b=some o:=e;rw[n]at l;cases l;exact g
theorem XP.stays(F:Flat X){H':Hp}{B h':Heap}(I:Inv X pins σ H' s')
  (f:∀b o,s'.heap.get? b=some o->(H' b≠none\/(∃a,X.s₀.heap.get? b=some a)\/∃p∈X.pn++pins,p.1=b)->b∉frs X.stack->B.get? b=some o)
  (st:B.StaysIn h') (m:s'.heap.UpToSlots h') :
  (∀b o,s'.heap.get? b=some o->(H' b≠none\/(∃a,X.s₀.heap.get? b=some a)\/∃p∈X.pn++pins,p.1=b)->b∉frs X.stack->h'.get? b=some o)/\
  (∀b o,s'.heap.get? b=some o->b∈frs X.stack->∃l,h'.get? b=some {o with slots:=l})/\HOk X.prog X.w H' h':=by
 have h:∀b o,s'.heap.get? b=some o->(H' b≠none\/(∃a,X.s₀.heap.get? b=some a)\/∃p∈X.pn++pins,p.1=b)->b∉frs X.stack->h'.get? b=some o:=fun b o e q g=>st b o (f b o e q g)
 refine⟨h,fun b o e g=>?_,fun b u e=>?_⟩
 ·obtain⟨_,n,i,k⟩:=I.stack.mem g;rw[e]at i;cases i;exact m b o e k
 ·have j:∀c v,H' c=some v->c∉frs X.stack:=fun c v q z=>by rw[I.stkFree c z]at q;cases q
  refine(I.hok b u e).stay (fun c v d q=>?_) (fun _ q=>q) fun _ _ q=>q
  rcases d with rfl | d
  ·exact h c v q (.inl (by rw[e];simp)) (j c u e)
  ·exact h c v q (.inl (by rw[d];simp)) (j c _ d)
end
theorem XP.leaves{P:Program}{w:World}{K:Frg}{r:Str->Option Value}{g:Heap}{N:List Str}{i:Str}{d:Scope}{f:Addr}{l:Value}{A:Around}{c:List Env}{s s':Shared}{H:Hp}{E:XK}{σ:St}{e:Value}
  (h:XP (cxOf (CX1 P w) P w K r g N i d f l A c s H E) [] σ E e s'):(cxOf (CX1 P w) P w K r g N i d f l A c s H E).xe e s':=by
 obtain⟨a,T,R,B,dd,rfl,na,I,n,S,C,⟨oe,Y,G⟩,hE⟩:=h;refine wb (L:=s.heap.objs.size) I.ok.frames rfl S fun h' k up ds=>?_
 obtain⟨a0,F,_,W⟩:=ds a oe Y;obtain⟨k1,k2,Z⟩:=XP.stays (X:=cxOf (CX1 P w) P w K r g N i d f l A c s H E) ⟨rfl,rfl,rfl,rfl⟩ I C k.1 up;have D:frs (cxOf (CX1 P w) P w K r g N i d f l A c s H E).stack=s.heap.objs.size::frs c:=rfl;have nL:∀b o,s.heap.get? b=some o->b≠s.heap.objs.size:=fun b o e=>vI (vM e)
 have x:∀b o,s.heap.get? b=some o->b∉frs c->b∉frs (cxOf (CX1 P w) P w K r g N i d f l A c s H E).stack:=fun b o e j z=>by
  rw[D]at z;rcases mem_cons.mp z with z | z
  ·exact nL b o e z
  ·exact j z
 have M:∀b:Addr,b∉(cxOf (CX1 P w) P w K r g N i d f l A c s H E).ex:=fun b z=>ue (show b∈([]:List Addr)from z) (by simp)
 have J:∀b,b∈frs c->b∈frs (cxOf (CX1 P w) P w K r g N i d f l A c s H E).stack:=fun b z=>by rw[D];exact vp _ z
 refine⟨a,T,R,B,dd,rfl,na,I.os,I.bare,⟨fun b o e m j _=>?_,fun b o e m j _=>?_,fun b o e m _=>I.base.free b o e m (M b),fun b o e _=>?_,I.base.tups,I.base.frzs,I.base.tbls⟩,Z,n,k,fun b o e q j=>?_,⟨a0,F,W.trans G⟩,hE⟩
 ·exact k1 b o (I.base.keep b o e m j (M b)) (.inr (.inl ⟨o,e⟩)) (x b o e j)
 ·obtain⟨sl,v⟩:=I.base.slot b o e m j (M b);obtain⟨O,y⟩:=k2 b _ v (J b j);exact⟨O,y⟩
 ·obtain⟨t,v⟩:=I.base.there b o e (M b);by_cases j:b∈frs c
  ·obtain⟨O,y⟩:=k2 b _ v (J b j);exact⟨_,y⟩
  ·exact⟨t,k1 b t v (.inr (.inl ⟨o,e⟩)) (x b o e j)⟩
 ·have U:∃t,s'.heap.get? b=some t/\b∉frs (cxOf (CX1 P w) P w K r g N i d f l A c s H E).stack:=by
   rcases q with q | ⟨Q,q⟩
   ·cases q':R b with
    | none=>exact ue q' q
    | some u=>
     obtain⟨ob,z⟩:=(I.hok b u q').has;exact⟨ob,z,fun zz=>by rw[I.stkFree b zz]at q';cases q'⟩
   ·obtain⟨t,v⟩:=I.base.there b Q q (M b);exact⟨t,v,x b Q q j⟩
  obtain⟨t,v,nf⟩:=U;have q2:R b≠none\/(∃Q,s.heap.get? b=some Q)\/∃p∈(cxOf (CX1 P w) P w K r g N i d f l A c s H E).pn++[],p.1=b:=by
   rcases q with q | q
   ·exact .inl q
   ·exact .inr (.inl q)
  have y:=C b t v q2 nf;have e3:h'.get? b=some o:=e;rw[k.1 b t y]at e3;cases e3;exact y
noncomputable abbrev XS:=St->XK
noncomputable abbrev TRE:=St->Hp->XK->Prop
noncomputable abbrev TRS:=St->Hp->XS->Prop
def XPS(X:Cx)(pins:List (Addr×Obj))(E:XS)(e:Value)(s':Shared):Prop:=∃σ',XP X pins σ' (E σ') e s'
def RE(X:Cx)(e:Expr)(t:TRE):Prop:=
 ∀(pins:List (Addr×Obj)) (s:Shared) (σ:St) (H:Hp) (E:XK),Inv X pins σ H s->t σ H E->wpAny (model X.prog X.w) X.A (eval e X.env) (fun _ _=>False) (XP X pins σ E) s
def RS(X:Cx)(st:Stmt)(t:TRS):Prop:=
 ∀(pins:List (Addr×Obj)) (s:Shared) (σ:St) (H:Hp) (E:XS),Inv X pins σ H s->t σ H E->wpAny (model X.prog X.w) X.A (exec st X.env) (fun _ _=>False) (XPS X pins E) s
def RSs(X:Cx)(st:List Stmt)(t:TRS):Prop:=
 ∀(pins:List (Addr×Obj)) (s:Shared) (σ:St) (H:Hp) (E:XS),Inv X pins σ H s->t σ H E->wpAny (model X.prog X.w) X.A (execs st X.env) (fun _ _=>False) (XPS X pins E) s
noncomputable def rE(t:TRE):TRS:=fun σ H E=>t σ H (E σ)
noncomputable def rSeq(t1:TS)(t2:TRS):TRS:=fun σ H E=>t1 {nx:=fun σ' H'=>t2 σ' H' E,rt:=fun _ _=>False} σ H
noncomputable def rIf(tc:TT)(ta tb:TRS):TRS:=fun σ H E=>tc σ H fun b H1=>if b=true then ta σ H1 E else tb σ H1 E
noncomputable def rNever:TRS:=fun _ _ _=>False
section
variable{X:Cx}{e a b c:Expr}{t:TRE}{ta tb:TRS}{x:Str}{pos pos':Pos}{st:Stmt}{rest l r:List Stmt}
theorem j41(c:RE X e t)(d:swapsWith e (some (.Name x pos')) pos.line X.env=pure false:=by rfl):RS X (.Assign [.Name x pos'] e pos) (rE t):=fun a s b H E I h=>
 wpAny_Assign_Name (wpAny_mono (c a s b H _ I h) (fun _ _ z=>z.elim) fun e f q=>⟨b,q⟩) d
theorem kg(c:RE X e t)(d:swapsWith e none pos.line X.env=pure false:=by rfl):RS X (.Expr e pos) (rE t):=fun a s b H E I h=>
 wpAny_Expr_any (wpAny_mono (c a s b H _ I h) (fun _ _ z=>z.elim) fun e f q=>⟨b,q⟩) I.quiet d
theorem qz:RSs X l rNever:=fun _ _ _ _ _ _ h=>h.elim
theorem jD(b:RS X st ta):RSs X (st::rest) ta:=fun a s c H E I h=>
 wpAny_execs_cons (wpAny_mono (b a s c H E I h) (fun _ _ z=>z.elim) fun _ _ q=>q)
theorem JK{c:TS}(g:PS X.nox st c)(i:RSs X rest tb):RSs X (st::rest) (rSeq c tb):=fun a s k H E I h=>by
 refine wpAny_execs_cons (wpAny_mono (g a s k H _ (I.wish _) h) (fun f j q=>?_) fun _ _ z=>False.elim z);cases f with
 | next=>
  obtain⟨b,d,e,q⟩:=q;exact i a j b d E e.unwish q
 | ret v=>obtain⟨_,_,_,_,_,q⟩:=q;exact q.elim
 | brk=>obtain⟨_,_,_,q⟩:=q;exact q.elim
 | cont=>obtain⟨_,_,_,q⟩:=q;exact q.elim
theorem yb{j:TT}(n:PT X.nox c j)(k:RSs X l ta)(m:RSs X r tb):RS X (.If c l r pos) (rIf j ta tb):=fun a s b H E I h=>by
 refine wpAny_If (wpAny_mono (n a s b H _ (I.wish _) h) (fun d i ⟨e,f,g⟩=>?_) fun _ _ z=>False.elim z);cases d with
 | true=>exact k a i b e E f.unwish g
 | false=>exact m a i b e E f.unwish g
end
section
variable{X:Cx}{k:Nat}{f C:Addr}{fd:FuncData}{ps:List Str}{sp:Sp}{dvs:List V}{ds:List Value}{E:XK}{x m:Str}{p pos apos:Pos}{e o:Expr}{es:List Expr}{ta:TE}{t:TA}
theorem j08{a:List (Addr×Obj)}{g:St}{H:Hp}{s:Shared}{us:List Value}{vs:List V}(F:FnOk X.prog X.w X.K X.mg X.base (CX1 X.prog X.w) k f fd ps sp)(m:Room k X.A)(i:Binds X.K fd ps ds)(j:Vals dvs ds)(c:Flat X)
  (I:Inv X a g H s) (r:Vals vs us) (h:sp (vs++dvs) H (fun _ _=>False) E):wpAny (model X.prog X.w) X.A (call (.ref f) us) (fun _ _=>False) (XP X a g E) s:=by
 have d:Vals (vs++dvs) (us++ds):=r.append j;have l:(us++ds).length=ps.length:=by rw[<-d.length];exact F.len _ _ _ _ h
 refine wpAny_call (codeAny_mono (F.run X.A X.stack s H ⟨us,[]⟩ (us++ds) (vs++dvs) _ E m I.env0 (i s us I.kIn l) d h) fun r n b=>?_);cases r with
 | error e=>exact XP.of_call c I b
 | ok c=>
  cases c with
  | ret u=>obtain⟨_,_,_,_,_,_,_,q⟩:=b;exact q.elim
  | next=>exact False.elim b
  | brk=>exact False.elim b
  | cont=>exact False.elim b
noncomputable def rCall(sp:Sp)(dvs:List V)(t:TA):TRE:=fun σ H E=>t σ H fun vs H1=>sp (vs++dvs) H1 (fun _ _=>False) E
noncomputable def rMeth(C:Addr)(m:Str)(sp:Sp)(dvs:List V)(ta:TE)(t:TA):TRE:=fun σ H E=>ta σ H fun x H1=>∃a dx fs,x = .ref a/\H1 a=some (.ins C dx fs)/\fs.lookup m=none/\
 t σ H1 fun vs H2=>sp (x::(vs++dvs)) H2 (fun _ _=>False) E
theorem wW(F:FnOk X.prog X.w X.K X.mg X.base (CX1 X.prog X.w) k f fd ps sp)(v:Room k X.A)(n:Gl X x)(u:X.mg x=some (.ref f))(o:PySem.W.keepIn X.K (.ref f)=true)(j:Binds X.K fd ps ds)(l:Vals dvs ds)(g:Flat X)
  (i:PA X.nox (e::es) t) (b:(x==("__debug__" : Str))=false:=by decide) (m:starEach (e::es) X.env=(false,eval e X.env)::starEach es X.env:=by rfl) (c:(backTo pos (starEach es X.env)).any (·.1)=false:=by rfl) :
  RE X (.Call (.Name x p) (e::es) [] pos) (rCall sp dvs t):=by
 intro a s w H E I h;refine wpAny_Call_Name_kw (zq I n u ?_ b);refine PySem.W.callWith_K (h₀:=X.base) I.ok.mod.kin o (wpAny_mono (i pos a s w H _ (I.wish _) h) (fun C B ⟨D,y,d,r,q⟩=>⟨d.unwish.kIn,?_⟩) fun _ _ z=>False.elim z) m c;exact j08 F v j l g d.unwish r q
theorem j07{pl:Sem Bool}(L:PE X.nox o ta)(c:Cls X.K C)(n:Meth X.K C m f)(F:FnOk X.prog X.w X.K X.mg X.base (CX1 X.prog X.w) k f fd ps sp)(M:Room k X.A)(J:Binds X.K fd ps ds)(K:Vals dvs ds)(D:Flat X)(G:PA X.nox (e::es) t)
  (g:starEach (e::es) X.env=(false,eval e X.env)::starEach es X.env:=by rfl) (d:(backTo pos (starEach es X.env)).any (·.1)=false:=by rfl)
  (N:eval (.Call (.Attribute o m apos) (e::es) [] pos) X.env=(do
   let p <-eval o X.env
   standAt apos.atName
   let (f,first) <-holding [p] (getMethod p m pl)
   callWith pos f first (backTo pos (starEach (e::es) X.env)) (backToKw pos (keywordEach [] X.env))):=by rfl) :
  RE X (.Call (.Attribute o m apos) (e::es) [] pos) (rMeth C m sp dvs ta t):=by
 intro b s v H E I h;refine PySem.W.methodCall_KW (pl:=pl) (wpAny_mono (L b s v H _ (I.wish _) h) (fun u R ⟨x,w,i,P,a,T,U,B,y,l,q⟩=>?_) fun _ _ z=>False.elim z) N;subst B;obtain rfl:u=Value.ref a:=P;refine kJ i.unwish y c n l ?_;refine PySem.W.callWith_K (first:=[.ref a]) (h₀:=X.base) I.ok.mod.kin n.kp (wpAny_mono (G pos b R v w _ i q) (fun us W ⟨vs,S,j,r,O⟩=>⟨j.unwish.kIn,?_⟩) fun _ _ z=>False.elim z) g d;exact j08 (us:=.ref a::us) (vs:=.ref a::vs) F M J K D j.unwish (.cons rfl r) O
end
theorem j1o{K:Frg}{h:Heap}{C:Addr}{d:List Value}{a:String}(X:K.In h)(q:PySem.W.excIn K C d a=true) :
  ∃bm N nm g bs hdct sn sub ab col dd k0 k1 k2 k3 k5 mN,h.get? C=some (excClassObj nm g C N bs bm hdct sn sub ab col dd k0 k1 k2 k3 k5 a)/\h.Ns N mN/\mN "__init__"= none/\OwnTail h d bm:=by
 unfold PySem.W.excIn at q;split at q
 ·rename_i dd cd sl ho;split at q
  ·rename_i C' bm k0 k1 k2 k3 n k5 hm hs;simp only[Bool.and_eq_true,beq_iff_eq,Bool.not_eq_true']at q;obtain⟨⟨⟨⟨⟨rfl,rfl⟩,b⟩,k⟩,c⟩,e⟩:=q;obtain⟨nm,bs,m,o,g,j,sn,sub,ab,col,i⟩:=cd;dsimp only at hm b c e;subst hm b;have f:sl = #[k0,k1,k2,k3,some (.builtin n),k5]:=by
    obtain⟨l⟩:=sl;simp only at hs;rw[hs]
   subst f;exact⟨bm,o,nm,g,bs,j,sn,sub,ab,col,dd,k0,k1,k2,k3,k5,_,X _ _ ho,.of_isNs (PySem.W.isNs_of_in X c),PySem.W.nsMap_none_of_in X c e,PySem.W.tail_of_in X k⟩
  ·cases q
 ·cases q
noncomputable def rRaise(C:Addr):TRS:=fun σ H E=>E σ (.ref C) none H
theorem W3{X:Cx}{x:Str}{C:Addr}{t e pos:Pos}{b c:String}{d:List Value}(j:ExcBaseFacts "ValueError" b c d)(k:Flat X)(p:Gl X x)(r:X.mg x=some (.ref C))(o:PySem.W.excIn X.K C d b=true)
  (g:(x==("__debug__" : Str))=false:=by decide):RS X (.Raise (some (.Call (.Name x t) [] [] e)) none pos) (rRaise C):=by
 intro l s v H E I h;obtain⟨u,N,nm,q,bs,hdct,sn,sub,ab,col,dd,k0,k1,k2,k3,k5,mN,m,n,i,T⟩:=j1o I.kIn o;refine wpAny_Raise_call_subT (C:=C) (nm:=nm) (q:=q) (N:=N) (bs:=bs) (bm:=u) (hdct:=hdct) (sn:=sn) (sub:=sub) (ab:=ab) (col:=col) (dd:=dd) (k0:=k0) (k1:=k1) (k2:=k2) (k3:=k3) (k5:=k5)
  j (mN:=mN) (T.hasType j.hasBase) (I.ok.hd k.calm) rfl i (zq I p r ⟨rfl,?_⟩ g)
 exact evalArgs_empty ⟨rfl,vC _,m,n,T,fun w a f=>⟨v,XP.of_made k I f h⟩⟩
section
variable{P:Program}{w:World}{K:Frg}{mg:Str->Option Value}{base:Heap}
theorem j3z{k:Nat}{f:Addr}{name c:Str}{d:Arguments}{i:List Stmt}{a:Scope}{R kV m T g O oc:Value}{L od:Option Addr}
  {G:Array (Option Value)} {N ps:List Str} {sp:Sp} (lk:K.lookup f=some ⟨oc,od,.func (PySem.W.fnOf name c d i a R kV m T L g O),G⟩) (C:PySem.W.codeIn K g c=true) (S:FnScope N ps a)
  (B:∀vs H Q E,sp vs H Q E->vs.length=ps.length)
  (j:∀(A:Around) (outer:List Env) (s:Shared) (H:Hp) (vs:List V) (Q:VK) (E:XK),Room k (A.deeper (envOfC c a s.heap.objs.size f g))->sp vs H Q E->
   ∃t,RSs (cxOf (CX1 P w) P w K mg base N c a f g A outer s H E) i t/\t (start N vs) H (fun _=>E)) :
  FnOk P w K mg base (CX1 P w) (k+1) f (PySem.W.fnOf name c d i a R kV m T L g O) ps sp:=by
 refine⟨B,fun A outer s H M us vs Q E D p X r u=>?_⟩;have Z:=B _ _ _ _ u;have J:K.In s.heap:=p.mod.kin.keeps fun b o e=>(p.bs b o e).1
 have F:s.heap.NoLimit:=p.mod.nolimit.keeps fun b o e=>(p.bs b o e).1
 have l:∀y∈ps.zip us,a.names.lookup y.1=some .local\/(a.names.lookup y.1=some .cell/\((cellsFrom (s.heap.objs.size+1) a.names []).lookup y.1).isSome=true):=fun⟨n,v⟩ hy=>by
  rcases S.par n (of_mem_zip hy).1 with q | q
  ·exact .inl q
  ·exact .inr ⟨q,PySem.W.cellsFrom_some _ _ _ (.inl q)⟩
 refine codeAny_call_function D.depth (J _ _ lk) rfl S.co S.gen rfl (PySem.W.codeRec_of J C) (X _ _ _ _ ?_);refine wpAny_newFunctionEnv_cells S.kind l fun W Y U x=>?_
 subst Y;refine⟨F.keeps x.toInCall.keep,codeAny_func ?_⟩;obtain⟨t,ht,hq⟩:=j A outer s H vs Q E (D.deeper _) u;have I:Inv (cxOf (CX1 P w) P w K mg base N c a f g A outer s H E) [] (start N vs) H U:=KO S D.hd p Z r x;exact wpAny_mono (ht [] U (start N vs) H _ I hq) (fun _ _ z=>z.elim) fun e s' ⟨a0,q⟩=>XP.leaves q
theorem Fun.okR{x a:Str}{st:Stmt}{f:Addr}{i:FuncData}{N ps:List Str}{k:Nat}{sp:Sp}(F:Fun K x a st f i)(S:FnScope N ps (defScope st))(g:∀vs H Q E,sp vs H Q E->vs.length=ps.length)
  (c:∀(b:Value) (A:Around) (outer:List Env) (s:Shared) (H:Hp) (vs:List V) (Q:VK) (E:XK),Room k (A.deeper (envOfC a (defScope st) s.heap.objs.size f b))->sp vs H Q E->
   ∃t,RSs (cxOf (CX1 P w) P w K mg base N a (defScope st) f b A outer s H E) (defBody st) t/\t (start N vs) H (fun _=>E)):FnOk P w K mg base (CX1 P w) (k+1) f i ps sp:=by
 obtain⟨q,r,kV,j,u,o,b,p,n,rfl,m,d⟩:=F.ex;exact j3z m d S g fun A outer s H vs Q E l e=>c b A outer s H vs Q E l e
end
noncomputable def xcO(cls:Value)(a:Addr):Heap->Prop:=fun h=>∃o vs,h.get? a=some o/\o.cls=cls/\o.data = .fields vs
noncomputable def xcF(cls:Value)(a:Addr)(dd:Option Addr):Heap->Prop:=fun h=>∃o vs,h.get? a=some o/\o.cls=cls/\o.data = .fields vs/\o.dict=dd
noncomputable abbrev XcF(cls:Value)(a:Addr)(dd:Option Addr):HO:=.ext (xcF cls a dd)
theorem xcF.xc{cls:Value}{a:Addr}{dd:Option Addr}{h:Heap}(x:xcF cls a dd h):xcO cls a h:=let ⟨o,vs,e,c,f,_⟩:=x;⟨o,vs,e,c,f⟩
theorem wB{M:Model}{A:Around}{E:Value->Shared->Prop}{s:Shared}{a:Heap}{l:List Env}{e:Addr}{cls a0:Value}{Q:Unit->Shared->Prop}(d:Heap.FlyingW a l e cls a0 s.heap)
  (c:∀h',Heap.FlyingW a l e cls a0 h'->s.heap.UpToSlots h'->DS s.heap h'->Q () {s with heap:=h'}):wpAny M A (setFlight (.ref e) none) Q E s:=by
 refine wpAny_mono (zF (q0 _ _) (lands_againW (M:=M) (A:=A) (E:=E) (Q:=fun _ b=>Heap.FlyingW a l e cls a0 b.heap/\s.heap.UpToSlots b.heap/\b={s with heap:=b.heap}) d fun h' f u=>⟨f,u,rfl⟩)) (fun u b z=>?_) fun _ _ z=>z.1
 obtain⟨⟨g,h,i⟩,j⟩:=z;rw[i];exact c _ g h j
section
variable{X:Cx}{pins:List (Addr×Obj)}{σ:St}{H:Hp}{s:Shared}
theorem Inv.landed{H':Hp}{B h':Heap}(F:Flat X)(I:Inv X pins σ H' s)
  (A:∀b o,s.heap.get? b=some o->(H' b≠none\/(∃R,X.s₀.heap.get? b=some R)\/∃p∈X.pn++pins,p.1=b)->b∉frs X.stack->B.get? b=some o)
  (st:B.StaysIn h') (E:s.heap.UpToSlots h'):Inv X pins σ H' {s with heap:=h'}:=by
 obtain⟨D,J,C⟩:=XP.stays F I A st E;have w:∀b o,X.s₀.heap.get? b=some o->b∉X.fs->b∉frs X.stack:=fun b o e f z=>by
  rw[F.fs]at z;rcases mem_cons.mp z with z | z
  ·exact ue (Nat.lt_of_lt_of_le (vM e) I.ok.above) (by rw[z];exact Nat.lt_irrefl _)
  ·exact f z
 have t:∀b,b∈X.fs->b∈frs X.stack:=fun b z=>by rw[F.fs];exact vp _ z
 have a:∀c v,s.heap.IsCell c v->h'.IsCell c v:=fun c v ⟨o,Q,G⟩=>by
  obtain⟨S,e⟩:=E c o Q fun T q=>by rw[G]at q;cases q
  exact⟨_,e,G⟩
 refine⟨I.ok,I.os,I.bare,⟨fun b o e n f j=>?_,fun b o e n f j=>?_,I.base.free,fun b o e j=>?_,I.base.tups,I.base.frzs,I.base.tbls⟩,?_,fun x c e=>?_,I.free,I.freeC,fun p H=>?_,C,I.len⟩
 ·exact D b o (I.base.keep b o e n f j) (.inr (.inl ⟨o,e⟩)) (w b o e f)
 ·obtain⟨S,g⟩:=I.base.slot b o e n f j;obtain⟨y,h⟩:=J b _ g (t b f);exact⟨y,h⟩
 ·obtain⟨M,g⟩:=I.base.there b o e j;by_cases f:b∈X.fs
  ·obtain⟨y,h⟩:=J b _ g (t b f);exact⟨_,h⟩
  ·exact⟨M,D b M g (.inr (.inl ⟨o,e⟩)) (w b o e f)⟩
 ·obtain⟨m,P,O⟩:=I.loc;refine⟨m,E.ns P,fun i x v g h N=>?_⟩;obtain⟨u,r,l⟩:=O i x v g h N;refine⟨u,r,?_⟩;rcases l with l | ⟨k,c,e,z⟩
  ·exact .inl l
  ·exact .inr ⟨k,c,e,a c _ z⟩
 ·obtain⟨v,z⟩:=I.cell x c e;exact⟨v,a c v z⟩
 ·obtain⟨e,n,K,L,d⟩:=I.pin p H;refine⟨D p.1 p.2 e (.inr (.inr ⟨p,H,rfl⟩)) ?_,n,K,L,d⟩;rw[F.fs];intro z;rcases mem_cons.mp z with z | z
  ·exact K z
  ·exact L z
theorem Inv.known{T:Addr}{o:HO}(I:Inv X pins σ H s)(h:H T=none)(l:X.s₀.heap.get? T=none)(j:T≠X.env.locals)(i:∀x c,X.env.cells.lookup x=some c->c≠T)(k:∀p∈X.pn++pins,p.1≠T)
  (f:ObjOk X.prog X.w (upd H T o) s.heap T o):Inv X pins σ (upd H T o) s:=by
 have d:∀b u,H b=some u->b≠T:=fun b u e z=>by rw[z,h]at e;cases e
 have t:∀b u,X.s₀.heap.get? b=some u->b≠T:=fun b u e z=>by rw[z,l]at e;cases e
 refine⟨I.ok,I.os,I.bare,⟨I.base.keep,I.base.slot,fun b u e n m=>(jg (t b u e)).trans (I.base.free b u e n m),I.base.there,fun b y e=>?_,fun b u v e=>?_,fun b w e=>?_⟩,I.loc,I.cell,(jg (Ne.symm j)).trans I.free,fun x c e=>(jg (i x c e)).trans (I.freeC x c e),fun p g=>?_,fun b u e=>?_,I.len⟩
 ·have:=I.base.tups b y e;exact(jg (d _ _ this)).trans this
 ·have:=I.base.frzs b u v e;exact(jg (d _ _ this)).trans this
 ·obtain⟨a,this⟩:=I.base.tbls b w e;exact⟨a,(jg (d _ _ this)).trans this⟩
 ·obtain⟨e,n,r⟩:=I.pin p g;exact⟨e,(jg (k p g)).trans n,r⟩
 ·by_cases z:b=T
  ·subst z;rw[ji]at e;cases e;exact f
  ·rw[jg z]at e;exact(I.hok b u e).stay (fun c v _ q=>q) (fun c q=>(jg (d _ _ q)).trans q) fun c A q=>(jg (d _ _ q)).trans q
noncomputable abbrev Cx.inExc(X:Cx)(A:Around):Cx:={X with A:=A,calm:=false,xe:=fun _ _=>False}
theorem Inv.inExc(I:Inv X pins σ H s){A:Around}(a:A.frames=X.A.frames):Inv (X.inExc A) pins σ H s:=
 ⟨⟨I.ok.mod,I.ok.kind,I.ok.glob,I.ok.blt,I.ok.above,I.ok.inj,I.ok.has,I.ok.cab,(fun z=>nomatch z),a.trans I.ok.frames,I.ok.stk,I.ok.exf,I.ok.bs,I.ok.bsz,I.ok.noex,I.ok.exfs,I.ok.funs,I.ok.frf⟩,I.os,I.bare,I.base,I.loc,I.cell,I.free,I.freeC,I.pin,I.hok,I.len⟩
theorem Inv.outExc{A:Around}(I:Inv (X.inExc A) pins σ H s)(a:X.Ok):Inv X pins σ H s:=⟨a,I.os,I.bare,I.base,I.loc,I.cell,I.free,I.freeC,I.pin,I.hok,I.len⟩
theorem j0J{M:Model}{A:Around}{E:Value->Shared->Prop}{i:Nat}{n:Str}{pos:Pos}{Q:Unit->Shared->Prop}(I:Inv X pins σ H s)(L:X.N.Nodup)(hi:X.N[i]?=some n)(N:X.env.scope.names.lookup n=some .local)
  (h:∀s',Inv X pins (σ.set i none) H s'->Q () s'):wpAny M A (do bindName X.env n .none;unbindBehindTheSuite X.env n pos) Q E s:=by
 obtain⟨m,D,B⟩:=id I.loc;refine wpAny_nameGoes_keeps N D (by rw[I.ok.kind];rfl) fun K v C f=>h _ ?_
 obtain⟨oL,_,_,O,_⟩:=id D;have r:i<σ.length:=by rw[I.len];exact(vx.mp hi).1
 have a:HOk X.prog X.w H K:=fun b T e=>by
  refine(I.hok b T e).stay (fun c G l q=>(f.2 c ?_).trans q) (fun _ q=>q) fun _ _ q=>q
  rintro rfl;rcases l with l | l
  ·rw[<-l,I.free]at e;cases e
  ·rw[I.free]at l;cases l
 refine⟨I.ok,I.os,I.bare,⟨fun b o e n w t=>?_,fun b o e n w t=>?_,I.base.free,fun b o e t=>?_,I.base.tups,I.base.frzs,I.base.tbls⟩,⟨_,C,fun j y Z g u J=>?_⟩,fun y c e=>?_,I.free,I.freeC,fun p P=>?_,a,by simpa using I.len⟩
 ·exact(f.2 b (vI (Nat.lt_of_lt_of_le (vM e) I.ok.above))).trans (I.base.keep b o e n w t)
 ·obtain⟨W,g⟩:=I.base.slot b o e n w t;exact⟨W,(f.2 b (vI (Nat.lt_of_lt_of_le (vM e) I.ok.above))).trans g⟩
 ·obtain⟨S,g⟩:=I.base.there b o e t;exact⟨S,(f.2 b (vI (Nat.lt_of_lt_of_le (vM e) I.ok.above))).trans g⟩
 ·by_cases x:j=i
  ·subst x;rw[List.getElem?_set_self r]at u;cases u
  ·rw[List.getElem?_set_ne (Ne.symm x)]at u;obtain⟨Y,U,q⟩:=B j y Z g u J;refine⟨Y,U,?_⟩;rcases q with⟨k,e⟩ | ⟨k,c,e,z⟩
   ·refine .inl ⟨k,?_⟩;have:y≠n:=fun e=>x (kT L g (e▸hi))
    simp[this,e]
   ·exact .inr ⟨k,c,e,z.sameBut f (I.cne y c e)⟩
 ·obtain⟨G,z⟩:=I.cell y c e;exact⟨G,z.sameBut f (I.cne y c e)⟩
 ·obtain⟨e,n,F,R,d⟩:=I.pin p P;exact⟨(f.2 p.1 F).trans e,n,F,R,d⟩
end
def tTry(K:Frg)(c:Value)(i:Nat)(tn:TS)(tr:TRS)(ts:TS):TS:=fun D σ H=>
 tn D σ H\/tr σ H fun σ' cls dd H'=>PySem.W.exmOne K cls c=some true/\∀a,H' a=none->
  ts {nx:=fun σ2 H2=>D.nx (σ2.set i none) H2,rt:=D.rt,bk:=fun σ2 H2=>D.bk (σ2.set i none) H2,ct:=fun σ2 H2=>D.ct (σ2.set i none) H2} (σ'.set i (some (.ref a))) (upd H' a (XcF cls a dd))
theorem j3X{X:Cx}{g w:List Stmt}{b0:Stmt}{x n:Str}{C:Addr}{i:Nat}{np hp pos:Pos}{tn:TS}{tr:TRS}{ts:TS}(O:Flat X)(hN:X.N.Nodup)(hi:X.N[i]?=some n)(hl:X.env.scope.names.lookup n=some .local)
  (hg:Gl X x) (hm:X.mg x=some (.ref C)) (hb:PSs X.nox g tn) (hr:RSs X g tr) (hs:∀A,PSs (X.inExc A) (b0::w) ts) (a7:(x==("__debug__" : Str))=false:=by decide) :
  PS X (.Try g [.ExceptHandler (some (.Name x np)) (some n) (b0::w) hp] [] [] pos) (tTry X.K (.ref C) i tn tr ts):=by
 intro b s σ H D I h;rcases h with h | h
 ·refine wpAny_Try_except (wpAny_mono (hb b s σ H D (I.wish _) h) (fun f s1 q=>?_) fun _ _ z=>False.elim z);have q:=q.unwish;cases f with
  | next=>exact wpAny_execs_nil q
  | ret v=>exact q
  | brk=>exact q
  | cont=>exact q
 ·refine wpAny_Try_except (wpAny_mono (hr b s σ H _ I h) (fun _ _ z=>z.elim) fun e s1 xp=>?_);obtain⟨G,a,R,H',B,dd,rfl,na,I1,nT,Q,M,⟨ac,Z,Y⟩,U,aa⟩:=xp;have J:=Q;rw[O.stk]at J;have T:X.A.frames=some (X.env::X.outer):=by rw[<-O.stk];exact I.ok.frames
  refine xx T O.fr J fun h5 a0 N a3 a5=>?_
  have I5:Inv X b G H' {s1 with heap:=h5}:=I1.landed O M N.1 a3;have a4:Inv (X.inExc (X.A.mark (some (.ref a)))) b G H' {s1 with heap:=h5}:=I5.inExc rfl;have LT:PySem.W.Looks (model X.prog X.w) h5 (typeOf (.ref a)) R:=by
   obtain⟨ob,a9,hc⟩:=N.there;subst hc;exact(PySem.W.Looks.ld a9).andThen .now
  refine wpAny_handleBy_cons (codeAny_handlers_test (zq (X:=X.inExc (X.A.mark (some (.ref a)))) a4 hg hm ?_ a7)) (by intro q;cases q);refine(PySem.W.exm_one I5.kIn LT U).here (codeAny_handlers_suite_as ?_);refine wB N fun h6 S ad a6=>?_
  have I6:Inv X b G H' {s1 with heap:=h6}:=I1.landed O M S.1 (a3.trans ad);obtain⟨oe,ws,l,a1,t,_⟩:=S.first
  have a8:oe.dict=dd:=by
   obtain⟨o1,e1,_,d1⟩:=(a5.trans a6) a ac Z;rw[l]at e1;cases e1;exact d1.trans Y
  have I7:Inv X b G (upd H' a (XcF R a dd)) {s1 with heap:=h6}:=by
   refine I6.known nT na (fun z=>?_) (fun y c e z=>?_) (fun p hp z=>?_) ⟨⟨oe,ws,l,a1,t,a8⟩,⟨oe,l⟩,fun h1 h2 ⟨o,vs,e1,e2,e3,e4⟩ k=>⟨o,vs,k o e1,e2,e3,e4⟩⟩
   ·obtain⟨m,⟨o,es,ep,ho,W,_⟩,_⟩:=I6.loc;have j:h6.get? a=some o:=by rw[z];exact ho
    rw[l]at j;cases j;rw[t]at W;cases W
   ·obtain⟨v,o,ho,W⟩:=I6.cell y c e;have j:h6.get? a=some o:=by rw[<-z];exact ho
    rw[l]at j;cases j;rw[t]at W;cases W
   ·obtain⟨e,nn,ne,nf,_⟩:=I1.pin p hp;have ab:p.1∉frs X.stack:=by
     rw[O.fs];intro zz;rcases mem_cons.mp zz with zz | zz
     ·exact ne zz
     ·exact nf zz
    have:=M p.1 p.2 e (.inr (.inr ⟨p,hp,rfl⟩)) ab;rw[z,Q.2.1]at this;cases this
  refine Kk (X:=X) I7 hN hi (.inl hl) (v:=.ref a) rfl (fun s8 I8=>?_) (.inr hl);refine wpAny_mono (hs (X.A.mark (some (.ref a))) b s8 _ _ _ (I8.inExc rfl) (aa a nT)) (fun f s9 q=>?_) fun _ _ z=>False.elim z
  have F:∀{d:St} {K:Hp},Inv (X.inExc (X.A.mark (some (.ref a)))) b d K s9->(∀P,Inv X b (d.set i none) K P->SP X b D f P)->
    wpAny (model X.prog X.w) X.A (do bindName X.env n .none;unbindBehindTheSuite X.env n hp) (fun _ a2=>SP X b D f a2) X.xe s9:=fun {d K} E k=>j0J (E.outExc I.ok) hN hi hl k
  cases f with
  | next=>obtain⟨d,K,E,q⟩:=q;exact F E fun P L=>⟨_,_,L,q⟩
  | brk=>obtain⟨d,K,E,q⟩:=q;exact F E fun P L=>⟨_,_,L,q⟩
  | cont=>obtain⟨d,K,E,q⟩:=q;exact F E fun P L=>⟨_,_,L,q⟩
  | ret u=>obtain⟨v,d,K,E,r,q⟩:=q;exact F E fun P L=>⟨v,_,_,L,r,q⟩
def tTryJ(K:Frg)(c:Value)(i:Nat)(tn:TS)(tr:TRS)(ts:TS):TS:=fun D σ H=>∃Mid:St->Hp->Prop,tTry K c i tn tr ts {nx:=Mid,rt:=D.rt} σ H/\∀σ' H',Mid σ' H'->D.nx σ' H'
theorem j30{X:Cx}{a b:List Stmt}{j:Stmt}{x n:Str}{C:Addr}{i:Nat}{J E pos:Pos}{l:TS}{m:TRS}{o:TS}(t:Flat X)(u:X.N.Nodup)(hi:X.N[i]?=some n)(z:X.env.scope.names.lookup n=some .local)
  (y:Gl X x) (B:X.mg x=some (.ref C)) (w:PSs X.nox a l) (F:RSs X a m) (G:∀A,PSs (X.inExc A) (j::b) o) (e:(x==("__debug__" : Str))=false:=by decide) :
  PS X (.Try a [.ExceptHandler (some (.Name x J)) (some n) (j::b) E] [] [] pos) (tTryJ X.K (.ref C) i l m o):=by
 intro c s K H D I ⟨r,h,k⟩;refine thn (j3X t u hi z y B w F G e c s K H _ I h) fun f L q=>?_
 cases f with
 | next=>obtain⟨d,g,p,q⟩:=q;exact⟨d,g,p,k d g q⟩
 | ret v=>exact q
 | brk=>obtain⟨_,_,_,q⟩:=q;exact q.elim
 | cont=>obtain⟨_,_,_,q⟩:=q;exact q.elim
open PySem PySem.Spec PyProof.Rows PySem.W
theorem j2w(a:Addr)(f:Option Addr):DK (do
   if(<-field (.ref a) 1) == .none then unsupported "frame.own-activation:exception-without-traceback"
   setFlight (.ref a) f):=by
 refine DK.bind (zB _ _) fun v=>?_
 split
 ·exact DK.bind (.unsupported _) fun _=>q0 _ _
 ·exact q0 _ _
section
variable{X:Cx}{pins pl:List (Addr×Obj)}{σ:St}{E:XK}{e:Value}{s':Shared}
theorem XP.unpinned(h:XP X (pins++pl) σ E e s'):XP X pins σ E e s':=by
 obtain⟨a,d,g,B,i,rfl,r,I,n,c,f,j,k⟩:=h;refine⟨a,d,g,B,i,rfl,r,I.unpinned,n,c,fun b o e q l=>f b o e ?_ l,j,k⟩;rcases q with q | q | ⟨p,m,q⟩
 ·exact .inl q
 ·exact .inr (.inl q)
 ·refine .inr (.inr ⟨p,?_,q⟩);rcases vg.mp m with z | z
  ·exact mem_append_left _ z
  ·exact mem_append_right _ (mem_append_left _ z)
theorem XP.own(F:Flat X)(h:XP X pins σ E e s'):notedBy (model X.prog X.w) X.A X.env (cameBackBy (model X.prog X.w) X.A X.env (XP X pins σ E)) e s':=by
 obtain⟨a,i,t,B,W,rfl,na,I,nT,v,j,⟨N,s,r⟩,hE⟩:=h;have d:=v;rw[F.stk]at d;have n:X.A.frames=some (X.env::X.outer):=by rw[<-F.stk];exact I.ok.frames
 have k:=zF (wu (.ref a) X.env) (j0f (M:=model X.prog X.w) (A:=X.A) (E:=fun _ _=>False) (Q:=fun _ f=>(∃m,Heap.HeldW B (X.env::X.outer) a i m X.env.locals f.heap)/\s'.heap.UpToSlots f.heap/\f={s' with heap:=f.heap}) n F.fr d fun Z m J u=>⟨⟨m,J⟩,u,rfl⟩);refine wpAny_mono k (fun _ f ⟨⟨⟨m,J⟩,u1,y⟩,w⟩=>?_) fun _ _ z=>z.1.elim
 have l:=zF (j2w a X.env.frame) (xS (M:=model X.prog X.w) (A:=X.A) (E:=fun _ _=>False) (Q:=fun _ g=>Heap.HeldW B (X.env::X.outer) a i m X.env.locals g.heap/\f.heap.UpToSlots g.heap/\g={f with heap:=g.heap}) J F.fr fun Z K u=>⟨K,u,rfl⟩);refine wpAny_mono l (fun _ g ⟨⟨c,u2,C⟩,x⟩=>?_) fun _ _ z=>z.1.elim
 have T:=u1.trans u2;obtain⟨k1,_,_⟩:=XP.stays F I j c.1 T;have U:Inv X pins σ t g:=by
  have Y:g={s' with heap:=g.heap}:=C.trans (by
   obtain⟨_,_,_,_,_⟩:=f;injection y with _ q1 q2 q3 q4;subst q1 q2 q3 q4;rfl)
  rw[Y];exact I.landed F j c.1 T
 obtain⟨O,H,_,G⟩:=(w.trans x) a N s;refine⟨a,i,t,B,W,rfl,na,U,nT,⟨c.1,c.2.1,by rw[F.stk];exact c.2.2.1,.inr (.inr ⟨X.env,X.outer,X.env.locals,m,F.stk,F.fr,c.2.2.2⟩)⟩,fun b o e q S=>?_,⟨O,H,G.trans r⟩,hE⟩;have D:∃L,s'.heap.get? b=some L:=by
  rcases q with q | ⟨o0,q⟩ | ⟨p,hp,q⟩
  ·cases q':t b with
   | none=>exact ue q' q
   | some u=>exact(I.hok b u q').has
  ·exact I.base.there b o0 q (by rw[F.ex];simp)
  ·exact⟨p.2,by rw[<-q];exact(I.pin p hp).1⟩
 obtain⟨L,P⟩:=D;have R:=k1 b L P q S;rw[e]at R;cases R;exact j b o P q S
end
theorem XPS.own{X:Cx}{a:List (Addr×Obj)}{E:XS}(F:Flat X):PassesOwn (model X.prog X.w) X.A X.env (XPS X a E):=fun e f ⟨b,d⟩=>by
 refine wpAny_mono (XP.own F d) (fun _ c q=>?_) fun _ c q=>?_
 all_goals exact wpAny_mono q (fun _ _ z=>⟨b,z⟩) fun _ _ z=>⟨b,z⟩
noncomputable def rFor(wi:TI)(g:TG)(tb:TS)(tr:TRS):TRS:=fun σ H E=>wi σ H fun J H1=>∃W:Nat->Nat->St->Hp->Prop,(∃m,W 0 m σ H1)/\∀i m σ H,W i m σ H->
 J.go i H/\∃N:St->Hp->Prop,(∀σ' H',N σ' H'->∃m',m'<m/\W (i+1) m' σ' H')/\∀x H',J.yld i H x H'->g x σ H' fun σ2 H2=>tr σ2 H2 E\/tb {nx:=N,ct:=N,bk:=fun _ _=>False,rt:=fun _ _=>False} σ2 H2
theorem kh{X:Cx}{tg p:PySem.Expr}{k:List Stmt}{wi:TI}{g:TG}{tb:TS}{tr:TRS}{pos:Pos}(fl:Flat X)(hi:PI X.nox tg p wi)(hg:PG X.nox tg g)(l:PSs X.nox k tb)(hr:RSs X k tr)
  (hs:∀x,foldedSetIterable p X.env x=pure x:=by intro _;rfl):RS X (.For tg p k [] pos) (rFor wi g tb tr):=by
 intro a s σ H E I h;have a6:∀{α:Type} {t:Sem α} {Q:α->Shared->Prop} {s0:Shared} {E':Value->Shared->Prop},wpAny (model X.prog X.w) X.A t Q (fun _ _=>False) s0->wpAny (model X.prog X.w) X.A t Q E' s0:=fun z=>wpAny_mono z (fun _ _ y=>y) fun _ _ y=>y.elim
 refine wpAny_For (wpAny_mono (hi a s σ H _ (I.wish _) h) (fun v s1 h1=>wpAny_mono h1 (fun a7 s2 h2=>?_) fun _ _ z=>False.elim z) fun _ _ z=>False.elim z) hs;obtain⟨it,K,tn,J,H2,e,Z,T,a4,U,W,⟨m0,w0⟩,P⟩:=h2;subst e;have Z:=Z.unwish;have U:∀b∈K,FpOk X a H2 b:=U;have B:∀{w:Hp},(∀b∈K,w b=none)->∀b∈K,FpOk X a w b:=fun hn b l=>⟨hn b l,(U b l).2⟩
 refine codeAny_forLoop_any (fun n s'=>∃i q w,Inv X a q w s'/\tn i s'.heap/\(∀b∈K,w b=none)/\W i n q w) ?_ m0 ⟨0,σ,H2,Z,a4,fun b l=>(U b l).1,w0⟩;rintro n s3 ⟨i,G,H3,I3,a5,a1,w3⟩;obtain⟨go,N,hN,O⟩:=P i n G H3 w3;refine wpAny_mono (T.item X.nox rfl rfl rfl fl.calm i a s3 G H3 (fun _ _=>False) (I3.wish _) (B a1) a5 go) (fun r s4 ⟨u,a3,h4⟩=>?_) fun _ _ z=>z.elim
 subst a3;refine wpAny_mono h4 (fun _ s5 ⟨x,H5,I5,r5,y5,F,a2⟩=>?_) fun _ _ z=>z.elim
 have a0:=(I5.unwish).pinned (B a2) (T.obj _ _ F);refine wpAny_mono (hg _ s5 G H5 x u _ (a0.wish _) r5 (O x H5 y5)) (fun _ s6 ⟨R,H6,S,M⟩=>?_) fun _ _ z=>False.elim z
 have S:=S.unwish;rcases M with M | M
 ·refine wpAny_passesOwn (XPS.own fl) (wpAny_mono (hr _ s6 R H6 E S M) (fun _ _ z=>z.elim) fun e Y ⟨c,xp⟩=>⟨c,xp.unpinned⟩)
 ·refine wpAny_mono (l _ s6 R H6 _ (S.wish _) M) (fun f Y A=>?_) fun _ _ z=>False.elim z
  have j:∀{c:St} {C:Hp},Inv X (a++pinsAt K s5.heap) c C Y->N c C->∃m,m<n/\∃i q w,Inv X a q w Y/\tn i Y.heap/\(∀b∈K,w b=none)/\W i m q w:=fun {c C} D L=>by
   obtain⟨m',hm,w7⟩:=hN c C L;refine⟨m',hm,i+1,c,C,D.unpinned,T.keep _ _ _ F fun b l o e=>(D.pin (b,o) (mem_append_right _ (mem_append_right _ (Qz l e)))).1,fun b l=>?_,w7⟩;obtain⟨o,e,d⟩:=T.obj _ _ F b l;exact(D.pin (b,o) (mem_append_right _ (mem_append_right _ (Qz l e)))).2.1
  cases f with
  | next=>obtain⟨c,C,D,L⟩:=A;exact j D.unwish L
  | cont=>obtain⟨c,C,D,L⟩:=A;exact j D.unwish L
  | brk=>obtain⟨_,_,_,A⟩:=A;exact A.elim
  | ret v=>obtain⟨_,_,_,_,_,A⟩:=A;exact A.elim
theorem KZ{K:Frag}{a:Addr}{xs:List V}{g:TG}{n:TS}{r:TRS}{E:XS}{c:St}{H:Hp}(k:Nat)(B:k<xs.length)(f:Nat->St->Hp->Prop)(s:f 0 c H)(w:∀i c H,i<=k->f i c H->SqL K H a xs)
  (z:∀i v c H T H',i<=k->xs[i]?=some v->f i c H->Same H H'->H' T=some (.tup [.int i,v])->g (.ref T) c H' fun d H2=>r d H2 E\/n {nx:=fun σ' H'=>i<k/\f (i+1) σ' H',ct:=fun σ' H'=>i<k/\f (i+1) σ' H',bk:=fun _ _=>False,rt:=fun _ _=>False} d H2) :
  ∃W:Nat->Nat->St->Hp->Prop,(∃m,W 0 m c H)/\∀i m c H,W i m c H->
   (Ite K a).go i H/\∃N:St->Hp->Prop,(∀σ' H',N σ' H'->∃l,l<m/\W (i+1) l σ' H')/\∀x H',(Ite K a).yld i H x H'->g x c H' fun d H2=>r d H2 E\/n {nx:=N,ct:=N,bk:=fun _ _=>False,rt:=fun _ _=>False} d H2:=by
 refine⟨fun i m c H=>m=k-i/\i<=k/\f i c H,⟨k,by simp,vC _,s⟩,?_⟩;rintro i m c H ⟨rfl,j,p⟩;have q:=w i c H j p;refine⟨⟨xs,xs[i],q,by rw[vz (by lia)]⟩,fun σ' H'=>i<k/\f (i+1) σ' H',fun σ' H' ⟨t,A⟩=>⟨k-(i+1),by lia,rfl,t,A⟩,fun x H' y=>?_⟩;obtain⟨T,v,rfl,u,e,y⟩:=y;exact z i v c H T H' j (y xs q) p (fun b o h=>by rw[e,jg (jd h u)];exact h) (by rw[e];exact ji)
noncomputable def rOr(a b:TRS):TRS:=fun σ H E=>a σ H E\/b σ H E
theorem Yx{X:Cx}{st:Stmt}{b:List Stmt}{d e:TRS}{c:TS}(g:RS X st d)(i:PS X.nox st c)(j:RSs X b e):RSs X (st::b) (rOr d (rSeq c e)):=fun a s f H E I h=>by
 rcases h with h | h
 ·exact jD g a s f H E I h
 ·exact JK i j a s f H E I h
theorem kc{f:TI}{g:TG}{d:TS}{e:TRS}{a:St}{H:Hp}{E:XS} (h:f a H fun J H1=>∃W:Nat->Nat->St->Hp->Prop,(∃m,W 0 m a H1)/\∀i m a H,W i m a H->
 J.go i H/\∃N:St->Hp->Prop,(∀σ' H',N σ' H'->∃c,c<m/\W (i+1) c σ' H')/\∀x H',J.yld i H x H'->g x a H' fun b H2=>e b H2 E\/d {nx:=N,ct:=N,bk:=fun _ _=>False,rt:=fun _ _=>False} b H2):rFor f g d e a H E:=h
theorem Xt{K:Frag}{a:Addr}{xs:List V}{g:TG}{n:TS}{r:TRS}{E:XS}{c:St}{H:Hp}(k:Nat)(B:k<xs.length)(f:Nat->St->Hp->Prop)(s:f 0 c H)(w:∀i c H,i<=k->f i c H->SqL K H a xs)
  (z:∀i v c H T H',i<=k->xs[i]?=some v->f i c H->Same H H'->H' T=some (.tup [.int (i+1),v])->g (.ref T) c H' fun d H2=>r d H2 E\/n {nx:=fun σ' H'=>i<k/\f (i+1) σ' H',ct:=fun σ' H'=>i<k/\f (i+1) σ' H',bk:=fun _ _=>False,rt:=fun _ _=>False} d H2) :
  ∃W:Nat->Nat->St->Hp->Prop,(∃m,W 0 m c H)/\∀i m c H,W i m c H->
   (Ite1 K a).go i H/\∃N:St->Hp->Prop,(∀σ' H',N σ' H'->∃l,l<m/\W (i+1) l σ' H')/\∀x H',(Ite1 K a).yld i H x H'->g x c H' fun d H2=>r d H2 E\/n {nx:=N,ct:=N,bk:=fun _ _=>False,rt:=fun _ _=>False} d H2:=by
 refine⟨fun i m c H=>m=k-i/\i<=k/\f i c H,⟨k,by simp,vC _,s⟩,?_⟩;rintro i m c H ⟨rfl,j,p⟩;have q:=w i c H j p;refine⟨⟨xs,xs[i],q,by rw[vz (by lia)]⟩,fun σ' H'=>i<k/\f (i+1) σ' H',fun σ' H' ⟨t,A⟩=>⟨k-(i+1),by lia,rfl,t,A⟩,fun x H' y=>?_⟩;obtain⟨T,v,rfl,u,e,y⟩:=y;exact z i v c H T H' j (y xs q) p (fun b o h=>by rw[e,jg (jd h u)];exact h) (by rw[e];exact ji)
structure ExcI(K:Frag)(C:Addr):Prop where
 ga:findIn K (.ref C) "__getattribute__"= some (some (.builtin "BaseException.__getattribute__"))
 nh:findIn K (.ref C) "__getattr__"= some none
 cls:findIn K (.ref C) "__class__"= some (some (.builtin "object.__class__"))
 base:subIn K (.ref C) (.type "BaseException")=some true
 obj:subIn K (.ref C) (.type "object")=some true
 is:isClsIn K C=true
section
variable{prog:Program}{w:World}{A:Around}{E:Value->Shared->Prop}{K:Frag}{C a:Addr}
theorem xn{M:Model}{h:Heap}{cls:Value}(p:xcO cls a h):Looks M h (typeOf (.ref a)) cls:=by
 obtain⟨o,d,b,c,_⟩:=p;exact c▸(Looks.ld b).andThen .now
theorem j48{R:Result->Shared->Prop}{h:Heap}{g:Array GenState}{d:Drawn}{t:Nat}{c:OsState}(Z:ExcI K C)(X:K.In h)(p:xcO (.ref C) a h)(i:R (.ok (.ret (.ref C))) ⟨h,g,d,t,c⟩) :
  codeAny (model prog w) A (.call (.builtin "getset_descriptor.__get__") ⟨[.builtin "object.__class__",.ref a,.ref C],[]⟩) R ⟨h,g,d,t,c⟩:=by
 have e:Looks (model prog w) h (typeOf (.ref a)) (.ref C):=xn p;have b:(⟨h,g,d,t,c⟩:Shared).TypeIs (.builtin "object.__class__") "getset_descriptor":=F.typeOf_object_class;have f:Looks (model prog w) h (isSubtype (.ref C) (.type (".".intercalate ("object.__class__".cutAt '.').dropLast))) true:=by rw[F.owner_object_class];exact looks_subIn X Z.obj
 refine codeAny_call_builtin F.slot_gs_get.plain F.entry_gs_get (F.slot_gs_get.check _ _ _ _ _ _ _ _ b (F.args_gs_get _ _ _) ?_)
 repeat (any_goals (first | assumption | with_reducible refine Looks.at e ?_ | with_reducible refine Looks.at f ?_ | wp_step))
 refine⟨Code.quiet_builtin _ (by decide +kernel),codeAny_builtin F.entry_object_class ?_⟩
 repeat (any_goals (first | assumption | with_reducible refine Looks.at e ?_ | wp_step))
theorem j2o{i:Tok}{Q:Fin->Shared->Prop}{h:Heap}{g:Array GenState}{d:Drawn}{t:Nat}{b:OsState}(Z:ExcI K C)(X:K.In h)(p:xcO (.ref C) a h)(m:Q (.done (.ret (.ref C))) ⟨h,g,d,t,b⟩) :
  wpAny (model prog w) A (Builtin.«object.__getattribute__» ⟨[.ref a,.str "__class__" i],[]⟩) Q E ⟨h,g,d,t,b⟩:=by
 have c:Looks (model prog w) h (typeOf (.ref a)) (.ref C):=xn p;have e:=looks_findIn (M:=model prog w) X Z.cls;have f:(⟨h,g,d,t,b⟩:Shared).TypeIs (.builtin "object.__class__") "getset_descriptor":=F.typeOf_object_class;have j:=F.typeOf_object_class;have k:=F.slot_gs_get.lookup;have l:=F.slot_gs_set.lookup
 repeat (any_goals (first | assumption | with_reducible refine Looks.at c ?_ | with_reducible refine Looks.at e ?_ | wp_step))
 refine j48 Z X p ?_
 repeat (any_goals (first | assumption | wp_step))
theorem j2m{M:Model}{b:Value}{Q:Unit->Shared->Prop}{h:Heap}{g:Array GenState}{d:Drawn}{t:Nat}{e:OsState}(Z:ExcI K C)(X:K.In h)(p:xcO (.ref C) a h)(k:Q () ⟨h,g,d,t,e⟩) :
  wpAny M A (checkBuiltinCall "BaseException.__getattribute__" ⟨[.ref a,b],[]⟩) Q E ⟨h,g,d,t,e⟩:=by
 have j:builtinKind "BaseException.__getattribute__"= some .slot:=by decide +kernel
 have c:splitId "BaseException.__getattribute__"= some ("BaseException","__getattribute__"):=by decide +kernel
 have f:Looks M h (typeOf (.ref a)) (.ref C):=xn p;have i:Looks M h (isSubtype (.ref C) (.type "BaseException")) true:=looks_subIn X Z.base;have l:=F.args_bexc_ga (.ref a) b;simp only[checkBuiltinCall,j,c];refine ug ?_;unfold isInstance
 repeat (first | with_reducible refine Looks.at f ?_ | with_reducible refine Looks.at i ?_ | wp_step)
 exact k
theorem j2n{Q:Option Value->Shared->Prop}{s:Shared}(Z:ExcI K C)(X:K.In s.heap)(p:xcO (.ref C) a s.heap)(q:Q (some (.ref C)) {s with toks:=s.toks+1}) :
  wpAny (model prog w) A (getAttr? (.ref a) "__class__") Q E s:=by
 obtain⟨h,g,d,t,i⟩:=s;have c:Looks (model prog w) h (typeOf (.ref a)) (.ref C):=xn p;have e:=looks_findIn (M:=model prog w) X Z.ga;have L2:=looks_findIn (M:=model prog w) X Z.nh;have f:=F.attr_ValueError.ga.bind (.ref a);have b:(Value.builtin "BaseException.__getattribute__"== Value.builtin "object.__getattribute__")=false:=by decide +kernel
 unfold getAttr? getAttrBy? getAttrBy;refine ug (wpAny_mkText (ug (wpAny_attempt (wpAny_holding (ug (c.at (ug (e.at ?_))))))));dsimp only;rw[show(onTheHeap (Value.ref C)&&Value.builtin "BaseException.__getattribute__"== Value.builtin "object.__getattribute__")=false from by rw[b];rfl];simp only[Bool.false_eq_true,if_false];unfold getAttrByItsOwn hookBefore;rw[show onTheHeap (Value.ref C)=true from rfl];simp only[if_true];refine ug (L2.at ?_);refine ug (wpAny_attempt (wpAny_holding ?_));unfold callGetattribute;simp only[Bool.false_and,Bool.false_eq_true,if_false];unfold boundAndCalled
 repeat (any_goals (first | assumption | wp_step))
 refine codeAny_call_builtin F.attr_ValueError.ga.plain F.entry_bexc_ga (j2m Z X p (j2o Z X p ?_))
 repeat (any_goals (first | assumption | wp_step))
theorem j1y(Z:ExcI K C):KitX K (.ref a) (.ref C) (xcO (.ref C) a) where
 ty:=fun _ _ _ p=>xn p
 it:=fun _ _ X _=>by
  have b:(clsIn K C).isSome=true:=Z.is;unfold clsIn at b;split at b
  ·rename_i c' d' cd' sl' ho;intro g j i m k q;unfold isType loadHead;exact ug (wpAny_loadPart (k _ _ (X _ _ ho)) (uf q))
  ·cases b
 ne:=fun h f l d n o X c=>by
  have b:(clsIn K C).isSome=true:=Z.is;refine Bool.eq_false_iff.mpr fun q=>?_
  have e:C=f:=Value.ref.inj (beq_iff_eq.mp q);subst e;unfold clsIn at b;split at b
  ·rename_i c' d' cd' sl' ho;have z:=(X _ _ ho).symm.trans c;cases z
  ·cases b
 ca:=fun X p k=>j2n Z X p k
end
section
variable{X:Cx}
def rIsiE(K:Frag)(xs:List V)(H:Hp)(Q:VK):Prop:=∃a C dd d u b,xs=[.ref a,d]/\H a=some (XcF (.ref C) a dd)/\ExcI K C/\RelV d u/\kitOne K (.ref C) u=some b/\Q (.bl b) H
theorem Q8:CallR X (.builtin "isinstance") (rIsiE X.K):=by
 intro l s E H B A Q I r h;obtain⟨a,C,m,d,u,b,rfl,o,Z,g,e,q⟩:=h;obtain⟨v,c,rfl,w,f⟩:=vals2 r;cases(show v=Value.ref a from w);obtain⟨p,_,_⟩:=(show ObjOk X.prog X.w H s.heap a (XcF (.ref C) a m)from I.hok a _ o)
 have n:kitOne X.K (.ref C) c=some b:=by
  cases d with
  | ref D=>cases(show c=Value.ref D from f);cases(show u=Value.ref D from g);exact e
  | ty T=>cases(show c=Value.type T from f);cases(show u=Value.type T from g);exact e
  | non=>cases(show u=Value.none from g);cases(show c=Value.none from f);exact e
  | bl y=>cases(show u=Value.bool y from g);cases(show c=Value.bool y from f);exact e
  | int i=>obtain⟨t,z⟩:=(show∃t,u=Value.int i t from g);obtain⟨k,j⟩:=(show∃t,c=Value.int i t from f);subst z j;unfold kitOne at e|-;rw[vA (by intro h;cases beq_iff_eq.mp h)]at e|-;exact e
  | str i=>obtain⟨t,z⟩:=(show∃t,u=Value.str i t from g);obtain⟨k,j⟩:=(show∃t,c=Value.str i t from f);subst z j;unfold kitOne at e|-;rw[vA (by intro h;cases beq_iff_eq.mp h)]at e|-;exact e
  | byt i=>obtain⟨t,z⟩:=(show∃t,u=Value.bytes i t from g);obtain⟨k,j⟩:=(show∃t,c=Value.bytes i t from f);subst z j;unfold kitOne at e|-;rw[vA (by intro h;cases beq_iff_eq.mp h)]at e|-;exact e
  | flt i=>obtain⟨t,z⟩:=(show∃t,u=Value.float i t from g);obtain⟨k,j⟩:=(show∃t,c=Value.float i t from f);subst z j;unfold kitOne at e|-;rw[vA (by intro h;cases beq_iff_eq.mp h)]at e|-;exact e
 exact kia_one (j1y Z) I.kIn p.xc n (fun z=>nomatch z) fun x=>⟨.bl b,H,I.tok _,rfl,q⟩
theorem ZW{a C:Addr}{dd:Option Addr}{d:V}{u:Value}{b:Bool}{K:Frag}{H:Hp}{Q:VK}(c:H a=some (XcF (.ref C) a dd))(Z:ExcI K C)(e:kitOne K (.ref C) u=some b)(q:Q (.bl b) H)(f:RelV d u:=by rfl):rIsiE K [.ref a,d] H Q:=⟨a,C,dd,d,u,b,rfl,c,Z,f,e,q⟩
theorem Kr:bootBuiltins "ValueError"= some (.type "ValueError"):=by decide +kernel
theorem qy{t:TRS}{a σ':St}{H:Hp}{E:XS}(e:a=σ')(h:t σ' H E):t a H E:=by subst e;exact h
theorem Jx{a:TS}{b:TRS}{c:St}{H:Hp}{E:XS}(h:a {nx:=fun σ' H'=>b σ' H' E,rt:=fun _ _=>False} c H):rSeq a b c H E:=h
theorem QE{e:TT}{c d:TRS}{a:St}{H:Hp}{E:XS}(h:e a H fun b H1=>if b=true then c a H1 E else d a H1 E):rIf e c d a H E:=h
theorem KY{t:TRE}{a:St}{H:Hp}{E:XS}(h:t a H (E a)):rE t a H E:=h
theorem yZ{sp:Sp}{a:List V}{t:TA}{b:St}{H:Hp}{E:XK}(h:t b H fun vs H1=>sp (vs++a) H1 (fun _ _=>False) E):rCall sp a t b H E:=h
theorem W0{C:Addr}{m:Str}{sp:Sp}{b:List V}{d:TE}{t:TA}{c:St}{H:Hp}{E:XK} (h:d c H fun x H1=>∃a dx fs,x = .ref a/\H1 a=some (.ins C dx fs)/\fs.lookup m=none/\
 t c H1 fun vs H2=>sp (x::(vs++b)) H2 (fun _ _=>False) E):rMeth C m sp b d t c H E:=h
theorem j33{K:Frag}{c:Value}{i:Nat}{a:TS}{d:TRS}{e:TS}{D:Ends}{b:St}{H:Hp}(h:a D b H):tTry K c i a d e D b H:=.inl h
theorem j06{K:Frag}{c:Value}{i:Nat}{g:TS}{d:TRS}{e:TS}{D:Ends}{f:St}{H:Hp} (h:d f H fun σ' cls dd H'=>exmOne K cls c=some true/\∀a,H' a=none->
  e {nx:=fun b H2=>D.nx (b.set i none) H2,rt:=D.rt,bk:=fun b H2=>D.bk (b.set i none) H2,ct:=fun b H2=>D.ct (b.set i none) H2} (σ'.set i (some (.ref a))) (upd H' a (XcF cls a dd))):tTry K c i g d e D f H:=.inr h
end
section
variable{X:Cx}{e:PySem.Expr}{es:List PySem.Expr}{te:TE}{t:TRE}{f:Addr}{x:Str}{p pos:Pos}
end
end L2
namespace PySem
section
variable{prog:Program}{w:World}{A:Around}{E:Value->Shared->Prop}{h:Heap}{g:Array GenState}{d:Drawn}{t:Nat}{os:OsState}
variable{nm q:Str}{C N:Addr}{bs bm bmB:List Value}{hdct:Bool}{sn:List Str}{sub:List Value}{ab:Bool}{col:Option Bool}{dd:Option Addr}{k0 k1 k2 k3 k5:Option Value}{B newId initId:String}
theorem Z5(F:ExcBaseFacts B newId initId bmB)(T:OwnTail h bmB bm){mN:Str->Option Value}{a:List Value}{m:Addr}{oI:Obj}{Q:Fin->Shared->Prop}
  (l:h.get? C=some (excClassObj nm q C N bs bm hdct sn sub ab col dd k0 k1 k2 k3 k5 newId)) (y:h.Ns N mN) (hi:mN "__init__"= some (.ref m))
  (p:h.get? m=some oI) (s:oI.cls = .type "function")
  (z:∀h' e,Heap.MadeExcOf h h' e (.ref C) a->
   wpAny (model prog w) A (call (.ref m) (.ref e::a)) (fun r s'=>r = .none/\Q (.done (.ret (.ref e))) s') E ⟨h',g,d,t,os⟩) (hrest:a.length<=sizeLine:=by size_fits) :
  wpAny (model prog w) A (Builtin.«type.__call__» ⟨.ref C::a,[]⟩) Q E ⟨h,g,d,t,os⟩:=by
 repeat (first | with_reducible refine wpAny_loadPart_at l ?_ | with_reducible refine wpAny_madeBy_exc l ?_ | wp_step)
 refine codeAny_call_builtin_code (Code.quiet_builtin _ F.quiet) (wpAny_check_new_subT F T l ?_);refine codeAny_exc_new_subT F T l ?_ hrest;show wpAny _ _ _ _ _ _;have c:=vN {cls:=.ref C,data:=.fields #[.ref h.objs.size,.none,.none,.none,.bool false,.none]}
  (vN {cls:=.type "tuple",data:=.seq a.toArray} l)
 have f:=vN {cls:=.ref C,data:=.fields #[.ref h.objs.size,.none,.none,.none,.bool false,.none]}
  (vN {cls:=.type "tuple",data:=.seq a.toArray} p)
 have j:((h.push {cls:=.type "tuple",data:=.seq a.toArray}).push {cls:=.ref C,data:=.fields #[.ref h.objs.size,.none,.none,.none,.bool false,.none]}).Ns N mN:=
  let ⟨o,es,ep,e,r⟩:=y;⟨o,es,ep,vN _ (vN _ e),r⟩
 have i:((h.push {cls:=.type "tuple",data:=.seq a.toArray}).push
   {cls:=.ref C,data:=.fields #[.ref h.objs.size,.none,.none,.none,.bool false,.none]}).get? (h.objs.size+1)=some
   {cls:=.ref C,data:=.fields #[.ref h.objs.size,.none,.none,.none,.bool false,.none]}:=by heap_get
 have n:(Value.ref C::bm).contains (.ref C)=true:=by simp
 have k:=T.keeps (h':=(h.push {cls:=.type "tuple",data:=.seq a.toArray}).push {cls:=.ref C,data:=.fields #[.ref h.objs.size,.none,.none,.none,.bool false,.none]})
  fun b o e=>vN _ (vN _ e)
 unfold isInstance
 repeat (first | with_reducible refine wpAny_loadPart_at i ?_ | (with_reducible refine wpAny_isSubtype_exc c ?_;rw[n]) | wp_step)
 show wpAny _ _ (typeLookup (.ref C) _) _ _ _;refine wpAny_typeLookup_tail c j k F.mroIs F.init.lookup ?_;rw[hi];refine wpAny_holding (ug ?_);unfold bindSpecial;refine ug (wpAny_typeOf (T:="function") ⟨_,f,s⟩ ?_);rw[va (by decide)];refine uf (ug (wpAny_mono (z _ (h.objs.size+1) ⟨fun b o v=>vN _ (vN _ v),Heap.get?_none_of_le (Nat.le_succ _),h.objs.size,i,Heap.get?_none_of_le (vB _),?_⟩) (fun r s' D=>?_) fun _ _ x=>x))
 ·exact vN _ (Heap.get?_push_at rfl rfl)
 ·obtain⟨rfl,u⟩:=D
  wp_walk
  exact u
theorem kC(F:ExcBaseFacts B newId initId bmB)(T:OwnTail h bmB bm){mN:Str->Option Value}{a:List Value}{c:Addr}{oI:Obj}{Q:Value->Shared->Prop}
  (b:h.get? C=some (excClassObj nm q C N bs bm hdct sn sub ab col dd k0 k1 k2 k3 k5 newId)) (k:h.Ns N mN) (hi:mN "__init__"= some (.ref c))
  (f:h.get? c=some oI) (i:oI.cls = .type "function")
  (l:∀h' e,Heap.MadeExcOf h h' e (.ref C) a->
   wpAny (model prog w) (A.under (.builtin "type.__call__" ⟨.ref C::a,[]⟩)) (call (.ref c) (.ref e::a)) (fun r s'=>r = .none/\Q (.ref e) s') E ⟨h',g,d,t,os⟩) (hrest:a.length<=sizeLine:=by size_fits) :
  wpAny (model prog w) A (call (.ref C) a) Q E ⟨h,g,d,t,os⟩:=by
 have m:=tc_lookup;have n:=tc_bind (.ref C);have o:(⟨h,g,d,t,os⟩:Shared).TypeIs (.ref C) "type":=⟨_,b,rfl⟩
 refine wpAny_call (codeAny_of_tree ?_);show wpAny _ _ (callAny (.ref C) _) _ _ _
 repeat (any_goals (first | assumption | with_reducible refine wpAny_loadPart_at b ?_ | wp_step))
 refine⟨rfl,?_⟩;refine codeAny_call_builtin_at (Code.quiet_builtin _ (by decide +kernel)) entry_typeCall (wpAny_check_type_call_sub b (Z5 (hrest:=hrest) F T b k hi f i fun h' e j=>?_));exact l h' e j
end
end PySem
namespace L2
open PySem PySem.Spec PyProof.Rows PySem.W PySem.Builtin PySem.Builtin.ObjectAttr
noncomputable def overVE:List Value->Bool
 | [.type a,.type b,.type c,.type d]=>a == "ValueError" && b == "Exception" && c == "BaseException" && d == "object"
 | .ref _::r=>overVE r
 | _=>false
theorem Yv(f:Value):∀{l:List Value},overVE l=true->refuseLoop f "__setattr__" l=pure ()/\l.contains (.type "object")=true/\l.isEmpty=false
 | [.type a,.type b,.type c,.type d],e=>by
  unfold overVE at e;simp only[Bool.and_eq_true,beq_iff_eq]at e;obtain⟨⟨⟨rfl,rfl⟩,rfl⟩,rfl⟩:=e;exact⟨PySem.F.store_ValueError.passes f,by decide +kernel,rfl⟩
 | .ref c::r,e=>by
  obtain⟨g,h,_⟩:=Yv f (l:=r) (by cases r<;>first | exact e | cases e);exact⟨by rw[refuseLoop_ref];exact g,by rw[List.contains_cons,h,Bool.or_true],rfl⟩
noncomputable def xovIn(K:Frag)(C:Addr):Bool:=(clsIn K C).any (fun cd=>overVE cd.mro&&cd.hasDict)
structure ExcF(K:Frag)(C:Addr):Prop where
 i:ExcI K C
 sa:findIn K (.ref C) "__setattr__"= some (some (.builtin "object.__setattr__"))
 ov:xovIn K C=true
section
variable{prog:Program}{w:World}{A:Around}{E:Value->Shared->Prop}{K:Frag}{C x:Addr}{h:Heap}{g:Array GenState}{d:Drawn}{t:Nat}{os:OsState}{mA:Str->Option Value}{name:Str}{v:Value}
theorem yP{M:Model}(I:h.Inst x C mA):Looks M h (typeOf (.ref x)) (.ref C):=by
 obtain⟨o,a,b,_⟩:=I;exact b▸(Looks.ld a).andThen .now
theorem j4u{Y:Tok}{Q:Fin->Shared->Prop}{ns:List Str}(X:K.In h)(Z:ExcF K C)(ha:findIn K (.ref C) name=some none)(I:h.Inst x C mA)
  (hq:∀h' a0,h'.Inst x C (fun y=>if y=name then some v else mA y)->
   (∀b o,b≠x->(∀a dx,h.get? x=some a->a.dict=some dx->b≠dx)->h.get? b=some o->h'.get? b=some o)->
   (∀a,h.get? x=some a->∃f,h'.get? x=some f/\f.cls=a.cls/\f.data=a.data/\f.slots=a.slots/\(∀dx,a.dict=some dx->f.dict=some dx)/\(a.dict=none->f.dict=some h.objs.size))->Q (.done (.ret .none)) ⟨h',g,d,a0,os⟩) (hw:Within mA ns) (hsz:ns.length<sizeLine) :
  wpAny (model prog w) A (Builtin.«object.__setattr__» ⟨[.ref x,.str name Y,v],[]⟩) Q E ⟨h,g,d,t,os⟩:=by
 obtain⟨cd,hc,H⟩:=any_some Z.ov;rw[Bool.and_eq_true]at H;obtain⟨H,O⟩:=H;obtain⟨r1,r2,r3⟩:=Yv (.ref x) H;have hm:Looks (model prog w) h (mroOf (.ref C)) cd.mro:=(looks_clsIn X hc).andThen .now;have LT:Looks (model prog w) h (typeOf (.ref x)) (.ref C):=yP I;rw[osa_eq,refuse_eq];refine ug (ug (LT.here (ug (hm.here ?_))));rw[r1];refine uf (ug (LT.here (ug ((looks_findIn X ha).here (ug ?_)))));refine uf ?_;dsimp only;obtain⟨o,m,p,r,hd⟩:=I;refine ug (uf (ug (ug (wpAny_loadPart m ?_))));dsimp only;rw[p];refine ug ((looks_clsIn X hc).here ?_);rw[O];rw[vA (by decide)];rcases hd with⟨D,S⟩ | ⟨dx,l,s,U⟩
 ·rw[D,vA (by simp[typeHasDict])];split
  ·rename_i hcd;cases hcd
  split
  ·rename_i c hcd;exact ue hcd (r c)
  ·have k:(h.push {cls:=.type "dict",data:=.dict #[]}).get? x=some o:=vN _ m;have z:x≠h.objs.size:=vI (vM m);refine ug (wpAny_alloc' ?_);refine ug (wpAny_update' k ?_);refine uf ?_;have R:((h.push {cls:=.type "dict",data:=.dict #[]}).update x fun o=>{cls:=o.cls,dict:=some h.objs.size,data:=o.data,slots:=o.slots}).get? h.objs.size
     = some {cls:=.type "dict",data:=.dict #[]}:=
    (Heap.get?_update_ne _ _ _ _ z.symm).trans (Heap.get?_push_at rfl rfl)
   have T:((h.push {cls:=.type "dict",data:=.dict #[]}).update x fun o=>{cls:=o.cls,dict:=some h.objs.size,data:=o.data,slots:=o.slots}).Ns h.objs.size (fun _=>none):=
    ⟨_,#[],_,R,rfl,fun e he=>ue he (by simp),fun _=>rfl⟩
   show wpAny _ _ (storeInDict h.objs.size (.str name Y) name v) _ _ _;unfold storeInDict newKeyGuard;refine ug (uf (ug (wpAny_nsSet1 (Heap.Ns1.of_empty T) fun h' j B=>?_)));obtain⟨oD,L,J,u,q,n⟩:=j.count (Within.cons name v Within.nil);refine ug (wpAny_lookBehind u (by rw[q];exact pastItsLine_dict (vZ n (by rw[vT,length_nil,sizeLine_eq];lia))) ?_)
   wp_walk
   have F:h'.get? x=some {cls:=o.cls,dict:=some h.objs.size,data:=o.data,slots:=o.slots}:=?_;refine hq h' _ ⟨{cls:=o.cls,dict:=some h.objs.size,data:=o.data,slots:=o.slots},F,p,r,.inr ⟨h.objs.size,rfl,z.symm,?_⟩⟩ (fun b ob N _ G=>?_)
    (fun a i=>by obtain rfl:o=a:=vP (m.symm.trans i);exact⟨_,F,rfl,rfl,rfl,(fun dx e=>by rw[D]at e;cases e),fun _=>rfl⟩)
   ·obtain⟨o',es,ep,e1,e2,e3,eu,e4⟩:=j;exact⟨o',es,ep,e1,e2,e3,eu,fun y=>by rw[e4 y];by_cases hy:y=name<;>simp[hy,S]⟩
   ·exact(B.2 b (vI (vM G))).trans ((Heap.get?_update_ne _ _ _ _ N).trans (vN _ G))
   ·refine(B.2 x z).trans (Heap.get?_update_self _ k ?_);have P:=(Heap.get?_some_iff.mp m).2;obtain⟨oc,od,W,a1⟩:=o;cases W<;>first | rfl | exact P
 ·rw[l];refine uf ?_;show wpAny _ _ (storeInDict dx (.str name Y) name v) _ _ _;unfold storeInDict newKeyGuard;refine ug (uf (ug (wpAny_nsSet1 U fun h' j B=>?_)));obtain⟨oD,L,J,u,q,n⟩:=j.count (Within.cons name v hw);refine ug (wpAny_lookBehind u (by rw[q];exact pastItsLine_dict (vZ n (by rw[vT];lia))) ?_)
  wp_walk
  refine hq h' _ ⟨o,(B.2 x s.symm).trans m,p,r,.inr ⟨dx,l,s,j⟩⟩ (fun b ob _ M G=>?_)
   (fun a i=>⟨a,(B.2 x s.symm).trans i,rfl,rfl,rfl,(fun _ e=>e),fun e=>by rw[m]at i;cases i;rw[l]at e;cases e⟩)
  exact(B.2 b (M o dx m l)).trans G
theorem j3n{Q:Unit->Shared->Prop}{ns:List Str}(X:K.In h)(Z:ExcF K C)(p:findIn K (.ref C) name=some none)(I:h.Inst x C mA)
  (r:∀h' j,h'.Inst x C (fun y=>if y=name then some v else mA y)->
   (∀b o,b≠x->(∀f dx,h.get? x=some f->f.dict=some dx->b≠dx)->h.get? b=some o->h'.get? b=some o)->
   (∀f,h.get? x=some f->∃i,h'.get? x=some i/\i.cls=f.cls/\i.data=f.data/\i.slots=f.slots/\(∀dx,f.dict=some dx->i.dict=some dx)/\(f.dict=none->i.dict=some h.objs.size))->Q () ⟨h',g,d,j,os⟩) (hw:Within mA ns) (hsz:ns.length<sizeLine) :
  wpAny (model prog w) A (setAttr (.ref x) name v) Q E ⟨h,g,d,t,os⟩:=by
 have k:=PySem.F.store_object;obtain⟨z,q,n⟩:=any_some Z.ov;rw[Bool.and_eq_true]at n;obtain⟨B,s,u⟩:=Yv (.ref x) n.1;have m:Looks (model prog w) h (typeOf (.ref x)) (.ref C):=yP I;have l:Looks (model prog w) h (isInstance (.ref x) (.type "object")) true:=m.andThen (looks_mroIn X (by unfold mroIn;rw[q,Option.bind_some,vA (by rw[u];decide),s]));refine ug (wpAny_mkText (ug (ug (ug (m _ _ _ _ (fun _ _ e=>e) (looks_findIn X Z.sa _ _ _ _ (fun _ _ e=>e) (wpAny_holding ?_)))))));rw[k.slot.bind];refine ug (uf (ug (wpAny_call ?_)));refine codeAny_call_builtin k.slot.plain k.entry (@check_slot (model prog w) _ _ ⟨h,g,d,_,os⟩ "object.__setattr__" "object" "__setattr__" (.ref x) [.str name _,v] [] _ k.kind k.split l (k.args (.ref x) (.str name _) v) ?_);refine j4u X Z p I (fun h' j a b c=>?_) hw hsz;exact uf (uf (r h' j a b c))
structure ExcP(K:Frag)(CP:Addr)(initId:String):Prop where
 g:specialIn K (.ref CP) "__getattribute__"= some (some (.builtin "type.__getattribute__"))
 r:readsIn K CP (.type "type")=true
 f:findCls K (.ref CP) (.type "type") "__init__"= some (.val (.builtin initId))
 h:handedIn (.builtin initId)=true
theorem j47{b:Addr}{a:String}{pl:Sem Bool}{Q:Value×List Value->Shared->Prop}{s:Shared}(X:K.In s.heap)(Z:ExcP K b a)(h:Q (.builtin a,[]) {s with toks:=s.toks+1}):wpAny (model prog w) A (getMethod (.ref b) "__init__" pl) Q E s:=
 method_cls X Z.g (cls_value X Z.r Z.f Z.h h)
theorem j3c{i c:String}{k:List Value}(F:ExcBaseFacts "ValueError" i c k){o:Obj}{vs:Array Value}{Q:Value->Shared->Prop}(X:K.In h)(Z:ExcF K C)(H:subIn K (.ref C) (.type "ValueError")=some true)(v:h.get? x=some o)(m:o.cls = .ref C)(f:o.data = .fields vs){a0:Addr}(s:vs[0]?=some (.ref a0))
  (G:∀h' t',(∀b p,b≠x->h.get? b=some p->h'.get? b=some p)->h.get? t'=none->h'.get? x=some {o with data:=.fields (vs.setIfInBounds 0 (.ref t'))}->Q .none ⟨h',g,d,t,os⟩) {u:Value} :
  wpAny (model prog w) A (call (.builtin c) [.ref x,u]) Q E ⟨h,g,d,t,os⟩:=by
 have z:Looks (model prog w) h (typeOf (.ref x)) (.ref C):=m▸(Looks.ld v).andThen .now;have y:Looks (model prog w) h (isSubtype (.ref C) (.type "ValueError")) true:=looks_subIn X H;have j:=F.noStar;obtain⟨n,r,B,l⟩:∃n r,h.get? C=some n/\n.data = .cls r:=by
  have q:(clsIn K C).isSome=true:=Z.i.is;unfold clsIn at q;split at q
  ·rename_i c' d' cd' sl' ho;exact⟨_,_,X _ _ ho,rfl⟩
  ·cases q
 refine wpAny_call (codeAny_call_builtin F.init.plain F.initEntry ?_);simp only[checkBuiltinCall,F.initKind,F.initSplit,F.initRow];unfold isInstance
 repeat (first | with_reducible refine Looks.at z ?_ | with_reducible refine Looks.at y ?_ | (with_reducible refine wpAny_load B ?_;rw[l]) | wp_step)
 rw[f];refine uf ?_;rw[s];refine uf ?_;have a:(h.push {cls:=.type "tuple",data:=.seq #[u]}).get? x=some o:=vN _ v
 repeat (first | (with_reducible refine wpAny_load a ?_;rw[f]) | wp_step)
 rw[va (Array.getElem?_eq_some_iff.mp s).1];refine wpAny_update' a ?_
 repeat (first | wp_step)
 refine G _ h.objs.size (fun b p D e=>(Heap.get?_update_ne _ _ _ _ D).trans (vN _ e)) (Heap.get?_none_of_le (vB _)) ?_;refine(Heap.get?_update_self _ a ?_).trans ?_
 all_goals (obtain⟨L,M,I,J⟩:=o;dsimp only at f;subst f;rfl)
theorem j2l{J:Tok}{Q:Fin->Shared->Prop}(X:K.In h)(Z:ExcF K C)(u:findIn K (.ref C) name=some none)(I:h.Inst x C mA)(f:mA name=some v)(L:Q (.done (.ret v)) ⟨h,g,d,t,os⟩) :
  wpAny (model prog w) A (Builtin.«object.__getattribute__» ⟨[.ref x,.str name J],[]⟩) Q E ⟨h,g,d,t,os⟩:=by
 have q:Looks (model prog w) h (typeOf (.ref x)) (.ref C):=yP I;have r:=looks_findIn (M:=model prog w) X u;obtain⟨o,p,a,j,B⟩:=I;obtain⟨e,b,F,k⟩:∃e,o.dict=some e/\e≠x/\h.Ns1 e mA:=by
  rcases B with⟨_,D⟩ | z
  ·rw[D]at f;cases f
  ·exact z
 have m:=k.ns;obtain⟨N,O,G,H⟩:=o;dsimp only at a b;subst a b;obtain⟨s,y,n⟩:=any_some Z.ov;rw[Bool.and_eq_true]at n;have l:Looks (model prog w) h (classData C) s:=looks_clsIn X y;have i:=n.2
 repeat (any_goals (first | assumption | with_reducible refine Looks.at q ?_ | with_reducible refine Looks.at r ?_ | with_reducible refine Looks.at l ?_ | with_reducible refine wpAny_loadPart_at p ?_ | (with_reducible refine wpAny_nsGet m ?_;rw[f]) | wp_step))
 split
 ·rename_i c hcd;exact ue hcd (j c)
 ·unfold instanceDict;refine ug (wpAny_loadPart p ?_);dsimp only;refine ug (l.at ?_);rw[i,vA (by decide)];refine uf ?_;unfold inDict;refine wpAny_nsGet m ?_;rw[f]
  repeat (any_goals (first | assumption | wp_step))
theorem j2k{M:Model}{a:Value}{Q:Unit->Shared->Prop}(Z:ExcF K C)(X:K.In h)(I:h.Inst x C mA)(i:Q () ⟨h,g,d,t,os⟩) :
  wpAny M A (checkBuiltinCall "BaseException.__getattribute__" ⟨[.ref x,a],[]⟩) Q E ⟨h,g,d,t,os⟩:=by
 have f:builtinKind "BaseException.__getattribute__"= some .slot:=by decide +kernel
 have b:splitId "BaseException.__getattribute__"= some ("BaseException","__getattribute__"):=by decide +kernel
 have c:Looks M h (typeOf (.ref x)) (.ref C):=yP I;have e:Looks M h (isSubtype (.ref C) (.type "BaseException")) true:=looks_subIn X Z.i.base;have j:=F.args_bexc_ga (.ref x) a;simp only[checkBuiltinCall,f,b];refine ug ?_;unfold isInstance
 repeat (first | with_reducible refine Looks.at c ?_ | with_reducible refine Looks.at e ?_ | wp_step)
 exact i
theorem j4t{a:Bool}{Q:Value->Shared->Prop}(X:K.In h)(Z:ExcF K C)(f:findIn K (.ref C) name=some none)(I:h.Inst x C mA)(k:mA name=some v)(i:handedIn v=true)(j:Q v ⟨h,g,d,t+1,os⟩) :
  wpAny (model prog w) A (getAttr (.ref x) name a) Q E ⟨h,g,d,t,os⟩:=by
 have c:Looks (model prog w) h (typeOf (.ref x)) (.ref C):=yP I;have e:=looks_findIn (M:=model prog w) X Z.i.ga;have L2:=looks_findIn (M:=model prog w) X Z.i.nh;have l:=F.attr_ValueError.ga.bind (.ref x);have b:(Value.builtin "BaseException.__getattribute__"== Value.builtin "object.__getattribute__")=false:=by decide +kernel
 unfold getAttr getAttrBy;refine ug (wpAny_mkText (wpAny_holding (ug (c.at (ug (e.at ?_))))));dsimp only;rw[show(onTheHeap (Value.ref C)&&Value.builtin "BaseException.__getattribute__"== Value.builtin "object.__getattribute__")=false from by rw[b];rfl];simp only[Bool.false_eq_true,if_false];unfold getAttrByItsOwn hookBefore;rw[show onTheHeap (Value.ref C)=true from rfl];simp only[if_true];refine ug (L2.at ?_);refine ug (wpAny_attempt (wpAny_holding ?_));unfold callGetattribute;rw[show(a&&onTheHeap (Value.builtin "BaseException.__getattribute__"))=false from Bool.and_false _,vA (by decide)];unfold boundAndCalled
 repeat (any_goals (first | assumption | wp_step))
 refine codeAny_call_builtin F.attr_ValueError.ga.plain F.entry_bexc_ga (j2k Z X I (j2l X Z f I k ?_));show wpAny _ _ (handedOut v) _ _ _;rw[handedOut_of i];exact uf j
end
open PySem PySem.Spec PyProof.Rows PySem.W
theorem xcF.inst{C a dx:Addr}{h:Heap}{j:Str->Option Value}(x:xcF (.ref C) a (some dx) h)(i:h.Ns1 dx j):h.Inst a C j:=by
 obtain⟨o,p,e,c,f,d⟩:=x;refine⟨o,e,c,(fun k z=>by rw[f]at z;cases z),.inr ⟨dx,d,fun z=>?_,i⟩⟩;obtain⟨n,m,l,g,b,_⟩:=i;rw[z,e]at g;cases g;rw[f]at b;cases b
def tXf(K:Frag)(ta:TE)(m:Str):TE:=fun σ H Q=>ta σ H fun x H1=>∃a C dx fs v,x = .ref a/\H1 a=some (XcF (.ref C) a (some dx))/\H1 dx=some (.xd fs)/\ExcF K C/\findIn K (.ref C) m=some none/\fs.lookup m=some v/\Q v H1
theorem Y9{X:Cx}{e:PySem.Expr}{o:TE}{f:Str}{pos:Pos}(D:PE X e o)(B:attributeBase e f X.env (eval e X.env)=eval e X.env:=by rfl):PE X (.Attribute e f pos) (tXf X.K o f):=by
 intro c s L H Q I h;refine XN B (thn (D c s L H _ I h) fun u m ⟨x,j,i,K,a,C,k,A,v,y,r,w,Z,n,l,q⟩=>?_);subst y;obtain rfl:u=Value.ref a:=K;obtain⟨p,_,_⟩:=(show ObjOk X.prog X.w j m.heap a (XcF (.ref C) a (some k))from i.hok a _ r)
 obtain⟨J,F,G⟩:=(show ObjOk X.prog X.w j m.heap k (.xd A)from i.hok k _ w)
 have b:=G f;rw[l]at b;cases em:J f with
 | none=>rw[em]at b;exact b.elim
 | some w'=>
  rw[em]at b;have E:handedIn w'=true:=by
   cases v<;>first | (obtain⟨_,z⟩:=b;subst z;rfl) | (cases b;rfl)
  obtain⟨h,g,d,t,M⟩:=m;exact j4t i.kIn Z n (p.inst F) em E ⟨v,j,i.tok _,b,q⟩
theorem ke{K:Frag}{b:TE}{m:Str}{c:St}{H:Hp}{Q:VK}(h:b c H fun x H1=>∃a C dx fs v,x = .ref a/\H1 a=some (XcF (.ref C) a (some dx))/\H1 dx=some (.xd fs)/\ExcF K C/\findIn K (.ref C) m=some none/\fs.lookup m=some v/\Q v H1):tXf K b m c H Q:=h
noncomputable def unk(H:Hp)(T:Addr):Hp:=fun b=>if b=T then none else H b
theorem Kl{H:Hp}{T b:Addr}(h:b≠T):unk H T b=H b:=vA h
theorem y8{H:Hp}{T:Addr}:unk H T T=none:=va rfl
theorem Inv.unknow{X:Cx}{f:List (Addr×Obj)}{j:St}{H:Hp}{s:Shared}{T:Addr}{k:Heap->Prop}(I:Inv X f j H s)(l:H T=some (.ext k)):Inv X f j (unk H T) s:=by
 have d:∀b,H b=none->unk H T b=none:=fun b h=>by
  by_cases z:b=T
  ·rw[z];exact y8
  ·rw[Kl z];exact h
 have a:∀b u,H b=some u->(∀g,u≠.ext g)->unk H T b=some u:=fun b u h n=>by
  rw[Kl fun z=>?_]
  ·exact h
  ·rw[z,l]at h;exact n k (vP h).symm
 refine⟨I.ok,I.os,I.bare,⟨I.base.keep,I.base.slot,fun b u e n o=>d b (I.base.free b u e n o),I.base.there,fun b w e=>a _ _ (I.base.tups b w e) (fun g z=>by cases z),fun b u v e=>a _ _ (I.base.frzs b u v e) (fun g z=>by cases z),fun b t e=>?_⟩,I.loc,I.cell,d _ I.free,fun x c e=>d _ (I.freeC x c e),fun p m=>?_,fun b u e=>?_,I.len⟩
 ·obtain⟨i,this⟩:=I.base.tbls b t e;exact⟨i,a _ _ this (fun g z=>by cases z)⟩
 ·obtain⟨e,n,r⟩:=I.pin p m;exact⟨e,d _ n,r⟩
 ·have z:b≠T:=fun z=>by rw[z,y8]at e;cases e
  rw[Kl z]at e;exact(I.hok b u e).stay (fun c v _ q=>q) (fun c q=>a _ _ q (fun g z=>by cases z)) fun c y q=>a _ _ q (fun g z=>by cases z)
open PySem PySem.Spec PyProof.Rows
def tFmt(te:TE):TE:=fun σ H Q=>te σ H fun x H1=>(∃i:Int,x = .int i/\i.natAbs.log2<1920/\Q (.str (toString i)) H1)\/∃y:Str,x = .str y/\y.length<=sizeLine/\Q (.str y) H1
theorem kZ{X:Cx}{e:PySem.Expr}{f:TE}{pos:Pos}(g:PE X e f):PE X (.FormattedValue e (-1) none pos) (tFmt f):=by
 intro a s l H Q I h;refine FormattedValue_plain (thn (g a s l H _ I h) fun u m ⟨x,b,c,d,q⟩=>?_);rcases q with⟨i,rfl,j,q⟩ | ⟨y,rfl,k,q⟩
 ·obtain⟨t,rfl⟩:=(show∃t,u=Value.int i t from d)
  exact formatField_int_small j ⟨.str (toString i),b,c.tok _,⟨_,rfl⟩,q⟩
 ·obtain⟨t,rfl⟩:=(show∃t,u=Value.str y t from d)
  exact formatField_str (fun n o=>⟨.str y,b,c.tok _,⟨_,rfl⟩,q⟩) k
noncomputable abbrev TJ:=Str->TE
def PJ(X:Cx)(es:List PySem.Expr)(t:TJ):Prop:=∀(out:Str) (pins:List (Addr×Obj)) (s:Shared) (σ:St) (H:Hp) (Q:VK),Inv X pins σ H s->t out σ H Q->
 wpAny (model X.prog X.w) X.A (joinParts out (evalEach es X.env)) (fun u s1=>∃x H1,Inv X pins σ H1 s1/\RelV x u/\Q x H1) X.xe s
noncomputable def jNil:TJ:=fun out _ H Q=>out.length<=sizeLine/\Q (.str out) H
noncomputable def jCons(te:TE)(t:TJ):TJ:=fun out σ H Q=>te σ H fun x H1=>∃y:Str,x = .str y/\(out++y).length<=sizeLine/\t (out++y) σ H1 Q
theorem wR{X:Cx}:PJ X [] jNil:=fun a b s c H Q I h=>joinParts_nil ⟨.str a,H,I.tok _,⟨_,rfl⟩,h.2⟩ h.1
theorem qk{X:Cx}{e:PySem.Expr}{b:List PySem.Expr}{c:TE}{t:TJ}(j:PE X e c)(l:PJ X b t)(m:evalEach (e::b) X.env=eval e X.env::evalEach b X.env:=by rfl):PJ X (e::b) (jCons c t):=by
 intro n a s d H Q I h;rw[m];refine joinParts_cons (thn (j a s d H _ I h) fun u p ⟨x,f,g,o,y,i,k,q⟩=>?_);subst i;obtain⟨r,rfl⟩:=(show∃t,u=Value.str y t from o)
 exact⟨k,l _ a p d f Q g q⟩
def tJoin(t:TJ):TE:=fun σ H Q=>t Str.empty σ H Q
theorem Y8{X:Cx}{a b:PySem.Expr}{d:List PySem.Expr}{t:TJ}{pos:Pos}(h:PJ X (a::b::d) t)(e:evalEach (a::b::d) X.env=eval a X.env::eval b X.env::evalEach d X.env:=by rfl):PE X (.JoinedStr (a::b::d) pos) (tJoin t):=by
 intro c s f H Q I q;have z:=h Str.empty c s f H Q I q;rw[e]at z;exact JoinedStr_many z
noncomputable def xcN(C e:Addr)(dd:Option Addr):Heap->Prop:=fun h=>∃o vs a0,h.get? e=some o/\o.cls = .ref C/\o.data = .fields vs/\vs[0]?=some (.ref a0)/\vs[1]?=some .none/\o.dict=dd
noncomputable abbrev XcN(C e:Addr)(dd:Option Addr):HO:=.ext (xcN C e dd)
theorem xcN.ok{C e:Addr}{dd:Option Addr}{P:Program}{w:World}{H:Hp}{h:Heap}(x:xcN C e dd h):ObjOk P w H h e (XcN C e dd):=
 ⟨x,let ⟨o,_,_,z,_⟩:=x;⟨o,z⟩,fun _ _ ⟨o,c,a,b,r⟩ k=>⟨o,c,a,k o b,r⟩⟩
section
variable{X:Cx}{pins:List (Addr×Obj)}{σ:St}{H:Hp}{s:Shared}{C e dx:Addr}{dd:Option Addr}
theorem Inv.xset{h':Heap}{t':Nat}{fs:List (Str×V)}(I:Inv X pins σ H s)(r:H e=some (XcN C e dd))(k:∀b o,b≠e->b≠dx->s.heap.get? b=some o->h'.get? b=some o)
  (m:s.heap.objs.size<=dx\/∃h,H dx=some (.xd h)) (A:xcN C e (some dx) h') (B:∃mA,h'.Ns1 dx mA/\∀f,RelO (fs.lookup f) (mA f)) :
  Inv X pins σ (upd (upd H e (XcN C e (some dx))) dx (.xd fs)) {s with heap:=h',toks:=t'}:=by
 have D:∀b u,H b=some u->(∀y,u≠.ext y)->b≠e:=fun b u q n z=>by rw[z,r]at q;exact n _ (vP q).symm
 have t:∀b u,H b=some u->(∀h,u≠.xd h)->b≠dx:=fun b u q n z=>by
  rcases m with i | ⟨h,i⟩
  ·rw[z,I.hok.fresh i]at q;cases q
  ·rw[z,i]at q;exact n _ (vP q).symm
 have E:e≠dx:=t e _ r (fun h z=>by cases z);have l:∀b o,H b=none->s.heap.get? b=some o->b≠e/\b≠dx:=fun b o q z=>⟨(fun i=>by rw[i,r]at q;cases q),fun i=>by
  rcases m with x | ⟨h,x⟩
  ·rw[i]at z;exact ue (vM z) (Nat.not_lt.mpr x)
  ·rw[i,x]at q;cases q⟩
 have p:∀b,b≠e->b≠dx->upd (upd H e (XcN C e (some dx))) dx (.xd fs) b=H b:=fun b d g=>(jg g).trans (jg d)
 have a:∀b u,H b=some u->(∀y,u≠.ext y)->(∀h,u≠.xd h)->upd (upd H e (XcN C e (some dx))) dx (.xd fs) b=some u:=fun b u q d g=>(p b (D b u q d) (t b u q g)).trans q
 refine I.un ⟨fun b o q n _ _=>k b o (l b o n q).1 (l b o n q).2 q,fun b o q n _ _=>⟨o.slots,k b o (l b o n q).1 (l b o n q).2 q⟩,fun b o q n _=>(p b (l b o n q).1 (l b o n q).2).trans n,fun b o q _=>?_,fun b F q=>a b _ q (fun _ z=>by cases z) (fun _ z=>by cases z),
  fun b o u q=>a b _ q (fun _ z=>by cases z) (fun _ z=>by cases z),fun b G q=>⟨#[],by rw[a b _ q (fun _ z=>by cases z) (fun _ z=>by cases z)];simp⟩⟩ fun b u q=>?_
 ·by_cases d:b=e
  ·obtain⟨w,_,_,z,_⟩:=A;exact⟨w,by rw[d];exact z⟩
  ·by_cases g:b=dx
   ·obtain⟨_,⟨w,_,_,z,_⟩,_⟩:=B;exact⟨w,by rw[g];exact z⟩
   ·exact⟨o,k b o d g q⟩
 ·by_cases g:b=dx
  ·subst g;rw[ji]at q;cases q;exact B
  ·rw[jg g]at q;by_cases d:b=e
   ·subst d;rw[ji]at q;cases q;exact A.ok
   ·rw[jg d]at q;refine(I.hok b u q).stay (fun c v j z=>k c v ?_ ?_ z) (fun c z=>a c _ z (fun _ z=>by cases z) (fun _ z=>by cases z)) fun c F z=>a c _ z (fun _ z=>by cases z) (fun _ z=>by cases z)
    ·rcases j with rfl | j
     ·exact d
     ·exact D c _ j (fun _ z=>by cases z)
    ·rcases j with rfl | j
     ·exact g
     ·exact t c _ j (fun _ z=>by cases z)
end
theorem xcN.inst{C e dx:Addr}{h:Heap}{j:Str->Option Value}(x:xcN C e (some dx) h)(i:h.Ns1 dx j):h.Inst e C j:=by
 obtain⟨o,q,k,g,c,f,_,_,d⟩:=x;refine⟨o,g,c,(fun l z=>by rw[f]at z;cases z),.inr ⟨dx,d,fun z=>?_,i⟩⟩;obtain⟨p,n,m,b,a,_⟩:=i;rw[z,g]at b;cases b;rw[f]at a;cases a
theorem xcN.inst0{C e:Addr}{h:Heap}(x:xcN C e none h):h.Inst e C (fun _=>none):=by
 obtain⟨o,i,b,a,c,f,_,_,d⟩:=x;exact⟨o,a,c,(fun g z=>by rw[f]at z;cases z),.inl ⟨d,fun _=>rfl⟩⟩
def sXf(K:Frag)(ta tv:TE)(m:Str):TS:=fun D σ H=>tv σ H fun y H1=>ta σ H1 fun x H2=>∃e C,x = .ref e/\ExcF K C/\findIn K (.ref C) m=some none/\
  ((H2 e=some (XcN C e none)/\∀dx,H2 dx=none->D.nx σ (upd (upd H2 e (XcN C e (some dx))) dx (.xd [(m,y)])))\/
   ∃dx fs,H2 e=some (XcN C e (some dx))/\H2 dx=some (.xd fs)/\fs.length<1000/\D.nx σ (upd (upd H2 e (XcN C e (some dx))) dx (.xd (putF m y fs))))
theorem yX{X:Cx}{o c:PySem.Expr}{f:Str}{pos l:Pos}{ta tv:TE}(ha:PE X o ta)(hv:PE X c tv)(hs:swapsWith c (some (.Attribute o f l)) pos.line X.env=pure false:=by rfl):PS X (.Assign [.Attribute o f l] c pos) (sXf X.K ta tv f):=by
 intro k s R H D I h;refine plainObj_wpAny_Assign_Attribute (thn (hv k s R H _ I h) fun u s1 ⟨y,H1,I1,ry,q⟩=>thn (ha k s1 R H1 _ I1 q) fun ov N ⟨x,S,n,rx,e,C,ex,Z,hn,G⟩=>?_) hs;subst ex;obtain rfl:ov=Value.ref e:=rx;rcases G with⟨F,G⟩ | ⟨dx,fs,F,hd,hl,G⟩
 ·obtain⟨p,_,_⟩:=(show ObjOk X.prog X.w S N.heap e (XcN C e none)from n.hok e _ F)
  obtain⟨o,vs,T,K,ec,ed,e0,e2,i⟩:=id p;have j:=n;obtain⟨hp,g,d,t,os⟩:=N;refine j3n (ns:=[]) n.kIn Z hn p.inst0 (fun h' A i1 i2 i3=>?_) Within.nil (by rw[length_nil,sizeLine_eq];lia);obtain⟨o1,P,z2,z3,z4,_,z6⟩:=i3 o K;have E:=z6 i;obtain⟨o',O,y2,y3,y4⟩:=i1;rw[P]at O;cases O;have w:h'.Ns1 hp.objs.size (fun z=>if z=f then some u else none):=by
   rcases y4 with⟨a,_⟩ | ⟨dx,a,B,w3⟩
   ·rw[E]at a;cases a
   ·rw[E]at a;cases a;exact w3
  have J:=Inv.xset (h':=h') (t':=A) (dx:=hp.objs.size) (fs:=[(f,y)]) j F (fun b ob U _ W=>i2 b ob U (fun M dx a B=>by rw[K]at a;cases a;rw[i]at B;cases B) W) (.inl (vB _))
   ⟨o1,vs,T,P,z2.trans ec,z3.trans ed,e0,e2,E⟩ ⟨_,w,fun m=>?_⟩
  ·exact⟨R,_,J,G _ (j.hok.fresh (vB _))⟩
  ·show RelO (List.lookup m [(f,y)]) (if m=f then some u else none);rw[lookup_cons];by_cases z:m=f
   ·rw[va z,beq_iff_eq.mpr z];exact ry
   ·rw[vA z,beq_false_of_ne z];exact True.intro
 ·obtain⟨p,_,_⟩:=(show ObjOk X.prog X.w S N.heap e (XcN C e (some dx))from n.hok e _ F)
  obtain⟨Q,w,hr⟩:=(show ObjOk X.prog X.w S N.heap dx (.xd fs)from n.hok dx _ hd)
  obtain⟨o,vs,T,K,ec,ed,e0,e2,i⟩:=id p;have j:=n;have wi:Within Q (fs.map (·.1)):=fun z hz=>by
   have:=hr z;cases q:fs.lookup z with
   | none=>rw[q]at this;cases q':Q z with
    | none=>exact ue q' hz
    | some _=>rw[q']at this;exact this.elim
   | some v=>
    exact vO.mpr ⟨(z,v),by
     clear this hr hz hd hl F G
     induction fs with
     | nil=>cases q
     | cons p r ih=>
      obtain⟨p1,p2⟩:=p;rw[lookup_cons]at q;by_cases w':z=p1
      ·subst w';rw[beq_self_eq_true]at q;cases q;exact vq
      ·rw[beq_false_of_ne w']at q;exact vp _ (ih q),rfl⟩
  obtain⟨hp,g,d,t,os⟩:=N;refine j3n n.kIn Z hn (p.inst w) (fun h' A i1 i2 i3=>?_) wi (by rw[vt,sizeLine_eq];lia);obtain⟨o1,P,z2,z3,z4,z5,_⟩:=i3 o K;have E:=z5 dx i;obtain⟨o',O,y2,y3,y4⟩:=i1;rw[P]at O;cases O;have L:h'.Ns1 dx (fun z=>if z=f then some u else Q z):=by
   rcases y4 with⟨a,_⟩ | ⟨Y,a,B,w3⟩
   ·rw[E]at a;cases a
   ·rw[E]at a;cases a;exact w3
  have J:=Inv.xset (h':=h') (t':=A) (dx:=dx) (fs:=putF f y fs) j F (fun b ob U b2 W=>i2 b ob U (fun M Y a B=>by rw[K]at a;cases a;rw[i]at B;cases B;exact b2) W) (.inr ⟨_,hd⟩)
   ⟨o1,vs,T,P,z2.trans ec,z3.trans ed,e0,e2,E⟩ ⟨_,L,fun m=>?_⟩
  ·exact⟨R,_,J,G⟩
  ·show RelO ((putF f y fs).lookup m) (if m=f then some u else Q m);rw[qq];by_cases z:m=f
   ·rw[va z,va z];exact ry
   ·rw[vA z,vA z];exact hr m
def tBin(K:Frag)(t:TA):TE:=fun σ H Q=>t σ H fun vs H1=>∃e C dd u,vs=[.ref e,u]/\H1 e=some (XcN C e dd)/\ExcF K C/\subIn K (.ref C) (.type "ValueError")=some true/\Q .non H1
theorem yU{X:Cx}{x:Str}{M:Addr}{l a:String}{A:List Value}{pl:Sem Bool}{p c pos:Pos}{e:PySem.Expr}{j:List PySem.Expr}{t:TA}(F:ExcBaseFacts "ValueError" l a A)(Z:ExcP X.K M a)(hg:Gl X x)(hm:X.mg x=some (.ref M))(ha:PA X (e::j) t)
  (E:(x==("__debug__" : Str))=false:=by decide) (L:starEach (e::j) X.env=(false,eval e X.env)::starEach j X.env:=by rfl) (K:(backTo pos (starEach j X.env)).any (·.1)=false:=by rfl)
  (ht:eval (.Call (.Attribute (.Name x p) "__init__" c) (e::j) [] pos) X.env=(do
   let R <-eval (.Name x p) X.env
   standAt c.atName
   let (f,first) <-holding [R] (getMethod R "__init__" pl)
   callWith pos f first (backTo pos (starEach (e::j) X.env)) (backToKw pos (keywordEach [] X.env))):=by rfl) :
  PE X (.Call (.Attribute (.Name x p) "__init__" c) (e::j) [] pos) (tBin X.K t):=by
 intro n s σ H Q I h;refine PySem.W.methodCall_KW (pl:=pl) (zq I hg hm ?_ E) ht;refine j47 (X:=I.kIn) Z ?_;refine PyProof.Rows.callWith_builtin1 (thn (ha pos n _ σ H _ (I.tok _) h) fun us S ⟨vs,v,w,r,i,C,B,u,ev,G,T,m,q⟩=>?_) L K;subst ev;obtain⟨v1,v2,rfl,r1,r2⟩:=vals2 r;obtain rfl:v1=Value.ref i:=r1;obtain⟨p,_,_⟩:=(show ObjOk X.prog X.w v S.heap i (XcN C i B)from w.hok i _ G)
 obtain⟨o,vs,a0,U,O,ed,N,W,D⟩:=id p;have y:=w;obtain⟨hp,g,d,t,os⟩:=S;refine j3c F w.kIn T m U O ed N fun h' t' k nt P=>?_
 have J:=y.write (x:=i) (e:=i) (o:=XcN C i B) (h':=h') (t':=t) (by rw[G];exact True.intro) (.inl rfl) (fun b ob hb q=>k b ob hb q) ⟨_,P⟩
  (xcN.ok ⟨_,_,t',P,O,rfl,?_,?_,D⟩)
 ·have Y:upd v i (XcN C i B)=v:=by
   funext b;by_cases z:b=i
   ·rw[z,ji,G]
   ·exact jg z
  rw[Y]at J;exact⟨.non,v,J,rfl,q⟩
 ·have:=(Array.getElem?_eq_some_iff.mp N).1;rw[Array.getElem?_setIfInBounds_self_of_lt this]
 ·rw[Array.getElem?_setIfInBounds_ne (by decide)];exact W
theorem wV{K:Frag}{t:TA}{a:St}{H:Hp}{Q:VK}(h:t a H fun vs H1=>∃e C dd u,vs=[.ref e,u]/\H1 e=some (XcN C e dd)/\ExcF K C/\subIn K (.ref C) (.type "ValueError")=some true/\Q .non H1):tBin K t a H Q:=h
theorem Kc{K:Frag}{b c:TE}{m:Str}{D:Ends}{a:St}{H:Hp} (h:c a H fun y H1=>b a H1 fun x H2=>∃e C,x = .ref e/\ExcF K C/\findIn K (.ref C) m=some none/\
  ((H2 e=some (XcN C e none)/\∀dx,H2 dx=none->D.nx a (upd (upd H2 e (XcN C e (some dx))) dx (.xd [(m,y)])))\/
   ∃dx fs,H2 e=some (XcN C e (some dx))/\H2 dx=some (.xd fs)/\fs.length<1000/\D.nx a (upd (upd H2 e (XcN C e (some dx))) dx (.xd (putF m y fs))))):sXf K b c m D a H:=h
theorem kb{t:TJ}{a:St}{H:Hp}{Q:VK}(h:t Str.empty a H Q):tJoin t a H Q:=h
theorem ka{a:Str}{b:St}{H:Hp}{Q:VK}(h:a.length<=sizeLine/\Q (.str a) H):jNil a b H Q:=h
theorem Qj{y:Str}{t:TJ}{a:Str}{b:St}{H:Hp}{Q:VK}(c:(a++y).length<=sizeLine)(h:t (a++y) b H Q):jCons (tC (.str y)) t a b H Q:=⟨y,rfl,c,h⟩
theorem Zz{c:TE}{t:TJ}{a:Str}{b:St}{H:Hp}{Q:VK}(h:c b H fun x H1=>∃y:Str,x = .str y/\(a++y).length<=sizeLine/\t (a++y) b H1 Q):jCons c t a b H Q:=h
theorem Kb{a:TE}{b:St}{H:Hp}{Q:VK}(h:a b H fun x H1=>(∃i:Int,x = .int i/\i.natAbs.log2<1920/\Q (.str (toString i)) H1)\/∃y:Str,x = .str y/\y.length<=sizeLine/\Q (.str y) H1):tFmt a b H Q:=h
noncomputable def exiIn(K:Frag)(C:Addr)(bmB:List Value)(newId:String)(f:Addr):Bool:=match K.lookup C with
 | some ⟨.type "type",_,.cls cd,sl⟩=>(match cd.mro,sl.toList with
  | .ref C'::bm,[_,_,_,_,some (.builtin n),_]=>C'==C&&n==newId && !cd.hasDel&&tailIn K bmB bm&&nsOkIn K cd.ns&&nsIn K cd.ns "__init__"== some (some (.ref f))
  | _,_=>false)
 | _=>false
theorem j4f{K:Frag}{h:Heap}{N:Addr}{a:Str->Option Value}{n:Str}{v:Value}(X:K.In h)(G:h.Ns N a)(e:nsIn K N n=some (some v)):a n=some v:=by
 obtain⟨o,g,f,d,b,_,c⟩:=G;unfold nsIn at e;split at e
 ·rename_i es' ep' hl;have:=X _ _ hl;rw[d]at this;cases this;cases b;split at e
  ·rename_i e' he;cases e;rw[<-c];unfold nsFind findBy;rw[<-Array.find?_toList,he];rfl
  ·split at e<;>cases e
 ·cases e
theorem X1{K:Frag}{h:Heap}{C f:Addr}{d:List Value}{a:String}(X:K.In h)(q:exiIn K C d a f=true) :
  ∃bm N nm i bs hdct sn sub ab col dd k0 k1 k2 k3 k5 mN,h.get? C=some (excClassObj nm i C N bs bm hdct sn sub ab col dd k0 k1 k2 k3 k5 a)/\h.Ns N mN/\mN "__init__"= some (.ref f)/\OwnTail h d bm:=by
 unfold exiIn at q;split at q
 ·rename_i dd cd sl ho;split at q
  ·rename_i C' bm k0 k1 k2 k3 n k5 hm hs;simp only[Bool.and_eq_true,beq_iff_eq,Bool.not_eq_true']at q;obtain⟨⟨⟨⟨⟨rfl,rfl⟩,b⟩,m⟩,c⟩,e⟩:=q;obtain⟨nm,bs,o,p,i,k,sn,sub,ab,col,j⟩:=cd;dsimp only at hm b c e;subst hm b;have g:sl = #[k0,k1,k2,k3,some (.builtin n),k5]:=by
    obtain⟨l⟩:=sl;simp only at hs;rw[hs]
   subst g;exact⟨bm,p,nm,i,bs,k,sn,sub,ab,col,dd,k0,k1,k2,k3,k5,_,X _ _ ho,.of_isNs (PySem.W.isNs_of_in X c),j4f X (.of_isNs (PySem.W.isNs_of_in X c)) e,PySem.W.tail_of_in X m⟩
  ·cases q
 ·cases q
structure ExcM(K:Frag)(C f:Addr):Prop where
 x:exiIn K C [.type "ValueError",.type "Exception",.type "BaseException",.type "object"] "ValueError.__new__" f=true
 F:ExcF K C
 ve:subIn K (.ref C) (.type "ValueError")=some true
 fn:isFn K (.ref f)=true
 kp:keepIn K (.ref C)=true
section
variable{X:Cx}{pins:List (Addr×Obj)}{σ:St}{H:Hp}{s:Shared}{E:XK}{e C:Addr}{dd:Option Addr}
theorem XP.of_known(F:Flat X)(I:Inv X pins σ H s)(c:H e=some (XcN C e dd))(j:X.s₀.heap.get? e=none)(r:E (.ref C) dd (unk H e)):XP X pins σ E (.ref e) s:=by
 obtain⟨⟨o,u,v,i,m,n,k,l,f⟩,_,_⟩:=(show ObjOk X.prog X.w H s.heap e (XcN C e dd)from I.hok e _ c)
 have h:∀a∈X.stack,∀b,a.frame=some b->b∈e::frs X.stack:=fun a c b g=>vp _ (mem_filterMap.mpr ⟨a,c,g⟩)
 refine⟨e,.ref C,unk H e,hideAll s.heap (e::frs X.stack),dd,rfl,j,I.unknow c,y8,⟨fun b o q=>of_hideAll _ q,hideAll_none _ (vq ..),funFrames_hide I.stack h,.inr (.inl ⟨o,u,_,i,m,n,l,k⟩)⟩,fun b x q z g=>hideAll_get _ q fun d=>?_,⟨o,i,f⟩,r⟩;rcases mem_cons.mp d with d | d
 ·subst d;rcases z with z | ⟨w,z⟩ | ⟨p,t,z⟩
  ·exact z y8
  ·rw[j]at z;cases z
  ·have:=(I.pin p t).2.1;rw[z,c]at this;cases this
 ·exact g d
end
theorem Ky{M:Model}{A:Around}{E:Value->Shared->Prop}{s:Shared}{env:Env}{K:Frag}{C f:Addr}{x:Sem Value}{Q:Flow->Shared->Prop}(Z:ExcM K C f)(t:A.handled=none)
  (h:wpAny M A x (fun v a=>∃e o vs,v = .ref e/\K.In a.heap/\a.heap.get? e=some o/\o.cls = .ref C/\o.data = .fields vs/\vs[1]?=some .none/\E (.ref e) a) E s) :
  wpAny M A (raiseStmt env (some x) none) Q E s:=by
 unfold raiseStmt;refine ug (wpAny_mono h (fun v a b=>?_) fun _ _ x=>x);obtain⟨e,o,vs,rfl,X,r,c,i,m,p⟩:=b;obtain⟨tl,N,P,q,B,j,W,y,z,l,D,G,H,I,J,L,O,n,_,_,T⟩:=X1 X Z.x;have k:Looks M a.heap (isSubtype (.ref C) (.type "BaseException")) true:=looks_subIn X Z.F.i.base;obtain⟨F,g,d,Y,U⟩:=a;obtain⟨R,S,u,w⟩:=o;dsimp only at c i;subst c i
 repeat (first | with_reducible refine wpAny_loadPart_at r ?_ | with_reducible refine wpAny_loadPart_at n ?_ | with_reducible refine Looks.at k ?_ | wp_step)
 rw[m]
 repeat wp_step
 exact wpAny_raiseNew_none t p
noncomputable def rRaiseF(C:Addr)(sp:Sp)(E0:XK)(t:TA):TRS:=fun σ H E=>t σ H fun vs H1=>∀e,H1 e=none->sp (.ref e::vs) (upd H1 e (XcN C e none)) (fun v H2=>v = .non/\∃dx,H2 e=some (XcN C e (some dx))/\E σ (.ref C) (some dx) (unk H2 e)) E0
theorem Q9{X:Cx}{CX:CXT}{x:Str}{C f:Addr}{fd:FuncData}{ps:List Str}{k:Nat}{sp:Sp}{E0:XK}{np d pos:Pos}{l:String}{e:PySem.Expr}{B:List PySem.Expr}{t:TA}(FB:ExcBaseFacts "ValueError" "ValueError.__new__" l [.type "ValueError",.type "Exception",.type "BaseException",.type "object"])(fl:Flat X)(Z:ExcM X.K C f)(hg:Gl X x)(hm:X.mg x=some (.ref C))
  (F:FnOk X.prog X.w X.K X.mg X.base CX k f fd ps sp) (hr:Room (k+1) X.A) (hb:Binds X.K fd ps []) (hp:Passes CX X.nox E0) (ha:PA X.nox (e::B) t)
  (af:ps.length<=1000:=by decide) (a1:(x==("__debug__" : Str))=false:=by decide) (he:starEach (e::B) X.env=(false,eval e X.env)::starEach B X.env:=by rfl) (a5:(backTo d (starEach B X.env)).any (·.1)=false:=by rfl) :
  RS X (.Raise (some (.Call (.Name x np) (e::B) [] d)) none pos) (rRaiseF C sp E0 t):=by
 intro g s P H E I h;show wpAny _ _ (do standAt pos;raiseStmt X.env (some (do let v <-eval (.Call (.Name x np) (e::B) [] d) X.env;standAt pos;pure v)) none) _ _ _;refine ug (wpAny_standAt (Ky Z (I.ok.hd fl.calm) (ug (wpAny_mono ?_ (fun v aa O=>ug (wpAny_standAt (uf O))) fun _ _ x=>x))));refine wpAny_Call_Name_kw (zq I hg hm ?_ a1);refine PySem.W.callWith_K (h₀:=X.base) I.ok.mod.kin Z.kp (wpAny_mono (ha d g s P H _ (I.wish _) h) (fun n s1 ⟨vs,R,w,r,q⟩=>⟨w.unwish.kIn,?_⟩) fun _ _ z=>False.elim z) he a5;have w:=w.unwish;obtain⟨tl,N,nm,qn,bs,a8,sn,ag,ab,ac,dd,k0,k1,k2,k3,k5,mN,hC,hn,hi,T⟩:=X1 w.kIn Z.x;obtain⟨oI,a2,a3⟩:∃oI,s1.heap.get? f=some oI/\oI.cls = .type "function":=by
  have z:=Z.fn;unfold isFn typeIn at z;obtain⟨o,G,hc⟩:=vf.mp (beq_iff_eq.mp z);exact⟨o,w.kIn _ _ G,hc⟩
 have a6:=q s1.heap.objs.size (w.hok.fresh (vB _));have D:=F.len _ _ _ _ a6;have M:n.length<=sizeLine:=by
  have z:=r.length;rw[vT]at D;rw[sizeLine_eq];lia
 have i:=w;obtain⟨ae,g1,Y,U,K⟩:=s1;refine kC FB T hC hn hi a2 a3 (fun h' a b=>?_) M;have na:R a=none:=by
  cases z:R a with
  | none=>rfl
  | some o=>obtain⟨ob,e⟩:=(i.hok a o z).has;rw[b.new]at e;cases e
 have hq:=q a na;obtain⟨ta,a7,a9,_⟩:=b.there;have J:Inv X g P R ⟨h',g1,Y,U,K⟩:=i.kept (h':=h') (t':=U) b.keeps;have n0:X.s₀.heap.get? a=none:=by
  cases z:X.s₀.heap.get? a with
  | none=>rfl
  | some o=>
   obtain⟨o',e'⟩:=i.base.there a o z (by rw[fl.ex];simp);rw[b.new]at e';cases e'
 have S:Inv X g P (upd R a (XcN C a none)) ⟨h',g1,Y,U,K⟩:=by
  refine J.known na n0 (fun z=>?_) (fun y c e z=>?_) (fun p hp z=>?_) (xcN.ok ⟨_,_,ta,a7,rfl,rfl,rfl,rfl,rfl⟩)
  ·obtain⟨m,⟨o,B,ep,G,hd,_⟩,_⟩:=i.loc;rw[<-z,b.new]at G;cases G
  ·obtain⟨v,o,G,hd⟩:=i.cell y c e;rw[z,b.new]at G;cases G
  ·have:=(i.pin p hp).1;rw[z,b.new]at this;cases this
 have r2:Vals (V.ref a::vs) (Value.ref a::n):=.cons rfl r;have a4:(Value.ref a::n).length=ps.length:=by
  have z:=r2.length;rw[F.len _ _ _ _ hq]at z;exact z.symm
 refine wpAny_call (codeAny_mono (F.run _ X.stack _ _ ⟨Value.ref a::n,[]⟩ (Value.ref a::n) _ _ E0 (hr.make C n []) (S.env0.make C n []) (by have z:=hb ⟨h',g1,Y,U,K⟩ (Value.ref a::n) S.kIn (by rw[append_nil];exact a4);rw[append_nil]at z;exact z) r2 hq) fun r s' j=>?_);cases r with
 | error e=>exact False.elim (hp g P _ _ e s' (S.wish _) j)
 | ok fl'=>
  cases fl' with
  | ret u=>
   obtain⟨v,H',W,rv,ev,dx,L,q3⟩:=S.after j;subst ev;refine⟨rv,?_⟩;obtain⟨⟨o,ws,a0,e1,ec,ed,e0,e2,ad⟩,_,_⟩:=(show ObjOk X.prog X.w H' s'.heap a (XcN C a (some dx))from W.hok a _ L)
   exact⟨a,o,ws,rfl,W.kIn,e1,ec,ed,e2,P,XP.of_known fl W L n0 q3⟩
  | next=>exact False.elim j
  | brk=>exact False.elim j
  | cont=>exact False.elim j
theorem QD{C:Addr}{sp:Sp}{E0:XK}{t:TA}{a:St}{H:Hp}{E:XS}(h:t a H fun vs H1=>∀e,H1 e=none->sp (.ref e::vs) (upd H1 e (XcN C e none)) (fun v H2=>v = .non/\∃dx,H2 e=some (XcN C e (some dx))/\E a (.ref C) (some dx) (unk H2 e)) E0):rRaiseF C sp E0 t a H E:=h
section
variable{X:Cx}
theorem qx:MtR X "str.split" (fun x vs H Q=>∃(z:Str) (c:Nat) (ws:List (List Nat)),x = .str z/\vs=[.str ⟨#[c]⟩]/\c<256/\ws≠[]/\(∀u∈ws,c∉u)/\z.cps.toList=Sp.glue c ws/\ws.length<=sizeLine/\z.length<=sizeLine/\
  ∀p,H p=none->Q (.ref p) (upd H p (.lst ((ws.map fun u=>(⟨u.toArray⟩:Str)).map V.str)))):=by
 intro a s A H x vs j J Q I y n h;obtain⟨z,c,ws,rfl,rfl,C,f,m,g,E,G,q⟩:=h
 match ws,f with
 | v::w::r,_=>exact j1F a s A H _ _ j J Q I y n ⟨z,c,v,w,r,rfl,rfl,C,m,g,E,G,q⟩
 | [w],_=>
  obtain⟨t,rfl⟩:=y;obtain⟨u,rfl,t',rfl⟩:=vals1 n;have B:(⟨w.toArray⟩:Str)=z:=by
   have i:z.cps.toList=w:=g;rw[<-i]
  have d:EP X a A Q (.ref s.heap.objs.size) {s with heap:=s.heap.push {cls:=.type "list",data:=.seq #[.str z t]}}:=by
   refine⟨.ref s.heap.objs.size,_,I.laid (o:=.lst (([w].map fun u=>(⟨u.toArray⟩:Str)).map V.str)) (t':=s.toks) (fun b K e=>vN _ e) (vB _) ?_,rfl,q _ (I.hok.fresh (vB _))⟩;exact⟨by show 1<=sizeLine;decide,[.str z t],0,.cons ⟨t,by show Value.str z t=Value.str (⟨w.toArray⟩:Str) t;rw[B]⟩ .nil,Heap.get?_push_size _ rfl⟩
  by_cases l:(decide (z.length<(⟨#[c]⟩:Str).length)||decide (Builtin.Str.strKind z<Builtin.Str.strKind ⟨#[c]⟩))=true
  ·exact call_meets F.slot_str_split (typeIs_str _ _ _) F.entry_str_split (F.args_str_split_2 _ _) (meets_str_split_cannot_occur z ⟨#[c]⟩ t t' l) d
  ·have D:(Builtin.Str.occurrences z ⟨#[c]⟩ 0 z.length (z.length+1)).isEmpty=true:=by
    rw[Sp.wF,g];show(Sp.pos c 0 w).isEmpty=true;have e:=Sp.Ka (r:=[]) (k:=0) (m w vq);rw[append_nil]at e;rw[e];rfl
   exact call_meets F.slot_str_split (typeIs_str _ _ _) F.entry_str_split (F.args_str_split_2 _ _) (meets_str_split_not_found z ⟨#[c]⟩ t t' (Bool.eq_false_iff.mpr l) rfl D) d
end
section
variable{X:Cx}
end
end L2
namespace Rm
open PySem PySem.Spec PyProof.Rows L2
def XiDone(H:Hp)(e C:Addr)(fs:List (Str×V))(Q:VK):Prop:=∀(dx:Addr) (H':Hp),(∀b u,b≠e->H b=some u->H' b=some u)->H dx=none->dx≠e->H' e=some (XcN C e (some dx))->H' dx=some (.xd fs)->Q .non H'
inductive sp_xi1(C:Addr)(vs:List V)(H:Hp)(Q:VK)(xk:XK):Prop
 | mk (e:Addr) (r:Int) (_:vs=[.ref e,.int r]) (_:0<=r) (_:r<=10^18) (_:H e=some (XcN C e none)) (_:XiDone H e C [("row",.int r)] Q):sp_xi1 C vs H Q xk
inductive sp_xi2(C:Addr)(vs:List V)(H:Hp)(Q:VK)(xk:XK):Prop
 | mk (e:Addr) (r:Int) (x:Str) (_:vs=[.ref e,.int r,.str x]) (_:0<=r) (_:r<=10^18) (_:x.length<=100) (_:H e=some (XcN C e none)) (_:XiDone H e C (putF "limb" (.str x) [("row",.int r)]) Q):sp_xi2 C vs H Q xk
def XE(H:Hp)(C:Addr)(fs:List (Str×V))(E:XK):Prop:=∀(dx:Addr) (H':Hp),Same H H'->H dx=none->H' dx=some (.xd fs)->E (.ref C) (some dx) H'
theorem XE.of{H a:Hp}{e C:Addr}{fs:List (Str×V)}{E:XK}(x:XE H C fs E)(s:Same H a)(m:a e=none) :
  XiDone (upd a e (XcN C e none)) e C fs (fun v H2=>v = .non/\∃dx,H2 e=some (XcN C e (some dx))/\E (.ref C) (some dx) (unk H2 e)):=by
 intro dx i k f g j l;rw[jg g]at f;refine⟨rfl,dx,j,x dx (unk i e) (fun b u h=>?_) (none_of s f) ((Kl g).trans l)⟩;have d:=s b u h;have c:b≠e:=jd d m;exact(Kl c).trans (k b u c ((jg c).trans d))
theorem XE.same{H a:Hp}{C:Addr}{fs:List (Str×V)}{E:XK}(x:XE H C fs E)(s:Same H a):XE a C fs E:=fun c b e d h=>x c b (s.trans e) (none_of s d) h
end Rm
namespace L2
open PySem PySem.Spec PyProof.Rows
def NdC(xs:List Str)(i m:Nat):Prop:=m<=i/\(m=i↔(xs.take i).Nodup)
theorem NdC.nil{xs:List Str}:NdC xs 0 0:=⟨vB _,fun _=>by simp,fun _=>rfl⟩
theorem NdC.step{xs:List Str}{i m:Nat}{x:Str}(h:NdC xs i m)(g:xs[i]?=some x):NdC xs (i+1) (if decide (x∈xs.take i)=true then m else m+1):=by
 have f:xs.take (i+1)=xs.take i++[x]:=by
  rw[List.take_succ,g];rfl
 obtain⟨l,d⟩:=h;unfold NdC;rw[f,nodup_append];by_cases c:x∈xs.take i
 ·rw[va (vK c)];exact⟨by lia,fun z=>ue z (by lia),fun z=>ue rfl (z.2.2 x c x (vo.mpr rfl))⟩
 ·rw[vA (by rw[vL c];decide)];refine⟨by lia,fun z=>⟨d.mp (by lia),by simp,fun a j b k e=>?_⟩,fun z=>by have:=d.mpr z.1;lia⟩;rw[vo.mp k]at e;exact c (e▸j)
section
variable{prog:Program}{w:World}{A:Around}{R:Result->Shared->Prop}{I:Addr}{fp wr:List Addr}{G:Array GenState->Array GenState->Prop}{n:Nat}{P:Nat->Value->Prop}{St:Nat->Shared->Prop}
theorem Xy(W:WalksS prog w A.in1 I fp wr G n P St)(a:Addr)(O:a∉fp)(xs:List Str)(hn:xs.length=n)(hx:∀i v,P i v->∃x t,xs[i]?=some x/\v = .str x t)(g:n+1<scanBound) :
  ∀(k i m:Nat) (s:Shared),n-i=k->i<=n->St i s->NdC xs i m->s.heap.SetOf (strKind prog w) a (fun y=>decide (y∈xs.take i)) m->
   (∀s',Moved (a::wr) G s s'->(∃S m,NdC xs n m/\s'.heap.SetOf (strKind prog w) a S m)->R (.ok (.ret .none)) s')->codeAny (model prog w) A (.builtin "set.update.loop" ⟨[.ref a,.ref I],[]⟩) R s:=by
 have M:a∉wr:=fun z=>O (W.sub _ z)
 have U:∀c∈wr,c∈a::wr:=fun c h=>vp _ h
 intro k
 induction k with
 | zero=>
  intro i m s e le K j B q;obtain rfl:i=n:=by lia
  refine codeAny_builtin F.entry_set_update_loop ?_;rw[Around.under_plainId F.plain_set_update_loop _];refine ug (m:=pyNext (.ref I)) (W.done s _ _ K fun s' f=>uf (q s' (f.mono U) ⟨fun y=>decide (y∈xs.take i),m,j,?_⟩));obtain⟨o,p,l,t,r,u⟩:=B;exact⟨o,p,l,t,f.heap a _ M r,u⟩
 | succ k ih=>
  intro i m s e le K j B q;have Q:i<n:=by lia
  refine codeAny_builtin F.entry_set_update_loop ?_;rw[Around.under_plainId F.plain_set_update_loop _];refine ug (m:=pyNext (.ref I)) (W.item i s _ _ Q K fun v s' pv L f=>?_);obtain⟨x,t,N,rfl⟩:=hx i v pv;have C:s'.heap.SetOf (strKind prog w) a (fun y=>decide (y∈xs.take i)) m:=by
   obtain⟨o,p,l,tb,r,u⟩:=B;exact⟨o,p,l,tb,f.heap a _ M r,u⟩
  refine ug (m:=holding [Value.str x t] (setAdd a (.str x t))) (wpAny_holding ?_);unfold setAdd;refine wpAny_holding ?_;refine ug ((strKind prog w).pyHash (k:=x) (strKind_is _ _ _ _) ?_);refine wpAny_setAddHashed_of (knd:=strKind prog w) (s:={s' with toks:=s'.toks+1}) (strKind_is _ _ _ _) rfl C (by have:=j.1;lia) fun h' T D=>?_
  have E:h'.SetOf (strKind prog w) a (fun y=>decide (y∈xs.take (i+1))) (if decide (x∈xs.take i)=true then m else m+1):=by
   refine SetOf_congr D (fun y=>?_) rfl;have Z:xs.take (i+1)=xs.take i++[x]:=by
    rw[List.take_succ,N];rfl
   rw[Z];by_cases X:y∈xs.take i<;>by_cases Y:y=x<;>simp[X,Y]
  refine uf ⟨plainId_quiet F.plain_set_update_loop _,ih (i+1) _ _ (by lia) Q (W.frame _ s' _ _ L (Nat.le_succ _) fun b g o e=>?_) (j.step N) E fun J H d=>?_⟩
  ·rw[T.2 b (fun z:b=a=>O (by rw[<-z];exact g))];exact e
  ·refine q J (Moved.trans W.gtrans ((f.mono U).then_heap (Nat.le_succ _) fun b o g e=>?_) H) d;rw[T.2 b (fun z:b=a=>g (by rw[z];exact vq))];exact e
end
section
variable{prog:Program}{w:World}{A:Around}{E:Value->Shared->Prop}{s:Shared}
noncomputable abbrev emSD(led:Bool):Obj:={cls:=.type "set",dict:=none,data:=.set #[] 0 (.fresh 0 0 led)}
set_option maxRecDepth 100000 in
set_option maxHeartbeats 3200000 in
theorem j0n{l:Addr}{items:Array Value}{xs:List Str}{Q:Value->Shared->Prop}(hh:A.handled=none)(hl:s.heap.IsList l items)(hn:xs.length=items.size)(hx:∀(i:Nat) (v:Value),items[i]?=some v->∃(x:Str) (t:Tok),xs[i]?=some x/\v = .str x t)(Z:items.size+1<scanBound)
  (h:∀(h':Heap) (tk:Nat),(∃S m,NdC xs items.size m/\h'.SetOf (strKind prog w) s.heap.objs.size S m)->(∀b o,s.heap.get? b=some o->h'.get? b=some o)->Q (.ref s.heap.objs.size) {s with heap:=h',toks:=tk}) :
  wpAny (model prog w) A (call (.type "set") [.ref l]) Q E s:=by
 obtain⟨c,tl,mr⟩:=F.called_set.mro;have k1:=F.called_set.made;have k2:=F.called_set.sub;refine wpAny_call (codeAny_of_tree ?_);show wpAny _ _ (callAny (.type "set") _) _ _ _;refine uf ⟨Code.quiet_builtin _ (by decide +kernel),codeAny_builtin F.entry_type_call ?_⟩;rw[Around.under_plain (weight_type_call_type "set" [.ref l] []) rfl];have k3:=F.called_set.notType;have k4:=F.called_set.canCreate;have k5:=F.typeCall_set_1 (.ref l)
 repeat (any_goals (first | assumption | wp_step))
 refine codeAny_mono (code_set_new_1 (.ref l) (E:=E) (Q₁:=fun p q=>∃a:Bool,p = .ref s.heap.objs.size/\q={s with heap:=s.heap.push (emSD a)}) fun a=>⟨a,rfl,rfl⟩) fun r s1 D=>?_
 cases r with
 | error e=>exact D
 | ok fl=>
  cases fl with
  | ret p=>
   obtain⟨a,rfl,rfl⟩:=D;have J:(s.heap.push (emSD a)).get? s.heap.objs.size=some (emSD a):=Heap.get?_push_size _ rfl;have Y:Shared.TypeIs {s with heap:=s.heap.push (emSD a)} (.ref s.heap.objs.size) "set":=⟨_,J,rfl⟩
   have k6:=F.called_set.init.lookup;have k7:=F.called_set.init.bind (.ref s.heap.objs.size)
   repeat (any_goals (first | assumption | wp_step))
   refine codeAny_mono (codeAny_call_builtin (R:=wants (fun r u=>r = .none/\∃h' tk,u={s with heap:=h',toks:=tk}/\(∃S m,NdC xs items.size m/\h'.SetOf (strKind prog w) s.heap.objs.size S m)/\(∀b o,s.heap.get? b=some o->h'.get? b=some o)) E) F.called_set.init.plain F.entry_set_init (check_set_init_1 Y ?_)) fun r2 s2 d=>?_
   ·obtain⟨ol,k,f,M,g⟩:=hl;obtain⟨oc,od,a0,H⟩:=ol;simp only at f g;subst f g;have n:(s.heap.push (emSD a)).get? l=some {cls:=.type "list",dict:=od,data:=.seq items M,slots:=H}:=vN _ k;have j1:=F.sub_list_set;have j2:=F.sub_list_frozenset;have j3:(Value.type "list"== Value.type "dict")=false:=by decide
    have j:(s.heap.push (emSD a)).IsList l items:=⟨_,n,rfl,M,rfl⟩
    unfold Builtin.«set.__init__» noKeywords Builtin.Frozenset.updateFrom;generalize B:pyIter=PI
    wp_walk
    subst B;refine wpAny_pyIter_list j ?_;refine ug (wpAny_runValue ?_);have K:l<s.heap.objs.size:=vM k;have X:A.in1.in1.in1.handled=none:=by simp[hh]
    have n1:l≠(s.heap.push (emSD a)).objs.size:=by rw[Heap.size_push];exact vI (Nat.lt_succ_of_lt K)
    have n2:s.heap.objs.size∉[(s.heap.push (emSD a)).objs.size,l]:=by
     rw[Heap.size_push];simp only[mem_cons,not_mem_nil,or_false,not_or];exact⟨vI (Nat.lt_succ_self _),vR K⟩
    refine Xy ((Walks.list X _ l n1 items).toS) s.heap.objs.size n2 xs hn hx Z (items.size-0) 0 0 _ (by lia) (vC _) ⟨⟨_,Heap.get?_push_size _ rfl,rfl,rfl⟩,(j.push _)⟩ NdC.nil ?hS0 ?hR
    case hS0=>
     have hg:((s.heap.push (emSD a)).push {cls:=.type "list_iterator",data:=.fields #[.ref l,.int 0 0]}).get? s.heap.objs.size=some (emSD a):=vN _ J;exact PyProof.Rows.SetOf_congr ((PyProof.Rows.setObjOf_fresh (knd:=strKind prog w) a).setOf hg (by unfold scanBound;lia)) (fun y=>by simp) rfl
    case hR=>
     intro s' z C;obtain⟨h',W,O,I,G⟩:=s';have T:W=s.gens:=z.gens;have P:O=s.drawn:=z.drawn;have U:G=s.os:=z.os;subst T P U;show wpAny _ _ _ _ _ _;refine uf ?_;show wpAny _ _ (ret Value.none) _ _ _;refine uf ⟨rfl,h',I,rfl,C,fun b o e=>?_⟩;have L:=vM e;have N:b≠(s.heap.push (emSD a)).objs.size:=by rw[Heap.size_push];exact vI (Nat.lt_succ_of_lt L)
     exact z.heap b o (by simp only[mem_cons,not_mem_nil,or_false,not_or];exact⟨vI L,N⟩) (vN _ (vN _ e))
   ·cases r2 with
    | error e=>exact d
    | ok fl2=>
     cases fl2 with
     | ret r=>
      obtain⟨rfl,h',tk,rfl,q1,q2⟩:=d
      repeat (any_goals (first | assumption | wp_step))
      exact h _ _ q1 q2
     | _=>exact d.elim
  | _=>exact D.elim
end
section
variable{X:Cx}
def tLSD(K:Frg)(te:TE):TE:=fun σ H Q=>te σ H fun x H1=>∃(a:Addr) (xs:List Str),x = .ref a/\SqL K H1 a (xs.map V.str)/\xs.length<=200/\∀m:Nat,NdC xs xs.length m->Q (.int m) H1
theorem j3Z{K:Frg}{b:TE}{c:St}{H:Hp}{Q:VK}(h:b c H fun x H1=>∃(a:Addr) (xs:List Str),x = .ref a/\SqL K H1 a (xs.map V.str)/\xs.length<=200/\∀m:Nat,NdC xs xs.length m->Q (.int m) H1):tLSD K b c H Q:=h
theorem Xo{e:Expr}{C:TE}{p w pos b:Pos}(M:X.calm=true)(G:Gl X "len")(m1:X.mg "len"= none)(J:Gl X "set")(m2:X.mg "set"= none)(O:PE X e C)(F:bootBuiltins "len"= some (.builtin "len"):=by decide +kernel)
  (d:starEach [.Call (.Name "set" w) [e] [] b] X.env=[(false,eval (.Call (.Name "set" w) [e] [] b) X.env)]:=by rfl) (z:starEach [e] X.env=[(false,eval e X.env)]:=by rfl) :
  PE X (.Call (.Name "len" p) [.Call (.Name "set" w) [e] [] b] [] pos) (tLSD X.K C):=by
 intro c s D H Q I h;refine wpAny_Call_Name_kw (Qa I G m1 F ?_);refine PyProof.Rows.callWith_builtin1 ?_ d rfl;rw[d];refine Calls.spliced_cons ?_;refine Call_ (Qa I J m2 j3s (PyProof.Rows.callWith_type1 ?_ z rfl));rw[z];refine Calls.spliced_cons (thn (O c s D H _ I h) fun u s1 ⟨x,y,l,r1,a,xs,j,Y,hz,q⟩=>Calls.spliced_nil ?_);subst j;cases r1;obtain⟨g,B,pl,_⟩:=l.list Y;have k:=B.length;rw[vt]at k;refine j0n (xs:=xs) (l.ok.hd M) pl.isList (by rw[size_toArray];exact k) (fun i v A=>?_) (by rw[size_toArray,<-k];unfold scanBound;lia) fun K tk ⟨S,m,r,L⟩ R=>?_
 ·have hi:i<g.length:=by
   have:=(Array.getElem?_eq_some_iff.mp A).1;simpa using this
  have j:xs[i]?=some (xs[i]'(by lia)):=vz _;obtain⟨u,Z,ru⟩:=B.get (i:=i) (x:=V.str (xs[i]'(by lia))) (by rw[vv,j];rfl);obtain⟨t,rfl⟩:=ru;have:v=_:=vP (A.symm.trans (show g.toArray[i]?=some _ by simpa using Z));exact⟨_,t,j,this⟩
 ·refine Calls.spliced_nil ?_;obtain⟨o,es,ep,t,W,n,N,_,_,T,P,f⟩:=L;rw[size_toArray,<-k]at r;have U:=r.1;refine call_len_set W n N P (by rw[f];lia) ?_;have E:Inv X c D y {s1 with heap:=K,toks:=tk}:=l.kept R;rw[f];exact⟨.int m,y,(E.tok _).tok _,⟨_,rfl⟩,q m r⟩
end
theorem j0P(items:Array Value)(k:Nat):slicePick items (some (k:Int)) none (some 2)=(ev (items.toList.drop k)).toArray:=by
 by_cases d:k<=items.size
 ·exact j1W items k d
 have a:items.toList.drop k=[]:=List.drop_eq_nil_of_le (by rw[Array.length_toList];lia);rw[a];unfold slicePick;have b:sliceBounds (some (k:Int)) none (some 2) items.size=((items.size:Int),(items.size:Int),2):=by
  unfold sliceBounds;simp only[Option.getD_some];rw[vA (show¬((k:Int)<0) by lia),va (show(2:Int)>0 by decide),va (show(2:Int)>0 by decide)];congr 1;lia
 rw[b];show((sliceRange (items.size:Int) (items.size:Int) 2).filterMap (items[·]?)).toArray=_;unfold sliceRange;have c:((if(2:Int)>0 then(if(items.size:Int)<(items.size:Int)then((items.size:Int)-items.size+2-1)/2 else 0)else(if(items.size:Int)>(items.size:Int)then((items.size:Int)-items.size-2-1)/(-2)else 0):Int)).toNat=0:=by
  rw[va (by decide),vA (by lia)];rfl
 show((List.map _ (List.range (Int.toNat _))).filterMap _).toArray=_;rw[c];rfl
section
variable{X:Cx}{e:Expr}{te:TE}
def tStepA(K:Frg)(te:TE)(tl ts:TO):TE:=fun σ H Q=>te σ H fun x H1=>tl σ H1 fun lo H2=>ts σ H2 fun st H3=>st=some 2/\∃(a:Addr) (xs:List V) (k:Nat),lo=some (k:Int)/\x = .ref a/\SqL K H3 a xs/\∀p,H3 p=none->Q (.ref p) (upd H3 p (.lst (ev (xs.drop k))))
theorem WU{lo st:Expr}{w y:TO}{u pos:Pos}(J:PE X e te)(K:PO X (some lo) w)(L:PO X (some st) y):PE X (.Subscript e (.Slice (some lo) none (some st) u) pos) (tStepA X.K te w y):=by
 intro c s f H Q I h;refine Subscript_ (thn (J c s f H _ I h) fun v W ⟨x,A,D,U,S⟩=>?_);refine wpAny_Slice ?_;refine thn (K c W f A _ D S) fun n Y ⟨O,B,E,l,T⟩=>?_
 rw[evalPart_none];refine uf ?_;refine thn (L c Y f B _ E T) fun m d ⟨so,C,F,R,j,a,z,k,i,G,M,q⟩=>?_
 subst j G i;cases U;have g:Inv X c f C {d with heap:=d.heap.push {cls:=.type "slice",data:=.fields #[n,.none,m]}}:=F.kept (t':=d.toks) fun b P q=>vN _ q
 obtain⟨N,r,t,Z⟩:=g.list M;have p:=r.length;show wpAny (model X.prog X.w) X.A (subscriptTail e (.Slice (some lo) none (some st) u) (.ref a) (.ref d.heap.objs.size)) (EP X c f Q) X.xe {d with heap:=d.heap.push {cls:=.type "slice",data:=.fields #[n,.none,m]}};refine tail_any (ops:=[.ref a,.ref d.heap.objs.size]) t.isList.typeIs slot_list_getitem.lookup ?_ (by with_unfolding_all rfl);refine wpAny_getItem_list_slice t.isList (Heap.IsSliceOf.new ..) l .none R (by decide) ?_ (by rw[size_toArray]<;>lia);rw[j0P];refine⟨.ref (d.heap.push {cls:=.type "slice",data:=.fields #[n,.none,m]}).objs.size,_,g.laid (t':=d.toks) (o:=.lst (ev (z.drop k))) (fun b P q=>vN _ q) (vB _) ?_,rfl,q _ (g.hok.fresh (vB _))⟩;refine⟨?_,_,0,j0c (r.drop k),Heap.get?_push_size _ rfl⟩;have:=ww (z.drop k);rw[length_drop]at this;lia
end
theorem W1{K:Frg}{d:TE}{e f:TO}{b:St}{H:Hp}{Q:VK}(h:d b H fun x H1=>e b H1 fun lo H2=>f b H2 fun st c=>st=some 2/\∃(a:Addr) (xs:List V) (k:Nat),lo=some (k:Int)/\x = .ref a/\SqL K c a xs/\∀p,c p=none->Q (.ref p) (upd c p (.lst (ev (xs.drop k))))):tStepA K d e f b H Q:=h
end L2
namespace Rm
open PySem PySem.Spec PyProof.Rows L2
noncomputable def FmL:Fm->Prop
 | .hold n=>1<=n/\n<=10^18
 | .ring _ n=>1<=n/\n<=10^18
 | .rise _ _ n=>1<=n/\n<=10^18
 | .row ps=>ps≠[]
 | .side ps=>ps≠[]
 | .again k _=>1<=k/\k<=10^18
structure WfL(ls:List (Str×Int))(ps:List (Str×Fm)):Prop where
 w:WfB ls ps
 f:∀p∈ps,FmL p.2
 x:∀p∈ls,p.1.length<=100
 n:∀p∈ps,Ws.isW p.1=true
noncomputable def cntL(ps:List (Str×Fm))(M:List (List Int))(f:Fm)(k:Int):Nat:=(((inP ps f).map fun j=>M.getD j []).filter fun ks=>decide (k∈ks)).length
def SideOk(ps:List (Str×Fm))(M:List (List Int))(f:Fm):Prop:=∀qs,f = .side qs->(∀j∈inP ps f,M.getD j []≠[])/\∀k:Int,cntL ps M f k<=1
noncomputable def inL(ps:List (Str×Fm))(gs:List Int)(f:Fm):List Int:=(inP ps f).map fun j=>gs.getD j 0
structure PreL(ps:List (Str×Fm))(M:List (List Int))(gs:List Int)(k:Nat):Prop where
 gl:gs.length=k
 kl:k<=ps.length
 ok:∀(i:Nat) (p:Str×Fm),i<k->ps[i]?=some p->LenIs p.2 (inL ps gs p.2) (gs.getD i 0)/\1<=gs.getD i 0/\gs.getD i 0<=10^60/\SideOk ps M p.2
def IdleAt(ps:List (Str×Fm))(M:List (List Int))(k:Nat):Prop:=∃p qs,ps[k]?=some p/\p.2 = .side qs/\∃j∈inP ps p.2,M.getD j []=[]
def TwoAt(ls:List (Str×Int))(ps:List (Str×Fm))(M:List (List Int))(k:Nat)(x:Str):Prop:=∃(p:Str×Fm) (qs:List Str) (n:Nat) (v:Int),ps[k]?=some p/\p.2 = .side qs/\(∀j∈inP ps p.2,M.getD j []≠[])/\ls[n]?=some (x,v)/\1<cntL ps M p.2 n/\∀n':Nat,n'<n->cntL ps M p.2 n'<=1
def LongAt(ps:List (Str×Fm))(M:List (List Int))(gs:List Int)(k:Nat):Prop:=∃p g,ps[k]?=some p/\SideOk ps M p.2/\LenIs p.2 (inL ps gs p.2) g/\10^60<g
theorem LenIs.uniq{f:Fm}{e:List Int}{a b:Int}(c:LenIs f e a)(d:LenIs f e b):a=b:=by
 cases f with
 | hold n=>exact c.trans d.symm
 | ring x n=>exact c.trans d.symm
 | rise x h n=>exact c.trans d.symm
 | row ps=>exact c.trans d.symm
 | side ps=>
  have:=c.2 b d.1;have:=d.2 a c.1;lia
 | again k x=>
  obtain⟨y,i,rfl⟩:=c;obtain⟨z,g,rfl⟩:=d;rw[i]at g;cases g;rfl
theorem j2I{ls:List (Str×Int)}{ps:List (Str×Fm)}(W:WfB ls ps){i:Nat}{p:Str×Fm}(d:ps[i]?=some p){a b:List Int}(h:∀j,j<i->a.getD j 0=b.getD j 0):inL ps a p.2=inL ps b p.2:=
 map_congr_left fun j c=>h j (W.inP_lt d c)
theorem PreL.len{ls:List (Str×Int)}{ps:List (Str×Fm)}{M:List (List Int)}{d:List Int}{k:Nat}(P:PreL ps M d k)(W:WfL ls ps){i:Nat}{p:Str×Fm}(J:i<=k)(w:ps[i]?=some p) :
  LenPre p.2 (inL ps d p.2)/\(∀x∈inL ps d p.2,1<=x/\x<=10^60)/\(inL ps d p.2).length<=8/\∀g,LenIs p.2 (inL ps d p.2) g->1<=g/\g<=10^80:=by
 have c:=W.f p (vj w);have I:∀j∈inP ps p.2,j<i:=fun j u=>W.w.inP_lt w u
 have b:∀x∈inL ps d p.2,1<=x/\x<=10^60:=fun x A=>by
  obtain⟨j,u,rfl⟩:=vO.mp A;have K:=I j u;have L:=P.kl;obtain⟨_,q,t,_⟩:=P.ok j _ (by lia) (vz (by lia));exact⟨q,t⟩
 have l:(inL ps d p.2).length<=8:=by
  unfold inL inP;rw[vt,vt];exact(W.w.f i p w).2
 have o:(inL ps d p.2).length=p.2.ns.length:=by unfold inL inP;rw[vt,vt]
 generalize inL ps d p.2=ys at b l o|-;generalize p.2=f at c o|-;have G:(10:Int)^60*8<=10^80:=by decide
 have F:(10:Int)^18<=10^80:=by decide
 cases f with
 | hold n=>exact⟨trivial,b,l,fun g h=>by rw[show g=n from h];have:=c.1;have:=c.2;lia⟩
 | ring x n=>exact⟨trivial,b,l,fun g h=>by rw[show g=n from h];have:=c.1;have:=c.2;lia⟩
 | rise x v n=>exact⟨trivial,b,l,fun g h=>by rw[show g=n from h];have:=c.1;have:=c.2;lia⟩
 | row qs=>
  refine⟨trivial,b,l,fun g h=>?_⟩;have h:g=ys.sum:=h;have D:∀m:List Int,(∀x∈m,1<=x/\x<=10^60)->(m.length:Int)<=m.sum/\m.sum<=10^60*(m.length:Int):=fun m=>by
   induction m with
   | nil=>intro _;exact⟨Int.le_refl _,by simp⟩
   | cons z r ih=>
    intro s;have q:=ih fun x A=>s x (vp _ A)
    have t:=s z vq;rw[sum_cons,vT,Int.natCast_add,Int.mul_add];lia
  have q:=D ys b;have C:qs≠[]:=c;have N:1<=ys.length:=by
   rw[o];cases qs with
   | nil=>exact ue rfl C
   | cons a r=>exact Nat.le_add_left 1 _
  have O:(10:Int)^60*(ys.length:Int)<=10^60*8:=Int.mul_le_mul_of_nonneg_left (by lia) (by decide);lia
 | side qs=>
  refine⟨fun e=>?_,b,l,fun g h=>?_⟩
  ·have C:qs≠[]:=c;rw[e]at o;cases qs with
   | nil=>exact C rfl
   | cons a r=>exact ue o (by show¬0=r.length+1;lia)
  ·have:=b g h.1;have e:(10:Int)^60<=10^80:=by decide
   lia
 | again n x=>
  have H:=c.1;have E:=c.2;cases ys with
  | nil=>exact ue o (by show¬0=1;lia)
  | cons y r=>
   have B:=b y vq;refine⟨⟨y,r,rfl,by lia,E,by lia,B.2⟩,b,l,fun g h=>?_⟩;obtain⟨z,s,rfl⟩:=h;cases s;have q:1*1<=n*y:=Int.mul_le_mul H B.1 (by decide) (by lia);have t:n*y<=10^18*10^60:=Int.mul_le_mul E B.2 (by lia) (by decide);have e:(10:Int)^18*10^60<=10^80:=by decide
   lia
theorem PreL.snoc{ls:List (Str×Int)}{ps:List (Str×Fm)}{M:List (List Int)}{a:List Int}{k:Nat}(P:PreL ps M a k)(W:WfL ls ps){p:Str×Fm}(d:ps[k]?=some p){g:Int}(h:LenIs p.2 (inL ps a p.2) g)(c:g<=10^60)(n:SideOk ps M p.2):PreL ps M (a++[g]) (k+1):=by
 have f:=P.gl;have m:=(vx.mp d).1;have l:=(P.len W (vB _) d).2.2.2 g h;refine⟨by rw[vm,f];rfl,m,fun i q o b=>?_⟩;have ext:inL ps (a++[g]) q.2=inL ps a q.2:=j2I W.w b fun j r=>getD_snoc (by lia)
 rw[ext];by_cases e:i<k
 ·rw[getD_snoc (by lia)];exact P.ok i q e b
 ·have e:i=k:=by lia
  subst e;rw[d]at b;cases b;rw[<-f,getD_last];exact⟨h,l.1,c,n⟩
theorem PreL.snd{ls:List (Str×Int)}{ps:List (Str×Fm)}{M:List (List Int)}{d:List Int}(P:PreL ps M d ps.length)(W:WfL ls ps)(h:∀c:List (List Int),c.length=ps.length->MovOk ls ps c->∀i,i<ps.length->c.getD i []=M.getD i []):Snd ls ps d M:=by
 refine⟨W.w,P.gl,fun i a=>?_,h,fun i p b=>?_,fun i p j b e=>?_⟩
 ·obtain⟨_,k,l,_⟩:=P.ok i _ a (vz a);lia
 ·have a:=(vx.mp b).1;exact⟨(P.len W (by lia) b).1,fun g f=>LenIs.uniq f (P.ok i p a b).1⟩
 ·have a:=(vx.mp b).1;exact(P.ok i p a b).2.2.2 j e
noncomputable def movN(ls:List (Str×Int))(ps:List (Str×Fm)):Nat->List (List Int)
 | 0=>[]
 | i+1=>movN ls ps i++[((List.range ls.length).map fun k:Nat=>(k:Int)).filter fun k=>((inP ps (ps.getD i (⟨#[]⟩,.hold 0)).2).any fun j=>decide (k∈(movN ls ps i).getD j []))||decide (k∈hd0 ls (ps.getD i (⟨#[]⟩,.hold 0)).2)]
theorem yR(ls:List (Str×Int))(ps:List (Str×Fm)):∀n,(movN ls ps n).length=n
 | 0=>rfl
 | n+1=>by unfold movN;rw[vm,yR ls ps n];rfl
theorem Y7(ls:List (Str×Int))(ps:List (Str×Fm)):∀n i,i<n->(movN ls ps n).getD i []=(movN ls ps (i+1)).getD i []
 | 0,i,h=>ue h (Nat.not_lt_zero _)
 | n+1,i,h=>by
  by_cases e:i=n
  ·rw[e]
  ·show(movN ls ps n++_).getD i []=_;rw[getD_snoc (by rw[yR];lia)];exact Y7 ls ps n i (by lia)
theorem j3J{ls:List (Str×Int)}{ps:List (Str×Fm)}(W:WfB ls ps):∃M:List (List Int),M.length=ps.length/\MovOk ls ps M:=by
 refine⟨movN ls ps ps.length,yR ls ps _,fun i p y f u=>?_⟩;have t:=(vx.mp f).1;have m:(movN ls ps ps.length).getD i []=y:=by rw[vy,u];rfl
 rw[Y7 ls ps _ i t]at m;have q:(movN ls ps (i+1)).getD i []=((List.range ls.length).map fun k:Nat=>(k:Int)).filter fun k=>((inP ps (ps.getD i (⟨#[]⟩,.hold 0)).2).any fun j=>decide (k∈(movN ls ps i).getD j []))||decide (k∈hd0 ls (ps.getD i (⟨#[]⟩,.hold 0)).2):=by
  have s:∀(l:List (List Int)) (x:List Int),l.length=i->(l++[x]).getD i []=x:=fun l x e=>by rw[<-e];exact getD_last
  exact s _ _ (yR ls ps i)
 have r:ps.getD i (⟨#[]⟩,.hold 0)=p:=by rw[vy,f];rfl
 rw[q,r]at m;have g:∀(n:Nat) (k:Int),∀j,k∈(movN ls ps n).getD j []->0<=k/\k<(ls.length:Int):=fun n=>by
  induction n with
  | zero=>intro k j h;simp[movN]at h
  | succ n ih=>
   intro k j h;unfold movN at h;by_cases e:j<(movN ls ps n).length
   ·rw[getD_snoc e]at h;exact ih k j h
   ·by_cases o:j=(movN ls ps n).length
    ·rw[o,getD_last]at h;obtain⟨z,a,rfl⟩:=vO.mp (mem_filter.mp h).1;have:=v6.mp a;lia
    ·rw[vy,List.getElem?_eq_none (by rw[vm];show(movN ls ps n).length+1<=j;lia)]at h;exact nomatch h
 subst m;refine⟨List.Pairwise.filter _ (pairwise_map.mpr (List.Pairwise.imp (fun h=>by lia) List.pairwise_lt_range)),fun k=>?_⟩;rw[mem_filter,Bool.or_eq_true,any_eq_true,decide_eq_true_iff,j2N];have d:∀j,j∈inP ps p.2->(movN ls ps ps.length).getD j []=(movN ls ps i).getD j []:=fun j c=>by
  have w:=W.inP_lt f c;rw[Y7 ls ps _ j (by lia),Y7 ls ps _ j w]
 constructor
 ·rintro⟨_,⟨j,c,a⟩ | h⟩
  ·exact .inl ⟨j,c,by rw[d j c];exact of_decide_eq_true a⟩
  ·exact .inr h
 ·rintro(⟨j,c,a⟩ | h)
  ·rw[d j c]at a;have b:=g i k j a;exact⟨vO.mpr ⟨k.toNat,v6.mpr (by lia),Int.toNat_of_nonneg b.1⟩,.inl ⟨j,c,vK a⟩⟩
  ·refine⟨?_,.inr h⟩;obtain⟨x,v,n,e,rfl⟩:=h;obtain⟨j,c⟩:=W.r i p.1 x v n (by rw[f,<-e]);have:=wz (vj c);have o:(nmsOf ls).length=ls.length:=vt _;exact vO.mpr ⟨ixOf (nmsOf ls) x,v6.mpr (by lia),rfl⟩
theorem WG{ls:List (Str×Int)}{ps:List (Str×Fm)}(W:WfB ls ps){M a:List (List Int)}(s:M.length=ps.length)(p:MovOk ls ps M)(t:a.length=ps.length)(q:MovOk ls ps a):∀i,i<ps.length->a.getD i []=M.getD i []:=by
 intro i
 induction i using Nat.strongRecOn with
 | ind i ih=>
  intro r;have c:ps[i]?=some ps[i]:=vz r;have g:∀N:List (List Int),N.length=ps.length->N[i]?=some (N.getD i []):=fun N l=>by rw[vy,vz (by lia)];rfl
  obtain⟨f,n⟩:=p i _ _ c (g M s);obtain⟨m,o⟩:=q i _ _ c (g a t);refine XH m f fun k=>?_
  rw[n k,o k];have e:(∃j∈inP ps ps[i].2,k∈a.getD j [])↔∃j∈inP ps ps[i].2,k∈M.getD j []:=by
   constructor
   ·rintro⟨j,b,h⟩;have d:=W.inP_lt c b;exact⟨j,b,by rw[<-ih j d (by lia)];exact h⟩
   ·rintro⟨j,b,h⟩;have d:=W.inP_lt c b;exact⟨j,b,by rw[ih j d (by lia)];exact h⟩
  rw[e]
def ZI(cI cT:Addr):Sp:=fun vs H Q xk=>∃(r:Int) (l ll:Addr) (as las:List Addr) (M:List (List Int)) (ls:List (Str×Int)),vs=[.int r,.ref l,.ref ll]/\0<=r/\r<=1000/\H l=some (.lst (as.map V.ref))/\ListsAt H as M/\M.length<=8/\H ll=some (.lst (las.map V.ref))/\All2 (LimbAt H) las ls/\(∀p∈ls,p.1.length<=100)/\
 (((∃ks∈M,ks=[])/\XE H cI [("row",.int r)] xk)\/∃(n:Nat) (x:Str) (v:Int),(∀ks∈M,ks≠[])/\ls[n]?=some (x,v)/\1<(M.filter fun ks=>decide ((n:Int)∈ks)).length/\(∀n':Nat,n'<n->(M.filter fun ks=>decide ((n':Int)∈ks)).length<=1)/\XE H cT (putF "limb" (.str x) [("row",.int r)]) xk)
def YR(cI cT cL:Addr):Sp:=fun vs H Q xk=>∃(b pl pp:Addr) (las pas:List Addr) (ls:List (Str×Int)) (ps:List (Str×Fm)) (M:List (List Int)) (gs:List Int) (k:Nat),vs=[.ref b]/\BookAt H b pl pp las pas ls ps/\WfL ls ps/\M.length=ps.length/\MovOk ls ps M/\PreL ps M gs k/\k<ps.length/\
 ((IdleAt ps M k/\XE H cI [("row",.int k)] xk)\/(∃x,TwoAt ls ps M k x/\XE H cT (putF "limb" (.str x) [("row",.int k)]) xk)\/(LongAt ps M gs k/\XE H cL [("row",.int k)] xk))
theorem XA{M:List (List Int)}(h:∃ks∈M,ks=[]):(M.any fun ks=>decide (ks=[]))=true:=by
 obtain⟨ks,a,b⟩:=h;exact any_eq_true.mpr ⟨ks,a,vK b⟩
noncomputable def wds(c:Nat):List Nat->List (List Nat)
 | []=>[[]]
 | x::r=>if x=c then[]::wds c r else match wds c r with
  | w::ws=>(x::w)::ws
  | []=>[[x]]
theorem Wd(c:Nat):∀l,wds c l≠[]
 | []=>by simp[wds]
 | x::r=>by
  unfold wds;split
  ·simp
  ·split<;>simp
theorem j2j(c:Nat):∀l,Sp.glue c (wds c l)=l/\(∀w∈wds c l,c∉w)/\(wds c l).length<=l.length+1
 | []=>⟨rfl,fun w h=>by rw[vo.mp h];simp,vB _⟩
 | x::r=>by
  obtain⟨a,b,d⟩:=j2j c r;have g:=Wd c r;by_cases e:x=c
  ·have f:wds c (x::r)=[]::wds c r:=by show(if x=c then _ else _)=_;rw[va e]
   rw[f];refine⟨?_,fun w h=>?_,by rw[vT,vT];lia⟩
   ·cases q:wds c r with
    | nil=>exact ue q g
    | cons v s=>
     rw[q]at a;show[]++c::Sp.glue c (v::s)=x::r;rw[a,e];rfl
   ·rcases mem_cons.mp h with rfl | h
    ·simp
    ·exact b w h
  ·cases q:wds c r with
   | nil=>exact ue q g
   | cons v s=>
    have f:wds c (x::r)=(x::v)::s:=by show(if x=c then _ else _)=_;rw[vA e,q]
    rw[f];rw[q]at a b d;refine⟨?_,fun w h=>?_,by rw[vT]at d|-;rw[vT];lia⟩
    ·rw[<-a];cases s<;>rfl
    ·rcases mem_cons.mp h with rfl | h
     ·intro z;rcases mem_cons.mp z with z | z
      ·exact e z.symm
      ·exact b v vq z
     ·exact b w (vp _ h)
noncomputable def stS(u:List Nat):Str:=⟨u.toArray⟩
noncomputable def spW(z:Str):List Str:=(wds 32 z.cps.toList).map stS
theorem xj{c:Nat}:∀{ws:List (List Nat)},ws≠[]->(∀w∈ws,c∉w)->wds c (Sp.glue c ws)=ws:=by
 have b:∀(w r:List Nat),c∉w->wds c (w++r)=(match wds c r with | v::s=>(w++v)::s | []=>[w]):=fun w r=>by
  induction w with
  | nil=>
   intro _;cases q:wds c r with
   | nil=>exact ue q (Wd c r)
   | cons v s=>exact q
  | cons x w a=>
   intro h;have f:¬x=c:=fun e=>h (by rw[e];exact vq)
   have a:=a fun z=>h (vp _ z)
   show(if x=c then[]::wds c (w++r)else match wds c (w++r)with | w::ws=>(x::w)::ws | []=>[[x]])=_;rw[vA f,a];cases q:wds c r with
   | nil=>exact ue q (Wd c r)
   | cons v s=>rfl
 intro ws
 induction ws with
 | nil=>intro h;exact ue rfl h
 | cons w r a=>
  intro _ d;cases r with
  | nil=>
   have e:=b w [] (d w vq);rw[append_nil]at e;show wds c w=[w]
   rw[e];show[w++[]]=[w]
   rw[append_nil]
  | cons v s=>
   show wds c (w++c::Sp.glue c (v::s))=_;rw[b w _ (d w vq)];have e:wds c (c::Sp.glue c (v::s))=[]::wds c (Sp.glue c (v::s)):=by show(if c=c then _ else _)=_;rw[va rfl]
   rw[e,a (by simp) fun y g=>d y (vp _ g)];show(w++[])::v::s=_;rw[append_nil]
noncomputable def numW(x:Str)(least:Int):Option Int:=match Ws.numV x 19 with
 | .int n=>if least<=n/\n<=10^18 then some n else none
 | _=>none
noncomputable def oI:Option Int->V
 | some n=>.int n
 | none=>.non
noncomputable def valW(wanted x:Str)(L P:List Str):V:=
 if wanted = "height" then oI (numW x 0)else if wanted = "beats"\/wanted = "times" then oI (numW x 1)else if wanted = "word" then(if Ws.isW x=true then .str x else .non)else if wanted = "limb" then(if x∈L then .str x else .non)else if x∈P then .str x else .non
inductive sp_boundedT(vs:List V)(H:Hp)(Q:VK)(xk:XK):Prop
 | mk (x:Str) (least:Int) (_:vs=[.str x,.int least]) (_:x.length<=200) (_:∀H',Same H H'->Q (oI (numW x least)) H'):sp_boundedT vs H Q xk
inductive sp_value_ofT(vs:List V)(H:Hp)(Q:VK)(xk:XK):Prop
 | mk (wanted x:Str) (d1 d2:Addr) (L P:List Str) (_:vs=[.str wanted,.str x,.ref d1,.ref d2]) (_:x.length<=200) (_:H d1=some (.dK (numK L))) (_:H d2=some (.dK (tabB P))) (_:(wanted = "height"\/wanted = "beats"\/wanted = "times"\/wanted = "word"\/wanted = "limb"\/wanted = "part")) (_:∀H',Same H H'->Q (valW wanted x L P) H'):sp_value_ofT vs H Q xk
theorem j2Q{L:List Str}{x:Str}:(valV (numK L) (Sum.inr x)).isSome=decide (x∈L):=by
 rw[<-ZJ];refine Bool.eq_iff_iff.mpr ?_;rw[any_eq_true,decide_eq_true_iff];have c:=Yn L;constructor
 ·rintro⟨p,b,e⟩;have a:p.1∈(numK L).map (·.1):=vO.mpr ⟨p,b,rfl⟩;rw[c,of_decide_eq_true e]at a;obtain⟨y,f,d⟩:=vO.mp a;exact Sum.inr.inj d▸f
 ·intro h;have a:(Sum.inr x:Key)∈(numK L).map (·.1):=by rw[c];exact vO.mpr ⟨x,h,rfl⟩
  obtain⟨p,b,e⟩:=vO.mp a;exact⟨p,b,vK e⟩
theorem Wc{P:List Str}{x:Str}:(valV (tabB P) (Sum.inr x)).isSome=decide (x∈P):=by
 by_cases h:x∈P
 ·rw[K2 h,vK h]
 ·rw[K1 h,vL h];rfl
noncomputable def namsW(kind:Str)(ws P:List Str):Option Fm:=
 if kind = "row" then(if(1<=ws.length/\ws.length<=8)/\∀w∈ws,w∈P then some (.row ws)else none)
 else(if(2<=ws.length/\ws.length<=4)/\∀w∈ws,w∈P then some (.side ws)else none)
noncomputable def formW(kind:Str)(ws L P:List Str):Option Fm:=
 if kind = "row"\/kind = "side" then namsW kind ws P
 else if kind = "raise" then(match ws with
  | [l,h,b]=>(match numW h 0,numW b 1 with
   | some hh,some n=>if l∈L then some (.rise l hh n)else none
   | _,_=>none)
  | _=>none)
 else if kind = "hold" then(match ws with
  | [b]=>(numW b 1).map Fm.hold
  | _=>none)
 else if kind = "ring" then(match ws with
  | [x,b]=>(match numW b 1 with
   | some n=>if Ws.isW x=true then some (.ring x n)else none
   | none=>none)
  | _=>none)
 else if kind = "again" then(match ws with
  | [k,p]=>(match numW k 1 with
   | some n=>if p∈P then some (.again n p)else none
   | none=>none)
  | _=>none)
 else none
noncomputable def partW(ws L P:List Str):Option (Str×Fm):=match ws with
 | k::x::kind::r=>if k = "part"/\Ws.isW x=true/\x∉P then(formW kind r L P).map fun f=>(x,f)else none
 | _=>none
def FormR(H:Hp)(Q:VK)(o:Option Fm):Prop:=(o=none->∀H',Same H H'->Q .non H')/\∀f,o=some f->∀(p:Addr) (H':Hp),Same H H'->FormAt H' p f->Q (.ref p) H'
inductive sp_names_formT(vs:List V)(H:Hp)(Q:VK)(xk:XK):Prop
 | mk (kind:Str) (l d:Addr) (ws P:List Str) (_:vs=[.str kind,.ref l,.ref d]) (_:(kind = "row"\/kind = "side")) (_:H l=some (.lst (ws.map V.str))) (_:ws.length<=5000) (_:H d=some (.dK (tabB P))) (_:FormR H Q (namsW kind ws P)):sp_names_formT vs H Q xk
inductive sp_form_ofT(vs:List V)(H:Hp)(Q:VK)(xk:XK):Prop
 | mk (kind:Str) (l d1 d2:Addr) (ws L P:List Str) (_:vs=[.str kind,.ref l,.ref d1,.ref d2]) (_:H l=some (.lst (ws.map V.str))) (_:ws.length<=5000) (_:(∀w∈ws,w.length<=200)) (_:H d1=some (.dK (numK L))) (_:H d2=some (.dK (tabB P))) (_:FormR H Q (formW kind ws L P)):sp_form_ofT vs H Q xk
inductive sp_part_ofT(vs:List V)(H:Hp)(Q:VK)(xk:XK):Prop
 | mk (l d1 d2:Addr) (ws L P:List Str) (_:vs=[.ref l,.ref d1,.ref d2]) (_:H l=some (.lst (ws.map V.str))) (_:ws.length<=5000) (_:(∀w∈ws,w.length<=200)) (_:H d1=some (.dK (numK L))) (_:H d2=some (.dK (tabB P))) (_:(partW ws L P=none->∀H',Same H H'->Q .non H')) (_:∀p,partW ws L P=some p->∀(a:Addr) (H':Hp),Same H H'->PartAt H' a p->Q (.ref a) H'):sp_part_ofT vs H Q xk
noncomputable def prsW:List Str->Option (List (Str×Int))
 | []=>some []
 | [_]=>none
 | x::h::r=>match numW h 0,prsW r with
  | some n,some ls=>if Ws.isW x=true then some ((x,n)::ls)else none
  | _,_=>none
noncomputable def limbsW:List Str->Option (List (Str×Int))
 | []=>none
 | k::r=>match prsW r with
  | some ls=>if k = "limbs"/\(1<=ls.length/\ls.length<=8)/\(ls.map (·.1)).Nodup then some ls else none
  | none=>none
inductive sp_limbs_ofT(vs:List V)(H:Hp)(Q:VK)(xk:XK):Prop
 | mk (l:Addr) (ws:List Str) (_:vs=[.ref l]) (_:H l=some (.lst (ws.map V.str))) (_:ws≠[]) (_:ws.length<=5000) (_:(∀w∈ws,w.length<=200)) (_:(limbsW ws=none->∀H',Same H H'->Q .non H')) (_:∀ls,limbsW ws=some ls->∀(c:Addr) (as:List Addr) (H':Hp),Same H H'->H c=none->H' c=some (.lst (as.map V.ref))->All2 (LimbAt H') as ls->Q (.ref c) H'):sp_limbs_ofT vs H Q xk
def RowOk(r:Str):Prop:=(∀w∈spW r,w.length<=200)/\r.length<=4000/\10∉r.cps.toList
structure RowsOk(rows:List Str):Prop where
 n1:1<=rows.length
 n2:rows.length<=1000
 r:∀r∈rows,RowOk r
def PartsAt(rows:List Str)(ls:List (Str×Int))(ps:List (Str×Fm)):Prop:=ps.length<=60/\∀(i:Nat) (p:Str×Fm),ps[i]?=some p->partW (spW (rows.getD (i+1) ⟨#[]⟩)) (nmsOf ls) (nmsOf (ps.take i))=some p
structure RdT(rows:List Str)(ls:List (Str×Int))(ps:List (Str×Fm)):Prop where
 l:limbsW (spW (rows.getD 0 ⟨#[]⟩))=some ls
 n:2<=rows.length
 pl:ps.length+1=rows.length
 p:PartsAt rows ls ps
def RefT(rows:List Str)(k:Nat):Prop:=(k=0/\limbsW (spW (rows.getD 0 ⟨#[]⟩))=none)\/(k=1/\rows.length=1/\∃ls,limbsW (spW (rows.getD 0 ⟨#[]⟩))=some ls)\/
 (1<=k/\k<rows.length/\∃ls ps,limbsW (spW (rows.getD 0 ⟨#[]⟩))=some ls/\ps.length+1=k/\PartsAt rows ls ps/\(partW (spW (rows.getD k ⟨#[]⟩)) (nmsOf ls) (nmsOf ps)=none\/60<k))
inductive sp_readT(vs:List V)(H:Hp)(Q:VK)(xk:XK):Prop
 | mk (rows:List Str) (ls:List (Str×Int)) (ps:List (Str×Fm)) (_:vs=[.str (Txt.join "\n" rows)]) (_:RowsOk rows) (_:RdT rows ls ps) (_:∀(b pl pp:Addr) (las pas:List Addr) (H':Hp),Same H H'->H pl=none->H pp=none->pl≠pp->BookAt H' b pl pp las pas ls ps->Q (.ref b) H'):sp_readT vs H Q xk
def W7(cN:Addr):Sp:=fun vs H Q xk=>∃(rows:List Str) (k:Nat),vs=[.str (Txt.join "\n" rows)]/\RowsOk rows/\RefT rows k/\XE H cN [("row",.int (k:Nat))] xk
open PyProof.Rows.KTD (inKeys Dat datumAt)
theorem j0K{kind:Str}{ws P:List Str}(h:kind = "row"\/kind = "side"):∃lo hi:Int,KTD.datumAt kind [(("row" : Str),KTD.Dat.flat (.int 1)),("side",.flat (.int 2))]=some (.flat (.int lo))/\KTD.datumAt kind [(("row" : Str),KTD.Dat.flat (.int 8)),("side",.flat (.int 4))]=some (.flat (.int hi))/\
  namsW kind ws P=if(lo<=(ws.length:Int)/\(ws.length:Int)<=hi)/\∀w∈ws,w∈P then some (if kind = "row" then .row ws else .side ws)else none:=by
 have r:decide (("row" : Str) = "row")=true:=by decide +kernel
 have a:decide (("side" : Str) = "row")=false:=by decide +kernel
 have b:decide (("side" : Str) = "side")=true:=by decide +kernel
 have n:¬("side" : Str) = "row":=of_decide_eq_false a;unfold namsW;rcases h with rfl | rfl
 ·refine⟨1,8,by rw[KTD.datumAt,va r],by rw[KTD.datumAt,va r],?_⟩;rw[va rfl,va rfl];by_cases c:(1<=ws.length/\ws.length<=8)/\∀w∈ws,w∈P
  ·rw[va c,va ⟨⟨by have:=c.1.1;lia,by have:=c.1.2;lia⟩,c.2⟩]
  ·rw[vA c,vA fun z=>c ⟨⟨by have:=z.1.1;lia,by have:=z.1.2;lia⟩,z.2⟩]
 ·refine⟨2,4,by rw[KTD.datumAt,vA (by rw[a];decide),KTD.datumAt,va b],by rw[KTD.datumAt,vA (by rw[a];decide),KTD.datumAt,va b],?_⟩;rw[vA n,vA n];by_cases c:(2<=ws.length/\ws.length<=4)/\∀w∈ws,w∈P
  ·rw[va c,va ⟨⟨by have:=c.1.1;lia,by have:=c.1.2;lia⟩,c.2⟩]
  ·rw[vA c,vA fun z=>c ⟨⟨by have:=z.1.1;lia,by have:=z.1.2;lia⟩,z.2⟩]
structure OneT(kind:Str)(wants:List Str)(ws L P:List Str):Prop where
 k:inKeys kind FT=true
 d:datumAt kind FT=some (.tup (wants.map PyData.str))
 n:1<=wants.length/\wants.length<=3
 w:∀x∈wants,x = "height"\/x = "beats"\/x = "times"\/x = "word"\/x = "limb"\/x = "part"
 o:ws.length≠wants.length->formW kind ws L P=none
 v:ws.length=wants.length->(inV .non ((wants.zip ws).map fun p=>valW p.1 p.2 L P)=true->formW kind ws L P=none)/\
  (inV .non ((wants.zip ws).map fun p=>valW p.1 p.2 L P)=false->∃f,formW kind ws L P=some f/\∀(H:Hp) (p:Addr),H p=some (.tup (.str kind::(wants.zip ws).map fun p=>valW p.1 p.2 L P))->FormAt H p f)
theorem j4n{x:Str}{L P:List Str}:valW "height" x L P=oI (numW x 0):=va rfl
theorem j2g{x:Str}{L P:List Str}:valW "beats" x L P=oI (numW x 1):=by
 unfold valW;rw[vA (by decide +kernel),va (.inl rfl)]
theorem j4q{x:Str}{L P:List Str}:valW "times" x L P=oI (numW x 1):=by
 unfold valW;rw[vA (by decide +kernel),va (.inr rfl)]
theorem j4r{x:Str}{L P:List Str}:valW "word" x L P=if Ws.isW x=true then .str x else .non:=by
 unfold valW;rw[vA (by decide +kernel),vA (by decide +kernel),va rfl]
theorem j4o{x:Str}{L P:List Str}:valW "limb" x L P=if x∈L then .str x else .non:=by
 unfold valW;rw[vA (by decide +kernel),vA (by decide +kernel),vA (by decide +kernel),va rfl]
theorem j4p{x:Str}{L P:List Str}:valW "part" x L P=if x∈P then .str x else .non:=by
 unfold valW;rw[vA (by decide +kernel),vA (by decide +kernel),vA (by decide +kernel),vA (by decide +kernel)]
theorem j0u{kind:Str}{ws L P:List Str}(h:¬(kind = "row"\/kind = "side")):inKeys kind MN=false/\((inKeys kind FT=false/\formW kind ws L P=none)\/∃i,OneT kind i ws L P):=by
 have s:kind≠"row":=fun e=>h (.inl e)
 have t:kind≠"side":=fun e=>h (.inr e)
 refine⟨by unfold MN;simp[inKeys,s,t],?_⟩;by_cases j:kind = "raise"
 ·subst j;have d:formW "raise" ws L P=(match ws with
   | [l,h,b]=>(match numW h 0,numW b 1 with
    | some hh,some n=>if l∈L then some (.rise l hh n)else none
    | _,_=>none)
   | _=>none):=by
   unfold formW;rw[vA h,va rfl]
   try rfl
  refine .inr ⟨[("limb" : Str),"height","beats"],by decide +kernel,wt (by decide +kernel),by decide,?_,fun a=>?_,fun a=>?_⟩
  ·intro x g;simp only[mem_cons,not_mem_nil,or_false]at g;rcases g with rfl | rfl | rfl<;>simp
  ·rw[d]
   match ws,a with
   | [],_=>rfl
   | [_],_=>rfl
   | [_,_],_=>rfl
   | [_,_,_],a=>exact ue rfl a
   | _::_::_::_::_,_=>rfl
  ·match ws,a,d with
   | [l,h,b],_,d=>
    show(inV .non [valW "limb" l L P,valW "height" h L P,valW "beats" b L P]=true->_)/\(inV .non [valW "limb" l L P,valW "height" h L P,valW "beats" b L P]=false->∃f,_/\∀(H:Hp) (p:Addr),H p=some (.tup [.str "raise",valW "limb" l L P,valW "height" h L P,valW "beats" b L P])->_);rw[d,j4o,j4n,j2g];dsimp only;cases numW h 0 with
    | none=>exact⟨fun _=>rfl,fun z=>by by_cases c:l∈L<;>simp[c,oI,inV,eqV]at z⟩
    | some hh=>
     cases numW b 1 with
     | none=>exact⟨fun _=>rfl,fun z=>by by_cases c:l∈L<;>simp[c,oI,inV,eqV]at z⟩
     | some n=>
      dsimp only;by_cases c:l∈L
      ·rw[va c,va c];exact⟨fun z=>by simp[oI,inV,eqV]at z,fun _=>⟨_,rfl,fun H p q=>q⟩⟩
      ·rw[vA c,vA c];exact⟨fun _=>rfl,fun z=>by simp[oI,inV,eqV]at z⟩
 by_cases m:kind = "hold"
 ·subst m;have d:formW "hold" ws L P=(match ws with
   | [b]=>(numW b 1).map Fm.hold
   | _=>none):=by
   unfold formW;rw[vA h,vA j,va rfl]
   try rfl
  refine .inr ⟨[("beats" : Str)],by decide +kernel,(Yi (by decide +kernel)).trans (wt (by decide +kernel)),by decide,?_,fun a=>?_,fun a=>?_⟩
  ·intro x g;rw[vo.mp g];simp
  ·rw[d]
   match ws,a with
   | [],_=>rfl
   | [_],a=>exact ue rfl a
   | _::_::_,_=>rfl
  ·match ws,a,d with
   | [b],_,d=>
    show(inV .non [valW "beats" b L P]=true->_)/\(inV .non [valW "beats" b L P]=false->∃f,_/\∀(H:Hp) (p:Addr),H p=some (.tup [.str "hold",valW "beats" b L P])->_);rw[d,j2g];dsimp only;cases numW b 1 with
    | none=>exact⟨fun _=>rfl,fun z=>by simp[oI,inV,eqV]at z⟩
    | some n=>exact⟨fun z=>by simp[oI,inV,eqV]at z,fun _=>⟨_,rfl,fun H p q=>q⟩⟩
 by_cases o:kind = "ring"
 ·subst o;have d:formW "ring" ws L P=(match ws with
   | [x,b]=>(match numW b 1 with
    | some n=>if Ws.isW x=true then some (.ring x n)else none
    | none=>none)
   | _=>none):=by
   unfold formW;rw[vA h,vA j,vA m,va rfl]
   try rfl
  refine .inr ⟨[("word" : Str),"beats"],by decide +kernel,(Yi (by decide +kernel)).trans ((Yi (by decide +kernel)).trans (wt (by decide +kernel))),by decide,?_,fun a=>?_,fun a=>?_⟩
  ·intro x g;simp only[mem_cons,not_mem_nil,or_false]at g;rcases g with rfl | rfl<;>simp
  ·rw[d]
   match ws,a with
   | [],_=>rfl
   | [_],_=>rfl
   | [_,_],a=>exact ue rfl a
   | _::_::_::_,_=>rfl
  ·match ws,a,d with
   | [x,b],_,d=>
    show(inV .non [valW "word" x L P,valW "beats" b L P]=true->_)/\(inV .non [valW "word" x L P,valW "beats" b L P]=false->∃f,_/\∀(H:Hp) (p:Addr),H p=some (.tup [.str "ring",valW "word" x L P,valW "beats" b L P])->_);rw[d,j4r,j2g];dsimp only;cases numW b 1 with
    | none=>exact⟨fun _=>rfl,fun z=>by by_cases c:Ws.isW x=true<;>simp[c,oI,inV,eqV]at z⟩
    | some n=>
     dsimp only;by_cases c:Ws.isW x=true
     ·rw[va c,va c];exact⟨fun z=>by simp[oI,inV,eqV]at z,fun _=>⟨_,rfl,fun H p q=>q⟩⟩
     ·rw[vA c,vA c];exact⟨fun _=>rfl,fun z=>by simp[oI,inV,eqV]at z⟩
 by_cases r:kind = "again"
 ·subst r;have d:formW "again" ws L P=(match ws with
   | [k,p]=>(match numW k 1 with
    | some n=>if p∈P then some (.again n p)else none
    | none=>none)
   | _=>none):=by
   unfold formW;rw[vA h,vA j,vA m,vA o,va rfl]
   try rfl
  refine .inr ⟨[("times" : Str),"part"],by decide +kernel,(Yi (by decide +kernel)).trans ((Yi (by decide +kernel)).trans ((Yi (by decide +kernel)).trans (wt (by decide +kernel)))),by decide,?_,fun a=>?_,fun a=>?_⟩
  ·intro x g;simp only[mem_cons,not_mem_nil,or_false]at g;rcases g with rfl | rfl<;>simp
  ·rw[d]
   match ws,a with
   | [],_=>rfl
   | [_],_=>rfl
   | [_,_],a=>exact ue rfl a
   | _::_::_::_,_=>rfl
  ·match ws,a,d with
   | [k,q],_,d=>
    show(inV .non [valW "times" k L P,valW "part" q L P]=true->_)/\(inV .non [valW "times" k L P,valW "part" q L P]=false->∃f,_/\∀(H:Hp) (p:Addr),H p=some (.tup [.str "again",valW "times" k L P,valW "part" q L P])->_);rw[d,j4q,j4p];dsimp only;cases numW k 1 with
    | none=>exact⟨fun _=>rfl,fun z=>by by_cases c:q∈P<;>simp[c,oI,inV,eqV]at z⟩
    | some n=>
     dsimp only;by_cases c:q∈P
     ·rw[va c,va c];exact⟨fun z=>by simp[oI,inV,eqV]at z,fun _=>⟨_,rfl,fun H p q=>q⟩⟩
     ·rw[vA c,vA c];exact⟨fun _=>rfl,fun z=>by simp[oI,inV,eqV]at z⟩
 refine .inl ⟨by unfold FT;simp[inKeys,j,m,o,r],?_⟩;unfold formW;rw[vA h,vA j,vA m,vA o,vA r]
theorem wE:∀o,flatV (oI o)=true
 | some _=>rfl
 | none=>rfl
theorem j2h{a x:Str}{L P:List Str}:flatV (valW a x L P)=true:=by
 unfold valW;split
 ·exact wE _
 split
 ·exact wE _
 split
 ·split<;>rfl
 split
 ·split<;>rfl
 ·split<;>rfl
theorem Xn{ws L P:List Str}(h:ws.length<3):partW ws L P=none:=by
 match ws,h with
 | [],_=>rfl
 | [_],_=>rfl
 | [_,_],_=>rfl
theorem three{ws:List Str}(h:3<=ws.length):∃k x kind r,ws=k::x::kind::r:=by
 match ws,h with
 | k::x::kind::r,_=>exact⟨k,x,kind,r,rfl⟩
theorem xN{c d:Type}(f:c->d):∀l:List c,ev (l.map f)=(ev l).map f
 | []=>rfl
 | [_]=>rfl
 | a::b::r=>by
  rw[uy,uy,yN,yN,uy];show f a::ev (r.map f)=f a::(ev r).map f;rw[xN f r]
theorem xO{c:Type}{x:c}:∀{l:List c},x∈ev l->x∈l
 | [],h=>h
 | [_],h=>h
 | a::b::r,h=>by
  rw[yN]at h;rcases mem_cons.mp h with rfl | h
  ·exact vq
  ·exact vp _ (vp _ (xO h))
theorem wT:∀r:List Str,(prsW r=none/\¬((ev (r.drop 1)).length=(ev r).length/\(∀h∈ev (r.drop 1),numW h 0≠none)/\∀x∈ev r,Ws.isW x=true))\/
  ∃ls,prsW r=some ls/\ls.map (·.1)=ev r/\(ev (r.drop 1)).map (fun h=>numW h 0)=ls.map (fun p=>some p.2)/\∀x∈ev r,Ws.isW x=true
 | []=>.inr ⟨[],rfl,rfl,rfl,fun _ h=>nomatch h⟩
 | [x]=>.inl ⟨rfl,fun z=>by have:=z.1;simp[ev]at this⟩
 | x::h::r=>by
  have e:ev (x::h::r)=x::ev r:=yN _ _;have f:ev ((x::h::r).drop 1)=h::ev (r.drop 1):=yN _ _;rw[e,f];cases en:numW h 0 with
  | none=>exact .inl ⟨by simp[prsW,en],fun z=>z.2.1 h vq en⟩
  | some n=>
   by_cases b:Ws.isW x=true
   ·rcases wT r with⟨c,d⟩ | ⟨ls,c,d,g,i⟩
    ·refine .inl ⟨by simp[prsW,en,c],fun z=>d ⟨?_,fun y a=>z.2.1 y (vp _ a),fun y a=>z.2.2 y (vp _ a)⟩⟩;have:=z.1;rw[vT,vT]at this;lia
    ·refine .inr ⟨(x,n)::ls,by simp[prsW,en,c,b],by rw[uy,d],by rw[uy,uy,en,g],fun y a=>?_⟩;rcases mem_cons.mp a with rfl | a
     ·exact b
     ·exact i y a
   ·refine .inl ⟨?_,fun z=>b (z.2.2 x vq)⟩;have:Ws.isW x=false:=by simpa using b
    cases ep:prsW r<;>simp[prsW,en,this,ep]
theorem xZ{k:Str}{r:List Str}(h:¬((ev (r.drop 1)).length=(ev r).length/\(∀h∈ev (r.drop 1),numW h 0≠none)/\∀x∈ev r,Ws.isW x=true)):limbsW (k::r)=none:=by
 rcases wT r with⟨d,_⟩ | ⟨j,_,g,a,i⟩
 ·simp[limbsW,d]
 ·refine ue ⟨?_,fun y c e=>?_,i⟩ h
  ·have:=congrArg List.length a;rw[vt,vt]at this;rw[<-g,vt];exact this
  ·have:=(vO (f:=fun h=>numW h 0)).mpr ⟨y,c,e⟩;rw[a]at this;obtain⟨q,_,b⟩:=vO.mp this;cases b
theorem j0D{k:Str}{r:List Str}(h:¬(k = "limbs"/\(1<=(ev r).length/\(ev r).length<=8)/\(ev r).Nodup)):limbsW (k::r)=none:=by
 rcases wT r with⟨b,_⟩ | ⟨a,b,c,_⟩
 ·simp[limbsW,b]
 ·have:limbsW (k::r)=if k = "limbs"/\(1<=a.length/\a.length<=8)/\(a.map (·.1)).Nodup then some a else none:=by
   show(match prsW r with | some a=>_ | none=>none)=_;rw[b]
  rw[this,vA];rw[c,<-vt (f:=(·.1)) (as:=a),c];exact h
theorem x9{k:Str}{r:List Str}(h:k = "limbs"/\(1<=(ev r).length/\(ev r).length<=8)/\(ev r).Nodup)(h':(ev (r.drop 1)).length=(ev r).length/\(∀h∈ev (r.drop 1),numW h 0≠none)/\∀x∈ev r,Ws.isW x=true) :
  ∃ls,limbsW (k::r)=some ls/\ls.map (·.1)=ev r/\(ev (r.drop 1)).map (fun h=>numW h 0)=ls.map (fun p=>some p.2):=by
 rcases wT r with⟨_,a⟩ | ⟨ls,a,b,c,_⟩
 ·exact ue h' a
 ·refine⟨ls,?_,b,c⟩;have:limbsW (k::r)=if k = "limbs"/\(1<=ls.length/\ls.length<=8)/\(ls.map (·.1)).Nodup then some ls else none:=by
   show(match prsW r with | some ls=>_ | none=>none)=_;rw[a]
  rw[this,va];rw[b,<-vt (f:=(·.1)) (as:=ls),b];exact h
theorem j4g{a:List Str}(h:inV .non (a.map fun h=>oI (numW h 0))=true):¬∀y∈a,numW y 0≠none:=fun z=>by
 obtain⟨v,b,e⟩:=any_eq_true.mp h;obtain⟨y,c,rfl⟩:=vO.mp b;cases en:numW y 0 with
 | none=>exact z y c en
 | some n=>rw[en]at e;cases e
theorem j3L{a:List Str}(h:inV .non (a.map fun h=>oI (numW h 0))=false):∀y∈a,numW y 0≠none:=fun y b e=>by
 have:=List.any_eq_false.mp h (oI (numW y 0)) (vO.mpr ⟨y,b,rfl⟩);rw[e]at this;exact this rfl
theorem ZX(h:RowOk r):wds 32 r.cps.toList≠[]/\(∀u∈wds 32 r.cps.toList,32∉u)/\r.cps.toList=Sp.glue 32 (wds 32 r.cps.toList)/\(wds 32 r.cps.toList).length<=sizeLine/\r.length<=sizeLine/\(spW r).length<=5000/\spW r≠[]:=by
 obtain⟨a,b,c⟩:=j2j 32 r.cps.toList;have f:(20000:Nat)<sizeLine:=by decide
 have l:=h.2.1;have e:r.cps.toList.length=r.length:=rfl;have d:=Wd 32 r.cps.toList;refine⟨d,b,a.symm,by lia,by lia,by unfold spW;rw[vt];lia,fun z=>d (by unfold spW at z;exact List.map_eq_nil_iff.mp z)⟩
theorem Ke{b:List Str}(h:RowsOk b):(b.map fun y=>y.cps.toList)≠[]/\(∀u∈b.map (fun y=>y.cps.toList),10∉u)/\(Txt.join "\n" b).cps.toList=Sp.glue 10 (b.map fun y=>y.cps.toList)/\(b.map fun y=>y.cps.toList).length<=sizeLine/\(Txt.join "\n" b).length<=sizeLine/\((b.map fun y=>y.cps.toList).map fun u=>(⟨u.toArray⟩:Str))=b:=by
 have d:(Str.ofString "\n")=⟨#[10]⟩:=by decide +kernel
 have n:(5000000:Nat)<sizeLine:=by decide
 have f:=h.n1;have m:=h.n2;refine⟨fun z=>?_,fun u i=>?_,?_,by rw[vt];lia,?_,?_⟩
 ·rw[List.map_eq_nil_iff]at z;rw[z]at f;simp at f
 ·obtain⟨r,c,rfl⟩:=vO.mp i;exact(h.r r c).2.2
 ·rw[X7,d];exact KQ b
 ·rw[X7];refine vZ (Wx _ _) ?_;have g:(Str.ofString "\n").length=1:=by decide +kernel
  rw[g];have:∀l:List Str,(∀r∈l,r.length<=4000)->(l.map (·.length)).sum<=l.length*4000:=fun l=>by
   induction l with
   | nil=>intro _;simp
   | cons a l ih=>
    intro e;have j:=ih fun r c=>e r (vp _ c)
    have k:=e a vq;rw[uy,sum_cons,vT];lia
  have:=this b fun r c=>(h.r r c).2.1
  lia
 ·rw[map_map];exact(map_congr_left fun y _=>rfl).trans (List.map_id _)
theorem kP{ws:List Str}{ls:List (Str×Int)}(h:limbsW ws=some ls):(1<=ls.length/\ls.length<=8)/\(ls.map (·.1)).Nodup:=by
 cases ws with
 | nil=>cases h
 | cons k r=>
  unfold limbsW at h;dsimp only at h;cases e:prsW r with
  | none=>rw[e]at h;cases h
  | some ls'=>
   rw[e]at h;dsimp only at h;split at h
   ·rename_i c;cases h;exact c.2
   ·cases h
theorem kY{ws L P:List Str}{p:Str×Fm}(h:partW ws L P=some p):p.1∉P:=by
 match ws,h with
 | k::x::kind::r,h=>
  have e:partW (k::x::kind::r) L P=if k = "part"/\Ws.isW x=true/\x∉P then(formW kind r L P).map fun f=>(x,f)else none:=rfl
  rw[e]at h;split at h
  ·rename_i c;obtain⟨f,_,rfl⟩:=vf.mp h;exact c.2.2
  ·cases h
theorem j23{a:List Str}{i:Nat}{v:V}(h:((a.drop 1).map V.str)[i]?=some v):∃r,v = .str r/\a.getD (i+1) ⟨#[]⟩=r/\r∈a/\i+1<a.length:=by
 rw[vv,List.getElem?_drop]at h;obtain⟨r,b,rfl⟩:=vf.mp h;rw[Nat.add_comm]at b;exact⟨r,rfl,by rw[vy,b];rfl,vj b,(vx.mp b).1⟩
theorem W2{a:List Str}(h:1<=a.length):cutV (a.map V.str) (some 1) none=(a.drop 1).map V.str:=by
 cases a with
 | nil=>simp at h
 | cons r rs=>exact Wl
theorem j3l{a:List Str}(h:1<=a.length):(a.map V.str)[0]?=some (.str (a.getD 0 ⟨#[]⟩))/\a.getD 0 ⟨#[]⟩∈a:=by
 cases a with
 | nil=>simp at h
 | cons r rs=>exact⟨rfl,vq⟩
open PySem PySem.Spec PySem.NumText PyProof.Rows L2
theorem j38{x y:Str}(h:x.cps.toList=y.cps.toList):x=y:=by
 cases x;cases y;congr 1;exact Array.toList_inj.mp h
theorem j2x(l:List Nat)(c:Nat):digitsVal (l++[c])=digitsVal l*10+(c-48):=by
 unfold digitsVal;rw[List.foldl_append];rfl
theorem j1j:∀(n:Nat) (l:List Nat),l.length=n+1->AllDigits l->(l.head?=some 48->l.length=1)->(Nat.toDigits 10 (digitsVal l)).map Char.toNat=l/\(l.head?≠some 48->1<=digitsVal l):=by
 have j:∀k:Nat,k<10->(Nat.digitChar k).toNat=k+48:=by decide
 intro n
 induction n with
 | zero=>
  intro l b g _;obtain⟨c,rfl⟩:=List.length_eq_one_iff.mp b;have q:=g c vq;have e:digitsVal [c]=c-48:=by unfold digitsVal;simp
  rw[e,Nat.toDigits_eq_if (by decide),va (by lia)];refine⟨?_,fun h=>?_⟩
  ·show[(Nat.digitChar (c-48)).toNat]=[c]
   rw[j _ (by lia)];congr 1;lia
  ·have:c≠48:=fun z=>h (by rw[z];rfl)
   lia
 | succ n ih=>
  intro l b g s;have m:l≠[]:=fun z=>by rw[z]at b;simp at b
  obtain⟨a,c,rfl⟩:∃a c,l=a++[c]:=⟨l.dropLast,l.getLast m,(List.dropLast_concat_getLast m).symm⟩
  rw[vm]at b;have i:a.length=n+1:=by
   have:a.length+1=n+1+1:=b;lia
  have q:=g c (mem_append_right _ vq);have f:a.head?≠some 48:=fun z=>by
   have o:(a++[c]).head?=some 48:=by rw[List.head?_append,z];rfl
   have:=s o;rw[vm]at this;have:a.length+1=1:=this;lia
  obtain⟨t,u⟩:=ih a i (fun d r=>g d (mem_append_left _ r)) (fun z=>ue z f);have p:=u f;rw[j2x,Nat.toDigits_eq_if (by decide),vA (by lia)];refine⟨?_,fun _=>by lia⟩;rw[show(digitsVal a*10+(c-48))/10=digitsVal a by lia,show(digitsVal a*10+(c-48))%10=c-48 by lia,vi,t];congr 1;show[(Nat.digitChar (c-48)).toNat]=[c]
  rw[j _ (by lia)];congr 1;lia
theorem yS{x:Str}{a n:Int}(h:numW x a=some n):tI n=x/\0<=n/\a<=n/\n<=10^18:=by
 unfold numW at h;cases e:Ws.numV x 19 with
 | int m=>
  rw[e]at h;dsimp only at h;split at h
  ·rename_i c;cases h;unfold Ws.numV at e;split at e
   ·rename_i q;injection e with e;subst e;refine⟨?_,by lia,c⟩;have b:(tI ((digitsVal x.cps.toList:Nat):Int)).cps.toList=(Nat.toDigits 10 (digitsVal x.cps.toList)).map Char.toNat:=PySem.W.KIN.signs_num _;have f:=Ws.kO x;have:=(j1j (x.length-1) x.cps.toList (by lia) (Ws.yI q.2.1) (fun z=>by
     by_cases d:x.length=1
     ·lia
     ·exact ue ⟨z,d⟩ q.2.2)).1
    rw[this]at b;exact j38 b
   ·cases e
  ·cases h
 | _=>rw[e]at h;cases h
theorem WW:∀{r:List Str} {ls:List (Str×Int)},prsW r=some ls->ls.flatMap limbW=r/\∀p∈ls,Ws.isW p.1=true/\0<=p.2/\p.2<=10^18
 | [],_,h=>by cases h;exact⟨rfl,fun _ h=>nomatch h⟩
 | [_],_,h=>by cases h
 | x::y::r,ls,h=>by
  unfold prsW at h;cases en:numW y 0 with
  | none=>rw[en]at h;cases h
  | some n=>
   cases ep:prsW r with
   | none=>rw[en,ep]at h;cases h
   | some ls'=>
    rw[en,ep]at h;dsimp only at h;split at h
    ·rename_i c;cases h;obtain⟨b,d⟩:=WW ep;obtain⟨e,f,_,g⟩:=yS en;refine⟨?_,fun p a=>?_⟩
     ·rw[List.flatMap_cons,b];show x::tI n::r=_;rw[e]
     ·rcases mem_cons.mp a with rfl | a
      ·exact⟨c,f,g⟩
      ·exact d p a
    ·cases h
theorem xY{ws:List Str}{ls:List (Str×Int)}(h:limbsW ws=some ls):ws=("limbs" : Str)::ls.flatMap limbW/\∀p∈ls,Ws.isW p.1=true/\0<=p.2/\p.2<=10^18:=by
 cases ws with
 | nil=>cases h
 | cons k r=>
  unfold limbsW at h;dsimp only at h;cases e:prsW r with
  | none=>rw[e]at h;cases h
  | some ls'=>
   rw[e]at h;dsimp only at h;split at h
   ·rename_i c;cases h;obtain⟨a,b⟩:=WW e;exact⟨by rw[a,c.1],b⟩
   ·cases h
end Rm
namespace L2
open PySem PySem.Spec PySem.W PyProof.Rows
section
variable{prog:Program}{w:World}{A:Around}{E:Value->Shared->Prop}{s:Shared}
theorem zaT{z TI TO a b c d:Addr}(D:ZipApart z TI TO a b c d):ZA z TI TO a b [a,c] [b,d]:=
 ⟨D.TIz,D.TOz,D.i1z,D.i2z,D.TITO,D.TIi1,D.TIi2,D.TOi1,D.TOi2,by simp[D.i1z.symm,D.l1z.symm],by simp[D.TOi1,D.l1TO.symm],by simp[D.i12.symm,D.l1i2.symm],by simp[D.i2z.symm,D.l2z.symm],by simp[D.TOi2,D.l2TO.symm],by simp[D.i12,D.l2i1.symm]⟩
theorem YZ{z TI TO T m n q r:Addr}{f:Bool}{W:Obj}{k1 k2:Nat}{xs ys:Array Value}{x y:Value}{Q:Value->Shared->Prop}(D:ZipApart z TI TO m n q r)
  (hz:IsZipK s.heap z TI TO T f) (p:s.heap.get? T=some W) (F:IsPair s.heap TI (.ref m) (.ref n))
  (M:s.heap.IsTupleIter m q k1) (N:s.heap.IsListIter n r k2) (G:s.heap.IsTuple q xs) (H:s.heap.IsList r ys) (S:xs[k1]?=some x) (U:ys[k2]?=some y)
  (O:∀h',IsZipK h' z TI TO T true->h'.IsTupleIter m q (k1+1)->h'.IsListIter n r (k2+1)->IsPair h' s.heap.objs.size x y->h'.objs.size=s.heap.objs.size+1->
   (∀c o,c≠z->c≠m->c≠n->s.heap.get? c=some o->h'.get? c=some o)->Q (.ref s.heap.objs.size) {s with heap:=h'}) :
  wpAny (model prog w) A (Builtin.«zip.__next__» ⟨[.ref z],[]⟩) (fun C s'=>∃v,C=Fin.done (.ret v)/\Q v s') E s:=by
 show wpAny _ _ (field (.ref z) 2 >>= _) _ _ _;refine ug (wpAny_field hz rfl (x:=.bool false) rfl ?_);show wpAny _ _ (field (.ref z) 3 >>= _) _ _ _;refine ug (wpAny_field hz rfl (x:=.ref TI) rfl ?_);refine ug (wpAny_seqItems F rfl ?_);show wpAny _ _ (Builtin.SmallTypes.ownedTupleIsFree (.ref z) >>= _) _ _ _;refine ug (thn (Q6 hz p) fun a K ⟨P,I,L,k,b⟩=>?_);subst P L;simp only[Bool.false_eq_true,if_false];refine ug ?_;rw[<-Array.forIn_toList];simp only[forIn_cons,forIn_nil];refine ug (ug (wpAny_holding ?_));show wpAny _ _ (Builtin.SmallTypes.nextOf (.ref m) >>= _) _ _ _;refine ug (kS (M.extBut b.extBut D.i1z) (G.extBut b.extBut D.l1z) S fun J i d=>uf ?_);refine uf ?_;refine ug (ug (wpAny_holding ?_));show wpAny _ _ (Builtin.SmallTypes.nextOf (.ref n) >>= _) _ _ _;refine ug (wpAny_nextOf_list_item ((N.extBut b.extBut D.i2z).extBut d.extBut D.i12.symm) ((H.extBut b.extBut D.l2z).extBut d.extBut D.l2i1) U fun g j h=>uf ?_);refine uf (uf ?_);refine ug (wpAny_newTuple (hsz:=by show 2<=sizeLine;decide) ?_);have hsz:g.objs.size=s.heap.objs.size:=by rw[h.1,d.1,b.1]
 have l:IsZipK g z TI TO T true:=h.extBut _ _ D.i2z.symm (d.extBut _ _ D.i1z.symm k);have R:∀c o,c≠z->c≠m->c≠n->s.heap.get? c=some o->g.get? c=some o:=fun c o t u B e=>h.extBut _ _ B (d.extBut _ _ u (b.extBut _ _ t e))
 refine uf ⟨_,rfl,?_⟩;show Q (.ref g.objs.size) _;have p:(g.push {cls:=.type "tuple",data:=.seq #[x,y]}).get? g.objs.size=some {cls:=.type "tuple",data:=.seq #[x,y]}:=Heap.get?_push_size _ rfl;rw[hsz]at p|-;exact O _ (vN _ l) ((i.extBut h.extBut D.i12).at fun o e=>vN _ e) (j.at fun o e=>vN _ e) p (by rw[Heap.size_push,hsz]) fun c o t u B e=>vN _ (R c o t u B e)
theorem zG{z TI TO T b d e g:Addr}{f:Bool}{G:Obj}{k1 k2:Nat}{xs ys:Array Value}{x y:Value}{Q:Option Value->Shared->Prop}(D:ZipApart z TI TO b d e g)
  (hz:IsZipK s.heap z TI TO T f) (v:s.heap.get? T=some G) (h:IsPair s.heap TI (.ref b) (.ref d))
  (r:s.heap.IsTupleIter b e k1) (t:s.heap.IsListIter d g k2) (i:s.heap.IsTuple e xs) (j:s.heap.IsList g ys) (B:xs[k1]?=some x) (C:ys[k2]?=some y)
  (u:∀h',IsZipK h' z TI TO T true->h'.IsTupleIter b e (k1+1)->h'.IsListIter d g (k2+1)->IsPair h' s.heap.objs.size x y->h'.objs.size=s.heap.objs.size+1->
   (∀c o,c≠z->c≠b->c≠d->s.heap.get? c=some o->h'.get? c=some o)->Q (some (.ref s.heap.objs.size)) {s with heap:=h'}) :
  wpAny (model prog w) A (pyNext (.ref z)) Q E s:=by
 have a:s.TypeIs (.ref z) "zip":=⟨_,hz,rfl⟩
 unfold pyNext;refine ug (wpAny_attempt (wpAny_callSpecial?_slot (name:=Str.ofString "__next__") a F.slot_zip_next
  (wpAny_call_entry F.slot_zip_next a F.entry_zip_next (YZ D hz v h r t i j B C fun h' k l m n p q=>?_) (F.args_zip_next_1 _))))
 exact uf (u h' k l m n p q)
theorem Km{z TI TO T h l m H:Addr}{f:Bool}{I:Obj}{k1:Nat}{xs:Array Value}{Q:Fin->Shared->Prop}(F:A.handled=none)(D:ZipApart z TI TO h l m H)
  (hz:IsZipK s.heap z TI TO T f) (y:s.heap.get? T=some I) (i:IsPair s.heap TI (.ref h) (.ref l))
  (u:s.heap.IsTupleIter h m k1) (j:s.heap.IsTuple m xs) (G:xs[k1]?=none)
  (v:∀h' e,(∀c o,c≠z->c≠h->c≠l->s.heap.get? c=some o->h'.get? c=some o)->(∃o,h'.get? e=some o/\o.cls = .type "StopIteration")->E (.ref e) {s with heap:=h'}) :
  wpAny (model prog w) A (Builtin.«zip.__next__» ⟨[.ref z],[]⟩) Q E s:=by
 show wpAny _ _ (field (.ref z) 2 >>= _) _ _ _;refine ug (wpAny_field hz rfl (x:=.bool false) rfl ?_);show wpAny _ _ (field (.ref z) 3 >>= _) _ _ _;refine ug (wpAny_field hz rfl (x:=.ref TI) rfl ?_);refine ug (wpAny_seqItems i rfl ?_);show wpAny _ _ (Builtin.SmallTypes.ownedTupleIsFree (.ref z) >>= _) _ _ _;refine ug (thn (Q6 hz y) fun a p ⟨B,n,t,k,b⟩=>?_);subst B t;simp only[Bool.false_eq_true,if_false];refine ug ?_;rw[<-Array.forIn_toList];simp only[forIn_cons,forIn_nil];refine ug (ug (wpAny_holding ?_));show wpAny _ _ (Builtin.SmallTypes.nextOf (.ref h) >>= _) _ _ _;refine ug (Ym F (u.extBut b.extBut D.i1z) (j.extBut b.extBut D.l1z) G fun g e d C=>?_);exact v g e (fun c o q r _ x=>d _ _ r (b.extBut _ _ q x)) C
theorem Zh{z TI TO T d i j v:Addr}{f:Bool}{x:Obj}{k1:Nat}{xs:Array Value}{Q:Option Value->Shared->Prop}(q:A.handled=none)(D:ZipApart z TI TO d i j v)
  (hz:IsZipK s.heap z TI TO T f) (m:s.heap.get? T=some x) (g:IsPair s.heap TI (.ref d) (.ref i))
  (k:s.heap.IsTupleIter d j k1) (h:s.heap.IsTuple j xs) (u:xs[k1]?=none)
  (l:∀h',(∀c o,c≠z->c≠d->c≠i->s.heap.get? c=some o->h'.get? c=some o)->Q none {s with heap:=h'}):wpAny (model prog w) A (pyNext (.ref z)) Q E s:=by
 have a:s.TypeIs (.ref z) "zip":=⟨_,hz,rfl⟩
 unfold pyNext;refine ug (wpAny_attempt (wpAny_callSpecial?_slot (name:=Str.ofString "__next__") a F.slot_zip_next
  (wpAny_call_entry F.slot_zip_next a F.entry_zip_next (Km q D hz m g k h u fun h' e r p=>?_) (F.args_zip_next_1 _))))
 obtain⟨o,t,n⟩:=p;refine ug (wpAny_isInstance (T:="StopIteration") (b:=true) ⟨o,t,n⟩ isSubtype_stop ?_);exact uf (l _ r)
def ZipStT(h:Heap)(z TI TO i1 i2 l1 l2:Addr)(i:Nat):Prop:=
 IsPair h TI (.ref i1) (.ref i2)/\h.IsTupleIter i1 l1 i/\h.IsListIter i2 l2 i/\((i=0/\IsZip h z TI TO .none/\∃a b,IsPair h TO a b)\/(∃T f oT,IsZipK h z TI TO T f/\h.get? T=some oT/\T≠z/\T≠i1/\T≠i2))
theorem xq{z TI TO n p q r:Addr}{i:Nat}{xs ys:Array Value}{x y:Value}{Q:Option Value->Shared->Prop}(D:ZipApart z TI TO n p q r)(st:ZipStT s.heap z TI TO n p q r i)
  (k:s.heap.IsTuple q xs) (l:s.heap.IsList r ys) (J:xs[i]?=some x) (K:ys[i]?=some y)
  (H:∀h',ZipStT h' z TI TO n p q r (i+1)->IsPair h' s.heap.objs.size x y->s.heap.objs.size<h'.objs.size->(∀c o,c≠z->c≠TO->c≠n->c≠p->s.heap.get? c=some o->h'.get? c=some o)->Q (some (.ref s.heap.objs.size)) {s with heap:=h'}) :
  wpAny (model prog w) A (pyNext (.ref z)) Q E s:=by
 obtain⟨d,B,C,st⟩:=st;have S:s.heap.objs.size≠n:=by obtain⟨o,e,_⟩:=id B;exact vR (vM e)
 have U:s.heap.objs.size≠p:=by obtain⟨o,e,_⟩:=id C;exact vR (vM e)
 rcases st with⟨rfl,m,a,b,G⟩ | ⟨T,f,X,m,I,L,M,N⟩
 ·have W:s.heap.objs.size≠z:=vR (vM m);have j:s.TypeIs (.ref z) "zip":=⟨_,m,rfl⟩
  unfold pyNext;refine ug (wpAny_attempt (wpAny_callSpecial?_slot (name:=Str.ofString "__next__") j F.slot_zip_next (wpAny_call_entry F.slot_zip_next j F.entry_zip_next ?_ (F.args_zip_next_1 _))));refine K8 (j01 D.l1i1 J) (wD D.l2i2 K) (zaT D) m d G ⟨B,k⟩ ⟨C,l⟩ fun h' t Y u v g h=>uf ?_
  exact H h' ⟨h TI _ D.TIz D.TITO D.TIi1 D.TIi2 d,u.1,v.1,.inr ⟨_,false,_,t,g,W,S,U⟩⟩ g (vM g) h
 ·refine zG D m I d B C k l J K fun h' t u v g Z h=>?_
  exact H h' ⟨h TI _ D.TIz D.TIi1 D.TIi2 d,u,v,.inr ⟨T,true,X,t,h T _ L M N I,L,M,N⟩⟩ g (vM g) fun c o O c2 P R e=>h c o O P R e
theorem XI{z TI TO m v d x:Addr}{i:Nat}{xs ys:Array Value}{Q:Option Value->Shared->Prop}(C:A.handled=none)(D:ZipApart z TI TO m v d x)(st:ZipStT s.heap z TI TO m v d x i)
  (l:s.heap.IsTuple d xs) (P:s.heap.IsList x ys) (G:xs[i]?=none)
  (B:∀h',(∀c o,c≠z->c≠TO->c≠m->c≠v->s.heap.get? c=some o->h'.get? c=some o)->Q none {s with heap:=h'}):wpAny (model prog w) A (pyNext (.ref z)) Q E s:=by
 obtain⟨g,y,W,st⟩:=st;rcases st with⟨rfl,n,a,b,t⟩ | ⟨T,f,X,n,M,Y,Z,t3⟩
 ·have j:s.TypeIs (.ref z) "zip":=⟨_,n,rfl⟩
  unfold pyNext;refine ug (wpAny_attempt (wpAny_callSpecial?_slot (name:=Str.ofString "__next__") j F.slot_zip_next (wpAny_call_entry F.slot_zip_next j F.entry_zip_next ?_ (F.args_zip_next_1 _))));refine xo (zaT D) (fun h=>h.IsTupleIter m d 0/\h.IsTuple d xs) (fun h h' ⟨⟨o,e,r⟩,H,L,S⟩ k=>⟨⟨o,k m (by simp) o e,r⟩,H,k d (by simp) H L,S⟩)
   (fun s Q E p q=>Ym C p.1 p.2 G q) n g t ⟨y,l⟩ fun h' e u O=>?_
  obtain⟨o,R,N⟩:=O;refine ug (wpAny_isInstance (T:="StopIteration") (b:=true) ⟨o,R,N⟩ isSubtype_stop ?_);exact uf (B _ u)
 ·exact Zh C D n M g y l G fun h' u=>B h' fun c o I U J K e=>u c o I J K e
theorem j14{R:Result->Shared->Prop}{z TI TO K L Z l2 S:Addr}{lo:Nat}{xs ys:Array Value}(hh:A.in1.handled=none)(D:ZipApart z TI TO K L Z l2)(n:S≠z/\S≠TI/\S≠TO/\S≠K/\S≠L/\S≠Z/\S≠l2)(g:z<lo/\TO<lo/\K<lo/\L<lo/\S<lo)(P:xs.size=ys.size)(hn:xs.size<=sizeLine)(res:Value) :
  ∀(k i:Nat) (s:Shared) (as:List Addr) (c:Nat),xs.size-i=k->i<=xs.size->ZipStT s.heap z TI TO K L Z l2 i->s.heap.IsTuple Z xs->s.heap.IsList l2 ys->lo<=s.heap.objs.size->
  s.heap.get? S=some {cls:=.type "list",dict:=none,data:=.seq (as.map Value.ref).toArray c,slots:=#[]}->as.length=i->ZPs s.heap lo as xs ys->
  (∀h' v c',h'.get? S=some {cls:=.type "list",dict:=none,data:=.seq (v.map Value.ref).toArray c',slots:=#[]}->v.length=xs.size->ZPs h' lo v xs ys->
   (∀b o,b≠S->b≠z->b≠TO->b≠K->b≠L->s.heap.get? b=some o->h'.get? b=some o)->R (.ok (.ret res)) {s with heap:=h'})->
  codeAny (model prog w) A (.builtin "list.extend.loop" ⟨[.ref S,.ref z,res],[]⟩) R s:=by
 intro k
 induction k with
 | zero=>
  intro i s as c hk hi st C E t I G l hR;have a8:i=xs.size:=by lia
  refine codeAny_builtin F.entry_extend_loop ?_;rw[Around.under_plainId F.plain_extend_loop _];show wpAny _ A.in1 (pyNext (.ref z) >>= _) _ _ s;refine ug (XI hh D st C E (by rw[Array.getElem?_eq_none_iff];lia) fun h' m=>?_);have B:∀a∈as,a≠z/\a≠TO/\a≠K/\a≠L/\a≠S:=fun a d=>⟨vR (Nat.lt_of_lt_of_le g.1 (l.2.1 a d).1),vR (Nat.lt_of_lt_of_le g.2.1 (l.2.1 a d).1),vR (Nat.lt_of_lt_of_le g.2.2.1 (l.2.1 a d).1),vR (Nat.lt_of_lt_of_le g.2.2.2.1 (l.2.1 a d).1),vR (Nat.lt_of_lt_of_le g.2.2.2.2 (l.2.1 a d).1)⟩
  have u:∀a∈as,∀o,s.heap.get? a=some o->h'.get? a=some o:=fun a d o e=>m a o (B a d).1 (B a d).2.1 (B a d).2.2.1 (B a d).2.2.2.1 e
  refine uf (hR h' as c (m S _ n.1 n.2.2.1 n.2.2.2.1 n.2.2.2.2.1 I) (by lia) ⟨l.1,fun a d=>?_,fun j a e=>?_⟩ fun b o _ U W X Y e=>m b o U W X Y e)
  ·obtain⟨j,hj,ej⟩:=List.getElem_of_mem d;obtain⟨x,y,_,_,p⟩:=l.2.2 j a (by rw[vz hj,ej]);exact⟨(l.2.1 a d).1,vM (u a d _ p)⟩
  ·obtain⟨x,y,p1,p2,p⟩:=l.2.2 j a e;exact⟨x,y,p1,p2,u a (vj e) _ p⟩
 | succ k ih=>
  intro i s as c hk hi st C E t I G l hR;have J:i<xs.size:=by lia
  refine codeAny_builtin F.entry_extend_loop ?_;rw[Around.under_plainId F.plain_extend_loop _];show wpAny _ A.in1 (pyNext (.ref z) >>= _) _ _ s;have ex:xs[i]?=some xs[i]:=by simp[J]
  have ey:ys[i]?=some (ys[i]'(by lia)):=by simp[<-P,J]
  refine ug (xq D st C E ex ey fun h' a7 hp a5 m=>?_);have N:=m S _ n.1 n.2.2.1 n.2.2.2.1 n.2.2.2.2.1 I;show wpAny _ A.in1 (updateSeq S (·.push (.ref s.heap.objs.size)) >>= _) _ _ _;refine ug ?_;have Q:(as.map Value.ref).toArray.size=i:=by simp[G]
  refine wpAny_updateSeq N rfl (uf ⟨plainId_quiet F.plain_extend_loop _,?_⟩) (by rw[Q];lia) (by show((as.map Value.ref).toArray.push _).size<=sizeLine+1;rw[Array.size_push,Q];lia);have h:∀b o,b≠S->h'.get? b=some o->(h'.update S (Obj.mapSeq (·.push (.ref s.heap.objs.size)))).get? b=some o:=fun b o hb e=>(Heap.get?_update_other _ _ (Ne.symm hb)).trans e
  have H:=Heap.get?_update_self (Obj.mapSeq (·.push (.ref s.heap.objs.size))) N rfl;have e2:∃c2,(Obj.mapSeq (·.push (.ref s.heap.objs.size)) {cls:=.type "list",dict:=none,data:=.seq (as.map Value.ref).toArray c,slots:=#[]}:Obj)={cls:=.type "list",dict:=none,data:=.seq ((as++[s.heap.objs.size]).map Value.ref).toArray c2,slots:=#[]}:=by
   have e3:(as.map Value.ref).toArray.push (.ref s.heap.objs.size)=((as++[s.heap.objs.size]).map Value.ref).toArray:=by simp
   rw[<-e3];exact⟨_,rfl⟩
  obtain⟨c2,e2⟩:=e2;rw[e2]at H;have M:s.heap.objs.size+1<=(h'.update S (Obj.mapSeq (·.push (.ref s.heap.objs.size)))).objs.size:=by rw[(Heap.SameBut.update ..).1];exact a5
  have nS:s.heap.objs.size≠S:=vR (Nat.lt_of_lt_of_le g.2.2.2.2 t);have B:∀a∈as,a≠z/\a≠TO/\a≠K/\a≠L/\a≠S:=fun a d=>⟨vR (Nat.lt_of_lt_of_le g.1 (l.2.1 a d).1),vR (Nat.lt_of_lt_of_le g.2.1 (l.2.1 a d).1),vR (Nat.lt_of_lt_of_le g.2.2.1 (l.2.1 a d).1),vR (Nat.lt_of_lt_of_le g.2.2.2.1 (l.2.1 a d).1),vR (Nat.lt_of_lt_of_le g.2.2.2.2 (l.2.1 a d).1)⟩
  have a6:∀a∈as,a<s.heap.objs.size:=fun a d=>(l.2.1 a d).2
  have u:∀a∈as,∀o,s.heap.get? a=some o->(h'.update S (Obj.mapSeq (·.push (.ref s.heap.objs.size)))).get? a=some o:=fun a d o e=>h a o (B a d).2.2.2.2 (m a o (B a d).1 (B a d).2.1 (B a d).2.2.1 (B a d).2.2.2.1 e)
  refine ih (i+1) _ (as++[s.heap.objs.size]) c2 (by lia) J ?_ ?_ ?_ ?_ H (by rw[vm,G];rfl) ?_ ?_
  ·obtain⟨q1,q2,q3,q4⟩:=a7;refine⟨h _ _ n.2.1.symm q1,q2.at fun o e=>h _ _ n.2.2.2.1.symm e,q3.at fun o e=>h _ _ n.2.2.2.2.1.symm e,?_⟩;rcases q4 with⟨z0,_⟩ | ⟨T,f,oT,q5,q6,q7,q8,q9⟩
   ·cases z0
   ·by_cases zS:T=S
    ·subst zS;exact .inr ⟨T,f,_,h _ _ n.1.symm q5,H,q7,q8,q9⟩
    ·exact .inr ⟨T,f,oT,h _ _ n.1.symm q5,h _ _ zS q6,q7,q8,q9⟩
  ·obtain⟨o,e,r⟩:=C;exact⟨o,h _ _ n.2.2.2.2.2.1.symm (m _ _ D.l1z D.l1TO D.l1i1 D.l1i2 e),r⟩
  ·obtain⟨o,e,r⟩:=E;exact⟨o,h _ _ n.2.2.2.2.2.2.symm (m _ _ D.l2z D.l2TO D.l2i1 D.l2i2 e),r⟩
  ·show lo<=(h'.update S _).objs.size;exact vZ (Nat.le_succ_of_le t) M
  ·refine⟨List.pairwise_append.mpr ⟨l.1,pairwise_singleton _ _,fun a d b hb=>by rw[vo.mp hb];exact a6 a d⟩,fun a d=>?_,fun j a e=>?_⟩
   ·show lo<=a/\a<(h'.update S _).objs.size;rcases vg.mp d with q | q
    ·exact⟨(l.2.1 a q).1,Nat.lt_of_lt_of_le (Nat.lt_succ_of_lt (l.2.1 a q).2) M⟩
    ·rw[vo.mp q];exact⟨t,Nat.lt_of_lt_of_le (Nat.lt_succ_self _) M⟩
   ·by_cases hj:j<as.length
    ·rw[vF hj]at e;obtain⟨x,y,p1,p2,p⟩:=l.2.2 j a e;exact⟨x,y,p1,p2,u a (vj e) _ p⟩
    ·rw[vG (by lia)]at e;have O:j=i:=by
      have:=(vx.mp e).1;simp at this;lia
     rw[O,G,Nat.sub_self]at e;have ea:s.heap.objs.size=a:=by simpa using e
     subst ea;subst O;exact⟨_,_,ex,ey,h _ _ nS hp⟩
  ·intro a0 v c' a1 a2 a3 a4;exact hR a0 v c' a1 a2 a3 fun b o b0 U W X Y e=>a4 b o b0 U W X Y (h b o b0 (m b o U W X Y e))
theorem xr{R:Result->Shared->Prop}{z TI TO t u v x S:Addr}{lo n:Nat}{xs ys:Array Value}(hh:A.in1.handled=none)(D:ZipApart z TI TO t u v x)(i:S≠z/\S≠TI/\S≠TO/\S≠t/\S≠u/\S≠v/\S≠x)(G:z<lo/\TO<lo/\t<lo/\u<lo/\S<lo)(q:xs.size=ys.size)(hn:xs.size<=sizeLine)(res:Value)
  (st:ZipStT s.heap z TI TO t u v x 0) (hz:IsZip s.heap z TI TO .none) (C:s.heap.IsTuple v xs) (E:s.heap.IsList x ys) (r:lo<=s.heap.objs.size) (p:s.heap.get? S=some {cls:=.type "list",data:=.seq #[] n})
  (hR:∀h' d m,h'.get? S=some {cls:=.type "list",dict:=none,data:=.seq (d.map Value.ref).toArray m,slots:=#[]}->d.length=xs.size->ZPs h' lo d xs ys->
   (∀b o,b≠S->b≠z->b≠TO->b≠t->b≠u->s.heap.get? b=some o->h'.get? b=some o)->R (.ok (.ret res)) {s with heap:=h'}) :
  wpAny (model prog w) A.in1 (Builtin.List.listExtendWith (.ref S) (.ref z) res)
   (fun y s'=>match y with | .done f=>R (.ok f) s' | .again m=>m.quiet=true/\codeAny (model prog w) A m R s') (fun e s'=>R (.error e) s') s:=by
 have B:s.TypeIs (.ref z) "zip":=⟨_,hz,rfl⟩
 unfold Builtin.List.listExtendWith;refine ug (wpAny_typeOf B ?_);have Y:Builtin.List.listSameRef (.ref S) (.ref z)=false:=by simp[Builtin.List.listSameRef,i.1]
 have Z:(Value.type "zip"== Value.type "list")=false:=by decide
 have h3:(Value.type "zip"== Value.type "tuple")=false:=by decide
 simp only[Y,Z,h3,Bool.or_false,Bool.false_eq_true,if_false];refine ug (wpAny_pyIter_zip hz ?_);refine ug (wpAny_holding ?_);unfold Builtin.List.listLengthHint;refine ug (wpAny_specialOf B Kp ?_);show wpAny _ A.in1 (specialOf (Value.ref z) (Str.ofString "__length_hint__") >>= _) _ _ _;refine ug (wpAny_specialOf B YS ?_);refine uf ?_;show wpAny _ A.in1 (rule "list.extend.makes-room" >>= fun _=>Builtin.List.listTouch (.ref S) >>= fun _=>
  again (.builtin "list.extend.loop" ⟨[.ref S,.ref z,res],[]⟩)) _ _ _
 refine ug (wpAny_rule ?_);refine ug ?_;show wpAny _ A.in1 (updateSeq S (·.push .none) >>= fun _=>updateSeq S (·.pop)) _ _ _;refine ug (wpAny_updateSeq p rfl ?_);have g:=Heap.get?_update_self (Obj.mapSeq (·.push Value.none)) p rfl;refine wpAny_updateSeq (hz:=by seq_fits) g rfl ?_;have k:=Heap.get?_update_self (Obj.mapSeq (·.pop)) g rfl;have c:∀b o,b≠S->s.heap.get? b=some o->((s.heap.update S (Obj.mapSeq (·.push Value.none))).update S (Obj.mapSeq (·.pop))).get? b=some o:=
  fun b o J e=>(Heap.get?_update_other _ _ (Ne.symm J)).trans ((Heap.get?_update_other _ _ (Ne.symm J)).trans e)
 have H:((s.heap.update S (Obj.mapSeq (·.push Value.none))).update S (Obj.mapSeq (·.pop))).objs.size=s.heap.objs.size:=by rw[(Heap.SameBut.update ..).1,(Heap.SameBut.update ..).1]
 obtain⟨q1,q2,q3,q4⟩:=st;obtain⟨o1,W,r1⟩:=C;obtain⟨o2,X,r2⟩:=E;have l:∃a b,IsPair s.heap TO a b:=by
  rcases q4 with⟨_,_,h⟩ | ⟨T,f,oT,h,_⟩
  ·exact h
  ·have:=hz.symm.trans h;have:=congrArg (fun o=>(o.map fun o:Obj=>o.data)) this;simp[rawInt]at this
 obtain⟨ta,tb,l⟩:=l;refine uf ⟨plainId_quiet F.plain_extend_loop _,j14 hh D i G q hn res xs.size 0 _ [] _ rfl (vC _)
  ⟨c _ _ i.2.1.symm q1,q2.at fun o e=>c _ _ i.2.2.2.1.symm e,q3.at fun o e=>c _ _ i.2.2.2.2.1.symm e,.inl ⟨rfl,c _ _ i.1.symm hz,ta,tb,c _ _ i.2.2.1.symm l⟩⟩
  ⟨o1,c _ _ i.2.2.2.2.2.1.symm W,r1⟩ ⟨o2,c _ _ i.2.2.2.2.2.2.symm X,r2⟩ (by show lo<=Array.size _;rw[H];exact r) k rfl ⟨.nil,(fun a h=>nomatch h),fun j a h=>by simp at h⟩ fun h' d m K L M N=>?_⟩
 exact hR h' d m K L M fun b o I O P Q U e=>N b o I O P Q U (c b o I e)
theorem Ko{R:Result->Shared->Prop}{z TI TO n p q r S:Addr}{lo:Nat}{xs ys:Array Value}(P:A.in1.handled=none)(D:ZipApart z TI TO n p q r)(g:S≠z/\S≠TI/\S≠TO/\S≠n/\S≠p/\S≠q/\S≠r)(x:z<lo/\TO<lo/\n<lo/\p<lo/\S<lo)(l:xs.size=ys.size)(Q:xs.size<=sizeLine)
  (st:ZipStT s.heap z TI TO n p q r 0) (hz:IsZip s.heap z TI TO .none) (u:s.heap.IsTuple q xs) (v:s.heap.IsList r ys) (m:lo<=s.heap.objs.size) (h:s.heap.get? S=some {cls:=.type "list",data:=.seq #[]})
  (j:∃a b,IsPair s.heap TO a b)
  (hR:∀h' d k,h'.get? S=some {cls:=.type "list",dict:=none,data:=.seq (d.map Value.ref).toArray k,slots:=#[]}->d.length=xs.size->ZPs h' lo d xs ys->
   (∀b o,b≠S->b≠z->b≠TO->b≠n->b≠p->s.heap.get? b=some o->h'.get? b=some o)->R (.ok (.ret .none)) {s with heap:=h'}) :
  wpAny (model prog w) A.in1 (Builtin.«list.__init__» ⟨[.ref S,.ref z],[]⟩)
   (fun t s'=>match t with | .done f=>R (.ok f) s' | .again k=>k.quiet=true/\codeAny (model prog w) A k R s') (fun e s'=>R (.error e) s') s:=by
 show wpAny _ A.in1 (do let y <-Builtin.List.listItems (.ref S);Builtin.List.listUpdate (.ref S) (fun _=>#[]);letGo y.toList.reverse;Builtin.List.listExtendWith (.ref S) (.ref z) .none) _ _ s;refine ug ?_;unfold Builtin.List.listItems;refine ug (wpAny_seqItems h rfl (uf ?_));show wpAny _ A.in1 (updateSeq S (fun _=>#[]) >>= fun _=>letGo (#[]:Array Value).toList.reverse >>= fun _=>Builtin.List.listExtendWith (.ref S) (.ref z) .none) _ _ s;refine ug (wpAny_updateSeq h rfl ?_);have i:=Heap.get?_update_self (Obj.mapSeq (fun _=>(#[]:Array Value))) h rfl;have c:∀b o,b≠S->s.heap.get? b=some o->(s.heap.update S (Obj.mapSeq (fun _=>(#[]:Array Value)))).get? b=some o:=
  fun b o O e=>(Heap.get?_update_other _ _ (Ne.symm O)).trans e
 have B:(s.heap.update S (Obj.mapSeq (fun _=>(#[]:Array Value)))).objs.size=s.heap.objs.size:=(Heap.SameBut.update ..).1;obtain⟨W,X,Y,q4⟩:=st;obtain⟨T,M,Z⟩:=u;obtain⟨U,N,r2⟩:=v;obtain⟨ta,tb,j⟩:=j;refine ug (wpAny_letGo ?_);refine xr P D g x l Q .none
  ⟨c _ _ g.2.1.symm W,X.at fun o e=>c _ _ g.2.2.2.1.symm e,Y.at fun o e=>c _ _ g.2.2.2.2.1.symm e,.inl ⟨rfl,c _ _ g.1.symm hz,ta,tb,c _ _ g.2.2.1.symm j⟩⟩
  (c _ _ g.1.symm hz) ⟨T,c _ _ g.2.2.2.2.2.1.symm M,Z⟩ ⟨U,c _ _ g.2.2.2.2.2.2.symm N,r2⟩ (by show lo<=Array.size _;rw[B];exact m) i fun h' d k E F G H=>?_
 exact hR h' d k E F G fun b o C I J K L e=>H b o C I J K L (c b o C e)
theorem kD{z TI TO l m t u:Addr}{xs ys:Array Value}{Q:Value->Shared->Prop}(W:A.handled=none)(D:ZipApart z TI TO l m t u)(j:xs.size=ys.size)(X:xs.size<=sizeLine)
  (hz:IsZip s.heap z TI TO .none) (g:IsPair s.heap TI (.ref l) (.ref m)) (d:∃a b,IsPair s.heap TO a b) (C:s.heap.IsTupleIter l t 0) (G:s.heap.IsListIter m u 0) (h:s.heap.IsTuple t xs) (i:s.heap.IsList u ys)
  (U:∀h' c v,h'.get? s.heap.objs.size=some {cls:=.type "list",dict:=none,data:=.seq (c.map Value.ref).toArray v,slots:=#[]}->c.length=xs.size->ZPs h' (s.heap.objs.size+1) c xs ys->
   (∀b o,b≠z->b≠TO->b≠l->b≠m->s.heap.get? b=some o->h'.get? b=some o)->Q (.ref s.heap.objs.size) {s with heap:=h'}) :
  wpAny (model prog w) A (call (.type "list") [.ref z]) Q E s:=by
 have I:=vM hz;have x:=vM g;obtain⟨J,K,d⟩:=d;have n:=vM d;have p:l<s.heap.objs.size:=by obtain⟨o,e,_⟩:=id C;exact vM e
 have q:m<s.heap.objs.size:=by obtain⟨o,e,_⟩:=id G;exact vM e
 have y:t<s.heap.objs.size:=by obtain⟨o,e,_⟩:=id h;exact vM e
 have B:u<s.heap.objs.size:=by obtain⟨o,e,_⟩:=id i;exact vM e
 refine callType_codes (Q₁:=fun r f=>r = .ref s.heap.objs.size/\f={s with heap:=s.heap.push {cls:=.type "list",data:=.seq #[]}}) F.called_list (F.typeCall_list_1 _) F.entry_list_init
  (code_list_new _ ⟨rfl,rfl⟩) fun r f k=>?_
 obtain⟨rfl,rfl⟩:=k;have H:(s.heap.push {cls:=.type "list",data:=.seq #[]}).get? s.heap.objs.size=some {cls:=.type "list",data:=.seq #[]}:=Heap.get?_push_size _ rfl;refine⟨⟨_,H,rfl⟩,F.args_list_init_2 _ _,Ko (lo:=s.heap.objs.size+1) (by simp[W]) D ⟨vR I,vR x,vR n,vR p,vR q,vR y,vR B⟩ ⟨Nat.lt_succ_of_lt I,Nat.lt_succ_of_lt n,Nat.lt_succ_of_lt p,Nat.lt_succ_of_lt q,Nat.lt_succ_self _⟩ j X
  ⟨vN _ g,C.at fun o e=>vN _ e,G.at fun o e=>vN _ e,.inl ⟨rfl,vN _ hz,J,K,vN _ d⟩⟩ (vN _ hz) (h.push _) (i.push _) (by rw[Heap.size_push];exact vB _) H ⟨J,K,vN _ d⟩ fun h' c v L M N O=>?_⟩
 exact⟨rfl,U h' c v L M N fun b o P R S T e=>O b o (vI (vM e)) P R S T (vN _ e)⟩
end
def tLZT(K:Frg)(ta:TA):TE:=fun σ H Q=>ta σ H fun vs H1=>∃a b xs ys,vs=[.ref a,.ref b]/\SqT K H1 a xs/\SqL K H1 b ys/\xs.length=ys.length/\∀(l:Addr) (as:List Addr) (H':Hp),Same H1 H'->H1 l=none->H' l=some (.lst (as.map V.ref))->as.length=xs.length->
 (∀(i:Nat) (c:Addr) (x y:V),as[i]?=some c->xs[i]?=some x->ys[i]?=some y->H' c=some (.tup [x,y]))->Q (.ref l) H'
theorem j40{K:Frg}{d:TA}{e:St}{H:Hp}{Q:VK} (h:d e H fun vs H1=>∃a b xs ys,vs=[.ref a,.ref b]/\SqT K H1 a xs/\SqL K H1 b ys/\xs.length=ys.length/\∀(l:Addr) (as:List Addr) (H':Hp),Same H1 H'->H1 l=none->H' l=some (.lst (as.map V.ref))->as.length=xs.length->
 (∀(i:Nat) (c:Addr) (x y:V),as[i]?=some c->xs[i]?=some x->ys[i]?=some y->H' c=some (.tup [x,y]))->Q (.ref l) H'):tLZT K d e H Q:=h
theorem WS{X:Cx}{a b:Expr}{ta:TA}{p p' pos g:Pos}(T:X.calm=true)(U:Gl X "list")(Z:X.mg "list"= none)(W:Gl X "zip")(a0:X.mg "zip"= none)(ha:PA X [a,b] ta)
  (N:starEach [.Call (.Name "zip" p') [a,b] [] g] X.env=[(false,eval (.Call (.Name "zip" p') [a,b] [] g) X.env)]:=by rfl)
  (hs:starEach [a,b] X.env=[(false,eval a X.env),(false,eval b X.env)]:=by rfl) (O:starEach [b] X.env=[(false,eval b X.env)]:=by rfl) :
  PE X (.Call (.Name "list" p) [.Call (.Name "zip" p') [a,b] [] g] [] pos) (tLZT X.K ta):=by
 intro f s σ H Q I h;refine wpAny_Call_Name_kw (Qa I U Z XR ?_);refine PyProof.Rows.callWith_type1 ?_ N rfl;rw[N];refine Calls.spliced_cons ?_;refine Call_ (Qa I W a0 wj (PyProof.Rows.callWith_type1 (thn (ha g f s σ H _ I h) fun us n ⟨vs,H1,t,r1,q1⟩=>?_) (by rw[hs,O]) (by rw[O];rfl)));obtain⟨l1,l2,xs,ys,rfl,M,hr,a8,q⟩:=q1;cases r1 with
 | cons r rr=>
  cases rr with
  | cons r' rr=>
   cases rr;cases r;cases r';obtain⟨w,rv,E,a9⟩:=t.tuple M;obtain⟨D,P,F,aa⟩:=t.list hr;have lx:=rv.length;have ly:=P.length;refine KJ E F.isList fun B a1 a2 a3 a4 a5 Y=>?_
   refine Calls.spliced_nil ?_;have z:l1<n.heap.objs.size:=by obtain⟨o,e,_⟩:=id E;exact vM e
   have A:l2<n.heap.objs.size:=by obtain⟨o,e,_⟩:=id F.isList;exact vM e
   have m:∀{l k:Nat},l<n.heap.objs.size->l≠n.heap.objs.size+k:=fun h=>vI (Nat.lt_of_lt_of_le h (Nat.le_add_right _ _))
   refine kD (s:={n with heap:=B}) (xs:=w.toArray) (ys:=D.toArray) (t.ok.hd T)
    ⟨jz (by decide),jz (by decide),jz (i:=0) (by decide),jz (by decide),jz (by decide),jz (j:=0) (by decide),jz (by decide),jz (j:=0) (by decide),jz (by decide),jz (i:=0) (by decide),m z,m z,m (k:=0) z,m z,m A,m A,m (k:=0) A,m A⟩
    (by rw[size_toArray,size_toArray];lia) (by rw[size_toArray];lia) a1 a2 ⟨_,_,a3⟩ a4 a5 ?_ ?_ fun C d c o2 la J k2=>?_
   ·obtain⟨o,e,r⟩:=E;exact⟨o,Y _ _ e,r⟩
   ·obtain⟨o,e,r⟩:=F.isList;exact⟨o,Y _ _ e,r⟩
   have R:n.heap.objs.size<=B.objs.size:=vZ (Nat.le_add_right _ 4) (v3 (vM a1));have o2:C.get? B.objs.size=_:=o2;have J:ZPs C (B.objs.size+1) d w.toArray D.toArray:=J;show EP X f σ Q (.ref B.objs.size) _;have ab:d.length=w.length:=by rw[size_toArray]at la;exact la
   have k3:∀b o,n.heap.get? b=some o->C.get? b=some o:=fun b o e=>k2 b o (m (vM e)) (m (vM e)) (m (k:=0) (vM e)) (m (vM e)) (Y b o e)
   have I2:Inv X f σ H1 {n with heap:=C}:=t.kept (t':=n.toks) k3;have lo:∀c∈d,n.heap.objs.size<=c:=fun c T=>vZ R (Nat.le_of_succ_le (J.2.1 c T).1)
   have ws:∀q∈((B.objs.size,HO.lst (d.map V.ref))::(List.range d.length).map fun i=>(d.getD i 0,HO.tup [xs.getD i .non,ys.getD i .non])),H1 q.1=none/\NewA X f q.1/\∀G,ObjOk X.prog X.w G C q.1 q.2:=fun q M=>by
    rcases mem_cons.mp M with rfl | M
    ·exact⟨t.hok.fresh R,t.newA R,fun G=>⟨by rw[vt];lia,d.map Value.ref,c,valsR d,o2⟩⟩
    ·obtain⟨i,L,rfl⟩:=vO.mp M;have L:=v6.mp L;have ea:d[i]?=some (d.getD i 0):=by rw[vy,vz L];rfl
     have lc:=lo _ (vj ea);obtain⟨u,v,S,K,pr⟩:=J.2.2 i _ ea;have ex:xs[i]?=some (xs.getD i .non):=by rw[vy,vz (by lia)];rfl
     have ey:ys[i]?=some (ys.getD i .non):=by rw[vy,vz (by lia)];rfl
     obtain⟨u',eu,ru⟩:=rv.get ex;obtain⟨v',ev,a7⟩:=P.get ey;have:u=u':=by have:=S.symm.trans (show w.toArray[i]?=some u' by simpa using eu);exact vP this
     subst this;have:v=v':=by have:=K.symm.trans (show D.toArray[i]?=some v' by simpa using ev);exact vP this
     subst this;exact⟨t.hok.fresh lc,t.newA lc,fun G=>⟨(by show 2<=sizeLine;decide),[u,v],.cons ru (.cons a7 .nil),⟨_,pr,rfl,_,rfl⟩⟩⟩
   have nd:(((B.objs.size,HO.lst (d.map V.ref))::(List.range d.length).map fun i=>(d.getD i 0,HO.tup [xs.getD i .non,ys.getD i .non])).map (·.1)).Nodup:=by
    rw[uy,nodup_cons,map_map];have K:(List.range d.length).map ((fun x=>x.1)∘fun i=>(d.getD i 0,HO.tup [xs.getD i .non,ys.getD i .non]))=d:=ext_getElem (by simp) fun i h1 C=>by
     rw[getElem_map,getElem_range];show d.getD i 0=_;rw[vy,vz C];rfl
    rw[K];exact⟨fun h=>ue (J.2.1 _ h).1 (Nat.not_succ_le_self _),J.1.imp fun h=>vI h⟩
   obtain⟨G,I3,s3,k4⟩:=Inv.trackAll _ I2 ws nd;refine⟨.ref B.objs.size,G,I3,rfl,q _ d G s3 (t.hok.fresh R) (k4 _ vq) (by lia) fun i c x y S K e3=>?_⟩;have L:=(vx.mp S).1;have:=k4 (d.getD i 0,HO.tup [xs.getD i .non,ys.getD i .non]) (vp _ (vO.mpr ⟨i,v6.mpr L,rfl⟩));rw[vy,vy,vy,S,K,e3]at this;exact this
open PySem PySem.Spec PyProof.Rows
noncomputable def fLook:Option Addr->Value->Bool
 | none,_=>true
 | some f,v=>v == .ref f
def FTab(K:Frg)(a:Addr)(D:List (Str×Option Addr)):Prop:=KTD.tabLook fLook (fun b=>K.lookup b) a D=true
section
variable{X:Cx}
theorem Wm{g:Type}{prog:Program}{w:World}{A:Around}{E:Value->Shared->Prop}{s:Shared}{R:g->Value->Prop}{a:Addr}{D:List (Str×g)}{k:Str}{t:Tok}{d:g}{Q:Option Value->Shared->Prop}(T:KTD.TabOf R s.heap a D)(p:KTD.datumAt k D=some d)
  (n:∀v,R d v->Q (some v) {s with toks:=s.toks+1}):wpAny (model prog w) A (dictGet a (.str k t)) Q E s:=by
 obtain⟨_,o,b,u,j,x,h,m⟩:=T;unfold dictGet
 try with_reducible refine wpAny_holding ?_
 refine ug (wpAny_pyHash_str (ug (KTD.kt_dictFind_strs (s:={s with toks:=s.toks+1}) j h (by obtain⟨l⟩:=b;simpa using m.exact) ?_)));have c:Q (findBy (fun k v=>v.isStr k) b k) {s with toks:=s.toks+1}:=by
  have q:findBy (fun k v=>v.isStr k) b k=(b.toList.find? fun e=>e.key.isStr k).map (·.val):=by
   obtain⟨l⟩:=b;simp[findBy]
  rw[q];obtain⟨v,r,f⟩:=m.find_some p;rw[r];exact n v f
 rw[findBy_of_findIdx?]at c;cases hi:b.findIdx? fun e=>e.key.isStr k with
 | none=>rw[hi]at c;exact uf c
 | some i=>rw[hi]at c;exact ug (wpAny_dictEntries (s:={s with toks:=s.toks+1}) j h (uf c))
theorem j2K:IxR X (fun x y H Q=>∃(a:Addr) (k:Str) (D:List (Str×Option Addr)) (f:Addr),x = .ref a/\y = .str k/\FTab X.K a D/\KTD.datumAt k D=some (some f)/\Q (.ref f) H):=by
 intro i g l s z H x y v u Q I r w h n;obtain⟨a,k,D,f,rfl,rfl,T,m,q⟩:=h;cases r;obtain⟨t,rfl⟩:=w;have j:KTD.TabOf (fun(d:Option Addr) v=>fLook d v=true) s.heap a D:=KTD.tab_of_look (fun d v e=>e) (fun b o e=>I.kIn b o e) T;have c:s.TypeIs (.ref a) "dict":=let ⟨_,o,_,_,ho,hc,_⟩:=j;⟨o,ho,hc.1⟩;refine tail_any (ops:=[.ref a,.str k t]) c slot_dict_getitem.lookup ?_ n;unfold getItem
 try with_reducible refine wpAny_holding ?_
 refine ug (wpAny_sequenceKey c (by decide) ?_);refine ug (wpAny_callSpecial?_slot (name:=Str.ofString "__getitem__") c slot_dict_getitem
  (wpAny_call_entry slot_dict_getitem c entry_dict_getitem ?_ (args_dict_getitem _ _)))
 show wpAny _ _ (dictGet a (.str k t) >>= _) _ _ s;refine ug (Wm j m fun v p=>uf ⟨v,rfl,uf ?_⟩);have e:v = .ref f:=beq_iff_eq.mp p;subst e;exact⟨.ref f,H,I.tok _,rfl,q⟩
def tGetT(K:Frg)(to:TE)(t:TA):TE:=fun σ H Q=>to σ H fun x H1=>∃(a:Addr) (D:List (Str×KTD.Dat)),x = .ref a/\TabK K a D/\t σ H1 fun vs H2=>∃(k:Str) (dv:V),vs=[.str k,dv]/\
 ((∃ss:List Str,KTD.datumAt k D=some (.tup (ss.map PyData.str))/\ss.length<=100/\∀b,(∀H',SqT K H' b (ss.map V.str))->Q (.ref b) H2)\/(KTD.datumAt k D=none/\Q dv H2))
theorem j2Z{o a b:Expr}{M:TE}{t:TA}{g c:Pos}(ho:PE X o M)(Z:PA X [a,b] t)
  (j:attributeBase o "get" X.env (eval o X.env)=eval o X.env:=by rfl)
  (r:((backTo c (starEach [a,b] X.env)).all (fun x=>!x.1)&&(backToKw c (keywordEach [] X.env)).all (fun x=>x.1.isSome)
   && decide ([a,b].length+([]:List Keyword).length+(if([]:List Keyword).isEmpty then 0 else 1)<30))=true:=by rfl)
  (l:(g.endLine==c.line)=true:=by rfl) (hs:starEach [a,b] X.env=(false,eval a X.env)::starEach [b] X.env:=by rfl) (f:(backTo c (starEach [b] X.env)).any (·.1)=false:=by rfl) :
  PE X (.Call (.Attribute o "get" g) [a,b] [] c) (tGetT X.K M t):=by
 intro i s O H Q I h;refine wpAny_Call_method_late j r l rfl (thn (ho i s O H _ I h) fun v L ⟨x,P,z,r1,B⟩=>?_);obtain⟨F,D,rfl,T,B⟩:=B;cases r1;obtain⟨Y,k1,k2⟩:=kHeap z.kIn;have E:KTD.Here Y L.heap F D:=⟨KTD.text_of_look k1 T,fun b o e=>z.kIn b o (k2 b o e)⟩
 refine⟨"dict","dict.get",PySem.F.plainAttrs_dict,PySem.F.slot_dict_get,PySem.F.type_dict_get,E.typeIs,E.noDict,?_⟩;have J:=Z c i L O P _ z B;rw[hs]at J|-;refine Calls.callWith_builtin (by show(false||(backTo c (starEach [b] X.env)).any (·.1))=false;rw[f]<;>rfl) (Calls.evalArgs_plain ?_);refine thn J fun us s2 ⟨N,C,w,r2,q2⟩=>?_
 obtain⟨k,R,rfl,q⟩:=q2;obtain⟨u1,u2,rfl,⟨t1,rfl⟩,rd⟩:=vals2 r2;obtain⟨p,A,u⟩:=kHeap w.kIn;have m:KTD.Here p s2.heap F D:=⟨KTD.text_of_look A T,fun b o e=>w.kIn b o (u b o e)⟩
 refine call_meetsIn PySem.F.slot_dict_get m.typeIs PySem.F.entry_dict_get (PySem.F.args_dict_get_3 _ _ _) (KTD.meets_get2 (h₀:=p) (D:=D)) ⟨m,fun d v y hv=>?_,fun K=>?_⟩
 ·rcases q with⟨ss,e,hz,q⟩ | ⟨e,q⟩
  ·rw[e]at y;cases y;obtain⟨b,N,rfl,⟨o,S,U,n,W⟩,hf⟩:=hv;have G:=yr hf;refine⟨.ref b,C,w.tok _,rfl,q b fun H'=>.inr ⟨o,N.toArray,n,u _ _ S,U,W,?_,by simpa using G⟩⟩;have:=G.length;rw[vt]at this;rw[size_toArray,sizeLine_eq];lia
  ·rw[e]at y;cases y
 ·rcases q with⟨ss,e,hz,q⟩ | ⟨e,q⟩
  ·rw[e]at K;cases K
  ·exact⟨R,C,w.tok _,rd,q⟩
def tCallV(f:Addr)(sp:Sp)(dvs:List V)(E:XK)(tf:TE)(t:TA):TE:=fun σ H Q=>tf σ H fun x H1=>x = .ref f/\t σ H1 fun vs H2=>sp (vs++dvs) H2 Q E
theorem j1T{d e:Expr}{b:List Expr}{CX:CXT}{k:Nat}{f:Addr}{m:FuncData}{ps:List Str}{sp:Sp}{ds:List Value}{c:List V}{E:XK}{n:TE}{t:TA}{pos:Pos}(C:PE X d n)(F:FnOk X.prog X.w X.K X.mg X.base CX k f m ps sp)(G:Room k X.A)(D:PySem.W.keepIn X.K (.ref f)=true)(y:Binds X.K m ps ds)(z:Vals c ds)(K:Passes CX X E)
  (w:PA X (e::b) t) (B:starEach (e::b) X.env=(false,eval e X.env)::starEach b X.env:=by rfl) (g:(backTo pos (starEach b X.env)).any (·.1)=false:=by rfl)
  (J:eval (.Call d (e::b) [] pos) X.env=(do
   let u <-eval d X.env
   callWith pos u [] (backTo pos (starEach (e::b) X.env)) (backToKw pos (keywordEach [] X.env))):=by rfl) :
  PE X (.Call d (e::b) [] pos) (tCallV f sp c E n t):=by
 intro a s o H Q I h;rw[J];refine ug (thn (C a s o H _ I h) fun v M ⟨x,p,j,L,i⟩=>?_);obtain⟨rfl,i⟩:=i;cases L;refine PySem.W.callWith_K (h₀:=X.base) j.ok.mod.kin D (thn (w pos a M o p _ j i) fun P O ⟨R,N,l,r,q⟩=>⟨l.kIn,?_⟩) B g;exact Xu F G y z K l r q
end
theorem j32{K:Frg}{f:TE}{t:TA}{d:St}{H:Hp}{Q:VK} (h:f d H fun x H1=>∃(a:Addr) (D:List (Str×KTD.Dat)),x = .ref a/\TabK K a D/\t d H1 fun vs H2=>∃(k:Str) (e:V),vs=[.str k,e]/\
 ((∃c:List Str,KTD.datumAt k D=some (.tup (c.map PyData.str))/\c.length<=100/\∀b,(∀H',SqT K H' b (c.map V.str))->Q (.ref b) H2)\/(KTD.datumAt k D=none/\Q e H2))):tGetT K f t d H Q:=h
theorem j22{f:Addr}{sp:Sp}{a:List V}{E:XK}{c:TE}{t:TA}{b:St}{H:Hp}{Q:VK}(h:c b H fun x H1=>x = .ref f/\t b H1 fun vs H2=>sp (vs++a) H2 Q E):tCallV f sp a E c t b H Q:=h
open PySem PySem.Spec PyProof.Rows PySem.W
theorem j0U{K:Frag}{a:Addr}{xs:List V}{g:TG}{j:TS}{l:TRS}{E:XS}{b:St}{H:Hp}(k:Nat)(u:k<xs.length)(d:Nat->St->Hp->Prop)(n:d 0 b H)(r:∀i b H,i<=k->d i b H->SqL K H a xs)
  (s:∀i v b H,i<=k->xs[i]?=some v->d i b H->g v b H fun c H2=>l c H2 E\/j {nx:=fun σ' H'=>i<k/\d (i+1) σ' H',ct:=fun σ' H'=>i<k/\d (i+1) σ' H',bk:=fun _ _=>False,rt:=fun _ _=>False} c H2) :
  ∃W:Nat->Nat->St->Hp->Prop,(∃m,W 0 m b H)/\∀i m b H,W i m b H->
   (Itl K a).go i H/\∃N:St->Hp->Prop,(∀σ' H',N σ' H'->∃h,h<m/\W (i+1) h σ' H')/\∀x H',(Itl K a).yld i H x H'->g x b H' fun c H2=>l c H2 E\/j {nx:=N,ct:=N,bk:=fun _ _=>False,rt:=fun _ _=>False} c H2:=by
 refine⟨fun i m b H=>m=k-i/\i<=k/\d i b H,⟨k,by simp,vC _,n⟩,?_⟩;rintro i m b H ⟨rfl,f,p⟩;have q:=r i b H f p;refine⟨⟨xs,xs[i],q,by rw[vz (by lia)]⟩,fun σ' H'=>i<k/\d (i+1) σ' H',fun σ' H' ⟨o,t⟩=>⟨k-(i+1),by lia,rfl,o,t⟩,fun x H' y=>?_⟩;obtain⟨e,y⟩:=y;subst e;exact s i x b _ f (y xs q) p
theorem j05{d c:TE}{b:St}{H:Hp}{Q:VK}(h:d b H fun y H1=>c b H1 fun x H2=>∃a o,x = .ref a/\DGet H2 a y o/\Q (.bl (!o.isSome)) H2):tDNotIn d c b H Q:=h
end L2
namespace Rm
open PySem PySem.Spec PyProof.Rows L2
structure DeskAt(C:Addr)(H:Hp)(d bd:Addr)(bs:List (Key×V)):Prop where
 o:∃dx,H d=some (.ins C dx (putF "books" (.ref bd) []))
 b:H bd=some (.dK bs)
theorem ZR{v:V}:(putF "books" v []).lookup ("books" : Str)=some v:=by rw[qq,va rfl]
theorem Y3{v:V}{m:Str}(h:¬m = "books"):(putF "books" v []).lookup m=none:=by
 rw[qq,vA h];rfl
theorem DeskAt.same{C:Addr}{H H':Hp}{d a:Addr}{bs:List (Key×V)}(D:DeskAt C H d a bs)(s:Same H H'):DeskAt C H' d a bs:=by
 obtain⟨⟨c,o⟩,b⟩:=D;exact⟨⟨c,s _ _ o⟩,s _ _ b⟩
inductive sp_initD(C:Addr)(vs:List V)(H:Hp)(Q:VK)(xk:XK):Prop
 | mk (x dx:Addr) (_:vs=[.ref x]) (_:H x=some (.ins C dx [])) (_:∀(bd:Addr) (H':Hp),(∀c u,c≠x->H c=some u->H' c=some u)->H bd=none->DeskAt C H' x bd []->Q .non H'):sp_initD C vs H Q xk
inductive sp_lengthD(vs:List V)(H:Hp)(Q:VK)(xk:XK):Prop
 | mk (l b pl pp:Addr) (las pas:List Addr) (ls:List (Str×Int)) (ps:List (Str×Fm)) (gs:List Int) (hs:List (List Int)) (_:vs=[.ref l]) (_:H l=some (.lst [.ref b])) (_:BookAt H b pl pp las pas ls ps) (_:Snd ls ps gs hs) (_:1<=ps.length) (_:∀H',Same H H'->Q (.str (tI (gs.getD (ps.length-1) 0))) H'):sp_lengthD vs H Q xk
structure AskN(x:Str):Prop where
 n:x.length<=100
 e:x≠""
 b:32∉x.cps.toList
inductive sp_putD(C:Addr)(vs:List V)(H:Hp)(Q:VK)(xk:XK):Prop
 | mk (d bd:Addr) (bs:List (Key×V)) (name:Str) (rows:List Str) (ls:List (Str×Int)) (ps:List (Str×Fm)) (gs:List Int) (hs:List (List Int)) (_:vs=[.ref d,.str name,.str (Txt.join "\n" rows)]) (_:DeskAt C H d bd bs) (_:bs.length<=100) (_:Ws.isW name=true) (_:RowsOk rows) (_:RdT rows ls ps) (_:Snd ls ps gs hs) (_:∀(b pl pp:Addr) (las pas:List Addr) (H':Hp),(∀c u,c≠bd->H c=some u->H' c=some u)->DeskAt C H' d bd (putK bs (Sum.inr name) (.ref b))->BookAt H' b pl pp las pas ls ps->Q .non H'):sp_putD C vs H Q xk
theorem j1A{n:Int}(a:0<=n)(b:n<=10^60):n.natAbs.log2<1920:=by
 by_cases e:n.natAbs=0
 ·rw[e];decide
 ·exact(Nat.log2_lt e).mpr (Nat.lt_of_le_of_lt (show n.natAbs<=10^60 by lia) (by decide))
theorem j2A{a:List Int}{n:Nat}(h:1<=n)(e:a.length=n):atI (a.map V.int) (-1)=some (.int (a.getD (n-1) 0)):=by
 have i:ixN n (-1)=some (n-1):=by
  unfold ixN;simp;lia
 unfold atI;rw[vt,e,i];show(a.map V.int)[n-1]?=_;rw[vv,vy,vz (by lia)];rfl
def XEo(H:Hp)(C:Addr)(fso:Option (List (Str×V)))(xk:XK):Prop:=match fso with
 | none=>∀H',Same H H'->xk (.ref C) none H'
 | some fs=>XE H C fs xk
def FldsAt(H:Hp)(dd:Option Addr)(fso:Option (List (Str×V))):Prop:=match fso with
 | none=>dd=none
 | some fs=>∃dx,dd=some dx/\H dx=some (.xd fs)
noncomputable def rowF(k:Nat):List (Str×V):=[("row",.int k)]
def PutBad(cN cB cI cT cL:Addr)(name:Str)(rows:List Str)(C:Addr)(fso:Option (List (Str×V))):Prop:=
 (Ws.isW name=false/\C=cN/\fso=none)\/(Ws.isW name=true/\RowsOk rows/\((∃k:Nat,RefT rows k/\C=cB/\fso=some (rowF k))\/
  ∃(ls:List (Str×Int)) (ps:List (Str×Fm)) (M:List (List Int)) (gs:List Int) (k:Nat),RdT rows ls ps/\WfL ls ps/\M.length=ps.length/\MovOk ls ps M/\PreL ps M gs k/\k<ps.length/\
   ((IdleAt ps M k/\C=cI/\fso=some (rowF k))\/(∃x,TwoAt ls ps M k x/\C=cT/\fso=some (putF "limb" (.str x) (rowF k)))\/(LongAt ps M gs k/\C=cL/\fso=some (rowF k)))))
inductive sp_kindsD(K:Frg)(vs:List V)(H:Hp)(Q:VK)(xk:XK):Prop
 | mk (l:Addr) (x:Str) (_:vs=[.ref l]) (_:H l=some (.lst [.str "length",.str x])) (_:∀b,(∀H',SqT K H' b [.str "name"])->∀H',Same H H'->Q (.ref b) H'):sp_kindsD K vs H Q xk
inductive sp_askedD(vs:List V)(H:Hp)(Q:VK)(xk:XK):Prop
 | mk (l:Addr) (x:Str) (_:vs=[.ref l]) (_:H l=some (.lst [.str "length",.str x])) (_:x≠"") (_:∀(p c:Addr) (H':Hp),Same H H'->H' p=some (.lst [.ref c])->H' c=some (.tup [.str "name",.str x])->Q (.ref p) H'):sp_askedD vs H Q xk
noncomputable def lenT(x:Str):Str:=Str.ofString "length "++x
inductive sp_sayD(C:Addr)(vs:List V)(H:Hp)(Q:VK)(xk:XK):Prop
 | mk (d bd b pl pp:Addr) (bs:List (Key×V)) (x:Str) (las pas:List Addr) (ls:List (Str×Int)) (ps:List (Str×Fm)) (gs:List Int) (hs:List (List Int)) (_:vs=[.ref d,.str (lenT x)]) (_:DeskAt C H d bd bs) (_:AskN x) (_:valV bs (Sum.inr x)=some (.ref b)) (_:BookAt H b pl pp las pas ls ps) (_:Snd ls ps gs hs) (_:1<=ps.length) (_:∀H',Same H H'->Q (.str (tI (gs.getD (ps.length-1) 0))) H'):sp_sayD C vs H Q xk
def W8(C cN:Addr):Sp:=fun vs H Q xk=>∃(d bd:Addr) (bs:List (Key×V)) (x:Str),vs=[.ref d,.str (lenT x)]/\DeskAt C H d bd bs/\AskN x/\valV bs (Sum.inr x)=none/\∀H',Same H H'->xk (.ref cN) none H'
def W6(C cN cB cI cT cL:Addr):Sp:=fun vs H Q xk=>∃(d:Addr) (name:Str) (rows:List Str) (X:Addr) (fso:Option (List (Str×V))),vs=[.ref d,.str name,.str (Txt.join "\n" rows)]/\name.length<=200/\PutBad cN cB cI cT cL name rows X fso/\XEo H X fso xk
theorem kN{x:Str}(A:AskN x):wds 32 (lenT x).cps.toList≠[]/\(∀u∈wds 32 (lenT x).cps.toList,32∉u)/\(lenT x).cps.toList=Sp.glue 32 (wds 32 (lenT x).cps.toList)/\(wds 32 (lenT x).cps.toList).length<=sizeLine/\(lenT x).length<=sizeLine/\((wds 32 (lenT x).cps.toList).map fun u=>(⟨u.toArray⟩:Str)).map V.str=[.str "length",.str x]:=by
 have e:(lenT x).cps.toList=Sp.glue 32 [(Str.ofString "length").cps.toList,x.cps.toList]:=by
  have l:(Str.ofString "length ").cps.toList=(Str.ofString "length").cps.toList++[32]:=by decide +kernel
  show((Str.ofString "length ").cps++x.cps).toList=(Str.ofString "length").cps.toList++32::x.cps.toList;rw[Array.toList_append,l,List.append_assoc];rfl
 have c:wds 32 (lenT x).cps.toList=[(Str.ofString "length").cps.toList,x.cps.toList]:=by
  rw[e];refine xj (by simp) fun w b=>?_
  rcases mem_cons.mp b with rfl | b
  ·decide +kernel
  ·rw[vo.mp b];exact A.b
 have f:(1000:Nat)<sizeLine:=by decide
 have n:=A.n;have d:(lenT x).length=7+x.length:=Str.length_append _ _;rw[c];refine⟨by simp,fun u a=>?_,e,uc,by lia,rfl⟩;rcases mem_cons.mp a with rfl | a
 ·decide +kernel
 ·rw[vo.mp a];exact A.b
open PySem PySem.Spec PySem.NumText PyProof.Rows L2
theorem j1H{a:Type}(ls:List (Str×a))(p:Str×a):nmsOf (ls++[p])=nmsOf ls++[p.1]:=by
 unfold nmsOf;rw[vi];rfl
theorem j1p{ws L P:List Str}:formW "raise" ws L P=(match ws with
  | [l,h,b]=>(match numW h 0,numW b 1 with
   | some hh,some n=>if l∈L then some (.rise l hh n)else none
   | _,_=>none)
  | _=>none):=by
 unfold formW;rw[vA (by decide +kernel),va rfl]<;>rfl
theorem j3j{k x kind:Str}{r L P:List Str}:partW (k::x::kind::r) L P=if k = "part"/\Ws.isW x=true/\x∉P then(formW kind r L P).map fun f=>(x,f)else none:=rfl
theorem J1{a:List Str}{ls:List (Str×Int)}{ps:List (Str×Fm)}{p:Str×Fm}(g:PartsAt a ls ps)(l:ps.length+1<=60)(e:partW (spW (a.getD (ps.length+1) ⟨#[]⟩)) (nmsOf ls) (nmsOf ps)=some p):PartsAt a ls (ps++[p]):=by
 refine⟨by rw[vm];exact l,fun i q b=>?_⟩;by_cases f:i<ps.length
 ·rw[vF f]at b;rw[List.take_append_of_le_length (by lia)];exact g.2 i q b
 ·have c:=(vx.mp b).1;rw[vm]at c;have d:i=ps.length:=by have:i<ps.length+1:=c;lia
  subst d;rw[vG (vB _),Nat.sub_self]at b;cases b;rw[List.take_append_of_le_length (vB _),v7];exact e
theorem j2E{kind:Str}{ws L P:List Str}{f:Fm}(h:formW kind ws L P=some f):(∀x∈f.ns,x∈P)/\f.ns.length<=8/\(∀x v n,f = .rise x v n->x∈L)/\FmL f:=by
 have j:∀{q:List Str} {x:Str} {v n:Int},¬Fm.row q = .rise x v n:=fun e=>by cases e
 have i:∀{q:List Str} {x:Str} {v n:Int},¬Fm.side q = .rise x v n:=fun e=>by cases e
 unfold formW at h;split at h
 ·unfold namsW at h;split at h
  ·split at h
   ·rename_i d;cases h;exact⟨d.2,d.1.2,fun x v n e=>(j e).elim,fun z=>by have:=d.1.1;rw[z]at this;simp at this⟩
   ·cases h
  ·split at h
   ·rename_i d;cases h;exact⟨d.2,by have:=d.1.2;show ws.length<=8;lia,fun x v n e=>(i e).elim,fun z=>by have:=d.1.1;rw[z]at this;simp at this⟩
   ·cases h
 split at h
 ·split at h
  ·rename_i l y b;split at h
   ·rename_i hh n e1 e2;split at h
    ·rename_i d;cases h;obtain⟨_,_,a,c⟩:=yS e2;exact⟨(fun x g=>nomatch g),vC _,fun x v n e=>by cases e;exact d,a,c⟩
    ·cases h
   ·cases h
  ·cases h
 split at h
 ·split at h
  ·obtain⟨n,e,rfl⟩:=vf.mp h;obtain⟨_,_,a,c⟩:=yS e;exact⟨(fun x g=>nomatch g),vC _,(fun x v n e=>by cases e),a,c⟩
  ·cases h
 split at h
 ·split at h
  ·rename_i x b;split at h
   ·rename_i n e;split at h
    ·cases h;obtain⟨_,_,a,c⟩:=yS e;exact⟨(fun x g=>nomatch g),vC _,(fun x v n e=>by cases e),a,c⟩
    ·cases h
   ·cases h
  ·cases h
 split at h
 ·split at h
  ·rename_i y p;split at h
   ·rename_i n e;split at h
    ·rename_i d;cases h;obtain⟨_,_,a,c⟩:=yS e;exact⟨fun x g=>by rw[vo.mp g];exact d,(by show 1<=8;decide),(fun x v n e=>by cases e),a,c⟩
    ·cases h
   ·cases h
  ·cases h
 ·cases h
theorem j2Y{ws L P:List Str}{p:Str×Fm}(h:partW ws L P=some p):p.1∉P/\Ws.isW p.1=true/\(∀x∈p.2.ns,x∈P)/\p.2.ns.length<=8/\(∀x v n,p.2 = .rise x v n->x∈L)/\FmL p.2:=by
 match ws,h with
 | k::x::kind::r,h=>
  rw[j3j]at h;split at h
  ·rename_i c;obtain⟨f,a,rfl⟩:=vf.mp h;exact⟨c.2.2,c.2.1,j2E a⟩
  ·cases h
theorem j1I{a:Type}(ps:List (Str×a))(i:Nat):nmsOf (ps.take i)=(nmsOf ps).take i:=by
 unfold nmsOf;rw[List.map_take]
theorem j4m{f:List Str}{ls:List (Str×Int)}{ps:List (Str×Fm)}(D:RdT f ls ps):WfL ls ps:=by
 have o:=kP D.l;have u:=(xY D.l).2;have P:∀i p,ps[i]?=some p->_:=fun i p d=>j2Y (D.p.2 i p d)
 have v:∀i,i<=ps.length->(nmsOf (ps.take i)).Nodup:=fun i=>by
  induction i with
  | zero=>exact fun _=>List.nodup_nil
  | succ i ih=>
   intro g;obtain⟨q,m⟩:∃q,ps[i]?=some q:=⟨_,vz (by lia)⟩
   rw[take_snoc m,j1H];refine nodup_append.mpr ⟨ih (by lia),by simp,fun a r b s e=>?_⟩;rw[vo.mp s]at e;exact(P i q m).1 (e▸r)
 have w:=D.p.1;have l:(nmsOf ps).Nodup:=by have:=v ps.length (vB _);rw[v7]at this;exact this
 refine⟨⟨o.2,o.1.2,l,by lia,fun i p d=>⟨fun x t=>?_,(P i p d).2.2.2.1⟩,fun i y x h n d=>?_⟩,fun p d=>?_,fun p d=>?_,fun p d=>?_⟩
 ·have:=(P i p d).2.2.1 x t;rw[j1I]at this;obtain⟨j,k⟩:=List.getElem?_of_mem this;rw[List.getElem?_take]at k;split at k
  ·rename_i c;exact⟨j,c,k⟩
  ·cases k
 ·have:=(P i _ d).2.2.2.2.1 x h n rfl;exact List.getElem?_of_mem this
 ·obtain⟨i,g⟩:=List.getElem?_of_mem d;exact(P i p g).2.2.2.2.2
 ·exact vZ (j3g (u p d).1) (by decide)
 ·obtain⟨i,g⟩:=List.getElem?_of_mem d;exact(P i p g).2.1
deriving instance DecidableEq for Fm
noncomputable def rA(n:Int):Str:=Str.ofString "part a raise arm 7 "++tI n
noncomputable def psA(n:Int):List (Str×Fm):=[(("a" : Str),Fm.rise "arm" 7 n),(("b" : Str),Fm.hold 3),(("c" : Str),Fm.row ["a","b"])]
noncomputable def lsA:List (Str×Int):=[("arm",2)]
noncomputable def xtR(c:Int):List Str:=if c=2 then["part d side a b"]else if c=3 then["part d side a c"]else if c=4 then["part d again 1000000000000000000 c","part e again 1000000000000000000 d","part f again 1000000000000000000 e","part g again 1000000000000000000 f"]else[]
noncomputable def rowsA(n:Int):List Str:=["limbs arm 2",rA n,"part b hold 3","part c row a b"]
noncomputable def rowsL(c n:Int):List Str:=if c=1 then["limbs arm 2","part a raise leg 7 2"]else rowsA n++xtR c
theorem WZ{n:Int}(b:0<=n):spW (rA n)=[("part" : Str),"a","raise","arm","7",tI n]:=by
 have e:(rA n).cps.toList=Sp.glue 32 [(Str.ofString "part").cps.toList,(Str.ofString "a").cps.toList,(Str.ofString "raise").cps.toList,(Str.ofString "arm").cps.toList,(Str.ofString "7").cps.toList,(tI n).cps.toList]:=by
  have l:(Str.ofString "part a raise arm 7 ").cps.toList=Sp.glue 32 [(Str.ofString "part").cps.toList,(Str.ofString "a").cps.toList,(Str.ofString "raise").cps.toList,(Str.ofString "arm").cps.toList,(Str.ofString "7").cps.toList,[]]:=by decide +kernel
  show((Str.ofString "part a raise arm 7 ").cps++(tI n).cps).toList=_;rw[Array.toList_append,l];simp only[Sp.glue,List.append_assoc,List.cons_append,List.nil_append]
 unfold spW;rw[e,xj (by simp) fun w a=>?_]
 ·rfl
 ·simp only[mem_cons,not_mem_nil,or_false]at a;rcases a with rfl | rfl | rfl | rfl | rfl | rfl
  ·decide +kernel
  ·decide +kernel
  ·decide +kernel
  ·decide +kernel
  ·decide +kernel
  ·exact no32 (j3e b)
theorem j4l{n:Int}(a:0<=n)(c:n<=10^18):RowOk (rA n):=by
 have d:=yD a c;refine⟨fun w b=>?_,?_,?_⟩
 ·rw[WZ a]at b;simp only[mem_cons,not_mem_nil,or_false]at b;rcases b with rfl | rfl | rfl | rfl | rfl | rfl
  ·decide +kernel
  ·decide +kernel
  ·decide +kernel
  ·decide +kernel
  ·decide +kernel
  ·lia
 ·have:(rA n).length=(Str.ofString "part a raise arm 7 ").length+(tI n).length:=Str.length_append _ _;have e:(Str.ofString "part a raise arm 7 ").length=19:=by decide +kernel
  lia
 ·show 10∉((Str.ofString "part a raise arm 7 ").cps++(tI n).cps).toList;rw[Array.toList_append,vg];rintro(h | h)
  ·exact ue h (by decide +kernel)
  ·have:=j3e a 10 h;lia
noncomputable def rowB(r:Str):Bool:=(spW r).all (fun w=>decide (w.length<=200))&&(decide (r.length<=4000) && !r.cps.toList.contains 10)
theorem RowOk.of{r:Str}(h:rowB r=true):RowOk r:=by
 unfold rowB at h;rw[Bool.and_eq_true,Bool.and_eq_true,all_eq_true]at h;refine⟨fun w a=>of_decide_eq_true (h.1 w a),of_decide_eq_true h.2.1,fun z=>?_⟩;have:=h.2.2;rw[List.contains_iff_mem.mpr z]at this;exact ue this (by decide)
theorem Kd{c n:Int}(b:0<=n)(d:n<=10^18):RowsOk (rowsL c n):=by
 have A:∀r∈rowsA n,RowOk r:=fun r a=>by
  simp only[rowsA,mem_cons,not_mem_nil,or_false]at a;rcases a with rfl | rfl | rfl | rfl
  ·exact RowOk.of (by decide +kernel)
  ·exact j4l b d
  ·exact RowOk.of (by decide +kernel)
  ·exact RowOk.of (by decide +kernel)
 have X:(xtR c).length<=4/\∀r∈xtR c,RowOk r:=by
  unfold xtR;split
  ·exact⟨by decide,fun r a=>RowOk.of (by rw[vo.mp a];decide +kernel)⟩
  ·split
   ·exact⟨by decide,fun r a=>RowOk.of (by rw[vo.mp a];decide +kernel)⟩
   ·split
    ·refine⟨by decide,fun r a=>RowOk.of ?_⟩;simp only[mem_cons,not_mem_nil,or_false]at a;rcases a with rfl | rfl | rfl | rfl<;>decide +kernel
    ·exact⟨by decide,fun r a=>nomatch a⟩
 unfold rowsL;split
 ·refine⟨by decide,by decide,fun r a=>RowOk.of ?_⟩;simp only[mem_cons,not_mem_nil,or_false]at a;rcases a with rfl | rfl<;>decide +kernel
 ·have e:=X.1;refine⟨by rw[vm];show 1<=4+_;lia,by rw[vm];show 4+_<=1000;lia,fun r a=>?_⟩;rcases vg.mp a with h | h
  ·exact A r h
  ·exact X.2 r h
theorem j4k{n:Int}(d:1<=n)(a:n<=10^18)(xs:List Str):PartsAt (rowsA n++xs) lsA (psA n):=by
 have z:PartsAt (rowsA n++xs) lsA []:=⟨vC _,fun i p e=>by simp at e⟩
 refine J1 (ps:=[(("a" : Str),Fm.rise "arm" 7 n),(("b" : Str),Fm.hold 3)]) (p:=(("c" : Str),Fm.row ["a","b"])) (J1 (ps:=[(("a" : Str),Fm.rise "arm" 7 n)]) (p:=(("b" : Str),Fm.hold 3)) (J1 (ps:=[]) (p:=(("a" : Str),Fm.rise "arm" 7 n)) z (by decide) ?_) (by show 2<=60;decide) ?_) (by show 3<=60;decide) ?_
 ·show partW (spW (rA n)) ["arm"] []=_;rw[WZ (by lia),j3j,va (by decide +kernel),j1p];have b:numW "7" 0=some 7:=by decide +kernel
  have c:numW (tI n) 1=some n:=by
   unfold numW;rw[Nm.j1L (by lia) a];exact va ⟨d,a⟩
  show((match numW "7" 0,numW (tI n) 1 with | some hh,some n=>if("arm" : Str)∈[("arm" : Str)]then some (Fm.rise "arm" hh n)else none | _,_=>none).map fun f=>(("a" : Str),f))=_;rw[b,c];show((if("arm" : Str)∈[("arm" : Str)]then some (Fm.rise "arm" 7 n)else none).map fun f=>(("a" : Str),f))=_;rw[va (by decide +kernel)];rfl
 ·show partW (spW "part b hold 3") ["arm"] ["a"]=some (("b" : Str),Fm.hold 3);decide +kernel
 ·show partW (spW "part c row a b") ["arm"] ["a","b"]=some (("c" : Str),Fm.row ["a","b"]);decide +kernel
noncomputable def agF(x:Str):Fm:=.again 1000000000000000000 x
noncomputable def xtP(c:Int):List (Str×Fm):=if c=2 then[(("d" : Str),Fm.side ["a","b"])]else if c=3 then[(("d" : Str),Fm.side ["a","c"])]else if c=4 then[(("d" : Str),agF "c"),(("e" : Str),agF "d"),(("f" : Str),agF "e"),(("g" : Str),agF "f")]else[]
theorem j21{c n:Int}(b:1<=n)(d:n<=10^18)(a:c≠1):RdT (rowsL c n) lsA (psA n++xtP c):=by
 have e:rowsL c n=rowsA n++xtR c:=vA a;rw[e];have f:limbsW (spW "limbs arm 2")=some lsA:=by decide +kernel
 have P:PartsAt (rowsA n++xtR c) lsA (psA n++xtP c)/\(xtP c).length=(xtR c).length:=by
  have A:=fun g=>j4k b d g
  unfold xtR xtP;split
  ·exact⟨J1 (A _) (by show 3+1<=60;decide) (by show partW (spW "part d side a b") ["arm"] ["a","b","c"]=some (("d" : Str),Fm.side ["a","b"]);decide +kernel),rfl⟩
  ·split
   ·exact⟨J1 (A _) (by show 3+1<=60;decide) (by show partW (spW "part d side a c") ["arm"] ["a","b","c"]=some (("d" : Str),Fm.side ["a","c"]);decide +kernel),rfl⟩
   ·split
    ·refine⟨?_,rfl⟩;exact J1 (ps:=psA n++[(("d" : Str),agF "c"),(("e" : Str),agF "d"),(("f" : Str),agF "e")]) (J1 (ps:=psA n++[(("d" : Str),agF "c"),(("e" : Str),agF "d")]) (J1 (ps:=psA n++[(("d" : Str),agF "c")]) (J1 (A _) (by show 3+1<=60;decide)
      (by show partW (spW "part d again 1000000000000000000 c") ["arm"] ["a","b","c"]=some (("d" : Str),agF "c");decide +kernel)) (by show 4+1<=60;decide)
      (by show partW (spW "part e again 1000000000000000000 d") ["arm"] ["a","b","c","d"]=some (("e" : Str),agF "d");decide +kernel)) (by show 5+1<=60;decide)
      (by show partW (spW "part f again 1000000000000000000 e") ["arm"] ["a","b","c","d","e"]=some (("f" : Str),agF "e");decide +kernel)) (by show 6+1<=60;decide)
      (by show partW (spW "part g again 1000000000000000000 f") ["arm"] ["a","b","c","d","e","f"]=some (("g" : Str),agF "f");decide +kernel)
    ·exact⟨A _,rfl⟩
 refine⟨f,by rw[vm];show 2<=4+_;lia,?_,P.1⟩;rw[vm,vm,P.2];show 3+_+1=4+_;lia
theorem Xg{ls:List (Str×Int)}{ps:List (Str×Fm)}{M:List (List Int)}(g:M.length=ps.length)(e:MovOk ls ps M){i:Nat}{p:Str×Fm}(c:ps[i]?=some p){l:List Int}(d:l.Pairwise (· < ·))(h:∀k,k∈l↔(∃j∈inP ps p.2,k∈M.getD j [])\/∃x v n,p.2 = .rise x v n/\k=(ixOf (nmsOf ls) x:Nat)):M.getD i []=l:=by
 have f:=(vx.mp c).1;obtain⟨a,b⟩:=e i p (M.getD i []) c (by rw[vy,vz (by lia)];rfl);exact XH a d fun k=>(b k).trans (h k).symm
structure PtA(n:Int)(xs:List (Str×Fm))(M:List (List Int)):Prop where
 w:WfL lsA (psA n++xs)
 l:M.length=(psA n++xs).length
 o:MovOk lsA (psA n++xs) M
 m0:M.getD 0 []=[0]
 m1:M.getD 1 []=[]
 m2:M.getD 2 []=[0]
 p:PreL (psA n++xs) M [n,3,n+3] 3
theorem zr{ps:List (Str×Fm)}{M:List (List Int)}{f:Fm}(h:∀a,f≠.side a):SideOk ps M f:=fun a e=>ue e (h a)
theorem j31{n c:Int}(A:1<=n)(B:n<=10^18)(t:c≠1):∃M,PtA n (xtP c) M:=by
 have W:=j4m (j21 A B t);obtain⟨M,d,f⟩:=j3J W.w;have o:inP (psA n++xtP c) (.row ["a","b"])=[0,1]:=by
  have:∀b:List Str,(["a","b"]:List Str).map (ixOf ("a"::"b"::"c"::b))=[0,1]:=fun b=>by
   have u:ixOf (("a" : Str)::"b"::"c"::b) "a"= 0:=va rfl;have w:ixOf (("a" : Str)::"b"::"c"::b) "b"= 1:=by
    show(if("a" : Str) = "b" then 0 else ixOf (("b" : Str)::"c"::b) "b" + 1)=1;rw[vA (by decide +kernel)];show(if("b" : Str) = "b" then 0 else _)+1=1;rw[va rfl]
   rw[uy,uy,u,w];rfl
  exact this (nmsOf (xtP c))
 have q:((ixOf (nmsOf lsA) "arm" : Nat):Int)=0:=by decide +kernel
 have l:M.getD 0 []=[0]:=Xg d f (i:=0) (p:=(("a" : Str),Fm.rise "arm" 7 n)) rfl (by simp) fun k=>by
  constructor
  ·intro h;rw[vo.mp h];exact .inr ⟨"arm",7,n,rfl,q.symm⟩
  ·rintro(⟨j,a,_⟩ | ⟨x,v,m,e,rfl⟩)
   ·exact nomatch a
   ·cases e;rw[q];exact vo.mpr rfl
 have r:M.getD 1 []=[]:=Xg d f (i:=1) (p:=(("b" : Str),Fm.hold 3)) rfl (by simp) fun k=>by
  constructor
  ·intro h;exact nomatch h
  ·rintro(⟨j,a,_⟩ | ⟨x,v,m,e,rfl⟩)
   ·exact nomatch a
   ·cases e
 have D:M.getD 2 []=[0]:=Xg d f (i:=2) (p:=(("c" : Str),Fm.row ["a","b"])) rfl (by simp) fun k=>by
  rw[show inP (psA n++xtP c) ((("c" : Str),Fm.row ["a","b"]):Str×Fm).2=[0,1]from o];constructor
  ·intro h;exact .inl ⟨0,by simp,by rw[l];exact h⟩
  ·rintro(⟨j,a,h⟩ | ⟨x,v,m,e,rfl⟩)
   ·rcases mem_cons.mp a with rfl | a
    ·rw[l]at h;exact h
    ·rw[vo.mp a,r]at h;exact nomatch h
   ·cases e
 refine⟨M,W,d,f,l,r,D,?_⟩;have z:PreL (psA n++xtP c) M [] 0:=⟨rfl,vC _,fun i p C=>ue C (Nat.not_lt_zero _)⟩
 have y:(10:Int)^18+3<=10^60:=by decide
 exact((z.snoc W (p:=(("a" : Str),Fm.rise "arm" 7 n)) rfl (g:=n) rfl (by lia) (zr fun s e=>by cases e)).snoc W (p:=(("b" : Str),Fm.hold 3)) rfl (g:=3) rfl (by lia) (zr fun s e=>by cases e)).snoc W (p:=(("c" : Str),Fm.row ["a","b"])) rfl (g:=n+3) (by
  show n+3=(inL _ _ _).sum;unfold inL;rw[show inP (psA n++xtP c) ((("c" : Str),Fm.row ["a","b"]):Str×Fm).2=[0,1]from o];show n+3=n+(3+0);lia) (by lia) (zr fun s e=>by cases e)
theorem j3A{n c:Int}(b:1<=n)(d:n<=10^18)(j:c=0\/c=5):RdT (rowsL c n) lsA (psA n)/\∃g,Snd lsA (psA n) [n,3,n+3] g:=by
 have a:c≠1:=by lia
 have e:xtP c=[]:=by unfold xtP;rw[vA (by lia),vA (by lia),vA (by lia)]
 have D:=j21 b d a;obtain⟨M,A⟩:=j31 b d a;rw[e,append_nil]at D;rw[e]at A;have w:=A.w;have l:=A.l;have o:=A.o;have p:=A.p;rw[append_nil]at w l o p;exact⟨D,M,p.snd w fun i h f=>WG w.w l o h f⟩
noncomputable def rowN(n:Int):Nat:=if n+3>10^6 then 5 else 6
theorem j4c(q f k m l:Addr){n c:Int}{name:Str}(d:1<=n)(a:n<=10^18)(s:Ws.isW name=true) :
  (c=1->PutBad q f k m l name (rowsL c n) f (some (rowF 1)))/\(c=2->PutBad q f k m l name (rowsL c n) k (some (rowF 3)))/\(c=3->PutBad q f k m l name (rowsL c n) m (some (putF "limb" (.str "arm") (rowF 3))))/\(c=4->PutBad q f k m l name (rowsL c n) l (some (rowF (rowN n)))):=by
 have R:=Kd (c:=c) (n:=n) (by lia) a;refine⟨fun e=>.inr ⟨s,R,.inl ⟨1,?_,rfl,rfl⟩⟩,fun e=>.inr ⟨s,R,.inr ?_⟩,fun e=>.inr ⟨s,R,.inr ?_⟩,fun e=>.inr ⟨s,R,.inr ?_⟩⟩
 ·rw[e];have E:limbsW (spW "limbs arm 2")=some lsA:=by decide +kernel
  exact .inr (.inr ⟨by decide,(by show 1<2;decide),lsA,[],E,rfl,⟨vC _,fun i p C=>by simp at C⟩,.inl (by show partW (spW "part a raise leg 7 2") ["arm"] []=none;decide +kernel)⟩)
 ·subst e;have D:=j21 (c:=2) d a (by decide);obtain⟨M,A⟩:=j31 (c:=2) d a (by decide);refine⟨lsA,_,M,_,3,D,A.w,A.l,A.o,A.p,by show 3<4;decide,.inl ⟨⟨(("d" : Str),Fm.side ["a","b"]),_,rfl,rfl,1,?_,A.m1⟩,rfl,rfl⟩⟩;show(1:Nat)∈(["a","b"]:List Str).map (ixOf ["a","b","c","d"]);decide +kernel
 ·subst e;have D:=j21 (c:=3) d a (by decide);obtain⟨M,A⟩:=j31 (c:=3) d a (by decide);have b:inP (psA n++xtP 3) ((("d" : Str),Fm.side ["a","c"]):Str×Fm).2=[0,2]:=by
   show(["a","c"]:List Str).map (ixOf ["a","b","c","d"])=[0,2]
   decide +kernel
  refine⟨lsA,_,M,_,3,D,A.w,A.l,A.o,A.p,by show 3<4;decide,.inr (.inl ⟨"arm",⟨(("d" : Str),Fm.side ["a","c"]),_,0,2,rfl,rfl,fun j r=>?_,rfl,?_,fun F h=>ue h (Nat.not_lt_zero _)⟩,rfl,rfl⟩)⟩
  ·rw[b]at r;rcases mem_cons.mp r with rfl | r
   ·rw[A.m0];simp
   ·rw[vo.mp r,A.m2];simp
  ·unfold cntL;rw[b,uy,uy,A.m0,A.m2];rw[map_nil];decide
 ·subst e;have D:=j21 (c:=4) d a (by decide);obtain⟨M,A⟩:=j31 (c:=4) d a (by decide);have o:∀x v,agF x≠.side v:=fun x v e=>by cases e
  have b:∀(x:Str) (j:Nat),(([x]:List Str).map (ixOf ["a","b","c","d","e","f","g"]))=[j]->inP (psA n++xtP 4) (agF x)=[j]:=fun x j h=>h
  have z:1000000000000000000*(n+3)<=10^60:=by
   have:(10:Int)^18*(10^18+3)<=10^60:=by decide
   lia
  have B:1000000000000000000*(1000000000000000000*(n+3))<=10^60:=by
   have:(10:Int)^36*(10^18+3)<=10^60:=by decide
   lia
  have w:=A.p.snoc A.w (p:=(("d" : Str),agF "c")) rfl (g:=1000000000000000000*(n+3)) ⟨_,by rw[inL,b "c" 2 (by decide +kernel)];rfl,rfl⟩ z (zr (o _));have u:=w.snoc A.w (p:=(("e" : Str),agF "d")) rfl (g:=1000000000000000000*(1000000000000000000*(n+3))) ⟨_,by rw[inL,b "d" 3 (by decide +kernel)];rfl,rfl⟩ B (zr (o _));have t:LenIs (agF "e") (inL (psA n++xtP 4) ([n,3,n+3]++[1000000000000000000*(n+3)]++[1000000000000000000*(1000000000000000000*(n+3))]) (agF "e")) (1000000000000000000*(1000000000000000000*(1000000000000000000*(n+3)))):=⟨_,by rw[inL,b "e" 4 (by decide +kernel)];rfl,rfl⟩
  by_cases g:n+3>10^6
  ·rw[show rowN n=5 from va g];refine⟨lsA,_,M,_,5,D,A.w,A.l,A.o,u,by show 5<7;decide,.inr (.inr ⟨⟨(("f" : Str),agF "e"),_,rfl,zr (o _),t,by lia⟩,rfl,rfl⟩)⟩
  ·rw[show rowN n=6 from vA g];have y:=u.snoc A.w (p:=(("f" : Str),agF "e")) rfl t (by lia) (zr (o _));refine⟨lsA,_,M,_,6,D,A.w,A.l,A.o,y,by show 6<7;decide,.inr (.inr ⟨⟨(("g" : Str),agF "f"),_,rfl,zr (o _),⟨1000000000000000000*(1000000000000000000*(1000000000000000000*(n+3))),by rw[inL,b "f" 5 (by decide +kernel)];rfl,rfl⟩,by lia⟩,rfl,rfl⟩)⟩
theorem wv{H:Hp}(f:Nat->Bool):∀l:List Nat,DVs H (l.map fun j=>V.bl (f j)) (l.map fun j=>PyData.bool (f j))
 | []=>.nil
 | _::r=>.cons (.bl _) (wv f r)
theorem j37(f:Nat->Bool)(l:List Nat):Shp 1 (.list (l.map fun j=>PyData.bool (f j))):=Shp.lst fun d a=>by
 obtain⟨j,_,rfl⟩:=vO.mp a;exact⟨rfl,vB _⟩
inductive sp_textL(vs:List V)(H:Hp)(Q:VK)(xk:XK):Prop
 | mk (c:Int) (_:vs=[.int c]) (_:∀H',Same H H'->Q (.str (Txt.join "\n" (rowsL (c%6) (1+c/6%10^18)))) H'):sp_textL vs H Q xk
inductive sp_errL(C cN cB cI cT cL:Addr)(vs:List V)(H:Hp)(Q:VK)(xk:XK):Prop
 | mk (d:Addr) (name:Str) (tx:V) (_:vs=[.ref d,.str name,tx]) (_:((∃(bd:Addr) (bs:List (Key×V)),tx = .non/\DeskAt C H d bd bs/\AskN name/\valV bs (Sum.inr name)=none/\∀(e:Addr) (H':Hp),Same H H'->H' e=some (XcF (.ref cN) e none)->Q (.ref e) H')\/(∃(rows:List Str) (X:Addr) (fso:Option (List (Str×V))),tx = .str (Txt.join "\n" rows)/\(∃bd bs,DeskAt C H d bd bs)/\name.length<=200/\PutBad cN cB cI cT cL name rows X fso/\∀(e:Addr) (dd:Option Addr) (H':Hp),Same H H'->H' e=some (XcF (.ref X) e dd)->FldsAt H' dd fso->Q (.ref e) H')\/∃(bd:Addr) (bs:List (Key×V)) (rows:List Str) (ls:List (Str×Int)) (ps:List (Str×Fm)) (gs:List Int) (hs:List (List Int)),tx = .str (Txt.join "\n" rows)/\DeskAt C H d bd bs/\bs.length<=100/\Ws.isW name=true/\RowsOk rows/\RdT rows ls ps/\Snd ls ps gs hs/\∀(b pl pp:Addr) (las pas:List Addr) (H':Hp),(∀c u,c≠bd->H c=some u->H' c=some u)->DeskAt C H' d bd (putK bs (Sum.inr name) (.ref b))->BookAt H' b pl pp las pas ls ps->Q .non H')):sp_errL C cN cB cI cT cL vs H Q xk
def ClsK(cN cB cI cT cL:Addr)(k:Int)(X:Addr):Prop:=(k=0/\X=cN)\/(k=1/\X=cB)\/(k=2/\X=cI)\/(k=3/\X=cT)\/(k=4/\X=cL)
def W9(cN cB cI cT cL:Addr):Sp:=fun vs H Q _=>∃x y:V,vs=[x,y]/\((x = .non/\y = .non)\/∃(a X:Addr) (dd:Option Addr) (k:Int),x = .ref a/\y = .int k/\H a=some (XcF (.ref X) a dd)/\ClsK cN cB cI cT cL k X)/\∀H',Same H H'->Q (.bl true) H'
def FldK(k n:Int)(fso:Option (List (Str×V))):Prop:=(k=0/\fso=none)\/(k=1/\fso=some (rowF 1))\/(k=2/\fso=some (rowF 3))\/(k=3/\fso=some (putF "limb" (.str "arm") (rowF 3)))\/(k=4/\fso=some (rowF (rowN n)))
inductive sp_rowT(cN cB cI cT cL:Addr)(vs:List V)(H:Hp)(Q:VK)(xk:XK):Prop
 | mk (x y:V) (n:Int) (_:vs=[x,y,.int (3+n)]) (_:((x = .non/\y = .non)\/∃(a X:Addr) (dd:Option Addr) (k:Int) (fso:Option (List (Str×V))),x = .ref a/\y = .int k/\1<=n/\n<=10^18/\H a=some (XcF (.ref X) a dd)/\ClsK cN cB cI cT cL k X/\FldsAt H dd fso/\FldK k n fso)) (_:∀H',Same H H'->Q (.bl true) H'):sp_rowT cN cB cI cT cL vs H Q xk
noncomputable def n3:List Str:=["one","two","three"]
noncomputable def n6:List Str:=["one","two","three","One","","ninesigns"]
theorem BookAt.keepL{H H':Hp}{b pl g:Addr}{c d:List Addr}{ls:List (Str×Int)}{ps:List (Str×Fm)}(e:∀a xs,H a=some (.tup xs)->H' a=some (.tup xs))(f:∀a xs,H a=some (.lst xs)->H' a=some (.lst xs))(B:BookAt H b pl g c d ls ps):BookAt H' b pl g c d ls ps:=
 ⟨e _ _ B.t,f _ _ B.l,B.la.mono fun a x h=>e _ _ h,f _ _ B.p,B.pa.mono fun a x h=>PartAt.keep e h⟩
def Has(H:Hp)(b:Addr)(n:Int):Prop:=∃(pl pp:Addr) (las pas:List Addr) (ls:List (Str×Int)) (ps:List (Str×Fm)) (gs:List Int) (hs:List (List Int)),BookAt H b pl pp las pas ls ps/\Snd ls ps gs hs/\1<=ps.length/\gs.getD (ps.length-1) 0=n/\0<=n/\n<=10^60
theorem Has.keep{H H':Hp}{b:Addr}{n:Int}(i:∀a xs,H a=some (.tup xs)->H' a=some (.tup xs))(g:∀a xs,H a=some (.lst xs)->H' a=some (.lst xs))(h:Has H b n):Has H' b n:=by
 obtain⟨k,l,c,d,j,m,e,f,B,r⟩:=h;exact⟨k,l,c,d,j,m,e,f,B.keepL i g,r⟩
def OneK(H:Hp)(ks bs:List (Key×V))(x:Str):Prop:=(valV ks (Sum.inr x)=none/\valV bs (Sum.inr x)=none)\/∃(n:Int) (b:Addr),valV ks (Sum.inr x)=some (.int n)/\valV bs (Sum.inr x)=some (.ref b)/\Has H b n
theorem OneK.keep{H H':Hp}{ks bs:List (Key×V)}{x:Str}(g:∀a xs,H a=some (.tup xs)->H' a=some (.tup xs))(f:∀a xs,H a=some (.lst xs)->H' a=some (.lst xs))(h:OneK H ks bs x):OneK H' ks bs x:=by
 rcases h with h | ⟨n,b,c,d,e⟩
 ·exact .inl h
 ·exact .inr ⟨n,b,c,d,e.keep g f⟩
theorem OneK.put{H:Hp}{ks bs:List (Key×V)}{x y:Str}{n:Int}{b:Addr}(h:OneK H ks bs x)(c:Has H b n):OneK H (putK ks (Sum.inr y) (.int n)) (putK bs (Sum.inr y) (.ref b)) x:=by
 unfold OneK;rw[xi,xi];by_cases e:x=y
 ·have a:(Sum.inr x:Key)=Sum.inr y:=by rw[e]
  rw[va a,va a];exact .inr ⟨n,b,rfl,rfl,c⟩
 ·have a:¬(Sum.inr x:Key)=Sum.inr y:=fun z=>e (Sum.inr.inj z)
  rw[vA a,vA a];exact h
theorem WX(kvs:List (Key×V))(k:Key)(v:V):(putK kvs k v).length<=kvs.length+1:=by
 unfold putK;split
 ·rw[vt];lia
 ·rw[vm];exact vB _
structure DW(C:Addr)(H:Hp)(d1 b1 d2 b2 kd p:Addr)(xs:List V)(bs ks:List (Key×V)):Prop where
 d:DeskAt C H d1 b1 bs
 e:DeskAt C H d2 b2 []
 k:H kd=some (.dK ks)
 l:H p=some (.lst xs)
 o:∀x,OneK H ks bs x
 n12:b2≠b1
 n1k:kd≠b1
 n2k:b2≠kd
theorem DW.same{C:Addr}{H H':Hp}{c a d b e p:Addr}{xs:List V}{bs ks:List (Key×V)}(D:DW C H c a d b e p xs bs ks)(s:Same H H'):DW C H' c a d b e p xs bs ks:=
 ⟨D.d.same s,D.e.same s,s _ _ D.k,s _ _ D.l,fun x=>(D.o x).keep (fun _ _ h=>s _ _ h) (fun _ _ h=>s _ _ h),D.n12,D.n1k,D.n2k⟩
theorem DW.put{C:Addr}{H d:Hp}{l i t s f p b:Addr}{xs:List V}{bs ks:List (Key×V)}{y:Str}{n:Int}(D:DW C H l i t s f p xs bs ks)(k:∀c u,c≠i->H c=some u->d c=some u)(B:DeskAt C d l i (putK bs (Sum.inr y) (.ref b)))(E:Has d b n) :
  DW C (upd d f (.dK (putK ks (Sum.inr y) (.int n)))) l i t s f p xs (putK bs (Sum.inr y) (.ref b)) (putK ks (Sum.inr y) (.int n)):=by
 have j:=k _ _ D.n1k D.k;have q:=D.d.b;have F:∀a xs,H a=some (.tup xs)->d a=some (.tup xs):=fun a xs h=>k _ _ (qF h q (fun e=>by cases e)) h
 have v:∀a xs,H a=some (.lst xs)->d a=some (.lst xs):=fun a xs h=>k _ _ (qF h q (fun e=>by cases e)) h
 have A:∀a xs,d a=some (.tup xs)->upd d f (.dK (putK ks (Sum.inr y) (.int n))) a=some (.tup xs):=fun a xs h=>(jg (qF h j (fun e=>by cases e))).trans h
 have r:∀a xs,d a=some (.lst xs)->upd d f (.dK (putK ks (Sum.inr y) (.int n))) a=some (.lst xs):=fun a xs h=>(jg (qF h j (fun e=>by cases e))).trans h
 obtain⟨⟨o,z⟩,I⟩:=B;obtain⟨⟨m,w⟩,G⟩:=D.e;have g:=k _ _ (qF w q (fun e=>by cases e)) w;refine⟨⟨⟨o,(jg (qF z j (fun e=>by cases e))).trans z⟩,(jg D.n1k.symm).trans I⟩,⟨⟨m,(jg (qF g j (fun e=>by cases e))).trans g⟩,(jg D.n2k).trans (k _ _ D.n12 G)⟩,ji,r _ _ (v _ _ D.l),fun x=>?_,D.n12,D.n1k,D.n2k⟩;exact OneK.put ((D.o x).keep (fun a xs h=>A _ _ (F _ _ h)) (fun a xs h=>r _ _ (v _ _ h))) (E.keep A r)
noncomputable def dueV(x:Str)(c:Int):V:=if x∈n3 then(if c=0\/c=5 then .non else .int c)else .int 0
theorem j3v{c:Int}(a:0<=c)(b:c<6):atI [V.non,V.int 1,V.int 2,V.int 3,V.int 4,V.non] c=some (if c=0\/c=5 then .non else .int c):=by
 rcases(show c=0\/c=1\/c=2\/c=3\/c=4\/c=5 by lia)with rfl | rfl | rfl | rfl | rfl | rfl<;>rfl
theorem j4e{c:Int}(a:0<=c)(b:c<6):∃x,atI [V.str "one",V.str "two",V.str "three",V.str "One",V.str "",V.str "ninesigns"] c=some (.str x)/\x∈n6:=by
 rcases(show c=0\/c=1\/c=2\/c=3\/c=4\/c=5 by lia)with rfl | rfl | rfl | rfl | rfl | rfl
 ·exact⟨"one",rfl,by decide +kernel⟩
 ·exact⟨"two",rfl,by decide +kernel⟩
 ·exact⟨"three",rfl,by decide +kernel⟩
 ·exact⟨"One",rfl,by decide +kernel⟩
 ·exact⟨"",rfl,by decide +kernel⟩
 ·exact⟨"ninesigns",rfl,by decide +kernel⟩
theorem j3h{x:Str}(h:x∈n6):x.length<=200/\(x∈n3->Ws.isW x=true)/\(x∉n3->Ws.isW x=false):=by
 have:∀x∈n6,x.length<=200/\(x∈n3->Ws.isW x=true)/\(x∉n3->Ws.isW x=false):=by decide +kernel
 exact this x h
theorem j1G{x:Str}(h:x∈n3):AskN x:=by
 have:∀x∈n3,x.length<=100/\x≠""/\32∉x.cps.toList:=by decide +kernel
 obtain⟨a,b,c⟩:=this x h;exact⟨a,b,c⟩
theorem j2r(b d f i g:Addr){x:Str}{c n:Int}(t:x∈n6)(q:1<=n)(s:n<=10^18)(w:0<=c)(y:c<6)(h:¬(x∈n3/\(c=0\/c=5))) :
  ∃(k:Int) (X:Addr) (a:Option (List (Str×V))),dueV x c = .int k/\ClsK b d f i g k X/\FldK k n a/\PutBad b d f i g x (rowsL c n) X a:=by
 obtain⟨_,v,u⟩:=j3h t;unfold dueV;by_cases e:x∈n3
 ·obtain⟨j,l,m,o⟩:=j4c b d f i g (c:=c) (name:=x) q s (v e);have p:¬(c=0\/c=5):=fun z=>h ⟨e,z⟩
  rw[va e,vA p];rcases(show c=1\/c=2\/c=3\/c=4 by lia)with r | r | r | r
  ·exact⟨c,_,_,rfl,.inr (.inl ⟨r,rfl⟩),.inr (.inl ⟨r,rfl⟩),j r⟩
  ·exact⟨c,_,_,rfl,.inr (.inr (.inl ⟨r,rfl⟩)),.inr (.inr (.inl ⟨r,rfl⟩)),l r⟩
  ·exact⟨c,_,_,rfl,.inr (.inr (.inr (.inl ⟨r,rfl⟩))),.inr (.inr (.inr (.inl ⟨r,rfl⟩))),m r⟩
  ·exact⟨c,_,_,rfl,.inr (.inr (.inr (.inr ⟨r,rfl⟩))),.inr (.inr (.inr (.inr ⟨r,rfl⟩))),o r⟩
 ·rw[vA e];exact⟨0,b,none,rfl,.inl ⟨rfl,rfl⟩,.inl ⟨rfl,rfl⟩,.inl ⟨u e,rfl,rfl⟩⟩
def OutP(C cN cB cI cT cL:Addr)(H:Hp)(d bd:Addr)(bs:List (Key×V))(x:Str)(c n:Int)(v:V)(H':Hp):Prop:=
 (v = .non/\dueV x c = .non/\∃b,(∀c u,c≠bd->H c=some u->H' c=some u)/\DeskAt C H' d bd (putK bs (Sum.inr x) (.ref b))/\Has H' b (3+n))\/
 ∃(k:Int) (X e:Addr) (dd:Option Addr) (fso:Option (List (Str×V))),v = .ref e/\dueV x c = .int k/\ClsK cN cB cI cT cL k X/\FldK k n fso/\Same H H'/\H' e=some (XcF (.ref X) e dd)/\FldsAt H' dd fso
theorem j3y{C m i j o l:Addr}{H:Hp}{d f:Addr}{bs:List (Key×V)}{x:Str}{c n:Int}{Q:VK}{E:XK}(D:DeskAt C H d f bs)(A:bs.length<=100)(w:x∈n6)(t:1<=n)(p:n<=10^18)(B:0<=c)(F:c<6)(h:∀v H',OutP C m i j o l H d f bs x c n v H'->Q v H'):sp_errL C m i j o l [.ref d,.str x,.str (Txt.join "\n" (rowsL c n))] H Q E:=by
 obtain⟨U,T,W⟩:=j3h w;refine⟨d,x,_,rfl,.inr ?_⟩;by_cases g:x∈n3/\(c=0\/c=5)
 ·obtain⟨R,u,S⟩:=j3A t p g.2;refine .inr ⟨f,bs,_,_,_,_,u,rfl,D,A,T g.1,Kd (by lia) p,R,S,fun b O P q r H' k z y=>h _ _ (.inl ⟨rfl,?_,b,k,z,O,P,q,r,_,_,_,u,y,S,(by show 1<=3;decide),?_,by lia,?_⟩)⟩
  ·unfold dueV;rw[va g.1,va g.2]
  ·show n+3=3+n;lia
  ·have:(10:Int)^18+3<=10^60:=by decide
   lia
 ·obtain⟨k,X,a,e,G,K,N⟩:=j2r m i j o l w t p B F g;exact .inl ⟨_,X,a,rfl,⟨f,bs,D⟩,U,N,fun J I H' s L M=>h _ _ (.inr ⟨k,X,J,I,a,rfl,e,G,K,s,L,M⟩)⟩
end Rm
namespace L2
inductive IvA2(a0 a1:Prop):Prop | mk:a0->a1->IvA2 a0 a1
inductive IvA3(a0 a1 a2:Prop):Prop | mk:a0->a1->a2->IvA3 a0 a1 a2
inductive IvA4(a0 a1 a2 a3:Prop):Prop | mk:a0->a1->a2->a3->IvA4 a0 a1 a2 a3
inductive IvA5(a0 a1 a2 a3 a4:Prop):Prop | mk:a0->a1->a2->a3->a4->IvA5 a0 a1 a2 a3 a4
inductive IvA6(a0 a1 a2 a3 a4 a5:Prop):Prop | mk:a0->a1->a2->a3->a4->a5->IvA6 a0 a1 a2 a3 a4 a5
inductive IvE1{α0:Type}(p:α0->Prop):Prop | mk (x0) (h:p x0):IvE1 p
inductive IvE2{α0 α1:Type}(p:α0->α1->Prop):Prop | mk (x0 x1) (h:p x0 x1):IvE2 p
inductive IvE3{α0 α1 α2:Type}(p:α0->α1->α2->Prop):Prop | mk (x0 x1 x2) (h:p x0 x1 x2):IvE3 p
inductive IvE4{α0 α1 α2 α3:Type}(p:α0->α1->α2->α3->Prop):Prop | mk (x0 x1 x2 x3) (h:p x0 x1 x2 x3):IvE4 p
inductive IvE5{α0 α1 α2 α3 α4:Type}(p:α0->α1->α2->α3->α4->Prop):Prop | mk (x0 x1 x2 x3 x4) (h:p x0 x1 x2 x3 x4):IvE5 p
inductive IvE7{α0 α1 α2 α3 α4 α5 α6:Type}(p:α0->α1->α2->α3->α4->α5->α6->Prop):Prop | mk (x0 x1 x2 x3 x4 x5 x6) (h:p x0 x1 x2 x3 x4 x5 x6):IvE7 p
inductive IvE9{α0 α1 α2 α3 α4 α5 α6 α7 α8:Type}(p:α0->α1->α2->α3->α4->α5->α6->α7->α8->Prop):Prop | mk (x0 x1 x2 x3 x4 x5 x6 x7 x8) (h:p x0 x1 x2 x3 x4 x5 x6 x7 x8):IvE9 p
end L2
theorem L2.fsc(a:sc.kind = .function:=by rfl)(b:sc.isCoroutine=false:=by rfl)(c:sc.isGenerator=false:=by rfl)(d:N.Nodup:=by decide +kernel)(e:N.take P.length=P:=by rfl)(f:∀x∈P,sc.names.lookup x=some .local\/sc.names.lookup x=some .cell:=by decide +kernel)(g:∀y∈sc.names,y.2≠.free:=by decide +kernel):L2.FnScope N P sc:=⟨a,b,c,d,e,f,g⟩
structure PySem.W.Fast:Prop where
  (tw375885591563901417 tw8424135836353633858 tw4693684198990907620 tw17903039086006990503 tw3019408508730580312 tw12652410371848401160 tw11609216856059728182 tw4225600592518596760 tw5688086771009744615 tw10690556694208126022 tw15272301540227915905 tw16626166769985683542 tw897001517095994144 tw7497801030470629851 tw10744072726554676317 tw17187485199223672750 tw525582868928766859 tw9986484431486104638 tw6830100157855586562 tw4948383103976288092 tw1360440525735276642 tw17035930851840046818 tw14266961372029339390 tw8498841914807315125 tw702302371962302124 tw8895527888207323373 tw4722765445804283997 tw5808192145001233333 tw13977102847923911972 tw3590324684042542706 tw5810998078291995525 tw820525895893723291 tw10750137341269512092 tw12041598602213912920 tw373634519545791064 tw6969272125298652137 tw3643887043713870517 tw7720803953913734630 tw1254659319554546336 tw14292068421920796538 tw2256366009647026441 tw12112911120796638186 tw5115893789867892405 tw10836567846818538447 tw4545505093314209546 tw2004882975082645226 tw14029512780807489557 tw2797881262040544702 tw14052218846002210671 tw5358129575236648389 tw8341688320811551097 tw2047994816055880353 tw10770553689150309506 tw3822336619013721260 tw1781344810374362432 tw6455783478418984674 tw1288434059562930018 tw6923691784880311725 tw2963509784413939540 tw10786877353804898514 tw2205267702861292636 tw1340941260503054690 tw16745213166190852543 tw2847278610391081465 tw10145799020071944954 tw7297784491272979577 tw8665971769703463202 tw17806978290295071305 tw3973309184981711991 tw4848423282249874581 tw4296643894403522044 tw11011358286194658152 tw14328910531358324939 tw3004680877266123991 tw16981525362102980166 tw8928208471757558745 tw24737644986556220 tw14219515972460174660 tw13907660328728413138 tw1614473574770574733 tw8970168465563549406 tw8040439954721041902 tw8477614256907565320 tw17747466578922865346 tw154634504462055047 tw7385869750897217927 tw1085007456817061852 tw13365164600030407091 tw16619626426564806387 tw14168256542119370822 tw14683478613451842697 tw7366191862427063755 tw16196966005205966714 tw9223574929600263019 tw1789539835688934018 tw11581171356549645458 tw2832256289329485020 tw16502931192108951412 tw12643057552745923083 tw6985668353007248297 tw6543904512186193495 tw12690759081323551682 tw11794389970277995040 tw898988687599754293 tw14524272598585900351 tw9228324649755935641 tw16392702877398698814 tw16749155854943884646 tw3599040125361936614 tw245933703711516514 tw13472277636452542720 tw17368916482166296781 tw11318658255370875821 tw9250854927848862414 tw575707612591321264 tw17039792159432953542 tw7961559896997274289 tw14444252738330844944 tw4365061825864500367 tw10008508375616030565 tw968205722484461805 tw14274123785513522576 tw13261955101048247797 tw16793621402822958431 tw14165001170278625457 tw4646815422363768309 tw6074853250191848172 tw16879892877512026262 tw11244379630711482371 tw16490192592126583984 tw15561732973998177913 tw11393446042080853942 tw9115232451024596594 tw5516682848080844623 tw4206977315471356618 tw11574907627300490859 tw7388353824766105861 tw15276901097781478655 tw12531107657331542897 tw17227947991362734176 tw15054688556513418108 tw14622205625863173739 tw12000646461912651904 tw14493853261713375976 tw10248440480665646144 tw16572914835308848653 tw10642846023572973723 tw14790747655029985088 tw12743440014922347161 tw3348233996691947898 tw164254722534114119 tw727202630040502778 tw11689218041082292450 tw4802527819995457034 tw6451565796883740248 tw18011162366007509856 tw1428883930271768312 tw8276313340144860702 tw13924515592209849447 tw16791951704900885152 tw1265485969530427118 tw2327732450702121258 tw15632369474482565496 tw13164457520908972845 tw10408028708148149239 tw15921971319070126350 tw12335976192725519137 tw13289576308354374879 tw2882335970524333975 tw12323032615127640384 tw9571317955258665760 tw6329252120497309274 tw9565456164351610414 tw18593965004359238 tw2050334490997626039 tw18318771188000207023 tw2112128421294527580 tw7354308122307175627 tw6874033722382008182 tw5561375954964651335 tw10480863697994310166 tw17756111852103285503 tw16757002165038538018 tw17481676284512793942 tw13678640308932773935 tw16246210518015564387 tw5054732546424101233 tw9445609016538606392 tw16357574836775634783 tw14686288941294189822 tw11998602309342253202 tw1933390280530672334 tw4751576645206978040 tw14966678230030553518 tw15868631914298767703 tw12712270213730462458 tw17613325312647706236 tw9804610850995853580 tw17065217257714932166 tw9713791479178769754 tw15829507144638144614 tw160340282915666196 tw14187503409605626615 tw5507859403613098381 tw2010212071679184402 tw5282895492971039879 tw2221713143974915855 tw16337248054958080933 tw7819251151013931083 tw15796524948888107339 tw16543156873431069129 tw2313893099554148465 tw1895033071302877308 tw6869056444968726105 tw10960745812508707458 tw11174405461330312770 tw17539207380693754505 tw5478710576549383618 tw17583008368439052937 tw11291811508513070361 tw99121967337877742 tw14508347663190302770 tw7124028573253325653 tw5656619346317560835 tw17131900995165596944 tw537272273014883821 tw17857485353347045719 tw2843614220162808718 tw10771475798517167755 tw9151687137965781873 tw11793599955179263242 tw12428651597416559278 tw8307366492626390622 tw2141586839308333228 tw6484838498660719312 tw10811821755326921302 tw936075953771447413 tw14023350250024463336 tw3835850352310689503 tw6760657564172330976 tw14612686464865190323 tw14891321033052049958 tw8626770171283882203 tw12005143510342867126 tw11680578218468354669 tw7358644342919072840 tw6634057021864537964 tw9159809277506466165 tw1652239516235719041 tw675801883594798171 tw12818247422434444821 tw3499119090037617751 tw12906110224169715368 tw5062355579511375538 tw2587074870947491440 tw1512102933755279713 tw9306693391651929025 tw4614200987221260869 tw11246526513199462480 tw1760760755060896773 tw2164411917614912663 tw9176598104618521452 tw2072882526000612105 tw6836625840698330989 tw14808185175605758387 tw13603254414365942101 tw3904650284333071894 tw2993483848900392369 tw12188419862427976859 tw4312027957347547311 tw7830179154398881738 tw13424735974771063883 tw792590289477916141 tw9572218066725265003 tw2924724841892674290 tw17238048718967431224 tw13001101179806024505 tw8936691805838369456 tw7398425131205431506 tw15239158234238257312 tw67442443481029270 tw3024817641031027124 tw6332437758994536274 tw13748826831380437972 tw10278635085618393897 tw3309585152554570926 tw4447947519810146135 tw4702452527621821513 tw15645400875442786261 tw8958280725767523709 tw15380059440972839220 tw3754985222244649480 tw13743666103850066159 tw16124695090144973664 tw1290817547311355158 tw18390287087387665303 tw10237957929105637925 tw16384549368639251185 tw7686928696522895201 tw2993044869779712619 tw15458434956105155968 tw2049428322528339999 tw12379561599001413611 tw1494786715268016286 tw760468721854087257 tw1004966585849942159 tw8476965643835465347 tw5037255485842818123 tw7754913417387820484 tw9240962403187512195 tw405833736790284683 tw11027861470175509399 tw517765829324506772 tw10436208263367383969 tw5712427057389920200 tw7411005890696556009 tw31505413611943289 tw8602405731444494745 tw11556559705395857884 tw14233353972283232058 tw6211438822685275563 tw10170180882273657397 tw4265308451291375280 tw18368893784265976818 tw6802710869455865566 tw3751254736698948631 tw3938529802666561903 tw4553036588320308871 tw16285677641663216589 tw7979433789129408182 tw15084896597021389379 tw17078742119495160641 tw5578305911334107146 tw6965295328023993030 tw16052922394740288651 tw15436430231667674940 tw7153203541463166800 tw2073143849452864162 tw14145414976925430321 tw653640018965823793 tw1591009577924513328 tw2782267895228862748 tw5989541544100384500 tw6414588987545415104 tw10843595688598535727 tw9477748234678160882 tw9108171769149251409 tw5306185929440759733 tw3604786360258178859 tw814624882932828321 tw6367747768364548820 tw9817216211930417875 tw4980862452022242486 tw12215330379270609766 tw6178763060816475849 tw13341755347262311378 tw1146285800484371506 tw13795649847371655409 tw15536154538646285116 tw12506585495712196679 tw761939275272506093 tw8064626338809515969 tw5765115348436914245 tw16501249460935377924 tw10438594542069689404 tw11312698299647706167 tw15758172438146023626 tw7515444548783539951 tw18351160897391630821 tw3542230576604719592 tw12139779632523661012 tw15717644143929111 tw4506809773225992184 tw9142477351440532915 tw6062017149303155650 tw1166657323968316087 tw12325222160523875316 tw13701642359922571665 tw9967262048889048295 tw9953929006834412254 tw7779023484646251122 tw1593616627379426371 tw14062670991714958672 tw12520672532158943239 tw8674267506709232769 tw9870764956341455756 tw3078268190246879144 tw6089674502458245851 tw3750303334538736619 tw5913015514990114386 tw16099284229990265153 tw9533154372800961435 tw3471136116308917687 tw3569523896686859836 tw9007366351418883843 tw8350778429987548997 tw7370828615066962268 tw11630676098327334615 tw8681874606241851991 tw13545147315119998776 tw14962957610980584646 tw909055165026616270 tw13369875325717587340 tw8354934317312830214 tw3536359802168061604 tw991554578173396568 tw11833173766083559631 tw3061766426609714901 tw10849149355942651489 tw6664847233728733550 tw559817775536405110 tw3069809314200752456 tw10419297608714949146 tw1644669935489181324 tw879097747246303274 tw5052163195373377920 tw1001912289400776835 tw2538949417000858292 tw251622888719255553 tw16209361498896223559 tw11694522099403257643 tw16066558841029672919 tw2376311167697202761 tw16473246129792216673 tw8254645015752762303 tw13711317763744324285 tw5021930515398191632 tw6160194305588772447 tw1224082602104361976 tw18150913563353419270 tw550392667164816292 tw10600263581489990639 tw13677768923332077506 tw16729056357437618214 tw9701726631179973491 tw6074414708738789330 tw14791863423194609501 tw3483266700836224312 tw8316010660767975378 tw13926033789964625499 tw1791170721476417303 tw13682400966608798291 tw6337218112645059635 tw17577107196820135650 tw14905667553147520776 tw17005882318032083593 tw9452956154278843602 tw7838525312135674739 tw13818416304108940521 tw17844193247739372596 tw8690947994021155358 tw2043645899712458417 tw6753516020383723903 tw13569710738278744960 tw2282258941595011543 tw2712315671748952533 tw4755697149333248001 tw7697630687836986484 tw6225642285163359688 tw15015706247843550469 tw5949834265097346741 tw17191126824648657309 tw2861610717730865312 tw2324350434789966427 tw18072317572024675642 tw13063572614249617 tw14819016722894306709 tw2165303174415838976 tw17549056235302752661 tw8713128948095442046 tw12785549466489453977 tw6953990579350879781 tw12838603631227635139 tw13080379523995475189 tw2526720801758503075 tw10143222934862160506 tw5287296784408050861 tw16715983412368384209 tw18324078351762790221 tw4973333858085573507 tw3100262204837570316 tw5621122151552952606 tw7986493753406694113 tw2760391089895256495 tw5649153841680346508 tw16646124900416213409 tw14242316271376350862 tw474425729681747802:True)
namespace L2
open PySem PySem.Spec PyProof.Rows
structure Dfn(K:Frg)(mg:Str->Option Value)(x:Str)(st:Stmt)(f:Addr)(d:FuncData)(ps:List Str):Prop where
  F:Fun K x x st f d
  m:mg x=some (.ref f)
  B:Binds K d ps []
theorem jo{X:Cx}{x:Str}{st:Stmt}{f:Addr}{d:FuncData}{ps:List Str}{j k:Nat}{sp:Sp}{e:Expr}{a:List Expr}{p pos:Pos}{t:TA}(D:Dfn X.K X.mg x st f d ps)(F:FnOk X.prog X.w X.K X.mg X.base CX0 j f d ps sp)(n:Room k X.A)(g:PA X (e::a) t)(m:j<=k:=by decide)(l:Gl X x:=by rfl)(b:(x==("__debug__" : Str))=false:=by decide)(i:starEach (e::a) X.env=(false,eval e X.env)::starEach a X.env:=by rfl)(c:(backTo pos (starEach a X.env)).any (·.1)=false:=by rfl):PE X (.Call (.Name x p) (e::a) [] pos) (tCall sp [] E0 t):=wP (F.mono m) n l D.m D.F.kp D.B .nil pass0 g b i c
end L2
local macro_rules | `(tactic| specialize $e) => do
  let i:=fun(k:String)=>Lean.mkIdent (Lean.Name.mkSimple k)
  `(tactic| (refine $e (fun $(i "vs") $(i "H") $(i "Q") $(i "E") $(i "h")=>?_) (fun $(i "cdv") $(i "A") $(i "outer") $(i "s") $(i "H") $(i "vs") $(i "Q") $(i "E") $(i "hr") $(i "h")=>?_);focus (cases $(i "h"):ident;subst_vars;rfl)))
theorem Rm.iteE0{b:Bool}{A B:Prop}(h:B)(e:b=false:=by decide +kernel):if b=true then A else B:=Rm.iteB0 e h
theorem Rm.iteE1{b:Bool}{A B:Prop}(h:A)(e:b=true:=by decide +kernel):if b=true then A else B:=Rm.iteB1 e h
namespace K52
open PySem L2 Rm
noncomputable def top(i:Nat):Stmt:=PySem.Challenge.pw_camplay_k52_books_put.main.body.getD i (.Pass ⟨0,0,0,0⟩)
noncomputable abbrev Qk:Stmt:=(inClass (top 2) 0)
theorem yC:FnScope ["self","row"] ["self","row"] (defScope Qk):=fsc
noncomputable abbrev QV:Stmt:=(inClass (top 3) 0)
theorem YD:FnScope ["self","row"] ["self","row"] (defScope QV):=fsc
noncomputable abbrev qE:Stmt:=(inClass (top 4) 0)
theorem ZD:FnScope ["self","row","limb"] ["self","row","limb"] (defScope qE):=fsc
noncomputable abbrev qN:Stmt:=(inClass (top 5) 0)
theorem Z4:FnScope ["self","row"] ["self","row"] (defScope qN):=fsc
noncomputable abbrev zu:Stmt:=top 14
theorem wX:FnScope ["text","signs"] ["text","signs"] (defScope zu):=fsc
noncomputable abbrev Yz:Stmt:=top 15
theorem Xx:FnScope ["text"] ["text"] (defScope Yz):=fsc
noncomputable abbrev qT:Stmt:=top 16
theorem wZ:FnScope ["text","most"] ["text","most"] (defScope qT):=fsc
noncomputable abbrev Ze:Stmt:=top 21
theorem QK:FnScope ["named","numbers","number","one"] ["named"] (defScope Ze):=fsc
noncomputable abbrev yA:Stmt:=top 22
theorem W5:FnScope ["form"] ["form"] (defScope yA):=fsc
noncomputable abbrev Yy:Stmt:=top 23
theorem Kg:FnScope ["text","least","number"] ["text","least"] (defScope Yy):=fsc
noncomputable abbrev yB:Stmt:=top 24
theorem YQ:FnScope ["wanted","text","limbs","parts","known"] ["wanted","text","limbs","parts"] (defScope yB):=fsc
noncomputable abbrev Q3:Stmt:=top 25
theorem Kz:FnScope ["kind","words","parts"] ["kind","words","parts"] (defScope Q3):=fsc
noncomputable abbrev ZY:Stmt:=top 26
theorem Kh:FnScope ["kind","words","limbs","parts","values"] ["kind","words","limbs","parts"] (defScope ZY):=fsc
noncomputable abbrev YB:Stmt:=top 27
theorem Kj:FnScope ["words","limbs","parts","form"] ["words","limbs","parts"] (defScope YB):=fsc
noncomputable abbrev zh:Stmt:=top 28
theorem ZH:FnScope ["words","names","heights"] ["words"] (defScope zh):=fsc
noncomputable abbrev Xw:Stmt:=top 29
theorem Ji:FnScope ["text","rows","limbs","limb_names","part_names","parts","row","line","part"] ["text"] (defScope Xw):=fsc
noncomputable abbrev kj:Stmt:=top 33
theorem ZG:FnScope ["book","numbers","found","name","form"] ["book"] (defScope kj):=fsc
noncomputable abbrev Xv:Stmt:=top 34
theorem zw:FnScope ["book","limbs","found","part","inside","form","left","other"] ["book"] (defScope Xv):=fsc
noncomputable abbrev km:Stmt:=top 35
theorem Ki:FnScope ["book","found","left"] ["book"] (defScope km):=fsc
noncomputable abbrev qA:Stmt:=top 36
theorem qg:FnScope ["row","moves","limbs","number","limb"] ["row","moves","limbs"] (defScope qA):=fsc
noncomputable abbrev ZC:Stmt:=top 37
theorem wY:FnScope ["form","inside"] ["form","inside"] (defScope ZC):=fsc
noncomputable abbrev qf:Stmt:=top 38
theorem jF:FnScope ["book","moves","found","row","inside","form","length"] ["book"] (defScope qf):=fsc
noncomputable abbrev Zf:Stmt:=top 99
theorem KA:FnScope ["asked"] ["asked"] (defScope Zf):=fsc
noncomputable abbrev yz:Stmt:=top 113
theorem W4:FnScope ["words"] ["words"] (defScope yz):=fsc
noncomputable abbrev Zd:Stmt:=top 114
theorem ZE:FnScope ["words","kinds","values"] ["words"] (defScope Zd):=fsc
noncomputable abbrev QU:Stmt:=(inClass (top 115) 0)
theorem YC:FnScope ["self"] ["self"] (defScope QU):=fsc
noncomputable abbrev yy:Stmt:=(inClass (top 115) 1)
theorem zv:FnScope ["self","name","text","book"] ["self","name","text"] (defScope yy):=fsc
noncomputable abbrev zg:Stmt:=(inClass (top 115) 2)
theorem Jm:FnScope ["self","row","words","asked","kind","value"] ["self","row"] (defScope zg):=fsc
noncomputable abbrev ZB:Stmt:=top 118
theorem Q4:FnScope ["_law_cell","_law_rows","_law_k"] ["_law_cell"] (defScope ZB):=fsc
noncomputable abbrev Zc:Stmt:=top 119
theorem QJ:FnScope ["_law_desk","_law_name","_law_text_here","_law_error_here","e"] ["_law_desk","_law_name","_law_text_here"] (defScope Zc):=fsc
noncomputable abbrev zt:Stmt:=top 120
theorem y0:FnScope ["_law_error_here","_law_due","_law_seen"] ["_law_error_here","_law_due"] (defScope zt):=fsc
noncomputable abbrev QW:Stmt:=top 121
theorem zE:FnScope ["_law_error_here","_law_due","_law_long","_law_row"] ["_law_error_here","_law_due","_law_long"] (defScope QW):=fsc
noncomputable abbrev j25:Stmt:=top 122
theorem QX:FnScope ["_law_script","_law_desk","_law_beside","_law_kept","_law_cell","_law_name","_law_number","_law_due","_law_error_here","_law_long","_law_one"] ["_law_script"] (defScope j25):=fsc
set_option genInjectivity false in
set_option genSizeOf false in
structure Ad where
 jQ:Addr
 j9:FuncData
 Ja:Addr
 Jz:FuncData
 jE:Addr
 jV:FuncData
 jL:Addr
 j4:FuncData
 QN:Addr
 QQ:FuncData
 Qv:Addr
 Qx:FuncData
 QP:Addr
 qR:FuncData
 xa:Addr
 JW:Addr
 JZ:FuncData
 zO:Addr
 zV:FuncData
 ZN:Addr
 ZP:FuncData
 yo:Addr
 yq:FuncData
 Q0:Addr
 Q2:FuncData
 Yb:Addr
 Yh:FuncData
 ZO:Addr
 ZQ:FuncData
 zN:Addr
 zU:FuncData
 yn:Addr
 yp:FuncData
 yH:Addr
 yM:FuncData
 xv:Addr
 xI:FuncData
 Y1:Addr
 Y2:FuncData
 JV:Addr
 JY:FuncData
 QO:Addr
 QR:FuncData
 Qw:Addr
 Qy:FuncData
 qY:Addr
 zW:FuncData
 zM:Addr
 zT:FuncData
 zL:Addr
 zR:FuncData
 Jy:Addr
 qb:FuncData
 qK:Addr
 qL:FuncData
 qm:Addr
 qp:FuncData
 zk:Addr
 zn:FuncData
 zK:Addr
 zQ:FuncData
 zm:Addr
 zo:FuncData
 qH:Addr
 qI:FuncData
 j18:Addr
 XV:FuncData
 jO:Addr
 ju:Addr
 jB:Addr
 jk:Addr
 jq:Addr
 jx:Addr
 JT:Addr
 QG:Addr
 JL:Addr
 Zl:Value
 zx:Addr
 K4:Value
 JC:Addr
 yE:Addr
structure Txt(K:Frg)(mg:Str->Option Value)(t:Ad):Prop where
 yG:Fun K "__init__" "NoBook.__init__" Qk t.jQ t.j9
 Xd:Meth K t.ju "__init__" t.jQ
 qV:Binds K t.j9 ["self","row"] []
 YV:Fun K "__init__" "Idle.__init__" QV t.Ja t.Jz
 j0G:Meth K t.jB "__init__" t.Ja
 YT:Binds K t.Jz ["self","row"] []
 Z2:Fun K "__init__" "TwoHands.__init__" qE t.jE t.jV
 WB:Meth K t.jk "__init__" t.jE
 Z1:Binds K t.jV ["self","row","limb"] []
 yh:Fun K "__init__" "TooLong.__init__" qN t.jL t.j4
 xt:Meth K t.jq "__init__" t.jL
 yd:Binds K t.j4 ["self","row"] []
 Zn:Dfn K mg "all_among" zu t.QN t.QQ ["text","signs"]
 Qo:Dfn K mg "is_word" Yz t.Qv t.Qx ["text"]
 Zo:FunD K "number_of" "number_of" qT t.xa t.QP t.qR
 YL:mg "number_of"= some (.ref t.QP)
 We:Binds K t.qR ["text","most"] []
 Kq:∃ds,Binds K t.qR ["text","most"] ds/\Vals [.int 80] ds
 qW:Dfn K mg "numbers_of" Ze t.JW t.JZ ["named"]
 kq:Dfn K mg "names_in" yA t.zO t.zV ["form"]
 ZK:Dfn K mg "bounded" Yy t.ZN t.ZP ["text","least"]
 ku:Dfn K mg "value_of" yB t.yo t.yq ["wanted","text","limbs","parts"]
 yF:Dfn K mg "names_form" Q3 t.Q0 t.Q2 ["kind","words","parts"]
 KE:Dfn K mg "form_of" ZY t.Yb t.Yh ["kind","words","limbs","parts"]
 ZL:Dfn K mg "part_of" YB t.ZO t.ZQ ["words","limbs","parts"]
 yf:Dfn K mg "limbs_of" zh t.zN t.zU ["words"]
 yg:Dfn K mg "read" Xw t.yn t.yp ["text"]
 Y0:Dfn K mg "inner" kj t.yH t.yM ["book"]
 j15:Dfn K mg "ends" Xv t.xv t.xI ["book"]
 wa:Dfn K mg "moved" km t.Y1 t.Y2 ["book"]
 JA:Dfn K mg "check_side" qA t.JV t.JY ["row","moves","limbs"]
 zj:Dfn K mg "length_of" ZC t.QO t.QR ["form","inside"]
 Qp:Dfn K mg "lengths" qf t.Qw t.Qy ["book"]
 zH:Dfn K mg "say_length" Zf t.qY t.zW ["asked"]
 ko:Dfn K mg "kinds_of" yz t.zM t.zT ["words"]
 ye:Dfn K mg "asked_in" Zd t.zL t.zR ["words"]
 YU:Fun K "__init__" "Desk.__init__" QU t.Jy t.qb
 j0F:Meth K t.jO "__init__" t.Jy
 Zj:Binds K t.qb ["self"] []
 kx:Fun K "put" "Desk.put" yy t.qK t.qL
 YM:Meth K t.jO "put" t.qK
 kn:Binds K t.qL ["self","name","text"] []
 kz:Fun K "say" "Desk.say" zg t.qm t.qp
 Zv:Meth K t.jO "say" t.qm
 yc:Binds K t.qp ["self","row"] []
 YG:Dfn K mg "_law_text" ZB t.zk t.zn ["_law_cell"]
 QY:Dfn K mg "_law_error" Zc t.zK t.zQ ["_law_desk","_law_name","_law_text_here"]
 zi:Dfn K mg "_law_told" zt t.zm t.zo ["_law_error_here","_law_due"]
 Zk:Dfn K mg "_law_row_told" QW t.qH t.qI ["_law_error_here","_law_due","_law_long"]
 j16:Dfn K mg "law" j25 t.j18 t.XV ["_law_script"]
 QI:Cls K t.jO
 j17:Mk K t.jO t.Jy
 X9:mg "Desk"= some (.ref t.jO)
 J0:NoAttr K t.jO "books"
 ZS:mg "NoBook"= some (.ref t.ju)
 j00:mg "Idle"= some (.ref t.jB)
 YO:mg "TwoHands"= some (.ref t.jk)
 kR:mg "TooLong"= some (.ref t.jq)
 Yl:mg "NoName"= some (.ref t.jx)
 Qb:mg "PlayError"= some (.ref t.JT)
 Q5:ExcP K t.JT "ValueError.__init__"
 qU:ExcM K t.ju t.jQ
 QL:W.findIn K (.ref t.ju) "row"= some none
 Jf:W.exmOne K (.ref t.ju) (.ref t.JT)=some true
 Jq:W.kitOne K (.ref t.ju) (.ref t.jk)=some false
 qv:W.kitOne K (.ref t.ju) (.ref t.jB)=some false
 JO:W.kitOne K (.ref t.ju) (.ref t.ju)=some true
 JP:W.kitOne K (.ref t.ju) (.ref t.jx)=some false
 JD:W.kitOne K (.ref t.ju) (.ref t.jq)=some false
 j5:W.kitOne K (.ref t.ju) (.type "ValueError")=some true
 Z0:ExcM K t.jB t.Ja
 zy:W.findIn K (.ref t.jB) "row"= some none
 JH:W.exmOne K (.ref t.jB) (.ref t.JT)=some true
 JN:W.kitOne K (.ref t.jB) (.ref t.jk)=some false
 Ql:W.kitOne K (.ref t.jB) (.ref t.jB)=some true
 qt:W.kitOne K (.ref t.jB) (.ref t.ju)=some false
 qu:W.kitOne K (.ref t.jB) (.ref t.jx)=some false
 qd:W.kitOne K (.ref t.jB) (.ref t.jq)=some false
 Jp:W.kitOne K (.ref t.jB) (.type "ValueError")=some true
 qr:ExcM K t.jk t.jE
 qJ:W.findIn K (.ref t.jk) "row"= some none
 qB:W.findIn K (.ref t.jk) "limb"= some none
 jY:W.exmOne K (.ref t.jk) (.ref t.JT)=some true
 j7:W.kitOne K (.ref t.jk) (.ref t.jk)=some true
 JS:W.kitOne K (.ref t.jk) (.ref t.jB)=some false
 Jt:W.kitOne K (.ref t.jk) (.ref t.ju)=some false
 Ju:W.kitOne K (.ref t.jk) (.ref t.jx)=some false
 Je:W.kitOne K (.ref t.jk) (.ref t.jq)=some false
 jT:W.kitOne K (.ref t.jk) (.type "ValueError")=some true
 QH:ExcM K t.jq t.jL
 Qm:W.findIn K (.ref t.jq) "row"= some none
 j8:W.exmOne K (.ref t.jq) (.ref t.JT)=some true
 Jd:W.kitOne K (.ref t.jq) (.ref t.jk)=some false
 qe:W.kitOne K (.ref t.jq) (.ref t.jB)=some false
 JF:W.kitOne K (.ref t.jq) (.ref t.ju)=some false
 JG:W.kitOne K (.ref t.jq) (.ref t.jx)=some false
 Js:W.kitOne K (.ref t.jq) (.ref t.jq)=some true
 jX:W.kitOne K (.ref t.jq) (.type "ValueError")=some true
 zb:W.excIn K t.jx [.type "ValueError",.type "Exception",.type "BaseException",.type "object"] "ValueError.__new__"= true
 j12:ExcI K t.jx
 jW:W.exmOne K (.ref t.jx) (.ref t.JT)=some true
 Jr:W.kitOne K (.ref t.jx) (.ref t.jk)=some false
 qw:W.kitOne K (.ref t.jx) (.ref t.jB)=some false
 JQ:W.kitOne K (.ref t.jx) (.ref t.ju)=some false
 JR:W.kitOne K (.ref t.jx) (.ref t.jx)=some true
 JE:W.kitOne K (.ref t.jx) (.ref t.jq)=some false
 j6:W.kitOne K (.ref t.jx) (.type "ValueError")=some true
 wg:mg "ValueError"= none
 j1a:mg "all"= none
 j3o:mg "bool"= none
 j3p:mg "dict"= none
 qo:mg "enumerate"= none
 j1b:mg "int"= none
 JB:mg "isinstance"= none
 qQ:mg "len"= none
 j1c:mg "list"= none
 j49:mg "max"= none
 XO:mg "range"= none
 j4a:mg "set"= none
 j1d:mg "sorted"= none
 j1e:mg "str"= none
 j4b:mg "sum"= none
 XQ:mg "tuple"= none
 Wg:mg "zip"= none
 j0i:mg "ANSWERS"= some (.ref t.QG)
 j0z:FTab K t.QG [("length",some t.qY),("stand",none),("rings",none),("sum",none),("at",none),("rung",none),("when",none),("first",none),("jump",none),("drums",none),("back",none),("ever",none),("meet",none)]
 kA:mg "FEWEST_NAMES"= some (.ref t.JL)
 kL:TabK K t.JL [("row",.flat (.int 1)),("side",.flat (.int 2))]
 YW:mg "FIGURES_words"= some t.Zl
 YY:RelV (.str "0123456789") t.Zl
 wk:mg "FORMS"= some (.ref t.zx)
 wA:TabK K t.zx [("raise",.tup [.str "limb",.str "height",.str "beats"]),("hold",.tup [.str "beats"]),("ring",.tup [.str "word",.str "beats"]),("again",.tup [.str "times",.str "part"])]
 j0j:mg "LETTERS"= some t.K4
 j0S:RelV (.str "abcdefghijklmnopqrstuvwxyz") t.K4
 zP:mg "MOST_NAMES"= some (.ref t.JC)
 Jh:TabK K t.JC [("row",.flat (.int 8)),("side",.flat (.int 4))]
 j3u:mg "ROWS"= some (.ref t.yE)
 j3B:TabK K t.yE [("length",.tup [.str "name"]),("stand",.tup [.str "name",.str "number"]),("rings",.tup [.str "name",.str "number"]),("sum",.tup [.str "name",.str "limb",.str "number"]),("at",.tup [.str "name",.str "limb",.str "number",.str "number"]),("rung",.tup [.str "name",.str "word",.str "number"]),("when",.tup [.str "name",.str "word",.str "number"]),("first",.tup [.str "name",.str "limb",.str "number",.str "number"]),("jump",.tup [.str "name",.str "number"]),("drums",.tup [.str "name"]),("back",.tup [.str "name"]),("ever",.tup [.str "name",.str "number"])]
section
variable{P:Program}{w:World}{K:Frg}{mg:Str->Option Value}{base:Heap}{t:Ad}
theorem Yo(T:Txt K mg t):FnOk P w K mg base CX0 1 t.Jy t.qb ["self"] (sp_initD t.jO):=by
 specialize T.YU.ok YC;obtain⟨x,d,rfl,e,q⟩:=h;refine⟨_,(jf (j3W (pv 0) zD rfl)),?_⟩;refine jr (σ':=[some _]) rfl ?_
 try dsimp only[cxOf,Cx.nox]
 walk_at"g";intro b a;have f:x≠b:=jd e a;exists⟨x,t.jO,d,_,rfl,(jg f).trans e,T.QI,T.J0,(by show 0<1000;decide),?_⟩;exact q b _ (fun c u g h=>(jg g).trans ((jg (jd h a)).trans h)) a ⟨⟨d,ji⟩,(jg f.symm).trans ji⟩
theorem Z3(T:Txt K mg t):FnOk P w K mg base CX0 1 t.jL t.j4 ["self","row"] (sp_xi1 t.jq):=by
 specialize T.yh.ok Z4;obtain⟨e,r,rfl,g,i,c,q⟩:=h;refine⟨_,(jc (jN (yU PySem.F.excBase_ValueError T.Q5 (by rfl) T.Qb (ja (pv 0) (ja (Y8 (qk jm (qk (kZ (pv 1)) (qk jm wR)))) jb))))
  (jf (yX (pv 0) (pv 1)))),?_⟩
 refine jr (σ':=[some _,some _]) rfl ?_
 try dsimp only[cxOf,Cx.nox]
 have n:(200:Nat)<sizeLine:=by decide
 have k:=yD g i;unfold tI at k;have l:(Str.empty++Str.ofString "part ").length<=60:=by decide +kernel
 have m:(Str.ofString " is too long").length<=60:=by decide +kernel
 exists wV ?_;exists kb (Qj (by lia) (Zz (Kb ?_)));exists .inl ⟨r,rfl,kQ g i,_,rfl,by rw[Str.length_append];lia,Qj (by rw[Str.length_append,Str.length_append];lia) (ka ⟨by rw[Str.length_append,Str.length_append];lia,?_⟩)⟩;exists⟨e,t.jq,none,_,rfl,c,T.QH.F,T.QH.ve,?_⟩;dsimp only;refine Kc ?_;exists⟨e,t.jq,rfl,T.QH.F,T.Qm,.inl ⟨c,fun d a=>?_⟩⟩;have f:d≠e:=fun z=>by rw[z,c]at a;cases a
 exact q d _ (fun b u j h=>(jg (jd h a)).trans ((jg j).trans h)) a f ((jg (Ne.symm f)).trans ji) ji
theorem Kw(T:Txt K mg t):FnOk P w K mg base CX0 1 t.JW t.JZ ["named"] (sp_numbers_of):=by
 specialize T.qW.F.ok QK;obtain⟨l,M,xs,rfl,B,U,R,X,D,q⟩:=h;refine⟨_,(jc (js (i:=1) QK.nd rfl (.inl rfl) zD)
  (jc (QT PassesOwn.never rfl (yW (by rfl) T.qo (ja (pv 0) jb)) (Qe rfl (jy (jp (i:=2) QK.nd rfl (.inl rfl)) (jy (jp (i:=3) QK.nd rfl (.inl rfl)) qj)))
   (jf (ZV (Qn hr) (pv 1) (jt jA (pv 3) je) (pv 2) rfl)))
  (jf (jw (pv 1))))),?_⟩
 refine jr (σ':=[some _,none,none,none]) rfl ?_
 try dsimp only[cxOf,Cx.nox]
 have sz:(200:Nat)<sizeLine:=by decide
 walk_at"g";walk_at"f d hd H1 s1 t1";exists⟨l,_,rfl,SqL.of (s1 _ _ B),?_⟩;refine kI (xs:=M.map V.ref) (fun i p c=>IvE2 fun(m n:Option V)=>IvA2 (p=[some (.ref l),some (.ref d),m,n]) (Same H c/\c d=some (.dK (numK (xs.take i))))) ⟨_,_,rfl,s1,t1⟩ ?_ ?_ ?_
 ·rintro i p c _ ⟨m,n,rfl,g,f⟩;exact SqL.of (g _ _ B)
 ·rintro i v p c P L G ⟨m,n,rfl,g,f⟩ J Y;rw[vv]at G;obtain⟨a,x,rfl⟩:=vf.mp G;have Z:=(vx.mp x).1;have C:xs[i]?=some xs[i]:=vz (by lia);obtain⟨r,O⟩:=R i a _ x C;have I:=g.trans J;have o:(xs.take i).length=i:=by rw[vh];lia
  refine Qi (SqT.of Y) ?_;exists ixTm (SqT.of (I _ _ O)) rfl ?_;refine⟨d,_,rfl,DPut.k (k:=Sum.inr xs[i]) (J _ _ f) (by rw[j1J,o];lia),?_⟩;have S:(Sum.inr xs[i]:Key)∉(numK (xs.take i)).map (·.1):=fun z=>by
   rw[Yn]at z;obtain⟨y,W,e⟩:=vO.mp z;have N:y=xs[i]:=Sum.inr.inj e;subst N;obtain⟨j,F,e⟩:=mem_iff_getElem.mp W;rw[List.getElem_take]at e;rw[o]at F;exact ue e (List.pairwise_iff_getElem.mp X j i (by lia) (by lia) F)
  refine⟨_,_,rfl,fun b u h=>(jg (jd h hd)).trans (I _ _ h),?_⟩;rw[ji,WY S,take_snoc C,j0L,o]
 rintro σ' c ⟨m,n,rfl,g,f⟩;rw[vt,U,v7]at f;walk_at"g";exact q d c g hd f
theorem WP(T:Txt K mg t):FnOk P w K mg base CX0 1 t.zO t.zV ["form"] (sp_names_in):=by
 specialize T.kq.F.ok W5;obtain⟨a,f,rfl,d,q⟩:=h;refine⟨_,(jc (jI (jh j1Q (jt jA (pv 0) je) (JI (v:=.ref t.JC) (by rfl) T.zP rfl) (by with_unfolding_all rfl))
   (jf (jw (jt jA (pv 0) je)))
   jn)
  (jf (jw (Qd (jh Jl (jt jA (pv 0) je) jm (nomark _)) (zf j43 (pv 0) (Qf je) Za) (zZ jb))))),?_⟩
 refine jr (σ':=[some _]) rfl ?_
 try dsimp only[cxOf,Cx.nox]
 have e:(200:Nat)<sizeLine:=by decide
 cases f with
 | hold n=>
  have c:H a=some (.tup _):=d;exists ixTm (SqT.of c) rfl ?_;exists⟨_,_,_,rfl,rfl,T.Jh,?_⟩;exists iteE0 ?_;exists ixTm (SqT.of c) rfl ?_;exists iteE0 ?_;exists⟨vC _,?_⟩;walk_at"f b hb H1 s1 t1";exact q b H1 s1 t1
 | ring x n=>
  have c:H a=some (.tup _):=d;exists ixTm (SqT.of c) rfl ?_;exists⟨_,_,_,rfl,rfl,T.Jh,?_⟩;exists iteE0 ?_;exists ixTm (SqT.of c) rfl ?_;exists iteE0 ?_;exists⟨vC _,?_⟩;walk_at"f b hb H1 s1 t1";exact q b H1 s1 t1
 | rise x v n=>
  have c:H a=some (.tup _):=d;exists ixTm (SqT.of c) rfl ?_;exists⟨_,_,_,rfl,rfl,T.Jh,?_⟩;exists iteE0 ?_;exists ixTm (SqT.of c) rfl ?_;exists iteE0 ?_;exists⟨vC _,?_⟩;walk_at"f b hb H1 s1 t1";exact q b H1 s1 t1
 | row ps=>
  obtain⟨b,c,hb⟩:=d;exists ixTm (SqT.of c) rfl ?_;exists⟨_,_,_,rfl,rfl,T.Jh,?_⟩;exists iteE1 ?_;exists ixTm (SqT.of c) rfl ?_;exact q b H (Same.refl _) hb
 | side ps=>
  obtain⟨b,c,hb⟩:=d;exists ixTm (SqT.of c) rfl ?_;exists⟨_,_,_,rfl,rfl,T.Jh,?_⟩;exists iteE1 ?_;exists ixTm (SqT.of c) rfl ?_;exact q b H (Same.refl _) hb
 | again k x=>
  have c:H a=some (.tup _):=d;exists ixTm (SqT.of c) rfl ?_;exists⟨_,_,_,rfl,rfl,T.Jh,?_⟩;exists iteE0 ?_;exists ixTm (SqT.of c) rfl ?_;exists iteE1 ?_;exists⟨a,_,rfl,SqT.of c,(by show¬(HT.sIx 3 0 (some 2)=0/\HT.sIx 3 3 none=3);decide),?_⟩;walk_at"f b hb H1 s1 t1";exact q b H1 s1 t1
theorem j1N(T:Txt K mg t)(jK:FnOk P w K mg base CX0 1 t.JW t.JZ ["named"] (sp_numbers_of))(yk:FnOk P w K mg base CX0 1 t.zO t.zV ["form"] (sp_names_in)):FnOk P w K mg base CX0 2 t.yH t.yM ["book"] (sp_inner):=by
 specialize T.Y0.F.ok ZG;obtain⟨b,pl,pp,a1,G,ls,o,rfl,B,W,q⟩:=h;refine⟨_,(jc (js (i:=1) ZG.nd rfl (.inr rfl) (jo T.qW jK hr (ja (jt jA (pv 0) je) jb)))
  (jc (js (i:=2) ZG.nd rfl (.inl rfl) (J3 jb))
  (jc (QT PassesOwn.never rfl (jS (jt jA (pv 0) je)) (Qe rfl (jy (jp (i:=3) ZG.nd rfl (.inl rfl)) (jy (jp (i:=4) ZG.nd rfl (.inl rfl)) qj)))
   (jf (jN (qi PySem.F.plainAttrs_list PySem.F.slot_list_append PySem.F.type_list_append Jn (pv 2) (ja (Jw (ow:=["other"]) (ci:=[1]) rfl (CompScope.of (defScope kj) ["book","numbers","found","name","form"] rfl rfl (by decide +kernel)) (Jv (by decide)) (j3U (jo T.kq yk hr (ja (pv 4) jb))) (fun _ _ _ _ _=>⟨(jp (i:=0) (Jg ["book","numbers","found","name","form"] rfl (by decide +kernel)) rfl (.inl rfl)),qh,(yV (Qn hr) (pv 1) (pv 0))⟩)) jb)))))
  (jf (jw (pv 2)))))),?_⟩
 refine jr (σ':=[some _,none,none,none,none]) rfl ?_
 try dsimp only[cxOf,Cx.nox]
 have sz:(200:Nat)<sizeLine:=by decide
 have a2:=W.p61;have pa:=B.pa.1;exists ixTm (SqT.of B.t) rfl ?_;exists⟨pp,G,nmsOf o,rfl,B.p,by rw[nmsOf,vt];exact pa,fun i a x ea U=>?_,W.pn,by rw[nmsOf,vt];lia,fun d H1 I hd ed=>?_⟩
 ·unfold nmsOf at U;rw[vv]at U;obtain⟨p,ep,rfl⟩:=vf.mp U;obtain⟨fb,hb,_⟩:=B.pa.2 i a p ea ep;exact⟨_,hb⟩
 exists⟨vC _,?_⟩;walk_at"f l hl H2 s2 t2";have nl:=none_of I hl;have J:=I.trans s2;exists ixTm (SqT.of (J _ _ B.t)) rfl ?_;refine⟨pp,rfl,⟨_,SqL.of (J _ _ B.p)⟩,?_⟩;refine zC (xs:=G.map V.ref) (fun i σ f=>IvE3 fun(m:List Addr) (N O:Option V)=>IvA4 (σ=[some (.ref b),some (.ref d),some (.ref l),N,O]) (Same H1 f) (f l=some (.lst (m.map V.ref))) ((∀a∈m,H a=none/\a≠l)/\ListsAt f m ((o.take i).map fun p=>(inP o p.2).map fun j:Nat=>(j:Int))))
  ⟨[],_,_,rfl,s2,t2,(fun a h=>nomatch h),.nil⟩ ?_ ?_ ?_
 ·rintro i σ f _ ⟨m,N,O,rfl,v,z,F,C⟩;exact SqL.of ((I.trans v) _ _ B.p)
 ·rintro i x σ f M ⟨m,N,O,rfl,v,z,F,C⟩;obtain⟨a,p,rfl,Z,fb,Y,hf⟩:=B.pa.at_ref M;have hi:=(vx.mp Z).1;have s0:=I.trans v;obtain⟨wn,w8⟩:=W.f i p Z;have a0:=C.1;rw[vt,vh]at a0;refine Qi (SqT.of (s0 _ _ Y)) ?_;exists⟨.inl ⟨rfl,_,SqL.of z⟩,?_⟩;exists⟨fb,p.2,rfl,FormAt.same s0 hf,fun c L R hc=>?_⟩;refine⟨c,rfl,⟨_,SqT.of hc⟩,?_⟩;refine j1g (xs:=p.2.ns.map V.str) (fun j S f=>S=((p.2.ns.take j).map fun x=>(ixOf (nmsOf o) x:Int)).map V.int/\L=f) ⟨rfl,rfl⟩ ?_ ?_ ?_
  ·rintro j S f _ ⟨rfl,rfl⟩;exact SqT.of hc
  ·rintro j x S f M ⟨rfl,rfl⟩;rw[vv]at M;obtain⟨y,X,rfl⟩:=vf.mp M;have hj:=(vx.mp X).1;obtain⟨k,hk,ek⟩:=wn y (vj X);refine JJ (σ':=[none,some _]) rfl ?_;exists iteT ?_;walk_at"g";have g:DGet L d (.str y) (some (.int (k:Nat))):=by
    have g:=DGet.k (k:=Sum.inr y) ((v.trans R) _ _ ed);rw[WH W.pn ek]at g;exact g
   refine⟨d,_,rfl,g,?_⟩;refine⟨by rw[vt,vt,vh];lia,?_,rfl⟩;rw[take_snoc X,vi,vi,<-Y5 W.pn ek];rfl
  rintro S f ⟨rfl,rfl⟩;rw[show(p.2.ns.map V.str).length=p.2.ns.length from vt _,v7];refine⟨by rw[vt,vt];lia,?_⟩;walk_at"f 4 t";have r:=R.trans s4;exists⟨l,_,_,rfl,rfl,r _ _ z,by rw[vt];lia,?_⟩;have D:p4≠l:=(jd (R _ _ z) hp4).symm;have n4:H p4=none:=none_of (s0.trans R) hp4;refine⟨m++[p4],_,_,rfl,fun c u h=>(jg (jd h hl)).trans ((v.trans r) _ _ h),?_,fun c n=>?_,?_⟩
  ·rw[ji,vi];rfl
  ·rcases vg.mp n with e | e
   ·exact F c e
   ·rw[vo.mp e];exact⟨n4,D⟩
  ·rw[take_snoc Z,vi];refine All2.snoc (All2.monoM C fun c n ks h=>(jg (F c n).2).trans (r _ _ h)) ?_;have eq:List.map (fun j:Nat=>(j:Int)) (inP o p.2)=p.2.ns.map fun x=>(ixOf (nmsOf o) x:Int):=by
    unfold inP;rw[map_map];rfl
   show upd H4 l _ p4=some (.lst (List.map V.int (List.map (fun j:Nat=>(j:Int)) (inP o p.2))));rw[jg D,t4,eq]
 rintro σ' L ⟨m,N,O,rfl,v,z,F,C⟩;rw[vt,pa,v7]at C;walk_at"g";exact q l m L (I.trans v) nl z (fun a ha=>(F a ha).1) C
theorem j2U(T:Txt K mg t)(jK:FnOk P w K mg base CX0 1 t.JW t.JZ ["named"] (sp_numbers_of))(QZ:FnOk P w K mg base CX0 2 t.yH t.yM ["book"] (sp_inner)):FnOk P w K mg base CX0 3 t.xv t.xI ["book"] (sp_ends):=by
 specialize T.j15.F.ok zw;obtain⟨b,pl,pp,an,au,ls,ps,rfl,B,W,q⟩:=h;refine⟨_,(jc (js (i:=1) zw.nd rfl (.inl rfl) (jo T.qW jK hr (ja (jt jA (pv 0) je) jb)))
  (jc (js (i:=2) zw.nd rfl (.inl rfl) (J3 jb))
  (jc (QT PassesOwn.never rfl (j3V (by rfl) T.Wg (ja (jt jA (pv 0) je) (ja (jo T.Y0 QZ hr (ja (pv 0) jb)) jb))) (Qe rfl (jy (jp (i:=3) zw.nd rfl (.inl rfl)) (jy (jp (i:=4) zw.nd rfl (.inl rfl)) qj)))
   (jc (js (i:=5) zw.nd rfl (.inl rfl) (jt jA (pv 3) je))
   (jc (js (i:=6) zw.nd rfl (.inl rfl) zD)
   (jc (Qg (jh Jl (jt jA (pv 5) je) jm (nomark _))
    (jf (ZV (Qn hr) (pv 6) (yV (Qn hr) (pv 1) (jt jA (pv 5) je)) (jt jA (pv 5) je) rfl))
    jn)
   (jc (QT PassesOwn.never rfl (jS (pv 4)) (jp (i:=7) zw.nd rfl (.inl rfl))
    (jf (jN (qi PySem.F.plainAttrs_dict PySem.F.slot_dict_update PySem.F.type_dict_update j0I (pv 6) (ja (qS (xB rfl) (by rfl) T.j3p j2t (ja (jt jM (pv 2) (pv 7)) jb)) jb)))))
   (jf (jN (qi PySem.F.plainAttrs_list PySem.F.slot_list_append PySem.F.type_list_append Jn (pv 2) (ja (jv (wm rfl) (by rfl) T.j1d j0h (ja (j3Q PySem.F.plainAttrs_dict PySem.F.slot_dict_items PySem.F.type_dict_items j1E (pv 6)) jb)) jb)))))))))
  (jf (jw (pv 2)))))),?_⟩
 refine jr (σ':=[some _,none,none,none,none,none,none,none]) rfl ?_
 try dsimp only[cxOf,Cx.nox]
 have sz:(200:Nat)<sizeLine:=by decide
 have aK:=W.p61;have l8:=W.l8;have pa:=B.pa.1;have la:=B.la.1;exists ixTm (SqT.of B.t) rfl ?_;exists⟨pl,an,nmsOf ls,rfl,B.l,by rw[nmsOf,vt];exact la,fun i a x ea ex=>?_,W.ln,by rw[nmsOf,vt];lia,fun d H1 s1 hd ed=>?_⟩
 ·unfold nmsOf at ex;rw[vv]at ex;obtain⟨p,ep,rfl⟩:=vf.mp ex;exact⟨_,B.la.2 i a p ea ep⟩
 exists⟨vC _,?_⟩;walk_at"f l hl H2 s2 t2";have nl:=none_of s1 hl;have ac:=s1.trans s2;have aD:d≠l:=jd ed hl;exists ixTm (SqT.of (ac _ _ B.t)) rfl ?_;exists⟨b,pl,pp,an,au,ls,ps,rfl,B.same ac,W,fun li am H3 s3 al af aF lia=>?_⟩;walk_at"g";have F:=ac.trans s3;have ao:=lia.1;rw[vt]at ao;have aG:li≠l:=fun z=>by rw[z,t2]at al;cases al
 refine⟨pp,li,_,_,rfl,SqL.of (F _ _ B.p),SqL.of af,?_⟩;have a9:∀{c u},H c=some u->c≠l:=fun h=>jd h nl
 have t3:H3 l=some (.lst []):=s3 _ _ t2;refine j2D (xs:=au.map V.ref) (ys:=am.map V.ref) (fun i σ H'=>IvE7 fun(X:List Addr) (E:List (List (Int×Int))) (o3 o4 o5 o6 O:Option V)=>IvA6 (σ=[some (.ref b),some (.ref d),some (.ref l),o3,o4,o5,o6,O]) (∀c u,c≠l->H3 c=some u->H' c=some u) (H' l=some (.lst (X.map V.ref))) (∀a∈X,H a=none/\a≠l) (E.length=i) (EndsAt H' X E/\EndOk ls ps E))
  (by rw[vt,vt];lia) ⟨[],[],_,_,_,_,_,rfl,fun c u _ h=>h,t3,(fun a h=>nomatch h),rfl,.nil,fun i p e _ h=>by simp at h⟩ ?_ ?_ ?_
 ·rintro i σ H' _ ⟨X,E,o3,o4,o5,o6,O,rfl,sm,e1,na,lE,aE,oE⟩;exact⟨SqL.of (sm _ _ (a9 B.p) (F _ _ B.p)),SqL.of (sm _ _ aG af)⟩
 ·rintro i u v σ H' P U hu hv ⟨X,E,o3,o4,o5,o6,O,rfl,sm,e1,na,lE,aE,oE⟩ sP tP;obtain⟨a,p,rfl,hp,fb,ag,hf⟩:=B.pa.at_ref hu;obtain⟨ia,is,rfl,ak,ay⟩:=lia.at_ref hv;rw[vv,hp]at ak;cases ak;have hi:=(vx.mp hp).1;have aA:ia∈am:=by
   rw[vv]at hv;obtain⟨a',ea,e'⟩:=vf.mp hv;injection e' with e';subst e';exact vj ea
  have aq:ia≠l:=fun z=>by have:=aF ia aA;rw[z,t2]at this;cases this
  have C:∀c u,c≠l->H3 c=some u->U c=some u:=fun c u Y h=>sP _ _ (sm _ _ Y h)
  have ah:U a=_:=C _ _ (a9 ag) (F _ _ ag);have Z:U ia=_:=C _ _ aq ay;have aw:U d=_:=C _ _ aD (s3 _ _ (s2 _ _ ed));have I:=sP _ _ e1;have a3:FormAt U fb p.2:=by
   have J:=FormAt.same F hf;generalize p.2=f at J;have np:∀{c:Addr} {xs:List V},H3 c=some (.tup xs)->c≠l:=fun h=>qF h t3 (fun z=>by cases z)
   cases f with
   | row ps=>obtain⟨c,y,M⟩:=J;exact⟨c,C _ _ (np y) y,C _ _ (np M) M⟩
   | side ps=>obtain⟨c,y,M⟩:=J;exact⟨c,C _ _ (np y) y,C _ _ (np M) M⟩
   | hold n=>exact C _ _ (np J) J
   | ring x n=>exact C _ _ (np J) J
   | rise x g n=>exact C _ _ (np J) J
   | again x n=>exact C _ _ (np J) J
  have w8:=(W.f i p hp).2;have wr:=fun x h n (e:p.2 = .rise x h n)=>W.r i p.1 x h n (by rw[hp,<-e])
  have aB:=fun j=>W.inP_lt (j:=j) hp
  have ad:=Wv W (by lia) oE;have ae:∀(j:Nat) (e:List (Int×Int)),E[j]?=some e->e.length<=8:=fun j e h=>Ww W (by lia) oE h
  refine Qi (SqT.of tP) ?_;exists ixTm (SqT.of ah) rfl ?_;walk_at"g";walk_at"f dl hdl H5 s5 t5";exists⟨fun σ' H6=>σ'=[some (.ref b),some (.ref d),some (.ref l),some (.ref a),some (.ref ia),some (.ref fb),some (.ref dl),O]/\Same U H6/\H6 dl=some (.dK ((kv0 ls p.2).map iiK)),?_,?_⟩
  rotate_left
  ·by_cases a6:∃x h n,p.2 = .rise x h n
   ·obtain⟨x,h,n,e⟩:=a6;rw[e]at a3;have a4:H5 fb=some (.tup [.str "raise",.str x,.int h,.int n]):=s5 _ _ a3;obtain⟨j,N⟩:=wr x h n e;exists ixTm (SqT.of a4) rfl ?_;exists iteE1 ?_;exists ixTm (SqT.of a4) rfl ?_;exists ixTm (SqT.of a4) rfl ?_;have g:DGet H5 d (.str x) (some (.int (j:Nat))):=by
     have g:=DGet.k (k:=Sum.inr x) (s5 _ _ aw);rw[WH W.ln N]at g;exact g
    refine⟨d,_,rfl,g,?_⟩;refine⟨dl,_,rfl,DPut.k (k:=Sum.inl (j:Int)) t5 (by show 0<sizeLine;lia),?_⟩;refine⟨rfl,fun c u h=>(jg (jd h hdl)).trans (s5 _ _ h),?_⟩;rw[ji,e];show _=some (HO.dK [iiK ((ixOf (nmsOf ls) x:Nat),h)]);rw[Y5 W.ln N];rfl
   ·obtain⟨k,xs,hk,dk⟩:=j1w a3 fun x v n e=>a6 ⟨x,v,n,e⟩
    exists ixTm (SqT.of (s5 _ _ hk)) (at0) ?_;exists iteB0 dk ?_;exists⟨rfl,s5,?_⟩;rw[j2L fun x v n e=>a6 ⟨x,v,n,e⟩];exact t5
  rintro σ' H6 ⟨rfl,s6,t6⟩;walk_at"g";have ai:=s6 _ _ Z;have a8:∀{c u},U c=some u->c≠dl:=fun h=>jd h hdl
  refine⟨ia,rfl,⟨_,SqL.of ai⟩,?_⟩;refine zC (xs:=((inP ps p.2).map fun j:Nat=>(j:Int)).map V.int) (fun t σ H7=>IvE2 fun(m:List (Int×Int)) (O:Option V)=>IvA5 (σ=[some (.ref b),some (.ref d),some (.ref l),some (.ref a),some (.ref ia),some (.ref fb),some (.ref dl),O]) (Same U H7) (H7 dl=some (.dK (m.map iiK))) ((m.map (·.1)).Nodup) (∀k v,(k,v)∈m↔LastIn E ((inP ps p.2).take t) k v\/(k,v)∈kv0 ls p.2))
   ⟨_,_,rfl,s6,t6,j3H _,fun k v=>⟨.inr,fun h=>h.elim (fun⟨ab,j,a1,e,_⟩=>by cases ab<;>simp at e) id⟩⟩ ?_ ?_ ?_
  ·rintro t σ H7 _ ⟨m,O,rfl,G,t7,D,m7⟩;exact SqL.of (G _ _ Z)
  ·rintro t x σ H7 hx ⟨m,O,rfl,G,t7,D,m7⟩;rw[vv,vv]at hx;obtain⟨jj,az,rfl⟩:=vf.mp hx;obtain⟨j,N,rfl⟩:=vf.mp az;have aI:=aB j (vj N);have e0:kv0 ls p.2=[]:=by
    rcases j3G (ps:=ps) (ls:=ls) p.2 with z | z
    ·rw[z]at N;simp at N
    ·exact z
   rw[e0]at m7;have hE:E[j]?=some (E.getD j []):=by rw[vy,vz (by lia)];rfl
   obtain⟨aj,ax,bs,a2,R⟩:=aE.get hE;have ap:((E.getD j []).map (·.1)).Nodup:=((oE j _ _ (vz (by lia)) hE).1).imp fun h=>Int.ne_of_lt h
   have e8:=ae j _ hE;have k8:m.length<=8:=by
    have z:=ZT (n:=ls.length) D fun k hk=>by
     obtain⟨L,a5,rfl⟩:=vO.mp hk;rcases(m7 L.1 L.2).mp a5 with⟨ab,i',a1,_,o,_⟩ | o
     ·exact ad i' _ o
     ·exact nomatch o
    rw[vt]at z;lia
   exists⟨.inr (.inr (.inl ⟨rfl,.inl ⟨_,t7⟩⟩)),?_⟩;exists ixLm (SqL.of (G _ _ I)) (Q1 (i:=(j:Int)) (by lia) ax) ?_;exists⟨aj,bs,E.getD j [],rfl,G _ _ (sP _ _ a2),R.1,fun i' c L y M=>G _ _ (sP _ _ (R.2 i' c L y M)),?_⟩;walk_at"f d2 hd2 H8 s8 t8";walk_at"g";rw[show([]:List (Key×V))=([]:List (Int×Int)).map iiK from rfl,yt,Xf ap]at t8;have n2:dl≠d2:=jd t7 hd2;refine⟨dl,d2,_,_,rfl,rfl,s8 _ _ t7,t8,n2,by rw[vt,vt];lia,?_⟩;rw[yt];obtain⟨mn,mm⟩:=KU D ap;refine⟨mergeI m (E.getD j []),_,rfl,fun c u h=>(jg (a8 h)).trans (s8 _ _ (G _ _ h)),ji,mn,fun k v=>?_⟩;rw[mm,m7,e0,take_snoc N,j0C];constructor
   ·rintro(h | ⟨y,h | h⟩)
    ·exact .inl (.inl h)
    ·exact .inl (.inr ⟨y,h⟩)
    ·exact nomatch h
   ·rintro((h | ⟨y,h⟩) | h)
    ·exact .inl h
    ·exact .inr ⟨y,.inl h⟩
    ·exact nomatch h
  rintro σ' H7 ⟨m,aJ,rfl,G,t7,D,m7⟩;rw[vt,vt,v7]at m7;have k8:m.length<=8:=by
   have z:=ZT (n:=ls.length) D fun k hk=>by
    obtain⟨L,a5,rfl⟩:=vO.mp hk;rcases(m7 L.1 L.2).mp a5 with⟨ab,i',a1,_,o,_⟩ | o
    ·exact ad i' _ o
    ·obtain⟨x,n,e,ek⟩:=yQ.mp o;obtain⟨j,N⟩:=wr x _ n e;have h3:=wz (vj N);have h4:(nmsOf ls).length=ls.length:=vt _;rw[ek];lia
   rw[vt]at z;lia
  exists⟨.inl ⟨rfl,_,SqL.of (G _ _ I)⟩,?_⟩;exists⟨.inr (.inr (.inl ⟨rfl,.inl ⟨_,t7⟩⟩)),dl,_,rfl,rfl,t7,?_⟩;walk_at"f vw hvw H8 s8 t8";exists⟨vw,dl,m,rfl,t8,s8 _ _ t7,by lia,fun r cs ms H9 s9 a7 e9 n9 a0 pw aC av=>?_⟩;walk_at"g";have aH:=aE.1;refine⟨l,_,_,rfl,rfl,s9 _ _ (s8 _ _ (G _ _ I)),by rw[vt];lia,?_⟩;have S:=G.trans (s8.trans s9);have aa:r≠l:=(jd (s8 _ _ (G _ _ I)) a7).symm;have nr:H r=none:=by
   cases z:H r with
   | none=>rfl
   | some u=>rw[s8 _ _ (G _ _ (C _ _ aa (F _ _ z)))]at a7;cases a7
  have ar:∀{c:Addr} {xs:List V},H9 c=some (.tup xs)->c≠l:=fun h=>qF h (S _ _ I) (fun z=>by cases z)
  refine⟨X++[r],E++[ms],_,_,_,_,_,rfl,fun c u Y h=>(jg Y).trans (S _ _ (C _ _ Y h)),?_,fun c Y=>?_,by rw[vm,lE];rfl,?_,?_⟩
  ·rw[ji,vi];rfl
  ·rcases vg.mp Y with z | z
   ·exact na c z
   ·rw[vo.mp z];exact⟨nr,aa⟩
  ·refine All2.snoc (All2.monoM aE fun c Y e h=>?_) ?_
   ·obtain⟨bs,a2,R⟩:=h;refine⟨bs,(jg (na c Y).2).trans (S _ _ (sP _ _ a2)),All2.mono R fun c' L h'=>?_⟩;have h9:=S _ _ (sP _ _ h');exact(jg (ar h9)).trans h9
   ·exact⟨cs,(jg aa).trans e9,aC,fun i' c L y M=>(jg (ar (av i' c L y M))).trans (av i' c L y M)⟩
  ·refine EndOk.snoc W oE (p:=p) (by rw[lE];exact hp) ?_ fun k v=>?_
   ·exact j0W (a0.map _) D pw
   ·rw[a0.mem_iff,m7];exact⟨fun h=>h.imp id yQ.mp,fun h=>h.imp id yQ.mpr⟩
 rintro σ' H' ⟨X,E,o3,o4,o5,o6,O,rfl,sm,e1,na,lE,aE,oE⟩;rw[vt]at lE;walk_at"g";exact q l X E H' (fun c u h=>sm _ _ (a9 h) (F _ _ h)) nl e1 (fun a ha=>(na a ha).1) (by lia) aE oE
theorem j1O(T:Txt K mg t)(xu:FnOk P w K mg base CX0 3 t.xv t.xI ["book"] (sp_ends)):FnOk P w K mg base CX0 4 t.Y1 t.Y2 ["book"] (sp_moved):=by
 specialize T.wa.F.ok Ki;obtain⟨b,pl,pp,X,a1,ls,ps,rfl,B,W,q⟩:=h;refine⟨_,(jc (js (i:=1) Ki.nd rfl (.inl rfl) (J3 jb))
  (jc (QT PassesOwn.never rfl (jS (jo T.j15 xu hr (ja (pv 0) jb))) (jp (i:=2) Ki.nd rfl (.inl rfl))
   (jf (jN (qi PySem.F.plainAttrs_list PySem.F.slot_list_append PySem.F.type_list_append Jn (pv 1) (ja (Jw (ow:=["limb","height"]) (ci:=[]) rfl (CompScope.of (defScope km) ["book","found","left"] rfl rfl (by decide +kernel)) (wy (by decide) (by decide)) (jS (pv 2)) (fun _ _ _ _ _=>⟨(Qe rfl (jy (jp (i:=0) (Jg ["book","found","left"] rfl (by decide +kernel)) rfl (.inl rfl)) (jy (jp (i:=1) (Jg ["book","found","left"] rfl (by decide +kernel)) rfl (.inl rfl)) qj))),qh,(pv 0)⟩)) jb)))))
  (jf (jw (pv 1))))),?_⟩
 refine jr (σ':=[some _,none,none]) rfl ?_
 try dsimp only[cxOf,Cx.nox]
 have sz:(200:Nat)<sizeLine:=by decide
 have a4:=W.p61;exists⟨vC _,?_⟩;walk_at"f l hl H1 s1 t1";exists⟨b,pl,pp,X,a1,ls,ps,rfl,B.same s1,W,fun e as E H2 s2 he ee ne lE aE oE=>?_⟩;have I:=aE.1;have a2:=s1.trans s2;have l2:H2 l=some (.lst []):=s2 _ _ t1;have a0:l≠e:=fun z=>by rw[z,he]at t1;cases t1
 refine⟨e,rfl,⟨_,SqL.of ee⟩,?_⟩;refine zC (xs:=as.map V.ref) (fun i σ n=>IvE2 fun(g:List Addr) (F:Option V)=>IvA4 (σ=[some (.ref b),some (.ref l),F]) (∀c u,c≠l->H2 c=some u->n c=some u) (n l=some (.lst (g.map V.ref))) ((∀c∈g,H1 c=none/\c≠l)/\ListsAt n g ((E.take i).map fun e=>e.map (·.1))))
  ⟨[],_,rfl,fun c u _ h=>h,l2,(fun c h=>nomatch h),.nil⟩ ?_ ?_ ?_
 ·rintro i σ n _ ⟨g,F,rfl,m,p,C,r⟩;exact SqL.of (m _ _ a0.symm ee)
 ·rintro i x σ n R ⟨g,F,rfl,m,p,C,r⟩;obtain⟨a,ev,rfl,f,J,N,D⟩:=aE.at_ref R;have hi:=(vx.mp f).1;have U:=r.1;rw[vt,vh]at U;have am:a∈as:=by
   rw[vv]at R;obtain⟨a',ea,L⟩:=vf.mp R;injection L with L;subst L;exact vj ea
  have Y:a≠l:=fun z=>by have:=ne a am;rw[z,t1]at this;cases this
  have v:n a=some (.lst (J.map V.ref)):=m _ _ Y N;have a3:=(oE i _ ev (vz (by lia)) f).1;have M:=Ww W (by lia) oE f;exists⟨.inl ⟨rfl,_,SqL.of p⟩,?_⟩;exists⟨a,rfl,⟨_,SqL.of v⟩,?_⟩;refine jZ (xs:=J.map V.ref) (fun j G d=>G=((ev.take j).map (·.1)).map V.int/\n=d) ⟨rfl,rfl⟩ ?_ ?_ ?_
  ·rintro j G d _ ⟨rfl,rfl⟩;exact SqL.of v
  ·rintro j x G d S ⟨rfl,rfl⟩;obtain⟨c,kv,rfl,y,O⟩:=D.at_ref S;have hj:=(vx.mp y).1;have Z:c≠l:=fun z=>by rw[z,l2]at O;cases O
   refine JJ (σ':=[none,none]) rfl ?_;refine Qi (SqT.of (m _ _ Z O)) ?_;exists iteT ?_;exists⟨by rw[vt,vt,vh];lia,?_,rfl⟩;rw[take_snoc y,vi,vi];rfl
  rintro G d ⟨rfl,rfl⟩;rw[show(J.map V.ref).length=ev.length by rw[vt];exact D.1,v7];refine⟨by rw[vt,vt];lia,?_⟩;walk_at"f 4 t";exists⟨l,_,_,rfl,rfl,s4 _ _ p,by rw[vt];lia,?_⟩;have o:p4≠l:=(jd p hp4).symm;have n4:H1 p4=none:=by
   cases z:H1 p4 with
   | none=>rfl
   | some u=>rw[m _ _ o (s2 _ _ z)]at hp4;cases hp4
  refine⟨g++[p4],_,rfl,fun c u k h=>(jg k).trans (s4 _ _ (m _ _ k h)),?_,fun c k=>?_,?_⟩
  ·rw[ji,vi];rfl
  ·rcases vg.mp k with z | z
   ·exact C c z
   ·rw[vo.mp z];exact⟨n4,o⟩
  ·rw[take_snoc f,vi];exact All2.snoc (All2.monoM r fun c k ks h=>(jg (C c k).2).trans (s4 _ _ h)) ((jg o).trans t4)
 rintro σ' H3 ⟨g,F,rfl,m,p,C,r⟩;rw[vt,I,v7]at r;exists q l g (E.map fun e=>e.map (·.1)) H3 (fun c u h=>m _ _ (jd h hl) (a2 _ _ h)) hl p (fun c k=>none_of s1 (C c k).1) (by rw[vt];exact lE) r (j3K lE oE)
theorem Yp(T:Txt K mg t):FnOk P w K mg base CX0 1 t.Ja t.Jz ["self","row"] (sp_xi1 t.jB):=by
 specialize T.YV.ok YD;obtain⟨e,r,rfl,g,i,c,q⟩:=h;refine⟨_,(jc (jN (yU PySem.F.excBase_ValueError T.Q5 (by rfl) T.Qb (ja (pv 0) (ja (Y8 (qk jm (qk (kZ (pv 1)) (qk jm wR)))) jb))))
  (jf (yX (pv 0) (pv 1)))),?_⟩
 refine jr (σ':=[some _,some _]) rfl ?_
 try dsimp only[cxOf,Cx.nox]
 have n:(200:Nat)<sizeLine:=by decide
 have k:=yD g i;unfold tI at k;have l:(Str.empty++Str.ofString "the side that is part ").length<=60:=by decide +kernel
 have m:(Str.ofString " names a part that moves no limb").length<=60:=by decide +kernel
 exists wV ?_;exists kb (Qj (by lia) (Zz (Kb ?_)));exists .inl ⟨r,rfl,kQ g i,_,rfl,by rw[Str.length_append];lia,Qj (by rw[Str.length_append,Str.length_append];lia) (ka ⟨by rw[Str.length_append,Str.length_append];lia,?_⟩)⟩;exists⟨e,t.jB,none,_,rfl,c,T.Z0.F,T.Z0.ve,?_⟩;dsimp only;refine Kc ?_;exists⟨e,t.jB,rfl,T.Z0.F,T.zy,.inl ⟨c,fun d a=>?_⟩⟩;have f:d≠e:=fun z=>by rw[z,c]at a;cases a
 exact q d _ (fun b u j h=>(jg (jd h a)).trans ((jg j).trans h)) a f ((jg (Ne.symm f)).trans ji) ji
theorem Zx(T:Txt K mg t):FnOk P w K mg base CX0 1 t.jE t.jV ["self","row","limb"] (sp_xi2 t.jk):=by
 specialize T.Z2.ok ZD;obtain⟨e,r,x,rfl,i,j,p,d,q⟩:=h;refine⟨_,(jc (jN (yU PySem.F.excBase_ValueError T.Q5 (by rfl) T.Qb (ja (pv 0) (ja (Y8 (qk jm (qk (kZ (pv 1)) (qk jm (qk (kZ (pv 2)) (qk jm wR)))))) jb))))
  (jc (yX (pv 0) (pv 1))
  (jf (yX (pv 0) (pv 2))))),?_⟩
 refine jr (σ':=[some _,some _,some _]) rfl ?_
 try dsimp only[cxOf,Cx.nox]
 have o:(200:Nat)<sizeLine:=by decide
 have k:=yD i j;unfold tI at k;have l:(Str.empty++Str.ofString "the side that is part ").length<=30:=by decide +kernel
 have m:(Str.ofString " moves the limb ").length<=20:=by decide +kernel
 have n:(Str.ofString " twice").length<=20:=by decide +kernel
 exists wV ?_;exists kb (Qj (by lia) (Zz (Kb ?_)));exists .inl ⟨r,rfl,kQ i j,_,rfl,by rw[Str.length_append];lia,Qj (by rw[Str.length_append,Str.length_append];lia) (Zz (Kb ?_))⟩;exists .inr ⟨x,rfl,by lia,_,rfl,by rw[Str.length_append,Str.length_append,Str.length_append];lia,Qj (by rw[Str.length_append,Str.length_append,Str.length_append,Str.length_append];lia) (ka ⟨by rw[Str.length_append,Str.length_append,Str.length_append,Str.length_append];lia,?_⟩)⟩;exists⟨e,t.jk,none,_,rfl,d,T.qr.F,T.qr.ve,?_⟩;walk_at"g";dsimp only;refine Kc ?_;exists⟨e,t.jk,rfl,T.qr.F,T.qJ,.inl ⟨d,fun c a=>?_⟩⟩;have f:c≠e:=fun z=>by rw[z,d]at a;cases a
 dsimp only;refine Kc ?_;exists⟨e,t.jk,rfl,T.qr.F,T.qB,.inr ⟨c,_,(jg (Ne.symm f)).trans ji,ji,(by show 1<1000;decide),?_⟩⟩;exact q c _ (fun b u g h=>(jg (jd h a)).trans ((jg g).trans ((jg (jd h a)).trans ((jg g).trans h)))) a f ((jg (Ne.symm f)).trans ji) ji
theorem kW(T:Txt K mg t)(qa:FnOk P w K mg base CX0 1 t.Ja t.Jz ["self","row"] (sp_xi1 t.jB))(Jb:FnOk P w K mg base CX0 1 t.jE t.jV ["self","row","limb"] (sp_xi2 t.jk)):FnOk P w K mg base (CX1 P w) 3 t.JV t.JY ["row","moves","limbs"] (ZI t.jB t.jk):=by
 refine T.JA.F.okR qg (fun vs H Q E h=>?_) (fun a1 A a0 s H vs Q E L h=>?_)
 ·obtain⟨r,l,N,D,B,M,ls,rfl,r0,r1,u,I,R,y,S,lx,q⟩:=h;rfl
 obtain⟨r,l,N,D,B,M,ls,rfl,r0,r1,u,I,R,y,S,lx,q⟩:=h;refine⟨_,(Yx (yb (jh (Xm L.units) (J3 jb) (pv 1) (by with_unfolding_all rfl))
   (jD (Q9 PySem.F.excBase_ValueError ⟨rfl,rfl,rfl,rfl⟩ T.Z0 (by rfl) T.j00 (qa.mono (by decide)) L T.YT pass0 (ja (pv 0) jb)))
   qz)
  (Qg (jh (Xm L.units) (J3 jb) (pv 1) (by with_unfolding_all rfl))
   (jf jJ)
   jn)
  (jD (kh ⟨rfl,rfl,rfl,rfl⟩ (yW (by rfl) T.qo (ja (pv 2) jb)) (Qe rfl (jy (jp (i:=3) qg.nd rfl (.inr rfl)) (jy (jp (i:=4) qg.nd rfl (.inl rfl)) qj)))
   (jf (jI (jh Z7 (jv jR (by rfl) T.qQ JX (ja (Jw (ow:=["move"]) (ci:=[3]) rfl (CompScope.of (defScope qA) ["row","moves","limbs","number","limb"] rfl rfl (by decide +kernel)) (Jv (by decide)) (jS (pv 1)) (fun _ _ _ _ _=>⟨(jp (i:=0) (Jg ["row","moves","limbs","number","limb"] rfl (by decide +kernel)) rfl (.inl rfl)),(Xr (jh (yv (K:=K) rfl) (pv 1) (pv 0) (by with_unfolding_all rfl))),ya⟩)) jb)) je (nomark _))
    (jf jJ)
    jn))
   (jD (yb (jh Z7 (jv jR (by rfl) T.qQ JX (ja (Jw (ow:=["move"]) (ci:=[3]) rfl (CompScope.of (defScope qA) ["row","moves","limbs","number","limb"] rfl rfl (by decide +kernel)) (Jv (by decide)) (jS (pv 1)) (fun _ _ _ _ _=>⟨(jp (i:=0) (Jg ["row","moves","limbs","number","limb"] rfl (by decide +kernel)) rfl (.inl rfl)),(Xr (jh (yv (K:=K) rfl) (pv 1) (pv 0) (by with_unfolding_all rfl))),ya⟩)) jb)) je (nomark _))
    (jD (Q9 PySem.F.excBase_ValueError ⟨rfl,rfl,rfl,rfl⟩ T.qr (by rfl) T.YO (Jb.mono (by decide)) L T.Z1 pass0 (ja (pv 0) (ja (jt jA (pv 4) je) jb))))
    qz))))),?_⟩
 refine qy (σ':=[some _,some _,some _,none,none]) rfl ?_;have sz:(200:Nat)<sizeLine:=by decide
 have p:=I.1;rcases q with⟨hi,x⟩ | ⟨n,x,v,ne,Z,c1,c2,xe⟩
 ·refine .inl ?_;refine QE ?_;exists⟨vC _,?_⟩;walk_at"f 0 t";exists⟨p0,l,D,M,rfl,rfl,t0,s0 _ _ u,p,fun i b c U W=>s0 _ _ (I.2 i b c U W),?_⟩;exists iteB1 (XA hi) ?_;refine QD ?_;walk_at"g";intro e X;exact⟨e,r,rfl,r0,by lia,ji,x.of s0 X⟩
 refine .inr (Jx ?_);refine⟨fun σ' F=>σ'=[some (.int r),some (.ref l),some (.ref N),none,none]/\Same H F,?_,?_⟩
 rotate_left
 ·exists⟨vC _,?_⟩;walk_at"f 0 t";exists⟨p0,l,D,M,rfl,rfl,t0,s0 _ _ u,p,fun i b c U W=>s0 _ _ (I.2 i b c U W),?_⟩;exists iteB0 (any_empty ne) ?_;walk_at"g";exact⟨rfl,s0⟩
 rintro σ' H0 ⟨rfl,s0⟩;dsimp only;refine kc ?_;exists⟨N,_,rfl,SqL.of (s0 _ _ y),?_⟩;have nl:n<B.length:=by rw[S.1];exact(vx.mp Z).1
 refine KZ (xs:=B.map V.ref) n (by rw[vt];exact nl) (fun i σ F=>IvE2 fun(o3 o4:Option V)=>σ=[some (.int r),some (.ref l),some (.ref N),o3,o4]/\Same H F) ⟨_,_,rfl,s0⟩ ?_ ?_
 ·rintro i σ F _ ⟨o3,o4,rfl,sm⟩;exact SqL.of (sm _ _ y)
 rintro i v σ F P O a2 hx ⟨o3,o4,rfl,sm⟩ sP tP;have C:=sm.trans sP;refine Qi (SqT.of tP) ?_;have G:∀(j:Nat) (x:V) (g:List V),(D.map V.ref)[j]?=some x->g.length=((M.take j).filter fun c=>decide ((i:Int)∈c)).length->∃(a:Addr) (c:List Int),x = .ref a/\O a=some (.lst (c.map V.int))/\g.length<sizeLine/\g.length+(if(i:Int)∈c then 1 else 0)=((M.take (j+1)).filter fun c=>decide ((i:Int)∈c)).length:=fun j x g k o=>by
  obtain⟨a,c,rfl,Y,z⟩:=I.at_ref k;have a3:((M.take j).filter fun c=>decide ((i:Int)∈c)).length<=8:=vZ (List.length_filter_le _ _) (vZ (List.length_take_le' _ _) R);refine⟨a,c,rfl,C _ _ z,by lia,?_⟩;rw[take_snoc Y,List.filter_append,List.filter_cons,vm,<-o];by_cases d:(i:Int)∈c
  ·rw[va d,va (vK d)];rfl
  ·rw[vA d,vA (by simpa using d)];rfl
 by_cases e:i<n
 ·refine .inr ?_;refine jr (σ':=[some _,some _,some _,some _,some _]) rfl ?_
  try dsimp only[cxOf,Cx.nox]
  exists⟨l,rfl,⟨_,SqL.of (C _ _ u)⟩,?_⟩;refine jZ (xs:=D.map V.ref) (fun j g f=>g.length=((M.take j).filter fun c=>decide ((i:Int)∈c)).length/\O=f) ⟨rfl,rfl⟩ ?_ ?_ ?_
  ·rintro j g f _ ⟨_,rfl⟩;exact SqL.of (C _ _ u)
  ·rintro j x g f k ⟨o,rfl⟩;obtain⟨a,c,rfl,z,yl,m⟩:=G j x g k o;refine JJ (σ':=[none,some _]) rfl ?_;exists⟨a,_,rfl,.inl (SqL.of z),rfl,flats c,?_⟩;rw[inI];exists iteD (fun d=>?_) (fun d=>?_)
   ·walk_at"g";rw[va d]at m;exact⟨yl,by rw[vm];exact m,rfl⟩
   ·rw[vA d]at m;exact⟨m,rfl⟩
  rintro g f ⟨o,rfl⟩;rw[vt,p,v7]at o;have o1:=c2 i e;refine⟨by lia,?_⟩;walk_at"f 2 t";exists⟨_,_,rfl,.inl ⟨_,SqL.of t2,rfl⟩,?_⟩;exists iteD (fun d=>?_) (fun d=>?_)
  ·exfalso;lia
  ·walk_at"g";exact⟨e,_,_,rfl,C.trans s2⟩
 have e:i=n:=by lia
 subst e;refine .inl ?_;refine qy (σ':=[some _,some _,some _,some _,some _]) rfl ?_;refine QE ?_;exists⟨l,rfl,⟨_,SqL.of (C _ _ u)⟩,?_⟩;refine jZ (xs:=D.map V.ref) (fun j g f=>g.length=((M.take j).filter fun c=>decide ((i:Int)∈c)).length/\O=f) ⟨rfl,rfl⟩ ?_ ?_ ?_
 ·rintro j g f _ ⟨_,rfl⟩;exact SqL.of (C _ _ u)
 ·rintro j x g f k ⟨o,rfl⟩;obtain⟨a,c,rfl,z,yl,m⟩:=G j x g k o;refine JJ (σ':=[none,some _]) rfl ?_;exists⟨a,_,rfl,.inl (SqL.of z),rfl,flats c,?_⟩;rw[inI];exists iteD (fun d=>?_) (fun d=>?_)
  ·walk_at"g";rw[va d]at m;exact⟨yl,by rw[vm];exact m,rfl⟩
  ·rw[vA d]at m;exact⟨m,rfl⟩
 rintro g f ⟨o,rfl⟩;rw[vt,p,v7]at o;have l8:(M.filter fun c=>decide ((i:Int)∈c)).length<=8:=vZ (List.length_filter_le _ _) R;refine⟨by lia,?_⟩;walk_at"f 2 t";have J:=C.trans s2;exists⟨_,_,rfl,.inl ⟨_,SqL.of t2,rfl⟩,?_⟩;exists iteD (fun d=>?_) (fun d=>?_)
 ·obtain⟨a,ea,z⟩:=S.get Z;rw[vv,ea]at hx;cases hx;refine QD ?_;exists ixTm (SqT.of (J _ _ z)) rfl ?_;walk_at"g";intro ex X;exact⟨ex,r,x,rfl,r0,by lia,lx _ (vj Z),ji,xe.of J X⟩
 ·exfalso;lia
theorem Ku(T:Txt K mg t)(qa:FnOk P w K mg base CX0 1 t.Ja t.Jz ["self","row"] (sp_xi1 t.jB))(Jb:FnOk P w K mg base CX0 1 t.jE t.jV ["self","row","limb"] (sp_xi2 t.jk)):FnOk P w K mg base CX0 3 t.JV t.JY ["row","moves","limbs"] (sp_check_side):=by
 specialize T.JA.F.ok qg;obtain⟨r,l,L,J,F,M,rfl,B,D,X,O,g,G,q⟩:=h;refine⟨_,(jc (jI (jh (Xm hr.units) (J3 jb) (pv 1) (by with_unfolding_all rfl))
   (jf jJ)
   jn)
  (jf (QT PassesOwn.never rfl (yW (by rfl) T.qo (ja (pv 2) jb)) (Qe rfl (jy (jp (i:=3) qg.nd rfl (.inr rfl)) (jy (jp (i:=4) qg.nd rfl (.inl rfl)) qj)))
   (jf (jI (jh Z7 (jv jR (by rfl) T.qQ JX (ja (Jw (ow:=["move"]) (ci:=[3]) rfl (CompScope.of (defScope qA) ["row","moves","limbs","number","limb"] rfl rfl (by decide +kernel)) (Jv (by decide)) (jS (pv 1)) (fun _ _ _ _ _=>⟨(jp (i:=0) (Jg ["row","moves","limbs","number","limb"] rfl (by decide +kernel)) rfl (.inl rfl)),(Xr (jh (yv (K:=K) rfl) (pv 1) (pv 0) (by with_unfolding_all rfl))),ya⟩)) jb)) je (nomark _))
    (jf jJ)
    jn))))),?_⟩
 refine jr (σ':=[some _,some _,some _,none,none]) rfl ?_
 try dsimp only[cxOf,Cx.nox]
 have sz:(200:Nat)<sizeLine:=by decide
 have m:=D.1;exists⟨vC _,?_⟩;walk_at"f 0 t";exists⟨p0,l,J,M,rfl,rfl,t0,s0 _ _ B,m,fun i b e R S=>s0 _ _ (D.2 i b e R S),?_⟩;exists iteB0 (any_empty X) ?_;exists⟨L,_,rfl,SqL.of (s0 _ _ g),?_⟩;refine kI (xs:=F.map V.ref) (fun i I f=>IvE2 fun(p u:Option V)=>I=[some (.int r),some (.ref l),some (.ref L),p,u]/\Same H f) ⟨_,_,rfl,s0⟩ ?_ ?_ ?_
 ·rintro i I f _ ⟨p,u,rfl,n⟩;exact SqL.of (n _ _ g)
 ·rintro i v I f P N hx ⟨p,u,rfl,n⟩ Y Z;have y:=n.trans Y;refine Qi (SqT.of Z) ?_;exists⟨l,rfl,⟨_,SqL.of (y _ _ B)⟩,?_⟩;refine jZ (xs:=J.map V.ref) (fun j z c=>z.length=((M.take j).filter fun e=>decide ((i:Int)∈e)).length/\N=c) ⟨rfl,rfl⟩ ?_ ?_ ?_
  ·rintro j z c _ ⟨_,rfl⟩;exact SqL.of (y _ _ B)
  ·rintro j x z c C ⟨o,rfl⟩;obtain⟨a,e,rfl,k,U⟩:=D.at_ref C;refine JJ (σ':=[none,some _]) rfl ?_;exists⟨a,_,rfl,.inl (SqL.of (y _ _ U)),rfl,flats e,?_⟩;rw[inI];walk_at"g";have W:((M.take j).filter fun e=>decide ((i:Int)∈e)).length<=8:=vZ (List.length_filter_le _ _) (vZ (List.length_take_le' _ _) O);refine iteD (fun d=>?_) (fun d=>?_)
   ·exists⟨by lia,?_,rfl⟩;rw[take_snoc k,List.filter_append,List.filter_cons,va (vK d),vm,vm,o];rfl
   ·refine⟨?_,rfl⟩;rw[take_snoc k,List.filter_append,List.filter_cons,vA (by simpa using d),vm,o];rfl
  rintro z c ⟨o,rfl⟩;rw[vt,m,v7]at o;have o1:=G (i:Int);refine⟨by lia,?_⟩;walk_at"f 2 t";exists⟨_,_,rfl,.inl ⟨_,SqL.of t2,rfl⟩,?_⟩;exists iteD (fun d=>?_) (fun d=>?_)
  ·exfalso;lia
  ·walk_at"g";exact⟨_,_,rfl,y.trans s2⟩
 rintro σ' f ⟨p,u,rfl,n⟩;exact q f n
theorem wL(T:Txt K mg t):FnOk P w K mg base CX0 1 t.QO t.QR ["form","inside"] (sp_length_of):=by
 specialize T.zj.F.ok wY;obtain⟨a,l,f,j,rfl,d,i,e,q⟩:=h;refine⟨_,(jc (jI (jh Jl (jt jA (pv 0) je) jm (nomark _))
   (jf (jw (jv (j0o rfl) (by rfl) T.j4b j3t (ja (pv 1) jb))))
   jn)
  (jc (jI (jh Jl (jt jA (pv 0) je) jm (nomark _))
   (jf (jw (jv (j0m rfl) (by rfl) T.j49 j3r (ja (pv 1) jb))))
   jn)
  (jc (jI (jh Jl (jt jA (pv 0) je) jm (nomark _))
   (jf (jw (Jc j2X (jt jA (pv 0) je) (jt jM (pv 1) je))))
   jn)
  (jf (jw (jt jA (pv 0) (j3i j2e je))))))),?_⟩
 refine jr (σ':=[some _,some _]) rfl ?_
 try dsimp only[cxOf,Cx.nox]
 have B:(200:Nat)<sizeLine:=by decide
 cases f with
 | hold n=>
  have c:H a=some (.tup _):=d;exists ixTm (SqT.of c) rfl ?_;exists iteE0 ?_;exists ixTm (SqT.of c) rfl ?_;exists iteE0 ?_;exists ixTm (SqT.of c) rfl ?_;exists iteE0 ?_;exists ixTm (SqT.of c) rfl ?_;exact q _ rfl
 | ring x n=>
  have c:H a=some (.tup _):=d;exists ixTm (SqT.of c) rfl ?_;exists iteE0 ?_;exists ixTm (SqT.of c) rfl ?_;exists iteE0 ?_;exists ixTm (SqT.of c) rfl ?_;exists iteE0 ?_;exists ixTm (SqT.of c) rfl ?_;exact q _ rfl
 | rise x v n=>
  have c:H a=some (.tup _):=d;exists ixTm (SqT.of c) rfl ?_;exists iteE0 ?_;exists ixTm (SqT.of c) rfl ?_;exists iteE0 ?_;exists ixTm (SqT.of c) rfl ?_;exists iteE0 ?_;exists ixTm (SqT.of c) rfl ?_;exact q _ rfl
 | row ps=>
  obtain⟨b,c,p⟩:=d;exists ixTm (SqT.of c) rfl ?_;exists iteE1 ?_;exists⟨l,j,rfl,SqL.of i,?_⟩;exact q _ rfl
 | side ps=>
  obtain⟨b,c,p⟩:=d;exists ixTm (SqT.of c) rfl ?_;exists iteE0 ?_;exists ixTm (SqT.of c) rfl ?_;exists iteE1 ?_;exists⟨l,j,rfl,SqL.of i,List.length_pos_iff.mpr e,fun g m o=>?_⟩;exact q g ⟨m,o⟩
 | again k x=>
  have c:H a=some (.tup _):=d;obtain⟨y,r,rfl,u,z,C,D⟩:=e;exists ixTm (SqT.of c) rfl ?_;exists iteE0 ?_;exists ixTm (SqT.of c) rfl ?_;exists iteE0 ?_;exists ixTm (SqT.of c) rfl ?_;exists iteE1 ?_;exists ixTm (SqT.of c) rfl ?_;exists ixLm (SqL.of i) (at0) ?_;walk_at"g";exact q _ ⟨y,rfl,rfl⟩
theorem WI(T:Txt K mg t)(Jo:FnOk P w K mg base CX0 1 t.jL t.j4 ["self","row"] (sp_xi1 t.jq))(QZ:FnOk P w K mg base CX0 2 t.yH t.yM ["book"] (sp_inner))(ZM:FnOk P w K mg base CX0 4 t.Y1 t.Y2 ["book"] (sp_moved))(JU:FnOk P w K mg base CX0 3 t.JV t.JY ["row","moves","limbs"] (sp_check_side))(ql:FnOk P w K mg base CX0 1 t.QO t.QR ["form","inside"] (sp_length_of))(L:FnOk P w K mg base (CX1 P w) 3 t.JV t.JY ["row","moves","limbs"] (ZI t.jB t.jk)):FnOk P w K mg base (CX1 P w) 5 t.Qw t.Qy ["book"] (YR t.jB t.jk t.jq):=by
 refine T.Qp.F.okR jF (fun vs H Q E h=>?_) (fun aF A az s H vs Q E hr h=>?_)
 ·obtain⟨b,pl,pp,a0,a8,ls,O,M0,gs,k,rfl,B,WL,ag,ai,P,kl,q⟩:=h;rfl
 obtain⟨b,pl,pp,a0,a8,ls,O,M0,gs,k,rfl,B,WL,ag,ai,P,kl,q⟩:=h;refine⟨_,(JK (js (i:=1) jF.nd rfl (.inr rfl) (jo T.wa ZM hr (ja (pv 0) jb)))
  (JK (js (i:=2) jF.nd rfl (.inr rfl) (J3 jb))
  (jD (kh ⟨rfl,rfl,rfl,rfl⟩ (yW (by rfl) T.qo (ja (jo T.Y0 QZ hr (ja (pv 0) jb)) jb)) (Qe rfl (jy (jp (i:=3) jF.nd rfl (.inl rfl)) (jy (jp (i:=4) jF.nd rfl (.inl rfl)) qj)))
   (jc (js (i:=5) jF.nd rfl (.inl rfl) (jt jA (jt jM (jt jA (pv 0) je) (pv 3)) je))
   (jc (Qg (jh Jl (jt jA (pv 5) je) jm (nomark _))
    (jf (jN (jo T.JA JU hr (ja (pv 3) (ja (Jw (ow:=["part"]) (ci:=[1]) rfl (CompScope.of (defScope qf) ["book","moves","found","row","inside","form","length"] rfl rfl (by decide +kernel)) (Jv (by decide)) (jS (pv 4)) (fun _ _ _ _ _=>⟨(jp (i:=0) (Jg ["book","moves","found","row","inside","form","length"] rfl (by decide +kernel)) rfl (.inl rfl)),qh,(jt (zc (K:=K) rfl) (pv 1) (pv 0))⟩)) (ja (jt jA (pv 0) je) jb))))))
    jn)
   (jc (js (i:=6) jF.nd rfl (.inl rfl) (jo T.zj ql hr (ja (pv 5) (ja (Jw (ow:=["part"]) (ci:=[2]) rfl (CompScope.of (defScope qf) ["book","moves","found","row","inside","form","length"] rfl rfl (by decide +kernel)) (Jv (by decide)) (jS (pv 4)) (fun _ _ _ _ _=>⟨(jp (i:=0) (Jg ["book","moves","found","row","inside","form","length"] rfl (by decide +kernel)) rfl (.inl rfl)),qh,(jt (zc (K:=K) rfl) (pv 1) (pv 0))⟩)) jb))))
   (jc (jI (jh Z7 (pv 6) (Jc yw je je) (nomark _))
    (jf jJ)
    jn)
   (jf (jN (qi PySem.F.plainAttrs_list PySem.F.slot_list_append PySem.F.type_list_append Jn (pv 2) (ja (pv 6) jb))))))))
   (JK (js (i:=5) jF.nd rfl (.inl rfl) (jt jA (jt jM (jt jA (pv 0) je) (pv 3)) je))
   (Yx (yb (jh Jl (jt jA (pv 5) je) jm (nomark _))
    (jD (kg (wW (L.mono (by decide)) hr (by rfl) T.JA.m T.JA.F.kp T.JA.B .nil ⟨rfl,rfl,rfl,rfl⟩ (ja (pv 3) (ja (Jw (ow:=["part"]) (ci:=[1]) rfl (CompScope.of (defScope qf) ["book","moves","found","row","inside","form","length"] rfl rfl (by decide +kernel)) (Jv (by decide)) (jS (pv 4)) (fun _ _ _ _ _=>⟨(jp (i:=0) (Jg ["book","moves","found","row","inside","form","length"] rfl (by decide +kernel)) rfl (.inl rfl)),qh,(jt (zc (K:=K) rfl) (pv 1) (pv 0))⟩)) (ja (jt jA (pv 0) je) jb))))))
    qz)
   (Qg (jh Jl (jt jA (pv 5) je) jm (nomark _))
    (jf (jN (jo T.JA JU hr (ja (pv 3) (ja (Jw (ow:=["part"]) (ci:=[1]) rfl (CompScope.of (defScope qf) ["book","moves","found","row","inside","form","length"] rfl rfl (by decide +kernel)) (Jv (by decide)) (jS (pv 4)) (fun _ _ _ _ _=>⟨(jp (i:=0) (Jg ["book","moves","found","row","inside","form","length"] rfl (by decide +kernel)) rfl (.inl rfl)),qh,(jt (zc (K:=K) rfl) (pv 1) (pv 0))⟩)) (ja (jt jA (pv 0) je) jb))))))
    jn)
   (JK (js (i:=6) jF.nd rfl (.inl rfl) (jo T.zj ql hr (ja (pv 5) (ja (Jw (ow:=["part"]) (ci:=[2]) rfl (CompScope.of (defScope qf) ["book","moves","found","row","inside","form","length"] rfl rfl (by decide +kernel)) (Jv (by decide)) (jS (pv 4)) (fun _ _ _ _ _=>⟨(jp (i:=0) (Jg ["book","moves","found","row","inside","form","length"] rfl (by decide +kernel)) rfl (.inl rfl)),qh,(jt (zc (K:=K) rfl) (pv 1) (pv 0))⟩)) jb))))
   (jD (yb (jh Z7 (pv 6) (Jc yw je je) (nomark _))
    (jD (Q9 PySem.F.excBase_ValueError ⟨rfl,rfl,rfl,rfl⟩ T.QH (by rfl) T.kR (Jo.mono (by decide)) hr T.yd pass0 (ja (pv 3) jb)))
    qz))))))))),?_⟩
 refine qy (σ':=[some _,none,none,none,none,none,none]) rfl ?_;have sz:(200:Nat)<sizeLine:=by decide
 have W:=WL.w;have pa:=B.pa.1;have gl:=P.gl;have aK:=W.p61;refine Jx ?_;exists⟨b,pl,pp,a0,a8,_,_,rfl,B,W,fun lm ak M H1 s1 aH a4 aJ Ml aM oM=>?_⟩;have mg:=WG W ag ai Ml oM;have aE:=aM.1;walk_at"g";dsimp only;refine Jx ?_;exists⟨vC _,?_⟩;walk_at"f l hl H2 s2 t2";have nl:=none_of s1 hl;have aj:=s1.trans s2;walk_at"g";dsimp only;refine kc ?_;exists⟨b,pl,pp,a0,a8,_,_,rfl,B.same aj,W,fun li af H3 s3 ae ab av lia=>?_⟩;walk_at"g";have aA:=aj.trans s3;have aB:=s2.trans s3;have a6:=lia.1;rw[vt]at a6;have aw:li≠l:=fun z=>by rw[z,t2]at ae;cases ae
 have t3:H3 l=some (.lst []):=s3 _ _ t2;have ay:∀{c u},H c=some u->c≠l:=fun h=>jd h nl
 have ax:∀{c u},H1 c=some u->c≠l:=fun h=>jd h hl
 refine⟨li,_,rfl,SqL.of ab,?_⟩;refine KZ (xs:=af.map V.ref) k (by rw[vt,a6];exact kl) (fun i σ y=>IvE4 fun(o3 o4 o5 o6:Option V)=>IvA2 (σ=[some (.ref b),some (.ref lm),some (.ref l),o3,o4,o5,o6]) ((∀c u,c≠l->H3 c=some u->y c=some u)/\y l=some (.lst ((gs.take i).map V.int))))
  ⟨_,_,_,_,rfl,fun c u _ h=>h,t3⟩ ?_ ?_
 ·rintro i σ y _ ⟨o3,o4,o5,o6,rfl,sm,e1⟩;exact SqL.of (sm _ _ aw ab)
 ·rintro i v σ y P0 N ar hv ⟨o3,o4,o5,o6,rfl,sm,e1⟩ sP tP;obtain⟨ia,aI,rfl,a7,aq⟩:=lia.at_ref hv;have hi:i<O.length:=by
   have:=(vx.mp a7).1;rw[vt]at this;exact this
  obtain⟨p,hp⟩:∃p,O[i]?=some p:=⟨_,vz hi⟩
  rw[vv,hp]at a7;cases a7;obtain⟨a,ea,fb,ac,hf⟩:=B.pa.get hp;have as:ia∈af:=by
   rw[vv]at hv;obtain⟨a',al,e'⟩:=vf.mp hv;injection e' with e';subst e';exact vj al
  have ah:ia≠l:=fun z=>by have:=av ia as;rw[z,t2]at this;cases this
  have k4:∀c u,c≠l->H3 c=some u->N c=some u:=fun c u hc h=>sP _ _ (sm _ _ hc h)
  have r:∀c u,H c=some u->N c=some u:=fun c u h=>k4 _ _ (ay h) (aA _ _ h)
  have a3:∀c u,H1 c=some u->N c=some u:=fun c u h=>k4 _ _ (ax h) (aB _ _ h)
  have m:N ia=some (.lst (((inP O p.2).map fun j:Nat=>(j:Int)).map V.int)):=k4 _ _ ah aq;have aa:=sP _ _ e1;have o:FormAt N fb p.2:=FormAt.same r hf;have Z:=fun j=>W.inP_lt (j:=j) hp
  have w8:(inP O p.2).length<=8:=by unfold inP;rw[vt];exact(W.f i p hp).2
  refine Qi (SqT.of tP) ?_;have R:∀j∈inP O p.2,∃c,ak[j]?=some c/\N c=some (.lst ((M0.getD j []).map V.int)):=fun j I=>by
   have jl:=Z j I;obtain⟨c,hc,h1⟩:=aM.get (i:=j) (x:=M.getD j []) (by rw[vy,vz (by lia)];rfl);rw[mg j (by lia)]at h1;exact⟨c,hc,a3 _ _ h1⟩
  have a5:=P.len WL ar hp;by_cases ik:i<k
  ·refine .inr ?_;refine jr (σ':=[some _,some _,some _,some _,some _,o5,o6]) rfl ?_;obtain⟨au,g1,g2,aD⟩:=P.ok i p ik hp;exists ixTm (SqT.of (r _ _ B.t)) rfl ?_;exists ixLm (SqL.of (r _ _ B.p)) (Q1 (i:=(i:Int)) (by lia) ea) ?_;exists ixTm (SqT.of (r _ _ ac)) rfl ?_;exists⟨fun σ' H5=>σ'=[some (.ref b),some (.ref lm),some (.ref l),some (.int i),some (.ref ia),some (.ref fb),o6]/\Same N H5,?_,?_⟩
   rotate_left
   ·by_cases Y:∃qs,p.2 = .side qs
    ·obtain⟨qs,e⟩:=Y;have ap:=aD qs e;unfold cntL at ap;generalize inP O p.2=is at m Z ap w8 R;rw[e]at o;obtain⟨nb,X,_⟩:=o;exists ixTm (SqT.of X) rfl ?_;exists iteE1 ?_;exists⟨ia,rfl,⟨_,SqL.of m⟩,?_⟩;refine jZ (xs:=(is.map fun j:Nat=>(j:Int)).map V.int) (fun t G y=>IvE1 fun(C:List Addr)=>IvA2 (G=C.map V.ref) (ListsAt N C ((is.take t).map fun j=>M0.getD j [])/\N=y)) ⟨[],rfl,.nil,rfl⟩ ?_ ?_ ?_
     ·rintro t G y _ ⟨C,rfl,D,rfl⟩;exact SqL.of m
     ·rintro t x G y U ⟨C,rfl,D,rfl⟩;rw[vv,vv]at U;obtain⟨jj,J,rfl⟩:=vf.mp U;obtain⟨j,I,rfl⟩:=vf.mp J;obtain⟨c,hc,h1⟩:=R j (vj I);have F:=D.1;rw[vt,vh]at F;refine JJ (σ':=[none,some _]) rfl ?_;exists iteT ?_;exists ixLm (SqL.of (a3 _ _ a4)) (Q1 (i:=(j:Int)) (by lia) hc) ?_;refine⟨by rw[vt];lia,C++[c],by rw[vi];rfl,?_,rfl⟩;rw[take_snoc I,vi];exact All2.snoc D h1
     rintro G y ⟨C,rfl,D,rfl⟩;rw[vt,vt,v7]at D;have F:=D.1;rw[vt]at F;refine⟨by rw[vt];lia,?_⟩;walk_at"f 5 t";exists ixTm (SqT.of (s5 _ _ (r _ _ B.t))) rfl ?_;exists⟨_,p5,pl,C,a0,(is.map fun j=>M0.getD j []),rfl,t5,All2.mono D fun c ks h=>s5 _ _ h,fun ks a2=>?_,by rw[vt];lia,s5 _ _ (r _ _ B.l),ap.2,fun H6 s6=>?_⟩
     ·obtain⟨j,I,rfl⟩:=vO.mp a2;exact ap.1 j I
     walk_at"g";exact⟨rfl,s5.trans s6⟩
    ·have kd:∃k xs,N fb=some (.tup (.str k::xs))/\decide (k=("side" : Str))=false:=by
      generalize p.2=f at o Y;cases f with
      | side qs=>exact ue ⟨qs,rfl⟩ Y
      | hold n=>exact⟨_,_,o,by decide +kernel⟩
      | ring x n=>exact⟨_,_,o,by decide +kernel⟩
      | rise x v n=>exact⟨_,_,o,by decide +kernel⟩
      | row qs=>obtain⟨_,h1,_⟩:=o;exact⟨_,_,h1,by decide +kernel⟩
      | again k x=>exact⟨_,_,o,by decide +kernel⟩
     obtain⟨k,xs,hk,dk⟩:=kd;exists ixTm (SqT.of hk) (at0) ?_;exists iteB0 dk ?_;walk_at"g";exact⟨rfl,Same.refl _⟩
   rintro σ' H5 ⟨rfl,s5⟩;exists⟨ia,rfl,⟨_,SqL.of (s5 _ _ m)⟩,?_⟩;have a1:=s5 _ _ aa;refine jZ (xs:=((inP O p.2).map fun j:Nat=>(j:Int)).map V.int) (fun t G y=>G=(((inP O p.2).take t).map fun j=>gs.getD j 0).map V.int/\H5=y) ⟨rfl,rfl⟩ ?_ ?_ ?_
   ·rintro t G y _ ⟨rfl,rfl⟩;exact SqL.of (s5 _ _ m)
   ·rintro t x G y U ⟨rfl,rfl⟩;rw[vv,vv]at U;obtain⟨jj,J,rfl⟩:=vf.mp U;obtain⟨j,I,rfl⟩:=vf.mp J;have jl:=Z j (vj I);refine JJ (σ':=[none,some _]) rfl ?_;exists iteT ?_;exists ixLm (SqL.of a1) (j1s (by lia) jl) ?_;refine⟨by rw[vt,vt,vh];lia,?_,rfl⟩;rw[take_snoc I,vi,vi];rfl
   rintro G y ⟨rfl,rfl⟩;rw[show(((inP O p.2).map fun j:Nat=>(j:Int)).map V.int).length=(inP O p.2).length by rw[vt,vt],v7];refine⟨by rw[vt,vt];lia,?_⟩;walk_at"f 6 t";exists⟨fb,p6,p.2,_,rfl,FormAt.same (s5.trans s6) o,t6,a5.1,fun g hg=>?_⟩;have eg:=LenIs.uniq hg au;subst eg;exists iteD (fun d=>?_) (fun d=>?_)
   ·exfalso;lia
   exists⟨.inl ⟨rfl,_,SqL.of (s6 _ _ a1)⟩,?_⟩;exists⟨l,_,_,rfl,rfl,s6 _ _ a1,by rw[vt,vh];lia,?_⟩;refine⟨ik,_,_,_,_,rfl,fun c u hc h=>(jg hc).trans (s6 _ _ (s5 _ _ (k4 _ _ hc h))),?_⟩;rw[ji,X2 (by lia),vi];rfl
  have ik:i=k:=by lia
  subst ik;refine .inl ?_;refine qy (σ':=[some _,some _,some _,some _,some _,o5,o6]) rfl ?_;refine Jx ?_;exists ixTm (SqT.of (r _ _ B.t)) rfl ?_;exists ixLm (SqL.of (r _ _ B.p)) (Q1 (i:=(i:Int)) (by lia) ea) ?_;exists ixTm (SqT.of (r _ _ ac)) rfl ?_;walk_at"g";dsimp only;have a9:Same H N:=r;rcases q with⟨⟨p',qs,S,e,⟨j0,ad,am⟩⟩,x⟩ | ⟨nm,⟨p',qs,n,v,S,e,ne,hn,c1,c2⟩,x⟩ | ⟨⟨p',g,S,so,hg,aG⟩,x⟩
  ·rw[hp]at S;cases S;refine .inl (QE ?_);generalize inP O p.2=is at m Z w8 R ad;rw[e]at o;obtain⟨nb,X,_⟩:=o;exists ixTm (SqT.of X) rfl ?_;exists iteE1 ?_;refine KY (yZ ?_);exists⟨ia,rfl,⟨_,SqL.of m⟩,?_⟩;refine jZ (xs:=(is.map fun j:Nat=>(j:Int)).map V.int) (fun t G y=>IvE1 fun(C:List Addr)=>IvA2 (G=C.map V.ref) (ListsAt N C ((is.take t).map fun j=>M0.getD j [])/\N=y)) ⟨[],rfl,.nil,rfl⟩ ?_ ?_ ?_
   ·rintro t G y _ ⟨C,rfl,D,rfl⟩;exact SqL.of m
   ·rintro t x G y U ⟨C,rfl,D,rfl⟩;rw[vv,vv]at U;obtain⟨jj,J,rfl⟩:=vf.mp U;obtain⟨j,I,rfl⟩:=vf.mp J;obtain⟨c,hc,h1⟩:=R j (vj I);have F:=D.1;rw[vt,vh]at F;refine JJ (σ':=[none,some _]) rfl ?_;exists iteT ?_;exists ixLm (SqL.of (a3 _ _ a4)) (Q1 (i:=(j:Int)) (by lia) hc) ?_;refine⟨by rw[vt];lia,C++[c],by rw[vi];rfl,?_,rfl⟩;rw[take_snoc I,vi];exact All2.snoc D h1
   rintro G y ⟨C,rfl,D,rfl⟩;rw[vt,vt,v7]at D;have F:=D.1;rw[vt]at F;refine⟨by rw[vt];lia,?_⟩;walk_at"f 5 t";exists ixTm (SqT.of (s5 _ _ (r _ _ B.t))) rfl ?_;exists⟨_,p5,pl,C,a0,(is.map fun j=>M0.getD j []),ls,rfl,by lia,by lia,t5,All2.mono D fun c ks h=>s5 _ _ h,by rw[vt];lia,s5 _ _ (r _ _ B.l),B.la.mono fun c u h=>s5 _ _ (r _ _ h),WL.x,.inl ⟨⟨_,vO.mpr ⟨j0,ad,rfl⟩,am⟩,x.same (a9.trans s5)⟩⟩
  ·rw[hp]at S;cases S;refine .inl (QE ?_);unfold cntL at c1 c2;generalize inP O p.2=is at m Z w8 R ne c1 c2;rw[e]at o;obtain⟨nb,X,_⟩:=o;exists ixTm (SqT.of X) rfl ?_;exists iteE1 ?_;refine KY (yZ ?_);exists⟨ia,rfl,⟨_,SqL.of m⟩,?_⟩;refine jZ (xs:=(is.map fun j:Nat=>(j:Int)).map V.int) (fun t G y=>IvE1 fun(C:List Addr)=>IvA2 (G=C.map V.ref) (ListsAt N C ((is.take t).map fun j=>M0.getD j [])/\N=y)) ⟨[],rfl,.nil,rfl⟩ ?_ ?_ ?_
   ·rintro t G y _ ⟨C,rfl,D,rfl⟩;exact SqL.of m
   ·rintro t x G y U ⟨C,rfl,D,rfl⟩;rw[vv,vv]at U;obtain⟨jj,J,rfl⟩:=vf.mp U;obtain⟨j,I,rfl⟩:=vf.mp J;obtain⟨c,hc,h1⟩:=R j (vj I);have F:=D.1;rw[vt,vh]at F;refine JJ (σ':=[none,some _]) rfl ?_;exists iteT ?_;exists ixLm (SqL.of (a3 _ _ a4)) (Q1 (i:=(j:Int)) (by lia) hc) ?_;refine⟨by rw[vt];lia,C++[c],by rw[vi];rfl,?_,rfl⟩;rw[take_snoc I,vi];exact All2.snoc D h1
   rintro G y ⟨C,rfl,D,rfl⟩;rw[vt,vt,v7]at D;have F:=D.1;rw[vt]at F;refine⟨by rw[vt];lia,?_⟩;walk_at"f 5 t";exists ixTm (SqT.of (s5 _ _ (r _ _ B.t))) rfl ?_;exists⟨_,p5,pl,C,a0,(is.map fun j=>M0.getD j []),ls,rfl,by lia,by lia,t5,All2.mono D fun c ks h=>s5 _ _ h,by rw[vt];lia,s5 _ _ (r _ _ B.l),B.la.mono fun c u h=>s5 _ _ (r _ _ h),WL.x,.inr ⟨n,nm,v,fun ks a2=>?_,hn,c1,c2,x.same (a9.trans s5)⟩⟩;obtain⟨j,I,rfl⟩:=vO.mp a2;exact ne j I
  rw[hp]at S;cases S;refine .inr (Jx ?_);refine⟨fun σ' H5=>σ'=[some (.ref b),some (.ref lm),some (.ref l),some (.int i),some (.ref ia),some (.ref fb),o6]/\Same N H5,?_,?_⟩
  rotate_left
  ·by_cases Y:∃qs,p.2 = .side qs
   ·obtain⟨qs,e⟩:=Y;have ap:=so qs e;unfold cntL at ap;generalize inP O p.2=is at m Z ap w8 R;rw[e]at o;obtain⟨nb,X,_⟩:=o;exists ixTm (SqT.of X) rfl ?_;exists iteE1 ?_;exists⟨ia,rfl,⟨_,SqL.of m⟩,?_⟩;refine jZ (xs:=(is.map fun j:Nat=>(j:Int)).map V.int) (fun t G y=>IvE1 fun(C:List Addr)=>IvA2 (G=C.map V.ref) (ListsAt N C ((is.take t).map fun j=>M0.getD j [])/\N=y)) ⟨[],rfl,.nil,rfl⟩ ?_ ?_ ?_
    ·rintro t G y _ ⟨C,rfl,D,rfl⟩;exact SqL.of m
    ·rintro t x G y U ⟨C,rfl,D,rfl⟩;rw[vv,vv]at U;obtain⟨jj,J,rfl⟩:=vf.mp U;obtain⟨j,I,rfl⟩:=vf.mp J;obtain⟨c,hc,h1⟩:=R j (vj I);have F:=D.1;rw[vt,vh]at F;refine JJ (σ':=[none,some _]) rfl ?_;exists iteT ?_;exists ixLm (SqL.of (a3 _ _ a4)) (Q1 (i:=(j:Int)) (by lia) hc) ?_;refine⟨by rw[vt];lia,C++[c],by rw[vi];rfl,?_,rfl⟩;rw[take_snoc I,vi];exact All2.snoc D h1
    rintro G y ⟨C,rfl,D,rfl⟩;rw[vt,vt,v7]at D;have F:=D.1;rw[vt]at F;refine⟨by rw[vt];lia,?_⟩;walk_at"f 5 t";exists ixTm (SqT.of (s5 _ _ (r _ _ B.t))) rfl ?_;exists⟨_,p5,pl,C,a0,(is.map fun j=>M0.getD j []),rfl,t5,All2.mono D fun c ks h=>s5 _ _ h,fun ks a2=>?_,by rw[vt];lia,s5 _ _ (r _ _ B.l),ap.2,fun H6 s6=>?_⟩
    ·obtain⟨j,I,rfl⟩:=vO.mp a2;exact ap.1 j I
    walk_at"g";exact⟨rfl,s5.trans s6⟩
   ·have kd:∃k xs,N fb=some (.tup (.str k::xs))/\decide (k=("side" : Str))=false:=by
     generalize p.2=f at o Y;cases f with
     | side qs=>exact ue ⟨qs,rfl⟩ Y
     | hold n=>exact⟨_,_,o,by decide +kernel⟩
     | ring x n=>exact⟨_,_,o,by decide +kernel⟩
     | rise x v n=>exact⟨_,_,o,by decide +kernel⟩
     | row qs=>obtain⟨_,h1,_⟩:=o;exact⟨_,_,h1,by decide +kernel⟩
     | again k x=>exact⟨_,_,o,by decide +kernel⟩
    obtain⟨k,xs,hk,dk⟩:=kd;exists ixTm (SqT.of hk) (at0) ?_;exists iteB0 dk ?_;walk_at"g";exact⟨rfl,Same.refl _⟩
  rintro σ' H5 ⟨rfl,s5⟩;dsimp only;refine Jx ?_;exists⟨ia,rfl,⟨_,SqL.of (s5 _ _ m)⟩,?_⟩;have a1:=s5 _ _ aa;refine jZ (xs:=((inP O p.2).map fun j:Nat=>(j:Int)).map V.int) (fun t G y=>G=(((inP O p.2).take t).map fun j=>gs.getD j 0).map V.int/\H5=y) ⟨rfl,rfl⟩ ?_ ?_ ?_
  ·rintro t G y _ ⟨rfl,rfl⟩;exact SqL.of (s5 _ _ m)
  ·rintro t x G y U ⟨rfl,rfl⟩;rw[vv,vv]at U;obtain⟨jj,J,rfl⟩:=vf.mp U;obtain⟨j,I,rfl⟩:=vf.mp J;have jl:=Z j (vj I);refine JJ (σ':=[none,some _]) rfl ?_;exists iteT ?_;exists ixLm (SqL.of a1) (j1s (by lia) jl) ?_;refine⟨by rw[vt,vt,vh];lia,?_,rfl⟩;rw[take_snoc I,vi,vi];rfl
  rintro G y ⟨rfl,rfl⟩;rw[show(((inP O p.2).map fun j:Nat=>(j:Int)).map V.int).length=(inP O p.2).length by rw[vt,vt],v7];refine⟨by rw[vt,vt];lia,?_⟩;walk_at"f 6 t";exists⟨fb,p6,p.2,_,rfl,FormAt.same (s5.trans s6) o,t6,a5.1,fun g' ao=>?_⟩;have eg:=LenIs.uniq ao hg;subst eg;walk_at"g";dsimp only;refine QE ?_;exists iteD (fun d=>?_) (fun d=>?_)
  ·refine QD ?_;walk_at"g";intro ex an;have aC:=a9.trans (s5.trans s6);exact⟨ex,_,rfl,by lia,by lia,ji,x.of aC an⟩
  ·exfalso;lia
theorem Xk(T:Txt K mg t)(Jo:FnOk P w K mg base CX0 1 t.jL t.j4 ["self","row"] (sp_xi1 t.jq))(QZ:FnOk P w K mg base CX0 2 t.yH t.yM ["book"] (sp_inner))(ZM:FnOk P w K mg base CX0 4 t.Y1 t.Y2 ["book"] (sp_moved))(JU:FnOk P w K mg base CX0 3 t.JV t.JY ["row","moves","limbs"] (sp_check_side))(ql:FnOk P w K mg base CX0 1 t.QO t.QR ["form","inside"] (sp_length_of)):FnOk P w K mg base CX0 5 t.Qw t.Qy ["book"] (sp_lengths):=by
 specialize T.Qp.F.ok jF;obtain⟨b,pl,pp,Z,a7,ls,F,gs,hs,rfl,B,S,q⟩:=h;refine⟨_,(jc (js (i:=1) jF.nd rfl (.inr rfl) (jo T.wa ZM hr (ja (pv 0) jb)))
  (jc (js (i:=2) jF.nd rfl (.inr rfl) (J3 jb))
  (jc (QT PassesOwn.never rfl (yW (by rfl) T.qo (ja (jo T.Y0 QZ hr (ja (pv 0) jb)) jb)) (Qe rfl (jy (jp (i:=3) jF.nd rfl (.inl rfl)) (jy (jp (i:=4) jF.nd rfl (.inl rfl)) qj)))
   (jc (js (i:=5) jF.nd rfl (.inl rfl) (jt jA (jt jM (jt jA (pv 0) je) (pv 3)) je))
   (jc (Qg (jh Jl (jt jA (pv 5) je) jm (nomark _))
    (jf (jN (jo T.JA JU hr (ja (pv 3) (ja (Jw (ow:=["part"]) (ci:=[1]) rfl (CompScope.of (defScope qf) ["book","moves","found","row","inside","form","length"] rfl rfl (by decide +kernel)) (Jv (by decide)) (jS (pv 4)) (fun _ _ _ _ _=>⟨(jp (i:=0) (Jg ["book","moves","found","row","inside","form","length"] rfl (by decide +kernel)) rfl (.inl rfl)),qh,(jt (zc (K:=K) rfl) (pv 1) (pv 0))⟩)) (ja (jt jA (pv 0) je) jb))))))
    jn)
   (jc (js (i:=6) jF.nd rfl (.inl rfl) (jo T.zj ql hr (ja (pv 5) (ja (Jw (ow:=["part"]) (ci:=[2]) rfl (CompScope.of (defScope qf) ["book","moves","found","row","inside","form","length"] rfl rfl (by decide +kernel)) (Jv (by decide)) (jS (pv 4)) (fun _ _ _ _ _=>⟨(jp (i:=0) (Jg ["book","moves","found","row","inside","form","length"] rfl (by decide +kernel)) rfl (.inl rfl)),qh,(jt (zc (K:=K) rfl) (pv 1) (pv 0))⟩)) jb))))
   (jc (jI (jh Z7 (pv 6) (Jc yw je je) (nomark _))
    (jf jJ)
    jn)
   (jf (jN (qi PySem.F.plainAttrs_list PySem.F.slot_list_append PySem.F.type_list_append Jn (pv 2) (ja (pv 6) jb)))))))))
  (jf (jw (pv 2)))))),?_⟩
 refine jr (σ':=[some _,none,none,none,none,none,none]) rfl ?_
 try dsimp only[cxOf,Cx.nox]
 have sz:(200:Nat)<sizeLine:=by decide
 have W:=S.w;have pa:=B.pa.1;have gl:=S.gl;have aw:=W.p61;exists⟨b,pl,pp,Z,a7,_,_,rfl,B,W,fun lm ab M H1 s1 ar ae av Ml aM oM=>?_⟩;have mg:=S.mv M Ml oM;have aq:=aM.1;exists⟨vC _,?_⟩;walk_at"f l hl H2 s2 t2";have nl:=none_of s1 hl;have a8:=s1.trans s2;exists⟨b,pl,pp,Z,a7,_,_,rfl,B.same a8,W,fun li a3 H3 s3 a2 a1 al lia=>?_⟩;walk_at"g";have a9:=a8.trans s3;have ao:=s2.trans s3;have J:=lia.1;rw[vt]at J;have am:li≠l:=fun z=>by rw[z,t2]at a2;cases a2
 have t3:H3 l=some (.lst []):=s3 _ _ t2;have a6:∀{c u},H c=some u->c≠l:=fun h=>jd h nl
 have an:∀{c u},H1 c=some u->c≠l:=fun h=>jd h hl
 refine⟨li,_,rfl,SqL.of a1,?_⟩;refine kI (xs:=a3.map V.ref) (fun i σ r=>IvE4 fun(o3 o4 o5 o6:Option V)=>IvA2 (σ=[some (.ref b),some (.ref lm),some (.ref l),o3,o4,o5,o6]) ((∀c u,c≠l->H3 c=some u->r c=some u)/\r l=some (.lst ((gs.take i).map V.int))))
  ⟨_,_,_,_,rfl,fun c u _ h=>h,t3⟩ ?_ ?_ ?_
 ·rintro i σ r _ ⟨o3,o4,o5,o6,rfl,sm,e1⟩;exact SqL.of (sm _ _ am a1)
 ·rintro i v σ r P C hv ⟨o3,o4,o5,o6,rfl,sm,e1⟩ sP tP;obtain⟨X,as,rfl,O,ah⟩:=lia.at_ref hv;have hi:i<F.length:=by
   have:=(vx.mp O).1;rw[vt]at this;exact this
  obtain⟨p,hp⟩:∃p,F[i]?=some p:=⟨_,vz hi⟩
  rw[vv,hp]at O;cases O;obtain⟨a,ea,fb,af,hf⟩:=B.pa.get hp;have aj:X∈a3:=by
   rw[vv]at hv;obtain⟨a',ad,e'⟩:=vf.mp hv;injection e' with e';subst e';exact vj ad
  have a5:X≠l:=fun z=>by have:=al X aj;rw[z,t2]at this;cases this
  have k4:∀c u,c≠l->H3 c=some u->C c=some u:=fun c u I h=>sP _ _ (sm _ _ I h)
  have y:∀c u,H c=some u->C c=some u:=fun c u h=>k4 _ _ (a6 h) (a9 _ _ h)
  have a4:∀c u,H1 c=some u->C c=some u:=fun c u h=>k4 _ _ (an h) (ao _ _ h)
  have o:C X=some (.lst (((inP F p.2).map fun j:Nat=>(j:Int)).map V.int)):=k4 _ _ a5 ah;have ac:=sP _ _ e1;have m:FormAt C fb p.2:=FormAt.same y hf;have Y:=fun j=>W.inP_lt (j:=j) hp
  have w8:(inP F p.2).length<=8:=by unfold inP;rw[vt];exact(W.f i p hp).2
  obtain⟨lp,ak⟩:=S.ln i p hp;have au:=S.gb i hi;refine Qi (SqT.of tP) ?_;exists ixTm (SqT.of (y _ _ B.t)) rfl ?_;exists ixLm (SqL.of (y _ _ B.p)) (Q1 (i:=(i:Int)) (by lia) ea) ?_;exists ixTm (SqT.of (y _ _ af)) rfl ?_;exists⟨fun σ' H5=>σ'=[some (.ref b),some (.ref lm),some (.ref l),some (.int i),some (.ref X),some (.ref fb),o6]/\Same C H5,?_,?_⟩
  rotate_left
  ·by_cases U:∃qs,p.2 = .side qs
   ·obtain⟨qs,e⟩:=U;have ap:=S.sd i p qs hp e;generalize inP F p.2=is at o Y ap w8;rw[e]at m;obtain⟨nb,ag,_⟩:=m;exists ixTm (SqT.of ag) rfl ?_;exists iteE1 ?_;exists⟨X,rfl,⟨_,SqL.of o⟩,?_⟩;have aa:∀j∈is,∃c,ab[j]?=some c/\C c=some (.lst ((hs.getD j []).map V.int)):=fun j D=>by
     have jl:=Y j D;obtain⟨c,I,h1⟩:=aM.get (i:=j) (x:=M.getD j []) (by rw[vy,vz (by lia)];rfl);rw[mg j (by lia)]at h1;exact⟨c,I,a4 _ _ h1⟩
    refine jZ (xs:=(is.map fun j:Nat=>(j:Int)).map V.int) (fun t G r=>IvE1 fun(L:List Addr)=>IvA2 (G=L.map V.ref) (ListsAt C L ((is.take t).map fun j=>hs.getD j [])/\C=r)) ⟨[],rfl,.nil,rfl⟩ ?_ ?_ ?_
    ·rintro t G r _ ⟨L,rfl,lc,rfl⟩;exact SqL.of o
    ·rintro t x G r hx ⟨L,rfl,lc,rfl⟩;rw[vv,vv]at hx;obtain⟨jj,R,rfl⟩:=vf.mp hx;obtain⟨j,D,rfl⟩:=vf.mp R;obtain⟨c,I,h1⟩:=aa j (vj D);have a0:=lc.1;rw[vt,vh]at a0;refine JJ (σ':=[none,some _]) rfl ?_;exists iteT ?_;exists ixLm (SqL.of (a4 _ _ ae)) (Q1 (i:=(j:Int)) (by lia) I) ?_;refine⟨by rw[vt];lia,L++[c],by rw[vi];rfl,?_,rfl⟩;rw[take_snoc D,vi];exact All2.snoc lc h1
    rintro G r ⟨L,rfl,lc,rfl⟩;rw[vt,vt,v7]at lc;have a0:=lc.1;rw[vt]at a0;refine⟨by rw[vt];lia,?_⟩;walk_at"f 5 t";exists ixTm (SqT.of (s5 _ _ (y _ _ B.t))) rfl ?_;exists⟨_,p5,pl,L,Z,(is.map fun j=>hs.getD j []),rfl,t5,All2.mono lc fun c ks h=>s5 _ _ h,fun ks ai=>?_,by rw[vt];lia,s5 _ _ (y _ _ B.l),ap.2,fun H6 s6=>?_⟩
    ·obtain⟨j,D,rfl⟩:=vO.mp ai;exact ap.1 j D
    walk_at"g";exact⟨rfl,s5.trans s6⟩
   ·have kd:∃k xs,C fb=some (.tup (.str k::xs))/\decide (k=("side" : Str))=false:=by
     generalize p.2=f at m U;cases f with
     | side qs=>exact ue ⟨qs,rfl⟩ U
     | hold n=>exact⟨_,_,m,by decide +kernel⟩
     | ring x n=>exact⟨_,_,m,by decide +kernel⟩
     | rise x v n=>exact⟨_,_,m,by decide +kernel⟩
     | row qs=>obtain⟨_,h1,_⟩:=m;exact⟨_,_,h1,by decide +kernel⟩
     | again k x=>exact⟨_,_,m,by decide +kernel⟩
    obtain⟨k,xs,hk,dk⟩:=kd;exists ixTm (SqT.of hk) (at0) ?_;exists iteB0 dk ?_;walk_at"g";exact⟨rfl,Same.refl _⟩
  rintro σ' H5 ⟨rfl,s5⟩;exists⟨X,rfl,⟨_,SqL.of (s5 _ _ o)⟩,?_⟩;have N:=s5 _ _ ac;refine jZ (xs:=((inP F p.2).map fun j:Nat=>(j:Int)).map V.int) (fun t G r=>G=(((inP F p.2).take t).map fun j=>gs.getD j 0).map V.int/\H5=r) ⟨rfl,rfl⟩ ?_ ?_ ?_
  ·rintro t G r _ ⟨rfl,rfl⟩;exact SqL.of (s5 _ _ o)
  ·rintro t x G r hx ⟨rfl,rfl⟩;rw[vv,vv]at hx;obtain⟨jj,R,rfl⟩:=vf.mp hx;obtain⟨j,D,rfl⟩:=vf.mp R;have jl:=Y j (vj D);refine JJ (σ':=[none,some _]) rfl ?_;exists iteT ?_;exists ixLm (SqL.of N) (j1s (by lia) jl) ?_;refine⟨by rw[vt,vt,vh];lia,?_,rfl⟩;rw[take_snoc D,vi,vi];rfl
  rintro G r ⟨rfl,rfl⟩;rw[show(((inP F p.2).map fun j:Nat=>(j:Int)).map V.int).length=(inP F p.2).length by rw[vt,vt],v7];refine⟨by rw[vt,vt];lia,?_⟩;walk_at"f 6 t";exists⟨fb,p6,p.2,_,rfl,FormAt.same (s5.trans s6) m,t6,lp,fun g hg=>?_⟩;have eg:=ak g hg;subst eg;exists iteD (fun d=>?_) (fun d=>?_)
  ·exfalso;lia
  exists⟨.inl ⟨rfl,_,SqL.of (s6 _ _ N)⟩,?_⟩;exists⟨l,_,_,rfl,rfl,s6 _ _ N,by rw[vt,vh];lia,?_⟩;refine⟨_,_,_,_,rfl,fun c u I h=>(jg I).trans (s6 _ _ (s5 _ _ (k4 _ _ I h))),?_⟩;rw[ji,X2 (by lia),vi];rfl
 rintro σ' r ⟨o3,o4,o5,o6,rfl,sm,e1⟩;rw[vt,J,<-gl,v7]at e1;walk_at"g";exact q l r (fun c u h=>sm _ _ (a6 h) (a9 _ _ h)) nl e1
theorem Kx(T:Txt K mg t)(i:FnOk P w K mg base CX0 5 t.Qw t.Qy ["book"] (sp_lengths)):FnOk P w K mg base CX0 6 t.qY t.zW ["asked"] (sp_lengthD):=by
 specialize T.zH.F.ok KA;obtain⟨l,b,u,v,a,c,p,e,n,o,rfl,k,B,S,r,q⟩:=h;refine⟨_,(jf (jw (qS Ye (by rfl) T.j1e xA (ja (jt jM (jo T.Qp i hr (ja (jt jM (pv 0) je) jb)) (j3i j2e je)) jb)))),?_⟩;refine jr (σ':=[some _]) rfl ?_
 try dsimp only[cxOf,Cx.nox]
 exists ixLm (SqL.of k) (at0) ?_;exists⟨b,u,v,a,c,p,e,n,o,rfl,B,S,fun g f x y j=>?_⟩;have m:=S.gl;have d:=S.gb (e.length-1) (by lia);exists ixLm (SqL.of j) (j2A r m) ?_;exists .inl ⟨_,rfl,j1A d.1 d.2,?_⟩;exact q f x
theorem wK(T:Txt K mg t):FnOk P w K mg base CX0 1 t.QN t.QQ ["text","signs"] (Ws.Zg):=by
 refine T.Zn.F.ok wX (fun v H Q E h=>?_) (fun l A g s H v Q E y h=>?_)
 ·obtain⟨x,z,rfl,u,q⟩:=h;rfl
 obtain⟨x,z,rfl,u,q⟩:=h;refine⟨_,(jf (jw (jv (Yd rfl) (by rfl) T.j1a xy (ja (Jw (ow:=["sign"]) (ci:=[1]) rfl (CompScope.of (defScope zu) ["text","signs"] rfl rfl (by decide +kernel)) (Jv (by decide)) (j3T (pv 0)) (fun _ _ _ _ _=>⟨(jp (i:=0) (Jg ["text","signs"] rfl (by decide +kernel)) rfl (.inl rfl)),qh,(zY j3P (pv 0) (pv 1) (by with_unfolding_all rfl))⟩)) jb)))),?_⟩;refine jr (σ':=[some _,some _]) rfl ?_
 try dsimp only[cxOf,Cx.nox]
 have B:(200:Nat)<sizeLine:=by decide
 have k:=Ws.kO x;have r:x.cps.size=x.length:=rfl;exists j1f (fun i j d=>j=((x.cps.toList.take i).map fun c=>V.bl (decide (c∈z.cps.toList)))/\H=d) ⟨rfl,rfl⟩ ?_ ?_
 ·rintro i c j d a ⟨rfl,rfl⟩;have f:x.cps.toList[i]?=some c:=by rw[Array.getElem?_toList];exact a
  refine JJ (σ':=[none,some _]) rfl ?_;exists iteT ?_;exists⟨_,_,rfl,rfl,?_⟩;refine⟨by rw[vt,vh];lia,?_,rfl⟩;rw[List.take_add_one,f,vi];rfl
 ·rintro j d ⟨rfl,rfl⟩;have e:x.cps.toList.take x.cps.size=x.cps.toList:=take_of_length_le (by lia);rw[e];refine⟨by rw[vt];lia,fun p o=>?_⟩;exists⟨p,x.cps.toList.map fun c=>decide (c∈z.cps.toList),rfl,SqL.of (by rw[ji,map_map];rfl),?_⟩;have m:(x.cps.toList.map fun c=>decide (c∈z.cps.toList)).all id=Ws.among x z:=by
   unfold Ws.among;rw[Bool.eq_iff_iff,all_eq_true,decide_eq_true_iff];constructor
   ·intro h c a;exact of_decide_eq_true (h _ (vO.mpr ⟨c,a,rfl⟩))
   ·intro h b n;obtain⟨c,a,rfl⟩:=vO.mp n;exact vK (h c a)
  rw[m];exact q _ (Pr.j26 o _)
theorem wM(T:Txt K mg t)(y:FnOk P w K mg base CX0 1 t.QN t.QQ ["text","signs"] (Ws.Zg)):FnOk P w K mg base CX0 2 t.QP t.qR ["text","most"] (Ws.sp_number_of):=by
 specialize T.Zo.ok wZ;obtain⟨x,m,rfl,n,q⟩:=h;refine⟨_,(jc (jI (PW.pt (Qh (qD (yY Z8 Z8 je (jv jR (by rfl) T.qQ JX (ja (pv 0) jb)) (pv 1))) (QC (qD (QB (jo T.Zn y hr (ja (pv 0) (ja (JI (by rfl) T.YW T.YY) jb))))))))
   (jf (jw jC))
   jn)
  (jc (jI (PW.pt (yx (jh Jl (jt xV (pv 0) je) jm (nomark _)) (Zb (jh Z9 (pv 0) jm (nomark _)))))
   (jf (jw jC))
   jn)
  (jf (jw (qS j0l (by rfl) T.j1b xz (ja (pv 0) jb)))))),?_⟩
 refine jr (σ':=[some _,some _]) rfl ?_
 try dsimp only[cxOf,Cx.nox]
 have B:(200:Nat)<sizeLine:=by decide
 have i:∀b,Same H b->¬((1<=x.length/\(x.length:Int)<=m)/\Ws.among x Ws.figs=true/\¬(x.cps.toList.head?=some 48/\x.length≠1))->Q .non b:=fun b g h=>by
  have e:=q b g;rw[Ws.j2S h]at e;exact e
 exists⟨_,_,rfl,⟨by lia,rfl⟩,?_⟩;exists iteD (fun o=>?_) (fun o=>?_)
 ·exists iteN (fun p=>?_) (fun p=>?_)
  ·walk_at"g";exact i _ (Same.refl _) (fun h=>by lia)
  exists⟨_,_,rfl,n,fun b g=>?_⟩;walk_at"g";cases ha:Ws.among x Ws.figs with
  | false=>
   have d:Ws.among x "0123456789"= false:=ha;rw[d];refine iteT ?_;walk_at"g";exact i _ g (fun h=>by rw[ha]at h;exact ue h.2.1 vJ)
  | true=>
   have d:Ws.among x "0123456789"= true:=ha;rw[d];refine iteF ?_;walk_at"g";obtain⟨c,r,v,u⟩:=Ws.j2H (x:=x) (by lia);have f:x.cps.toList.head?=some c:=by rw[v];rfl
   refine⟨x,0,c,rfl,rfl,by lia,u,?_⟩;walk_at"g";have a:¬(x.cps.toList.head?=some 48/\x.length≠1)->Q (.int (NumText.digitsVal x.cps.toList:Nat)) b:=fun h=>by
    have e:=q b g;rw[Ws.j1K ⟨by lia,ha,h⟩]at e;exact e
   refine iteD (fun j=>?_) (fun j=>?_)
   ·have l:=Ws.j09.mp j;subst l;exists iteN (fun k=>?_) (fun k=>?_)
    ·walk_at"g";exact i _ g (fun h=>h.2.2 ⟨f,fun z=>k ((Ws.j0d f).mpr z)⟩)
    ·walk_at"g";exact⟨_,_,rfl,Ws.intText ha (by lia) n,by lia,a (fun h=>h.2 ((Ws.j0d f).mp k))⟩
   ·refine iteF ?_;walk_at"g";exact⟨_,_,rfl,Ws.intText ha (by lia) n,by lia,a (fun h=>j (Ws.j09.mpr (by rw[f]at h;exact vP h.1)))⟩
 ·exists iteT ?_;walk_at"g";exact i _ (Same.refl _) (fun h=>by lia)
theorem WN(T:Txt K mg t):FnOk P w K mg base CX0 1 t.zM t.zT ["words"] (sp_kindsD K):=by
 specialize T.ko.F.ok W4;obtain⟨l,x,rfl,a,q⟩:=h;refine⟨_,(jc (jI (PW.pt (yx (jh Jl (jt jM (pv 0) je) jm (nomark _)) (Zb (jh QA (jv jR (by rfl) T.qQ JX (ja (pv 0) jb)) (zZ (ja je (ja je (ja je jb)))) (by with_unfolding_all rfl)))))
   (jf jJ)
   jn)
  (jf (jw (j2Z (JI (v:=.ref t.yE) (by rfl) T.j3u rfl) (ja (jt jM (pv 0) je) (ja (zZ jb) jb)))))),?_⟩
 refine jr (σ':=[some _]) rfl ?_
 try dsimp only[cxOf,Cx.nox]
 have e:(200:Nat)<sizeLine:=by decide
 exists ixLm (SqL.of a) (at0) ?_;exists iteD (fun c=>ue c (by decide +kernel)) (fun _=>?_);refine iteF ?_;exists j32 ?_;exists⟨t.yE,_,rfl,T.j3B,?_⟩;exists ixLm (SqL.of a) (at0) ?_;exists⟨(by show 0<=sizeLine;lia),?_⟩;walk_at"f 1 t";exists⟨_,_,rfl,.inl ⟨["name"],by rw[PyProof.Rows.KTD.datumAt,va (by decide +kernel)];rfl,by decide,fun b d=>?_⟩⟩;exact q b d H1 s1
theorem WM(T:Txt K mg t)(O:FnOk P w K mg base CX0 2 t.QP t.qR ["text","most"] (Ws.sp_number_of))(W:FnOk P w K mg base CX0 1 t.zM t.zT ["words"] (sp_kindsD K)):FnOk P w K mg base CX0 3 t.zL t.zR ["words"] (sp_askedD):=by
 specialize T.ye.F.ok ZE;obtain⟨l,x,rfl,p,U,q⟩:=h;obtain⟨e,a,d⟩:=T.Kq;refine⟨_,(jc (js (i:=1) ZE.nd rfl (.inl rfl) (jo T.ko W hr (ja (pv 0) jb)))
  (jc (jI (PW.pt (Qh (jh QA jm (pv 0) (by with_unfolding_all rfl)) (Qh (qD (j3Y (pv 1) (fun _=>rfl))) (QC (jh Z9 (jv jR (by rfl) T.qQ JX (ja (pv 1) jb)) (Jc j1R (jv jR (by rfl) T.qQ JX (ja (pv 0) jb)) je) (nomark _))))))
   (jf jJ)
   jn)
  (jc (wU (i:=2) (ow:=["kind","word"]) (ci:=[]) rfl (CompScope.of (defScope Zd) ["words","kinds","values"] rfl rfl (by decide +kernel)) (wy (by decide) (by decide)) ZE.nd rfl (.inl rfl) (j02 (by rfl) T.Wg (ja (pv 1) (ja (zf ZZ (pv 0) (Qf je) Za) jb))) (fun _ _ _ _ _=>⟨(Qe rfl (jy (jp (i:=0) (Jg ["words","kinds","values"] rfl (by decide +kernel)) rfl (.inl rfl)) (jy (jp (i:=1) (Jg ["words","kinds","values"] rfl (by decide +kernel)) rfl (.inl rfl)) qj))),qh,(Qd (jh Jl (pv 0) jm (nomark _)) (wP (O.mono (by decide)) hr (by rfl) T.YL T.Zo.kp a d pass0 (ja (pv 1) jb)) (pv 1))⟩))
  (jc (jI (jh QA jC (pv 2) (by with_unfolding_all rfl))
   (jf jJ)
   jn)
  (jf (jw (WS rfl (by rfl) T.j1c (by rfl) T.Wg (ja (pv 1) (ja (pv 2) jb))))))))),?_⟩
 refine jr (σ':=[some _,none,none]) rfl ?_
 try dsimp only[cxOf,Cx.nox]
 have sz:(200:Nat)<sizeLine:=by decide
 exists⟨l,x,rfl,p,fun b g Y B=>?_⟩;have f:=B _ _ p;exists⟨l,_,rfl,.inl (SqL.of f),rfl,rfl,?_⟩;have o:inV (.str "") [.str "length",.str x]=false:=by
  show(List.any [V.str "length",V.str x] fun y=>eqV y (.str ""))=false;rw[any_cons,any_cons,List.any_nil];have G:eqV (.str "length") (.str "")=false:=by decide +kernel
  have I:eqV (.str x) (.str "")=false:=beq_eq_false_iff_ne.mpr U;rw[G,I];rfl
 refine⟨_,rfl,?_⟩;refine iteB0 (by rw[vA (by decide)];exact o) ?_;exists⟨true,.inr (.inl ⟨_,g _,rfl⟩),?_⟩;refine iteB0 rfl ?_;exists⟨_,_,rfl,.inr ⟨_,g _,rfl⟩,?_⟩;exists⟨_,_,rfl,.inl ⟨_,SqL.of f,rfl⟩,?_⟩;exists iteN (fun z=>ue (show((1:Nat):Int)=((2:Nat):Int)-1 by decide) z) (fun _=>?_);exists⟨l,_,rfl,SqL.of f,?_⟩;rw[show cutV [V.str "length",V.str x] (some 1) none=[.str x]from Wl];walk_at"f 2 t";exists⟨b,p2,_,_,rfl,g _,SqL.of t2,?_⟩;refine KM (xs:=[V.str "name"]) (zs:=[V.str x]) (fun i k m=>k=[V.str x].take i/\Same H2 m) rfl ⟨rfl,Same.refl _⟩ ?_ ?_ ?_
 ·rintro i k m _ ⟨rfl,j⟩;exact⟨g _,SqL.of (j _ _ t2)⟩
 ·rintro i u v k m P' C L r ⟨rfl,j⟩ s4 S;have M:i=0:=by
   have:=(vx.mp r).1;have:i<1:=this;lia
  subst M;cases L;cases r;refine JJ (σ':=[none,none]) rfl ?_;refine Qi (SqT.of S) ?_;exists iteT ?_;exists iteD (fun c=>ue c (by decide +kernel)) (fun _=>?_);walk_at"g";exact⟨(by show 0<sizeLine;lia),rfl,j.trans s4⟩
 rintro k Z ⟨rfl,j⟩;refine⟨ud,?_⟩;walk_at"f 4 t";exists⟨p4,_,rfl,.inl (SqL.of t4),rfl,rfl,?_⟩;refine⟨_,rfl,?_⟩;refine iteB0 (by rfl) ?_;exists j40 ?_;exists⟨b,p4,_,_,rfl,g _,SqL.of t4,rfl,fun N F D R _ J n X=>?_⟩;have n:F.length=1:=n;obtain⟨c,rfl⟩:=List.length_eq_one_iff.mp n;exact q N c D (B.trans (s2.trans (j.trans (s4.trans R)))) J (X 0 c _ _ rfl rfl rfl)
theorem wH(T:Txt K mg t)(B:FnOk P w K mg base CX0 3 t.zL t.zR ["words"] (sp_askedD)):FnOk P w K mg base (CX1 P w) 7 t.qm t.qp ["self","row"] (W8 t.jO t.jx):=by
 refine T.kz.okR Jm (fun R H Q E h=>?_) (fun F A m s H R Q E b h=>?_)
 ·obtain⟨d,r,C,x,rfl,D,e,y,q⟩:=h;rfl
 obtain⟨d,r,C,x,rfl,D,e,y,q⟩:=h;refine⟨_,(JK (js (i:=2) Jm.nd rfl (.inl rfl) (qi PySem.F.plainAttrs_str PySem.F.slot_str_split PySem.F.type_str_split qx (pv 1) (ja jm jb)))
  (JK (js (i:=3) Jm.nd rfl (.inl rfl) (J3 jb))
  (jD (kh ⟨rfl,rfl,rfl,rfl⟩ (jS (jo T.ye B b (ja (pv 2) jb))) (Qe rfl (jy (jp (i:=4) Jm.nd rfl (.inl rfl)) (jy (jp (i:=5) Jm.nd rfl (.inl rfl)) qj)))
   (jc (jI (PW.pt (yx (jh Jl (pv 4) jm (nomark _)) (Zb (Yu (Yr (Qn b) (pv 5) (Yt (pv 0) rfl))))))
    (jf jJ)
    jn)
   (jc (jI (PW.pt (yx (jh Jl (pv 4) jm (nomark _)) (Zb (jh zX (pv 5) (Jw (ow:=["limb"]) (ci:=[]) rfl (CompScope.of (defScope zg) ["self","row","words","asked","kind","value"] rfl rfl (by decide +kernel)) (Jv (by decide)) (jS (jt jA (jt jM (pv 3) je) je)) (fun _ _ _ _ _=>⟨(jp (i:=0) (Jg ["self","row","words","asked","kind","value"] rfl (by decide +kernel)) rfl (.inl rfl)),qh,(jt (X6 (K:=K) rfl) (pv 0) je)⟩)) (by with_unfolding_all rfl)))))
    (jf jJ)
    jn)
   (jf (jN (qi PySem.F.plainAttrs_list PySem.F.slot_list_append PySem.F.type_list_append Jn (pv 3) (ja (Qd (jh Jl (pv 4) jm (nomark _)) (yV (Qn b) (Yt (pv 0) rfl) (pv 5)) (pv 5)) jb))))))
   (jD (yb (PW.pt (yx (jh Jl (pv 4) jm (nomark _)) (Zb (Yu (Yr (Qn b) (pv 5) (Yt (pv 0) rfl))))))
    (jD (W3 PySem.F.excBase_ValueError ⟨rfl,rfl,rfl,rfl⟩ (by rfl) T.Yl T.zb))
    qz)))))),?_⟩
 refine qy (σ':=[some _,some _,none,none,none,none]) rfl ?_;have sz:(200:Nat)<sizeLine:=by decide
 have g:(Str.ofString " ")=⟨#[32]⟩:=by decide +kernel
 obtain⟨⟨G,L⟩,I⟩:=D;obtain⟨S,U,W,X,Y,Z⟩:=kN e
 with_reducible refine Jx ?_
 exists⟨rfl,?_⟩;exists⟨_,32,_,rfl,by rw[g],by decide,S,U,W,X,Y,?_⟩;rw[Z];walk_at"f w1 hw1 H1 s1 t1";walk_at"g";dsimp only;refine Jx ?_;exists⟨(by show 0<=sizeLine;lia),?_⟩;walk_at"f w2 hw2 H2 s2 t2";have n:=s1.trans s2;walk_at"g";dsimp only;refine kc ?_;exists⟨w1,x,rfl,s2 _ _ t1,e.e,fun p c z O u J=>?_⟩;have a:=n.trans O;refine⟨p,rfl,⟨_,SqL.of u⟩,?_⟩;refine j0U (xs:=[V.ref c]) 0 (by show 0<1;decide) (fun i o f=>IvE2 fun(j l:Option V)=>o=[some (.ref d),some (.str (lenT x)),some (.ref w1),some (.ref w2),j,l]/\f=z) ⟨_,_,rfl,rfl⟩ ?_ ?_
 ·rintro i o f _ ⟨j,l,rfl,rfl⟩;exact SqL.of u
 ·rintro i v o f hi M ⟨j,l,rfl,rfl⟩;have N:i=0:=by lia
  subst N;cases M;refine Qi (SqT.of J) ?_;refine .inl ?_;refine qy (σ':=[some (.ref d),some (.str (lenT x)),some (.ref w1),some (.ref w2),some (.str "name"),some (.str x)]) rfl ?_;refine QE ?_;exists iteD (fun _=>?_) (fun c=>ue rfl c);exists j05 ?_;exists⟨d,t.jO,G,_,_,rfl,a _ _ L,T.QI,T.J0,ZR,?_⟩;refine⟨r,_,rfl,DGet.k (k:=Sum.inr x) (a _ _ I),?_⟩;rw[y];refine⟨_,rfl,?_⟩;refine iteB1 rfl ?_;exact q _ a
theorem WK(T:Txt K mg t)(zJ:FnOk P w K mg base CX0 6 t.qY t.zW ["asked"] (sp_lengthD))(Qr:FnOk P w K mg base CX0 3 t.zL t.zR ["words"] (sp_askedD)):FnOk P w K mg base CX0 7 t.qm t.qp ["self","row"] (sp_sayD t.jO):=by
 specialize T.kz.ok Jm;obtain⟨d,R,b,pl,pp,bs,x,C,F,ls,ps,gs,hs,rfl,D,O,vb,B,S,p1,q⟩:=h;refine⟨_,(jc (js (i:=2) Jm.nd rfl (.inl rfl) (qi PySem.F.plainAttrs_str PySem.F.slot_str_split PySem.F.type_str_split qx (pv 1) (ja jm jb)))
  (jc (js (i:=3) Jm.nd rfl (.inl rfl) (J3 jb))
  (jc (QT PassesOwn.never rfl (jS (jo T.ye Qr hr (ja (pv 2) jb))) (Qe rfl (jy (jp (i:=4) Jm.nd rfl (.inl rfl)) (jy (jp (i:=5) Jm.nd rfl (.inl rfl)) qj)))
   (jc (jI (PW.pt (yx (jh Jl (pv 4) jm (nomark _)) (Zb (Yu (Yr (Qn hr) (pv 5) (Yt (pv 0) rfl))))))
    (jf jJ)
    jn)
   (jc (jI (PW.pt (yx (jh Jl (pv 4) jm (nomark _)) (Zb (jh zX (pv 5) (Jw (ow:=["limb"]) (ci:=[]) rfl (CompScope.of (defScope zg) ["self","row","words","asked","kind","value"] rfl rfl (by decide +kernel)) (Jv (by decide)) (jS (jt jA (jt jM (pv 3) je) je)) (fun _ _ _ _ _=>⟨(jp (i:=0) (Jg ["self","row","words","asked","kind","value"] rfl (by decide +kernel)) rfl (.inl rfl)),qh,(jt (X6 (K:=K) rfl) (pv 0) je)⟩)) (by with_unfolding_all rfl)))))
    (jf jJ)
    jn)
   (jf (jN (qi PySem.F.plainAttrs_list PySem.F.slot_list_append PySem.F.type_list_append Jn (pv 3) (ja (Qd (jh Jl (pv 4) jm (nomark _)) (yV (Qn hr) (Yt (pv 0) rfl) (pv 5)) (pv 5)) jb)))))))
  (jf (jw (j1T (jt j2K (JI (v:=.ref t.QG) (by rfl) T.j0i rfl) (jt jM (pv 2) je)) (zJ.mono (by decide)) hr T.zH.F.kp T.zH.B .nil pass0 (ja (pv 3) jb))))))),?_⟩
 refine jr (σ':=[some _,some _,none,none,none,none]) rfl ?_
 try dsimp only[cxOf,Cx.nox]
 have sz:(200:Nat)<sizeLine:=by decide
 have z:(Str.ofString " ")=⟨#[32]⟩:=by decide +kernel
 obtain⟨⟨U,X⟩,W⟩:=D;obtain⟨y1,y2,y3,y4,y5,y6⟩:=kN O;exists⟨rfl,?_⟩;exists⟨_,32,_,rfl,by rw[z],by decide,y1,y2,y3,y4,y5,?_⟩;rw[y6];walk_at"f w1 hw1 H1 s1 t1";exists⟨(by show 0<=sizeLine;lia),?_⟩;walk_at"f w2 hw2 H2 s2 t2";have G:=s1.trans s2;exists⟨w1,x,rfl,s2 _ _ t1,O.e,fun p c H3 J Y ec=>?_⟩;have I:=G.trans J;refine⟨p,rfl,⟨_,SqL.of Y⟩,?_⟩;have M:=J _ _ t2;have L:=J _ _ (s2 _ _ t1);have o:H w2=none:=none_of s1 hw2;have n1:w1≠w2:=jd t1 hw2;refine zC (xs:=[V.ref c]) (fun i N m=>IvE2 fun(r y:Option V)=>IvA5 (N=[some (.ref d),some (.str (lenT x)),some (.ref w1),some (.ref w2),r,y]) (Same H m) (m p=some (.lst [.ref c])) (m w1=some (.lst [.str "length",.str x])) (m c=some (.tup [.str "name",.str x])/\m w2=some (.lst (if i=0 then[]else[.ref b]))))
  ⟨_,_,rfl,I,Y,L,ec,M⟩ ?_ ?_ ?_
 ·rintro i N m _ ⟨r,y,rfl,l,g,_⟩;exact SqL.of g
 ·rintro i v N m Z ⟨r,y,rfl,l,g,n,j,f⟩;have i0:i=0:=by
   have:=(vx.mp Z).1;have:i<1:=this;lia
  subst i0;cases Z;rw[va rfl]at f;refine Qi (SqT.of j) ?_;exists iteD (fun _=>?_) (fun c=>ue rfl c);exists j05 ?_;exists⟨d,t.jO,U,_,_,rfl,l _ _ X,T.QI,T.J0,ZR,?_⟩;refine⟨R,_,rfl,DGet.k (k:=Sum.inr x) (l _ _ W),?_⟩;rw[vb];refine⟨_,rfl,?_⟩;refine iteB0 rfl ?_;exists iteD (fun c=>ue c (by decide +kernel)) (fun _=>?_);refine iteF ?_;exists⟨.inl ⟨rfl,_,SqL.of f⟩,?_⟩;exists iteD (fun _=>?_) (fun c=>ue rfl c);exists⟨d,t.jO,U,_,_,rfl,l _ _ X,T.QI,T.J0,ZR,?_⟩;exists⟨R,_,rfl,by have:=DGet.k (k:=Sum.inr x) (l _ _ W);rw[vb]at this;exact this,?_⟩;exists⟨w2,_,_,rfl,rfl,f,(by show 0<sizeLine;lia),?_⟩;exact⟨_,_,rfl,fun a u h=>(jg (jd h o)).trans (l _ _ h),(jg (qF g f (fun e=>by cases e))).trans g,(jg n1).trans n,(jg (qF j f (fun e=>by cases e))).trans j,ji⟩
 rintro σ' H4 ⟨r,y,rfl,l,g,n,j,f⟩;exists j22 ?_;exists ixLm (SqL.of n) (at0) ?_;exists⟨t.QG,_,_,t.qY,rfl,rfl,T.j0z,by rw[PyProof.Rows.KTD.datumAt,va (by decide +kernel)],?_⟩;exists⟨rfl,?_⟩;walk_at"g";exact⟨w2,b,pl,pp,C,F,ls,ps,gs,hs,rfl,f,B.same l,S,p1,fun H5 s5=>q H5 (l.trans s5)⟩
theorem wI(T:Txt K mg t):FnOk P w K mg base CX0 1 t.zk t.zn ["_law_cell"] (sp_textL):=by
 specialize T.YG.F.ok Q4;obtain⟨c,rfl,q⟩:=h;refine⟨_,(jc (js (i:=1) Q4.nd rfl (.inl rfl) (J3 (ja jm (ja (Jc qM jm (qS Ye (by rfl) T.j1e xA (ja (Jc j1P je (Jc Zy (Jc yT (pv 0) je) (Jc yw je je))) jb))) (ja jm (ja jm jb))))))
  (jc (Qg (jh Jl (Jc Zy (pv 0) je) je (nomark _))
   (jf (js (i:=1) Q4.nd rfl (.inl rfl) (Jc j3N (zf ZZ (pv 1) Za (Qf je)) (J3 (ja jm jb)))))
   jn)
  (jc (Qg (jh Jl (Jc Zy (pv 0) je) je (nomark _))
   (jf (jN (qi PySem.F.plainAttrs_list PySem.F.slot_list_append PySem.F.type_list_append Jn (pv 1) (ja jm jb))))
   jn)
  (jc (Qg (jh Jl (Jc Zy (pv 0) je) je (nomark _))
   (jf (jN (qi PySem.F.plainAttrs_list PySem.F.slot_list_append PySem.F.type_list_append Jn (pv 1) (ja jm jb))))
   jn)
  (jc (Qg (jh Jl (Jc Zy (pv 0) je) je (nomark _))
   (jf (QT PassesOwn.never rfl (KW (by rfl) T.XO (ja je jb)) (jp (i:=2) Q4.nd rfl (.inl rfl))
    (jf (jN (qi PySem.F.plainAttrs_list PySem.F.slot_list_append PySem.F.type_list_append Jn (pv 1) (ja (Jc qM (Jc qM (Jc qM jm (jt xV jm (pv 2))) jm) (jt xV jm (pv 2))) jb))))))
   jn)
  (jf (jw (qi PySem.F.plainAttrs_str PySem.F.slot_str_join PySem.F.type_str_join j2O jm (ja (pv 1) jb))))))))),?_⟩
 refine jr (σ':=[some _,none,none]) rfl ?_
 try dsimp only[cxOf,Cx.nox]
 have sz:(200000:Nat)<sizeLine:=by decide
 have D:0<=1+c/6%10^18:=by lia
 have F:1+c/6%10^18<=10^18:=by lia
 have nl:=yD D F;exists .inl ⟨_,rfl,kQ D F,?_⟩;have a0:(Str.ofString "part a raise arm 7 ").length=19:=by decide +kernel
 refine⟨_,_,rfl,rfl,?_,?_⟩
 ·show _+(tI _).length<=_;lia
 exists⟨(by show 4<=sizeLine;lia),?_⟩;walk_at"f 1 t";have t1:H1 p1=some (.lst ((rowsA (1+c/6%10^18)).map V.str)):=t1;generalize hn:1+c/6%10^18=n at *;exists⟨fun σ' a=>IvE1 fun(p:Addr)=>IvA3 (σ'=[some (.int c),some (.ref p),none]) (Same H a) (H p=none/\a p=some (.lst ((if c%6=1 then[("limbs arm 2" : Str),"part a raise leg 7 2"]else rowsA n).map V.str))),?_,?_⟩
 rotate_left
 ·exists iteD (fun e=>?_) (fun e=>?_)
  rotate_left
  ·walk_at"g";exact⟨p1,rfl,s1,hp1,by rw[vA e];exact t1⟩
  exists⟨p1,_,rfl,SqL.of t1,?_⟩;walk_at"f 2 t";exists⟨ud,?_⟩;walk_at"f 3 t";exists⟨p2,p3,_,_,rfl,rfl,s3 _ _ t2,t3,(by show 1+1<=sizeLine;lia),fun p4 o=>?_⟩;walk_at"g";have f:=s1.trans (s2.trans s3);exact⟨p4,rfl,fun b u h=>(jg (jd (f _ _ h) o)).trans (f _ _ h),none_of f o,by rw[va e];exact ji⟩
 rintro σ' H2 ⟨p,rfl,s2,hp,t2⟩;have z:∀(x:Str) (a:Hp) (L:List Str),Same H a->a p=some (.lst (L.map V.str))->Same H (upd a p (.lst (L.map V.str++[.str x])))/\upd a p (.lst (L.map V.str++[.str x])) p=some (.lst ((L++[x]).map V.str)):=fun x a L s' _=>⟨fun b u h=>(jg (jd h hp)).trans (s' _ _ h),by rw[ji,vi];rfl⟩
 have l4:(if c%6=1 then[("limbs arm 2" : Str),"part a raise leg 7 2"]else rowsA n).length<=4:=by
  split
  ·decide
  ·exact vB 4
 generalize M:(if c%6=1 then[("limbs arm 2" : Str),"part a raise leg 7 2"]else rowsA n)=L at *;exists⟨fun σ' a=>σ'=[some (.int c),some (.ref p),none]/\Same H a/\a p=some (.lst ((L++(if c%6=2 then[("part d side a b" : Str)]else[])).map V.str)),?_,?_⟩
 rotate_left
 ·exists iteD (fun e=>?_) (fun e=>?_)
  rotate_left
  ·walk_at"g";exact⟨rfl,s2,by rw[vA e,append_nil];exact t2⟩
  exists⟨.inl ⟨rfl,_,SqL.of t2⟩,?_⟩;exists⟨p,_,_,rfl,rfl,t2,by rw[vt];lia,?_⟩;obtain⟨l,m⟩:=z "part d side a b" _ _ s2 t2;exact⟨rfl,l,by rw[va e];exact m⟩
 rintro σ' H3 ⟨rfl,s3,t3⟩;exists⟨fun σ' a=>σ'=[some (.int c),some (.ref p),none]/\Same H a/\a p=some (.lst ((L++(if c%6=2 then[("part d side a b" : Str)]else if c%6=3 then["part d side a c"]else[])).map V.str)),?_,?_⟩
 rotate_left
 ·exists iteD (fun e=>?_) (fun e=>?_)
  rotate_left
  ·walk_at"g";exact⟨rfl,s3,by rw[vA e];exact t3⟩
  have J:¬c%6=2:=by lia
  rw[vA J,append_nil]at t3;exists⟨.inl ⟨rfl,_,SqL.of t3⟩,?_⟩;exists⟨p,_,_,rfl,rfl,t3,by rw[vt];lia,?_⟩;obtain⟨l,m⟩:=z "part d side a c" _ _ s3 t3;exact⟨rfl,l,by rw[vA J,va e];exact m⟩
 rintro σ' H4 ⟨rfl,N,I⟩;exists⟨fun σ' a=>IvE1 fun(j:Option V)=>IvA2 (σ'=[some (.int c),some (.ref p),j]) (Same H a/\a p=some (.lst ((rowsL (c%6) n).map V.str))),?_,?_⟩
 rotate_left
 ·exists iteD (fun e=>?_) (fun e=>?_)
  rotate_left
  ·exists⟨_,rfl,N,?_⟩;rw[I,<-M];unfold rowsL xtR;by_cases g:c%6=1
   ·rw[va g,va g,vA (by lia),vA (by lia),append_nil]
   ·rw[vA g,vA g,vA e]
  have g:¬c%6=1:=by lia
  rw[vA (by lia),vA (by lia),append_nil]at I;have W:L=rowsA n:=by rw[<-M,vA g]
  have X:rowsL (c%6) n=L++(xtR 4).take 4:=by
   rw[e,W];rfl
  exists⟨_,rfl,by lia,by lia,?_⟩;refine j0t (fun i O a=>IvE1 fun(j:Option V)=>IvA2 (O=[some (.int c),some (.ref p),j]) (Same H a/\a p=some (.lst ((L++(xtR 4).take i).map V.str)))) ⟨_,rfl,N,by rw[List.take_zero,append_nil];exact I⟩ ?_ ?_
  ·rintro i O a hi ⟨j,rfl,G,v⟩;have i4:i<4:=by lia
   have S:∀k:Nat,k<4->atI (Str.ofString "defg").cps.toList (0+(k:Int))=some (100+k)/\atI (Str.ofString "cdef").cps.toList (0+(k:Int))=some (99+k)/\(xtR 4)[k]?=some ((Str.ofString "part ")++(⟨#[100+k]⟩:Str)++(Str.ofString " again 1000000000000000000 ")++(⟨#[99+k]⟩:Str)):=by decide +kernel
   obtain⟨Y,Z,g3⟩:=S i i4;exists⟨.inl ⟨rfl,_,SqL.of v⟩,?_⟩;exists⟨_,_,_,rfl,rfl,(by decide +kernel),Y,?_⟩;have C:(Str.ofString "part ").length=5:=by decide +kernel
   have r:(Str.ofString " again 1000000000000000000 ").length=27:=by decide +kernel
   have d:∀c:Nat,(⟨#[c]⟩:Str).length=1:=fun _=>rfl
   refine⟨_,_,rfl,rfl,by rw[C,d];lia,?_⟩;exists⟨_,_,rfl,rfl,by rw[Str.length_append,C,d,r];lia,?_⟩;exists⟨_,_,_,rfl,rfl,(by decide +kernel),Z,?_⟩;refine⟨_,_,rfl,rfl,by rw[Str.length_append,Str.length_append,C,d,r,d];lia,?_⟩;exists⟨p,_,_,rfl,rfl,v,by rw[vt,vm,vh];lia,?_⟩;obtain⟨l,m⟩:=z _ _ _ G v;exact⟨_,rfl,l,by rw[m,List.append_assoc,<-take_snoc g3]⟩
  ·rintro σ' a ⟨j,rfl,G,v⟩;walk_at"g";exact⟨_,rfl,G,by rw[X];exact v⟩
 rintro σ' U ⟨j,rfl,s5,t5⟩;have R:=Kd (c:=c%6) D F;exists⟨rfl,?_⟩;exists⟨_,p,_,rfl,rfl,SqL.of t5,?_,?_⟩
 ·have sl:=j3a (ys:=rowsL (c%6) n) (B:=4000) fun y hy=>(R.r y hy).2.1
  have n2:=R.n2;have le:(Str.ofString "\n").length=1:=by decide +kernel
  rw[le];lia
 exact q U s5
theorem Xj(T:Txt K mg t)(l:FnOk P w K mg base CX0 1 t.QN t.QQ ["text","signs"] (Ws.Zg)):FnOk P w K mg base CX0 2 t.Qv t.Qx ["text"] (Ws.QF):=by
 refine T.Qo.F.ok Xx (fun m H Q E h=>?_) (fun j A b s H m Q E k h=>?_)
 ·obtain⟨x,rfl,c,q⟩:=h;rfl
 obtain⟨x,rfl,c,q⟩:=h;refine⟨_,(jf (jw (j1S (j1U Z8 Z8 je (jv jR (by rfl) T.qQ JX (ja (pv 0) jb)) je) (Xq (jo T.Zn l k (ja (pv 0) (ja (JI (by rfl) T.j0j T.j0S) jb))))))),?_⟩;refine jr (σ':=[some _]) rfl ?_
 try dsimp only[cxOf,Cx.nox]
 have n:(200:Nat)<sizeLine:=by decide
 exists⟨_,_,rfl,⟨by lia,rfl⟩,?_⟩;exists iteD (fun f=>?_) (fun f=>?_)
 ·exists iteD (fun i=>?_) (fun i=>?_)
  ·exists⟨_,_,rfl,c,fun d g=>?_⟩;have e:Ws.isW x=Ws.among x Ws.lets:=by
    unfold Ws.isW;rw[vK (show 1<=x.length/\x.length<=8 by lia),Bool.true_and]
   have a:=q d g;rw[e]at a;exact a
  ·have e:Ws.isW x=false:=by
    unfold Ws.isW;rw[vL (show¬(1<=x.length/\x.length<=8) by lia),Bool.false_and]
   have a:=q H (Same.refl _);rw[e]at a;exact a
 ·exists iteF ?_;have e:Ws.isW x=false:=by
   unfold Ws.isW;rw[vL (show¬(1<=x.length/\x.length<=8) by lia),Bool.false_and]
  have a:=q H (Same.refl _);rw[e]at a;exact a
theorem yu(T:Txt K mg t):FnOk P w K mg base CX0 1 t.jQ t.j9 ["self","row"] (sp_xi1 t.ju):=by
 specialize T.yG.ok yC;obtain⟨e,r,rfl,g,i,c,q⟩:=h;refine⟨_,(jc (jN (yU PySem.F.excBase_ValueError T.Q5 (by rfl) T.Qb (ja (pv 0) (ja (Y8 (qk jm (qk (kZ (pv 1)) (qk jm wR)))) jb))))
  (jf (yX (pv 0) (pv 1)))),?_⟩
 refine jr (σ':=[some _,some _]) rfl ?_
 try dsimp only[cxOf,Cx.nox]
 have n:(200:Nat)<sizeLine:=by decide
 have k:=yD g i;unfold tI at k;have l:(Str.empty++Str.ofString "row ").length<=60:=by decide +kernel
 have m:(Str.ofString " can't stand where it does").length<=60:=by decide +kernel
 exists wV ?_;exists kb (Qj (by lia) (Zz (Kb ?_)));exists .inl ⟨r,rfl,kQ g i,_,rfl,by rw[Str.length_append];lia,Qj (by rw[Str.length_append,Str.length_append];lia) (ka ⟨by rw[Str.length_append,Str.length_append];lia,?_⟩)⟩;exists⟨e,t.ju,none,_,rfl,c,T.qU.F,T.qU.ve,?_⟩;dsimp only;refine Kc ?_;exists⟨e,t.ju,rfl,T.qU.F,T.QL,.inl ⟨c,fun d a=>?_⟩⟩;have f:d≠e:=fun z=>by rw[z,c]at a;cases a
 exact q d _ (fun b u j h=>(jg (jd h a)).trans ((jg j).trans h)) a f ((jg (Ne.symm f)).trans ji) ji
theorem Xh(T:Txt K mg t)(f:FnOk P w K mg base CX0 2 t.QP t.qR ["text","most"] (Ws.sp_number_of)):FnOk P w K mg base CX0 3 t.ZN t.ZP ["text","least"] (sp_boundedT):=by
 specialize T.ZK.F.ok Kg;obtain⟨x,d,rfl,j,q⟩:=h;refine⟨_,(jc (js (i:=2) Kg.nd rfl (.inl rfl) (wP (f.mono (by decide)) hr (by rfl) T.YL T.Zo.kp T.We .nil pass0 (ja (pv 0) (ja je jb))))
  (jc (jI (PW.pt (Qh (jh Qc (pv 2) jC (nomark _)) (QC (qD (yY Z8 Z8 (pv 1) (pv 2) (Jc yw je je))))))
   (jf (jw jC))
   jn)
  (jf (jw (pv 2))))),?_⟩
 refine jr (σ':=[some _,some _,none]) rfl ?_
 try dsimp only[cxOf,Cx.nox]
 exists⟨x,19,rfl,j,fun k g=>?_⟩;have a:=q _ g;unfold numW at a;rcases Ws.j2R x 19 with e | ⟨n,e⟩
 ·rw[e]at a|-;exists⟨rfl,_,rfl,?_⟩;refine iteB1 (vK rfl) ?_;walk_at"g";exact a
 ·rw[e]at a|-;dsimp only at a;exists⟨rfl,_,rfl,?_⟩;refine iteB0 (by simp) ?_;exists iteD (fun b=>?_) (fun b=>?_)
  ·exists iteN (fun c=>?_) (fun c=>?_)
   ·walk_at"g";rw[vA (fun z=>c z.2)]at a;exact a
   ·walk_at"g";rw[va ⟨b,c⟩]at a;exact a
  ·walk_at"g";rw[vA (fun z=>b z.1)]at a;exact a
theorem WQ(T:Txt K mg t)(F:FnOk P w K mg base CX0 2 t.Qv t.Qx ["text"] (Ws.QF))(o:FnOk P w K mg base CX0 3 t.ZN t.ZP ["text","least"] (sp_boundedT)):FnOk P w K mg base CX0 4 t.yo t.yq ["wanted","text","limbs","parts"] (sp_value_ofT):=by
 specialize T.ku.F.ok YQ;obtain⟨a,x,v,y,L,P,rfl,n,z,B,C,q⟩:=h;refine⟨_,(jc (jI (jh Jl (pv 0) jm (nomark _))
   (jf (jw (jo T.ZK o hr (ja (pv 1) (ja je jb)))))
   jn)
  (jc (jI (jh QA (pv 0) (zZ (ja jm (ja jm jb))) (by with_unfolding_all rfl))
   (jf (jw (jo T.ZK o hr (ja (pv 1) (ja je jb)))))
   jn)
  (jc (jI (jh Jl (pv 0) jm (nomark _))
   (jf (jw (Qd (QB (jo T.Qo F hr (ja (pv 1) jb))) (pv 1) jC)))
   jn)
  (jc (js (i:=4) YQ.nd rfl (.inl rfl) (Qd (jh Jl (pv 0) jm (nomark _)) (pv 2) (pv 3)))
  (jf (jw (Qd (Yu (wN (Qn hr) (pv 1) (pv 4))) (pv 1) jC))))))),?_⟩
 refine jr (σ':=[some _,some _,some _,some _,none]) rfl ?_
 try dsimp only[cxOf,Cx.nox]
 have G:(200:Nat)<sizeLine:=by decide
 have b:=fun r s=>q r s
 unfold valW at b;by_cases f:a = "height"
 ·rw[va f]at b;exists iteB1 (vK f) ?_;walk_at"g";exact⟨x,0,rfl,n,fun H1 s1=>b _ s1⟩
 rw[vA f]at b;exists iteB0 (vL f) ?_;exists⟨uc,?_⟩;walk_at"f p hp H1 s1 t1";refine⟨p,_,rfl,.inr (SqT.of t1),rfl,rfl,?_⟩;have D:inV (.str a) [.str "beats",.str "times"]=decide (a = "beats"\/a = "times"):=by
  rcases C with rfl | rfl | rfl | rfl | rfl | rfl<;>decide +kernel
 rw[D];by_cases g:a = "beats"\/a = "times"
 ·rw[va g]at b;exists iteB1 (vK g) ?_;walk_at"g";exact⟨x,1,rfl,n,fun u m=>b _ (s1.trans m)⟩
 rw[vA g]at b;exists iteB0 (vL g) ?_;walk_at"g";by_cases j:a = "word"
 ·rw[va j]at b;refine iteB1 (vK j) ?_;exists⟨x,rfl,n,fun u m=>?_⟩;have c:=b _ (s1.trans m);cases e:Ws.isW x with
  | true=>
   rw[e,va rfl]at c;exists iteT ?_;walk_at"g";exact c
  | false=>
   rw[e,vA (by simp)]at c;exists iteF ?_;walk_at"g";exact c
 rw[vA j]at b;refine iteB0 (vL j) ?_;walk_at"g";by_cases l:a = "limb"
 ·rw[va l]at b;refine iteB1 (vK l) ?_;exists⟨v,_,rfl,DGet.k (k:=Sum.inr x) (s1 _ _ z),?_⟩;rw[j2Q];walk_at"g";have c:=b _ s1;refine iteD (fun d=>?_) (fun d=>?_)
  ·rw[va d]at c;walk_at"g";exact c
  ·rw[vA d]at c;walk_at"g";exact c
 ·rw[vA l]at b;refine iteB0 (vL l) ?_;exists⟨y,_,rfl,DGet.k (k:=Sum.inr x) (s1 _ _ B),?_⟩;rw[Wc];walk_at"g";have c:=b _ s1;refine iteD (fun d=>?_) (fun d=>?_)
  ·rw[va d]at c;walk_at"g";exact c
  ·rw[vA d]at c;walk_at"g";exact c
theorem Kv(T:Txt K mg t):FnOk P w K mg base CX0 1 t.Q0 t.Q2 ["kind","words","parts"] (sp_names_formT):=by
 specialize T.yF.F.ok Kz;obtain⟨kind,l,d,ws,P,rfl,r,c,M,B,q⟩:=h;refine⟨_,(jc (jI (qD (yY Z8 Z8 (jt X4 (JI (v:=.ref t.JL) (by rfl) T.kA rfl) (pv 0)) (jv jR (by rfl) T.qQ JX (ja (pv 1) jb)) (jt X4 (JI (v:=.ref t.JC) (by rfl) T.zP rfl) (pv 0))))
   (jf (jw jC))
   jn)
  (jc (jI (qD (QB (jv (Yd rfl) (by rfl) T.j1a xy (ja (Jw (ow:=["word"]) (ci:=[2]) rfl (CompScope.of (defScope Q3) ["kind","words","parts"] rfl rfl (by decide +kernel)) (Jv (by decide)) (jS (pv 1)) (fun _ _ _ _ _=>⟨(jp (i:=0) (Jg ["kind","words","parts"] rfl (by decide +kernel)) rfl (.inl rfl)),qh,(j3R (wN (Qn hr) (pv 0) (pv 1)))⟩)) jb))))
   (jf (jw jC))
   jn)
  (jf (jw (zZ (ja (pv 0) (ja (qS Z6 (by rfl) T.XQ Wi (ja (pv 1) jb)) jb))))))),?_⟩
 refine jr (σ':=[some _,some _,some _]) rfl ?_
 try dsimp only[cxOf,Cx.nox]
 have L:(20000:Nat)<sizeLine:=by decide
 obtain⟨D,o,I,J,F⟩:=j0K (ws:=ws) (P:=P) r;rw[F]at q;obtain⟨m,G⟩:=q;exists⟨_,kind,_,D,rfl,rfl,T.kL,I,?_⟩;exists⟨_,_,rfl,.inl ⟨_,SqL.of c,rfl⟩,?_⟩;rw[vt];exists iteD (fun f=>?_) (fun f=>?_)
 rotate_left
 ·walk_at"g";exact m (vA (fun z=>f z.1.1)) _ (Same.refl _)
 exists⟨_,kind,_,o,rfl,rfl,T.Jh,J,?_⟩;exists iteN (fun g=>?_) (fun g=>?_)
 ·walk_at"g";exact m (vA (fun z=>g z.1.2)) _ (Same.refl _)
 exists⟨l,rfl,⟨_,SqL.of c⟩,?_⟩;refine jZ (xs:=ws.map V.str) (fun i e a=>e=((ws.take i).map fun w=>decide (w∈P)).map V.bl/\H=a) ⟨rfl,rfl⟩ ?_ ?_ ?_
 ·rintro i e a _ ⟨rfl,rfl⟩;exact SqL.of c
 ·rintro i v e a u ⟨rfl,rfl⟩;rw[vv]at u;obtain⟨x,y,rfl⟩:=vf.mp u;have o:=(vx.mp y).1;refine JJ (σ':=[none,some _]) rfl ?_;exists iteT ?_;exists⟨d,_,rfl,DGet.k (k:=Sum.inr x) B,?_⟩;rw[Wc];refine⟨by rw[vt,vt,vh];lia,?_,rfl⟩;rw[take_snoc y,vi,vi];rfl
 rintro e a ⟨rfl,rfl⟩;rw[show(ws.map V.str).length=ws.length from vt _,v7];refine⟨by rw[vt,vt];lia,?_⟩;walk_at"f p hp H1 s1 e1";exists⟨p,_,rfl,SqL.of e1,?_⟩;have n:((ws.map fun w=>decide (w∈P)).all id=true)↔∀w∈ws,w∈P:=by
  rw[all_eq_true];constructor
  ·intro h w j;exact of_decide_eq_true (h _ (vO.mpr ⟨w,j,rfl⟩))
  ·intro h b C;obtain⟨w,j,rfl⟩:=vO.mp C;exact vK (h w j)
 cases ea:(ws.map fun w=>decide (w∈P)).all id with
 | false=>
  exists iteT ?_;walk_at"g";exact m (vA (fun z=>by rw[n.mpr z.2]at ea;cases ea)) _ s1
 | true=>
  exists iteF ?_;exists⟨l,_,rfl,.inl ⟨SqL.of (s1 _ _ c),?_⟩⟩;walk_at"f 2 e";exists⟨uc,?_⟩;walk_at"f 3 e";refine G _ (va ⟨⟨f,g⟩,n.mp ea⟩) p3 H3 (s1.trans (s2.trans s3)) ?_;rcases r with rfl | rfl
  ·exact⟨p2,e3,s3 _ _ e2⟩
  ·exact⟨p2,e3,s3 _ _ e2⟩
theorem Xi(T:Txt K mg t)(ym:FnOk P w K mg base CX0 4 t.yo t.yq ["wanted","text","limbs","parts"] (sp_value_ofT))(zI:FnOk P w K mg base CX0 1 t.Q0 t.Q2 ["kind","words","parts"] (sp_names_formT)):FnOk P w K mg base CX0 5 t.Yb t.Yh ["kind","words","limbs","parts"] (sp_form_ofT):=by
 specialize T.KE.F.ok Kh;obtain⟨kind,l,d1,M,ws,L,P,rfl,m,wl,wc,e1,N,k,G⟩:=h;refine⟨_,(jc (jI (jh j1Q (pv 0) (JI (v:=.ref t.JC) (by rfl) T.zP rfl) (by with_unfolding_all rfl))
   (jf (jw (jo T.yF zI hr (ja (pv 0) (ja (pv 1) (ja (pv 3) jb))))))
   jn)
  (jc (jI (PW.pt (Qh (jh j0O (pv 0) (JI (v:=.ref t.zx) (by rfl) T.wk rfl) (by with_unfolding_all rfl)) (QC (jh Z9 (jv jR (by rfl) T.qQ JX (ja (pv 1) jb)) (jv jR (by rfl) T.qQ JX (ja (jt X5 (JI (v:=.ref t.zx) (by rfl) T.wk rfl) (pv 0)) jb)) (nomark _)))))
   (jf (jw jC))
   jn)
  (jc (wU (i:=4) (ow:=["wanted","word"]) (ci:=[2,3]) rfl (CompScope.of (defScope ZY) ["kind","words","limbs","parts","values"] rfl rfl (by decide +kernel)) (wy (by decide) (by decide)) Kh.nd rfl (.inl rfl) (j02 (by rfl) T.Wg (ja (jt X5 (JI (v:=.ref t.zx) (by rfl) T.wk rfl) (pv 0)) (ja (pv 1) jb))) (fun _ _ _ _ _=>⟨(Qe rfl (jy (jp (i:=0) (Jg ["kind","words","limbs","parts","values"] rfl (by decide +kernel)) rfl (.inl rfl)) (jy (jp (i:=1) (Jg ["kind","words","limbs","parts","values"] rfl (by decide +kernel)) rfl (.inl rfl)) qj))),qh,(jo T.ku ym hr (ja (pv 0) (ja (pv 1) (ja (pv 2) (ja (pv 3) jb)))))⟩))
  (jf (jw (Qd (jh QA jC (pv 4) (by with_unfolding_all rfl)) jC (Jc j2W (zZ (ja (pv 0) jb)) (qS Z6 (by rfl) T.XQ Wi (ja (pv 4) jb))))))))),?_⟩
 refine jr (σ':=[some _,some _,some _,some _,none]) rfl ?_
 try dsimp only[cxOf,Cx.nox]
 have sz:(20000:Nat)<sizeLine:=by decide
 by_cases d:kind = "row"\/kind = "side"
 ·have D:PyProof.Rows.KTD.inKeys kind MN=true:=by
   rcases d with rfl | rfl<;>decide +kernel
  have C:formW kind ws L P=namsW kind ws P:=va d;rw[C]at k G;exists⟨_,_,_,rfl,rfl,T.Jh,?_⟩;exists iteB1 D ?_;walk_at"g";exact⟨kind,l,M,ws,P,rfl,d,m,wl,N,k,G⟩
 obtain⟨D,O⟩:=j0u (ws:=ws) (L:=L) (P:=P) d;exists⟨_,_,_,rfl,rfl,T.Jh,?_⟩;exists iteB0 D ?_;exists⟨_,_,_,rfl,rfl,T.wA,?_⟩;walk_at"g";rcases O with⟨F,fn⟩ | ⟨c,O⟩
 ·refine iteB1 (by show(!PyProof.Rows.KTD.inKeys kind FT)=true;rw[F];rfl) ?_;walk_at"g";exact k fn _ (Same.refl _)
 have l3:=O.n;refine iteB0 (by show(!PyProof.Rows.KTD.inKeys kind FT)=false;rw[O.k];rfl) ?_;exists⟨_,_,rfl,.inl ⟨_,SqL.of m,rfl⟩,?_⟩;exists⟨_,kind,_,c,rfl,rfl,T.wA,O.d,by lia,fun b o=>?_⟩;exists⟨_,_,rfl,.inr ⟨_,o _,rfl⟩,?_⟩;rw[vt,vt];exists iteN (fun z=>?_) (fun X=>?_)
 ·walk_at"g";exact k (O.o (fun z'=>z (by lia))) _ (Same.refl _)
 have X:ws.length=c.length:=by lia
 obtain⟨Y,Z⟩:=O.v X;exists⟨_,kind,_,c,rfl,rfl,T.wA,O.d,by lia,fun b o=>?_⟩;exists⟨b,l,_,_,rfl,o _,SqL.of m,?_⟩;have J:((c.zip ws).map fun p=>valW p.1 p.2 L P).length=c.length:=by rw[vt,List.length_zip];lia
 generalize R:((c.zip ws).map fun p=>valW p.1 p.2 L P)=rs at Y Z J;have I:∀i a w,c[i]?=some a->ws[i]?=some w->rs[i]?=some (valW a w L P):=fun i a w n q=>by
  rw[<-R,vv,(List.getElem?_zip_eq_some (z:=(a,w))).mpr ⟨n,q⟩];rfl
 have fl:rs.all flatV=true:=by
  rw[all_eq_true];intro x W;rw[<-R]at W;obtain⟨p,_,rfl⟩:=vO.mp W;exact j2h
 refine KM (xs:=c.map V.str) (zs:=ws.map V.str) (fun i r y=>r=rs.take i/\Same H y) (by rw[vt,vt];lia) ⟨rfl,Same.refl _⟩ ?_ ?_ ?_
 ·rintro i r y _ ⟨rfl,g⟩;exact⟨o _,SqL.of (g _ _ m)⟩
 ·rintro i u v r y P' a0 S U ⟨rfl,g⟩ s2 tP;rw[vv]at S U;obtain⟨a,n,rfl⟩:=vf.mp S;obtain⟨w,q,rfl⟩:=vf.mp U;have j:=I i a w n q;have hi:=(vx.mp j).1;have e:=g.trans s2;refine JJ (σ':=[none,none,some _,some _]) rfl ?_;refine Qi (SqT.of tP) ?_;exists iteT ?_;exists⟨a,w,d1,M,L,P,rfl,wc w (vj q),e _ _ e1,e _ _ N,O.w a (vj n),fun H3 s3=>?_⟩;exact⟨by rw[vh];lia,(take_snoc j).symm,e.trans s3⟩
 rintro r H1 ⟨rfl,g⟩;rw[vt,show c.length=rs.length by lia,v7];refine⟨by lia,?_⟩;walk_at"f p hp H2 s2 t2";exists⟨p,_,rfl,.inl (SqL.of t2),rfl,fl,?_⟩;walk_at"g";cases ei:inV .non rs with
 | true=>
  refine iteB1 rfl ?_;walk_at"g";exact k (Y ei) _ (g.trans s2)
 | false=>
  refine iteB0 rfl ?_;exists⟨ud,?_⟩;walk_at"f 3 t";exists⟨p,_,rfl,.inl ⟨SqL.of (s3 _ _ t2),?_⟩⟩;walk_at"f 4 t";exists⟨p3,p4,_,_,rfl,rfl,SqT.of (s4 _ _ t3),SqT.of t4,by simp,by show 1+rs.length<=sizeLine;lia,fun z=>ue z (fun z=>by rw[z]at J;simp at J;lia),fun _=>?_⟩;walk_at"f 5 t";obtain⟨f,C,B⟩:=Z ei;exact G f C p5 H5 (g.trans (s2.trans (s3.trans (s4.trans s5)))) (B _ _ t5)
theorem Xl(T:Txt K mg t)(M:FnOk P w K mg base CX0 2 t.Qv t.Qx ["text"] (Ws.QF))(W:FnOk P w K mg base CX0 5 t.Yb t.Yh ["kind","words","limbs","parts"] (sp_form_ofT)):FnOk P w K mg base CX0 6 t.ZO t.ZQ ["words","limbs","parts"] (sp_part_ofT):=by
 specialize T.ZL.F.ok Kj;obtain⟨l,C,u,U,L,P,rfl,b,S,y,D,v,e,p⟩:=h;refine⟨_,(jc (jI (PW.pt (Qh (jh j4h (jv jR (by rfl) T.qQ JX (ja (pv 0) jb)) je (nomark _)) (Qh (jh Z9 (jt jM (pv 0) je) jm (nomark _)) (Qh (qD (QB (jo T.Qo M hr (ja (jt jM (pv 0) je) jb)))) (QC (Yu (wN (Qn hr) (jt jM (pv 0) je) (pv 2))))))))
   (jf (jw jC))
   jn)
  (jc (js (i:=3) Kj.nd rfl (.inl rfl) (jo T.KE W hr (ja (jt jM (pv 0) je) (ja (zf ZZ (pv 0) (Qf je) Za) (ja (pv 1) (ja (pv 2) jb))))))
  (jf (jw (Qd (jh Qc (pv 3) jC (nomark _)) jC (zZ (ja (jt jM (pv 0) je) (ja (pv 3) jb)))))))),?_⟩
 refine jr (σ':=[some _,some _,some _,none]) rfl ?_
 try dsimp only[cxOf,Cx.nox]
 have Y:(20000:Nat)<sizeLine:=by decide
 exists⟨_,_,rfl,.inl ⟨_,SqL.of b,rfl⟩,?_⟩;rw[vt];exists iteD (fun c=>?_) (fun c=>?_)
 ·walk_at"g";exact e (Xn (by lia)) _ (Same.refl _)
 obtain⟨k,x,kind,r,rfl⟩:∃k x kind r,U=k::x::kind::r:=Rm.three (by lia);have R:partW (k::x::kind::r) L P=if k = "part"/\Ws.isW x=true/\x∉P then(formW kind r L P).map fun f=>(x,f)else none:=rfl
 rw[R]at e p;exists ixLm (SqL.of b) (qZ (j:=0) rfl) ?_;walk_at"g";by_cases n:k = "part"
 rotate_left
 ·refine iteB1 (by show(!decide _)=true;rw[vL n];rfl) ?_;walk_at"g";exact e (vA (fun z=>n z.1)) _ (Same.refl _)
 refine iteB0 (by show(!decide _)=false;rw[vK n];rfl) ?_;exists ixLm (SqL.of b) (qZ (j:=1) rfl) ?_;exists⟨x,rfl,y x (by simp),fun X g=>?_⟩;cases wx:Ws.isW x with
 | false=>
  exists iteT ?_;walk_at"g";exact e (vA (fun z=>by rw[wx]at z;cases z.2.1)) _ g
 | true=>
  exists iteF ?_;exists ixLm (SqL.of (g _ _ b)) (qZ (j:=1) rfl) ?_;exists⟨u,_,rfl,DGet.k (k:=Sum.inr x) (g _ _ v),?_⟩;rw[Wc];exists iteD (fun d=>?_) (fun N=>?_)
  ·walk_at"g";exact e (vA (fun z=>z.2.2 d)) _ g
  rw[va ⟨n,wx,N⟩]at e p;exists ixLm (SqL.of (g _ _ b)) (qZ (j:=2) rfl) ?_;exists⟨l,_,rfl,SqL.of (g _ _ b),?_⟩;walk_at"f 2 t";walk_at"g";have a:=g.trans s2;have o:cutV ((k::x::kind::r).map V.str) (some 3) none=r.map V.str:=by
   unfold cutV;simp[HT.sIx];exact take_of_length_le (by simp)
  rw[o]at t2;refine⟨kind,p2,C,u,r,L,P,rfl,t2,by simp at S;lia,fun w J=>y w (by simp[J]),a _ _ D,a _ _ v,fun G B q=>?_,fun f F O B q I=>?_⟩
  ·exists⟨rfl,_,rfl,?_⟩;refine iteB1 (vK rfl) ?_;walk_at"g";exact e (by rw[G];rfl) _ (a.trans q)
  ·have m:=a.trans q;exists⟨rfl,_,rfl,?_⟩;refine iteB0 (by simp) ?_;exists ixLm (SqL.of (m _ _ b)) (qZ (j:=1) rfl) ?_;exists⟨uc,?_⟩;walk_at"f 4 t";exact p (x,f) (by rw[F];rfl) p4 H4 (m.trans s4) ⟨O,t4,FormAt.same s4 I⟩
theorem WO(T:Txt K mg t)(jU:FnOk P w K mg base CX0 2 t.Qv t.Qx ["text"] (Ws.QF))(Y:FnOk P w K mg base CX0 3 t.ZN t.ZP ["text","least"] (sp_boundedT)):FnOk P w K mg base CX0 4 t.zN t.zU ["words"] (sp_limbs_ofT):=by
 specialize T.yf.F.ok ZH;obtain⟨l,R,rfl,I,wn,wl,O,o,qs⟩:=h;refine⟨_,(jc (js (i:=1) ZH.nd rfl (.inl rfl) (WU (pv 0) (Qf je) (Qf je)))
  (jc (wU (i:=2) (ow:=["word"]) (ci:=[]) rfl (CompScope.of (defScope zh) ["words","names","heights"] rfl rfl (by decide +kernel)) (Jv (by decide)) ZH.nd rfl (.inl rfl) (jS (WU (pv 0) (Qf je) (Qf je))) (fun _ _ _ _ _=>⟨(jp (i:=0) (Jg ["words","names","heights"] rfl (by decide +kernel)) rfl (.inl rfl)),qh,(jo T.ZK Y hr (ja (pv 0) (ja je jb)))⟩))
  (jc (jI (PW.pt (Qh (jh Z9 (jt jM (pv 0) je) jm (nomark _)) (Qh (qD (yY Z8 Z8 je (jv jR (by rfl) T.qQ JX (ja (pv 1) jb)) je)) (Qh (jh Z9 (jv jR (by rfl) T.qQ JX (ja (pv 2) jb)) (jv jR (by rfl) T.qQ JX (ja (pv 1) jb)) (nomark _)) (QC (jh QA jC (pv 2) (by with_unfolding_all rfl)))))))
   (jf (jw jC))
   jn)
  (jc (jI (PW.pt (Qh (qD (QB (jv (Yd rfl) (by rfl) T.j1a xy (ja (Jw (ow:=["name"]) (ci:=[]) rfl (CompScope.of (defScope zh) ["words","names","heights"] rfl rfl (by decide +kernel)) (Jv (by decide)) (jS (pv 1)) (fun _ _ _ _ _=>⟨(jp (i:=0) (Jg ["words","names","heights"] rfl (by decide +kernel)) rfl (.inl rfl)),qh,(jo T.Qo jU hr (ja (pv 0) jb))⟩)) jb)))) (QC (jh Z9 (Xo rfl (by rfl) T.qQ (by rfl) T.j4a (pv 1)) (jv jR (by rfl) T.qQ JX (ja (pv 1) jb)) (nomark _)))))
   (jf (jw jC))
   jn)
  (jf (jw (Xp rfl (by rfl) T.j1c (by rfl) T.Wg (ja (pv 1) (ja (pv 2) jb))))))))),?_⟩
 refine jr (σ':=[some _,none,none]) rfl ?_
 try dsimp only[cxOf,Cx.nox]
 have sz:(20000:Nat)<sizeLine:=by decide
 obtain⟨k,r,rfl⟩:∃k r,R=k::r:=by
  cases R with
  | nil=>exact ue rfl wn
  | cons k r=>exact⟨k,r,rfl⟩
 rw[vT]at wl;exists W1 ?_;exists⟨rfl,l,_,1,rfl,rfl,SqL.of I,?_⟩;walk_at"f 1 t";have c1:ev (((k::r).map V.str).drop 1)=(ev r).map V.str:=xN _ r;have c2:ev (((k::r).map V.str).drop 2)=(ev (r.drop 1)).map V.str:=by
  rw[<-xN,List.map_drop];rfl
 rw[c1]at t1;exists W1 ?_;exists⟨rfl,l,_,2,rfl,rfl,SqL.of (s1 _ _ I),?_⟩;walk_at"f 2 t";rw[c2]at t2;have L:=s1.trans s2;have n1:(ev r).length<=5000:=vZ (ww r) (by lia);have n2:(ev (r.drop 1)).length<=5000:=vZ (ww _) (by rw[length_drop];lia);have m1:∀x∈ev r,x.length<=200:=fun x e=>O x (vp _ (xO e))
 have m2:∀x∈ev (r.drop 1),x.length<=200:=fun x e=>O x (vp _ (List.mem_of_mem_drop (xO e)))
 have G:=@xZ k r;have D:=@j0D k r;have S:=@x9 k r;generalize ev r=ns at *;generalize ev (r.drop 1)=hs at *;exists⟨p2,rfl,⟨_,SqL.of t2⟩,?_⟩;refine jZ (xs:=hs.map V.str) (fun i f g=>f=(hs.take i).map (fun h=>oI (numW h 0))/\Same H2 g) ⟨rfl,Same.refl _⟩ ?_ ?_ ?_
 ·rintro i f g _ ⟨rfl,y⟩;exact SqL.of (y _ _ t2)
 ·rintro i v f g u ⟨rfl,y⟩;rw[vv]at u;obtain⟨x,e,rfl⟩:=vf.mp u;have hi:=(vx.mp e).1;refine JJ (σ':=[none]) rfl ?_;exists iteT ?_;exists⟨x,0,rfl,m2 x (vj e),fun H4 s4=>?_⟩;refine⟨by rw[vt,vh];lia,?_,y.trans s4⟩;rw[take_snoc e,vi];rfl
 rintro f H3 ⟨rfl,y⟩;rw[show(hs.map V.str).length=hs.length from vt _,v7];refine⟨by rw[vt];lia,?_⟩;walk_at"f 4 t";have B:=y.trans s4;have b:=L.trans B;have n:=B _ _ (s2 _ _ t1);exists ixLm (SqL.of (b _ _ I)) (qZ (j:=0) rfl) ?_;walk_at"g";by_cases F:k = "limbs"
 rotate_left
 ·refine iteB1 (by show(!decide _)=true;rw[vL F];rfl) ?_;walk_at"g";exact o (D fun z=>F z.1) _ b
 refine iteB0 (by show(!decide _)=false;rw[vK F];rfl) ?_;exists⟨_,_,rfl,.inl ⟨_,SqL.of n,rfl⟩,?_⟩;rw[vt];exists iteD (fun d1=>?_) (fun c=>?_)
 rotate_left
 ·walk_at"g";exact o (D fun z=>c (by have:=z.2.1.1;lia)) _ b
 exists iteN (fun c=>?_) (fun d2=>?_)
 ·walk_at"g";exact o (D fun z=>c (by have:=z.2.1.2;lia)) _ b
 exists⟨_,_,rfl,.inl ⟨_,SqL.of t4,rfl⟩,?_⟩;exists⟨_,_,rfl,.inl ⟨_,SqL.of n,rfl⟩,?_⟩;rw[vt,vt];exists iteN (fun c=>?_) (fun N=>?_)
 ·walk_at"g";exact o (G fun z=>c (by rw[z.1])) _ b
 have N:hs.length=ns.length:=by lia
 exists⟨p4,_,rfl,.inl (SqL.of t4),rfl,?_,?_⟩
 ·rw[all_eq_true];intro x e;obtain⟨i,_,rfl⟩:=vO.mp e;exact wE _
 walk_at"g";cases ei:inV .non (hs.map fun h=>oI (numW h 0))with
 | true=>
  refine iteB1 rfl ?_;walk_at"g";exact o (G fun z=>j4g ei z.2.1) _ b
 | false=>
  have d4:=j3L ei;refine iteB0 rfl ?_;exists⟨p1,rfl,⟨_,SqL.of n⟩,?_⟩;refine jZ (xs:=ns.map V.str) (fun i f g=>f=((ns.take i).map Ws.isW).map V.bl/\Same H4 g) ⟨rfl,Same.refl _⟩ ?_ ?_ ?_
  ·rintro i f g _ ⟨rfl,C⟩;exact SqL.of (C _ _ n)
  ·rintro i v f g u ⟨rfl,C⟩;rw[vv]at u;obtain⟨x,e,rfl⟩:=vf.mp u;have hi:=(vx.mp e).1;refine JJ (σ':=[none]) rfl ?_;exists iteT ?_;exists⟨x,rfl,m1 x (vj e),fun H6 s6=>?_⟩;refine⟨by rw[vt,vt,vh];lia,?_,C.trans s6⟩;rw[take_snoc e,vi,vi];rfl
  rintro f H5 ⟨rfl,C⟩;rw[show(ns.map V.str).length=ns.length from vt _,v7];refine⟨by rw[vt,vt];lia,?_⟩;walk_at"f 6 t";have d:=C.trans s6;exists⟨p6,_,rfl,SqL.of t6,?_⟩;cases ea:(ns.map Ws.isW).all id with
  | false=>
   exists iteT ?_;exists o (G fun z=>?_) _ (b.trans d);rw[show(ns.map Ws.isW).all id=true by rw[List.all_map,all_eq_true];exact z.2.2]at ea;cases ea
  | true=>
   have d5:∀x∈ns,Ws.isW x=true:=by
    rw[List.all_map,all_eq_true]at ea;exact ea
   exists iteF ?_;exists j3Z ?_;exists⟨p1,ns,rfl,SqL.of (d _ _ n),by lia,fun m hm=>?_⟩;have q:m=ns.length↔ns.Nodup:=by
    have:=hm.2;rw[v7]at this;exact this
   exists⟨_,_,rfl,.inl ⟨_,SqL.of (d _ _ n),rfl⟩,?_⟩;rw[vt];exists iteN (fun c=>?_) (fun d6=>?_)
   ·walk_at"g";exact o (D fun z=>c (by rw[q.mpr z.2.2])) _ (b.trans d)
   have nd:ns.Nodup:=q.mp (by lia);obtain⟨J,U,M,W⟩:=S ⟨F,⟨by lia,by lia⟩,nd⟩ ⟨N,d4,d5⟩;have ll:J.length=ns.length:=by rw[<-M,vt]
   exists⟨p1,p4,_,_,rfl,SqL.of (d _ _ n),SqL.of (d _ _ t4),by rw[vt,vt];lia,fun c Z X s7 hc tc la pr=>?_⟩;rw[vt]at la;refine qs J U c Z X (b.trans (d.trans s7)) (none_of (b.trans d) hc) tc ⟨by lia,fun i a x ha e=>?_⟩;have xh:(hs.map fun h=>oI (numW h 0))[i]?=some (.int x.2):=by
    have:(hs.map fun h=>oI (numW h 0))=J.map fun p=>V.int p.2:=by
     rw[show(hs.map fun h=>oI (numW h 0))=(hs.map fun h=>numW h 0).map oI by rw[map_map];rfl,W,map_map];rfl
    rw[this,vv,e];rfl
   exact pr i a _ _ ha (by rw[<-M,vv,vv,e];rfl) xh
theorem j1M(T:Txt K mg t)(jP:FnOk P w K mg base CX0 1 t.jQ t.j9 ["self","row"] (sp_xi1 t.ju))(jK:FnOk P w K mg base CX0 1 t.JW t.JZ ["named"] (sp_numbers_of))(Qu:FnOk P w K mg base CX0 6 t.ZO t.ZQ ["words","limbs","parts"] (sp_part_ofT))(Qt:FnOk P w K mg base CX0 4 t.zN t.zU ["words"] (sp_limbs_ofT)):FnOk P w K mg base (CX1 P w) 7 t.yn t.yp ["text"] (W7 t.ju):=by
 refine T.yg.F.okR Ji (fun vs H Q E h=>?_) (fun ah A a9 s H vs Q E y h=>?_)
 ·obtain⟨d,k,rfl,R,X,x⟩:=h;rfl
 obtain⟨d,k,rfl,R,X,x⟩:=h;refine⟨_,(JK (js (i:=1) Ji.nd rfl (.inl rfl) (qi PySem.F.plainAttrs_str PySem.F.slot_str_split PySem.F.type_str_split qx (pv 0) (ja jm jb)))
  (JK (js (i:=2) Ji.nd rfl (.inl rfl) (jo T.yf Qt y (ja (qi PySem.F.plainAttrs_str PySem.F.slot_str_split PySem.F.type_str_split qx (jt jM (pv 1) je) (ja jm jb)) jb)))
  (Yx (yb (jh Qc (pv 2) jC (nomark _))
   (jD (Q9 PySem.F.excBase_ValueError ⟨rfl,rfl,rfl,rfl⟩ T.qU (by rfl) T.ZS (jP.mono (by decide)) y T.qV pass0 (ja je jb)))
   qz)
  (Qg (jh Qc (pv 2) jC (nomark _))
   (jf jJ)
   jn)
  (Yx (yb (jh Jl (jv jR (by rfl) T.qQ JX (ja (pv 1) jb)) je (nomark _))
   (jD (Q9 PySem.F.excBase_ValueError ⟨rfl,rfl,rfl,rfl⟩ T.qU (by rfl) T.ZS (jP.mono (by decide)) y T.qV pass0 (ja je jb)))
   qz)
  (Qg (jh Jl (jv jR (by rfl) T.qQ JX (ja (pv 1) jb)) je (nomark _))
   (jf jJ)
   jn)
  (JK (js (i:=3) Ji.nd rfl (.inl rfl) (jo T.qW jK y (ja (pv 2) jb)))
  (JK (js (i:=4) Ji.nd rfl (.inl rfl) zD)
  (JK (js (i:=5) Ji.nd rfl (.inl rfl) (J3 jb))
  (jD (kh ⟨rfl,rfl,rfl,rfl⟩ (WV (by rfl) T.qo (ja (zf ZZ (pv 1) (Qf je) Za) jb) je) (Qe rfl (jy (jp (i:=6) Ji.nd rfl (.inl rfl)) (jy (jp (i:=7) Ji.nd rfl (.inl rfl)) qj)))
   (jc (js (i:=8) Ji.nd rfl (.inl rfl) (jo T.ZL Qu y (ja (qi PySem.F.plainAttrs_str PySem.F.slot_str_split PySem.F.type_str_split qx (pv 7) (ja jm jb)) (ja (pv 3) (ja (pv 4) jb)))))
   (jc (jI (PW.pt (Qh (jh Qc (pv 8) jC (nomark _)) (QC (jh Z7 (pv 6) je (nomark _)))))
    (jf jJ)
    jn)
   (jc (ZV (Qn y) (pv 4) (jt jA (pv 8) je) ya rfl)
   (jf (jN (qi PySem.F.plainAttrs_list PySem.F.slot_list_append PySem.F.type_list_append Jn (pv 5) (ja (pv 8) jb)))))))
   (JK (js (i:=8) Ji.nd rfl (.inl rfl) (jo T.ZL Qu y (ja (qi PySem.F.plainAttrs_str PySem.F.slot_str_split PySem.F.type_str_split qx (pv 7) (ja jm jb)) (ja (pv 3) (ja (pv 4) jb)))))
   (jD (yb (PW.pt (Qh (jh Qc (pv 8) jC (nomark _)) (QC (jh Z7 (pv 6) je (nomark _)))))
    (jD (Q9 PySem.F.excBase_ValueError ⟨rfl,rfl,rfl,rfl⟩ T.qU (by rfl) T.ZS (jP.mono (by decide)) y T.qV pass0 (ja (pv 6) jb)))
    qz)))))))))))),?_⟩
 refine qy (σ':=[some _,none,none,none,none,none,none,none,none]) rfl ?_;have sz:(100000:Nat)<sizeLine:=by decide
 have a8:(Str.ofString "\n")=⟨#[10]⟩:=by decide +kernel
 have C:(Str.ofString " ")=⟨#[32]⟩:=by decide +kernel
 have n1:=R.n1;have n2:=R.n2;obtain⟨x1,x2,x3,x4,x5,x6⟩:=Ke R;refine Jx ?_;exists⟨rfl,?_⟩;exists⟨_,10,_,rfl,by rw[a8],by decide,x1,x2,x3,x4,x5,?_⟩;rw[x6];walk_at"f r1 hr1 H1 s1 t1";walk_at"g";dsimp only;obtain⟨z1,z2⟩:=j3l n1;refine Jx ?_;exists ixLm (SqL.of t1) (qZ (j:=0) z1) ?_;exists⟨rfl,?_⟩;walk_at"g";obtain⟨y1,y2,y3,y4,y5,y6,y7⟩:=ZX (R.r _ z2);refine⟨_,32,_,rfl,by rw[C],by decide,y1,y2,y3,y4,y5,?_⟩;walk_at"f r2 hr2 H2 s2 t2";have W:=s1.trans s2;exists⟨r2,_,rfl,t2,y7,y6,(R.r _ z2).1,fun z H3 s3=>?_,fun ls el pl a3 H3 s3 ak t3 la=>?_⟩
 ·have k0:k=0:=by
   rcases X with⟨e,_⟩ | ⟨_,_,ls,e⟩ | ⟨_,_,ls,_,e,_⟩
   ·exact e
   ·cases z.symm.trans e
   ·cases z.symm.trans e
  subst k0;walk_at"g";dsimp only;refine .inl ?_;refine QE ?_;exists⟨rfl,_,rfl,?_⟩;refine iteB1 (vK rfl) ?_;refine QD ?_;walk_at"g";intro e J;exact⟨e,0,rfl,by lia,by lia,ji,x.of (W.trans s3) J⟩
 obtain⟨lb,a4⟩:=kP el;have Y:=W.trans s3;have e1:=s3 _ _ (s2 _ _ t1);walk_at"g";dsimp only;refine .inr (Jx ?_);exists⟨fun σ' g=>σ'=[some (.str (Txt.join "\n" d)),some (.ref r1),some (.ref pl),none,none,none,none,none,none]/\H3=g,?_,?_⟩
 rotate_left
 ·exists⟨rfl,_,rfl,?_⟩;refine iteB0 (by simp) ?_;walk_at"g";exact⟨rfl,rfl⟩
 rintro σ' H0 ⟨rfl,rfl⟩;dsimp only;rcases X with⟨_,e⟩ | ⟨rfl,ao,_⟩ | ⟨k1,kl,al,o,a1,an,D,N⟩
 ·cases el.symm.trans e
 ·refine .inl ?_;refine QE ?_;exists⟨_,_,rfl,.inl ⟨_,SqL.of e1,rfl⟩,?_⟩;rw[vt];exists iteD (fun c=>?_) (fun c=>ue (by lia) c);refine QD ?_;walk_at"g";intro e J;exact⟨e,1,rfl,by lia,by lia,ji,x.of Y J⟩
 cases el.symm.trans a1;have am:=D.1;refine .inr (Jx ?_);exists⟨fun σ' g=>σ'=[some (.str (Txt.join "\n" d)),some (.ref r1),some (.ref pl),none,none,none,none,none,none]/\H3=g,?_,?_⟩
 rotate_left
 ·exists⟨_,_,rfl,.inl ⟨_,SqL.of e1,rfl⟩,?_⟩;rw[vt];exists iteD (fun c=>ue c (by lia)) (fun _=>?_);walk_at"g";exact⟨rfl,rfl⟩
 rintro σ' H0 ⟨rfl,rfl⟩;dsimp only;refine Jx ?_;exists⟨pl,a3,ls.map (·.1),rfl,t3,by rw[la.1,vt],fun i a x ha hx=>?_,a4,by rw[vt];lia,fun d1 H4 s4 ai t4=>?_⟩
 ·rw[vv]at hx;obtain⟨p,hp,rfl⟩:=vf.mp hx;exact⟨_,la.2 i a p ha hp⟩
 walk_at"g";dsimp only;refine Jx ?_;walk_at"g";walk_at"f d2 hd2 H5 s5 t5";walk_at"g";dsimp only;refine Jx ?_;exists⟨vC _,?_⟩;walk_at"f pp hpp H6 s6 t6";have ab:=s4.trans s5;have ac:=ab.trans s6;have B:d2≠pp:=jd t5 hpp;walk_at"g";dsimp only;refine kc ?_;exists⟨r1,_,rfl,SqL.of (ac _ _ e1),?_⟩;walk_at"f r7 hr7 H7 s7 t7";rw[W2 n1]at t7;exists⟨rfl,r7,_,rfl,SqL.of t7,?_⟩;have a5:r7≠d2:=(jd (s6 _ _ t5) hr7).symm;have a6:r7≠pp:=(jd t6 hr7).symm;have ad:=s7 _ _ (s6 _ _ t5);have ae:=s7 _ _ t6;refine Xt (xs:=(d.drop 1).map V.str) (k-1) (by rw[vt,length_drop];lia) (fun i σ g=>IvE4 fun(f:List Addr) (o6 o7 U:Option V)=>IvA5 (σ=[some (.str (Txt.join "\n" d)),some (.ref r1),some (.ref pl),some (.ref d1),some (.ref d2),some (.ref pp),o6,o7,U]) (Same H4 g) (g r7=some (.lst ((d.drop 1).map V.str))) (g d2=some (.dK (tabB ((o.take i).map (·.1))))) (g pp=some (.lst (f.map V.ref))/\All2 (PartAt g) f (o.take i))) ⟨[],_,_,_,rfl,s5.trans (s6.trans s7),t7,ad,ae,.nil⟩ ?_ ?_
 ·rintro i σ g _ ⟨f,o6,o7,U,rfl,sm,er,O,ep,ap⟩;exact SqL.of er
 ·rintro i v σ g P af aj hv ⟨f,o6,o7,U,rfl,sm,er,O,ep,ap⟩ sP tP;obtain⟨r,rfl,I,rm,ri⟩:=j23 hv;have L:=sm.trans sP;obtain⟨y1,y2,y3,y4,y5,y6,y7⟩:=ZX (R.r _ rm);refine Qi (SqT.of tP) ?_;by_cases ik:i<k-1
  ·refine .inr ?_;refine jr (σ':=[some _,some _,some _,some _,some _,some _,some _,some _,U]) rfl ?_;have hi:i<o.length:=by lia
   obtain⟨p,hp⟩:∃p,o[i]?=some p:=⟨_,vz hi⟩
   have pw:=D.2 i p hp;rw[I]at pw;exists⟨rfl,?_⟩;exists⟨_,32,_,rfl,by rw[C],by decide,y1,y2,y3,y4,y5,?_⟩;walk_at"f r8 hr8 H8 s8 t8";have q:=sP.trans s8;walk_at"g";have a7:p.1∉(o.take i).map (·.1):=kY pw;refine⟨r8,d1,d2,_,_,_,rfl,t8,y6,(R.r _ rm).1,s8 _ _ (L _ _ t4),q _ _ O,fun z=>?_,fun p' G a M Z hP=>?_⟩
   ·cases z.symm.trans pw
   cases pw.symm.trans G;have n:=q.trans Z;exists⟨rfl,_,rfl,?_⟩;refine iteB0 (by simp) ?_;exists iteD (fun c=>ue c (by lia)) (fun _=>?_);walk_at"g";obtain⟨fa,ha,hf⟩:=id hP;refine ixTm (SqT.of ha) (at0) ?_;have F:=n _ _ O;have a2:=n _ _ ep;have tl:((o.take i).map (·.1)).length=i:=by rw[vt,vh];lia
   refine⟨d2,_,rfl,DPut.k (k:=Sum.inr p.1) F (by show(List.map _ _).length<_;rw[vt,tl];lia),?_⟩;rw[xb a7];generalize eX:upd M d2 _=H10;have a0:=j19 eX;have m:∀b u,b≠d2->M b=some u->H10 b=some u:=fun b u hb h=>by rw[<-eX,jg hb];exact h
   clear eX;have l:=m _ _ B.symm a2;have aa:=ap.1;exists⟨.inl ⟨rfl,_,SqL.of l⟩,?_⟩;exists⟨pp,_,_,rfl,rfl,l,by rw[vt,aa,vh];lia,?_⟩;have tk:o.take (i+1)=o.take i++[p]:=take_snoc hp;have kt:∀b xs,M b=some (.tup xs)->upd H10 pp (.lst (f.map V.ref++[.ref a])) b=some (.tup xs):=fun b xs h=>(jg (qF (m _ _ (qF h F (fun z=>by cases z)) h) l (fun z=>by cases z))).trans (m _ _ (qF h F (fun z=>by cases z)) h)
   have S:∀{b u},H4 b=some u->b≠d2/\b≠pp:=fun h=>⟨jd h hd2,jd (s5 _ _ h) hpp⟩
   refine⟨ik,f++[a],_,_,_,rfl,fun b u h=>(jg (S h).2).trans (m _ _ (S h).1 (n _ _ (sm _ _ h))),(jg a6).trans (m _ _ a5 (n _ _ er)),(jg B).trans (by rw[tk,vi];exact a0),by rw[ji,vi];rfl,?_⟩;rw[tk];exact All2.snoc (ap.mono fun b x h=>PartAt.put kt (PartAt.same n h)) (PartAt.put kt hP)
  have ik:i=k-1:=by lia
  subst ik;have ek:((k-1:Nat):Int)+1=(k:Int):=by lia
  have tp:o.take (k-1)=o:=take_of_length_le (by lia);rw[tp]at O;rw[show k-1+1=k by lia]at I ri;refine .inl ?_;refine qy (σ':=[some _,some _,some _,some _,some _,some _,some _,some _,U]) rfl ?_;refine Jx ?_;exists⟨rfl,?_⟩;exists⟨_,32,_,rfl,by rw[C],by decide,y1,y2,y3,y4,y5,?_⟩;walk_at"f r8 hr8 H8 s8 t8";have q:=sP.trans s8;walk_at"g";have sF:Same H H8:=Y.trans (s4.trans (L.trans s8));rw[I]at N;refine⟨r8,d1,d2,_,_,_,rfl,t8,y6,(R.r _ rm).1,s8 _ _ (L _ _ t4),q _ _ O,fun z M Z=>?_,fun p' G a M Z hP=>?_⟩
  ·walk_at"g";dsimp only;refine QE ?_;exists⟨rfl,_,rfl,?_⟩;refine iteB1 (vK rfl) ?_;refine iteT ?_;refine QD ?_;walk_at"g";intro e J;exact⟨e,(k:Int),by rw[ek],by lia,by lia,ji,x.of (sF.trans Z) J⟩
  ·have ag:60<k:=by
    rcases N with z | z
    ·cases z.symm.trans G
    ·exact z
   walk_at"g";dsimp only;refine QE ?_;exists⟨rfl,_,rfl,?_⟩;refine iteB0 (by simp) ?_;exists iteD (fun c=>?_) (fun c=>ue (by lia) c);refine QD ?_;walk_at"g";intro e J;exact⟨e,(k:Int),by rw[ek],by lia,by lia,ji,x.of (sF.trans Z) J⟩
theorem j2V(T:Txt K mg t)(jP:FnOk P w K mg base CX0 1 t.jQ t.j9 ["self","row"] (sp_xi1 t.ju))(jK:FnOk P w K mg base CX0 1 t.JW t.JZ ["named"] (sp_numbers_of))(Qu:FnOk P w K mg base CX0 6 t.ZO t.ZQ ["words","limbs","parts"] (sp_part_ofT))(Qt:FnOk P w K mg base CX0 4 t.zN t.zU ["words"] (sp_limbs_ofT)):FnOk P w K mg base CX0 7 t.yn t.yp ["text"] (sp_readT):=by
 specialize T.yg.F.ok Ji;obtain⟨g,ls,o,rfl,R,D,q⟩:=h;refine⟨_,(jc (js (i:=1) Ji.nd rfl (.inl rfl) (qi PySem.F.plainAttrs_str PySem.F.slot_str_split PySem.F.type_str_split qx (pv 0) (ja jm jb)))
  (jc (js (i:=2) Ji.nd rfl (.inl rfl) (jo T.yf Qt hr (ja (qi PySem.F.plainAttrs_str PySem.F.slot_str_split PySem.F.type_str_split qx (jt jM (pv 1) je) (ja jm jb)) jb)))
  (jc (jI (jh Qc (pv 2) jC (nomark _))
   (jf jJ)
   jn)
  (jc (jI (jh Jl (jv jR (by rfl) T.qQ JX (ja (pv 1) jb)) je (nomark _))
   (jf jJ)
   jn)
  (jc (js (i:=3) Ji.nd rfl (.inl rfl) (jo T.qW jK hr (ja (pv 2) jb)))
  (jc (js (i:=4) Ji.nd rfl (.inl rfl) zD)
  (jc (js (i:=5) Ji.nd rfl (.inl rfl) (J3 jb))
  (jc (QT PassesOwn.never rfl (WV (by rfl) T.qo (ja (zf ZZ (pv 1) (Qf je) Za) jb) je) (Qe rfl (jy (jp (i:=6) Ji.nd rfl (.inl rfl)) (jy (jp (i:=7) Ji.nd rfl (.inl rfl)) qj)))
   (jc (js (i:=8) Ji.nd rfl (.inl rfl) (jo T.ZL Qu hr (ja (qi PySem.F.plainAttrs_str PySem.F.slot_str_split PySem.F.type_str_split qx (pv 7) (ja jm jb)) (ja (pv 3) (ja (pv 4) jb)))))
   (jc (jI (PW.pt (Qh (jh Qc (pv 8) jC (nomark _)) (QC (jh Z7 (pv 6) je (nomark _)))))
    (jf jJ)
    jn)
   (jc (ZV (Qn hr) (pv 4) (jt jA (pv 8) je) ya rfl)
   (jf (jN (qi PySem.F.plainAttrs_list PySem.F.slot_list_append PySem.F.type_list_append Jn (pv 5) (ja (pv 8) jb))))))))
  (jf (jw (zZ (ja (pv 2) (ja (pv 5) jb))))))))))))),?_⟩
 refine jr (σ':=[some _,none,none,none,none,none,none,none,none]) rfl ?_
 try dsimp only[cxOf,Cx.nox]
 have sz:(100000:Nat)<sizeLine:=by decide
 have a8:(Str.ofString "\n")=⟨#[10]⟩:=by decide +kernel
 have G:(Str.ofString " ")=⟨#[32]⟩:=by decide +kernel
 have n1:=R.n1;have n2:=R.n2;have dn:=D.n;have af:=D.pl;obtain⟨lb,a4⟩:=kP D.l;obtain⟨x1,x2,x3,x4,x5,x6⟩:=Ke R;exists⟨rfl,?_⟩;exists⟨_,10,_,rfl,by rw[a8],by decide,x1,x2,x3,x4,x5,?_⟩;rw[x6];walk_at"f r1 hr1 H1 s1 t1";walk_at"g";obtain⟨z1,z2⟩:=j3l n1;refine ixLm (SqL.of t1) (qZ (j:=0) z1) ?_;exists⟨rfl,?_⟩;walk_at"g";obtain⟨y1,y2,y3,y4,y5,y6,y7⟩:=ZX (R.r _ z2);refine⟨_,32,_,rfl,by rw[G],by decide,y1,y2,y3,y4,y5,?_⟩;walk_at"f r2 hr2 H2 s2 t2";exists⟨r2,_,rfl,t2,y7,y6,(R.r _ z2).1,fun z=>?_,fun ah el pl I H3 s3 a3 t3 la=>?_⟩
 ·cases z.symm.trans D.l
 cases D.l.symm.trans el;have L:=s1.trans s2;have M:=L.trans s3;exists⟨rfl,_,rfl,?_⟩;refine iteB0 (by simp) ?_;walk_at"g";have e1:=s3 _ _ (s2 _ _ t1);refine⟨_,_,rfl,.inl ⟨_,SqL.of e1,rfl⟩,?_⟩;rw[vt];exists iteD (fun c=>ue c (by lia)) (fun _=>?_);exists⟨pl,I,ls.map (·.1),rfl,t3,by rw[la.1,vt],fun i a x ha hx=>?_,a4,by rw[vt];lia,fun d1 H4 s4 ag t4=>?_⟩
 ·rw[vv]at hx;obtain⟨p,Y,rfl⟩:=vf.mp hx;exact⟨_,la.2 i a p ha Y⟩
 walk_at"g";walk_at"f d2 hd2 H5 s5 t5";exists⟨vC _,?_⟩;walk_at"f pp hpp H6 s6 t6";have B:=s4.trans s5;have ab:=B.trans s6;have n:d2≠pp:=jd t5 hpp;exists⟨r1,_,rfl,SqL.of (ab _ _ e1),?_⟩;walk_at"f r7 hr7 H7 s7 t7";rw[W2 n1]at t7;exists⟨rfl,r7,_,rfl,SqL.of t7,?_⟩;have a5:r7≠d2:=(jd (s6 _ _ t5) hr7).symm;have a6:r7≠pp:=(jd t6 hr7).symm;have ac:=s7 _ _ (s6 _ _ t5);have ad:=s7 _ _ t6;refine j0s (xs:=(g.drop 1).map V.str) (fun i σ m=>IvE4 fun(d:List Addr) (Z o7 o8:Option V)=>IvA5 (σ=[some (.str (Txt.join "\n" g)),some (.ref r1),some (.ref pl),some (.ref d1),some (.ref d2),some (.ref pp),Z,o7,o8]) (Same H4 m) (m r7=some (.lst ((g.drop 1).map V.str))) (m d2=some (.dK (tabB ((o.take i).map (·.1))))) (m pp=some (.lst (d.map V.ref))/\All2 (PartAt m) d (o.take i))) ⟨[],_,_,_,rfl,s5.trans (s6.trans s7),t7,ac,ad,.nil⟩ ?_ ?_ ?_
 ·rintro i σ m _ ⟨d,Z,o7,o8,rfl,O,X,U,W,F⟩;exact SqL.of X
 ·rintro i v σ m P ae hv ⟨d,Z,o7,o8,rfl,O,X,U,W,F⟩ sP tP;obtain⟨r,rfl,a2,rm,ri⟩:=j23 hv;have hi:i<o.length:=by lia
  obtain⟨p,Y⟩:∃p,o[i]?=some p:=⟨_,vz hi⟩
  have pw:=D.p.2 i p Y;have ai:=D.p.1;rw[a2]at pw;have aa:=O.trans sP;refine Qi (SqT.of tP) ?_;exists⟨rfl,?_⟩;walk_at"g";obtain⟨y1,y2,y3,y4,y5,y6,y7⟩:=ZX (R.r _ rm);refine⟨_,32,_,rfl,by rw[G],by decide,y1,y2,y3,y4,y5,?_⟩;walk_at"f r8 hr8 H8 s8 t8";have N:=sP.trans s8;walk_at"g";have a7:p.1∉(o.take i).map (·.1):=kY pw;refine⟨r8,d1,d2,_,_,_,rfl,t8,y6,(R.r _ rm).1,s8 _ _ (aa _ _ t4),N _ _ U,fun z=>?_,fun p' a0 a H9 s9 hP=>?_⟩
  ·cases z.symm.trans pw
  cases pw.symm.trans a0;have l:=N.trans s9;exists⟨rfl,_,rfl,?_⟩;refine iteB0 (by simp) ?_;exists iteD (fun c=>ue c (by lia)) (fun _=>?_);walk_at"g";obtain⟨fa,ha,hf⟩:=id hP;refine ixTm (SqT.of ha) (at0) ?_;have y:=l _ _ U;have a1:=l _ _ W;have tl:((o.take i).map (·.1)).length=i:=by rw[vt,vh];lia
  refine⟨d2,_,rfl,DPut.k (k:=Sum.inr p.1) y (by show(List.map _ _).length<_;rw[vt,tl];lia),?_⟩;rw[xb a7];generalize eX:upd H9 d2 _=H10;have S:=j19 eX;have f:∀b u,b≠d2->H9 b=some u->H10 b=some u:=fun b u hb h=>by rw[<-eX,jg hb];exact h
  clear eX;have e:=f _ _ n.symm a1;have a9:=F.1;exists⟨.inl ⟨rfl,_,SqL.of e⟩,?_⟩;exists⟨pp,_,_,rfl,rfl,e,by rw[vt,a9,vh];lia,?_⟩;have tk:o.take (i+1)=o.take i++[p]:=take_snoc Y;have kt:∀b xs,H9 b=some (.tup xs)->upd H10 pp (.lst (d.map V.ref++[.ref a])) b=some (.tup xs):=fun b xs h=>(jg (qF (f _ _ (qF h y (fun z=>by cases z)) h) e (fun z=>by cases z))).trans (f _ _ (qF h y (fun z=>by cases z)) h)
  have J:∀{b u},H4 b=some u->b≠d2/\b≠pp:=fun h=>⟨jd h hd2,jd (s5 _ _ h) hpp⟩
  refine⟨d++[a],_,_,_,rfl,fun b u h=>(jg (J h).2).trans (f _ _ (J h).1 (l _ _ (O _ _ h))),(jg a6).trans (f _ _ a5 (l _ _ X)),(jg n).trans (by rw[tk,vi];exact S),by rw[ji,vi];rfl,?_⟩;rw[tk];exact All2.snoc (F.mono fun b x h=>PartAt.put kt (PartAt.same l h)) (PartAt.put kt hP)
 rintro σ' m ⟨d,Z,o7,o8,rfl,O,X,U,W,F⟩;rw[vt,length_drop,take_of_length_le (by lia)]at F;exists⟨uc,?_⟩;walk_at"f b hb H9 s9 t9";have C:=s4.trans (O.trans s9);refine q b pl pp I d H9 (M.trans C) (none_of L a3) (none_of (M.trans B) hpp) (jd (B _ _ t3) hpp) ⟨t9,C _ _ t3,la.mono fun a x h=>C _ _ h,s9 _ _ W,F.mono fun a x h=>PartAt.same s9 h⟩
theorem wG(T:Txt K mg t)(y:FnOk P w K mg base CX0 2 t.Qv t.Qx ["text"] (Ws.QF))(S:FnOk P w K mg base CX0 7 t.yn t.yp ["text"] (sp_readT))(e:FnOk P w K mg base (CX1 P w) 7 t.yn t.yp ["text"] (W7 t.ju))(a:FnOk P w K mg base (CX1 P w) 5 t.Qw t.Qy ["book"] (YR t.jB t.jk t.jq)):FnOk P w K mg base (CX1 P w) 8 t.qK t.qL ["self","name","text"] (W6 t.jO t.jx t.ju t.jB t.jk t.jq):=by
 refine T.kx.okR zv (fun vs H Q E h=>?_) (fun U A u s H vs Q E l h=>?_)
 ·obtain⟨d,name,c,O,n,rfl,p,g,q⟩:=h;rfl
 obtain⟨d,name,c,O,n,rfl,p,g,q⟩:=h;refine⟨_,(Yx (yb (qD (QB (jo T.Qo y l (ja (pv 1) jb))))
   (jD (W3 PySem.F.excBase_ValueError ⟨rfl,rfl,rfl,rfl⟩ (by rfl) T.Yl T.zb))
   qz)
  (Qg (qD (QB (jo T.Qo y l (ja (pv 1) jb))))
   (jf jJ)
   jn)
  (Yx (j41 (wW (e.mono (by decide)) l (by rfl) T.yg.m T.yg.F.kp T.yg.B .nil ⟨rfl,rfl,rfl,rfl⟩ (ja (pv 2) jb)))
  (js (i:=3) zv.nd rfl (.inl rfl) (jo T.yg S l (ja (pv 2) jb)))
  (jD (kg (wW (a.mono (by decide)) l (by rfl) T.Qp.m T.Qp.F.kp T.Qp.B .nil ⟨rfl,rfl,rfl,rfl⟩ (ja (pv 3) jb)))))),?_⟩
 refine qy (σ':=[some _,some _,some _,none]) rfl ?_;have sz:(200:Nat)<sizeLine:=by decide
 rcases g with⟨r,rfl,rfl⟩ | ⟨r,R,g⟩
 ·refine .inl ?_;refine QE ?_;exists⟨name,rfl,p,fun m j=>?_⟩;exists iteB1 (by rw[r];rfl) ?_;exact q m j
 refine .inr (Jx ?_);exists⟨fun σ' D=>σ'=[some (.ref d),some (.str name),some (.str (Txt.join "\n" c)),none]/\Same H D,?_,?_⟩
 rotate_left
 ·exists⟨name,rfl,p,fun m j=>?_⟩;exists iteB0 (by rw[r];rfl) ?_;walk_at"g";exact⟨rfl,j⟩
 rintro σ' m ⟨rfl,j⟩;dsimp only;rcases g with⟨k,L,rfl,rfl⟩ | ⟨z,C,M,W,k,J,N,F,G,I,X,g⟩
 ·refine .inl (KY (yZ ?_));walk_at"g";exact⟨c,k,rfl,R,L,XE.same q j⟩
 refine .inr (Jx ?_);exists⟨c,z,C,rfl,R,J,fun b Y Z o v H2 s2 _ _ _ B=>?_⟩;walk_at"g";dsimp only;refine KY (yZ ?_);walk_at"g";have f:=j.trans s2;refine⟨b,Y,Z,o,v,z,C,M,W,k,rfl,B,N,F,G,I,X,?_⟩;rcases g with⟨h,rfl,rfl⟩ | ⟨x,h,rfl,rfl⟩ | ⟨h,rfl,rfl⟩
 ·exact .inl ⟨h,XE.same q f⟩
 ·exact .inr (.inl ⟨x,h,XE.same q f⟩)
 ·exact .inr (.inr ⟨h,XE.same q f⟩)
theorem WJ(T:Txt K mg t)(jU:FnOk P w K mg base CX0 2 t.Qv t.Qx ["text"] (Ws.QF))(X:FnOk P w K mg base CX0 7 t.yn t.yp ["text"] (sp_readT))(U:FnOk P w K mg base CX0 5 t.Qw t.Qy ["book"] (sp_lengths)):FnOk P w K mg base CX0 8 t.qK t.qL ["self","name","text"] (sp_putD t.jO):=by
 specialize T.kx.ok zv;obtain⟨d,v,C,name,p,I,N,Z,hs,rfl,D,bl,J,R,W,S,q⟩:=h;refine⟨_,(jc (jI (qD (QB (jo T.Qo jU hr (ja (pv 1) jb))))
   (jf jJ)
   jn)
  (jc (js (i:=3) zv.nd rfl (.inl rfl) (jo T.yg X hr (ja (pv 2) jb)))
  (jc (jN (jo T.Qp U hr (ja (pv 3) jb)))
  (jf (ZV (Qn hr) (Yt (pv 0) rfl) (pv 1) (pv 3) rfl))))),?_⟩
 refine jr (σ':=[some _,some _,some _,none]) rfl ?_
 try dsimp only[cxOf,Cx.nox]
 have sz:(200:Nat)<sizeLine:=by decide
 obtain⟨⟨F,y⟩,Y⟩:=D;exists⟨name,rfl,vZ (j3g J) (by decide),fun H1 s1=>?_⟩;exists iteB0 (by rw[J];rfl) ?_;exists⟨p,I,N,rfl,R,W,fun b L M n o H2 s2 _ _ _ B=>?_⟩;exists⟨b,L,M,n,o,I,N,Z,hs,rfl,B,S,fun g r O _ _=>?_⟩;have f:=s1.trans (s2.trans O);have m:=B.same O;have j:=f _ _ Y;exists⟨d,t.jO,F,_,_,rfl,f _ _ y,T.QI,T.J0,ZR,?_⟩;exists⟨v,_,rfl,DPut.k (k:=Sum.inr name) j (by lia),?_⟩;have z:∀(a:Addr) (l:List V),r a=some (.tup l)->upd r v (.dK (putK C (Sum.inr name) (.ref b))) a=some (.tup l):=fun a l h=>(jg (qF h j (fun e=>by cases e))).trans h
 have G:∀(a:Addr) (l:List V),r a=some (.lst l)->upd r v (.dK (putK C (Sum.inr name) (.ref b))) a=some (.lst l):=fun a l h=>(jg (qF h j (fun e=>by cases e))).trans h
 exact q b L M n o _ (fun c u hc h=>(jg hc).trans (f _ _ h)) ⟨⟨F,(jg (qF (f _ _ y) j (fun e=>by cases e))).trans (f _ _ y)⟩,ji⟩ ⟨z _ _ m.t,G _ _ m.l,m.la.mono fun a x h=>z _ _ h,G _ _ m.p,m.pa.mono fun a x h=>PartAt.keep z h⟩
theorem Kt(T:Txt K mg t)(yi:FnOk P w K mg base CX0 8 t.qK t.qL ["self","name","text"] (sp_putD t.jO))(Qq:FnOk P w K mg base CX0 7 t.qm t.qp ["self","row"] (sp_sayD t.jO))(a:FnOk P w K mg base (CX1 P w) 8 t.qK t.qL ["self","name","text"] (W6 t.jO t.jx t.ju t.jB t.jk t.jq))(f:FnOk P w K mg base (CX1 P w) 7 t.qm t.qp ["self","row"] (W8 t.jO t.jx)):FnOk P w K mg base CX0 9 t.zK t.zQ ["_law_desk","_law_name","_law_text_here"] (sp_errL t.jO t.jx t.ju t.jB t.jk t.jq):=by
 specialize T.QY.F.ok QJ;obtain⟨d,name,tx,rfl,hh⟩:=h;refine⟨_,(jc (js (i:=3) QJ.nd rfl (.inl rfl) jC)
  (jc (j30 (i:=4) ⟨rfl,rfl,rfl,rfl⟩ QJ.nd rfl rfl (by rfl) T.Qb
   (jf (jI (jh Qc (pv 2) jC (nomark _))
    (jf (jN (wQ (pv 0) T.QI T.Zv (Qq.mono (by decide)) hr T.yc .nil pass0 (ja (Jc qM jm (pv 1)) jb))))
    (jf (jN (wQ (pv 0) T.QI T.YM (yi.mono (by decide)) hr T.kn .nil pass0 (ja (pv 1) (ja (pv 2) jb)))))))
   (jD (yb (jh Qc (pv 2) jC (nomark _))
    (jD (kg (j07 (pv 0) T.QI T.Zv (f.mono (by decide)) hr T.yc .nil ⟨rfl,rfl,rfl,rfl⟩ (ja (Jc qM jm (pv 1)) jb))))
    (jD (kg (j07 (pv 0) T.QI T.YM (a.mono (by decide)) hr T.kn .nil ⟨rfl,rfl,rfl,rfl⟩ (ja (pv 1) (ja (pv 2) jb)))))))
   (fun _=>(jf (js (i:=3) QJ.nd rfl (.inl rfl) (pv 4)))))
  (jf (jw (pv 3))))),?_⟩
 refine jr (σ':=[some _,some _,some _,none,none]) rfl ?_
 try dsimp only[cxOf,Cx.nox]
 have sz:(2000:Nat)<sizeLine:=by decide
 rcases hh with⟨x,B,rfl,D,U,vb,q⟩ | ⟨g,X,v,rfl,⟨x,B,⟨o,C⟩,Z⟩,nl,Y,q⟩ | ⟨x,B,g,ls,ps,gs,hs,rfl,D,bl,nw,R,RD,S,q⟩
 ·have M:=D;obtain⟨⟨o,C⟩,Z⟩:=M;have nl:=U.n;exists⟨fun σ' j=>IvE1 fun(e:Addr)=>IvA2 (σ'=[some (.ref d),some (.str name),some .non,some (.ref e),none]) (Same H j/\j e=some (XcF (.ref t.jx) e none)),?_,?_⟩
  ·refine j06 ?_;refine QE ?_;exists⟨rfl,?_⟩;refine⟨_,rfl,?_⟩;refine iteB1 (vK rfl) ?_;refine KY (W0 ?_);exists⟨d,o,_,rfl,C,Y3 (by decide +kernel),?_⟩;walk_at"g";have l7:(Str.ofString "length ").length=7:=by decide +kernel
   refine⟨_,_,rfl,rfl,by lia,?_⟩;exists⟨d,x,B,name,rfl,D,U,vb,fun j r=>⟨T.jW,fun p l=>?_⟩⟩;refine jr (σ':=[some _,some _,some _,some _,some (.ref p)]) rfl ?_;walk_at"g";exact⟨p,rfl,fun c u h=>(jg (jd (r _ _ h) l)).trans (r _ _ h),ji⟩
  rintro σ' y ⟨e,rfl,O,N⟩;walk_at"g";exact q e y O N
 ·have xm:W.exmOne K (.ref X) (.ref t.JT)=some true:=by
   rcases Y with⟨_,rfl,_⟩ | ⟨_,_,⟨k,_,rfl,_⟩ | ⟨_,_,_,_,_,_,_,_,_,_,_,⟨_,rfl,_⟩ | ⟨_,_,rfl,_⟩ | ⟨_,rfl,_⟩⟩⟩
   ·exact T.jW
   ·exact T.Jf
   ·exact T.JH
   ·exact T.jY
   ·exact T.j8
  exists⟨fun σ' j=>IvE2 fun(e:Addr) (I:Option Addr)=>IvA3 (σ'=[some (.ref d),some (.str name),some (.str (Txt.join "\n" g)),some (.ref e),none]) (Same H j) (j e=some (XcF (.ref X) e I)/\FldsAt j I v),?_,?_⟩
  ·refine j06 ?_;refine QE ?_;exists⟨rfl,?_⟩;refine⟨_,rfl,?_⟩;refine iteB0 (vL (fun z=>by cases z)) ?_;refine KY (W0 ?_);exists⟨d,o,_,rfl,C,Y3 (by decide +kernel),?_⟩;exists⟨d,name,g,X,v,rfl,nl,Y,?_⟩;cases v with
   | none=>
    refine fun j r=>⟨xm,fun p l=>?_⟩
    refine jr (σ':=[some _,some _,some _,some _,some (.ref p)]) rfl ?_;walk_at"g";exact⟨p,none,rfl,fun c u h=>(jg (jd (r _ _ h) l)).trans (r _ _ h),ji,rfl⟩
   | some fs=>
    refine fun o j r _ hd=>⟨xm,fun p l=>?_⟩
    refine jr (σ':=[some _,some _,some _,some _,some (.ref p)]) rfl ?_;walk_at"g";exact⟨p,some o,rfl,fun c u h=>(jg (jd (r _ _ h) l)).trans (r _ _ h),ji,o,rfl,(jg (jd hd l)).trans hd⟩
  rintro σ' y ⟨e,I,rfl,O,N,hf⟩;walk_at"g";exact q e I y O N hf
 ·have M:=D;obtain⟨⟨o,C⟩,Z⟩:=M;exists⟨fun σ' j=>IvE5 fun(b F G:Addr) (m n:List Addr)=>IvA3 (σ'=[some (.ref d),some (.str name),some (.str (Txt.join "\n" g)),some .non,none]) (∀c u,c≠x->H c=some u->j c=some u) (DeskAt t.jO j d x (putK B (Sum.inr name) (.ref b))/\BookAt j b F G m n ls ps),?_,?_⟩
  ·refine j33 ?_;exists⟨rfl,?_⟩;refine⟨_,rfl,?_⟩;refine iteB0 (vL (fun z=>by cases z)) ?_;exists⟨d,o,_,rfl,C,Y3 (by decide +kernel),?_⟩;exists⟨d,x,B,name,g,ls,ps,gs,hs,rfl,D,bl,nw,R,RD,S,fun b F G m n j k L J=>?_⟩;walk_at"g";exact⟨b,F,G,m,n,rfl,k,L,J⟩
  rintro σ' y ⟨b,F,G,m,n,rfl,k,L,J⟩;walk_at"g";exact q b F G m n y k L J
theorem wJ(T:Txt K mg t):FnOk P w K mg base CX0 1 t.zm t.zo ["_law_error_here","_law_due"] (W9 t.jx t.ju t.jB t.jk t.jq):=by
 refine T.zi.F.ok y0 (fun L H Q E h=>?_) (fun C A e s H L Q E G h=>?_)
 ·obtain⟨x,y,rfl,l,q⟩:=h;rfl
 obtain⟨x,y,rfl,l,q⟩:=h;refine⟨_,(jc (jI (jh Qc (pv 1) jC (nomark _))
   (jf (jw (zY Qc (pv 0) jC (nomark _))))
   jn)
  (jc (js (i:=2) y0.nd rfl (.inl rfl) (J3 (ja (jv Q8 (by rfl) T.JB Jj (ja (pv 0) (ja (JI (v:=.ref t.jx) (by rfl) T.Yl rfl) jb))) (ja (jv Q8 (by rfl) T.JB Jj (ja (pv 0) (ja (JI (v:=.ref t.ju) (by rfl) T.ZS rfl) jb))) (ja (jv Q8 (by rfl) T.JB Jj (ja (pv 0) (ja (JI (v:=.ref t.jB) (by rfl) T.j00 rfl) jb))) (ja (jv Q8 (by rfl) T.JB Jj (ja (pv 0) (ja (JI (v:=.ref t.jk) (by rfl) T.YO rfl) jb))) jb))))))
  (jc (jN (qi PySem.F.plainAttrs_list PySem.F.slot_list_append PySem.F.type_list_append Jn (pv 2) (ja (jv Q8 (by rfl) T.JB Jj (ja (pv 0) (ja (JI (v:=.ref t.jq) (by rfl) T.kR rfl) jb))) jb)))
  (jf (jw (j1S (zY (j3O G.units) (pv 2) (Jw (ow:=["_law_k"]) (ci:=[1]) rfl (CompScope.of (defScope zt) ["_law_error_here","_law_due","_law_seen"] rfl rfl (by decide +kernel)) (Jv (by decide)) (KW (by rfl) T.XO (ja je jb)) (fun _ _ _ _ _=>⟨(jp (i:=0) (Jg ["_law_error_here","_law_due","_law_seen"] rfl (by decide +kernel)) rfl (.inl rfl)),qh,(zY Jl (pv 1) (pv 0) (nomark _))⟩)) (nomark _)) (Xq (jv Q8 (by rfl) T.JB Jj (ja (pv 0) (ja (wO (v:=.ty "ValueError") (by rfl) T.wg Kr rfl) jb)))))))))),?_⟩
 refine jr (σ':=[some _,some _,none]) rfl ?_
 try dsimp only[cxOf,Cx.nox]
 have R:(200:Nat)<sizeLine:=by decide
 rcases l with⟨rfl,rfl⟩ | ⟨a,X,M,k,rfl,rfl,c,D⟩
 ·exists⟨rfl,_,rfl,?_⟩;refine iteB1 (vK rfl) ?_;exists⟨rfl,?_⟩;exact q H (Same.refl _)
 ·obtain⟨Z,n,o,p,r,B,J,N⟩:ExcI K X/\W.kitOne K (.ref X) (.ref t.jx)=some (decide (k=0))/\W.kitOne K (.ref X) (.ref t.ju)=some (decide (k=1))/\W.kitOne K (.ref X) (.ref t.jB)=some (decide (k=2))/\W.kitOne K (.ref X) (.ref t.jk)=some (decide (k=3))/\W.kitOne K (.ref X) (.ref t.jq)=some (decide (k=4))/\W.kitOne K (.ref X) (.type "ValueError")=some true/\True:=by
   rcases D with⟨rfl,rfl⟩ | ⟨rfl,rfl⟩ | ⟨rfl,rfl⟩ | ⟨rfl,rfl⟩ | ⟨rfl,rfl⟩
   ·exact⟨T.j12,T.JR,T.JQ,T.qw,T.Jr,T.JE,T.j6,trivial⟩
   ·exact⟨T.qU.F.i,T.JP,T.JO,T.qv,T.Jq,T.JD,T.j5,trivial⟩
   ·exact⟨T.Z0.F.i,T.qu,T.qt,T.Ql,T.JN,T.qd,T.Jp,trivial⟩
   ·exact⟨T.qr.F.i,T.Ju,T.Jt,T.JS,T.j7,T.Je,T.jT,trivial⟩
   ·exact⟨T.QH.F.i,T.JG,T.JF,T.qe,T.Jd,T.Js,T.jX,trivial⟩
  exists⟨rfl,_,rfl,?_⟩;refine iteB0 (vL (fun z=>by cases z)) ?_;exists ZW c Z n ?_;exists ZW c Z o ?_;exists ZW c Z p ?_;exists ZW c Z r ?_;exists⟨(by show 4<=sizeLine;lia),?_⟩;walk_at"f 1 t";exists⟨.inl ⟨rfl,_,SqL.of t1⟩,?_⟩;exists ZW (s1 _ _ c) Z B ?_;exists⟨p1,_,_,rfl,rfl,t1,(by show 4<sizeLine;lia),?_⟩;have m:∀b u,H b=some u->upd H1 p1 (.lst ([V.bl (decide (k=0)),V.bl (decide (k=1)),V.bl (decide (k=2)),V.bl (decide (k=3))]++[V.bl (decide (k=4))])) b=some u:=fun b u h=>(jg (jd h hp1)).trans (s1 _ _ h)
  generalize F:upd H1 p1 (.lst ([V.bl (decide (k=0)),V.bl (decide (k=1)),V.bl (decide (k=2)),V.bl (decide (k=3))]++[V.bl (decide (k=4))]))=H2 at *;have I:H2 p1=some (.lst ((List.range 5).map fun j:Nat=>V.bl (decide (k=0+(j:Int))))):=by rw[<-F];exact ji
  exists⟨_,rfl,by lia,by lia,?_⟩;refine xH (fun i g d=>g=(List.range i).map (fun j:Nat=>V.bl (decide (k=0+(j:Int))))/\H2=d) ⟨rfl,rfl⟩ ?_ ?_
  ·rintro i g d O ⟨rfl,rfl⟩;refine JJ (σ':=[none,some _]) rfl ?_;exists iteT ?_;walk_at"g";exact⟨by rw[vt,length_range];lia,by rw[List.range_succ,vi];rfl,rfl⟩
  rintro g d ⟨rfl,rfl⟩;refine⟨by rw[vt,length_range];show 5<=_;lia,?_⟩;walk_at"f 3 t";walk_at"g";have f:=j37 (fun j:Nat=>decide (k=0+(j:Int))) (List.range 5);refine⟨_,_,DV.lst (s3 _ _ I) (wv _ _),DV.lst t3 (wv _ _),f.ok (by decide),f.ok (by decide),?_⟩;refine⟨_,rfl,?_⟩;refine iteB1 (SeqAt.eqv_refl _ f.1) ?_;exists ZW (s3 _ _ (m _ _ c)) Z J ?_;exact q H3 fun b u h=>s3 _ _ (m _ _ h)
theorem Yq(T:Txt K mg t):FnOk P w K mg base CX0 1 t.qH t.qI ["_law_error_here","_law_due","_law_long"] (sp_rowT t.jx t.ju t.jB t.jk t.jq):=by
 specialize T.Zk.F.ok zE;obtain⟨x,y,n,rfl,J,q⟩:=h;refine⟨_,(jc (jI (PW.pt (Qh (jh Qc (pv 1) jC (nomark _)) (QC (jh Jl (pv 1) je (nomark _)))))
   (jf (jw ya))
   jn)
  (jc (js (i:=3) zE.nd rfl (.inl rfl) (jt jM (J3 (ja je (ja je (ja je (ja je (ja (Jc j1R je (qS j0k (by rfl) T.j1b xz (ja (zY Z7 (pv 2) (Jc yw je je) (nomark _)) jb))) jb)))))) (pv 1)))
  (jc (jI (PW.pt (Qh (qD (QB (jv Wj (by rfl) T.JB Jj (ja (Y9 (pv 0)) (ja (wO (v:=.ty "int") (by rfl) T.j1b xz rfl) jb))))) (Qh (QB (jv Wj (by rfl) T.JB Jj (ja (Y9 (pv 0)) (ja (wO (v:=.ty "bool") (by rfl) T.j3o j2s rfl) jb)))) (QC (jh Z9 (Y9 (pv 0)) (pv 3) (nomark _))))))
   (jf (jw ya))
   jn)
  (jf (jw (j4i (zY Z9 (pv 1) je (nomark _)) (Xq (zY Jl (Y9 (pv 0)) jm (nomark _))))))))),?_⟩
 refine jr (σ':=[some _,some _,some _,none]) rfl ?_
 try dsimp only[cxOf,Cx.nox]
 have O:(200:Nat)<sizeLine:=by decide
 rcases J with⟨rfl,rfl⟩ | ⟨a,X,D,k,I,rfl,rfl,M,N,o,l,p,G⟩
 ·exists⟨rfl,_,rfl,?_⟩;refine iteB1 (vK rfl) ?_;refine iteT ?_;walk_at"g";exact q H (Same.refl _)
 ·exists⟨rfl,_,rfl,?_⟩;refine iteB0 (vL (fun z=>by cases z)) ?_;exists iteD (fun c=>?_) (fun c=>?_)
  ·walk_at"g";exact q H (Same.refl _)
  exists .inr ⟨_,rfl,?_⟩;exists⟨(by show 5<=sizeLine;lia),?_⟩;walk_at"f 1 t";obtain⟨d,f,r,rfl,e,F,u,B,L,C⟩:∃(d:Addr) (f:List (Str×V)) (r:Nat),D=some d/\H d=some (.xd f)/\ExcF K X/\W.findIn K (.ref X) "row"= some none/\f.lookup ("row" : Str)=some (.int r)/\atI [V.int 0,V.int 1,V.int 3,V.int 3,V.int (6-if decide (10^6<3+n)=true then 1 else 0)] k=some (.int r)/\(k=3->W.findIn K (.ref X) "limb"= some none/\f.lookup ("limb" : Str)=some (.str "arm")):=by
   rcases G with⟨rfl,rfl⟩ | ⟨rfl,rfl⟩ | ⟨rfl,rfl⟩ | ⟨rfl,rfl⟩ | ⟨rfl,rfl⟩
   ·exact ue rfl c
   ·obtain⟨d,rfl,e⟩:=p;have j:X=t.ju:=by rcases l with⟨h,b⟩ | ⟨h,b⟩ | ⟨h,b⟩ | ⟨h,b⟩ | ⟨h,b⟩<;>first | exact b | exact ue h (by decide)
    rw[j];exact⟨d,_,1,rfl,e,T.qU.F,T.QL,rfl,rfl,fun z=>ue z (by decide)⟩
   ·obtain⟨d,rfl,e⟩:=p;have j:X=t.jB:=by rcases l with⟨h,b⟩ | ⟨h,b⟩ | ⟨h,b⟩ | ⟨h,b⟩ | ⟨h,b⟩<;>first | exact b | exact ue h (by decide)
    rw[j];exact⟨d,_,3,rfl,e,T.Z0.F,T.zy,rfl,rfl,fun z=>ue z (by decide)⟩
   ·obtain⟨d,rfl,e⟩:=p;have j:X=t.jk:=by rcases l with⟨h,b⟩ | ⟨h,b⟩ | ⟨h,b⟩ | ⟨h,b⟩ | ⟨h,b⟩<;>first | exact b | exact ue h (by decide)
    rw[j];exact⟨d,_,3,rfl,e,T.qr.F,T.qJ,by rw[qq];exact vA (by decide +kernel),rfl,fun _=>⟨T.qB,by rw[qq];exact va rfl⟩⟩
   ·obtain⟨d,rfl,e⟩:=p;have j:X=t.jq:=by rcases l with⟨h,b⟩ | ⟨h,b⟩ | ⟨h,b⟩ | ⟨h,b⟩ | ⟨h,b⟩<;>first | exact b | exact ue h (by decide)
    rw[j];refine⟨d,_,rowN n,rfl,e,T.QH.F,T.Qm,rfl,?_,fun z=>ue z (by decide)⟩;show some (V.int (6-if decide (10^6<3+n)=true then 1 else 0))=_;unfold rowN;by_cases g:n+3>10^6
    ·rw[va g,va (vK (by lia))];rfl
    ·rw[vA g,vA (fun z=>g (by have:=of_decide_eq_true z;lia))];rfl
  exists ixLm (SqL.of t1) (L) ?_;exists ke ?_;exists⟨a,X,d,f,_,rfl,s1 _ _ o,s1 _ _ e,F,u,B,?_⟩;exists⟨_,_,_,_,rfl,.int _,j0x,?_⟩;exists iteF ?_;exists ke ?_;exists⟨a,X,d,f,_,rfl,s1 _ _ o,s1 _ _ e,F,u,B,?_⟩;exists⟨_,_,_,_,rfl,.int _,xT,?_⟩;exists iteF ?_;exists ke ?_;exists⟨a,X,d,f,_,rfl,s1 _ _ o,s1 _ _ e,F,u,B,?_⟩;exists iteN (fun z=>ue rfl z) (fun _=>?_);walk_at"g";by_cases m:k=3
  ·refine iteB0 (by rw[vK m];rfl) ?_;exists ke ?_;exists⟨a,X,d,f,_,rfl,s1 _ _ o,s1 _ _ e,F,(C m).1,(C m).2,?_⟩;walk_at"g";rw[vK rfl];exact q H1 s1
  ·refine iteB1 (by rw[vL m];rfl) ?_;exact q H1 s1
theorem j3M(T:Txt K mg t)(qG:FnOk P w K mg base CX0 1 t.Jy t.qb ["self"] (sp_initD t.jO))(Qq:FnOk P w K mg base CX0 7 t.qm t.qp ["self","row"] (sp_sayD t.jO))(Zp:FnOk P w K mg base CX0 1 t.zk t.zn ["_law_cell"] (sp_textL))(qX:FnOk P w K mg base CX0 9 t.zK t.zQ ["_law_desk","_law_name","_law_text_here"] (sp_errL t.jO t.jx t.ju t.jB t.jk t.jq))(QM:FnOk P w K mg base CX0 1 t.zm t.zo ["_law_error_here","_law_due"] (W9 t.jx t.ju t.jB t.jk t.jq))(QS:FnOk P w K mg base CX0 1 t.qH t.qI ["_law_error_here","_law_due","_law_long"] (sp_rowT t.jx t.ju t.jB t.jk t.jq)):FnOk P w K mg base CX0 10 t.j18 t.XV ["_law_script"] (Pr.sp_law K):=by
 specialize T.j16.F.ok QX;obtain⟨a,ns,rfl,hS,ag,hB,q⟩:=h;refine⟨_,(jc (js (i:=1) QX.nd rfl (.inl rfl) (WT T.j17 (qG.mono (by decide)) hr (by rfl) T.X9 T.Zj .nil pass0))
  (jc (js (i:=2) QX.nd rfl (.inl rfl) (WT T.j17 (qG.mono (by decide)) hr (by rfl) T.X9 T.Zj .nil pass0))
  (jc (js (i:=3) QX.nd rfl (.inl rfl) zD)
  (jc (QT PassesOwn.never rfl (jS (zf ZZ (pv 0) Za (Qf je))) (jp (i:=4) QX.nd rfl (.inl rfl))
   (jc (js (i:=5) QX.nd rfl (.inl rfl) (jt jM (J3 (ja jm (ja jm (ja jm (ja jm (ja jm (ja jm jb))))))) (Jc Zy (Jc yT (pv 4) je) je)))
   (jc (js (i:=6) QX.nd rfl (.inl rfl) (Jc yT (pv 4) je))
   (jc (js (i:=7) QX.nd rfl (.inl rfl) (jt jM (J3 (ja jC (ja je (ja je (ja je (ja je (ja jC jb))))))) (Jc Zy (pv 6) je)))
   (jc (Qg (jh zX (pv 5) (zZ (ja jm (ja jm (ja jm jb)))) (by with_unfolding_all rfl))
    (jf (js (i:=7) QX.nd rfl (.inl rfl) je))
    jn)
   (jc (js (i:=8) QX.nd rfl (.inl rfl) (jo T.QY qX hr (ja (pv 1) (ja (pv 5) (ja (jo T.YG Zp hr (ja (pv 6) jb)) jb)))))
   (jc (js (i:=9) QX.nd rfl (.inl rfl) (Jc j1P je (Jc Zy (Jc yT (pv 6) je) (Jc yw je je))))
   (jc (jI (PW.pt (Qh (qD (QB (jo T.zi QM hr (ja (pv 8) (ja (pv 7) jb))))) (QC (qD (QB (jo T.Zk QS hr (ja (pv 8) (ja (pv 7) (ja (pv 9) jb)))))))))
    (jf (jw ya))
    jn)
   (jc (Qg (jh Qc (pv 7) jC (nomark _))
    (jf (ZV (Qn hr) (pv 3) (pv 5) (pv 9) rfl))
    jn)
   (jf (QT PassesOwn.never rfl (jS (J3 (ja jm (ja jm (ja jm jb))))) (jp (i:=10) QX.nd rfl (.inl rfl))
    (jf (jI (Yu (wN (Qn hr) (pv 10) (pv 3)))
     (jf (jI (jh Z9 (wQ (pv 1) T.QI T.Zv (Qq.mono (by decide)) hr T.yc .nil pass0 (ja (Jc qM jm (pv 10)) jb)) (qS Ye (by rfl) T.j1e xA (ja (yV (Qn hr) (pv 3) (pv 10)) jb)) (nomark _))
      (jf (jw ya))
      jn))
     (jf (jI (qD (QB (jo T.zi QM hr (ja (jo T.QY qX hr (ja (pv 1) (ja (pv 10) (ja jC jb)))) (ja je jb)))))
      (jf (jw ya))
      jn)))))))))))))))
  (jf (jw (jo T.zi QM hr (ja (jo T.QY qX hr (ja (pv 2) (ja jm (ja jC jb)))) (ja je jb))))))))),?_⟩
 refine jr (σ':=[some _,none,none,none,none,none,none,none,none,none,none]) rfl ?_
 try dsimp only[cxOf,Cx.nox]
 have sz:(200:Nat)<sizeLine:=by decide
 walk_at"g";intro F ad a3 a4 as;refine⟨F,ad,rfl,ji,fun U H1 k1 ah D1=>⟨rfl,?_⟩⟩;have s1:Same H H1:=fun c u h=>k1 _ _ (jd h a3) ((jg (jd h a3)).trans ((jg (jd h a4)).trans h))
 clear k1 ah;walk_at"g";intro I ae Z W au;refine⟨I,ae,rfl,ji,fun b2 H2 k2 M D2=>⟨rfl,?_⟩⟩;have s2:Same H1 H2:=fun c u h=>k2 _ _ (jd h Z) ((jg (jd h Z)).trans ((jg (jd h W)).trans h))
 have a1:=D1.same s2;have ak:b2≠U:=fun e=>by
  rw[e]at M;have h1:=D1.b;rw[jg (jd h1 Z),jg (jd h1 W)]at M;rw[h1]at M;cases M
 walk_at"g";intro g a0;have s3:Same H2 (upd H2 g (.dK [])):=fun c u h=>(jg (jd h a0)).trans h
 have k3:upd H2 g (.dK []) g=some (.dK []):=ji;generalize upd H2 g (.dK [])=H3 at s3 k3|-;have am:=s1.trans (s2.trans s3);exists⟨a,_,rfl,am.seq hS,?_⟩;walk_at"f p hp H4 s4 t4";refine⟨p,rfl,⟨_,SqL.of t4⟩,?_⟩;have a9:DW t.jO H4 F U I b2 g p (cutV (ns.map V.int) none (some 10)) [] []:=
  ⟨(a1.same s3).same s4,(D2.same s3).same s4,s4 _ _ k3,t4,fun x=>.inl ⟨rfl,rfl⟩,ak,(jd a1.b a0).symm,jd D2.b a0⟩
 have cl:(cutV (ns.map V.int) none (some 10)).length<=63:=vZ (Zq _ _ _) (by rw[vt];exact ag);refine zC (xs:=cutV (ns.map V.int) none (some 10)) (fun i σ C=>IvE9 fun(o4 o5 o6 o7 o8 o9 f:Option V) (bs ks:List (Key×V))=>IvA3 (σ=[some (.ref a),some (.ref F),some (.ref I),some (.ref g),o4,o5,o6,o7,o8,o9,f]) (DW t.jO C F U I b2 g p (cutV (ns.map V.int) none (some 10)) bs ks) (bs.length<=i/\ks.length<=i))
  ⟨_,_,_,_,_,_,_,[],[],rfl,a9,vB _,vB _⟩ ?_ ?_ ?_
 ·rintro i σ C _ ⟨o4,o5,o6,o7,o8,o9,f,bs,ks,rfl,D,_,_⟩;exact SqL.of D.l
 ·rintro i v σ C hv ⟨o4,o5,o6,o7,o8,o9,f,bs,ks,rfl,D,bl,kl⟩;obtain⟨c,hc,rfl⟩:=Pr.j2M (vj hv);have hi:=(vx.mp hv).1;have ar:i<63:=by lia
  exists⟨(by show 6<=sizeLine;lia),?_⟩;walk_at"f 5 t";walk_at"g";obtain⟨x,hx,x6⟩:=j4e (c:=c/7%6) (by lia) (by lia);refine ixLm (SqL.of t5) (hx) ?_;exists⟨(by show 6<=sizeLine;lia),?_⟩;walk_at"f 6 t";exists ixLm (SqL.of t6) (j3v (c:=c/42%6) (by lia) (by lia)) ?_;have D6:=(D.same s5).same s6;clear t5 t6 hx D hp5 hp6 s5 s6 hv;generalize em:c/42=m;clear em;exists⟨fun σ' C=>σ'=[some (.ref a),some (.ref F),some (.ref I),some (.ref g),some (.int c),some (.str x),some (.int m),some (dueV x (m%6)),o8,o9,f]/\Same H6 C,?_,?_⟩
  rotate_left
  ·exists⟨(by show 3<=sizeLine;lia),?_⟩;walk_at"f 7 t";exists⟨p7,_,rfl,.inr (SqT.of t7),rfl,rfl,?_⟩;refine⟨_,rfl,?_⟩;have iv:inV (.str x) [.str "one",.str "two",.str "three"]=decide (x∈n3):=by
    have:∀x∈n6,inV (.str x) [.str "one",.str "two",.str "three"]=decide (x∈n3):=by decide +kernel
    exact this x x6
   by_cases e:x∈n3
   ·refine iteB0 (by rw[va rfl,iv,vK e];rfl) ?_;walk_at"g";exact⟨by unfold dueV;rw[va e],s7⟩
   ·refine iteB1 (by rw[va rfl,iv,vL e];rfl) ?_;walk_at"g";exact⟨by unfold dueV;rw[vA e],s7⟩
  rintro σ' H7 ⟨rfl,s7⟩;have D7:=D6.same s7;exists⟨m,rfl,fun H8 s8=>?_⟩;have D8:=D7.same s8;have eL:4+m/6%10^18=3+(1+m/6%10^18):=by lia
  have n0:1<=1+m/6%10^18:=by lia
  have n1:1+m/6%10^18<=10^18:=by lia
  have c0:0<=m%6:=by lia
  have c6:m%6<6:=by lia
  clear D6 D7 s7 s8;exists j3y D8.d (by lia) x6 n0 n1 c0 c6 fun v H9 O=>?_
  walk_at"g";rw[eL];generalize 1+m/6%10^18=n at *;exists⟨_,_,rfl,?_,fun an R=>?_⟩
  ·rcases O with⟨rfl,e,_⟩ | ⟨k,X,ex,dd,J,rfl,e,ck,fk,s9,Y,hf⟩
   ·exact .inl ⟨rfl,e⟩
   ·exact .inr ⟨ex,X,dd,k,rfl,e,Y,ck⟩
  exists iteF ?_;exists⟨_,_,n,rfl,?_,fun aa a6=>?_⟩
  ·rcases O with⟨rfl,e,_⟩ | ⟨k,X,ex,dd,J,rfl,e,ck,fk,s9,Y,hf⟩
   ·exact .inl ⟨rfl,e⟩
   ·refine .inr ⟨ex,X,dd,k,J,rfl,e,n0,n1,R _ _ Y,ck,?_,fk⟩;cases J with
    | none=>exact hf
    | some fs=>
     obtain⟨dx,e1,e2⟩:=hf;exact⟨dx,e1,R _ _ e2⟩
  exists iteF ?_;walk_at"g";have d:=R.trans a6;refine⟨fun σ' C=>IvE2 fun(l G:List (Key×V))=>IvA3 (σ'=[some (.ref a),some (.ref F),some (.ref I),some (.ref g),some (.int c),some (.str x),some (.int m),some (dueV x (m%6)),some v,some (.int (3+n)),f]) (DW t.jO C F U I b2 g p (cutV (ns.map V.int) none (some 10)) l G) (l.length<=i+1/\G.length<=i+1),?_,?_⟩
  rotate_left
  ·exists⟨rfl,_,rfl,?_⟩;rcases O with⟨rfl,e,b,k9,D9,hb⟩ | ⟨k,X,ex,dd,J,rfl,e,ck,fk,s9,Y,hf⟩
   ·refine iteB1 (vK e) ?_;walk_at"g";have a5:∀c u,c≠U->H8 c=some u->aa c=some u:=fun c u hc h=>d _ _ (k9 _ _ hc h)
    refine⟨g,_,rfl,DPut.k (k:=Sum.inr x) (a5 _ _ D8.n1k D8.k) (by lia),?_⟩;exact⟨_,_,rfl,D8.put a5 (D9.same d) (hb.keep (fun _ _ h=>d _ _ h) (fun _ _ h=>d _ _ h)),vZ (WX _ _ _) (by lia),vZ (WX _ _ _) (by lia)⟩
   ·refine iteB0 (vL (by rw[e];exact fun z=>by cases z)) ?_;walk_at"g";exact⟨bs,ks,rfl,D8.same (s9.trans d),by lia,by lia⟩
  rintro σ' ao ⟨l,G,rfl,a8,ac,ai⟩;clear O D8 R a6 d;exists⟨(by show 3<=sizeLine;lia),?_⟩;walk_at"f pn hpn H13 s13 t13";exists⟨pn,rfl,⟨_,SqL.of t13⟩,?_⟩;refine zC (xs:=[V.str "one",V.str "two",V.str "three"]) (fun j σ C=>IvE1 fun(f:Option V)=>IvA2 (σ=[some (.ref a),some (.ref F),some (.ref I),some (.ref g),some (.int c),some (.str x),some (.int m),some (dueV x (m%6)),some v,some (.int (3+n)),f]) (DW t.jO C F U I b2 g p (cutV (ns.map V.int) none (some 10)) l G/\C pn=some (.lst [V.str "one",V.str "two",V.str "three"]))) ⟨_,rfl,a8.same s13,t13⟩ ?_ ?_ ?_
  ·rintro j σ C _ ⟨o,rfl,D,N⟩;exact SqL.of N
  ·rintro j y σ C hy ⟨o,rfl,D,N⟩;obtain⟨z,rfl,z3⟩:∃z:Str,y = .str z/\z∈n3:=by
    have:=vj hy;simp only[mem_cons,not_mem_nil,or_false]at this;rcases this with rfl | rfl | rfl
    ·exact⟨_,rfl,by decide +kernel⟩
    ·exact⟨_,rfl,by decide +kernel⟩
    ·exact⟨_,rfl,by decide +kernel⟩
   have za:=j1G z3;have zl:=za.n;have gk:=DGet.k (k:=Sum.inr z) D.k;walk_at"g";rcases D.o z with⟨v1,v2⟩ | ⟨L,b,v1,v2,pl,pp,aj,al,ls,ps,gs,hs,B,S,p1,gL,L0,L1⟩
   ·rw[v1]at gk;refine⟨g,_,rfl,gk,_,rfl,?_⟩;refine iteB0 rfl ?_;exists⟨F,z,.non,rfl,.inl ⟨U,l,rfl,D.d,za,v2,fun e ab r Y=>?_⟩⟩;exists⟨_,_,rfl,.inr ⟨e,_,_,0,rfl,rfl,Y,.inl ⟨rfl,rfl⟩⟩,fun aq a7=>?_⟩;exists iteF ?_;walk_at"g";exact⟨_,rfl,D.same (r.trans a7),a7 _ _ (r _ _ N)⟩
   ·rw[v1]at gk;refine⟨g,_,rfl,gk,_,rfl,?_⟩;refine iteB1 rfl ?_;obtain⟨⟨af,od⟩,ob⟩:=D.d;exists⟨F,af,_,rfl,od,Y3 (by decide +kernel),?_⟩;walk_at"g";have l7:(Str.ofString "length ").length=7:=by decide +kernel
    refine⟨_,_,rfl,rfl,by lia,?_⟩;exists⟨F,U,b,pl,pp,l,z,aj,al,ls,ps,gs,hs,rfl,D.d,za,v2,B,S,p1,fun ab r=>?_⟩;have a2:=DGet.k (k:=Sum.inr z) (r _ _ D.k);rw[v1]at a2;exists⟨g,_,rfl,a2,?_⟩;exists .inl ⟨_,rfl,j1A L0 L1,?_⟩;exists iteB0 (by rw[gL,vK (show tI L=Str.ofString (toString L)from rfl)];rfl) ?_;walk_at"g";exact⟨_,rfl,D.same r,r _ _ N⟩
  rintro σ' ap ⟨o,rfl,D,_⟩;exact⟨_,_,_,_,_,_,_,l,G,rfl,D,ac,ai⟩
 rintro σ' H5 ⟨o4,o5,o6,o7,o8,o9,f,bs,ks,rfl,D,bl,kl⟩;exists⟨I,"one",.non,rfl,.inl ⟨b2,[],rfl,D.e,j1G (by decide +kernel),rfl,fun e H6 s6 Y=>?_⟩⟩;exists⟨_,_,rfl,.inr ⟨e,_,_,0,rfl,rfl,Y,.inl ⟨rfl,rfl⟩⟩,fun H7 s7=>?_⟩;exact q H7
theorem j2q(T:Txt K mg t):FnOk P w K mg base CX0 10 t.j18 t.XV ["_law_script"] (Pr.sp_law K):=by
 have I:FnOk P w K mg base CX0 1 t.Jy t.qb _ _:=Yo T;have l:FnOk P w K mg base CX0 1 t.jL t.j4 _ _:=Z3 T;have g:FnOk P w K mg base CX0 1 t.JW t.JZ _ _:=Kw T;have R:FnOk P w K mg base CX0 1 t.zO t.zV _ _:=WP T;have i:=j1N T g R;have L:=j2U T g i;have v:=j1O T L;have B:FnOk P w K mg base CX0 1 t.Ja t.Jz _ _:=Yp T;have k:FnOk P w K mg base CX0 1 t.jE t.jV _ _:=Zx T;have j:=Ku T B k;have a:FnOk P w K mg base (CX1 P w) 3 t.JV t.JY _ _:=kW T B k;have C:FnOk P w K mg base CX0 1 t.QO t.QR _ _:=wL T;have m:=Xk T l i v j C;have d:FnOk P w K mg base (CX1 P w) 5 t.Qw t.Qy _ _:=WI T l i v j C a;have W:=Kx T m;have y:FnOk P w K mg base CX0 1 t.QN t.QQ _ _:=wK T;have z:=wM T y;have O:FnOk P w K mg base CX0 1 t.zM t.zT _ _:=WN T;have o:=WM T z O;have n:=WK T W o;have c:FnOk P w K mg base (CX1 P w) 7 t.qm t.qp _ _:=wH T o;have G:FnOk P w K mg base CX0 1 t.zk t.zn _ _:=wI T;have f:=Xj T y;have x:FnOk P w K mg base CX0 1 t.jQ t.j9 _ _:=yu T;have p:=Xh T z;have S:=WQ T f p;have U:FnOk P w K mg base CX0 1 t.Q0 t.Q2 _ _:=Kv T;have M:=Xi T S U;have r:=Xl T f M;have q:=WO T f p;have u:=j2V T x g r q;have e:FnOk P w K mg base (CX1 P w) 7 t.yn t.yp _ _:=j1M T x g r q;have N:=WJ T f u m;have b:FnOk P w K mg base (CX1 P w) 8 t.qK t.qL _ _:=wG T f u e d;have J:=Kt T N n b c;have D:FnOk P w K mg base CX0 1 t.zm t.zo _ _:=wJ T;have F:FnOk P w K mg base CX0 1 t.qH t.qI _ _:=Yq T;exact j3M T I n G J D F
end
@[elab_as_elim] theorem uu1{P:List Value->Prop}(us:List Value)(hl:us.length=1)(h:∀a0,P [a0]):P us:=match us,hl with | [a0],_=>h a0
theorem bb1{K:Frg}{x q:Str}{st:Stmt}{f:Addr}{k:FuncData}{l:Str}(F:Fun K x q st f k)(h:∀(kV j p:Value) (m:Option Addr) (i n:Value) (a0:Value),bindArgs (W.fnOf x q (defArgs st) (defBody st) (defScope st) .none kV j p m i n) ⟨[a0],[]⟩=pure ([l].zip [a0]):=by intros;rfl):Binds K k [l] []:=F.binds fun a b c d e g r o=>uu1 r o (h a b c d e g)
@[elab_as_elim] theorem uu2{P:List Value->Prop}(us:List Value)(hl:us.length=2)(h:∀a0 a1,P [a0,a1]):P us:=match us,hl with | [a0,a1],_=>h a0 a1
theorem bb2{K:Frg}{x q:Str}{st:Stmt}{f:Addr}{l:FuncData}{m n:Str}(F:Fun K x q st f l)(h:∀(kV j s:Value) (o:Option Addr) (i p:Value) (a0 k:Value),bindArgs (W.fnOf x q (defArgs st) (defBody st) (defScope st) .none kV j s o i p) ⟨[a0,k],[]⟩=pure ([m,n].zip [a0,k]):=by intros;rfl):Binds K l [m,n] []:=F.binds fun a b c d e g t r=>uu2 t r (h a b c d e g)
@[elab_as_elim] theorem uu3{P:List Value->Prop}(us:List Value)(hl:us.length=3)(h:∀a0 a1 a2,P [a0,a1,a2]):P us:=match us,hl with | [a0,a1,a2],_=>h a0 a1 a2
theorem bb3{K:Frg}{x q:Str}{st:Stmt}{f:Addr}{m:FuncData}{n o p:Str}(F:Fun K x q st f m)(h:∀(kV j u:Value) (r:Option Addr) (i s:Value) (a0 k l:Value),bindArgs (W.fnOf x q (defArgs st) (defBody st) (defScope st) .none kV j u r i s) ⟨[a0,k,l],[]⟩=pure ([n,o,p].zip [a0,k,l]):=by intros;rfl):Binds K m [n,o,p] []:=F.binds fun a b c d e g v t=>uu3 v t (h a b c d e g)
@[elab_as_elim] theorem uu4{P:List Value->Prop}(us:List Value)(hl:us.length=4)(h:∀a0 a1 a2 a3,P [a0,a1,a2,a3]):P us:=match us,hl with | [a0,a1,a2,a3],_=>h a0 a1 a2 a3
theorem bb4{K:Frg}{x q:Str}{st:Stmt}{f:Addr}{n:FuncData}{o p r s:Str}(F:Fun K x q st f n)(h:∀(kV j w:Value) (t:Option Addr) (i u:Value) (a0 k l m:Value),bindArgs (W.fnOf x q (defArgs st) (defBody st) (defScope st) .none kV j w t i u) ⟨[a0,k,l,m],[]⟩=pure ([o,p,r,s].zip [a0,k,l,m]):=by intros;rfl):Binds K n [o,p,r,s] []:=F.binds fun a b c d e g y v=>uu4 y v (h a b c d e g)
abbrev Ng(K:Frg)(x:Str)(f:Addr):Prop:=W.nsIn K mainGlobals x=some (some (.ref f))
abbrev N0(K:Frg)(x:Str):Prop:=W.nsIn K mainGlobals x=some none
abbrev Nn(K:Frg)(C:Addr)(x:Str):Prop:=W.findIn K (.ref C) x=some none
abbrev Nx(K:Frg)(C:Addr)(x:Str)(f:Addr):Prop:=W.findIn K (.ref C) x=some (some (.ref f))
abbrev Fn1(K:Frg)(x:Str)(st:Stmt)(f:Addr)(d:FuncData):Prop:=Fun K x x st f d
set_option autoImplicit true in
theorem j46{K:Frg}{h:Heap}{mg:Str->Option Value}(X:K.In h)(G:h.Ns mainGlobals mg)
  {i:Addr}
  (ay:Ng K "Desk" i) (aE:W.plainGet K i Str.empty=true) (aB:W.hasDictIn K i=true) (aF:W.plainOver K i=true) (aG:W.findIn K (.ref i) "__setattr__"= some (some (.builtin "object.__setattr__"))) (aD:W.makesIn K i=true) (aC:W.keepIn K (.ref i)=true) (J0:Nn K i "books")
  {b:Addr}
  (S:Ng K "TooLong" b)
  {a:Addr}
  (D:Ng K "TwoHands" a)
  {f:Addr}
  (az:Ng K "Idle" f)
  {c:Addr}
  (ak:Ng K "NoBook" c)
  (a1:Nx K c "__init__" f1) (i1:W.isFn K (.ref f1)=true) (F1:Fun K "__init__" "NoBook.__init__" Qk f1 d1)
  (a2:Nx K f "__init__" f2) (i2:W.isFn K (.ref f2)=true) (F2:Fun K "__init__" "Idle.__init__" QV f2 d2)
  (a3:Nx K a "__init__" f3) (i3:W.isFn K (.ref f3)=true) (F3:Fun K "__init__" "TwoHands.__init__" qE f3 d3)
  (a4:Nx K b "__init__" f4) (i4:W.isFn K (.ref f4)=true) (F4:Fun K "__init__" "TooLong.__init__" qN f4 d4)
  (a5:Ng K "all_among" f5) (F5:Fn1 K "all_among" zu f5 d5)
  (a6:Ng K "is_word" f6) (F6:Fn1 K "is_word" Yz f6 d6)
  {bH bA:Option Addr} {bK:Array (Option Value)} {bG bF bC bJ b8 bB:Value} {f7:Addr} {T7:Addr} {bI:Value} {bb:Option Addr} {ba:Array (Option Value)} {n7:Nat} {aH:Tok}
  (a7:Ng K "number_of" f7) (l7:K.lookup f7=some ⟨bG,bH,.func (W.fnOf "number_of" "number_of" (defArgs qT) (defBody qT) (defScope qT) (.ref T7) bF bC bJ bA b8 bB),bK⟩) (c7:W.codeIn K b8 "number_of"= true) (k7:W.keepIn K (.ref f7)=true) (t7:K.lookup T7=some ⟨bI,bb,.seq #[.int 80 aH] n7,ba⟩)
  (a8:Ng K "numbers_of" f8) (F8:Fn1 K "numbers_of" Ze f8 d8)
  (a9:Ng K "names_in" f9) (F9:Fn1 K "names_in" yA f9 d9)
  (bc:Ng K "bounded" f10) (aM:Fn1 K "bounded" Yy f10 d10)
  (bd:Ng K "value_of" f11) (aN:Fn1 K "value_of" yB f11 d11)
  (be:Ng K "names_form" f12) (aO:Fn1 K "names_form" Q3 f12 d12)
  (bf:Ng K "form_of" f13) (aP:Fn1 K "form_of" ZY f13 d13)
  (bg:Ng K "part_of" f14) (aQ:Fn1 K "part_of" YB f14 d14)
  (bh:Ng K "limbs_of" f15) (aR:Fn1 K "limbs_of" zh f15 d15)
  (bi:Ng K "read" f16) (aS:Fn1 K "read" Xw f16 d16)
  (bj:Ng K "inner" f17) (aT:Fn1 K "inner" kj f17 d17)
  (bk:Ng K "ends" f18) (aU:Fn1 K "ends" Xv f18 d18)
  (bl:Ng K "moved" f19) (aV:Fn1 K "moved" km f19 d19)
  (bm:Ng K "check_side" f20) (aW:Fn1 K "check_side" qA f20 d20)
  (bn:Ng K "length_of" f21) (aX:Fn1 K "length_of" ZC f21 d21)
  (bo:Ng K "lengths" f22) (aY:Fn1 K "lengths" qf f22 d22)
  (bp:Ng K "say_length" f23) (aZ:Fn1 K "say_length" Zf f23 d23)
  (bq:Ng K "kinds_of" f24) (b0:Fn1 K "kinds_of" yz f24 d24)
  (br:Ng K "asked_in" f25) (b1:Fn1 K "asked_in" Zd f25 d25)
  (b7:Nx K i "__init__" f26) (b9:W.isFn K (.ref f26)=true) (aJ:Fun K "__init__" "Desk.__init__" QU f26 d26)
  (bs:Nx K i "put" f27) (bD:W.isFn K (.ref f27)=true) (aK:Fun K "put" "Desk.put" yy f27 d27)
  (bt:Nx K i "say" f28) (bE:W.isFn K (.ref f28)=true) (aL:Fun K "say" "Desk.say" zg f28 d28)
  (bu:Ng K "_law_text" f29) (b2:Fn1 K "_law_text" ZB f29 d29)
  (bv:Ng K "_law_error" f30) (b3:Fn1 K "_law_error" Zc f30 d30)
  (bw:Ng K "_law_told" f31) (b4:Fn1 K "_law_told" zt f31 d31)
  (bx:Ng K "_law_row_told" f32) (b5:Fn1 K "_law_row_told" QW f32 d32)
  (bz:Ng K "law" f33) (b6:Fn1 K "law" j25 f33 d33)
  {QG:Addr}
  (am:Ng K "ANSWERS" QG) (kk_ANSWERS:FTab K QG [("length",some f23),("stand",none),("rings",none),("sum",none),("at",none),("rung",none),("when",none),("first",none),("jump",none),("drums",none),("back",none),("ever",none),("meet",none)])
  {JL:Addr}
  (l:Ng K "FEWEST_NAMES" JL) (kk_FEWEST_NAMES:TabK K JL [("row",.flat (.int 1)),("side",.flat (.int 2))])
  {j:Tok}
  (k:W.nsIn K mainGlobals "FIGURES_words"= some (some (.str "0123456789" j)))
  {zx:Addr}
  (aA:Ng K "FORMS" zx) (kk_FORMS:TabK K zx [("raise",.tup [.str "limb",.str "height",.str "beats"]),("hold",.tup [.str "beats"]),("ring",.tup [.str "word",.str "beats"]),("again",.tup [.str "times",.str "part"])])
  {E:Tok}
  (an:W.nsIn K mainGlobals "LETTERS"= some (some (.str "abcdefghijklmnopqrstuvwxyz" E)))
  {JC:Addr}
  (n:Ng K "MOST_NAMES" JC) (kk_MOST_NAMES:TabK K JC [("row",.flat (.int 8)),("side",.flat (.int 4))])
  {yE:Addr}
  (aI:Ng K "ROWS" yE) (kk_ROWS:TabK K yE [("length",.tup [.str "name"]),("stand",.tup [.str "name",.str "number"]),("rings",.tup [.str "name",.str "number"]),("sum",.tup [.str "name",.str "limb",.str "number"]),("at",.tup [.str "name",.str "limb",.str "number",.str "number"]),("rung",.tup [.str "name",.str "word",.str "number"]),("when",.tup [.str "name",.str "word",.str "number"]),("first",.tup [.str "name",.str "limb",.str "number",.str "number"]),("jump",.tup [.str "name",.str "number"]),("drums",.tup [.str "name"]),("back",.tup [.str "name"]),("ever",.tup [.str "name",.str "number"])])
  {d:Addr}
  {g:Addr}
  (al:Ng K "NoName" d)
  (m:Ng K "PlayError" g)
  (r:W.specialIn K (.ref g) "__getattribute__"= some (some (.builtin "type.__getattribute__")))
  (A:W.readsIn K g (.type "type")=true)
  (q:W.findCls K (.ref g) (.type "type") "__init__"= some (.val (.builtin "ValueError.__init__")))
  (a0:W.findIn K (.ref c) "__getattribute__"= some (some (.builtin "BaseException.__getattribute__")))
  (ae:Nn K c "__getattr__")
  (Y:W.findIn K (.ref c) "__class__"= some (some (.builtin "object.__class__")))
  (T:W.subIn K (.ref c) (.type "BaseException")=some true)
  (ag:W.subIn K (.ref c) (.type "object")=some true)
  (ab:W.isClsIn K c=true)
  (xx_NoBook:exiIn K c [.type "ValueError",.type "Exception",.type "BaseException",.type "object"] "ValueError.__new__" f1=true)
  (ai:W.findIn K (.ref c) "__setattr__"= some (some (.builtin "object.__setattr__")))
  (xov_NoBook:xovIn K c=true)
  (aj:W.subIn K (.ref c) (.type "ValueError")=some true)
  (ad:W.keepIn K (.ref c)=true)
  (QL:Nn K c "row")
  (Jf:W.exmOne K (.ref c) (.ref g)=some true)
  (Jq:W.kitOne K (.ref c) (.ref a)=some false)
  (qv:W.kitOne K (.ref c) (.ref f)=some false)
  (JO:W.kitOne K (.ref c) (.ref c)=some true)
  (JP:W.kitOne K (.ref c) (.ref d)=some false)
  (JD:W.kitOne K (.ref c) (.ref b)=some false)
  (j5:W.kitOne K (.ref c) (.type "ValueError")=some true)
  (aq:W.findIn K (.ref f) "__getattribute__"= some (some (.builtin "BaseException.__getattribute__")))
  (au:Nn K f "__getattr__")
  (ap:W.findIn K (.ref f) "__class__"= some (some (.builtin "object.__class__")))
  (ao:W.subIn K (.ref f) (.type "BaseException")=some true)
  (av:W.subIn K (.ref f) (.type "object")=some true)
  (ar:W.isClsIn K f=true)
  (xx_Idle:exiIn K f [.type "ValueError",.type "Exception",.type "BaseException",.type "object"] "ValueError.__new__" f2=true)
  (aw:W.findIn K (.ref f) "__setattr__"= some (some (.builtin "object.__setattr__")))
  (xov_Idle:xovIn K f=true)
  (ax:W.subIn K (.ref f) (.type "ValueError")=some true)
  (as:W.keepIn K (.ref f)=true)
  (zy:Nn K f "row")
  (JH:W.exmOne K (.ref f) (.ref g)=some true)
  (JN:W.kitOne K (.ref f) (.ref a)=some false)
  (Ql:W.kitOne K (.ref f) (.ref f)=some true)
  (qt:W.kitOne K (.ref f) (.ref c)=some false)
  (qu:W.kitOne K (.ref f) (.ref d)=some false)
  (qd:W.kitOne K (.ref f) (.ref b)=some false)
  (Jp:W.kitOne K (.ref f) (.type "ValueError")=some true)
  (s:W.findIn K (.ref a) "__getattribute__"= some (some (.builtin "BaseException.__getattribute__")))
  (y:Nn K a "__getattr__")
  (p:W.findIn K (.ref a) "__class__"= some (some (.builtin "object.__class__")))
  (o:W.subIn K (.ref a) (.type "BaseException")=some true)
  (z:W.subIn K (.ref a) (.type "object")=some true)
  (u:W.isClsIn K a=true)
  (xx_TwoHands:exiIn K a [.type "ValueError",.type "Exception",.type "BaseException",.type "object"] "ValueError.__new__" f3=true)
  (B:W.findIn K (.ref a) "__setattr__"= some (some (.builtin "object.__setattr__")))
  (xov_TwoHands:xovIn K a=true)
  (C:W.subIn K (.ref a) (.type "ValueError")=some true)
  (w:W.keepIn K (.ref a)=true)
  (qJ:Nn K a "row")
  (qB:Nn K a "limb")
  (jY:W.exmOne K (.ref a) (.ref g)=some true)
  (j7:W.kitOne K (.ref a) (.ref a)=some true)
  (JS:W.kitOne K (.ref a) (.ref f)=some false)
  (Jt:W.kitOne K (.ref a) (.ref c)=some false)
  (Ju:W.kitOne K (.ref a) (.ref d)=some false)
  (Je:W.kitOne K (.ref a) (.ref b)=some false)
  (jT:W.kitOne K (.ref a) (.type "ValueError")=some true)
  (I:W.findIn K (.ref b) "__getattribute__"= some (some (.builtin "BaseException.__getattribute__")))
  (N:Nn K b "__getattr__")
  (H:W.findIn K (.ref b) "__class__"= some (some (.builtin "object.__class__")))
  (F:W.subIn K (.ref b) (.type "BaseException")=some true)
  (P:W.subIn K (.ref b) (.type "object")=some true)
  (J:W.isClsIn K b=true)
  (xx_TooLong:exiIn K b [.type "ValueError",.type "Exception",.type "BaseException",.type "object"] "ValueError.__new__" f4=true)
  (Q:W.findIn K (.ref b) "__setattr__"= some (some (.builtin "object.__setattr__")))
  (xov_TooLong:xovIn K b=true)
  (R:W.subIn K (.ref b) (.type "ValueError")=some true)
  (L:W.keepIn K (.ref b)=true)
  (Qm:Nn K b "row")
  (j8:W.exmOne K (.ref b) (.ref g)=some true)
  (Jd:W.kitOne K (.ref b) (.ref a)=some false)
  (qe:W.kitOne K (.ref b) (.ref f)=some false)
  (JF:W.kitOne K (.ref b) (.ref c)=some false)
  (JG:W.kitOne K (.ref b) (.ref d)=some false)
  (Js:W.kitOne K (.ref b) (.ref b)=some true)
  (jX:W.kitOne K (.ref b) (.type "ValueError")=some true)
  (zb:W.excIn K d [.type "ValueError",.type "Exception",.type "BaseException",.type "object"] "ValueError.__new__"= true)
  (aa:W.findIn K (.ref d) "__getattribute__"= some (some (.builtin "BaseException.__getattribute__")))
  (af:Nn K d "__getattr__")
  (Z:W.findIn K (.ref d) "__class__"= some (some (.builtin "object.__class__")))
  (U:W.subIn K (.ref d) (.type "BaseException")=some true)
  (ah:W.subIn K (.ref d) (.type "object")=some true)
  (ac:W.isClsIn K d=true)
  (jW:W.exmOne K (.ref d) (.ref g)=some true)
  (Jr:W.kitOne K (.ref d) (.ref a)=some false)
  (qw:W.kitOne K (.ref d) (.ref f)=some false)
  (JQ:W.kitOne K (.ref d) (.ref c)=some false)
  (JR:W.kitOne K (.ref d) (.ref d)=some true)
  (JE:W.kitOne K (.ref d) (.ref b)=some false)
  (j6:W.kitOne K (.ref d) (.type "ValueError")=some true)
  (z0:N0 K "ValueError") (z1:N0 K "all") (z2:N0 K "bool") (z3:N0 K "dict") (z4:N0 K "enumerate") (z5:N0 K "int") (z6:N0 K "isinstance") (z7:N0 K "len") (z8:N0 K "list") (z9:N0 K "max") (bL:N0 K "range") (bM:N0 K "set") (bN:N0 K "sorted") (bO:N0 K "str") (bP:N0 K "sum") (bQ:N0 K "tuple") (bR:N0 K "zip") :
  ∃t:Ad,Txt K mg t:=by
 have F7:=j2F (st:=qT) l7 c7 k7;have M:∀{x v},W.nsIn K mainGlobals x=some (some v)->mg x=some v:=fun e=>W.mg_of X G e
 have O:∀{x},N0 K x->mg x=none:=fun e=>W.mg_none_of X G e
 exact⟨⟨f1,_,f2,_,f3,_,f4,_,f5,_,f6,_,f7,_,T7,f8,_,f9,_,f10,_,f11,_,f12,_,f13,_,f14,_,f15,_,f16,_,f17,_,f18,_,f19,_,f20,_,f21,_,f22,_,f23,_,f24,_,f25,_,f26,_,f27,_,f28,_,f29,_,f30,_,f31,_,f32,_,f33,_,i,c,f,a,b,d,g,_,_,_,_,_,_,_⟩,⟨F1,⟨a1,i1,F1.kp⟩,bb2 F1,F2,⟨a2,i2,F2.kp⟩,bb2 F2,F3,⟨a3,i3,F3.kp⟩,bb3 F3,F4,⟨a4,i4,F4.kp⟩,bb2 F4,⟨F5,M a5,bb2 F5⟩,⟨F6,M a6,bb1 F6⟩,F7,M a7,(FunD.binds (ps:=["text","most"]) (ds:=[]) 2 F7 t7 rfl rfl fun _ _ _ _ _ _ us hl=>match us,hl with | [_,_],_=>⟨_,rfl,rfl⟩),⟨[.int 80 aH],(FunD.binds (ps:=["text","most"]) 1 F7 t7 rfl rfl fun _ _ _ _ _ _ us hl=>match us,hl with | [_],_=>⟨_,rfl,rfl⟩),(.cons ⟨_,rfl⟩ .nil)⟩,⟨F8,M a8,bb1 F8⟩,⟨F9,M a9,bb1 F9⟩,⟨aM,M bc,bb2 aM⟩,⟨aN,M bd,bb4 aN⟩,⟨aO,M be,bb3 aO⟩,⟨aP,M bf,bb4 aP⟩,⟨aQ,M bg,bb3 aQ⟩,⟨aR,M bh,bb1 aR⟩,⟨aS,M bi,bb1 aS⟩,⟨aT,M bj,bb1 aT⟩,⟨aU,M bk,bb1 aU⟩,⟨aV,M bl,bb1 aV⟩,⟨aW,M bm,bb3 aW⟩,⟨aX,M bn,bb2 aX⟩,⟨aY,M bo,bb1 aY⟩,⟨aZ,M bp,bb1 aZ⟩,⟨b0,M bq,bb1 b0⟩,⟨b1,M br,bb1 b1⟩,aJ,⟨b7,b9,aJ.kp⟩,bb1 aJ,aK,⟨bs,bD,aK.kp⟩,bb3 aK,aL,⟨bt,bE,aL.kp⟩,bb2 aL,⟨b2,M bu,bb1 b2⟩,⟨b3,M bv,bb3 b3⟩,⟨b4,M bw,bb2 b4⟩,⟨b5,M bx,bb3 b5⟩,⟨b6,M bz,bb1 b6⟩,⟨aE,aB,aF,aG⟩,⟨aD,b7,b9,aC⟩,M ay,J0,M ak,M az,M D,M S,M al,M m,⟨r,A,q,rfl⟩,⟨xx_NoBook,⟨⟨a0,ae,Y,T,ag,ab⟩,ai,xov_NoBook⟩,aj,i1,ad⟩,QL,Jf,Jq,qv,JO,JP,JD,j5,⟨xx_Idle,⟨⟨aq,au,ap,ao,av,ar⟩,aw,xov_Idle⟩,ax,i2,as⟩,zy,JH,JN,Ql,qt,qu,qd,Jp,⟨xx_TwoHands,⟨⟨s,y,p,o,z,u⟩,B,xov_TwoHands⟩,C,i3,w⟩,qJ,qB,jY,j7,JS,Jt,Ju,Je,jT,⟨xx_TooLong,⟨⟨I,N,H,F,P,J⟩,Q,xov_TooLong⟩,R,i4,L⟩,Qm,j8,Jd,qe,JF,JG,Js,jX,zb,⟨aa,af,Z,U,ah,ac⟩,jW,Jr,qw,JQ,JR,JE,j6,O z0,O z1,O z2,O z3,O z4,O z5,O z6,O z7,O z8,O z9,O bL,O bM,O bN,O bO,O bP,O bQ,O bR,M am,kk_ANSWERS,M l,kk_FEWEST_NAMES,M k,⟨_,rfl⟩,M aA,kk_FORMS,M an,⟨_,rfl⟩,M n,kk_MOST_NAMES,M aI,kk_ROWS⟩⟩
end K52
open PySem PySem.W PyProof.Rows
set_option maxRecDepth 100000 in
set_option maxHeartbeats 0 in
theorem PySem.Challenge.cw_camplay_k52_books_put_holds : PySem.Challenge.rw_camplay_k52_books_put.Holds := by
 w_on;o_law;k_head;(case hw=>w_witness2)
 k_fill
 refine L2.j2i (l:=PySem.Challenge.rw_camplay_k52_books_put) (n:=63) (k:=10) (x:="_law_script") (CX:=L2.CX0) (sp:=Pr.sp_law) rfl (by decide) rfl ⟨rfl,by decide,by decide⟩ (fun w h Y=>PySem.W.kIn_of Y) ?F (fun K H a ns hl hb hO hS=>⟨a,ns,rfl,hS,hl,hb,fun _=>rfl⟩) (fun _ _ _ _ z=>z)
 case F=>
  intro w mg fa h KX G hmg;have TT:∃t:K52.Ad,K52.Txt (L2.KOf KX) mg t:=by
   dsimp only[L2.KOf];refine' K52.j46 KX G ?_ ?_ ?_ ?_ ?_ ?_ ?_ ?_ ?_ ?_ ?_ ?_ ?_ ?_ (L2.jH ?_ ?_ ?_) ?_ ?_ (L2.jH ?_ ?_ ?_) ?_ ?_ (L2.jH ?_ ?_ ?_) ?_ ?_ (L2.jH ?_ ?_ ?_) ?_ (L2.jH ?_ ?_ ?_) ?_ (L2.jH ?_ ?_ ?_) ?_ ?_ ?_ ?_ ?_ ?_ (L2.jH ?_ ?_ ?_) ?_ (L2.jH ?_ ?_ ?_) ?_ (L2.jH ?_ ?_ ?_) ?_ (L2.jH ?_ ?_ ?_) ?_ (L2.jH ?_ ?_ ?_) ?_ (L2.jH ?_ ?_ ?_) ?_ (L2.jH ?_ ?_ ?_) ?_ (L2.jH ?_ ?_ ?_) ?_ (L2.jH ?_ ?_ ?_) ?_ (L2.jH ?_ ?_ ?_) ?_ (L2.jH ?_ ?_ ?_) ?_ (L2.jH ?_ ?_ ?_) ?_ (L2.jH ?_ ?_ ?_) ?_ (L2.jH ?_ ?_ ?_) ?_ (L2.jH ?_ ?_ ?_) ?_ (L2.jH ?_ ?_ ?_) ?_ (L2.jH ?_ ?_ ?_) ?_ (L2.jH ?_ ?_ ?_) ?_ ?_ (L2.jH ?_ ?_ ?_) ?_ ?_ (L2.jH ?_ ?_ ?_) ?_ ?_ (L2.jH ?_ ?_ ?_) ?_ (L2.jH ?_ ?_ ?_) ?_ (L2.jH ?_ ?_ ?_) ?_ (L2.jH ?_ ?_ ?_) ?_ (L2.jH ?_ ?_ ?_) ?_ (L2.jH ?_ ?_ ?_) ?_ ?kk_ANSWERS ?_ ?kk_FEWEST_NAMES ?_ ?_ ?kk_FORMS ?_ ?_ ?kk_MOST_NAMES ?_ ?kk_ROWS ?_ ?_ ?_ ?_ ?_ ?_ ?_ ?_ ?_ ?_ ?_ ?xx_NoBook ?_ ?xov_NoBook ?_ ?_ ?_ ?Jf ?Jq ?qv ?JO ?JP ?JD ?j5 ?_ ?_ ?_ ?_ ?_ ?_ ?xx_Idle ?_ ?xov_Idle ?_ ?_ ?_ ?JH ?JN ?Ql ?qt ?qu ?qd ?Jp ?_ ?_ ?_ ?_ ?_ ?_ ?xx_TwoHands ?_ ?xov_TwoHands ?_ ?_ ?_ ?_ ?jY ?j7 ?JS ?Jt ?Ju ?Je ?jT ?_ ?_ ?_ ?_ ?_ ?_ ?xx_TooLong ?_ ?xov_TooLong ?_ ?_ ?_ ?j8 ?Jd ?qe ?JF ?JG ?Js ?jX ?zb ?_ ?_ ?_ ?_ ?_ ?_ ?jW ?Jr ?qw ?JQ ?JR ?JE ?j6 ?_ ?_ ?_ ?_ ?_ ?_ ?_ ?_ ?_ ?_ ?_ ?_ ?_ ?_ ?_ ?_ ?_
   any_goals first | (show PySem.W.nsIn _ _ _=_;k_is) | (show PySem.W.findIn _ _ _=_;k_is) | k_is
   (case kk_ANSWERS=>(show PyProof.Rows.KTD.tabLook _ _ _ _=true);kernel_rfl)
   (case kk_FEWEST_NAMES=>(show PyProof.Rows.KTD.tabLook _ _ _ _=true);kernel_rfl)
   (case kk_FORMS=>(show PyProof.Rows.KTD.tabLook _ _ _ _=true);kernel_rfl)
   (case kk_MOST_NAMES=>(show PyProof.Rows.KTD.tabLook _ _ _ _=true);kernel_rfl)
   (case kk_ROWS=>(show PyProof.Rows.KTD.tabLook _ _ _ _=true);kernel_rfl)
   (case xx_NoBook=>kernel_rfl)
   (case xov_NoBook=>kernel_rfl)
   (case Jf=>kts_exm)
   (case Jq=>kit_is)
   (case qv=>kit_is)
   (case JO=>kit_is)
   (case JP=>kit_is)
   (case JD=>kit_is)
   (case j5=>kit_is)
   (case xx_Idle=>kernel_rfl)
   (case xov_Idle=>kernel_rfl)
   (case JH=>kts_exm)
   (case JN=>kit_is)
   (case Ql=>kit_is)
   (case qt=>kit_is)
   (case qu=>kit_is)
   (case qd=>kit_is)
   (case Jp=>kit_is)
   (case xx_TwoHands=>kernel_rfl)
   (case xov_TwoHands=>kernel_rfl)
   (case jY=>kts_exm)
   (case j7=>kit_is)
   (case JS=>kit_is)
   (case Jt=>kit_is)
   (case Ju=>kit_is)
   (case Je=>kit_is)
   (case jT=>kit_is)
   (case xx_TooLong=>kernel_rfl)
   (case xov_TooLong=>kernel_rfl)
   (case j8=>kts_exm)
   (case Jd=>kit_is)
   (case qe=>kit_is)
   (case JF=>kit_is)
   (case JG=>kit_is)
   (case Js=>kit_is)
   (case jX=>kit_is)
   (case zb=>k_exc)
   (case jW=>kts_exm)
   (case Jr=>kit_is)
   (case qw=>kit_is)
   (case JQ=>kit_is)
   (case JR=>kit_is)
   (case JE=>kit_is)
   (case j6=>kit_is)
  obtain⟨t,T⟩:=TT;obtain⟨_,_,kV,dc,pm,an,cd,ct,_,e,_⟩:=T.j16.F.ex;have e0:=hmg.symm.trans T.j16.m;cases e0;refine⟨t.XV,fun s v=>?_,fun base _ _=>K52.j2q T⟩;rw[e];exact .of_eq rfl
#print axioms PySem.Challenge.cw_camplay_k52_books_put_holds
