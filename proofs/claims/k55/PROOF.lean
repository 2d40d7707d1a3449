import PyProof.Rows.All
import Wide.All
import OpenK.AllK
import Wide.FinOn
import Lean
import PyProof.EqAt
import PyProof.EqKinds
import PyProof.TupleCall
import PySem.Challenge.RW_camplay_k55_whole_drums_play_alike
set_option Elab.async false
set_option linter.all false
set_option maxRecDepth 100000
set_option maxHeartbeats 4000000
open List (all_cons all_eq_true any_cons any_eq_true append_nil ext_getElem filterMap_cons filter_append filter_cons filter_cons_of_neg filter_cons_of_pos filter_nil flatMap_append flatMap_cons foldl_append foldl_cons forall_mem_cons getD_eq_getElem?_getD getElem_idxOf getElem_map getElem_mem getElem_range getElem_take idxOf_lt_length_of_mem length_cons length_drop length_filter_le length_map length_nil length_pos_of_mem length_range length_set length_singleton length_take length_zip lookup_cons map_append map_congr_left map_cons map_id map_map map_nil map_take mem_append mem_append_left mem_append_right mem_cons mem_cons_of_mem mem_cons_self mem_filter mem_filterMap mem_flatMap mem_iff_getElem mem_map mem_of_mem_take mem_range mem_singleton nil_append nodup_append nodup_cons nodup_nil nodup_range of_mem_zip pairwise_cons pairwise_iff_getElem pairwise_map pairwise_singleton range_succ reverse_cons size_toArray sum_append sum_cons take_length take_of_length_le take_sublist take_zero)
abbrev vz:=@List.getElem?_eq_getElem
abbrev vy:=@List.getD_eq_getElem?_getD
abbrev vx:=@List.getElem?_eq_some_iff
abbrev vv:=@List.getElem?_map
abbrev vt:=@List.length_map
abbrev vq:=@List.mem_cons_self
abbrev vp:=@List.mem_cons_of_mem
abbrev vo:=@List.mem_singleton
abbrev vn:=@List.length_append
abbrev vm:=@List.mem_of_getElem?
abbrev vj:=@List.map_append
abbrev vi:=@List.length_take
abbrev vh:=@List.mem_append
abbrev vg:=@Option.map_eq_some_iff
abbrev vf:=@Int.emod_lt_of_pos
abbrev ve:=@Int.emod_nonneg
abbrev vd:=@if_pos
abbrev vc:=@if_neg
abbrev vb:=@Nat.le_refl
abbrev va:=@Nat.zero_le
abbrev vA:=@Int.le_refl
abbrev vB:=@List.getElem?_append_left
abbrev vC:=@List.getElem?_append_right
abbrev vD:=@Nat.lt_of_le_of_lt
abbrev vE:=@Nat.ne_of_lt
abbrev vF:=@Bool.false_ne_true
abbrev vG:=@decide_eq_true
abbrev vH:=@decide_eq_false
abbrev vI:=@PySem.Heap.lt_size
abbrev vJ:=@PySem.Heap.get?_push_of_some
abbrev vK:=@List.mem_map
abbrev vL:=@Option.some.inj
abbrev vP:=@List.mem_filter
abbrev vQ:=@List.length_cons
abbrev vS:=@List.length_singleton
abbrev vV:=@List.pairwise_cons
abbrev vW:=@Nat.le_trans
abbrev vX:=@Int.le_trans
abbrev vY:=@Nat.le_of_lt
abbrev v6:=@List.mem_range
abbrev v7:=@List.take_length
abbrev v8:=@List.map_map
abbrev v9:=@List.foldl_cons
abbrev uz:=@List.filter_cons
abbrev uy:=@List.map_cons
abbrev ux:=@List.sum_cons
abbrev uw:=@List.mem_of_mem_take
abbrev uv:=@Int.zero_add
abbrev uo:=@Nat.sub_self
abbrev uf:=@PySem.wpAny_bind
abbrev ue:=@PySem.wpAny_pure
abbrev ud:=@absurd
theorem uc:1<=PySem.sizeLine:=by decide
theorem ub:2<=PySem.sizeLine:=by decide
theorem uA:3<=PySem.sizeLine:=by decide
theorem uB:4<=PySem.sizeLine:=by decide
abbrev Frg := PySem.W.Frag
namespace L2
open PySem PySem.Spec PyProof.Rows
noncomputable abbrev Key:=Sum Int Str
noncomputable def keyIs:Key->Value->Bool
 | .inl k,v=>Value.isInt k v
 | .inr x,v=>Value.isStrOf x v
noncomputable def keyH(w:World):Key->Int
 | .inl k=>hashInt k
 | .inr x=>hashStr w x
theorem jW:∀{k:Key} {v:Value},keyIs k v=true->(∃i t,k=Sum.inl i/\v=Value.int i t)\/(∃x t,k=Sum.inr x/\v=Value.str x t)
 | .inl i,v,h=>by
  obtain⟨t,e⟩:=Value.isInt_shape (k:=i) (v:=v) h;exact .inl ⟨i,t,rfl,e⟩
 | .inr x,v,h=>by
  obtain⟨t,e⟩:=Value.isStrOf_shape (x:=x) (v:=v) h;exact .inr ⟨x,t,rfl,e⟩
theorem Ku(i:Int)(t:Tok):keyIs (.inl i) (.int i t)=true:=by simp[keyIs,Value.isInt]
theorem X9(x:Str)(t:Tok):keyIs (.inr x) (.str x t)=true:=by simp[keyIs,Value.isStrOf]
theorem j4a(a b:Int):decide ((Sum.inl a:Key)=Sum.inl b)=(a==b):=by
 by_cases e:a=b
 ·subst e;simp
 ·have h:¬(Sum.inl a:Key)=Sum.inl b:=fun q=>e (Sum.inl.inj q)
  rw[vH h];exact(beq_eq_false_iff_ne.mpr e).symm
theorem j4d(a b:Str):decide ((Sum.inr a:Key)=Sum.inr b)=decide (a=b):=by
 by_cases e:a=b
 ·subst e;simp
 ·have h:¬(Sum.inr a:Key)=Sum.inr b:=fun q=>e (Sum.inr.inj q)
  rw[vH h,vH e]
theorem j4b(a:Int)(b:Str):decide ((Sum.inl a:Key)=Sum.inr b)=false:=vH (fun q=>nomatch q)
theorem j4c(a:Str)(b:Int):decide ((Sum.inr a:Key)=Sum.inl b)=false:=vH (fun q=>nomatch q)
noncomputable def mixKind(prog:Program)(w:World):PySem.KeyKind prog w Key where
 is:=keyIs
 hash:=keyH w
 inj:=fun v a b ha hb=>by
  rcases jW ha with⟨i,t,rfl,rfl⟩ | ⟨x,t,rfl,rfl⟩
  ·rcases jW hb with⟨j,u,rfl,e⟩ | ⟨y,u,rfl,e⟩
   ·injection e with e1 _;rw[e1]
   ·exact nomatch e
  ·rcases jW hb with⟨j,u,rfl,e⟩ | ⟨y,u,rfl,e⟩
   ·exact nomatch e
   ·injection e with e1 _;rw[e1]
 byValue:=fun k v h=>by
  rcases jW h with⟨i,t,rfl,rfl⟩ | ⟨x,t,rfl,rfl⟩<;>rfl
 pyHash:=fun hv h=>by
  rcases jW hv with⟨i,t,rfl,rfl⟩ | ⟨x,t,rfl,rfl⟩
  ·exact wpAny_pyHash_int h
  ·exact wpAny_pyHash_str h
 eqBool:=fun hu hv h=>by
  rcases jW hu with⟨i,t,rfl,rfl⟩ | ⟨x,t,rfl,rfl⟩
  ·rcases jW hv with⟨j,u,rfl,rfl⟩ | ⟨y,u,rfl,rfl⟩
   ·rw[j4a]at h;exact wpAny_eqBool_int h
   ·rw[j4b]at h;exact SeqAt.EqAt.int_str i t y u _ _ _ _ h
  ·rcases jW hv with⟨j,u,rfl,rfl⟩ | ⟨y,u,rfl,rfl⟩
   ·rw[j4c]at h;exact SeqAt.EqAt.str_int x t j u _ _ _ _ h
   ·rw[j4d]at h;exact wpAny_eqBool_str h
 «strs»:=fun k x t v h=>by
  rcases jW h with⟨i,u,rfl,e⟩ | ⟨y,u,rfl,e⟩
  ·exact nomatch e
  ·injection e with e1 _;subst e1;cases v<;>rfl
theorem Wx(prog:Program)(w:World)(i:Int)(t:Tok):(mixKind prog w).is (.inl i) (.int i t)=true:=Ku i t
theorem Wy(prog:Program)(w:World)(x:Str)(t:Tok):(mixKind prog w).is (.inr x) (.str x t)=true:=X9 x t
inductive V where
 | non | bl (b:Bool) | int (i:Int) | str (x:Str) | byt (b:Array UInt8) | flt (b:UInt64) | ref (a:Addr) | ty (n:String)
 deriving DecidableEq
noncomputable def RelV:V->Value->Prop
 | .non,u=>u=Value.none
 | .bl b,u=>u=Value.bool b
 | .int i,u=>∃t,u=Value.int i t
 | .str x,u=>∃t,u=Value.str x t
 | .byt b,u=>∃t,u=Value.bytes b t
 | .flt b,u=>∃t,u=Value.float b t
 | .ref a,u=>u=Value.ref a
 | .ty n,u=>u=Value.type n
noncomputable abbrev Vals:List V->List Value->Prop:=Paired RelV
theorem Vals.length(r:Vals xs us):xs.length=us.length:=Paired.length r
theorem Vals.get:∀{xs:List V} {us:List Value} {i:Nat} {x:V},Vals xs us->xs[i]?=some x->∃u,us[i]?=some u/\RelV x u
 | _,_,_,_,.nil,e=>by simp at e
 | _,_,0,_,.cons r _,e=>by simp at e;subst e;exact⟨_,rfl,r⟩
 | _,_,i+1,x,.cons _ t,e=>by
  obtain⟨u,a,b⟩:=Vals.get (i:=i) (x:=x) t (by simpa using e);exact⟨u,by simpa using a,b⟩
theorem Vals.set(r:RelV x u):∀{xs:List V} {us:List Value} (i:Nat),Vals xs us->Vals (xs.set i x) (us.set i u)
 | _,_,_,.nil=>.nil
 | _,_,0,.cons _ t=>.cons r t
 | _,_,i+1,.cons q t=>.cons q (Vals.set r i t)
theorem Vals.append:∀{xs ys:List V} {us a:List Value},Vals xs us->Vals ys a->Vals (xs++ys) (us++a)
 | _,_,_,_,.nil,s=>s
 | _,_,_,_,.cons r t,s=>.cons r (Vals.append t s)
theorem Vals.take:∀{xs:List V} {us:List Value} (n:Nat),Vals xs us->Vals (xs.take n) (us.take n)
 | _,_,0,_=>.nil
 | _,_,_+1,.nil=>.nil
 | _,_,n+1,.cons r t=>.cons r (Vals.take n t)
theorem Vals.drop:∀{xs:List V} {us:List Value} (n:Nat),Vals xs us->Vals (xs.drop n) (us.drop n)
 | _,_,0,r=>r
 | _,_,_+1,.nil=>.nil
 | _,_,n+1,.cons _ t=>Vals.drop n t
noncomputable def RelO:Option V->Option Value->Prop
 | some v,some u=>RelV v u
 | none,none=>True
 | _,_=>False
noncomputable def KV{κ:Type}:List (κ×V)->List (κ×Value)->Prop:=Paired fun(p:κ×V) (q:κ×Value)=>p.1=q.1/\RelV p.2 q.2
noncomputable def kV:Key->V
 | .inl i=>.int i
 | .inr x=>.str x
inductive HO where
 | lst (xs:List V)
 | tup (xs:List V)
 | dK (kvs:List (Key×V)) | dT (kvs:List (List Key×V))
 | set (S:Int->Bool) (n:Nat)
 | ins (C dx:Addr) (fs:List (Str×V))
 | own (x:Addr)
 | xd (fs:List (Str×V))
 | met (f x:Addr)
 | rng (lo hi:Int)
 | frz (o:Obj) (u:HO)
 | tbl (ps:Array Value)
 | ext (φ:Heap->Prop)
noncomputable abbrev Hp:=Addr->Option HO
noncomputable def upd(H:Hp)(a:Addr)(o:HO):Hp:=fun b=>if b=a then some o else H b
theorem jq{H:Hp}:upd H a o a=some o:=by unfold upd;rw[vd rfl]
theorem jh{H:Hp}(h:b≠a):upd H a o b=H b:=by unfold upd;rw[vc h]
theorem j3y{H:Hp}{a:Addr}{o u:HO}:upd (upd H a o) a u=upd H a u:=by
 funext b;unfold upd;split<;>rfl
theorem Qf{H:Hp}(h:H a=some o)(h':H b=some u)(d:o≠u):a≠b:=by
 intro e;subst e;rw[h]at h';exact d (vL h')
theorem je{H:Hp}(h:H a=some o)(h':H b=none):a≠b:=by
 intro e;subst e;rw[h]at h';cases h'
section
variable(P:Program)(w:World)
noncomputable def ObjOk(H:Hp)(h:Heap)(a:Addr):HO->Prop
 | .lst xs=>xs.length<=sizeLine/\∃(its:List Value) (n:Nat),Vals xs its/\h.get? a=some {cls:=.type "list",data:=.seq its.toArray n}
 | .tup xs=>xs.length<=sizeLine/\∃its:List Value,Vals xs its/\IsTup h a its.toArray
 | .dK kvs=>kvs.length<=sizeLine/\(a==sysModules)=false/\∃vs,KV kvs vs/\h.DictOf (mixKind P w) a vs
 | .dT kvs=>kvs.length<=sizeLine/\(a==sysModules)=false/\∃xs:List (List Key×Addr×Value),
   Paired (fun(p:List Key×V) (q:List Key×Addr×Value)=>p.1=q.1/\H q.2.1=some (.tup (p.1.map kV))/\RelV p.2 q.2.2) kvs xs/\
   ∃o es ep,h.get? a=some o/\o.ExactDict/\o.data = .dict es ep/\es.toList=xs.map (entryOfKey (tupleKind (mixKind P w)))/\(xs.map (·.1)).Nodup
 | .set S n=>h.SetOf (intKind P w) a S n
 | .ins C dx fs=>H dx=some (.own a)/\fs.length<=1000/\dx≠a/\h.get? a=some (PySem.W.instObj C dx)/\
   ∃mA,h.Ns1 dx mA/\(∀f,RelO (fs.lookup f) (mA f))/\PySem.Within mA (fs.map (·.1))
 | .own _=>∃o,h.get? a=some o
 | .xd fs=>∃mA,h.Ns1 a mA/\∀f,RelO (fs.lookup f) (mA f)
 | .rng lo hi=>∃t u v,h.get? a=some {cls:=.type "range",data:=.fields #[.int lo t,.int hi u,.int 1 v]}
 | .frz o u=>h.get? a=some o/\ObjOk H h a u
 | .tbl ps=>h.get? a=some {cls:=.none,data:=.fields ps}
 | .met f x=>h.get? a=some (PySem.W.methodObj (.ref f) (.ref x))
 | .ext φ=>φ h/\(∃o,h.get? a=some o)/\∀h1 h2:Heap,φ h1->(∀o,h1.get? a=some o->h2.get? a=some o)->φ h2
def HOk(H:Hp)(h:Heap):Prop:=∀a o,H a=some o->ObjOk P w H h a o
end
section
variable{P:Program}{w:World}{H H':Hp}{h h':Heap}{a:Addr}{o:HO}
theorem ObjOk.lt(x:ObjOk P w H h a o):a<h.objs.size:=by
 cases o with
 | lst xs=>obtain⟨_,_,_,_,e⟩:=x;exact vI e
 | tup xs=>obtain⟨_,_,_,p⟩:=x;exact p.lt
 | dK kvs=>obtain⟨_,_,_,_,o,_,_,e,_⟩:=x;exact vI e
 | dT kvs=>obtain⟨_,_,_,_,o,_,_,e,_⟩:=x;exact vI e
 | set S n=>obtain⟨o,_,_,_,e,_⟩:=x;exact vI e
 | ins C dx fs=>obtain⟨_,_,_,e,_⟩:=x;exact vI e
 | own y=>obtain⟨_,e⟩:=x;exact vI e
 | xd fs=>obtain⟨_,⟨_,_,_,e,_⟩,_⟩:=x;exact vI e
 | rng lo hi=>obtain⟨_,_,_,e⟩:=x;exact vI e
 | frz ob u=>obtain⟨e,_⟩:=x;exact vI e
 | tbl ps=>exact vI (show h.get? a=some _ from x)
 | met f y=>exact vI (show h.get? a=some _ from x)
 | ext φ=>obtain⟨_,⟨_,e⟩,_⟩:=x;exact vI e
theorem Paired.mapP{d e:Type}{F G:d->e->Prop}:∀{c:List d} {l₂:List e},Paired F c l₂->(∀a b,F a b->G a b)->Paired G c l₂
 | _,_,.nil,_=>.nil
 | _,_,.cons r t,f=>.cons (f _ _ r) (Paired.mapP t f)
theorem ObjOk.stay(x:ObjOk P w H h a o)(k:∀b u,(b=a\/H b=some (.own a))->h.get? b=some u->h'.get? b=some u)
  (D:∀b,H b=some (.own a)->H' b=some (.own a)) (E:∀b xs,H b=some (.tup xs)->H' b=some (.tup xs)):ObjOk P w H' h' a o:=by
 induction o with
 | lst xs=>obtain⟨z,l,n,r,e⟩:=x;exact⟨z,l,n,r,k _ _ (.inl rfl) e⟩
 | tup xs=>obtain⟨z,l,r,g,e,c⟩:=x;exact⟨z,l,r,g,k _ _ (.inl rfl) e,c⟩
 | dK kvs=>obtain⟨z,y,G,r,g,j,i,e,c⟩:=x;exact⟨z,y,G,r,g,j,i,k _ _ (.inl rfl) e,c⟩
 | dT kvs=>
  obtain⟨z,y,xs,r,g,j,i,e,c⟩:=x;exact⟨z,y,xs,Paired.mapP r fun p q z=>⟨z.1,E _ _ z.2.1,z.2.2⟩,g,j,i,k _ _ (.inl rfl) e,c⟩
 | set S n=>obtain⟨g,j,i,t,e,c⟩:=x;exact⟨g,j,i,t,k _ _ (.inl rfl) e,c⟩
 | ins C dx fs=>
  obtain⟨d,z,F,e,m,⟨s,j,i,B,c⟩,r⟩:=x;exact⟨D _ d,z,F,k _ _ (.inl rfl) e,m,⟨s,j,i,k _ _ (.inr d) B,c⟩,r⟩
 | own y=>obtain⟨g,e⟩:=x;exact⟨g,k _ _ (.inl rfl) e⟩
 | xd fs=>obtain⟨m,⟨s,j,i,e,c⟩,r⟩:=x;exact⟨m,⟨s,j,i,k _ _ (.inl rfl) e,c⟩,r⟩
 | rng lo hi=>obtain⟨t,u,v,e⟩:=x;exact⟨t,u,v,k _ _ (.inl rfl) e⟩
 | frz g u ih=>obtain⟨e,q⟩:=x;exact⟨k _ _ (.inl rfl) e,ih q⟩
 | tbl ps=>
  have e:h.get? a=some {cls:=.none,data:=.fields ps}:=x;show h'.get? a=some {cls:=.none,data:=.fields ps};exact k a _ (.inl rfl) e
 | met f y=>
  have e:h.get? a=some (PySem.W.methodObj (.ref f) (.ref y)):=x;show h'.get? a=some (PySem.W.methodObj (.ref f) (.ref y));exact k a _ (.inl rfl) e
 | ext φ=>obtain⟨p,⟨o,e⟩,A⟩:=x;exact⟨A _ _ p fun o q=>k _ _ (.inl rfl) q,⟨o,k _ _ (.inl rfl) e⟩,A⟩
theorem HOk.lt(x:HOk P w H h)(e:H a=some o):a<h.objs.size:=(x a o e).lt
theorem HOk.fresh(x:HOk P w H h)(e:h.objs.size<=a):H a=none:=by
 cases q:H a with
 | none=>rfl
 | some u=>exact ud (Nat.lt_of_lt_of_le (x.lt q) e) (Nat.lt_irrefl _)
theorem HOk.kept(x:HOk P w H h)(k:∀b u,h.get? b=some u->h'.get? b=some u):HOk P w H h':=fun a o e=>
 (x a o e).stay (fun b u _ q=>k b u q) (fun _ q=>q) fun _ _ q=>q
theorem HOk.laid(x:HOk P w H h)(k:∀b u,h.get? b=some u->h'.get? b=some u)(i:h.objs.size<=a)(d:ObjOk P w (upd H a o) h' a o):HOk P w (upd H a o) h':=fun b u e=>by
 have g:=x.fresh i;by_cases f:b=a
 ·subst f;rw[jq]at e;cases e;exact d
 ·rw[jh f]at e;exact(x b u e).stay (fun c v _ q=>k c v q) (fun c q=>by rw[jh (je q g)];exact q) fun c j q=>by rw[jh (je q g)];exact q
end
def Rd(H:Hp)(a:Addr)(u:HO):Prop:=H a=some u\/∃o,H a=some (.frz o u)
theorem Rd.ok{H:Hp}(r:Rd H a u)(x:HOk P w H h):ObjOk P w H h a u:=by
 rcases r with r | ⟨o,r⟩
 ·exact x a u r
 ·obtain⟨_,q⟩:=x a _ r;exact q
noncomputable def Mut:Option HO->Prop
 | some (.lst _)=>True
 | some (.dK _)=>True
 | some (.dT _)=>True
 | some (.set _ _)=>True
 | some (.ins _ _ _)=>True
 | some (.ext _)=>True
 | _=>False
section
variable{P:Program}{w:World}{H:Hp}{h h':Heap}{x e:Addr}{o':HO}
theorem HOk.write(t:HOk P w H h)(j:Mut (H x))(o:e=x\/H e=some (.own x))(k:∀b u,b≠e->h.get? b=some u->h'.get? b=some u)(m:∃u,h'.get? e=some u)
  (n:ObjOk P w (upd H x o') h' x o'):HOk P w (upd H x o') h':=fun b u q=>by
 have d:∀c y,H c=some (.own y)->c≠x:=fun c y r z=>by subst z;rw[r]at j;exact j
 have f:∀c l,H c=some (.tup l)->c≠x:=fun c l r z=>by subst z;rw[r]at j;exact j
 by_cases g:b=x
 ·subst g;rw[jq]at q;cases q;exact n
 ·rw[jh g]at q;by_cases a:b=e
  ·have p:H b=some (.own x):=by
    rcases o with z | z
    ·exact ud (a.trans z) g
    ·rw[a];exact z
   rw[q]at p;cases p;obtain⟨v,s⟩:=m;exact⟨v,by rw[a];exact s⟩
  ·refine(t b u q).stay (fun c v i r=>k c v ?_ r) (fun c r=>by rw[jh (d c b r)];exact r) fun c l r=>by rw[jh (f c l r)];exact r
   rcases i with rfl | i
   ·exact a
   ·rintro rfl;rcases o with z | z
    ·exact d c b i z
    ·rw[i]at z;cases z;exact g rfl
end
structure Un(fs ex:List Addr)(H H':Hp)(h h':Heap):Prop where
 keep:∀b o,h.get? b=some o->H b=none->b∉fs->b∉ex->h'.get? b=some o
 slot:∀b o,h.get? b=some o->H b=none->b∈fs->b∉ex->∃sl,h'.get? b=some {o with slots:=sl}
 free:∀b o,h.get? b=some o->H b=none->b∉ex->H' b=none
 there:∀b o,h.get? b=some o->b∉ex->∃o',h'.get? b=some o'
 tups:∀b xs,H b=some (.tup xs)->H' b=some (.tup xs)
 frzs:∀b o u,H b=some (.frz o u)->H' b=some (.frz o u)
 tbls:∀b ps,H b=some (.tbl ps)->∃more,H' b=some (.tbl (ps++more))
section
variable{fs fs' ex ex':List Addr}{H H1 H2:Hp}{h h1 h2 h':Heap}{a x e:Addr}{o:HO}
theorem Un.any(u:Un fs ex H H1 h h1)(q:h.get? b=some ob)(n:H b=none)(c:b∉ex):∃d,h1.get? b=some {ob with slots:=d}:=by
 by_cases a:b∈fs
 ·exact u.slot b ob q n a c
 ·exact⟨ob.slots,u.keep b ob q n a c⟩
theorem Un.kept(k:∀b u,h.get? b=some u->h'.get? b=some u):Un fs ex H H h h':=
 ⟨fun b a q _ _ _=>k b a q,fun b a q _ _ _=>⟨a.slots,k b a q⟩,fun _ _ _ n _=>n,fun b a q _=>⟨a,k b a q⟩,fun _ _ q=>q,fun _ _ _ q=>q,fun _ c q=>⟨#[],by rw[q];simp⟩⟩
theorem Un.refl:Un fs ex H H h h:=Un.kept fun _ _ q=>q
theorem Un.laid(k:∀b u,h.get? b=some u->h'.get? b=some u)(d:h.objs.size<=a)(c:H a=none):Un fs ex H (upd H a o) h h' where
 keep:=fun b u q _ _ _=>k b u q
 slot:=fun b u q _ _ _=>⟨u.slots,k b u q⟩
 free:=fun b u q n _=>by rw[jh (vE (Nat.lt_of_lt_of_le (vI q) d))];exact n
 there:=fun b u q _=>⟨u,k b u q⟩
 tups:=fun b e q=>by rw[jh (je q c)];exact q
 frzs:=fun b u e q=>by rw[jh (je q c)];exact q
 tbls:=fun b f q=>⟨#[],by rw[jh (je q c),q];simp⟩
theorem Un.write(c:Mut (H x))(j:e=x\/H e=some (.own x))(k:∀b u,b≠e->h.get? b=some u->h'.get? b=some u)(d:∃u,h'.get? e=some u):Un fs ex H (upd H x o) h h':=by
 have i:∀b,H b=none->b≠x:=fun b n z=>by subst z;rw[n]at c;exact c
 have g:∀b,H b=none->b≠e:=fun b n z=>by
  subst z;rcases j with r | r
  ·exact i b n r
  ·rw[n]at r;cases r
 have f:∀b u,H b=some u->¬Mut (some u)->b≠x:=fun b u q l z=>by subst z;rw[q]at c;exact l c
 refine⟨fun b u q n _ _=>k b u (g b n) q,fun b u q n _ _=>⟨u.slots,k b u (g b n) q⟩,fun b u q n _=>by rw[jh (i b n)];exact n,fun b u q _=>?_,
  fun b m q=>by rw[jh (f b _ q fun z=>z)];exact q,fun b u m q=>by rw[jh (f b _ q fun z=>z)];exact q,fun b p q=>⟨#[],by rw[jh (f b _ q fun z=>z),q];simp⟩⟩
 by_cases a:b=e
 ·subst a;exact d
 ·exact⟨u,k b u a q⟩
end
noncomputable def trk(h:Heap)(H:Hp):List Addr:=(List.range h.objs.size).filter fun a=>(H a).isSome
noncomputable def hidT(h:Heap)(H:Hp):Heap:=PySem.W.hideAll h (trk h H)
theorem X5(h:Heap)(H:Hp):(hidT h H).objs.size=h.objs.size:=PySem.W.hideAll_size _ _
theorem j10{H:Hp}(e:h.get? b=some o)(n:H b=none):(hidT h H).get? b=some o:=
 PySem.W.hideAll_get _ e fun a=>by
  have q:(H b).isSome=true:=(vP.mp a).2;rw[n]at q;simp at q
theorem j35{H:Hp}(e:(hidT h H).get? b=some o):h.get? b=some o/\H b=none:=by
 have a:h.get? b=some o:=PySem.W.of_hideAll (trk h H) e;refine⟨a,?_⟩;cases q:H b with
 | none=>rfl
 | some x=>
  have c:b∈trk h H:=vP.mpr ⟨v6.mpr (vI a),by simp[q]⟩;have z:(hidT h H).get? b=none:=PySem.W.hideAll_none (trk h H) c;rw[z]at e;cases e
structure Mod(K:Frg)(mg:Str->Option Value)(base:Heap):Prop where
 kin:K.In base
 glob:base.Ns mainGlobals mg
 blt:∃mb,base.Ns builtinsNs mb/\∀x:Str,x≠"__name__"->mb x=bootBuiltins x
 nolimit:base.NoLimit
structure Cx where
 prog:Program
 w:World
 K:Frg
 mg:Str->Option Value
 base:Heap
 A:Around
 N:List Str
 s₀:Shared
 H₀:Hp
 env:Env
 outer:List Env
 stack:List Env
 ex:List Addr
 fn:Str->Bool
 calm:Bool
 pn:List (Addr×Obj)
 xe:Value->Shared->Prop
noncomputable def frs(l:List Env):List Addr:=l.filterMap (·.frame)
noncomputable abbrev Cx.fs(X:Cx):List Addr:=frs X.outer
def Vis(sc:Scope)(x:Str):Prop:=sc.names.lookup x=some .local\/sc.names.lookup x=some .cell\/sc.names.lookup x=some .free
def Loc(sc:Scope)(x:Str):Prop:=sc.names.lookup x=some .local\/sc.names.lookup x=some .cell
def Look(env:Env)(h:Heap)(m:Str->Option Value)(x:Str)(u:Value):Prop:=
 (env.kindOf x=some .local/\m x=some u)\/((env.kindOf x=some .cell\/env.kindOf x=some .free)/\∃c,env.cells.lookup x=some c/\h.IsCell c (some u))
structure Cx.Ok(X:Cx):Prop where
 mod:Mod X.K X.mg X.base
 kind:X.env.scope.kind = .function
 glob:X.env.globals=mainGlobals
 blt:X.env.builtins=builtinsNs
 above:X.s₀.heap.objs.size<=X.env.locals
 inj:∀x y c,X.env.cells.lookup x=some c->X.env.cells.lookup y=some c->x=y
 has:∀x,(X.env.kindOf x=some .cell\/X.env.kindOf x=some .free)->∃c,X.env.cells.lookup x=some c
 cab:∀x c,X.fn x=true->X.env.cells.lookup x=some c->X.s₀.heap.objs.size<=c
 hd:X.calm=true->X.A.handled=none
 frames:X.A.frames=some X.stack
 stk:X.stack=X.outer\/(X.stack=X.env::X.outer/\X.env.frame=some X.env.locals)
 exf:∀b∈X.ex,b≠X.env.locals/\∀x c,X.env.cells.lookup x=some c->c≠b
 bs:∀b o,X.base.get? b=some o->X.s₀.heap.get? b=some o/\X.H₀ b=none
 bsz:X.base.objs.size<=X.s₀.heap.objs.size
 noex:∀b o,X.base.get? b=some o->b∉X.ex
 exfs:∀b∈X.ex,b∉X.fs
 funs:X.s₀.heap.FunFrames X.base X.outer
 frf:∀b∈X.fs,X.H₀ b=none
structure Inv(X:Cx)(pins:List (Addr×Obj))(σ:List (Option V))(H:Hp)(s:Shared):Prop where
 ok:X.Ok
 os:s.os=X.s₀.os
 bare:AllBare s.gens
 base:Un X.fs X.ex X.H₀ H X.s₀.heap s.heap
 loc:∃m,s.heap.Ns X.env.locals m/\∀(i:Nat) (x:Str) (v:V),X.N[i]?=some x->σ[i]?=some (some v)->Vis X.env.scope x->∃u,RelV v u/\Look X.env s.heap m x u
 cell:∀x c,X.env.cells.lookup x=some c->∃v,s.heap.IsCell c v
 free:H X.env.locals=none
 freeC:∀x c,X.env.cells.lookup x=some c->H c=none
 pin:∀p∈X.pn++pins,s.heap.get? p.1=some p.2/\H p.1=none/\p.1≠X.env.locals/\p.1∉X.fs/\∀v,p.2.data≠.cell v
 hok:HOk X.prog X.w H s.heap
 len:σ.length=X.N.length
section
variable{X:Cx}{pins:List (Addr×Obj)}{σ:List (Option V)}{H H':Hp}{s:Shared}{h':Heap}
theorem Cx.Ok.nofr(c:X.Ok)(e:X.base.get? b=some o):b∉X.fs:=fun a=>by
 have:=(c.funs.mem a).1;rw[e]at this;cases this
theorem Inv.bs(I:Inv X pins σ H s):∀b o,X.base.get? b=some o->s.heap.get? b=some o/\H b=none:=fun b o e=>
 ⟨I.base.keep b o (I.ok.bs b o e).1 (I.ok.bs b o e).2 (I.ok.nofr e) (I.ok.noex b o e),I.base.free b o (I.ok.bs b o e).1 (I.ok.bs b o e).2 (I.ok.noex b o e)⟩
theorem Inv.bk(I:Inv X pins σ H s):∀b o,X.base.get? b=some o->s.heap.get? b=some o:=fun b o e=>(I.bs b o e).1
theorem Inv.mod(I:Inv X pins σ H s):Mod X.K X.mg X.base:=I.ok.mod
theorem Inv.kIn(I:Inv X pins σ H s):X.K.In s.heap:=I.ok.mod.kin.keeps I.bk
theorem Inv.lt(I:Inv X pins σ H s):X.env.locals<s.heap.objs.size:=let ⟨_,hn,_⟩:=I.loc;hn.lt
theorem Inv.sz(I:Inv X pins σ H s):X.s₀.heap.objs.size<=s.heap.objs.size:=vW I.ok.above (vY I.lt)
theorem Inv.nofs(I:Inv X pins σ H s)(h:s.heap.objs.size<=a):a∉X.fs:=fun b=>by
 obtain⟨_,o,c,_⟩:=I.ok.funs.mem b;exact ud (Nat.lt_of_lt_of_le (vI c) (vW I.sz h)) (Nat.lt_irrefl _)
theorem Inv.cne(I:Inv X pins σ H s):∀x c,X.env.cells.lookup x=some c->c≠X.env.locals:=fun x c e z=>by
 obtain⟨v,o,f,d⟩:=I.cell x c e;obtain⟨m,⟨i,h,g,b,a,_⟩,_⟩:=I.loc;rw[z,b]at f;cases f;rw[a]at d;cases d
theorem Inv.funs(I:Inv X pins σ H s):s.heap.FunFrames X.base X.outer:=by
 have a:∀(l:List Env),(∀b∈frs l,b∈X.fs)->X.s₀.heap.FunFrames X.base l->s.heap.FunFrames X.base l:=by
  intro l
  induction l with
  | nil=>intro _ _;trivial
  | cons env r ih=>
   intro g j;obtain⟨i,⟨L,o,f,k,m,h⟩,n⟩:=j;have c:L∈X.fs:=g L (by unfold frs;rw[filterMap_cons,f];exact vq);obtain⟨p,e⟩:=I.base.slot L o m (I.ok.frf L c) c fun z=>I.ok.exfs L z c
   exact⟨i,⟨L,_,f,k,e,h⟩,ih (fun b d=>g b (by unfold frs;rw[filterMap_cons,f];exact vp _ d)) n⟩
 exact a X.outer (fun _ d=>d) I.ok.funs
theorem Inv.stack(I:Inv X pins σ H s):s.heap.FunFrames X.base X.stack:=by
 rcases I.ok.stk with e | ⟨e,a⟩
 ·rw[e];exact I.funs
 ·rw[e];obtain⟨m,b,_⟩:=I.loc;refine .cons (by rw[I.ok.kind];decide) a b ?_ I.funs;exact Heap.get?_none_of_le (vW I.ok.bsz I.ok.above)
theorem Inv.stkSub(I:Inv X pins σ H s):∀b∈frs X.stack,b∈X.env.locals::X.fs:=fun b a=>by
 rcases I.ok.stk with e | ⟨e,c⟩
 ·rw[e]at a;exact vp _ a
 ·rw[e]at a;unfold frs at a;rw[filterMap_cons,c]at a;exact a
theorem Inv.stkFree(I:Inv X pins σ H s):∀b∈frs X.stack,H b=none:=fun b a=>by
 rcases mem_cons.mp (I.stkSub b a)with e | a
 ·rw[e];exact I.free
 ·obtain⟨_,o,c,_⟩:=I.ok.funs.mem a;exact I.base.free b o c (I.ok.frf b a) fun z=>I.ok.exfs b z a
theorem Inv.step{g':Array GenState}{t':Nat}{d':Drawn}{ch:List Addr}(I:Inv X pins σ H s)
  (h:∀b∈ch,(b∈X.ex\/X.s₀.heap.objs.size<=b)/\b≠X.env.locals/\(∀x c,X.env.cells.lookup x=some c->c≠b)/\∀p∈X.pn++pins,p.1≠b)
  (j:∀b o,b≠X.env.locals->b∉X.fs->b∉ch->s.heap.get? b=some o->H b=none->h'.get? b=some o)
  (A:∀b o,b≠X.env.locals->b∈X.fs->b∉ch->s.heap.get? b=some o->H b=none->∃N,h'.get? b=some {o with slots:=N}) (f:∀b o,b∉ch->s.heap.get? b=some o->H b=none->H' b=none)
  (C:∀b o,b∉ch->s.heap.get? b=some o->∃o',h'.get? b=some o')
  (K:∀b xs,H b=some (.tup xs)->H' b=some (.tup xs)) (F:∀b o u,H b=some (.frz o u)->H' b=some (.frz o u)) (J:∀b ps,H b=some (.tbl ps)->∃more,H' b=some (.tbl (ps++more)))
  (ns:∀m,s.heap.Ns X.env.locals m->h'.Ns X.env.locals m) (M:HOk X.prog X.w H' h') (U:AllBare g') :
  Inv X pins σ H' {s with heap:=h',gens:=g',drawn:=d',toks:=t'}:=by
 have G:∀b o,X.s₀.heap.get? b=some o->b≠X.env.locals:=fun b o e=>vE (Nat.lt_of_lt_of_le (vI e) I.ok.above)
 have y:∀b o,X.s₀.heap.get? b=some o->b∉X.ex->b∉ch:=fun b o e a B=>by
  rcases(h b B).1 with z | z
  ·exact a z
  ·exact ud (Nat.lt_of_lt_of_le (vI e) z) (Nat.lt_irrefl _)
 have g:∀x c,X.env.cells.lookup x=some c->∀v,s.heap.IsCell c v->h'.IsCell c v:=fun x c e v ⟨o,D,L⟩=>by
  have t:c∉ch:=fun z=>(h c z).2.2.1 x c e rfl
  by_cases P:c∈X.fs
  ·obtain⟨N,q⟩:=A c o (I.cne x c e) P t D (I.freeC x c e);exact⟨_,q,L⟩
  ·exact⟨o,j c o (I.cne x c e) P t D (I.freeC x c e),L⟩
 refine⟨I.ok,I.os,U,⟨fun b o e n B a=>?_,fun b o e n B a=>?_,fun b o e n a=>?_,fun b o e a=>?_,fun b xs e=>K b xs (I.base.tups b xs e),fun b o xs e=>F b o xs (I.base.frzs b o xs e),fun b ps e=>?_⟩,?_,fun x c e=>?_,?_,fun x c e=>?_,fun p Q=>?_,M,I.len⟩
 ·exact j b o (G b o e) B (y b o e a) (I.base.keep b o e n B a) (I.base.free b o e n a)
 ·obtain⟨N,w⟩:=I.base.slot b o e n B a;obtain⟨O,E⟩:=A b _ (G b o e) B (y b o e a) w (I.base.free b o e n a);exact⟨O,E⟩
 ·obtain⟨o',w⟩:=I.base.there b o e a;exact f b o' (y b o e a) w (I.base.free b o e n a)
 ·obtain⟨o',w⟩:=I.base.there b o e a;exact C b o' (y b o e a) w
 ·obtain⟨Z,w⟩:=I.base.tbls b ps e;obtain⟨m2,E⟩:=J b _ w;exact⟨Z++m2,by rw[E,Array.append_assoc]⟩
 ·obtain⟨m,Y,W⟩:=I.loc;refine⟨m,ns m Y,fun i x v w E T=>?_⟩;obtain⟨u,r,l⟩:=W i x v w E T;refine⟨u,r,?_⟩;rcases l with l | ⟨k,c,e,z⟩
  ·exact .inl l
  ·exact .inr ⟨k,c,e,g x c e _ z⟩
 ·obtain⟨v,z⟩:=I.cell x c e;exact⟨v,g x c e v z⟩
 ·obtain⟨m,⟨o,_,_,D,_⟩,_⟩:=I.loc;exact f _ o (fun z=>(h _ z).2.1 rfl) D I.free
 ·obtain⟨v,o,D,L⟩:=I.cell x c e;exact f c o (fun z=>(h c z).2.2.1 x c e rfl) D (I.freeC x c e)
 ·obtain⟨e,n,R,S,d⟩:=I.pin p Q;have t:p.1∉ch:=fun z=>(h p.1 z).2.2.2 p Q rfl
  exact⟨j p.1 p.2 R S t e n,f p.1 p.2 t e n,R,S,d⟩
theorem Inv.un{t':Nat}(I:Inv X pins σ H s)(u:Un X.fs [] H H' s.heap h')(g:HOk X.prog X.w H' h'):Inv X pins σ H' {s with heap:=h',toks:=t'}:=by
 obtain⟨m,⟨o,p,l,h,r⟩,_⟩:=id I.loc;obtain⟨v,i⟩:=u.any h I.free (by simp);exact I.step (g':=s.gens) (d':=s.drawn) (ch:=[]) (fun _ z=>nomatch z) (fun b o _ f _ e n=>u.keep b o e n f (by simp)) (fun b o _ f _ e n=>u.slot b o e n f (by simp)) (fun b o _ e n=>u.free b o e n (by simp)) (fun b o _ e=>u.there b o e (by simp)) u.tups u.frzs u.tbls (fun q j=>by
  obtain⟨t,d,c,a,k⟩:=j;rw[h]at a;cases a;exact⟨_,d,c,i,k⟩) g I.bare
theorem Inv.call{g':Array GenState}{t':Nat}{d':Drawn}{ch:List Addr}(I:Inv X pins σ H s)(u:Un (frs X.stack) ch H H' s.heap h')(j:HOk X.prog X.w H' h')(q:AllBare g')
  (d:∀b∈ch,(b∈X.ex\/X.s₀.heap.objs.size<=b)/\b≠X.env.locals/\(∀x c,X.env.cells.lookup x=some c->c≠b)/\∀p∈X.pn++pins,p.1≠b) :
  Inv X pins σ H' {s with heap:=h',gens:=g',drawn:=d',toks:=t'}:=by
 obtain⟨m,⟨o,y,w,k,r⟩,_⟩:=id I.loc;obtain⟨C,i⟩:=u.any k I.free fun z=>(d _ z).2.1 rfl
 exact I.step (ch:=ch) d (fun b o i l a e n=>u.keep b o e n (fun z=>(mem_cons.mp (I.stkSub b z)).elim i l) a) (fun b o _ _ a e n=>u.any e n a) (fun b o a e n=>u.free b o e n a) (fun b o a e=>u.there b o e a) u.tups u.frzs u.tbls (fun A t=>by
  obtain⟨B,h,g,f,v⟩:=t;rw[k]at f;cases f;exact⟨_,h,g,i,v⟩) j q
theorem Inv.turned{t':Nat}{it:Addr}(I:Inv X pins σ H s)(k:∀b o,b≠it->s.heap.get? b=some o->h'.get? b=some o)(y:H it=none)(f:it≠X.env.locals)
  (i:it∈X.ex\/X.s₀.heap.objs.size<=it) (j:∀x c,X.env.cells.lookup x=some c->c≠it) (l:∀p∈X.pn++pins,p.1≠it):Inv X pins σ H {s with heap:=h',toks:=t'}:=by
 have d:∀b u,H b=some u->b≠it:=fun b u e z=>by rw[z,y]at e;cases e
 refine I.step (g':=s.gens) (d':=s.drawn) (ch:=[it]) (fun b t=>?_) (fun b o _ _ a e _=>k b o (fun z=>a (by simp[z])) e) (fun b o _ _ a e _=>⟨o.slots,k b o (fun z=>a (by simp[z])) e⟩) (fun _ _ _ _ n=>n)
  (fun b o a e=>⟨o,k b o (fun z=>a (by simp[z])) e⟩) (fun _ _ e=>e) (fun _ _ _ e=>e) (fun b B e=>⟨#[],by rw[e];simp⟩) (fun m w=>?_) (fun b u e=>?_) I.bare
 ·have e:b=it:=by simpa using t
  subst e;exact⟨i,f,j,l⟩
 ·obtain⟨o,h,g,A,r⟩:=w;exact⟨o,h,g,k _ o (Ne.symm f) A,r⟩
 ·refine(I.hok b u e).stay (fun c v a q=>k c v ?_ q) (fun _ q=>q) fun _ _ q=>q
  rcases a with z | z
  ·rw[z];exact d b u e
  ·exact d c _ z
theorem Inv.tok(I:Inv X pins σ H s)(t:Nat):Inv X pins σ H {s with toks:=t}:=I.un (h':=s.heap) (t':=t) Un.refl I.hok
theorem Inv.kept(I:Inv X pins σ H s)(k:∀b u,s.heap.get? b=some u->h'.get? b=some u):Inv X pins σ H {s with heap:=h',toks:=t'}:=I.un (Un.kept k) (I.hok.kept k)
theorem Inv.laid(I:Inv X pins σ H s)(k:∀b u,s.heap.get? b=some u->h'.get? b=some u)(c:s.heap.objs.size<=a)(d:ObjOk X.prog X.w (upd H a o) h' a o) :
  Inv X pins σ (upd H a o) {s with heap:=h',toks:=t'}:=I.un (Un.laid k c (I.hok.fresh c)) (I.hok.laid k c d)
theorem Inv.write(I:Inv X pins σ H s)(f:Mut (H x))(d:e=x\/H e=some (.own x))(k:∀b u,b≠e->s.heap.get? b=some u->h'.get? b=some u)(a:∃u,h'.get? e=some u)
  (c:ObjOk X.prog X.w (upd H x o) h' x o):Inv X pins σ (upd H x o) {s with heap:=h',toks:=t'}:=I.un (Un.write f d k a) (I.hok.write f d k a c)
theorem Inv.weak(I:Inv X pins σ H s)(d:σ'.length=σ.length)(w:∀(i:Nat) v,σ'[i]?=some (some v)->σ[i]?=some (some v)):Inv X pins σ' H s:=
 ⟨I.ok,I.os,I.bare,I.base,let ⟨m,hn,hl'⟩:=I.loc;⟨m,hn,fun i x v a b c=>hl' i x v a (w i v b) c⟩,I.cell,I.free,I.freeC,I.pin,I.hok,d.trans I.len⟩
theorem Inv.pins_of(I:Inv X pins σ H s)(h:∀p∈pins',s.heap.get? p.1=some p.2/\H p.1=none/\p.1≠X.env.locals/\p.1∉X.fs/\∀v,p.2.data≠.cell v):Inv X pins' σ H s:=
 ⟨I.ok,I.os,I.bare,I.base,I.loc,I.cell,I.free,I.freeC,fun p a=>(vh.mp a).elim (fun z=>I.pin p (mem_append_left _ z)) (h p),I.hok,I.len⟩
theorem WB{N:List Str}(e:N.Nodup){i j:Nat}{x:Str}(a:N[i]?=some x)(b:N[j]?=some x):i=j:=by
 obtain⟨f,c⟩:=vx.mp a;obtain⟨g,d⟩:=vx.mp b;exact(List.getElem_inj e).mp (c.trans d.symm)
theorem KJ{M:Model}{A:Around}{E:Value->Shared->Prop}{i:Nat}{x:Str}{v:V}{u:Value}{Q:Unit->Shared->Prop}(I:Inv X pins σ H s)(hN:X.N.Nodup)(hi:X.N[i]?=some x)(w:Loc X.env.scope x)(r:RelV v u)
  (h:∀s',Inv X pins (σ.set i (some v)) H s'->(∃a,Heap.SameBut a s.heap s'.heap/\(a=X.env.locals\/X.env.cells.lookup x=some a))->Q () s') (hf:X.fn x=true\/X.env.scope.names.lookup x=some .local:=by first | exact .inl rfl | exact .inr rfl | assumption):wpAny M A (storeName X.env x u) Q E s:=by
 obtain⟨m,hn,hl⟩:=id I.loc;have R:(X.env.scope.kind == .class||(X.env.scope.kind == .module&&X.env.locals != X.env.globals))=false:=by rw[I.ok.kind];rfl
 have D:i<σ.length:=by rw[I.len];exact(vx.mp hi).1
 have G:=I.cne;have l:∀{a:Addr} {N:Heap},(∃o,s.heap.get? a=some o/\H a=none)->Heap.SameBut a s.heap N->HOk X.prog X.w H N:=fun {a N} ha f b ob e=>by
  obtain⟨_,_,B⟩:=ha;refine(I.hok b ob e).stay (fun c Y t q=>(f.2 c ?_).trans q) (fun _ q=>q) fun _ _ q=>q
  rintro rfl;rcases t with rfl | t
  ·rw[B]at e;cases e
  ·rw[B]at t;cases t
 rcases w with F | F
 ·refine wpAny_storeName_local F hn (fun N a0 f=>?_) R;obtain⟨oL,_,_,a1,_⟩:=id hn;refine h _ ⟨I.ok,I.os,I.bare,⟨fun b o e n J w=>?_,fun b o e n J w=>?_,I.base.free,fun b o e w=>?_,I.base.tups,I.base.frzs,I.base.tbls⟩,⟨_,a0,fun j y v' g C Z=>?_⟩,fun y c e=>?_,I.free,I.freeC,fun p hp=>?_,l ⟨oL,a1,I.free⟩ f,by simpa using I.len⟩ ⟨_,f,.inl rfl⟩
  ·exact(f.2 b (vE (Nat.lt_of_lt_of_le (vI e) I.ok.above))).trans (I.base.keep b o e n J w)
  ·obtain⟨sl,g⟩:=I.base.slot b o e n J w;exact⟨sl,(f.2 b (vE (Nat.lt_of_lt_of_le (vI e) I.ok.above))).trans g⟩
  ·obtain⟨o',g⟩:=I.base.there b o e w;exact⟨o',(f.2 b (vE (Nat.lt_of_lt_of_le (vI e) I.ok.above))).trans g⟩
  ·by_cases L:j=i
   ·subst L;rw[hi]at g;cases g;rw[List.getElem?_set_self D]at C;cases C;exact⟨u,r,.inl ⟨F,by simp⟩⟩
   ·rw[List.getElem?_set_ne (Ne.symm L)]at C;obtain⟨u',r',q⟩:=hl j y v' g C Z;refine⟨u',r',?_⟩;rcases q with⟨k,e⟩ | ⟨k,c,e,z⟩
    ·refine .inl ⟨k,?_⟩;have:y≠x:=fun e=>L (WB hN g (e▸hi))
     simp[this,e]
    ·exact .inr ⟨k,c,e,z.sameBut f (G y c e)⟩
  ·obtain⟨Y,z⟩:=I.cell y c e;exact⟨Y,z.sameBut f (G y c e)⟩
  ·obtain⟨e,n,W,nf,d⟩:=I.pin p hp;exact⟨(f.2 p.1 W).trans e,n,W,nf,d⟩
 ·have K:X.fn x=true:=by
   rcases hf with z | z
   ·exact z
   ·rw[z]at F;cases F
  obtain⟨c,t⟩:=I.ok.has x (.inl F);obtain⟨Y,z⟩:=I.cell x c t;refine wpAny_storeName_cell I.ok.kind F t z (fun N O f=>?_);obtain⟨oc,S,T⟩:=id z;refine h {s with heap:=N} ⟨I.ok,I.os,I.bare,⟨fun b o e n J w=>?_,fun b o e n J w=>?_,I.base.free,fun b o e w=>?_,I.base.tups,I.base.frzs,I.base.tbls⟩,⟨m,hn.sameBut f (Ne.symm (G x c t)),fun j y v' g C Z=>?_⟩,fun y U e=>?_,I.free,I.freeC,fun p hp=>?_,l ⟨oc,S,I.freeC x c t⟩ f,by simpa using I.len⟩ ⟨c,f,.inr t⟩
  ·exact(f.2 b (vE (Nat.lt_of_lt_of_le (vI e) (I.ok.cab x c K t)))).trans (I.base.keep b o e n J w)
  ·obtain⟨sl,g⟩:=I.base.slot b o e n J w;exact⟨sl,(f.2 b (vE (Nat.lt_of_lt_of_le (vI e) (I.ok.cab x c K t)))).trans g⟩
  ·obtain⟨o',g⟩:=I.base.there b o e w;exact⟨o',(f.2 b (vE (Nat.lt_of_lt_of_le (vI e) (I.ok.cab x c K t)))).trans g⟩
  ·by_cases L:j=i
   ·subst L;rw[hi]at g;cases g;rw[List.getElem?_set_self D]at C;cases C;exact⟨u,r,.inr ⟨.inl F,c,t,O⟩⟩
   ·rw[List.getElem?_set_ne (Ne.symm L)]at C;obtain⟨u',r',q⟩:=hl j y v' g C Z;refine⟨u',r',?_⟩;rcases q with q | ⟨k,U,e,z'⟩
    ·exact .inl q
    ·refine .inr ⟨k,U,e,z'.sameBut f ?_⟩;rintro rfl;exact L (WB hN g (I.ok.inj _ _ _ e t▸hi))
  ·by_cases P:U=c
   ·subst P;exact⟨_,O⟩
   ·obtain⟨w2,z2⟩:=I.cell y U e;exact⟨w2,z2.sameBut f P⟩
  ·obtain⟨e,n,W,nf,d⟩:=I.pin p hp;refine⟨(f.2 p.1 ?_).trans e,n,W,nf,d⟩;intro q;rw[q,S]at e;have q':oc=p.2:=vL e;exact d Y (by rw[<-q'];exact T)
theorem kI{E:Value->Shared->Prop}{Q:Unit->Shared->Prop}(I:Inv X pins σ H s)(b:X.N.Nodup)(hi:X.N[i]?=some x)(d:Loc X.env.scope x)(r:RelV v u)
  (h:∀s',Inv X pins (σ.set i (some v)) H s'->Q () s') (c:X.fn x=true\/X.env.scope.names.lookup x=some .local:=by first | exact .inl rfl | exact .inr rfl | assumption):wpAny M A (storeName X.env x u) Q E s:=
 KJ I b hi d r (fun s' a _=>h s' a) c
theorem Inv.call'(I:Inv X pins σ H s)(g:s'.os=s.os)(u:Un (frs X.stack) ch H H' s.heap s'.heap)(d:HOk X.prog X.w H' s'.heap)(f:AllBare s'.gens)
  (a:∀b∈ch,(b∈X.ex\/X.s₀.heap.objs.size<=b)/\b≠X.env.locals/\(∀x c,X.env.cells.lookup x=some c->c≠b)/\∀p∈X.pn++pins,p.1≠b):Inv X pins σ H' s':=by
 obtain⟨i,g',d',t',h⟩:=s';have e:h=s.os:=g;subst e;exact I.call (g':=g') (t':=t') (d':=d') u d f a
end
noncomputable abbrev XK:=Value->Option Addr->Hp->Prop
noncomputable abbrev St:=List (Option V)
noncomputable abbrev VK:=V->Hp->Prop
noncomputable abbrev TE:=St->Hp->VK->Prop
noncomputable abbrev TT:=St->Hp->(Bool->Hp->Prop)->Prop
noncomputable abbrev TA:=St->Hp->(List V->Hp->Prop)->Prop
structure Ends where
 nx:St->Hp->Prop
 rt:VK
 bk:St->Hp->Prop:=fun _ _=>False
 ct:St->Hp->Prop:=fun _ _=>False
noncomputable abbrev TS:=Ends->St->Hp->Prop
def EP(X:Cx)(pins:List (Addr×Obj))(σ:St)(Q:VK)(u:Value)(s':Shared):Prop:=∃v H',Inv X pins σ H' s'/\RelV v u/\Q v H'
def TP(X:Cx)(pins:List (Addr×Obj))(σ:St)(Q:Bool->Hp->Prop)(b:Bool)(s':Shared):Prop:=∃H',Inv X pins σ H' s'/\Q b H'
def AP(X:Cx)(pins:List (Addr×Obj))(σ:St)(Q:List V->Hp->Prop)(us:List Value)(s':Shared):Prop:=∃vs H',Inv X pins σ H' s'/\Vals vs us/\Q vs H'
def SP(X:Cx)(pins:List (Addr×Obj))(D:Ends)(f:Flow)(s':Shared):Prop:=
 match f with
 | .next=>∃σ' H',Inv X pins σ' H' s'/\D.nx σ' H'
 | .brk=>∃σ' H',Inv X pins σ' H' s'/\D.bk σ' H'
 | .cont=>∃σ' H',Inv X pins σ' H' s'/\D.ct σ' H'
 | .ret u=>∃v σ' H',Inv X pins σ' H' s'/\RelV v u/\D.rt v H'
def PE(X:Cx)(e:Expr)(t:TE):Prop:=
 ∀(pins:List (Addr×Obj)) (s:Shared) (σ:St) (H:Hp) (Q:VK),Inv X pins σ H s->t σ H Q->wpAny (model X.prog X.w) X.A (eval e X.env) (EP X pins σ Q) X.xe s
def PT(X:Cx)(e:Expr)(t:TT):Prop:=
 ∀(pins:List (Addr×Obj)) (s:Shared) (σ:St) (H:Hp) (Q:Bool->Hp->Prop),Inv X pins σ H s->t σ H Q->wpAny (model X.prog X.w) X.A (isTrue e X.env (eval e X.env)) (TP X pins σ Q) X.xe s
def PW(X:Cx)(e:Expr)(t:TT):Prop:=
 ∀(whole:Sem Value) (pins:List (Addr×Obj)) (s:Shared) (σ:St) (H:Hp) (Q:Bool->Hp->Prop),Inv X pins σ H s->t σ H Q->wpAny (model X.prog X.w) X.A (isTrue e X.env whole) (TP X pins σ Q) X.xe s
theorem PW.pt(h:PW X e t):PT X e t:=h _
def PA(X:Cx)(es:List Expr)(t:TA):Prop:=
 ∀(pos:Pos) (pins:List (Addr×Obj)) (s:Shared) (σ:St) (H:Hp) (Q:List V->Hp->Prop),Inv X pins σ H s->t σ H Q->wpAny (model X.prog X.w) X.A (spliced (backTo pos (starEach es X.env))) (AP X pins σ Q) X.xe s
def PS(X:Cx)(st:Stmt)(t:TS):Prop:=
 ∀(pins:List (Addr×Obj)) (s:Shared) (σ:St) (H:Hp) (D:Ends),Inv X pins σ H s->t D σ H->wpAny (model X.prog X.w) X.A (exec st X.env) (SP X pins D) X.xe s
def PSs(X:Cx)(st:List Stmt)(t:TS):Prop:=
 ∀(pins:List (Addr×Obj)) (s:Shared) (σ:St) (H:Hp) (D:Ends),Inv X pins σ H s->t D σ H->wpAny (model X.prog X.w) X.A (execs st X.env) (SP X pins D) X.xe s
theorem thn{c:Type}{t:Sem c}{Q b:c->Shared->Prop}{M:Model}{A:Around}{E:Value->Shared->Prop}{s:Shared}(h:wpAny M A t Q E s)(d:∀a s,Q a s->b a s):wpAny M A t b E s:=wpAny_mono h d fun _ _ x=>x
section
variable{X:Cx}
def tVar(i:Nat):TE:=fun σ H Q=>∃v,σ[i]?=some (some v)/\Q v H
def tC(v:V):TE:=fun _ H Q=>Q v H
theorem j4t(n:X.N[i]?=some x)(t:Vis X.env.scope x)(j:(x==("__debug__" : Str))=false:=by decide)(g:(x==("__classdict__" : Str))=false:=by decide):PE X (.Name x pos) (tVar i):=by
 intro f s w H Q I h;obtain⟨v,e,h⟩:=h;obtain⟨m,q,o⟩:=I.loc;obtain⟨u,r,l⟩:=o i x v n e t;have b:EP X f w Q u s:=⟨v,H,I,r,h⟩
 rcases l with⟨d,p⟩ | ⟨d,c,k,a⟩
 ·exact wpAny_Name (wpAny_loadName_local I.ok.kind d q p b) j
 ·rcases d with d | d
  ·exact wpAny_Name (wpAny_loadName_cell I.ok.kind d k a b) j
  ·exact wpAny_Name (wpAny_loadName_free I.ok.kind d k a b g) j
theorem jd{i j pos}:PE X (.Constant (.int i) j pos) (tC (.int i)):=fun _ _ _ H _ I h=>wpAny_Constant_int ⟨.int i,H,I.tok _,⟨_,rfl⟩,h⟩
theorem zQ{b j pos}:PE X (.Constant (.bool b) j pos) (tC (.bl b)):=fun _ _ _ H _ I h=>Constant_bool ⟨.bl b,H,I,rfl,h⟩
theorem wQ{j pos}:PE X (.Constant .none j pos) (tC .non):=fun _ _ _ H _ I h=>Constant_none ⟨.non,H,I,rfl,h⟩
theorem jx{x j pos}:PE X (.Constant (.str x) j pos) (tC (.str x)):=fun _ _ _ H _ I h=>Calls.Constant_str ⟨.str x,H,I.tok _,⟨_,rfl⟩,h⟩
def Gl(X:Cx)(x:Str):Prop:=X.env.kindOf x=some .globalImplicit
theorem wx{E:Value->Shared->Prop}{d:St}{H:Hp}{Q:Value->Shared->Prop}(I:Inv X pins d H s)(b:Gl X x)(c:X.mg x=some u)(h:Q u s)
  (a:(x==("__debug__" : Str))=false:=by decide):wpAny (model X.prog X.w) X.A (eval (.Name x pos) X.env) Q E s:=
 Calls.Name_function_global I.ok.kind b (Calls.loadGlobal_global (by rw[I.ok.glob];exact I.mod.glob.keeps I.bk) c h) a
theorem zb{E:Value->Shared->Prop}{i:St}{H:Hp}{Q:Value->Shared->Prop}(I:Inv X pins i H s)(d:Gl X x)(e:X.mg x=none)(g:bootBuiltins x=some u)(h:Q u s)
  (f:x≠"__name__":=by decide) (c:(x==("__debug__" : Str))=false:=by decide):wpAny (model X.prog X.w) X.A (eval (.Name x pos) X.env) Q E s:=by
 obtain⟨j,a,b⟩:=I.mod.blt;exact Calls.Name_function_global I.ok.kind d (Calls.loadGlobal_builtin (by rw[I.ok.glob];exact I.mod.glob.keeps I.bk) e (by rw[I.ok.blt];exact a.keeps I.bk) ((b x f).trans g) h) c
theorem wP(b:Gl X x)(c:X.mg x=some u)(r:RelV v u)(a:(x==("__debug__" : Str))=false:=by decide):PE X (.Name x pos) (tC v):=
 fun _ _ _ H _ I h=>wx I b c ⟨v,H,I,r,h⟩ a
theorem Yz(b:Gl X x)(c:X.mg x=none)(e:bootBuiltins x=some u)(r:RelV v u)(d:x≠"__name__":=by decide)(a:(x==("__debug__" : Str))=false:=by decide):PE X (.Name x pos) (tC v):=
 fun _ _ _ H _ I h=>zb I b c e ⟨v,H,I,r,h⟩ d a
variable{a b:Expr}{ta tb:TE}{pos:Pos}
def PC(X:Cx)(op:CmpOp)(a b:Expr)(t:TE):Prop:=
 ∀(pins:List (Addr×Obj)) (s:Shared) (σ:St) (H:Hp) (Q:VK),Inv X pins σ H s->t σ H Q->
  wpAny (model X.prog X.w) X.A (eval a X.env) (fun v s₁=>wpAny (model X.prog X.w) X.A (eval b X.env) (fun u s₂=>wpAny (model X.prog X.w) X.A (compareOp op v u) (EP X pins σ Q) X.xe s₂) X.xe s₁) X.xe s
def tB(t:TE):TT:=fun σ H Q=>t σ H fun x H1=>∃c,x = .bl c/\Q c H1
theorem j4v{op:CmpOp}{t:TE}(h:PC X op a b t)(f:behindInMarks op b=false:=by first | exact nobehind _ (by decide) (by decide) | rfl):PT X (.Compare a [op] [b] pos) (tB t):=by
 intro e s n H Q I k;refine wpAny_isTrue_Compare1 (thn (h e s n H _ I k) fun v o f=>thn f fun u p j=>thn j fun c r ⟨x,g,i,m,l⟩=>?_) f;obtain⟨d,rfl,q⟩:=l;cases m;exact wpAny_truthy_bool ⟨g,i,q⟩
theorem zT{e:Expr}{t:TE}(h:PE X e t)(g:∀a,isTrue e X.env a=(do let v <-a;standAt e.pos;holding [v] (truthy v)):=by intro _;rfl):PT X e (tB t):=by
 intro b s l H Q I i;refine isTrue_plain (thn (h b s l H _ I i) fun v m ⟨x,c,f,k,j⟩=>?_) (g _);obtain⟨d,rfl,q⟩:=j;cases k;exact wpAny_truthy_bool ⟨c,f,q⟩
variable{tA tB':TT}{rest:List Expr}
def tAnd(t u:TT):TT:=fun σ H Q=>t σ H fun c H1=>if c=true then u σ H1 Q else Q false H1
def tOr(t u:TT):TT:=fun σ H Q=>t σ H fun c H1=>if c=true then Q true H1 else u σ H1 Q
def tNot(t:TT):TT:=fun σ H Q=>t σ H fun c H1=>Q (!c) H1
theorem Zp(d:PT X a tA):PW X (.BoolOp .And [a] pos) tA:=by
 intro i b s f H Q I h;refine isTrue_and (thn (d b s f H Q I h) fun c g e=>?_);cases c with
 | true=>exact isTrue_and_nil e
 | false=>exact e
theorem kx(d:PT X a tA):PW X (.BoolOp .Or [a] pos) tA:=by
 intro i b s f H Q I h;refine isTrue_or (thn (d b s f H Q I h) fun c g e=>?_);cases c with
 | false=>exact isTrue_or_nil e
 | true=>exact e
theorem ZL(j:PT X a tA)(k:PW X (.BoolOp .And (b::rest) pos) tB'):PW X (.BoolOp .And (a::b::rest) pos) (tAnd tA tB'):=by
 intro m d s i H Q I h;refine isTrue_and (thn (j d s i H _ I h) fun c l ⟨e,f,g⟩=>?_);cases c with
 | true=>exact k m d l i e Q f g
 | false=>exact⟨e,f,g⟩
theorem Zy(j:PT X a tA)(k:PW X (.BoolOp .Or (b::rest) pos) tB'):PW X (.BoolOp .Or (a::b::rest) pos) (tOr tA tB'):=by
 intro m d s i H Q I h;refine isTrue_or (thn (j d s i H _ I h) fun c l ⟨e,f,g⟩=>?_);cases c with
 | true=>exact⟨e,f,g⟩
 | false=>exact k m d l i e Q f g
theorem zS(e:PT X a tA):PT X (.UnaryOp .Not a pos) (tNot tA):=by
 intro b s f H Q I h;exact isTrue_not (e b s f H (fun c d=>Q (!c) d) I h)
def tAndV(ta tb:TE):TE:=fun σ H Q=>ta σ H fun x H1=>∃c,x = .bl c/\if c=true then tb σ H1 Q else Q (.bl false) H1
theorem j4r{op}(h:PE X a t):PE X (.BoolOp op [a] pos) t:=fun b s d H Q I c=>BoolOp_one (h b s d H Q I c)
theorem j4q(j:PE X a ta)(k:PE X (.BoolOp .And (b::rest) pos) tb):PE X (.BoolOp .And (a::b::rest) pos) (tAndV ta tb):=by
 intro d s i H Q I h;refine BoolOp_and (thn (j d s i H _ I h) fun v m ⟨x,f,g,l,e⟩=>?_);obtain⟨c,rfl,e⟩:=e;cases l;refine wpAny_truthy_bool ?_;cases c with
 | true=>exact k d m i f Q g e
 | false=>exact⟨.bl false,f,g,rfl,e⟩
def tIf(t:TT)(ta tb:TE):TE:=fun σ H Q=>t σ H fun c H1=>if c=true then ta σ H1 Q else tb σ H1 Q
theorem kq{c:Expr}(n:PT X c tA)(l:PE X a ta)(m:PE X b tb):PE X (.IfExp c a b pos) (tIf tA ta tb):=by
 intro e s f H Q I h;refine wpAny_IfExp (thn (n e s f H _ I h) fun d k ⟨g,i,j⟩=>?_);cases d with
 | true=>exact l e k f g Q i j
 | false=>exact m e k f g Q i j
end
def SqL(K:Frg)(H:Hp)(a:Addr)(xs:List V):Prop:=
 Rd H a (.lst xs)\/
  ∃(o:Obj) (its:Array Value) (n:Nat),K.lookup a=some o/\o.cls = .type "list"/\o.dict=none/\o.data = .seq its n/\its.size<=sizeLine/\Vals xs its.toList
def SqT(K:Frg)(H:Hp)(a:Addr)(xs:List V):Prop:=
 Rd H a (.tup xs)\/
  ∃(o:Obj) (its:Array Value) (n:Nat),K.lookup a=some o/\o.cls = .type "tuple"/\o.data = .seq its n/\its.size<=sizeLine/\Vals xs its.toList
noncomputable def absV:Value->Option V
 | .none=>some .non
 | .bool b=>some (.bl b)
 | .int i _=>some (.int i)
 | .str x _=>some (.str x)
 | .bytes b _=>some (.byt b)
 | .float b _=>some (.flt b)
 | .ref a=>some (.ref a)
 | .type n=>some (.ty n)
 | _=>none
theorem RelV.abs(r:RelV x u):absV u=some x:=by
 cases x with
 | non=>cases r;rfl
 | bl _=>cases r;rfl
 | int _=>obtain⟨t,rfl⟩:=r;rfl
 | str _=>obtain⟨t,rfl⟩:=r;rfl
 | byt _=>obtain⟨t,rfl⟩:=r;rfl
 | flt _=>obtain⟨t,rfl⟩:=r;rfl
 | ref _=>cases r;rfl
 | ty _=>cases r;rfl
theorem RelV.inj(r:RelV x u)(q:RelV y u):x=y:=vL (r.abs.symm.trans q.abs)
theorem Vals.inj:∀{xs ys:List V} {us:List Value},Vals xs us->Vals ys us->xs=ys
 | _,_,_,.nil,.nil=>rfl
 | _,_,_,.cons r t,.cons r' t'=>by rw[r.inj r',Vals.inj t t']
section
variable{X:Cx}{pins:List (Addr×Obj)}{σ:St}{H:Hp}{s:Shared}{a:Addr}{xs ys:List V}
theorem SqL.of{K:Frg}(h:H a=some (.lst xs)):SqL K H a xs:=.inl (.inl h)
theorem SqT.of{K:Frg}(h:H a=some (.tup xs)):SqT K H a xs:=.inl (.inl h)
theorem Inv.list(I:Inv X pins σ H s)(h:SqL X.K H a xs):∃b:List Value,Vals xs b/\PlainL s.heap a b.toArray/\xs.length<=sizeLine:=by
 rcases h with h | ⟨o,b,n,f,c,d,g,i,r⟩
 ·obtain⟨z,b,n,r,e⟩:=h.ok I.hok;exact⟨b,r,⟨_,n,e,rfl,rfl,rfl⟩,z⟩
 ·refine⟨b.toList,r,⟨o,n,I.kIn a o f,c,d,by simpa using g⟩,?_⟩;have e:=r.length;simp only[Array.length_toList]at e;lia
theorem Inv.tuple(I:Inv X pins σ H s)(h:SqT X.K H a xs):∃b:List Value,Vals xs b/\IsTup s.heap a b.toArray/\xs.length<=sizeLine:=by
 rcases h with h | ⟨o,b,n,d,c,f,g,r⟩
 ·obtain⟨z,b,r,p⟩:=h.ok I.hok;exact⟨b,r,p,z⟩
 ·refine⟨b.toList,r,⟨o,I.kIn a o d,c,n,by simpa using f⟩,?_⟩;have e:=r.length;simp only[Array.length_toList]at e;lia
theorem Inv.list_inj(I:Inv X pins σ H s)(h:SqL X.K H a xs)(h':SqL X.K H a ys):xs=ys:=by
 obtain⟨c,r,⟨o,n,e,_,_,d⟩,_⟩:=I.list h;obtain⟨b,i,⟨k,j,g,_,_,f⟩,_⟩:=I.list h';rw[e]at g;cases g;rw[d]at f;injection f with d1 _;have:c=b:=by simpa using congrArg Array.toList d1
 subst this;exact r.inj i
theorem Inv.tuple_inj(I:Inv X pins σ H s)(h:SqT X.K H a xs)(h':SqT X.K H a ys):xs=ys:=by
 obtain⟨c,r,⟨o,e,_,n,d⟩,_⟩:=I.tuple h;obtain⟨b,i,⟨k,g,_,j,f⟩,_⟩:=I.tuple h';rw[e]at g;cases g;rw[d]at f;injection f with d1 _;have:c=b:=by simpa using congrArg Array.toList d1
 subst this;exact r.inj i
end
noncomputable abbrev Cx.wish(X:Cx)(E:Value->Shared->Prop):Cx:={X with xe:=E}
noncomputable abbrev Cx.nox(X:Cx):Cx:=X.wish fun _ _=>False
theorem Cx.Ok.wish{X:Cx}(a:X.Ok)(E:Value->Shared->Prop):(X.wish E).Ok:=
 ⟨a.mod,a.kind,a.glob,a.blt,a.above,a.inj,a.has,a.cab,a.hd,a.frames,a.stk,a.exf,a.bs,a.bsz,a.noex,a.exfs,a.funs,a.frf⟩
theorem Cx.Ok.unwish{X:Cx}{E:Value->Shared->Prop}(a:(X.wish E).Ok):X.Ok:=
 ⟨a.mod,a.kind,a.glob,a.blt,a.above,a.inj,a.has,a.cab,a.hd,a.frames,a.stk,a.exf,a.bs,a.bsz,a.noex,a.exfs,a.funs,a.frf⟩
section
variable{X:Cx}{pins:List (Addr×Obj)}{σ:St}{H:Hp}{s:Shared}{E:Value->Shared->Prop}
theorem Inv.wish(I:Inv X pins σ H s)(E:Value->Shared->Prop):Inv (X.wish E) pins σ H s:=⟨I.ok.wish E,I.os,I.bare,I.base,I.loc,I.cell,I.free,I.freeC,I.pin,I.hok,I.len⟩
theorem Inv.unwish(I:Inv (X.wish E) pins σ H s):Inv X pins σ H s:=⟨I.ok.unwish,I.os,I.bare,I.base,I.loc,I.cell,I.free,I.freeC,I.pin,I.hok,I.len⟩
theorem SP.unwish(h:SP (X.wish E) pins D f s'):SP X pins D f s':=by
 cases f with
 | next=>obtain⟨a,b,I,q⟩:=h;exact⟨a,b,I.unwish,q⟩
 | brk=>obtain⟨a,b,I,q⟩:=h;exact⟨a,b,I.unwish,q⟩
 | cont=>obtain⟨a,b,I,q⟩:=h;exact⟨a,b,I.unwish,q⟩
 | ret u=>obtain⟨v,a,b,I,r,q⟩:=h;exact⟨v,a,b,I.unwish,r,q⟩
theorem PSs.nox{st:List Stmt}{t:TS}(h:PSs X.nox st t):PSs X st t:=fun a s c H D I b=>
 wpAny_mono (h a s c H D (I.wish _) b) (fun _ _ q=>q.unwish) fun _ _ z=>False.elim z
end
section
variable{X:Cx}{st:Stmt}{rest:List Stmt}{t u:TS}{e:Expr}{te:TE}{pos:Pos}
def tNext:TS:=fun D σ H=>D.nx σ H
def tSeq(t u:TS):TS:=fun D σ H=>t {D with nx:=u D} σ H
theorem jv:PSs X [] tNext:=fun _ _ a H _ I h=>wpAny_execs_nil ⟨a,H,I,h⟩
theorem jc(e:PS X st t)(g:PSs X rest u):PSs X (st::rest) (tSeq t u):=by
 intro a s j H D I h;refine wpAny_execs_cons (thn (e a s j H {D with nx:=u D} I h) fun f i q=>?_);cases f with
 | next=>
  obtain⟨b,c,d,q⟩:=q;exact g a i b c D d q
 | ret v=>exact q
 | brk=>exact q
 | cont=>exact q
theorem jf(b:PS X st t):PSs X [st] t:=by
 intro a s c H D I h;refine wpAny_execs_cons (thn (b a s c H D I h) fun f d q=>?_);cases f with
 | next=>exact wpAny_execs_nil q
 | ret v=>exact q
 | brk=>exact q
 | cont=>exact q
theorem Inv.quiet{a:St}{H:Hp}(I:Inv X pins a H s):interactive X.env=false:=by simp[interactive,I.ok.kind]
def tDrop(te:TE):TS:=fun D σ H=>te σ H fun _ H1=>D.nx σ H1
theorem j5(f:PE X e te)(g:swapsWith e none pos.line X.env=pure false:=by rfl):PS X (.Expr e pos) (tDrop te):=by
 intro a s b H D I h;exact wpAny_Expr_any (thn (f a s b H _ I h) fun v k ⟨x,c,d,j,i⟩=>⟨b,c,d,i⟩) I.quiet g
def tRet(te:TE):TS:=fun D σ H=>te σ H D.rt
theorem ju(f:PE X e te):PS X (.Return (some e) pos) (tRet te):=by
 intro a s b H D I h;exact wpAny_Return_some (thn (f a s b H _ I h) fun v j ⟨x,c,d,i,g⟩=>⟨x,b,c,d,i,g⟩)
def tIfS(c:TT)(t u:TS):TS:=fun D σ H=>c σ H fun b H1=>if b=true then t D σ H1 else u D σ H1
theorem jS{c:Expr}{a b:List Stmt}{l:TT}(o:PT X c l)(m:PSs X a t)(n:PSs X b u):PS X (.If c a b pos) (tIfS l t u):=by
 intro e s f H D I h;refine wpAny_If (thn (o e s f H _ I h) fun d k ⟨g,i,j⟩=>?_);cases d with
 | true=>exact m e k f g D i j
 | false=>exact n e k f g D i j
def tNever:TS:=fun _ _ _=>False
theorem ye:PS X st tNever:=fun _ _ _ _ _ _ h=>h.elim
end
noncomputable abbrev TG:=V->St->Hp->(St->Hp->Prop)->Prop
noncomputable abbrev TGs:=List V->St->Hp->(St->Hp->Prop)->Prop
def PG(X:Cx)(target:Expr)(t:TG):Prop:=
 ∀(pins:List (Addr×Obj)) (s:Shared) (σ:St) (H:Hp) (v:V) (u:Value) (Q:St->Hp->Prop),Inv X pins σ H s->RelV v u->t v σ H Q->
  wpAny (model X.prog X.w) X.A (assign target X.env u) (fun _ s'=>∃σ' H',Inv X pins σ' H' s'/\Q σ' H') X.xe s
def PGs(X:Cx)(ts:List Expr)(t:TGs):Prop:=
 ∀(pins:List (Addr×Obj)) (s:Shared) (σ:St) (H:Hp) (vs:List V) (us:List Value) (Q:St->Hp->Prop),Inv X pins σ H s->Vals vs us->t vs σ H Q->
  wpAny (model X.prog X.w) X.A (assignInOrder ((assignEach ts X.env).map (·.2)) us) (fun _ s'=>∃σ' H',Inv X pins σ' H' s'/\Q σ' H') X.xe s
noncomputable abbrev TSet:=V->V->V->Hp->(Hp->Prop)->Prop
def PSet(X:Cx)(t:TSet):Prop:=
 ∀(pins:List (Addr×Obj)) (s:Shared) (σ:St) (H:Hp) (o i v:V) (ov iv u:Value) (Q:Hp->Prop),Inv X pins σ H s->RelV o ov->RelV i iv->RelV v u->t o i v H Q->
  wpAny (model X.prog X.w) X.A (setItem ov iv u) (fun _ s'=>∃H',Inv X pins σ H' s'/\Q H') X.xe s
noncomputable abbrev TIp:=V->V->Hp->VK->Prop
def PIp(X:Cx)(op:Operator)(t:TIp):Prop:=
 ∀(pins:List (Addr×Obj)) (s:Shared) (σ:St) (H:Hp) (x y:V) (v u:Value) (Q:VK),Inv X pins σ H s->RelV x v->RelV y u->t x y H Q->
  wpAny (model X.prog X.w) X.A (inplaceOp op v u) (EP X pins σ Q) X.xe s
section
variable{X:Cx}{pos:Pos}
def gName(i:Nat):TG:=fun v σ H Q=>Q (σ.set i (some v)) H
theorem jm(c:X.N.Nodup)(hi:X.N[i]?=some x)(e:Loc X.env.scope x)(d:X.fn x=true\/X.env.scope.names.lookup x=some .local:=by first | exact .inl rfl | exact .inr rfl | assumption):PG X (.Name x pos) (gName i):=by
 intro a s g H v u Q I r h;exact wpAny_assign_Name (kI I c hi e r (fun f b=>⟨_,H,b,h⟩) d)
def gNil:TGs:=fun vs σ H Q=>vs=[]/\Q σ H
def gCons(t:TG)(u:TGs):TGs:=fun vs σ H Q=>∃v r,vs=v::r/\t v σ H fun σ' H'=>u r σ' H' Q
theorem jZ:PGs X [] gNil:=by
 intro a s b H d c Q I r h;obtain⟨e,h⟩:=h;subst e;cases r;exact assignInOrder_nil ⟨b,H,I,h⟩
theorem jr{e:Expr}{es:List Expr}{t:TG}{u:TGs}(g:PG X e t)(i:PGs X es u)
  (j:(assignEach (e::es) X.env).map (·.2)=assign e X.env::(assignEach es X.env).map (·.2):=by rfl):PGs X (e::es) (gCons t u):=by
 intro a s m H p n Q I r h;obtain⟨v,o,f,h⟩:=h;subst f;cases r with
 | cons r rr=>
  rw[j];refine assignInOrder_cons (thn (g a s m H _ _ _ I r h) fun _ l ⟨b,c,d,k⟩=>?_);exact i a l b c _ _ Q d rr k
def gTup(K:Frg)(n:Nat)(t:TGs):TG:=fun v σ H Q=>∃a xs,v = .ref a/\SqT K H a xs/\xs.length=n/\t xs σ H Q
theorem Jq(p:X.calm=true)(h:PGs X es t)
  (w:(assignEach es X.env).length=n:=by rfl) (d:(assignEach es X.env).findIdx? (·.1)=none:=by rfl):PG X (.Tuple es k pos) (gTup X.K n t):=by
 intro c s i H v u Q I r f;obtain⟨a,B,l,x,q,f⟩:=f;subst l;cases r;obtain⟨A,g,y,C⟩:=I.tuple x;refine assign_Tuple_tuple (I.ok.hd p) y (by simp[w,<-q,g.length]) d fun m z=>?_
 have j:Inv X c i H {s with heap:=m}:=I.kept (t':=s.toks) fun b o e=>z b o (vE (vI e)) e
 exact h c _ i H B _ Q j (by simpa using g) f
def gSub(to ti:TE)(t:TSet):TG:=fun v σ H Q=>to σ H fun o H1=>ti σ H1 fun i H2=>t o i v H2 fun H3=>Q σ H3
theorem xG{o i:Expr}{e d:TE}{t:TSet}(p:PE X o e)(hi:PE X i d)(q:PSet X t)
  (n:∀v,assign (.Subscript o i pos) X.env v=(do
   let ov <-holding [v] (eval o X.env)
   let b <-holding [v,ov] (eval i X.env)
   standAt pos
   holding [v,ov,b] (setItem ov b v)
   release [v,ov,b] []):=by intro _;rfl):PG X (.Subscript o i pos) (gSub e d t):=by
 intro a s c H v u Q I r h;rw[n];refine uf (wpAny_holding (thn (p a s c H _ I h) fun ov D ⟨x,f,k,B,w⟩=>?_));refine uf (wpAny_holding (thn (hi a D c f _ k w) fun b E ⟨y,g,l,C,z⟩=>?_));refine uf (wpAny_standAt (uf (wpAny_holding (thn (q a E c g x y v ov b u _ l B C r z) fun _ F ⟨j,m,A⟩=>?_))));exact wpAny_release ⟨c,j,m,A⟩
def tAsg(te:TE)(g:TG):TS:=fun D σ H=>te σ H fun x H1=>g x σ H1 D.nx
theorem wS{b e:Expr}{c:TE}{g:TG}(k:PE X e c)(l:PG X b g)(m:swapsWithSole [b] e pos.line X.env=pure false:=by rfl)(hw:swappedStores [b] e X.env=pure none:=by rfl)
  (j:(assignEach [b] X.env).map (·.2)=[assign b X.env]:=by rfl):PS X (.Assign [b] e pos) (tAsg c g):=by
 intro a s d H D I h;refine wpAny_Assign_stores (thn (k a s d H _ I h) fun v p ⟨x,f,i,o,n⟩=>?_) m hw;rw[j];exact thn (l a p d f x v _ i o n) fun _ r q=>q
theorem jo{i:Nat}{x:Str}{e:Expr}{c:TE}{a:Pos}(j:X.N.Nodup)(hi:X.N[i]?=some x)(n:Loc X.env.scope x)(k:PE X e c)(m:swapsWith e (some (.Name x a)) pos.line X.env=pure false:=by rfl)(l:X.fn x=true\/X.env.scope.names.lookup x=some .local:=by first | exact .inl rfl | exact .inr rfl | assumption) :
  PS X (.Assign [.Name x a] e pos) (tAsg c (gName i)):=by
 intro b s q H D I h;refine wpAny_Assign_Name (thn (k b s q H _ I h) fun v r ⟨y,d,f,p,o⟩=>?_) m;exact kI f j hi n p (fun t g=>⟨_,d,g,o⟩) l
def tAug(i:Nat)(te:TE)(ti:TIp):TS:=fun D σ H=>∃x,σ[i]?=some (some x)/\te σ H fun y H1=>ti x y H1 fun z H2=>D.nx (σ.set i (some z)) H2
theorem j4u{i:Nat}{x:Str}{e:Expr}{q:TE}{op:Operator}{t:TIp}{f:Pos}(K:X.N.Nodup)(hi:X.N[i]?=some x)(n:Loc X.env.scope x)(M:PE X e q)(R:PIp X op t)(N:X.fn x=true\/X.env.scope.names.lookup x=some .local:=by first | exact .inl rfl | exact .inr rfl | assumption) :
  PS X (.AugAssign (.Name x f) op e pos) (tAug i q t):=by
 intro a s A H D I h;obtain⟨v,J,h⟩:=h;obtain⟨m,Q,O⟩:=I.loc;have o:Vis X.env.scope x:=by rcases n with k | k;exact .inl k;exact .inr (.inl k)
 obtain⟨u,r,l⟩:=O i x v hi J o;refine wpAny_AugAssign_Name ?_;have p:wpAny (model X.prog X.w) X.A (eval e X.env) (fun w g=>wpAny (model X.prog X.w) X.A (inplaceOp op u w) (fun r j=>wpAny (model X.prog X.w) X.A (storeName X.env x r) (fun _=>SP X a D .next) X.xe j) X.xe g) X.xe s:=by
  refine thn (M a s A H _ I h) fun w Y ⟨y,B,E,U,S⟩=>?_
  refine thn (R a Y A B v y u w _ E r U S) fun z Z ⟨zv,C,F,W,T⟩=>?_
  exact kI F K hi n W (fun s3 G=>⟨_,C,G,T⟩) N
 rcases l with⟨b,P⟩ | ⟨b,c,L,d⟩
 ·exact wpAny_loadName_local I.ok.kind b Q P p
 ·rcases b with b | b
  ·exact wpAny_loadName_cell I.ok.kind b L d p
  ·rcases n with k | k
   ·have:X.env.scope.names.lookup x=some .free:=b;rw[k]at this;cases this
   ·have:X.env.scope.names.lookup x=some .free:=b;rw[k]at this;cases this
noncomputable def ipI(f:Int->Int->Int):TIp:=fun x y H Q=>∃i j,x = .int i/\y = .int j/\Q (.int (f i j)) H
theorem j48:PIp X .Add (ipI fun i j=>i+j):=by
 intro a s g H x y v u Q I d e h;obtain⟨i,j,b,c,q⟩:=h;subst b;subst c;obtain⟨t,rfl⟩:=d;obtain⟨f,rfl⟩:=e;exact iadd_int ⟨.int _,H,I.tok _,⟨_,rfl⟩,q⟩
end
section
variable{X:Cx}{pos:Pos}
def tWhile(c:TT)(tb:TS):TS:=fun D σ H=>∃W:Nat->St->Hp->Prop,(∃m,W m σ H)/\∀m σ H,W m σ H->
 c σ H fun b H1=>if b=true then∃N:St->Hp->Prop,(∀σ' H',N σ' H'->∃m',m'<m/\W m' σ' H')/\tb {D with nx:=N,ct:=N,bk:=D.nx} σ H1 else D.nx σ H1
theorem WI{c:Expr}{g:List Stmt}{C:TT}{B:TS}(A:PassesOwn (model X.prog X.w) X.A X.env X.xe)(G:PT X c C)(F:PSs X g B):PS X (.While c g [] pos) (tWhile C B):=by
 intro a s Q H D I h;obtain⟨W,⟨J,O⟩,j⟩:=h;refine wpAny_While (codeAny_whileLoop (fun n K=>∃k u,Inv X a k u K/\W n k u) ?_ J ⟨Q,H,I,O⟩);rintro n L ⟨e,w,E,P⟩;refine wpAny_passesOwn A (thn (G a L e w _ E (j n e w P)) fun b M ⟨x,y,l⟩=>?_);cases b with
 | true=>
  obtain⟨N,z,l⟩:=l;rw[vd rfl];refine wpAny_passesOwn A (thn (F a M e x _ y l) fun f R m=>?_);cases f with
  | next=>
   obtain⟨d,i,o,r⟩:=m;obtain⟨q,p,t⟩:=z d i r;exact⟨q,p,d,i,o,t⟩
  | cont=>
   obtain⟨d,i,o,r⟩:=m;obtain⟨q,p,t⟩:=z d i r;exact⟨q,p,d,i,o,t⟩
  | brk=>exact m
  | ret v=>exact m
 | false=>
  rw[vc vF];exact wpAny_execs_nil ⟨e,x,y,l⟩
end
structure It where
 go:Nat->Hp->Prop
 yld:Nat->Hp->V->Hp->Prop
 stop:Nat->Hp->Prop
def FpOk(X:Cx)(pins:List (Addr×Obj))(H:Hp)(b:Addr):Prop:=
 H b=none/\b≠X.env.locals/\b∉X.fs/\(b∈X.ex\/X.s₀.heap.objs.size<=b)/\(∀x c,X.env.cells.lookup x=some c->c≠b)/\∀p∈X.pn++pins,p.1≠b
theorem Inv.fpOk{g:St}{H H':Hp}(I:Inv X pins g H s)(a:s.heap.objs.size<=b)(d:H' b=none):FpOk X pins H' b:=by
 refine⟨d,Nat.ne_of_gt (Nat.lt_of_lt_of_le I.lt a),I.nofs a,.inr (vW I.sz a),fun x c e z=>?_,fun p f z=>?_⟩
 ·obtain⟨v,q⟩:=I.cell x c e;exact ud (Nat.lt_of_lt_of_le q.lt (by rw[z];exact a)) (Nat.lt_irrefl _)
 ·exact ud (Nat.lt_of_lt_of_le (vI (I.pin p f).1) (by rw[z];exact a)) (Nat.lt_irrefl _)
structure Turn(P:Program)(w:World)(K:Frg)(tg:Expr)(J:It)(fp:List Addr)(it:Addr)(tn:Nat->Heap->Prop):Prop where
 mem:it∈fp
 obj:∀i h,tn i h->∀b∈fp,∃o,h.get? b=some o/\∀v,o.data≠.cell v
 keep:∀i h h',tn i h->(∀b∈fp,∀o,h.get? b=some o->h'.get? b=some o)->tn i h'
 item:∀(X:Cx),X.prog=P->X.w=w->X.K=K->X.calm=true->∀(i:Nat) (pins:List (Addr×Obj)) (s:Shared) (σ:St) (H:Hp) (E:Value->Shared->Prop),Inv X pins σ H s->(∀b∈fp,FpOk X pins H b)->tn i s.heap->J.go i H->
  wpAny (model P w) X.A (pyNext (.ref it)) (fun r s1=>∃u,r=some u/\
   wpAny (model P w) X.A (letOwnedTupleGo tg (.ref it) u) (fun _ s2=>∃x H',Inv X pins σ H' s2/\RelV x u/\J.yld i H x H'/\tn (i+1) s2.heap/\∀b∈fp,H' b=none) E s1) E s
 done:∀(X:Cx),X.prog=P->X.w=w->X.K=K->X.calm=true->∀(i:Nat) (pins:List (Addr×Obj)) (s:Shared) (σ:St) (H:Hp) (E:Value->Shared->Prop),Inv X pins σ H s->(∀b∈fp,FpOk X pins H b)->tn i s.heap->J.stop i H->
  wpAny (model P w) X.A (pyNext (.ref it)) (fun r s1=>r=none/\Inv X pins σ H s1) E s
 self:∀(A:Around) (i:Nat) (s:Shared) (Q:Value->Shared->Prop) (E:Value->Shared->Prop),tn i s.heap->Q (.ref it) s->wpAny (model P w) A (pyIter (.ref it)) Q E s
noncomputable abbrev TI:=St->Hp->(It->Hp->Prop)->Prop
def PIE(X:Cx)(pins:List (Addr×Obj))(σ:St)(tg:Expr)(R:It->Hp->Prop)(itv:Value)(s2:Shared):Prop:=
 ∃(it:Addr) (fp:List Addr) (tn:Nat->Heap->Prop) (J:It) (H':Hp),itv = .ref it/\Inv X pins σ H' s2/\Turn X.prog X.w X.K tg J fp it tn/\tn 0 s2.heap/\(∀b∈fp,FpOk X pins H' b)/\R J H'
def PI(X:Cx)(tg iter:Expr)(wi:TI):Prop:=
 ∀(pins:List (Addr×Obj)) (s:Shared) (σ:St) (H:Hp) (R:It->Hp->Prop),Inv X pins σ H s->wi σ H R->
  wpAny (model X.prog X.w) X.A (eval iter X.env) (fun v s1=>wpAny (model X.prog X.w) X.A (pyIter v) (PIE X pins σ tg R) X.xe s1) X.xe s
theorem Xl{E:Value->Shared->Prop}{Q:Unit->Shared->Prop}(e:s.heap.get? it=some o)(b:o.cls = .type n)(c:o.data = .fields vs)
    (d:["enumerate","zip","dict_itemiterator","dict_reverseitemiterator","odict_iterator","itertools.zip_longest","itertools.pairwise"].contains n=false) (a:Q () s):wpAny M A (letOwnedTupleGo tg (.ref it) u) Q E s:=by
  unfold letOwnedTupleGo;cases tg<;>first
    | exact ue a
    | (cases u<;>first
        | exact ue a
        | (refine uf (wpAny_load e ?_)
           rw[b,c];show wpAny M A (if(["enumerate","zip","dict_itemiterator","dict_reverseitemiterator","odict_iterator","itertools.zip_longest","itertools.pairwise"].contains n&&vs[0]?==some (rawInt _))=true then _ else _) Q E s;rw[vc (by intro h;rw[d,Bool.false_and]at h;cases h)];exact ue a))
def Itl(K:Frg)(a:Addr):It:=
 ⟨fun i H=>∃xs x,SqL K H a xs/\xs[i]?=some x,fun i H x H'=>H'=H/\∀xs,SqL K H a xs->xs[i]?=some x,fun i H=>∃xs,SqL K H a xs/\xs.length<=i⟩
def Itt(K:Frg)(a:Addr):It:=
 ⟨fun i H=>∃xs x,SqT K H a xs/\xs[i]?=some x,fun i H x H'=>H'=H/\∀xs,SqT K H a xs->xs[i]?=some x,fun i H=>∃xs,SqT K H a xs/\xs.length<=i⟩
def Itr(lo:Int)(n:Nat):It:=⟨fun i _=>i<n,fun i H x H'=>H'=H/\x = .int (lo+i),fun i _=>n<=i⟩
theorem j0x{P:Program}{w:World}{K:Frg}{tg:Expr}(a it:Addr):Turn P w K tg (Itl K a) [it] it (fun i h=>h.IsListIter it a i) where
 mem:=by simp
 obj:=fun i h f b j=>by
  have e:b=it:=by simpa using j
  subst e;obtain⟨o,e,c,d⟩:=f;exact⟨o,e,fun v z=>by rw[d]at z;cases z⟩
 keep:=fun i h m f k=>f.at fun o e=>k it (by simp) o e
 item:=by
  intro X D G C N i g s O H E I n f F;subst D G C;obtain⟨xs,x,q,J⟩:=F;obtain⟨L,M,p,W⟩:=I.list q;obtain⟨u,T,Y⟩:=M.get J;obtain⟨r,t,S,y,A,B⟩:=n it (by simp);refine wpAny_pyNext_list_item f p.isList (x:=u) (by simpa using T) fun m l Z=>?_
  have Q:Inv X g O H {s with heap:=m}:=I.turned (t':=s.toks) (fun b o j e=>(Z.2 b j).trans e) r t y A B;obtain⟨o,e,c,d⟩:=id l;exact⟨u,rfl,Xl (s:={s with heap:=m}) e c d (by decide) ⟨x,H,Q,Y,⟨rfl,fun ys U=>by rw[I.list_inj U q];exact J⟩,l,fun b j=>(n b j).1⟩⟩
 done:=by
  intro X D G C N i g s O H E I n f F;subst D G C;obtain⟨xs,q,J⟩:=F;obtain⟨L,M,p,W⟩:=I.list q;obtain⟨r,t,S,y,A,B⟩:=n it (by simp);have hl:=M.length;exact wpAny_pyNext_list_end (I.ok.hd N) f p.isList (by simp;lia) fun m R=>⟨rfl,I.turned (t':=s.toks) (fun b o j e=>R b o j e) r t y A B⟩
 self:=fun _ _ _ _ _ f h=>wpAny_pyIter_listiter f h
theorem xU{P:Program}{w:World}{K:Frg}{tg:Expr}(a it:Addr):Turn P w K tg (Itt K a) [it] it (fun i h=>h.IsTupleIter it a i) where
 mem:=by simp
 obj:=fun i h f b j=>by
  have e:b=it:=by simpa using j
  subst e;obtain⟨o,e,c,d⟩:=f;exact⟨o,e,fun v z=>by rw[d]at z;cases z⟩
 keep:=fun i h n f k=>f.at fun o e=>k it (by simp) o e
 item:=by
  intro X F J D N i g s O H E I q f G;subst F J D;obtain⟨xs,x,r,L⟩:=G;obtain⟨l,M,p,W⟩:=I.tuple r;obtain⟨u,T,Y⟩:=M.get L;obtain⟨t,y,S,A,B,C⟩:=q it (by simp);refine wpAny_pyNext_tuple_item f (show s.heap.IsTuple a l.toArray from p) (x:=u) (by simpa using T) fun n m Z=>?_
  have Q:Inv X g O H {s with heap:=n}:=I.turned (t':=s.toks) (fun b o j e=>(Z.2 b j).trans e) t y A B C;obtain⟨o,e,c,d⟩:=id m;exact⟨u,rfl,Xl (s:={s with heap:=n}) e c d (by decide) ⟨x,H,Q,Y,⟨rfl,fun ys U=>by rw[I.tuple_inj U r];exact L⟩,m,fun b j=>(q b j).1⟩⟩
 done:=by
  intro X F J D N i g s O H E I q f G;subst F J D;obtain⟨xs,r,L⟩:=G;obtain⟨l,M,p,W⟩:=I.tuple r;obtain⟨t,y,S,A,B,C⟩:=q it (by simp);have hl:=M.length;exact wpAny_pyNext_tuple_end (I.ok.hd N) f (show s.heap.IsTuple a l.toArray from p) (by simp;lia) fun n R=>⟨rfl,I.turned (t':=s.toks) (fun b o j e=>R b o j e) t y A B C⟩
 self:=fun _ _ _ _ _ f h=>wpAny_pyIter_tupleiter f h
theorem xT{P:Program}{w:World}{K:Frg}{N:Expr}(it:Addr)(lo:Int)(n:Nat):Turn P w K N (Itr lo n) [it] it (fun i h=>IsRangeIter h it (lo+(i:Nat)*1) ((n:Int)-(i:Nat)) 1) where
 mem:=by simp
 obj:=fun i h a b d=>by
  have e:b=it:=by simpa using d
  subst e;exact⟨_,a,fun v z=>by
   have O:Data.fields _=Data.cell v:=z;cases O⟩
 keep:=fun i h g a k=>k it (by simp) _ a
 item:=by
  intro X x B u y i c s D H E I j a A;subst x B u;obtain⟨l,m,J,p,q,r⟩:=j it (by simp);have W:=Walks.range (prog:=X.prog) (w:=X.w) (I.ok.hd y) it lo 1 n;refine W.item i s _ _ A a fun v g C L f M=>?_
  obtain⟨t,rfl⟩:=L;have F:Inv X c D H {s with heap:=g,toks:=C}:=I.turned (fun b o d e=>M b o (by simpa using d) e) l m p q r;refine⟨_,rfl,Xl (s:={s with heap:=g,toks:=C}) (n:="range_iterator") f rfl rfl (by decide) ⟨.int (lo+i),H,F,⟨t,?_⟩,⟨rfl,rfl⟩,f,fun b d=>(j b d).1⟩⟩;rw[Int.mul_one]
 done:=by
  intro X x B u y i c s D H E I j a A;subst x B u;obtain⟨l,m,J,p,q,r⟩:=j it (by simp);exact wpAny_pyNext_range_end (I.ok.hd y) a (by have:n<=i:=A;lia) fun g G=>⟨rfl,I.turned (t':=s.toks) (fun b o d e=>G b o d e) l m p q r⟩
 self:=fun _ _ _ _ _ a h=>wpAny_pyIter_rangeiter a h
section
variable{X:Cx}{tg:Expr}
def iList(K:Frg)(tl:TE):TI:=fun σ H R=>tl σ H fun x H1=>∃a,x = .ref a/\(∃xs,SqL K H1 a xs)/\R (Itl K a) H1
def iTup(K:Frg)(tl:TE):TI:=fun σ H R=>tl σ H fun x H1=>∃a,x = .ref a/\(∃xs,SqT K H1 a xs)/\R (Itt K a) H1
theorem jF{l:Expr}{g:TE}(k:PE X l g):PI X tg l (iList X.K g):=by
 intro c s u H R I h;refine thn (k c s u H _ I h) fun v f ⟨x,i,d,t,r⟩=>?_
 obtain⟨a,e,⟨z,m⟩,q⟩:=r;subst e;cases t;obtain⟨n,y,p,w⟩:=d.list m;refine wpAny_pyIter_list p.isList ?_;refine⟨f.heap.objs.size,[f.heap.objs.size],_,_,i,rfl,d.kept (t':=f.toks) fun b o e=>vJ _ e,j0x a _,⟨_,Heap.get?_push_size _ rfl,rfl,rfl⟩,fun b j=>?_,q⟩;have e:b=f.heap.objs.size:=by simpa using j
 subst e;exact d.fpOk (vb _) (d.hok.fresh (vb _))
theorem yT{l:Expr}{i:TE}(m:PE X l i):PI X tg l (iTup X.K i):=by
 intro c s u H R I h;refine thn (m c s u H _ I h) fun v d ⟨x,j,f,t,r⟩=>?_
 obtain⟨a,e,⟨z,n⟩,q⟩:=r;subst e;cases t;obtain⟨g,y,p,w⟩:=f.tuple n;refine wpAny_pyIter_tuple (show d.heap.IsTuple a g.toArray from p) ?_;refine⟨d.heap.objs.size,[d.heap.objs.size],_,_,j,rfl,f.kept (t':=d.toks) fun b o e=>vJ _ e,xU a _,⟨_,Heap.get?_push_size _ rfl,rfl,rfl⟩,fun b k=>?_,q⟩;have e:b=d.heap.objs.size:=by simpa using k
 subst e;exact f.fpOk (vb _) (f.hok.fresh (vb _))
theorem j1P{a:List (Addr×Obj)}{f:St}{H:Hp}{s:Shared}{R:It->Hp->Prop}{E:Value->Shared->Prop}{lo hi:Int}{t u v:Tok}{d:Nat}(I:Inv X a f H s)(i : -(2^62)<=lo)(j:lo<2^62)(k : -(2^62)<=hi)(l:hi<2^62)
  (q:R (Itr lo (hi-lo).toNat) H):wpAny (model X.prog X.w) X.A (pyIter (.ref s.heap.objs.size)) (PIE X a f tg R) E {s with heap:=s.heap.push {cls:=.type "range",data:=.fields #[.int lo t,.int hi u,.int 1 v]},toks:=d}:=by
 refine wpAny_pyIter_range (IsRange.new ..) (small_one i j k l) ?_;have c:Inv X a f H {s with heap:=s.heap.push {cls:=.type "range",data:=.fields #[.int lo t,.int hi u,.int 1 v]},toks:=d}:=I.kept fun b o e=>vJ _ e
 refine⟨(s.heap.push {cls:=.type "range",data:=.fields #[.int lo t,.int hi u,.int 1 v]}).objs.size,[(s.heap.push {cls:=.type "range",data:=.fields #[.int lo t,.int hi u,.int 1 v]}).objs.size],_,_,H,rfl,
  c.kept (t':=d) fun b o e=>vJ _ e,xT _ lo (hi-lo).toNat,?_,fun b m=>?_,q⟩
 ·have g:lo+((0:Nat):Int)*1=lo:=by simp
  have h:(((hi-lo).toNat:Nat):Int)-((0:Nat):Int)=Builtin.Range.rangeSize lo hi 1:=by rw[rangeSize_one];split<;>lia
  show IsRangeIter _ _ (lo+((0:Nat):Int)*1) ((((hi-lo).toNat:Nat):Int)-((0:Nat):Int)) 1;rw[g,h];exact Heap.get?_push_size _ rfl
 ·have e:b=(s.heap.push {cls:=.type "range",data:=.fields #[.int lo t,.int hi u,.int 1 v]}).objs.size:=by simpa using m
  subst e;exact c.fpOk (vb _) (c.hok.fresh (vb _))
def iRng1(ta:TA):TI:=fun σ H R=>ta σ H fun vs H1=>∃j:Int,vs=[.int j]/\-(2^62)<=j/\j<2^62/\R (Itr 0 j.toNat) H1
theorem JG{a:Expr}{f:TA}{p c:Pos}(k:Gl X "range")(l:X.mg "range"= none)(i:PA X [a] f)(m:starEach [a] X.env=[(false,eval a X.env)]:=by rfl):PI X tg (.Call (.Name "range" p) [a] [] c) (iRng1 f):=by
 intro b s u H R I h;refine Call_ (zb I k l boot_range (PyProof.Rows.callWith_type1 (thn (i c b s u H _ I h) fun x w ⟨y,v,g,o,d⟩=>?_) m rfl));obtain⟨j,e,d,n,q⟩:=d;subst e;cases o with
 | cons r rr=>
  cases rr;obtain⟨t,rfl⟩:=r;exact call_range_1 (j1P g (by lia) (by lia) d n (by simpa using q))
def tFor(wi:TI)(g:TG)(tb:TS):TS:=fun D σ H=>wi σ H fun J H1=>∃W:Nat->Nat->St->Hp->Prop,(∃m,W 0 m σ H1)/\∀i m σ H,W i m σ H->
 (J.stop i H/\D.nx σ H)\/(J.go i H/\∃N:St->Hp->Prop,(∀σ' H',N σ' H'->∃m',m'<m/\W (i+1) m' σ' H')/\∀x H',J.yld i H x H'->g x σ H' fun σ2 H2=>tb {D with nx:=N,ct:=N,bk:=D.nx} σ2 H2)
noncomputable def pinsAt(fp:List Addr)(h:Heap):List (Addr×Obj):=fp.filterMap fun b=>(h.get? b).map fun o=>(b,o)
theorem zc(a:b∈fp)(e:h.get? b=some o):(b,o)∈pinsAt fp h:=mem_filterMap.mpr ⟨b,a,by rw[e];rfl⟩
theorem j0g(d:p∈pinsAt fp h):p.1∈fp/\h.get? p.1=some p.2:=by
 obtain⟨b,c,e⟩:=mem_filterMap.mp d;cases q:h.get? b with
 | none=>rw[q]at e;cases e
 | some o=>
  rw[q]at e;have a:(b,o)=p:=vL e;subst a;exact⟨c,q⟩
theorem Inv.pinned{f:St}{H:Hp}(I:Inv X pins f H s)(j:∀b∈fp,FpOk X pins H b)(k:∀b∈fp,∃o,s.heap.get? b=some o/\∀v,o.data≠.cell v):Inv X (pins++pinsAt fp s.heap) f H s:=
 I.pins_of fun p l=>(vh.mp l).elim (fun z=>I.pin p (mem_append_right _ z)) fun z=>by
  obtain⟨c,e⟩:=j0g z;obtain⟨g,h,i,_⟩:=j p.1 c;obtain⟨o,a,d⟩:=k p.1 c;rw[e]at a;cases a;exact⟨e,g,h,i,d⟩
theorem Inv.unpinned{a:St}{H:Hp}(I:Inv X (pins++pl) a H s):Inv X pins a H s:=I.pins_of fun p b=>I.pin p (mem_append_right _ (mem_append_left _ b))
theorem j2{q:Expr}{A:List Stmt}{wi:TI}{g:TG}{tb:TS}{Y:Pos}(G:PassesOwn (model X.prog X.w) X.A X.env X.xe)(hc:X.calm=true)(hi:PI X tg q wi)(hg:PG X tg g)(p:PSs X A tb)
  (hs:∀x,foldedSetIterable q X.env x=pure x:=by intro _;rfl):PS X (.For tg q A [] Y) (tFor wi g tb):=by
 intro a s σ H D I h;refine wpAny_For (thn (hi a s σ H _ I h) fun v s1 h1=>thn h1 fun a2 s2 h2=>?_) hs;obtain⟨it,E,tn,J,H2,e,I2,T,a0,f2,W,⟨m0,w0⟩,P⟩:=h2;subst e;have t:∀{z:Hp},(∀b∈E,z b=none)->∀b∈E,FpOk X a z b:=fun hn b p=>⟨hn b p,(f2 b p).2⟩
 refine codeAny_forLoop_any (fun n s'=>∃i w z,Inv X a w z s'/\tn i s'.heap/\(∀b∈E,z b=none)/\W i n w z) ?_ m0 ⟨0,σ,H2,I2,a0,fun b p=>(f2 b p).1,w0⟩;rintro n s3 ⟨i,y,Q,I3,L,F,w3⟩;rcases P i n y Q w3 with⟨O,qn⟩ | ⟨go,N,hN,M⟩
 ·refine wpAny_passesOwn G (thn (T.done X rfl rfl rfl hc i a s3 y Q X.xe I3 (t F) L O) fun r s4 ⟨U,I4⟩=>?_);subst U;exact wpAny_execs_nil ⟨y,Q,I4,qn⟩
 ·refine wpAny_passesOwn G (thn (T.item X rfl rfl rfl hc i a s3 y Q X.xe I3 (t F) L go) fun r s4 ⟨u,U,h4⟩=>?_);subst U;refine wpAny_passesOwn G (thn h4 fun _ s5 ⟨x,H5,I5,r5,y5,C,S⟩=>?_);have R:=I5.pinned (t S) (T.obj _ _ C);refine wpAny_passesOwn G (thn (hg _ s5 y H5 x u _ R r5 (M x H5 y5)) fun _ s6 ⟨a1,H6,I6,q6⟩=>?_);refine wpAny_passesOwn G (thn (p _ s6 a1 H6 _ I6 q6) fun f Z B=>?_);have l:∀{c:St} {j:Hp},Inv X (a++pinsAt E s5.heap) c j Z->N c j->∃m,m<n/\∃i w z,Inv X a w z Z/\tn i Z.heap/\(∀b∈E,z b=none)/\W i m w z:=fun {c j} k K=>by
   obtain⟨m',hm,w7⟩:=hN c j K;refine⟨m',hm,i+1,c,j,k.unpinned,T.keep _ _ _ C fun b p o e=>(k.pin (b,o) (mem_append_right _ (mem_append_right _ (zc p e)))).1,fun b p=>?_,w7⟩;obtain⟨o,e,d⟩:=T.obj _ _ C b p;exact(k.pin (b,o) (mem_append_right _ (mem_append_right _ (zc p e)))).2.1
  cases f with
  | next=>obtain⟨c,j,k,K⟩:=B;exact l k K
  | cont=>obtain⟨c,j,k,K⟩:=B;exact l k K
  | brk=>obtain⟨c,j,k,B⟩:=B;exact⟨c,j,k.unpinned,B⟩
  | ret v=>obtain⟨x7,c,j,k,r7,B⟩:=B;exact⟨x7,c,j,k.unpinned,r7,B⟩
end
theorem Jf{K:Frg}{a:Addr}{xs:List V}{g:TG}{j:TS}{D:Ends}{b:St}{H:Hp}(c:Nat->St->Hp->Prop)(k:c 0 b H)(o:∀i b H,i<=xs.length->c i b H->SqL K H a xs)
  (r:∀i x b H,xs[i]?=some x->c i b H->g x b H fun d H2=>j {D with nx:=c (i+1),ct:=c (i+1),bk:=D.nx} d H2) (l:∀b H,c xs.length b H->D.nx b H) :
  ∃W:Nat->Nat->St->Hp->Prop,(∃m,W 0 m b H)/\∀i m b H,W i m b H->
   ((Itl K a).stop i H/\D.nx b H)\/((Itl K a).go i H/\∃N:St->Hp->Prop,(∀σ' H',N σ' H'->∃h,h<m/\W (i+1) h σ' H')/\∀x H',(Itl K a).yld i H x H'->g x b H' fun d H2=>j {D with nx:=N,ct:=N,bk:=D.nx} d H2):=by
 refine⟨fun i m b H=>m=xs.length-i/\i<=xs.length/\c i b H,⟨xs.length,by simp,va _,k⟩,?_⟩;rintro i m b H ⟨rfl,n,p⟩;have q:=o i b H n p;by_cases f:i<xs.length
 ·refine .inr ⟨⟨xs,xs[i],q,by simp[f]⟩,c (i+1),fun σ' H' s=>⟨xs.length-(i+1),by lia,rfl,f,s⟩,fun x H' y=>?_⟩;obtain⟨e,y⟩:=y;subst e;exact r i x b _ (y xs q) p
 ·have e:i=xs.length:=by lia
  subst e;exact .inl ⟨⟨xs,q,vb _⟩,l b H p⟩
theorem j2F{K:Frg}{a:Addr}{xs:List V}{g:TG}{j:TS}{D:Ends}{b:St}{H:Hp}(c:Nat->St->Hp->Prop)(k:c 0 b H)(o:∀i b H,i<=xs.length->c i b H->SqT K H a xs)
  (r:∀i x b H,xs[i]?=some x->c i b H->g x b H fun d H2=>j {D with nx:=c (i+1),ct:=c (i+1),bk:=D.nx} d H2) (l:∀b H,c xs.length b H->D.nx b H) :
  ∃W:Nat->Nat->St->Hp->Prop,(∃m,W 0 m b H)/\∀i m b H,W i m b H->
   ((Itt K a).stop i H/\D.nx b H)\/((Itt K a).go i H/\∃N:St->Hp->Prop,(∀σ' H',N σ' H'->∃h,h<m/\W (i+1) h σ' H')/\∀x H',(Itt K a).yld i H x H'->g x b H' fun d H2=>j {D with nx:=N,ct:=N,bk:=D.nx} d H2):=by
 refine⟨fun i m b H=>m=xs.length-i/\i<=xs.length/\c i b H,⟨xs.length,by simp,va _,k⟩,?_⟩;rintro i m b H ⟨rfl,n,p⟩;have q:=o i b H n p;by_cases f:i<xs.length
 ·refine .inr ⟨⟨xs,xs[i],q,by simp[f]⟩,c (i+1),fun σ' H' s=>⟨xs.length-(i+1),by lia,rfl,f,s⟩,fun x H' y=>?_⟩;obtain⟨e,y⟩:=y;subst e;exact r i x b _ (y xs q) p
 ·have e:i=xs.length:=by lia
  subst e;exact .inl ⟨⟨xs,q,vb _⟩,l b H p⟩
theorem Zl{lo:Int}{n:Nat}{g:TG}{h:TS}{D:Ends}{a:St}{H:Hp}(b:Nat->St->Hp->Prop)(j:b 0 a H)
  (l:∀i a H,i<n->b i a H->g (.int (lo+i)) a H fun d H2=>h {D with nx:=b (i+1),ct:=b (i+1),bk:=D.nx} d H2) (k:∀a H,b n a H->D.nx a H) :
  ∃W:Nat->Nat->St->Hp->Prop,(∃m,W 0 m a H)/\∀i m a H,W i m a H->
   ((Itr lo n).stop i H/\D.nx a H)\/((Itr lo n).go i H/\∃N:St->Hp->Prop,(∀σ' H',N σ' H'->∃f,f<m/\W (i+1) f σ' H')/\∀x H',(Itr lo n).yld i H x H'->g x a H' fun d H2=>h {D with nx:=N,ct:=N,bk:=D.nx} d H2):=by
 refine⟨fun i m a H=>m=n-i/\i<=n/\b i a H,⟨n,by simp,va _,j⟩,?_⟩;rintro i m a H ⟨rfl,q,p⟩;by_cases c:i<n
 ·refine .inr ⟨c,b (i+1),fun σ' H' o=>⟨n-(i+1),by lia,rfl,c,o⟩,fun x H' y=>?_⟩;obtain⟨e,y⟩:=y;subst e y;exact l i a _ c p
 ·have e:i=n:=by lia
  subst e;exact .inl ⟨vb _,k a H p⟩
noncomputable abbrev R2:=V->V->Hp->VK->Prop
def OpR(X:Cx)(f:Value->Value->Sem Value)(r:R2):Prop:=
 ∀(pins:List (Addr×Obj)) (s:Shared) (σ:St) (H:Hp) (x y:V) (v u:Value) (Q:VK),Inv X pins σ H s->RelV x v->RelV y u->r x y H Q->
  wpAny (model X.prog X.w) X.A (f v u) (EP X pins σ Q) X.xe s
def UnR(X:Cx)(f:Value->Sem Value)(r:V->Hp->VK->Prop):Prop:=
 ∀(pins:List (Addr×Obj)) (s:Shared) (σ:St) (H:Hp) (x:V) (v:Value) (Q:VK),Inv X pins σ H s->RelV x v->r x H Q->
  wpAny (model X.prog X.w) X.A (f v) (EP X pins σ Q) X.xe s
def CallR(X:Cx)(f:Value)(r:List V->Hp->VK->Prop):Prop:=
 ∀(pins:List (Addr×Obj)) (s:Shared) (σ:St) (H:Hp) (xs:List V) (us:List Value) (Q:VK),Inv X pins σ H s->Vals xs us->r xs H Q->
  wpAny (model X.prog X.w) X.A (call f us) (EP X pins σ Q) X.xe s
def TruR(X:Cx)(r:V->Hp->(Bool->Hp->Prop)->Prop):Prop:=
 ∀(pins:List (Addr×Obj)) (s:Shared) (σ:St) (H:Hp) (x:V) (v:Value) (Q:Bool->Hp->Prop),Inv X pins σ H s->RelV x v->r x H Q->
  wpAny (model X.prog X.w) X.A (truthy v) (TP X pins σ Q) X.xe s
def tOp(r:R2)(ta tb:TE):TE:=fun σ H Q=>ta σ H fun x H1=>tb σ H1 fun y H2=>r x y H2 Q
def tUn(r:V->Hp->VK->Prop)(ta:TE):TE:=fun σ H Q=>ta σ H fun x H1=>r x H1 Q
def rI(C:Int->Int->Prop)(g:Int->Int->V):R2:=fun x y H Q=>∃i j,x = .int i/\y = .int j/\C i j/\Q (g i j) H
def rI0(g:Int->Int->V):R2:=fun x y H Q=>∃i j,x = .int i/\y = .int j/\Q (g i j) H
noncomputable def rU(g:Int->V):V->Hp->VK->Prop:=fun x H Q=>∃i,x = .int i/\Q (g i) H
section
variable{X:Cx}{a b c:Expr}{ta tb tc:TE}{pos:Pos}
theorem binT(k:PE X a ta)(l:PE X b tb){c:St}{H:Hp}{R:V->V->Hp->Prop}(I:Inv X pins c H s)
  (h:ta c H fun x H1=>tb c H1 fun y H2=>R x y H2) {Q:Value->Shared->Prop} {f:Value->Value->Sem Value}
  (m:∀v u g x y H2,Inv X pins c H2 g->RelV x v->RelV y u->R x y H2->wpAny (model X.prog X.w) X.A (f v u) Q X.xe g) :
  wpAny (model X.prog X.w) X.A (eval a X.env) (fun v d=>wpAny (model X.prog X.w) X.A (eval b X.env) (fun u e=>wpAny (model X.prog X.w) X.A (f v u) Q X.xe e) X.xe d) X.xe s:=by
 refine thn (k pins s c H _ I h) fun v r ⟨x,H1,i,p,n⟩=>?_
 refine thn (l pins r c H1 _ i n) fun u g ⟨y,H2,j,q,o⟩=>?_
 exact m v u g x y H2 j p q o
theorem jt(i:OpR X (binaryOp op) r)(f:PE X a ta)(g:PE X b tb):PE X (.BinOp a op b pos) (tOp r ta tb):=by
 intro c s m H Q I h;exact wpAny_BinOp (binT f g I h fun v u l x y d e j k q=>i c l m d x y v u Q e j k q)
theorem zR{r:V->Hp->VK->Prop}(g:UnR X (unaryOp op) r)(f:PE X a ta):PE X (.UnaryOp op a pos) (tUn r ta):=by
 intro b s c H Q I h;exact UnaryOp_ (thn (f b s c H _ I h) fun v k ⟨x,d,e,j,i⟩=>g b k c d x v Q e j i)
theorem opI{f:Value->Value->Sem Value}{C:Int->Int->Prop}{g:Int->Int->Int}
  (a:∀(i j:Int) (t u:Tok) (s:Shared) (Q:Value->Shared->Prop) (E:Value->Shared->Prop),C i j->Q (.int (g i j) s.toks) {s with toks:=s.toks+1}->wpAny (model X.prog X.w) X.A (f (.int i t) (.int j u)) Q E s) :
  OpR X f (rI C fun i j=>.int (g i j)):=by
 intro b s l H x y v u Q I d e h;obtain⟨i,j,rfl,rfl,c,q⟩:=h;obtain⟨t,rfl⟩:=d;obtain⟨k,rfl⟩:=e;exact a i j t k s _ _ c ⟨.int (g i j),H,I.tok _,⟨_,rfl⟩,q⟩
theorem opI0{f:Value->Value->Sem Value}{g:Int->Int->Int}
  (a:∀(i j:Int) (t u:Tok) (s:Shared) (Q:Value->Shared->Prop) (E:Value->Shared->Prop),Q (.int (g i j) s.toks) {s with toks:=s.toks+1}->wpAny (model X.prog X.w) X.A (f (.int i t) (.int j u)) Q E s) :
  OpR X f (rI0 fun i j=>.int (g i j)):=by
 intro b s k H x y v u Q I c d h;obtain⟨i,j,rfl,rfl,q⟩:=h;obtain⟨t,rfl⟩:=c;obtain⟨e,rfl⟩:=d;exact a i j t e s _ _ ⟨.int (g i j),H,I.tok _,⟨_,rfl⟩,q⟩
theorem opB0{f:Value->Value->Sem Value}{g:Int->Int->Bool}
  (a:∀(i j:Int) (t u:Tok) (s:Shared) (Q:Value->Shared->Prop) (E:Value->Shared->Prop),Q (.bool (g i j)) s->wpAny (model X.prog X.w) X.A (f (.int i t) (.int j u)) Q E s) :
  OpR X f (rI0 fun i j=>.bl (g i j)):=by
 intro b s k H x y v u Q I c d h;obtain⟨i,j,rfl,rfl,q⟩:=h;obtain⟨t,rfl⟩:=c;obtain⟨e,rfl⟩:=d;exact a i j t e s _ _ ⟨.bl (g i j),H,I,rfl,q⟩
def CPow(i j:Int):Prop:=0<=j/\j<=1000000/\i.natAbs<2^64
def CMul(i j:Int):Prop:=(-(2^64)<i/\i<2^64)\/(-(2^64)<j/\j<2^64)
theorem CMul.ok{i j:Int}(h:CMul i j):IntMulOk i j:=by
 rcases h with⟨a,b⟩ | ⟨a,b⟩
 ·exact .of_left (intBits_le_64 a b)
 ·exact .of_right (intBits_le_64 a b)
theorem Jh:OpR X (binaryOp .Add) (rI0 fun i j=>.int (i+j)):=opI0 fun _ _ _ _ _ _ _ q=>add_int q
theorem ZJ:OpR X (binaryOp .Sub) (rI0 fun i j=>.int (i-j)):=opI0 fun _ _ _ _ _ _ _ q=>sub_int q
theorem j1C:OpR X (binaryOp .Mult) (rI CMul fun i j=>.int (i*j)):=opI fun _ _ _ _ _ _ _ a q=>mul_int q a.ok
theorem qy:OpR X (binaryOp .Mod) (rI (fun _ j=>0<j) fun i j=>.int (i%j)):=opI fun i j _ _ _ _ _ a q=>by
 have b:(0:Int)<j:=a;exact mod_int' (by lia) (by rw[Int.fmod_eq_emod_of_nonneg i (by lia)];exact q)
theorem ko:OpR X (binaryOp .Pow) (rI CPow fun i j=>.int (i^j.toNat)):=opI fun _ _ _ _ _ _ _ a q=>pow_int_small a.1 a.2.1 a.2.2 q
theorem unI{f:Value->Sem Value}{g:Int->Int}
  (a:∀(i:Int) (t:Tok) (s:Shared) (Q:Value->Shared->Prop) (E:Value->Shared->Prop),Q (.int (g i) s.toks) {s with toks:=s.toks+1}->wpAny (model X.prog X.w) X.A (f (.int i t)) Q E s) :
  UnR X f (rU fun i=>.int (g i)):=by
 intro b s d H x v Q I c h;obtain⟨i,rfl,q⟩:=h;obtain⟨t,rfl⟩:=c;exact a i t s _ _ ⟨.int (g i),H,I.tok _,⟨_,rfl⟩,q⟩
theorem Qi:UnR X (unaryOp .USub) (rU fun i=>.int (-i)):=unI fun _ _ _ _ _ q=>neg_int q
end
noncomputable def scal:V->V->Bool
 | .non,.non=>true | .non,.int _=>true | .int _,.non=>true | .non,.bl _=>true | .bl _,.non=>true | .non,.str _=>true | .str _,.non=>true
 | .int _,.int _=>true | .bl _,.bl _=>true | .str _,.str _=>true | .byt _,.byt _=>true
 | .int _,.str _=>true | .str _,.int _=>true | .bl _,.str _=>true | .str _,.bl _=>true
 | _,_=>false
def rEq:R2:=fun x y H Q=>scal x y=true/\Q (.bl (decide (x=y))) H
def rNe:R2:=fun x y H Q=>scal x y=true/\Q (.bl (!decide (x=y))) H
theorem Xd:decide (V.int i=V.int j)=(i==j):=by
 rw[Bool.eq_iff_iff];simp
theorem j0O:decide (V.bl i=V.bl j)=(i==j):=by
 rw[Bool.eq_iff_iff];simp
theorem Xe:decide (V.str i=V.str j)=(i==j):=by
 rw[Bool.eq_iff_iff];simp
theorem Xc:decide (V.byt i=V.byt j)=(i.toList==j.toList):=by
 rw[Bool.eq_iff_iff];cases i;cases j;simp
section
variable{X:Cx}{a b c:Expr}{ta tb tc:TE}{pos:Pos}
theorem jO{a:St}{H:Hp}(I:Inv X pins a H s)(q:Q (.bl k) H)(e:k=k'):EP X pins a Q (.bool k') s:=by
 subst e;exact⟨.bl k,H,I,rfl,q⟩
theorem Ja:OpR X (compareOp .Eq) rEq:=by
 intro e s f H x y v u Q I d a h;obtain⟨c,q⟩:=h;cases x with
 | non=>
  cases d;cases y with
  | non=>cases a;exact PySem.EqNone.eq_none_none (jO I q (by simp))
  | bl j=>cases a;exact PySem.EqNone.eq_none_bool (jO I q (by simp))
  | int j=>obtain⟨b,rfl⟩:=a;exact PySem.EqNone.eq_none_int (jO I q (by simp))
  | str j=>obtain⟨b,rfl⟩:=a;exact PySem.EqNone.eq_none_str (jO I q (by simp))
  | _=>exact ud (show false=true from c) vF
 | bl i=>
  cases d;cases y with
  | non=>cases a;exact PySem.EqNone.eq_bool_none (jO I q (by simp))
  | bl j=>cases a;exact eq_bool (jO I q j0O)
  | str j=>obtain⟨b,rfl⟩:=a;exact PySem.EqMixed.eq_bool_str (jO I q (by simp))
  | _=>exact ud (show false=true from c) vF
 | int i=>
  obtain⟨t,rfl⟩:=d;cases y with
  | non=>cases a;exact PySem.EqNone.eq_int_none (jO I q (by simp))
  | int j=>obtain⟨b,rfl⟩:=a;exact eq_int (jO I q Xd)
  | str j=>obtain⟨b,rfl⟩:=a;exact PySem.EqMixed.eq_int_str (jO I q (by simp))
  | _=>exact ud (show false=true from c) vF
 | str i=>
  obtain⟨t,rfl⟩:=d;cases y with
  | non=>cases a;exact PySem.EqNone.eq_str_none (jO I q (by simp))
  | bl j=>cases a;exact PySem.EqMixed.eq_str_bool (jO I q (by simp))
  | int j=>obtain⟨b,rfl⟩:=a;exact PySem.EqMixed.eq_str_int (jO I q (by simp))
  | str j=>obtain⟨b,rfl⟩:=a;exact eq_str (jO I q Xe)
  | _=>exact ud (show false=true from c) vF
 | byt i=>
  obtain⟨t,rfl⟩:=d;cases y with
  | byt j=>obtain⟨b,rfl⟩:=a;exact PySem.W.eq_bytes (jO I q Xc)
  | _=>exact ud (show false=true from c) vF
 | _=>cases y<;>exact ud (show false=true from c) vF
theorem j3M:OpR X (compareOp .NotEq) rNe:=by
 intro e s f H x y v u Q I d a h;obtain⟨c,q⟩:=h;cases x with
 | non=>
  cases d;cases y with
  | non=>cases a;exact PySem.EqNone.ne_none_none (jO I q (by simp))
  | bl j=>cases a;exact PySem.EqNone.ne_none_bool (jO I q (by simp))
  | int j=>obtain⟨b,rfl⟩:=a;exact PySem.EqNone.ne_none_int (jO I q (by simp))
  | str j=>obtain⟨b,rfl⟩:=a;exact PySem.EqNone.ne_none_str (jO I q (by simp))
  | _=>exact ud (show false=true from c) vF
 | bl i=>
  cases d;cases y with
  | non=>cases a;exact PySem.EqNone.ne_bool_none (jO I q (by simp))
  | bl j=>cases a;exact ne_bool (jO I q (congrArg not j0O))
  | str j=>obtain⟨b,rfl⟩:=a;exact PySem.EqMixed.ne_bool_str (jO I q (by simp))
  | _=>exact ud (show false=true from c) vF
 | int i=>
  obtain⟨t,rfl⟩:=d;cases y with
  | non=>cases a;exact PySem.EqNone.ne_int_none (jO I q (by simp))
  | int j=>obtain⟨b,rfl⟩:=a;exact ne_int (jO I q (congrArg not Xd))
  | str j=>obtain⟨b,rfl⟩:=a;exact PySem.EqMixed.ne_int_str (jO I q (by simp))
  | _=>exact ud (show false=true from c) vF
 | str i=>
  obtain⟨t,rfl⟩:=d;cases y with
  | non=>cases a;exact PySem.EqNone.ne_str_none (jO I q (by simp))
  | bl j=>cases a;exact PySem.EqMixed.ne_str_bool (jO I q (by simp))
  | int j=>obtain⟨b,rfl⟩:=a;exact PySem.EqMixed.ne_str_int (jO I q (by simp))
  | str j=>obtain⟨b,rfl⟩:=a;exact ne_str (jO I q (congrArg not Xe))
  | _=>exact ud (show false=true from c) vF
 | byt i=>
  obtain⟨t,rfl⟩:=d;cases y with
  | byt j=>obtain⟨b,rfl⟩:=a;exact PySem.W.ne_bytes (jO I q (congrArg not Xc))
  | _=>exact ud (show false=true from c) vF
 | _=>cases y<;>exact ud (show false=true from c) vF
theorem WG:OpR X (compareOp .Lt) (rI0 fun i j=>.bl (decide (i<j))):=opB0 fun _ _ _ _ _ _ _ q=>lt_int q
theorem j1B:OpR X (compareOp .LtE) (rI0 fun i j=>.bl (decide (i<=j))):=opB0 fun _ _ _ _ _ _ _ q=>le_int q
theorem KF:OpR X (compareOp .Gt) (rI0 fun i j=>.bl (decide (j<i))):=opB0 fun _ _ _ _ _ _ _ q=>gt_int q
theorem j1A:OpR X (compareOp .GtE) (rI0 fun i j=>.bl (decide (j<=i))):=opB0 fun _ _ _ _ _ _ _ q=>ge_int q
theorem j4o:OpR X (compareOp .Is) (fun x y H Q=>y = .non/\Q (.bl (decide (x = .non))) H):=by
 intro a s d H x y v u Q I b c h;obtain⟨rfl,q⟩:=h;cases c;refine is_none_gen (jO I q ?_);cases x<;>first
  | (cases b;rfl)
  | (obtain⟨t,rfl⟩:=b;rfl)
theorem j3a:OpR X (compareOp .IsNot) (fun x y H Q=>y = .non/\Q (.bl (!decide (x = .non))) H):=by
 intro a s d H x y v u Q I b c h;obtain⟨rfl,q⟩:=h;cases c;refine isnot_none_gen (jO I q ?_);cases x<;>first
  | (cases b;rfl)
  | (obtain⟨t,rfl⟩:=b;rfl)
theorem nomark(b:Expr)(h:op≠.In:=by decide)(d:op≠.NotIn:=by decide):behindInMarks op b=false:=by
 have a:(op==CmpOp.In)=false:=by cases op<;>first | rfl | exact ud rfl h
 have c:(op==CmpOp.NotIn)=false:=by cases op<;>first | rfl | exact ud rfl d
 cases b<;>simp[behindInMarks,a,c]
theorem YB(j:OpR X (compareOp op) r)(f:PE X a ta)(g:PE X b tb)(i:behindInMarks op b=false):PE X (.Compare a [op] [b] pos) (tOp r ta tb):=by
 intro c s n H Q I h;exact wpAny_Compare1 (binT f g I h fun v u m x y d e k l q=>j c m n d x y v u Q e k l q) i
def tTest(t:TE):TT:=fun σ H Q=>t σ H fun x H'=>∃k,x = .bl k/\Q k H'
theorem jp(t:OpR X (compareOp op) r)(o:PE X a ta)(p:PE X b tb)(q:behindInMarks op b=false):PT X (.Compare a [op] [b] pos) (tTest (tOp r ta tb)):=by
 intro d s f H Q I h;refine wpAny_isTrue_Compare1 (thn (o d s f H _ I h) fun v F ⟨x,g,l,C,w⟩=>thn (p d F f g _ l w) fun u G ⟨y,i,m,D,A⟩=>
  thn (t d G f i x y v u _ m C D A) fun c J ⟨z,j,n,E,k,e,B⟩=>?_) q
 subst e;cases E;exact wpAny_truthy_bool ⟨j,n,B⟩
def tChain(r r':R2)(ta tb tc:TE):TE:=fun σ H Q=>ta σ H fun x H1=>tb σ H1 fun y H2=>r x y H2 fun z H3=>∃k,z = .bl k/\
 (if k=true then tc σ H3 fun w' H4=>r' y w' H4 Q else Q (.bl false) H3)
theorem j1L(L:OpR X (compareOp op) r)(i:OpR X (compareOp op') r')(F:PE X a ta)(G:PE X b tb)(J:PE X c tc)
  (K:lastMarks [op,op'] [b,c]=false:=by with_unfolding_all rfl):PT X (.Compare a [op,op'] [b,c] pos) (tTest (tChain r r' ta tb tc)):=by
 intro f s g H Q I h;refine isTrue_chain (thn (F f s g H _ I h) fun v Y ⟨x,o,w,S,N⟩=>test_link (thn (G f Y g o _ w N) fun u Z ⟨y,p,A,n,O⟩=>
  thn (L f Z g p x y v u _ A S n O) fun d s3 ⟨z,j,l,T,k,e,m⟩=>?_)) K
 subst e;cases T;refine wpAny_truthy_bool ?_;cases k with
 | false=>
  obtain⟨k',D,M⟩:=m;cases D;exact ite_ff ⟨j,l,M⟩
 | true=>
  refine ite_tt (test_last (thn (J f s3 g j _ l m) fun w' s4 ⟨z',q,B,U,P⟩=>thn (i f s4 g q y z' u w' _ B n U P) fun d' s5 ⟨z2,t,C,W,k2,E,R⟩=>?_));subst E;cases W;exact wpAny_truthy_bool ⟨t,C,R⟩
def TruV(K:Frg)(x:V)(H:Hp)(k:Bool):Prop:=
 match x with
 | .non=>k=false
 | .bl b=>k=b
 | .int i=>k=(i != 0)
 | .str y=>y.length<=sizeLine/\k=((y.length:Int) != 0)
 | .byt y=>y.size<=sizeLine/\k=((y.size:Int) != 0)
 | .ref p=>(∃xs,SqL K H p xs/\k = !xs.isEmpty)\/(∃xs,SqT K H p xs/\k = !xs.isEmpty)\/∃kvs,H p=some (.dK kvs)/\k = !kvs.isEmpty
 | _=>False
theorem xp{κ:Type}{kvs:List (κ×V)}{vs:List (κ×Value)}(r:KV kvs vs):(!vs.isEmpty) = !kvs.isEmpty:=by
 cases r<;>rfl
theorem Y3{xs:List V}{a:List Value}(r:Vals xs a):(!a.toArray.isEmpty) = !xs.isEmpty:=by
 cases r<;>simp
theorem line63:(sizeLine:Nat)<2^63:=by rw[sizeLine_eq];decide
theorem j4L:TruR X (fun x H Q=>∃k,TruV X.K x H k/\Q k H):=by
 intro w s D H x v Q I g h;obtain⟨k,e,q⟩:=h;have B:=line63;have C:sizeLine=16777216:=sizeLine_eq;cases x with
 | non=>
  cases g;have a:k=false:=e;subst a;exact truthy_none ⟨H,I,q⟩
 | bl b=>
  cases g;have a:k=b:=e;subst a;exact wpAny_truthy_bool ⟨H,I,q⟩
 | int i=>
  obtain⟨t,rfl⟩:=g;have a:k=(i != 0):=e;subst a;exact PySem.P.truthy_int ⟨H,I,q⟩
 | str y=>
  obtain⟨t,rfl⟩:=g;obtain⟨A,a⟩:y.length<=sizeLine/\k=((y.length:Int) != 0):=e;subst a;exact PySem.P.truthy_str (by lia) ⟨H,I.tok _,q⟩
 | byt y=>
  obtain⟨t,rfl⟩:=g;obtain⟨A,a⟩:y.size<=sizeLine/\k=((y.size:Int) != 0):=e;subst a;exact PySem.W.truthy_bytes (by lia) ⟨H,I.tok _,q⟩
 | ref p=>
  cases g;have a:(∃f,SqL X.K H p f/\k = !f.isEmpty)\/(∃f,SqT X.K H p f/\k = !f.isEmpty)\/∃c,H p=some (.dK c)/\k = !c.isEmpty:=e;rcases a with⟨f,j,a⟩ | ⟨f,j,a⟩ | ⟨c,j,a⟩
  ·subst a;obtain⟨n,r,o,u⟩:=I.list j;have d:=r.length;exact wpAny_truthy_list o.isList (by simp only[size_toArray];lia) ⟨H,I.tok _,by rw[Y3 r];exact q⟩
  ·subst a;obtain⟨n,r,o,u⟩:=I.tuple j;have d:=r.length;exact truthy_tuple o (by simp only[size_toArray];lia) ⟨H,I.tok _,by rw[Y3 r];exact q⟩
  ·subst a;obtain⟨u,z,l,r,m⟩:c.length<=sizeLine/\(p==sysModules)=false/\∃l,KV c l/\s.heap.DictOf (mixKind X.prog X.w) p l:=I.hok p _ j;have d:c.length=l.length:=Paired.length r;exact wpAny_truthy_dict z m (by lia) ⟨H,I.tok _,by rw[xp r];exact q⟩
 | _=>exact(show False from e).elim
theorem j1M(f:PE X a ta)(g:∀b,isTrue a X.env b=(do let v <-b;standAt a.pos;holding [v] (truthy v))) :
  PT X a (fun σ H Q=>ta σ H fun x H'=>∃k,TruV X.K x H' k/\Q k H'):=by
 intro c s σ H Q I h;exact isTrue_plain (thn (f c s σ H _ I h) fun v l ⟨x,d,e,j,i⟩=>j4L c l σ d x v Q e j i) (g _)
theorem qx:OpR X (binaryOp .Add) (fun x y H Q=>∃i j,x = .str i/\y = .str j/\i.length+j.length<=sizeLine/\Q (.str (i++j)) H):=by
 intro a s g H x y v u Q I c d h;obtain⟨i,j,rfl,rfl,b,q⟩:=h;obtain⟨t,rfl⟩:=c;obtain⟨e,rfl⟩:=d;exact add_str (fun e f=>⟨.str (i++j),H,I.tok _,⟨_,rfl⟩,q⟩) b
theorem vals1(r:Vals [x] us):∃u,us=[u]/\RelV x u:=by
 cases r with
 | cons r1 r2=>cases r2;exact⟨_,rfl,r1⟩
theorem vals2(r:Vals [x,y] us):∃u a,us=[u,a]/\RelV x u/\RelV y a:=by
 cases r with
 | cons r1 r2=>
  cases r2 with
  | cons r3 r4=>cases r4;exact⟨_,_,rfl,r1,r3⟩
theorem yD(c:X.calm=true):CallR X (.builtin "min") (fun xs H Q=>∃i j,xs=[.int i,.int j]/\Q (.int (if j<i then j else i)) H):=by
 intro b s m H xs g Q I r h;obtain⟨i,j,rfl,q⟩:=h;obtain⟨u,l,rfl,⟨t,rfl⟩,⟨e,rfl⟩⟩:=vals2 r;refine min_two_ints (I.ok.hd c) fun d f k=>⟨_,H,I.kept k,?_,q⟩
 by_cases a:j<i
 ·rw[vd a,vd a];exact⟨_,rfl⟩
 ·rw[vc a,vc a];exact⟨_,rfl⟩
def LenV(K:Frg)(x:V)(H:Hp)(n:Nat):Prop:=
 match x with
 | .str y=>y.length<=sizeLine/\n=y.length
 | .byt y=>y.size<=sizeLine/\n=y.size
 | .ref p=>(∃xs,SqL K H p xs/\n=xs.length)\/∃xs,SqT K H p xs/\n=xs.length
 | _=>False
theorem jR:CallR X (.builtin "len") (fun xs H Q=>∃x n,xs=[x]/\LenV X.K x H n/\Q (.int n) H):=by
 intro j s w H xs v Q I r h;obtain⟨x,n,rfl,e,q⟩:=h;obtain⟨u,rfl,i⟩:=vals1 r;have m:=line63;have o:sizeLine=16777216:=sizeLine_eq;cases x with
 | str y=>
  obtain⟨t,rfl⟩:=i;obtain⟨k,b⟩:y.length<=sizeLine/\n=y.length:=e;subst b;exact len_str (by lia) ⟨.int _,H,I.tok _,⟨_,rfl⟩,q⟩
 | byt y=>
  obtain⟨t,rfl⟩:=i;obtain⟨k,b⟩:y.size<=sizeLine/\n=y.size:=e;subst b;exact PySem.W.len_bytes (by lia) ⟨.int _,H,I.tok _,⟨_,rfl⟩,q⟩
 | ref p=>
  cases i;have b:(∃xs,SqL X.K H p xs/\n=xs.length)\/∃xs,SqT X.K H p xs/\n=xs.length:=e;rcases b with⟨xs,c,b⟩ | ⟨xs,c,b⟩
  ·subst b;obtain⟨d,g,f,l⟩:=I.list c;have a:=g.length;exact Calls.call_len_list f.isList (by simp only[size_toArray];lia) ⟨.int xs.length,H,I.tok _,⟨_,by simp only[size_toArray];rw[a]⟩,q⟩
  ·subst b;obtain⟨d,g,f,l⟩:=I.tuple c;have a:=g.length;exact len_tuple f (by simp only[size_toArray];lia) ⟨.int xs.length,H,I.tok _,⟨_,by simp only[size_toArray];rw[a]⟩,q⟩
 | _=>exact(show False from e).elim
end
structure ObjM(h:Heap)(x dx C:Addr)(mA:Str->Option Value):Prop where
 obj:h.get? x=some (PySem.W.instObj C dx)
 ns:h.Ns1 dx mA
 ne:dx≠x
theorem j07{h:Heap}{c:Addr}{f:Str->Option Value}(n:h.Ns1 c f):∃g,h.get? c=some g/\∀name,PySem.W.lookIn name g=some (f name):=by
 obtain⟨o,d,r,m,j,k,_,l⟩:=n;refine⟨o,m,fun name=>?_⟩;have e:=l name;unfold nsFind findBy at e;rw[<-Array.find?_toList]at e;unfold PySem.W.lookIn;rw[j];dsimp only;split
 ·rename_i y q;rw[q]at e;exact congrArg some e
 ·rename_i q;rw[q]at e;have a:d.toList.any (·.refKey)=false:=by
   rw[List.any_eq_false];intro y p;obtain⟨z,t,b⟩:=k y (Array.mem_toList_iff.mp p);simp[DictEntry.refKey,b]
  have i:¬d.toList.any (·.refKey)=true:=by rw[a];exact vF
  rw[vc i];exact congrArg some e
theorem ObjM.look{b:Str->Option Value}(I:ObjM h x dx C b):∃a,PySem.W.InstAt h x (PySem.W.instObj C dx) C (some a)/\∀name,PySem.W.lookIn name a=some (b name):=
 let ⟨a,ho,hl⟩:=j07 I.ns
 ⟨a,⟨I.obj,rfl,rfl,ho⟩,hl⟩
section
variable{prog:Program}{w:World}{A:Around}{E:Value->Shared->Prop}{s:Shared}{K:Frg}{x dx C f:Addr}{mA:Str->Option Value}{name:Str}{v:Value}
theorem j2H{Q:Value->Shared->Prop}(X:K.In s.heap)(I:ObjM s.heap x dx C mA)(c:PySem.W.plainGet K C name=true)(d:PySem.W.hasDictIn K C=true)
  (b:PySem.W.findIn K (.ref C) name=some none) (f:mA name=some v) (a:PySem.W.handedIn v=true) (h:Q v {s with toks:=s.toks+1}) :
  wpAny (model prog w) A (getAttr (.ref x) name expr) Q E s:=by
 obtain⟨g,J,e⟩:=I.look;exact PySem.W.get_value X J (PySem.W.plainGet_of c).1 (PySem.W.findObj_own d b rfl (by rw[e,f])) a h
theorem j0Y{Q:Value×List Value->Shared->Prop}(X:K.In s.heap)(I:ObjM s.heap x dx C mA)(a:PySem.W.plainGet K C name=true)
  (b:PySem.W.findIn K (.ref C) name=some (some (.ref f))) (d:PySem.W.isFn K (.ref f)=true) (e:mA name=none) (h:Q (.ref f,[.ref x]) s) :
  wpAny (model prog w) A (getMethod (.ref x) name pl) Q E s:=by
 obtain⟨g,J,c⟩:=I.look;exact PySem.W.method_fn X J (PySem.W.plainGet_of a).1 (PySem.W.plainGet_of a).2 b (beq_iff_eq.mp d) (by show(PySem.W.lookIn name g).map (·.isSome)=some false;rw[c,e];rfl) h
theorem j3r{Q:Unit->Shared->Prop}(X:K.In s.heap)(I:ObjM s.heap x dx C mA)
  (o:PySem.W.findIn K (.ref C) "__setattr__"= some (some (.builtin "object.__setattr__"))) (n:PySem.W.plainOver K C=true) (p:PySem.W.takerIn K C name=some none) (m:PySem.W.hasDictIn K C=true)
  (hw:PySem.Within mA ns) (hsz:ns.length<=sizeLine)
  (h:∀h',ObjM h' x dx C (fun y=>if y=name then some v else mA y)->Heap.SameBut dx s.heap h'->Q () {s with heap:=h',toks:=s.toks+2}) :
  wpAny (model prog w) A (setAttr (.ref x) name v) Q E s:=by
 obtain⟨B,J,u⟩:=I.look;refine PySem.W.set_plain X J o (PySem.W.osa_open (s:={s with toks:=s.toks+1}) (r:=none) X J n p fun b=>?_);obtain⟨t,l,f⟩:=PySem.W.any_some m;have q:s.heap.get? x=some ⟨.ref C,some dx,.plain,#[]⟩:=I.obj;refine uf (ue (uf (uf (wpAny_loadPart q (uf (PySem.W.Looks.here (s:={s with toks:=s.toks+1}) (PySem.W.looks_clsIn X l) ?_))))));rw[f];refine ue (a:=some dx) (uf (ue (uf ?_)));refine wpAny_nsSet1 (s:={s with toks:=s.toks+1}) I.ns fun h' c d=>?_
 obtain⟨z,k,j,i,g,e⟩:=c.count (PySem.Within.cons name v hw);refine uf (wpAny_lookBehind i (by rw[g];exact pastItsLine_dict (vW e (by rw[vQ];lia))) ?_);exact ue (h _ ⟨(d.2 _ (Ne.symm I.ne)).trans I.obj,c,I.ne⟩ d)
theorem j1b{R:Result->Shared->Prop}(X:K.In s.heap)(c:PySem.W.makesIn K C=true)
  (hi:PySem.W.findIn K (.ref C) "__init__"= some (some (.ref f))) (b:PySem.W.typeIn K (.ref f)=some (.type "function"))
  (h:codeAny (model prog w) (A.under (.builtin "type.__call__" ⟨.ref C::vs,kw⟩)) (.call (.ref f) ⟨.ref (s.heap.objs.size+1)::vs,kw⟩) (PySem.W.InitBack (s.heap.objs.size+1) R)
   {s with heap:=(s.heap.push PySem.W.emptyDict).push (PySem.W.instObj C s.heap.objs.size)}) :
  codeAny (model prog w) A (.call (.ref C) ⟨vs,kw⟩) R s:=by
 obtain⟨e,g,d,t,i⟩:=s;exact PySem.W.make_core (PySem.W.makes_of X c) (PySem.W.looks_findIn X hi) (fun a=>PySem.W.bind_fn X a b) (.inl rfl) h
end
noncomputable def putF(f:Str)(v:V):List (Str×V)->List (Str×V)
 | []=>[(f,v)]
 | (g,x)::r=>if g=f then(g,v)::r else(g,x)::putF f v r
theorem QA(f g:Str)(v:V):∀fs:List (Str×V),(putF f v fs).lookup g=if g=f then some v else fs.lookup g
 | []=>by
  show List.lookup g [(f,v)]=_;by_cases h:g=f
  ·have a:(g==f)=true:=beq_iff_eq.mpr h;simp only[List.lookup,a,if_pos h]
  ·have a:(g==f)=false:=beq_eq_false_iff_ne.mpr h;simp only[List.lookup,a,if_neg h]
 | (k,x)::r=>by
  have c:=QA f g v r;rw[show putF f v ((k,x)::r)=(if k=f then(k,v)::r else(k,x)::putF f v r)from rfl];by_cases b:k=f
  ·rw[vd b];by_cases h:g=k
   ·have a:(g==k)=true:=beq_iff_eq.mpr h;simp only[List.lookup,a,if_pos (h.trans b)]
   ·have a:(g==k)=false:=beq_eq_false_iff_ne.mpr h;simp only[List.lookup,a,if_neg (fun e:g=f=>h (e.trans b.symm))]
  ·rw[vc b];by_cases h:g=k
   ·have a:(g==k)=true:=beq_iff_eq.mpr h;simp only[List.lookup,a,if_neg (fun e:g=f=>b (h.symm.trans e))]
   ·have a:(g==k)=false:=beq_eq_false_iff_ne.mpr h;simp only[List.lookup,a];exact c
theorem yO(f:Str)(v:V):∀fs:List (Str×V),f∈(putF f v fs).map (·.1)/\∀g,g∈fs.map (·.1)->g∈(putF f v fs).map (·.1)
 | []=>⟨by simp[putF],fun g h=>by simp at h⟩
 | (k,x)::r=>by
  obtain⟨b,c⟩:=yO f v r;rw[show putF f v ((k,x)::r)=(if k=f then(k,v)::r else(k,x)::putF f v r)from rfl];by_cases a:k=f
  ·rw[vd a];subst a;exact⟨by simp,fun g h=>by simpa using h⟩
  ·rw[vc a];refine⟨?_,fun g h=>?_⟩
   ·rw[uy];exact vp _ b
   ·rw[uy]at h|-;rcases mem_cons.mp h with e | e
    ·exact mem_cons.mpr (.inl e)
    ·exact vp _ (c g e)
theorem Yj(f:Str)(v:V):∀fs:List (Str×V),(putF f v fs).length<=fs.length+1
 | []=>by simp[putF]
 | (k,x)::r=>by
  have b:=Yj f v r;rw[show putF f v ((k,x)::r)=(if k=f then(k,v)::r else(k,x)::putF f v r)from rfl];by_cases a:k=f
  ·rw[vd a,vQ,vQ];lia
  ·rw[vc a,vQ,vQ];lia
theorem RelO.some_of(r:RelO (some v) o):∃u,o=some u/\RelV v u:=by
 cases o with
 | none=>exact(show False from r).elim
 | some u=>exact⟨u,rfl,r⟩
theorem RelO.none_of(r:RelO none o):o=none:=by
 cases o with
 | none=>rfl
 | some u=>exact(show False from r).elim
theorem X4(r:RelV v u):PySem.W.handedIn u=true:=by
 cases v with
 | non=>cases(show u=Value.none from r);rfl
 | bl b=>cases(show u=Value.bool b from r);rfl
 | int i=>obtain⟨t,e⟩:=(show∃t,u=Value.int i t from r);cases e;rfl
 | str x=>obtain⟨t,e⟩:=(show∃t,u=Value.str x t from r);cases e;rfl
 | byt b=>obtain⟨t,e⟩:=(show∃t,u=Value.bytes b t from r);cases e;rfl
 | flt b=>obtain⟨t,e⟩:=(show∃t,u=Value.float b t from r);cases e;rfl
 | ref a=>cases(show u=Value.ref a from r);rfl
 | ty n=>cases(show u=Value.type n from r);rfl
section
variable{P:Program}{w:World}{H H':Hp}{h h':Heap}{a C dx:Addr}{fs fs':List (Str×V)}
theorem Yu(b:HOk P w H h)(e:H a=some (.ins C dx fs)):∃mA,ObjM h a dx C mA/\(∀f,RelO (fs.lookup f) (mA f))/\PySem.Within mA (fs.map (·.1))/\fs.length<=1000/\H dx=some (.own a):=by
 obtain⟨d,z,c,g,mA,n,r,q⟩:=(show ObjOk P w H h a (.ins C dx fs)from b a _ e)
 exact⟨mA,⟨g,n,c⟩,r,q,z,d⟩
end
structure Cls(K:Frg)(C:Addr):Prop where
 pg:PySem.W.plainGet K C Str.empty=true
 hd:PySem.W.hasDictIn K C=true
 po:PySem.W.plainOver K C=true
 sa:PySem.W.findIn K (.ref C) "__setattr__"= some (some (.builtin "object.__setattr__"))
theorem Cls.get{K:Frg}{C:Addr}(c:Cls K C)(f:Str):PySem.W.plainGet K C f=true:=c.pg
def NoAttr(K:Frg)(C:Addr)(f:Str):Prop:=PySem.W.findIn K (.ref C) f=some none
theorem NoAttr.taker{K:Frg}{C:Addr}{f:Str}(n:NoAttr K C f):PySem.W.takerIn K C f=some none:=by
 unfold PySem.W.takerIn;rw[show PySem.W.findIn K (.ref C) f=some none from n];rfl
structure Meth(K:Frg)(C:Addr)(m:Str)(f:Addr):Prop where
 at_:PySem.W.findIn K (.ref C) m=some (some (.ref f))
 fn:PySem.W.isFn K (.ref f)=true
 kp:PySem.W.keepIn K (.ref f)=true
section
variable{X:Cx}{pins:List (Addr×Obj)}{σ:St}{H:Hp}{s:Shared}{a C dx:Addr}{fs:List (Str×V)}{f:Str}{v:V}{A:Around}{E:Value->Shared->Prop}
theorem xj{Q:Value->Shared->Prop}(I:Inv X pins σ H s)(e:H a=some (.ins C dx fs))(c:Cls X.K C)(n:NoAttr X.K C f)(l:fs.lookup f=some v)
  (h:∀u s',Inv X pins σ H s'->RelV v u->Q u s'):wpAny (model X.prog X.w) A (getAttr (.ref a) f b) Q E s:=by
 obtain⟨i,O,r,_,_,_⟩:=Yu I.hok e;obtain⟨u,g,d⟩:=RelO.some_of (v:=v) (o:=i f) (by rw[<-l];exact r f);exact j2H I.kIn O (c.get f) c.hd n g (X4 d) (h u _ (I.tok _) d)
theorem xm{Q:Value×List Value->Shared->Prop}(I:Inv X pins σ H s)(e:H a=some (.ins C dx fs))(c:Cls X.K C)(k:Meth X.K C m g)(l:fs.lookup m=none)
  (h:Q (.ref g,[.ref a]) s):wpAny (model X.prog X.w) A (getMethod (.ref a) m pl) Q E s:=by
 obtain⟨d,O,r,_,_,_⟩:=Yu I.hok e;have b:d m=none:=RelO.none_of (by rw[<-l];exact r m);exact j0Y I.kIn O (c.get m) k.at_ k.fn b h
theorem xN{Q:Unit->Shared->Prop}(I:Inv X pins σ H s)(e:H a=some (.ins C dx fs))(c:Cls X.K C)(n:NoAttr X.K C f)(D:fs.length<1000)(w:RelV y u)
  (h:∀s',Inv X pins σ (upd H a (.ins C dx (putF f y fs))) s'->Q () s'):wpAny (model X.prog X.w) A (setAttr (.ref a) f u) Q E s:=by
 obtain⟨j,O,r,k,_,i⟩:=Yu I.hok e;have v:(fs.map (·.1)).length<=sizeLine:=by rw[vt,sizeLine_eq];lia
 refine j3r I.kIn O c.sa c.po n.taker c.hd k v fun l d B=>h _ ?_
 have p:∃o,l.get? dx=some o:=let ⟨o,_,_,e',_⟩:=d.ns;⟨o,e'⟩;refine I.write (x:=a) (e:=dx) (by rw[e];exact True.intro) (.inr i) (fun b q m z=>(B.2 b m).trans z) p ?_;refine⟨by rw[jh O.ne];exact i,?_,O.ne,d.obj,_,d.ns,fun g=>?_,fun g t=>?_⟩
 ·have:=Yj f y fs;lia
 ·show RelO ((putF f y fs).lookup g) (if g=f then some u else j g);rw[QA];by_cases q:g=f
  ·rw[vd q,vd q];exact w
  ·rw[vc q,vc q];exact r g
 ·by_cases q:g=f
  ·rw[q];exact(yO f y fs).1
  ·refine(yO f y fs).2 g (k g fun z=>t ?_);show(if g=f then some u else j g)=none;rw[vc q];exact z
theorem Inv.made(I:Inv X pins σ H s):Inv X pins σ (upd (upd H s.heap.objs.size (.own (s.heap.objs.size+1))) (s.heap.objs.size+1) (.ins C s.heap.objs.size []))
  {s with heap:=(s.heap.push PySem.W.emptyDict).push (PySem.W.instObj C s.heap.objs.size)}:=by
 have c:(s.heap.push PySem.W.emptyDict).get? s.heap.objs.size=some PySem.W.emptyDict:=Heap.get?_push_size s.heap rfl;have g:((s.heap.push PySem.W.emptyDict).push (PySem.W.instObj C s.heap.objs.size)).get? (s.heap.objs.size+1)=some (PySem.W.instObj C s.heap.objs.size):=by
  have:=Heap.get?_push_size (s.heap.push PySem.W.emptyDict) (o:=PySem.W.instObj C s.heap.objs.size) rfl
  rwa [Heap.size_push]at this
 have h:(s.heap.push PySem.W.emptyDict).Ns s.heap.objs.size (fun _=>none):=⟨PySem.W.emptyDict,#[],_,c,rfl,(fun e i=>ud i (by simp)),fun _=>rfl⟩
 have f:=I.laid (a:=s.heap.objs.size) (o:=.own (s.heap.objs.size+1)) (h':=s.heap.push PySem.W.emptyDict) (t':=s.toks) (fun b u q=>vJ _ q) (vb _) ⟨_,c⟩;refine f.laid (a:=s.heap.objs.size+1) (o:=.ins C s.heap.objs.size []) (t':=s.toks) (fun b u q=>vJ _ q) (Nat.le_of_eq (Heap.size_push _ _)) ?_;have d:s.heap.objs.size≠s.heap.objs.size+1:=vE (Nat.lt_succ_self _);refine⟨by rw[jh d,jq],va _,d,g,fun _=>none,(Heap.Ns1.of_empty h).at fun o q=>vJ _ q,fun _=>True.intro,fun y j=>ud rfl j⟩
theorem j2r{f:Str}{s:Shared}{Q:Value->Shared->Prop}(b:attributeBase e f env (eval e env)=eval e env)
  (h:wpAny (model prog w) A (eval e env) (fun o a=>wpAny (model prog w) A (getAttr o f true) Q E a) E s):wpAny (model prog w) A (eval (.Attribute e f pos) env) Q E s:=
 Attribute_any_ h (by rw[arm_eval_Attribute,b])
end
def tFld(K:Frg)(ta:TE)(f:Str):TE:=fun σ H Q=>ta σ H fun x H1=>∃a C dx fs v,x = .ref a/\H1 a=some (.ins C dx fs)/\Cls K C/\NoAttr K C f/\fs.lookup f=some v/\Q v H1
def sFld(K:Frg)(ta tv:TE)(f:Str):TS:=fun D σ H=>tv σ H fun y H1=>ta σ H1 fun x H2=>∃a C dx fs,x = .ref a/\H2 a=some (.ins C dx fs)/\Cls K C/\NoAttr K C f/\fs.length<1000/\
 D.nx σ (upd H2 a (.ins C dx (putF f y fs)))
section
variable{X:Cx}{o e value:Expr}{f:Str}{pos pos' tpos:Pos}{ta tv:TE}
theorem Qg(o:PE X e ta)(m:attributeBase e f X.env (eval e X.env)=eval e X.env):PE X (.Attribute e f pos) (tFld X.K ta f):=by
 intro b s t H Q I h;refine j2r m (thn (o b s t H _ I h) fun u z ⟨x,d,g,r,a,C,w,y,v,k,j,c,n,l,q⟩=>?_);subst k;obtain rfl:u=Value.ref a:=r;exact xj g j c n l fun B A i p=>⟨v,d,i,p,q⟩
theorem yU(p:PE X o ta)(t:PE X value tv)(r:swapsWith value (some (.Attribute o f pos')) pos.line X.env=pure false):PS X (.Assign [.Attribute o f pos'] value pos) (sFld X.K ta tv f):=by
 intro b s d H D I h;refine plainObj_wpAny_Assign_Attribute (thn (t b s d H _ I h) fun u A ⟨y,e,g,z,q⟩=>thn (p b A d e _ g q) fun ov G ⟨x,B,i,w,a,C,E,F,m,k,c,n,l,v⟩=>?_) r;subst m;obtain rfl:ov=Value.ref a:=w;exact xN i k c n l z fun J j=>⟨d,_,j,v⟩
end
section
variable{X:Cx}{pins:List (Addr×Obj)}{σ:St}{H:Hp}{s:Shared}{A:Around}{E:Value->Shared->Prop}{Q:Value->Shared->Prop}{c:Value}{b:Bool}
inductive TyOf(K:Frg)(H:Hp):V->Value->Prop where
 | non:TyOf K H .non (.type "NoneType")
 | bl (x:Bool):TyOf K H (.bl x) (.type "bool")
 | int (i:Int):TyOf K H (.int i) (.type "int")
 | str (x:Str):TyOf K H (.str x) (.type "str")
 | flt (x:UInt64):TyOf K H (.flt x) (.type "float")
 | lst {a:Addr} {xs:List V} (e:H a=some (.lst xs)):TyOf K H (.ref a) (.type "list")
 | frz {a:Addr} {o:Obj} {xs:List V} (e:H a=some (.frz o (.lst xs))):TyOf K H (.ref a) (.type "list")
 | tup {a:Addr} {xs:List V} (e:H a=some (.tup xs)):TyOf K H (.ref a) (.type "tuple")
 | dK {a:Addr} {kvs:List (Key×V)} (e:H a=some (.dK kvs)):TyOf K H (.ref a) (.type "dict")
 | dT {a:Addr} {kvs:List (List Key×V)} (e:H a=some (.dT kvs)):TyOf K H (.ref a) (.type "dict")
 | ins {a C dx:Addr} {fs:List (Str×V)} (e:H a=some (.ins C dx fs)) (cl:Cls K C) (ha:PySem.W.findIn K (.ref C) "__class__"= some (some (.builtin "object.__class__")))
   (hn:PySem.W.specialIn K (.builtin "object.__class__") "__get__"= some (some (.builtin "getset_descriptor.__get__"))) (htk:PySem.W.takesIn K (.builtin "object.__class__")=some true)
   (hm:PySem.W.mroIn K C (.type "object")=some true):TyOf K H (.ref a) (.ref C)
theorem X8(I:Inv X pins σ H s)(d:RelV x u)(m:TyOf X.K H x t)(e:PySem.W.kitOne X.K t c=some b)(h:∀tk,Q (.bool b) {s with toks:=tk}) :
  wpAny (model X.prog X.w) A (call (.builtin "isinstance") [u,c]) Q E s:=by
 cases m with
 | non=>cases(show u=Value.none from d);exact PySem.W.kia_one PySem.W.kitx_none I.kIn True.intro e (fun z=>nomatch z) h
 | bl y=>cases(show u=Value.bool y from d);exact PySem.W.kia_one PySem.W.kitx_bool I.kIn True.intro e (fun z=>nomatch z) h
 | int i=>obtain⟨t,q⟩:=(show∃t,u=Value.int i t from d);cases q;exact PySem.W.kia_one PySem.W.kitx_int I.kIn True.intro e (fun z=>nomatch z) h
 | str y=>obtain⟨t,q⟩:=(show∃t,u=Value.str y t from d);cases q;exact PySem.W.kia_one PySem.W.kitx_str I.kIn True.intro e (fun z=>nomatch z) h
 | flt y=>obtain⟨t,q⟩:=(show∃t,u=Value.float y t from d);cases q;exact PySem.W.kia_one PySem.W.kitx_float I.kIn True.intro e (fun z=>nomatch z) h
 | @lst a g ea=>
  cases(show u=Value.ref a from d);obtain⟨_,_,n,_,f⟩:=(show ObjOk X.prog X.w H s.heap a (.lst g)from I.hok a _ ea)
  exact PySem.W.kia_one PySem.W.kitx_list I.kIn ⟨_,f,rfl⟩ e (fun z=>nomatch z) h
 | @frz a ob g ea=>
  cases(show u=Value.ref a from d);obtain⟨_,_,_,n,_,f⟩:=(show ObjOk X.prog X.w H s.heap a (.frz ob (.lst g))from I.hok a _ ea)
  exact PySem.W.kia_one PySem.W.kitx_list I.kIn ⟨_,f,rfl⟩ e (fun z=>nomatch z) h
 | @tup a g ea=>
  cases(show u=Value.ref a from d);obtain⟨_,_,_,p⟩:=(show ObjOk X.prog X.w H s.heap a (.tup g)from I.hok a _ ea)
  obtain⟨o,f,j,_⟩:=p;exact PySem.W.kia_one PySem.W.kitx_tuple I.kIn ⟨o,f,j⟩ e (fun z=>nomatch z) h
 | @dK a kvs ea=>
  cases(show u=Value.ref a from d);obtain⟨_,_,w,_,p⟩:=(show ObjOk X.prog X.w H s.heap a (.dK kvs)from I.hok a _ ea)
  obtain⟨o,l,k,f,j,_⟩:=p;exact PySem.W.kia_one PySem.W.kitx_dict I.kIn ⟨o,f,j.1⟩ e (fun z=>nomatch z) h
 | @dT a kvs ea=>
  cases(show u=Value.ref a from d);obtain⟨_,_,g,_,o,l,k,f,j,_⟩:=(show ObjOk X.prog X.w H s.heap a (.dT kvs)from I.hok a _ ea)
  exact PySem.W.kia_one PySem.W.kitx_dict I.kIn ⟨o,f,j.1⟩ e (fun z=>nomatch z) h
 | @ins a C dx fs ea cl ha hn htk hm=>
  cases(show u=Value.ref a from d);obtain⟨r,O,_⟩:=Yu I.hok ea;obtain⟨v,J,_⟩:=O.look;exact PySem.W.kia_one (PySem.W.kitx_own (cl.get _) cl.hd ha hn htk hm) I.kIn J e (fun z=>nomatch z) h
end
structure Room(k:Nat)(A:Around):Prop where
 hd:A.handled=none
 dp:A.depth+3*k+5<recursionLimit
 un:A.units+16*k+200<cLine
theorem Room.mono(r:Room k A)(h:j<=k):Room j A:=⟨r.hd,by have:=r.dp;lia,by have:=r.un;lia⟩
theorem Room.deeper(r:Room (k+1) A)(env:Env):Room k (A.deeper env):=
 ⟨r.hd,by have:=r.dp;show A.depth+1+3*k+5<_;lia,by have:=r.un;show A.units+3+16*k+200<_;lia⟩
theorem xv{A:Around}{C:Addr}{us:List Value}{a:List (Str×Value)}:(A.under (.builtin "type.__call__" ⟨.ref C::us,a⟩)).depth=A.depth+1:=by
 first | rfl | simp[Around.under,Code.weight,Code.isCreation,Code.isGuard,Code.isCaller,Code.frames,Code.isFrame,guardIds]
theorem xw{A:Around}{C:Addr}{us:List Value}{a:List (Str×Value)}:(A.under (.builtin "type.__call__" ⟨.ref C::us,a⟩)).units=A.units+1:=by
 first | rfl | simp[Around.under,Code.cUnits,Code.frames,Code.isFrame]
theorem Room.make(r:Room (k+1) A)(C:Addr)(us:List Value)(a:List (Str×Value)):Room k (A.under (.builtin "type.__call__" ⟨.ref C::us,a⟩)):=
 ⟨r.hd,by have:=r.dp;rw[xv];lia,by have:=r.un;rw[xw];lia⟩
theorem Room.depth(r:Room k A):A.depth<recursionLimit:=by have:=r.dp;lia
theorem Room.units(r:Room k A):A.units+64<cLine:=by have:=r.un;lia
def tNil:TA:=fun _ H Q=>Q [] H
def tCons(ta:TE)(tr:TA):TA:=fun σ H Q=>ta σ H fun x H1=>tr σ H1 fun xs H2=>Q (x::xs) H2
section
variable{X:Cx}{e:Expr}{es:List Expr}{te:TE}{t:TA}{pos:Pos}
theorem jb:PA X [] tNil:=fun _ _ _ _ H Q I h=>Calls.spliced_nil ⟨[],H,I,.nil,h⟩
theorem ja(j:PE X e te)(k:PA X es t)(l:starEach (e::es) X.env=(false,eval e X.env)::starEach es X.env:=by rfl):PA X (e::es) (tCons te t):=by
 intro b a s c H Q I h;rw[l];show wpAny _ _ (spliced ((false,eval e X.env)::backTo b (starEach es X.env))) _ _ s;refine Calls.spliced_cons (thn (j a s c H _ I h) fun u q ⟨x,d,g,o,m⟩=>?_);exact thn (k b a q c d _ g m) fun w v ⟨r,f,i,p,n⟩=>⟨x::r,f,i,.cons o p,n⟩
def tTup(t:TA):TE:=fun σ H Q=>t σ H fun xs H1=>xs.length<=sizeLine/\∀p,H1 p=none->Q (.ref p) (upd H1 p (.tup xs))
def tLst(t:TA):TE:=fun σ H Q=>t σ H fun xs H1=>xs.length<=sizeLine/\∀p,H1 p=none->Q (.ref p) (upd H1 p (.lst xs))
theorem jD{x1}(h:PA X es t):PE X (.Tuple es x1 pos) (tTup t):=by
 intro a s l H Q I i;refine wpAny_Tuple_spliced (thn (h pos a s l H _ I i) fun j c ⟨k,d,f,r,z,q⟩=>⟨by rw[<-r.length];exact z,?_⟩);have g:d c.heap.objs.size=none:=f.hok.fresh (vb _);refine⟨.ref c.heap.objs.size,upd d c.heap.objs.size (.tup k),f.laid (t':=c.toks) (fun b u e=>vJ _ e) (vb _) ?_,rfl,q _ g⟩;exact⟨z,j,r,⟨_,Heap.get?_push_size _ rfl,rfl,_,rfl⟩⟩
theorem jK(h:PA X es t):PE X (.List es pos) (tLst t):=by
 intro a s l H Q I i;refine wpAny_List_spliced (thn (h pos a s l H _ I i) fun j c ⟨k,d,f,r,z,q⟩=>⟨by rw[<-r.length];exact z,?_⟩);have g:d c.heap.objs.size=none:=f.hok.fresh (vb _);refine⟨.ref c.heap.objs.size,upd d c.heap.objs.size (.lst k),f.laid (t':=c.toks) (fun b u e=>vJ _ e) (vb _) ?_,rfl,q _ g⟩;exact⟨z,j,0,r,Heap.get?_push_size _ rfl⟩
end
noncomputable abbrev Sp:=List V->Hp->VK->XK->Prop
noncomputable abbrev CXT:=List Env->Hp->Shared->XK->Value->Shared->Prop
structure Env0(P:Program)(w:World)(K:Frg)(mg:Str->Option Value)(base:Heap)(A:Around)(outer:List Env)(s:Shared)(H:Hp):Prop where
 frames:A.frames=some outer
 mod:Mod K mg base
 bs:∀b o,base.get? b=some o->s.heap.get? b=some o/\H b=none
 bsz:base.objs.size<=s.heap.objs.size
 funs:s.heap.FunFrames base outer
 frf:∀b∈frs outer,H b=none
 hok:HOk P w H s.heap
 bare:AllBare s.gens
def CE(outer:List Env)(P:Program)(w:World)(H:Hp)(s:Shared)(Q:VK)(u:Value)(s':Shared):Prop:=
 ∃v H',s'.os=s.os/\AllBare s'.gens/\Un (frs outer) [] H H' s.heap s'.heap/\HOk P w H' s'.heap/\RelV v u/\Q v H'
def CR(CX:CXT)(outer:List Env)(P:Program)(w:World)(H:Hp)(s:Shared)(Q:VK)(E:XK)(r:Result)(s':Shared):Prop:=
 match r with
 | .ok (.ret u)=>CE outer P w H s Q u s'
 | .ok _=>False
 | .error e=>CX outer H s E e s'
structure FnOk(P:Program)(w:World)(K:Frg)(mg:Str->Option Value)(base:Heap)(CX:CXT)(k:Nat)(f:Addr)(fd:FuncData)(ps:List Str)(sp:Sp):Prop where
 len:∀vs H Q E,sp vs H Q E->vs.length=ps.length
 run:∀(A:Around) (outer:List Env) (s:Shared) (H:Hp) (args:Args) (us:List Value) (vs:List V) (Q:VK) (E:XK),Room k A->Env0 P w K mg base A outer s H->BindsTo s fd args (ps.zip us)->Vals vs us->sp vs H Q E->
  codeAny (model P w) A (.call (.ref f) args) (CR CX outer P w H s Q E) s
theorem FnOk.mono{P:Program}{w:World}{K:Frg}{e:Str->Option Value}{a:Heap}{CX:CXT}{j k:Nat}{f:Addr}{d:FuncData}{ps:List Str}{sp:Sp}(F:FnOk P w K e a CX j f d ps sp)(h:j<=k) :
  FnOk P w K e a CX k f d ps sp:=⟨F.len,fun A b s H c i l Q E g=>F.run A b s H c i l Q E (g.mono h)⟩
theorem Env0.make{P:Program}{w:World}{K:Frg}{c:Str->Option Value}{b:Heap}{A:Around}{a:List Env}{s:Shared}{H:Hp}(e:Env0 P w K c b A a s H)(C:Addr)(us:List Value)(d:List (Str×Value)) :
  Env0 P w K c b (A.under (.builtin "type.__call__" ⟨.ref C::us,d⟩)) a s H:=⟨by first | exact e.frames | (simpa [Around.under,Code.envs,Code.isFrame,pushEnvs]using e.frames),e.mod,e.bs,e.bsz,e.funs,e.frf,e.hok,e.bare⟩
section
variable{X:Cx}{pins:List (Addr×Obj)}{σ:St}{H:Hp}{s s':Shared}
theorem Inv.env0(I:Inv X pins σ H s):Env0 X.prog X.w X.K X.mg X.base X.A X.stack s H:=
 ⟨I.ok.frames,I.ok.mod,I.bs,vW I.ok.bsz I.sz,I.stack,I.stkFree,I.hok,I.bare⟩
theorem Inv.after(I:Inv X pins σ H s)(h:CE X.stack X.prog X.w H s Q u s'):EP X pins σ Q u s':=by
 obtain⟨v,f,j,a,k,c,r,q⟩:=h;obtain⟨i,g,d,t,e⟩:=s';obtain rfl:e=s.os:=j;exact⟨v,f,I.call (h':=i) (g':=g) (d':=d) (t':=t) (ch:=[]) k c a (fun b z=>ud z (by simp)),r,q⟩
end
def tCall(sp:Sp)(dvs:List V)(E:XK)(t:TA):TE:=fun σ H Q=>t σ H fun vs H1=>sp (vs++dvs) H1 Q E
def tMeth(C:Addr)(m:Str)(sp:Sp)(dvs:List V)(E:XK)(ta:TE)(t:TA):TE:=fun σ H Q=>ta σ H fun x H1=>∃a dx fs,x = .ref a/\H1 a=some (.ins C dx fs)/\fs.lookup m=none/\
 t σ H1 fun vs H2=>sp (x::(vs++dvs)) H2 Q E
def tMake(C:Addr)(sp:Sp)(dvs:List V)(E:XK)(t:TA):TE:=fun σ H Q=>t σ H fun vs H1=>∀x dx,H1 x=none->H1 dx=none->dx≠x->
 sp (.ref x::(vs++dvs)) (upd (upd H1 dx (.own x)) x (.ins C dx [])) (fun v H2=>v = .non/\Q (.ref x) H2) E
def Binds(K:Frg)(fd:FuncData)(ps:List Str)(ds:List Value):Prop:=
 ∀(s:Shared) (us:List Value),K.In s.heap->(us++ds).length=ps.length->BindsTo s fd ⟨us,[]⟩ (ps.zip (us++ds))
theorem Binds.all{K:Frg}{a:FuncData}{ps:List Str}(h:∀us:List Value,us.length=ps.length->bindArgs a ⟨us,[]⟩=pure (ps.zip us)):Binds K a ps []:=fun s us _ b=>by
 rw[append_nil]at b|-;exact .of_eq (h us b)
def Passes(CX:CXT)(X:Cx)(E:XK):Prop:=∀(pins:List (Addr×Obj)) (σ:St) (H:Hp) (s:Shared) (e:Value) (s':Shared),Inv X pins σ H s->CX X.stack H s E e s'->X.xe e s'
section
variable{X:Cx}{CX:CXT}{k:Nat}{f C:Addr}{fd:FuncData}{ps:List Str}{sp:Sp}{dvs:List V}{ds:List Value}{E:XK}{x m:Str}{p pos apos:Pos}{e o:Expr}{es:List Expr}{ta:TE}{t:TA}
theorem j1X{b:St}{H:Hp}(F:FnOk X.prog X.w X.K X.mg X.base CX k f fd ps sp)(j:Room k X.A)(d:Binds X.K fd ps ds)(g:Vals dvs ds)(l:Passes CX X E)
  (I:Inv X pins b H s) (r:Vals vs us) (h:sp (vs++dvs) H Q E):wpAny (model X.prog X.w) X.A (call (.ref f) us) (EP X pins b Q) X.xe s:=by
 have c:Vals (vs++dvs) (us++ds):=r.append g;have i:(us++ds).length=ps.length:=by rw[<-c.length];exact F.len _ _ _ _ h
 refine wpAny_call (codeAny_mono (F.run X.A X.stack s H ⟨us,[]⟩ (us++ds) (vs++dvs) Q E j I.env0 (d s us I.kIn i) c h) fun r m a=>?_);cases r with
 | error e=>exact l pins b H s e m I a
 | ok fl=>
  cases fl with
  | ret u=>exact I.after a
  | next=>exact False.elim a
  | brk=>exact False.elim a
  | cont=>exact False.elim a
theorem j3d(F:FnOk X.prog X.w X.K X.mg X.base CX k f fd ps sp)(u:Room k X.A)(m:Gl X x)(o:X.mg x=some (.ref f))(n:PySem.W.keepIn X.K (.ref f)=true)(i:Binds X.K fd ps ds)(j:Vals dvs ds)(v:Passes CX X E)
  (g:PA X (e::es) t) (b:(x==("__debug__" : Str))=false:=by decide) (l:starEach (e::es) X.env=(false,eval e X.env)::starEach es X.env:=by rfl) (c:(backTo pos (starEach es X.env)).any (·.1)=false:=by rfl) :
  PE X (.Call (.Name x p) (e::es) [] pos) (tCall sp dvs E t):=by
 intro a s w H Q I h;refine wpAny_Call_Name_kw (wx I m o ?_ b);refine PySem.W.callWith_K (h₀:=X.base) I.ok.mod.kin n (thn (g pos a s w H _ I h) fun B z ⟨C,y,d,r,q⟩=>⟨d.kIn,?_⟩) l c;exact j1X F u i j v d r q
theorem YC(G:PE X o ta)(c:Cls X.K C)(n:Meth X.K C m f)(F:FnOk X.prog X.w X.K X.mg X.base CX k f fd ps sp)(J:Room k X.A)(B:Binds X.K fd ps ds)(D:Vals dvs ds)(L:Passes CX X E)(z:PA X (e::es) t)
  (g:starEach (e::es) X.env=(false,eval e X.env)::starEach es X.env:=by rfl) (d:(backTo pos (starEach es X.env)).any (·.1)=false:=by rfl)
  (K:eval (.Call (.Attribute o m apos) (e::es) [] pos) X.env=(do
   let ov <-eval o X.env
   standAt apos.atName
   let (f,first) <-holding [ov] (getMethod ov m pl)
   callWith pos f first (backTo pos (starEach (e::es) X.env)) (backToKw pos (keywordEach [] X.env))):=by rfl) :
  PE X (.Call (.Attribute o m apos) (e::es) [] pos) (tMeth C m sp dvs E ta t):=by
 intro b s p H Q I h;refine PySem.W.methodCall_KW (pl:=pl) (thn (G b s p H _ I h) fun u O ⟨x,v,i,N,a,R,S,y,w,l,q⟩=>?_) K;subst y;obtain rfl:u=Value.ref a:=N;refine xm i w c n l ?_;refine PySem.W.callWith_K (first:=[.ref a]) (h₀:=X.base) I.ok.mod.kin n.kp (thn (z pos b O p v _ i q) fun us T ⟨vs,P,j,r,M⟩=>⟨j.kIn,?_⟩) g d;exact j1X (us:=.ref a::us) (vs:=.ref a::vs) F J B D L j (.cons rfl r) M
structure Mk(K:Frg)(C f:Addr):Prop where
 makes:PySem.W.makesIn K C=true
 init:PySem.W.findIn K (.ref C) "__init__"= some (some (.ref f))
 fn:PySem.W.isFn K (.ref f)=true
 kp:PySem.W.keepIn K (.ref C)=true
theorem j1Y{c:St}{H:Hp}(M:Mk X.K C f)(F:FnOk X.prog X.w X.K X.mg X.base CX k f fd ps sp)(p:Room (k+1) X.A)(m:Binds X.K fd ps ds)(n:Vals dvs ds)
  (q:Passes CX X E) (I:Inv X pins c H s) (r:Vals vs us)
  (h:∀x dx,H x=none->H dx=none->dx≠x->sp (.ref x::(vs++dvs)) (upd (upd H dx (.own x)) x (.ins C dx [])) (fun v H2=>v = .non/\Q (.ref x) H2) E) :
  wpAny (model X.prog X.w) X.A (call (.ref C) us) (EP X pins c Q) X.xe s:=by
 have d:=h (s.heap.objs.size+1) s.heap.objs.size (I.hok.fresh (Nat.le_succ _)) (I.hok.fresh (vb _)) (vE (Nat.lt_succ_self _));have b:=Inv.made (C:=C) I;have g:Vals (V.ref (s.heap.objs.size+1)::(vs++dvs)) (Value.ref (s.heap.objs.size+1)::(us++ds)):=.cons rfl (r.append n);have o:(Value.ref (s.heap.objs.size+1)::us++ds).length=ps.length:=by
  have e:=g.length;rw[F.len _ _ _ _ d]at e;exact e.symm
 refine wpAny_call (j1b (f:=f) I.kIn M.makes M.init (beq_iff_eq.mp M.fn) (codeAny_mono (F.run _ X.stack _ _ ⟨Value.ref (s.heap.objs.size+1)::us,[]⟩ (Value.ref (s.heap.objs.size+1)::(us++ds)) _ _ E (p.make C us [])
  (b.env0.make C us []) (m _ (Value.ref (s.heap.objs.size+1)::us) b.kIn o) g d) fun r y a=>?_))
 cases r with
 | error e=>exact q pins c _ _ e y b a
 | ok fl=>
  cases fl with
  | ret u=>
   obtain⟨v,i,j,w,l,t⟩:=b.after a;subst l;exact⟨w,⟨V.ref (s.heap.objs.size+1),i,j,rfl,t⟩⟩
  | next=>exact False.elim a
  | brk=>exact False.elim a
  | cont=>exact False.elim a
theorem XA(M:Mk X.K C f)(F:FnOk X.prog X.w X.K X.mg X.base CX k f fd ps sp)(o:Room (k+1) X.A)(m:Gl X x)(n:X.mg x=some (.ref C))(i:Binds X.K fd ps ds)(j:Vals dvs ds)(u:Passes CX X E)
  (g:PA X (e::es) t) (b:(x==("__debug__" : Str))=false:=by decide) (l:starEach (e::es) X.env=(false,eval e X.env)::starEach es X.env:=by rfl) (c:(backTo pos (starEach es X.env)).any (·.1)=false:=by rfl) :
  PE X (.Call (.Name x p) (e::es) [] pos) (tMake C sp dvs E t):=by
 intro a s v H Q I h;refine wpAny_Call_Name_kw (wx I m n ?_ b);refine PySem.W.callWith_K (h₀:=X.base) I.ok.mod.kin M.kp (thn (g pos a s v H _ I h) fun z y ⟨B,w,d,r,q⟩=>⟨d.kIn,?_⟩) l c;exact j1Y M F o i j u d r q
end
section
variable{X:Cx}{CX:CXT}{k:Nat}{f C:Addr}{fd:FuncData}{ps ks:List Str}{sp:Sp}{E:XK}{x m:Str}{p pos apos kpos:Pos}{e o:Expr}{es:List Expr}{kws:List Keyword}{te ta:TE}{t tk:TA}{nm:Option Str}
variable{g:List Value->List Value->List Value}{gV:List V->List V->List V}
end
structure FnScope(N P:List Str)(sc:Scope):Prop where
 kind:sc.kind = .function
 co:sc.isCoroutine=false
 gen:sc.isGenerator=false
 nd:N.Nodup
 pre:N.take P.length=P
 par:∀x∈P,sc.names.lookup x=some .local\/sc.names.lookup x=some .cell
 nofree:∀y∈sc.names,y.2≠.free
theorem Ki{b:Str->Option NameKind}:∀{a:List (Str×Value)} {m:Str->Option Value},(∀v,(x,v)∉a)->bindL b a m x=m x
 | [],_,_=>rfl
 | (n,v)::r,m,h=>by
  unfold bindL;rw[Ki fun w c=>h w (vp _ c)];split
  ·have:x≠n:=by rintro rfl;exact h v vq
   simp[this]
  ·rfl
theorem Ke{b:Str->Option NameKind}:∀{a:List (Str×Value)} {m:Str->Option Value},(∀v,(x,v)∉a)->bindC b a m x=m x
 | [],_,_=>rfl
 | (n,v)::r,m,h=>by
  unfold bindC;rw[Ke fun w c=>h w (vp _ c)];split
  ·rfl
  ·have:x≠n:=by rintro rfl;exact h v vq
   simp[this]
theorem Kf{a:Str->Option NameKind}:∀{P:List Str} {vs:List Value} {i:Nat} {m:Str->Option Value},P.Nodup->P[i]?=some x->vs[i]?=some v->a x=some .local->
  bindL a (P.zip vs) m x=some v
 | [],_,_,_,_,h,_,_=>by simp at h
 | _::_,[],_,_,_,_,h,_=>by simp at h
 | p::P,w::vs,0,m,nd,h1,h2,hk=>by
  simp at h1 h2;subst h1;subst h2;show bindL a ((p,w)::P.zip vs) m p=_;unfold bindL;rw[Ki fun v b=>(nodup_cons.mp nd).1 (of_mem_zip b).1,vd hk];simp
 | p::P,w::vs,i+1,m,nd,h1,h2,hk=>by
  show bindL a ((p,w)::P.zip vs) m x=_;unfold bindL;exact Kf (i:=i) (nodup_cons.mp nd).2 (by simpa using h1) (by simpa using h2) hk
theorem Kc{a:Str->Option NameKind}:∀{P:List Str} {vs:List Value} {i:Nat} {m:Str->Option Value},P.Nodup->P[i]?=some x->vs[i]?=some v->a x≠some .local->
  bindC a (P.zip vs) m x=some v
 | [],_,_,_,_,h,_,_=>by simp at h
 | _::_,[],_,_,_,_,h,_=>by simp at h
 | p::P,w::vs,0,m,nd,h1,h2,hk=>by
  simp at h1 h2;subst h1;subst h2;show bindC a ((p,w)::P.zip vs) m p=_;unfold bindC;rw[Ke fun v b=>(nodup_cons.mp nd).1 (of_mem_zip b).1,vc hk];simp
 | p::P,w::vs,i+1,m,nd,h1,h2,hk=>by
  show bindC a ((p,w)::P.zip vs) m x=_;unfold bindC;exact Kc (i:=i) (nodup_cons.mp nd).2 (by simpa using h1) (by simpa using h2) hk
noncomputable def start(N:List Str)(vs:List V):St:=vs.map some++List.replicate (N.length-vs.length) none
noncomputable def cxOf(CX:CXT)(P:Program)(w:World)(K:Frg)(mg:Str->Option Value)(base:Heap)(N:List Str)(qual:Str)(scope:Scope)(f:Addr)(cd:Value)(A:Around)(outer:List Env)(s:Shared)(H:Hp)(E:XK):Cx where
 prog:=P
 w:=w
 K:=K
 mg:=mg
 base:=base
 A:=A.deeper (envOfC qual scope s.heap.objs.size f cd)
 N:=N
 s₀:=s
 H₀:=H
 env:=envOfC qual scope s.heap.objs.size f cd
 outer:=outer
 stack:=envOfC qual scope s.heap.objs.size f cd::outer
 ex:=[]
 calm:=true
 fn:=fun _=>true
 pn:=[]
 xe:=fun e s'=>wpAny (model P w) (A.deeper (envOfC qual scope s.heap.objs.size f cd)) (leaving (envOfC qual scope s.heap.objs.size f cd) e) (fun _ s''=>CX outer H s E e s'') (fun e' s''=>CX outer H s E e' s'') s'
theorem Wi{a:Scope}{n:Nat}{x:Str}(h:a.names.lookup x=some .cell):∃c,(cellsFrom n a.names []).lookup x=some c:=by
 have q:=PySem.W.cellsFrom_some a.names n [] (.inl h);exact Option.isSome_iff_exists.mp q
theorem X7{CX:CXT}{P:Program}{w:World}{K:Frg}{J:Str->Option Value}{m:Heap}{N ps:List Str}{j:Str}{d:Scope}{f:Addr}{F:Value}{A:Around}{g:List Env}{s O:Shared}{H:Hp}{E:XK}{us:List Value}{vs:List V}
  (S:FnScope N ps d) (R:A.handled=none) (o:Env0 P w K J m A g s H) (X:vs.length=ps.length) (r:Vals vs us)
  (x:InCallC s s.heap.objs.size (bindL (envOfC j d s.heap.objs.size f F).kindOf (ps.zip us) fun _=>none) (cellsFrom (s.heap.objs.size+1) d.names []) (bindC (envOfC j d s.heap.objs.size f F).kindOf (ps.zip us) fun _=>none) O) :
  Inv (cxOf CX P w K J m N j d f F A g s H E) [] (start N vs) H O:=by
 have T:ps.length<=N.length:=by have:=congrArg List.length S.pre;rw[vi]at this;lia
 obtain⟨G,Y,rfl,L⟩:=x.done;have B:∀b:Addr,b∉(cxOf CX P w K J m N j d f F A g s H E).ex:=fun b z=>ud (show b∈([]:List Addr)from z) (by simp)
 refine⟨⟨o.mod,S.kind,rfl,rfl,vb _,fun y z c G l=>?_,fun y t=>?_,fun y c _ h=>?_,fun _=>R,Around.frames_deeper o.frames,.inr ⟨rfl,rfl⟩,fun b z=>ud z (B b),o.bs,o.bsz,fun b _ _=>B b,fun b z=>ud z (B b),o.funs,o.frf⟩,
  rfl,o.bare,Un.kept L,⟨_,x.toInCall.ns,fun i y v G l W=>?_⟩,fun y c h=>⟨_,x.cell y c h⟩,o.hok.fresh (vb _),fun y c h=>?_,fun p C=>ud (show p∈([]:List (Addr×Obj))from C) (by simp),o.hok.kept L,?_⟩
 ·exact name_of_addr x.apart (PySem.mem_of_lookup G) (PySem.mem_of_lookup l)
 ·have t:d.names.lookup y=some .cell\/d.names.lookup y=some .free:=t;rcases t with t | t
  ·exact Wi t
  ·exact ud rfl (S.nofree _ (PySem.mem_of_lookup t))
 ·exact vY (x.above y c (PySem.mem_of_lookup h))
 ·have I:i<vs.length:=by
   unfold start at l;by_cases I:i<vs.length
   ·exact I
   ·rw[vC (by simpa using I)]at l;rw[List.getElem?_replicate]at l;split at l<;>cases l
  have Q:vs[i]?=some v:=by
   unfold start at l;rw[vB (by simpa using I),vv]at l;cases e:vs[i]? with
   | none=>rw[e]at l;cases l
   | some a=>rw[e]at l;cases l;rfl
  obtain⟨u,M,U⟩:=r.get Q;have C:ps[i]?=some y:=by
   rw[<-S.pre,List.getElem?_take_of_lt (by lia)];exact G
  have D:ps.Nodup:=by rw[<-S.pre];exact S.nd.sublist (take_sublist _ _)
  refine⟨u,U,?_⟩;rcases S.par y (vm C)with k | k
  ·exact .inl ⟨k,Kf D C M k⟩
  ·obtain⟨c,e⟩:=Wi (n:=s.heap.objs.size+1) k;refine .inr ⟨.inl k,c,e,?_⟩;have q:=x.cell y c e;rw[Kc D C M (by show d.names.lookup y≠_;rw[k];decide)]at q;exact q
 ·exact o.hok.fresh (vY (x.above y c (PySem.mem_of_lookup h)))
 ·unfold start;show _=N.length;rw[vn,vt,List.length_replicate];lia
theorem j52{CX:CXT}{P:Program}{w:World}{K:Frg}{M:Str->Option Value}{i:Heap}{k:Nat}{f:Addr}{name d:Str}{j:Arguments}{l:List Stmt}{a:Scope}{dV kV C pm g ct oc:Value}{an od:Option Addr}
  {U:Array (Option Value)} {N ps:List Str} {sp:Sp} (lk:K.lookup f=some ⟨oc,od,.func (PySem.W.fnOf name d j l a dV kV C pm an g ct),U⟩) (O:PySem.W.codeIn K g d=true) (S:FnScope N ps a)
  (L:∀vs H Q E,sp vs H Q E->vs.length=ps.length)
  (p:∀(A:Around) (c:List Env) (s:Shared) (H:Hp) (vs:List V) (Q:VK) (E:XK),Room k (A.deeper (envOfC d a s.heap.objs.size f g))->sp vs H Q E->
   ∃t,PSs (cxOf CX P w K M i N d a f g A c s H E) l t/\t {nx:=fun _ H'=>Q .non H',rt:=Q} (start N vs) H) :
  FnOk P w K M i CX (k+1) f (PySem.W.fnOf name d j l a dV kV C pm an g ct) ps sp:=by
 refine⟨L,fun A c s H Z us vs Q E R D hb r G=>?_⟩;have hl:=L _ _ _ _ G;have Y:K.In s.heap:=D.mod.kin.keeps fun b o e=>(D.bs b o e).1
 have T:s.heap.NoLimit:=D.mod.nolimit.keeps fun b o e=>(D.bs b o e).1
 have z:∀y∈ps.zip us,a.names.lookup y.1=some .local\/(a.names.lookup y.1=some .cell/\((cellsFrom (s.heap.objs.size+1) a.names []).lookup y.1).isSome=true):=fun⟨n,v⟩ hy=>by
  rcases S.par n (of_mem_zip hy).1 with q | q
  ·exact .inl q
  ·exact .inr ⟨q,PySem.W.cellsFrom_some _ _ _ (.inl q)⟩
 refine codeAny_call_function R.depth (Y _ _ lk) rfl S.co S.gen rfl (PySem.W.codeRec_of Y O) (hb _ _ _ _ ?_);refine wpAny_newFunctionEnv_cells S.kind z fun a0 he s1 x=>?_
 subst he;refine⟨T.keeps x.toInCall.keep,codeAny_func ?_⟩;obtain⟨t,ht,hq⟩:=p A c s H vs Q E (R.deeper _) G;have I:Inv (cxOf CX P w K M i N d a f g A c s H E) [] (start N vs) H s1:=X7 S R.hd D hl r x;refine wpAny_mono (ht [] s1 (start N vs) H _ I hq) (fun fl X B=>?_) fun e X B=>B
 have F:∀{m:St} {H':Hp} {v:V} {u:Value},Inv (cxOf CX P w K M i N d a f g A c s H E) [] m H' X->RelV v u->Q v H'->CE c P w H s Q u X:=
  fun {m H' v u} J W q=>⟨v,H',J.os,J.bare,J.base,J.hok,W,q⟩
 cases fl with
 | ret u=>
  obtain⟨v,m,H',J,W,q⟩:=B;exact F J W q
 | next=>
  obtain⟨m,H',J,q⟩:=B;exact F (v:=V.non) (u:=Value.none) J rfl q
 | brk=>
  obtain⟨_,_,_,q⟩:=B;exact False.elim q
 | cont=>
  obtain⟨_,_,_,q⟩:=B;exact False.elim q
section
variable{X:Cx}{x:Str}{p pos:Pos}{e:Expr}{es:List Expr}{t:TA}{id T:String}{r:List V->Hp->VK->Prop}
def tCB(r:List V->Hp->VK->Prop)(t:TA):TE:=fun σ H Q=>t σ H fun vs H1=>r vs H1 Q
theorem jz(j:CallR X (.builtin id) r)(l:Gl X x)(m:X.mg x=none)(o:bootBuiltins x=some (.builtin id))(i:PA X (e::es) t)(n:x≠"__name__":=by decide)(b:(x==("__debug__" : Str))=false:=by decide)
  (k:starEach (e::es) X.env=(false,eval e X.env)::starEach es X.env:=by rfl) (c:(backTo pos (starEach es X.env)).any (·.1)=false:=by rfl):PE X (.Call (.Name x p) (e::es) [] pos) (tCB r t):=by
 intro a s d H Q I h;refine wpAny_Call_Name_kw (zb I l m o ?_ n b);exact PyProof.Rows.callWith_builtin1 (thn (i pos a s d H _ I h) fun w v ⟨y,f,g,u,q⟩=>j a v d f y w Q g u q) k c
theorem Jt(j:CallR X (.type T) r)(l:Gl X x)(m:X.mg x=none)(o:bootBuiltins x=some (.type T))(i:PA X (e::es) t)(n:x≠"__name__":=by decide)(b:(x==("__debug__" : Str))=false:=by decide)
  (k:starEach (e::es) X.env=(false,eval e X.env)::starEach es X.env:=by rfl) (c:(backTo pos (starEach es X.env)).any (·.1)=false:=by rfl):PE X (.Call (.Name x p) (e::es) [] pos) (tCB r t):=by
 intro a s d H Q I h;refine wpAny_Call_Name_kw (zb I l m o ?_ n b);exact PyProof.Rows.callWith_type1 (thn (i pos a s d H _ I h) fun w v ⟨y,f,g,u,q⟩=>j a v d f y w Q g u q) k c
end
end L2
namespace HT
open PySem PyProof.Rows
section
open PySem.SeqAt
open PySem.AutoSeq1 (wpAny_loadPart')
open PySem.MeetsSeq PySem.MeetsSeq2 PySem.MeetsSeq3
end
section
variable{prog:Program}{w:World}{A:Around}{E:Value->Shared->Prop}{s:Shared}
theorem j2u{t b:Addr}{vs a:List Value}{Q:Value->Shared->Prop}(z:IsTup s.heap t vs.toArray)(y:IsTup s.heap b a.toArray)(q:vs≠[])
  (v:a=[]->Q (.ref t) s) (x:a≠[]->Q (.ref s.heap.objs.size) {s with heap:=s.heap.push {cls:=.type "tuple",data:=.seq (vs++a).toArray}})
  (hsz:vs.length+a.length<=sizeLine):wpAny (model prog w) A (binaryOp .Add (.ref t) (.ref b)) Q E s:=by
 obtain⟨⟨cls,m,data,u⟩,i,o,n,p⟩:=id z;obtain⟨⟨l,d,k,h⟩,c,f,r,g⟩:=id y;simp only at o p f g;subst o p f g;have e:vs.toArray++a.toArray=(vs++a).toArray:=by simp
 by_cases j:a=[]
 ·exact concat_meets ⟨_,i,rfl⟩ ⟨_,c,rfl⟩ noFill_tuple_add seq_tuple_add PySem.F.slot_tuple_add PySem.F.entry_tuple_add (PySem.F.args_tuple_add_2 _ _)
   (tuple_addW1 t b vs.toArray a.toArray n r m d u h (by simpa using q) (by simp[j])) ⟨i,c,v j⟩
 ·refine concat_meets ⟨_,i,rfl⟩ ⟨_,c,rfl⟩ noFill_tuple_add seq_tuple_add PySem.F.slot_tuple_add PySem.F.entry_tuple_add (PySem.F.args_tuple_add_2 _ _)
   (tuple_addW2 t b vs.toArray a.toArray n r m d u h (by simpa using q) (by simpa using j) (by rw[size_toArray,size_toArray];exact hsz)) ⟨i,c,?_⟩
  rw[e];exact x j
noncomputable def sIx(n d:Nat):Option Int->Nat
 | none=>d
 | some v=>if v<0 then(v+(n:Int)).toNat else min v.toNat n
theorem j1Z(n d:Nat):sIx n d none=d:=rfl
theorem XG(n d k:Nat):sIx n d (some (k:Int))=min k n:=by
 show(if(k:Int)<0 then((k:Int)+(n:Int)).toNat else min (k:Int).toNat n)=min k n;rw[vc (by lia),Int.toNat_natCast]
theorem j4C(n d:Nat)(b:d<=n)(o:Option Int):sIx n d o<=n:=by
 cases o with
 | none=>exact b
 | some v=>
  show(if v<0 then(v+(n:Int)).toNat else min v.toNat n)<=n;by_cases a:v<0
  ·rw[vd a];lia
  ·rw[vc a];exact Nat.min_le_right _ _
theorem K5(v:Int)(n d:Nat):(if v<0 then max (v+(n:Int)) 0 else min v (n:Int))=((sIx n d (some v):Nat):Int):=by
 show(if v<0 then max (v+(n:Int)) 0 else min v (n:Int))=(((if v<0 then(v+(n:Int)).toNat else min v.toNat n):Nat):Int)
 by_cases a:v<0
 ·simp only[if_pos a];lia
 ·simp only[if_neg a];lia
theorem W1(lo hi:Option Int)(n:Nat):Builtin.Slice.sliceAdjust lo hi 1 (n:Int)=(((sIx n 0 lo:Nat):Int),((sIx n n hi:Nat):Int)):=by
 have a:¬((1:Int)<0):=by lia
 unfold Builtin.Slice.sliceAdjust;simp only[a,if_false];refine Prod.ext ?_ ?_
 ·cases lo with
  | none=>rfl
  | some v=>exact K5 v n 0
 ·cases hi with
  | none=>rfl
  | some v=>exact K5 v n n
theorem xI(i j:Nat):Builtin.Slice.slicePlaces (i:Int) (j:Int) 1=j-i:=by
 unfold Builtin.Slice.slicePlaces;have a:(1:Int)>0:=by lia
 simp only[a,if_true,Int.ediv_one];split<;>lia
theorem slicePart_{Q:Option Int->Shared->Prop}(p:IsPart v o)(h:Q o s):wpAny (model prog w) A (Builtin.Slice.slicePartIndex v) Q E s:=by
 cases p with
 | none=>exact slicePart_none h
 | int i t=>exact slicePart_int h
theorem y8{e:Addr}{c d:Value}{lo hi:Option Int}{n:Nat}{Q:Int×Int×Nat->Shared->Prop}(g:s.heap.IsSliceOf e c d .none)(pl:IsPart c lo)(i:IsPart d hi)
  (h:Q (((sIx n 0 lo:Nat):Int),1,sIx n n hi-sIx n 0 lo) s):wpAny (model prog w) A (Builtin.Slice.sliceApplied (.ref e) (pure (n:Int))) Q E s:=by
 obtain⟨j,b,f,a⟩:=id g;unfold Builtin.Slice.sliceApplied Builtin.Slice.sliceFields;refine uf (uf (wpAny_field b a (x:=c) rfl (uf (wpAny_field b a (x:=d) rfl (uf (wpAny_field b a (x:=.none) rfl (ue ?_)))))));refine uf (slicePart_none ?_);show wpAny _ _ (if((1:Int)==0)=true then _ else _) _ _ s;rw[vc (by decide)];refine uf (slicePart_ pl (uf (slicePart_ i (uf (ue ?_)))));show wpAny _ _ (match Builtin.Slice.sliceAdjust lo hi 1 (n:Int)with | (lo,hi)=>pure (lo,(1:Int),Builtin.Slice.slicePlaces lo hi 1)) _ _ s;rw[W1 lo hi n];show wpAny _ _ (pure (((sIx n 0 lo:Nat):Int),(1:Int),Builtin.Slice.slicePlaces ((sIx n 0 lo:Nat):Int) ((sIx n n hi:Nat):Int) 1)) _ _ s;rw[xI];exact ue h
theorem j1J(xs:Array Value)(i k:Nat):((List.range k).filterMap fun(m:Nat)=>xs[((i:Int)+(m:Int)*1).toNat]?).toArray=((xs.toList.drop i).take k).toArray:=by
 have e:(fun(m:Nat)=>xs[((i:Int)+(m:Int)*1).toNat]?)=fun m=>xs[i+m]?:=by
  funext m;have:((i:Int)+(m:Int)*1).toNat=i+m:=by lia
  rw[this]
 rw[e];have:=pick_run xs i k;rw[List.filterMap_map]at this;have a:((fun x=>xs[x]?)∘fun x=>i+x)=fun m=>xs[i+m]?:=rfl
 rw[a]at this;rw[this]
theorem Z2{t g:Addr}{items:Array Value}{j k:Value}{lo hi:Option Int}{Q:Value->Shared->Prop}(b:IsTup s.heap t items)(i:s.heap.IsSliceOf g j k .none)(pl:IsPart j lo)(o:IsPart k hi)
  (hw:¬(sIx items.size 0 lo=0/\sIx items.size items.size hi=items.size))
  (h:Q (.ref s.heap.objs.size) {s with heap:=s.heap.push {cls:=.type "tuple",data:=.seq ((items.toList.drop (sIx items.size 0 lo)).take (sIx items.size items.size hi-sIx items.size 0 lo)).toArray}})
  (hsz:items.size<=sizeLine):wpAny (model prog w) A (getItem (.ref t) (.ref g)) Q E s:=by
 have a:sizeOk (.seq ((items.toList.drop (sIx items.size 0 lo)).take (sIx items.size items.size hi-sIx items.size 0 lo)).toArray):=by
  show((items.toList.drop (sIx items.size 0 lo)).take (sIx items.size items.size hi-sIx items.size 0 lo)).toArray.size<=sizeLine;rw[size_toArray,vi,length_drop,Array.length_toList];lia
 have p:sIx items.size items.size hi<=items.size:=j4C _ _ (vb _) hi;obtain⟨n,f,d,l⟩:=id i;have c:s.TypeIs (.ref g) "slice":=⟨n,f,d⟩
 unfold getItem
 try with_reducible refine wpAny_holding ?_
 first | refine uf (ue ?_) | skip
 refine uf (wpAny_sequenceKey b.typeIs (by decide) ?_);refine uf (wpAny_callSpecial?_slot (name:=Str.ofString "__getitem__") b.typeIs PyProof.Rows.slot_tuple_getitem
  (wpAny_call_entry PyProof.Rows.slot_tuple_getitem b.typeIs entry_tuple_getitem ?_ (args_tuple_getitem _ _)))
 show wpAny _ _ (Builtin.Tuple.tupleItemsOf (.ref t) >>= _) _ _ s;refine uf (tupleItemsOf_ b ?_);refine uf (wpAny_typeOf c ?_);rw[vd (by decide)];refine uf (y8 i pl o ?_);have e:¬((((sIx items.size 0 lo:Nat):Int)==0&&(1:Int)==1&&(sIx items.size items.size hi-sIx items.size 0 lo)==items.size)=true):=by
  intro q;rw[Bool.and_eq_true,Bool.and_eq_true]at q;have r:((sIx items.size 0 lo:Nat):Int)=0:=eq_of_beq q.1.1;have u:sIx items.size items.size hi-sIx items.size 0 lo=items.size:=eq_of_beq q.2;exact hw ⟨by lia,by lia⟩
 show wpAny _ _ (if(((sIx items.size 0 lo:Nat):Int)==0&&(1:Int)==1&&(sIx items.size items.size hi-sIx items.size 0 lo)==items.size)=true then _ else _) _ _ s;rw[vc e,j1J]
 first
  | exact uf (m:=Builtin.Tuple.tupleExact _) (wpAny_newObj_type (ue ⟨_,rfl,ue h⟩) a)
  | exact uf (m:=Builtin.Tuple.tupleExact _) (wpAny_newObj_type (uf (ue (ue ⟨_,rfl,ue h⟩))) a)
  | exact uf (uf (m:=Builtin.Tuple.tupleExact _) (wpAny_newObj_type (ue (ue ⟨_,rfl,ue h⟩)) a))
  | exact uf (uf (m:=Builtin.Tuple.tupleExact _) (wpAny_newObj_type (ue ⟨_,rfl,ue h⟩) a))
end
end HT
namespace L2
open PySem PySem.Spec PyProof.Rows
noncomputable abbrev TO:=St->Hp->(Option Int->Hp->Prop)->Prop
def PO(X:Cx)(e:Option Expr)(t:TO):Prop:=
 ∀(pins:List (Addr×Obj)) (s:Shared) (σ:St) (H:Hp) (Q:Option Int->Hp->Prop),Inv X pins σ H s->t σ H Q->
  wpAny (model X.prog X.w) X.A (evalPart e X.env) (fun u s'=>∃o H',Inv X pins σ H' s'/\IsPart u o/\Q o H') X.xe s
def tNoPart:TO:=fun _ H Q=>Q none H
def tPart(t:TE):TO:=fun σ H Q=>t σ H fun x H1=>∃i,x = .int i/\Q (some i) H1
theorem intsAre_of:∀{us:List Value},Vals (ns.map V.int) us->IntsAre us ns:=by
 induction ns with
 | nil=>intro us r;rw[map_nil]at r;cases r;exact .nil
 | cons n ns ih=>
  intro us r;rw[uy]at r;cases r with
  | cons r1 r2=>
   obtain⟨t,e⟩:=r1;subst e;exact .cons n t (ih r2)
section
variable{X:Cx}{e:Expr}{te:TE}{lo hi:Option Expr}{tl th:TO}{pos p2:Pos}
theorem QB:PO X none tNoPart:=by
 intro a s b H Q I h;rw[evalPart_none];exact ue ⟨none,H,I,.none,h⟩
theorem qo(h:PE X e te):PO X (some e) (tPart te):=by
 intro a s j H Q I d;rw[evalPart_some];refine thn (h a s j H _ I d) fun u k ⟨x,b,c,g,f⟩=>?_
 obtain⟨i,rfl,q⟩:=f;obtain⟨t,rfl⟩:=g;exact⟨some i,b,c,.int i t,q⟩
def SlR(X:Cx)(r:V->Option Int->Option Int->Hp->VK->Prop):Prop:=
 ∀(pins:List (Addr×Obj)) (s:Shared) (σ:St) (H:Hp) (x:V) (v vl vu:Value) (lo hi:Option Int) (sl:Addr) (Q:VK),Inv X pins σ H s->RelV x v->s.heap.IsSliceOf sl vl vu .none->IsPart vl lo->IsPart vu hi->r x lo hi H Q->
  ∃T id,typeLookup (.type T) "__getitem__"= pure (some (.builtin id))/\s.TypeIs v T/\wpAny (model X.prog X.w) X.A (getItem v (.ref sl)) (EP X pins σ Q) X.xe s
def tSl(r:V->Option Int->Option Int->Hp->VK->Prop)(te:TE)(tl th:TO):TE:=fun σ H Q=>te σ H fun x H1=>tl σ H1 fun l H2=>th σ H2 fun u H3=>r x l u H3 Q
theorem qm{r:V->Option Int->Option Int->Hp->VK->Prop}(A:SlR X r)(w:PE X e te)(z:PO X lo tl)(C:PO X hi th):PE X (.Subscript e (.Slice lo hi none p2) pos) (tSl r te tl th):=by
 intro a s d H Q I h;refine Subscript_ (thn (w a s d H _ I h) fun v L ⟨x,j,m,K,F⟩=>?_);refine wpAny_Slice (thn (z a L d j _ m F) fun f M ⟨l,k,n,D,G⟩=>thn (C a M d k _ n G) fun g c ⟨u,i,o,E,J⟩=>?_);rw[evalPart_none];refine ue ?_;have p:Inv X a d i {c with heap:=c.heap.push {cls:=.type "slice",data:=.fields #[f,g,.none]}}:=o.kept (t':=c.toks) fun b O q=>vJ _ q
 obtain⟨T,N,t,B,y⟩:=A a {c with heap:=c.heap.push {cls:=.type "slice",data:=.fields #[f,g,.none]}} d i x v f g l u c.heap.objs.size Q p K (Heap.IsSliceOf.new ..) D E J;show wpAny (model X.prog X.w) X.A (subscriptTail e (.Slice lo hi none p2) v (.ref c.heap.objs.size)) (EP X a d Q) X.xe {c with heap:=c.heap.push {cls:=.type "slice",data:=.fields #[f,g,.none]}};exact tail_any (ops:=[.ref c.heap.objs.size,v]) B t y (by with_unfolding_all rfl)
noncomputable def cutV(xs:List V)(lo hi:Option Int):List V:=(xs.drop (HT.sIx xs.length 0 lo)).take (HT.sIx xs.length xs.length hi-HT.sIx xs.length 0 lo)
theorem Qu(xs:List V)(lo hi:Option Int):(cutV xs lo hi).length<=xs.length:=by
 unfold cutV;rw[vi,length_drop];lia
noncomputable def rSlT(K:Frg):V->Option Int->Option Int->Hp->VK->Prop:=fun x lo hi H Q=>∃a xs,x = .ref a/\SqT K H a xs/\
 ¬(HT.sIx xs.length 0 lo=0/\HT.sIx xs.length xs.length hi=xs.length)/\∀p,H p=none->Q (.ref p) (upd H p (.tup (cutV xs lo hi)))
theorem j27:SlR X (rSlT X.K):=by
 intro k s B H x v z A e f y Q I u l p t h;obtain⟨a,d,rfl,n,m,q⟩:=h;cases u;obtain⟨g,r,i,j⟩:=I.tuple n;have c:g.toArray.size=d.length:=by rw[size_toArray];exact r.length.symm
 refine⟨"tuple",_,PyProof.Rows.slot_tuple_getitem.lookup,i.typeIs,?_⟩;refine HT.Z2 i l p t (by rw[c];exact m) ?_ (by rw[c];exact j);rw[c];refine⟨.ref s.heap.objs.size,_,I.laid (t':=s.toks) (o:=.tup (cutV d e f)) (fun b w q=>vJ _ q) (vb _) ?_,rfl,q _ (I.hok.fresh (vb _))⟩;exact⟨vW (Qu d e f) j,_,(r.drop (HT.sIx d.length 0 e)).take (HT.sIx d.length d.length f-HT.sIx d.length 0 e),IsTup.new _ _⟩
def rCatT(K:Frg):R2:=fun x y H Q=>∃a b xs ys,x = .ref a/\y = .ref b/\SqT K H a xs/\SqT K H b ys/\xs≠[]/\xs.length+ys.length<=sizeLine/\
 (ys=[]->Q (.ref a) H)/\(ys≠[]->∀p,H p=none->Q (.ref p) (upd H p (.tup (xs++ys))))
theorem Vals.nil_iff{xs:List V}{us:List Value}(r:Vals xs us):us=[]↔xs=[]:=by
 cases r with
 | nil=>simp
 | cons _ _=>simp
theorem j39:OpR X (binaryOp .Add) (rCatT X.K):=by
 intro g s E H x y v u Q I t A h;obtain⟨a,b,B,C,rfl,rfl,i,j,k,e,p,r⟩:=h;cases t;cases A;obtain⟨l,d,m,_⟩:=I.tuple i;obtain⟨f,c,n,_⟩:=I.tuple j;refine HT.j2u m n (fun z=>k (d.nil_iff.mp z)) (fun z=>⟨.ref a,H,I,rfl,p (c.nil_iff.mp z)⟩) (fun z=>?_) (by rw[<-d.length,<-c.length];exact e);refine⟨.ref s.heap.objs.size,_,I.laid (t':=s.toks) (o:=.tup (B++C)) (fun b D q=>vJ _ q) (vb _) ?_,rfl,r (fun w=>z (c.nil_iff.mpr w)) _ (I.hok.fresh (vb _))⟩;exact⟨by rw[vn];exact e,_,d.append c,IsTup.new _ _⟩
end
noncomputable def ixN(n:Nat)(i:Int):Option Nat:=if 0<=i then(if i<n then some i.toNat else none)else if -(n:Int)<=i then some (i+n).toNat else none
noncomputable def atI{α:Type}(xs:List α)(i:Int):Option α:=(ixN xs.length i).bind fun j=>xs[j]?
theorem Xo(h:ixN n i=some j):seqIndex? i n=some j/\j<n/\-(n:Int)<=i/\i<n:=by
 unfold ixN at h;by_cases b:0<=i
 ·rw[vd b]at h;by_cases a:i<n
  ·rw[vd a]at h;have e:i.toNat=j:=vL h;exact⟨by rw[seqIndex_of b a,e],by lia,by lia,a⟩
  ·rw[vc a]at h;cases h
 ·rw[vc b]at h;by_cases a : -(n:Int)<=i
  ·rw[vd a]at h;have e:(i+n).toNat=j:=vL h;exact⟨by rw[seqIndex_neg (by lia) a,e],by lia,a,by lia⟩
  ·rw[vc a]at h;cases h
theorem KW{a:Type}{xs:List a}{i:Int}{v:a}(h:atI xs i=some v):∃j,seqIndex? i xs.length=some j/\xs[j]?=some v/\j<xs.length/\-(xs.length:Int)<=i/\i<xs.length:=by
 unfold atI at h;cases e:ixN xs.length i with
 | none=>rw[e]at h;cases h
 | some j=>
  rw[e]at h;obtain⟨b,c,d,f⟩:=Xo e;exact⟨j,b,h,c,d,f⟩
theorem jG{a:Type}{xs:List a}{j:Nat}{v:a}(h:xs[j]?=some v):atI xs (j:Int)=some v:=by
 have b:j<xs.length:=(vx.mp h).1;have e:ixN xs.length (j:Int)=some j:=by
  unfold ixN;rw[vd (by lia),vd (by lia)];simp
 unfold atI;rw[e];exact h
theorem j0D{a:Type}(xs:List a)(v:a):atI (xs++[v]) (-1)=some v:=by
 have b:(xs++[v]).length=xs.length+1:=by simp
 have e:ixN (xs++[v]).length (-1)=some xs.length:=by
  unfold ixN;rw[b,vc (by decide),vd (by lia)];congr 1;lia
 unfold atI;rw[e];show(xs++[v])[xs.length]?=some v;simp
def PlainIx(b:Expr):Prop:=∀o i,subscripted b false o i=operate [o,i] (getItem o i)
def IxR(X:Cx)(r:R2):Prop:=
 ∀(value slice:Expr) (pins:List (Addr×Obj)) (s:Shared) (σ:St) (H:Hp) (x y:V) (v u:Value) (Q:VK),Inv X pins σ H s->RelV x v->RelV y u->r x y H Q->
  subscripted slice false v u=operate [v,u] (getItem v u)->wpAny (model X.prog X.w) X.A (subscriptTail value slice v u) (EP X pins σ Q) X.xe s
def MtR(X:Cx)(id:String)(r:V->List V->Hp->VK->Prop):Prop:=
 ∀(pins:List (Addr×Obj)) (s:Shared) (σ:St) (H:Hp) (x:V) (xs:List V) (v:Value) (us:List Value) (Q:VK),Inv X pins σ H s->RelV x v->Vals xs us->r x xs H Q->
  wpAny (model X.prog X.w) X.A (call (.builtin id) (v::us)) (EP X pins σ Q) X.xe s
section
variable{X:Cx}{a b:Expr}{ta tb:TE}{pos:Pos}
theorem jg(i:IxR X r)(f:PE X a ta)(g:PE X b tb)(j:PlainIx b:=by exact fun _ _=>rfl):PE X (.Subscript a b pos) (tOp r ta tb):=by
 intro c s n H Q I h;exact Subscript_ (binT f g I h fun v u m x y d e k l q=>i a b c m n d x y v u Q e k l q (j _ _))
def rIxL(K:Frg):R2:=fun x y H Q=>∃p xs i v,x = .ref p/\y = .int i/\SqL K H p xs/\atI xs i=some v/\Q v H
def rIxT(K:Frg):R2:=fun x y H Q=>∃p xs i v,x = .ref p/\y = .int i/\SqT K H p xs/\atI xs i=some v/\Q v H
def rIxS:R2:=fun x y H Q=>∃z i c,x = .str z/\y = .int i/\z.length<=sizeLine/\atI z.cps.toList i=some c/\Q (.str ⟨#[c]⟩) H
theorem jA:IxR X (rIxL X.K):=by
 intro l k a s A H x y v u Q I J K h o;obtain⟨p,P,i,z,rfl,rfl,G,E,q⟩:=h;cases J;obtain⟨t,rfl⟩:=K;obtain⟨e,r,f,O⟩:=I.list G;obtain⟨j,c,B,M,C,D⟩:=KW E;obtain⟨w,m,g⟩:=r.get B;have F:=r.length;have N:=line63;have b:EP X a A Q w s:=⟨z,H,I,g,q⟩
 by_cases n:0<=i
 ·have d:i.toNat=j:=by
   rw[seqIndex_of n D]at c;exact vL c
  exact item_listR f.isList n (by lia) (by rw[d];simpa using m) b o
 ·have d:(i+(e.toArray.size:Int)).toNat=j:=by
   rw[seqIndex_neg (by lia) C]at c;rw[size_toArray,<-F];exact vL c
  exact subscriptTail_builtinR (x:=w) f.isList.typeIs slot_list_getitem.lookup
   (wpAny_getItem_list_neg (Q:=fun r L=>r=w/\EP X a A Q r L) f.isList (by lia) (by rw[size_toArray]<;>lia) (by lia) (by rw[d];simpa using m) ⟨rfl,b⟩) o
theorem ji:IxR X (rIxT X.K):=by
 intro e d a s g H x y v u Q I D E h B;obtain⟨p,N,i,z,rfl,rfl,A,n,q⟩:=h;cases D;obtain⟨t,rfl⟩:=E;obtain⟨C,r,f,M⟩:=I.tuple A;obtain⟨j,l,m,G,J,K⟩:=KW n;obtain⟨w,k,c⟩:=r.get m;have o:=r.length;have L:=line63;have b:EP X a g Q w s:=⟨z,H,I,c,q⟩
 exact subscriptTail_builtinR (x:=w) f.typeIs slot_tuple_getitem.lookup
  (getItem_tuple (j:=j) (Q:=fun r F=>r=w/\EP X a g Q r F) f (by lia) (by lia) (by rw[size_toArray,<-o];exact l) (by simpa using k) ⟨rfl,b⟩) B
theorem xt:IxR X rIxS:=by
 intro b a e s E H x y v u Q I r w h p;obtain⟨z,i,c,rfl,rfl,C,n,q⟩:=h;obtain⟨t,rfl⟩:=r;obtain⟨D,rfl⟩:=w;obtain⟨j,d,k,A,l,m⟩:=KW n;have o:z.cps.toList.length=z.length:=by simp[Str.length]
 rw[o]at d l m;have B:=line63;exact tail_any (typeIs_str s z t) slot_str_getitem.lookup (getItem_str (c:=c) (by
  have f:decide (i < -(2^63:Int))=false:=vH (by lia);have g:decide (i>=2^63)=false:=vH (by lia);rw[f,g,Bool.or_false]) (by rw[d];simpa using k) ⟨.str ⟨#[c]⟩,H,I.tok _,⟨_,rfl⟩,q⟩) p
theorem xy(a:List Value)(n j:Nat)(u:Value):Obj.mapSeq (·.setIfInBounds j u) {cls:=.type "list",data:=.seq a.toArray n}={cls:=.type "list",data:=.seq (a.set j u).toArray n}:=by
 simp[Obj.mapSeq]
theorem Inv.lst{b:St}{H:Hp}(I:Inv X pins b H s)(h:H p=some (.lst xs)) :
  ∃(a:List Value) (n:Nat),Vals xs a/\s.heap.get? p=some {cls:=.type "list",data:=.seq a.toArray n}/\xs.length<=sizeLine:=by
 obtain⟨z,a,n,r,e⟩:=I.hok p _ h;exact⟨a,n,r,e,z⟩
theorem Inv.lstUpd{a:List (Addr×Obj)}{i:St}{H:Hp}{s:Shared}{p:Addr}{xs ys:List V}{c its':List Value}{n d:Nat}{f:Obj->Obj}(I:Inv X a i H s)(h:H p=some (.lst xs))
  (k:s.heap.get? p=some {cls:=.type "list",data:=.seq c.toArray n}) (g:f {cls:=.type "list",data:=.seq c.toArray n}={cls:=.type "list",data:=.seq its'.toArray d}) (r:Vals ys its') (hz:ys.length<=sizeLine) (t:Nat) :
  Inv X a i (upd H p (.lst ys)) {s with heap:=s.heap.update p f,toks:=t}:=by
 have e:(s.heap.update p f).get? p=some {cls:=.type "list",data:=.seq its'.toArray d}:=by
  rw[Heap.get?_update_self f k (by rw[g]<;>rfl),g]
 refine I.write (x:=p) (e:=p) (by rw[h];trivial) (.inl rfl) (fun b u j q=>(Heap.get?_update_other _ _ (Ne.symm j)).trans q) ⟨_,e⟩ ?_;exact⟨hz,its',d,r,e⟩
noncomputable def rSetL:V->V->V->Hp->(Hp->Prop)->Prop:=fun o i v H Q=>∃p xs k j,o = .ref p/\i = .int k/\H p=some (.lst xs)/\ixN xs.length k=some j/\Q (upd H p (.lst (xs.set j v)))
theorem set_list:PSet X rSetL:=by
 intro b s E H o i v ov J u Q I B A C h;obtain⟨p,D,k,j,rfl,rfl,x,y,q⟩:=h;cases B;obtain⟨t,rfl⟩:=A;obtain⟨a,n,r,f,z⟩:=I.lst x;obtain⟨c,F,m,w⟩:=Xo y;have e:=r.length;have G:=line63;have g:Inv X b E (upd H p (.lst (D.set j v))) {s with heap:=s.heap.update p (Obj.mapSeq (·.setIfInBounds j u))}:=
  I.lstUpd x f (xy a n j u) (r.set C j) (by rw[length_set];exact z) s.toks
 by_cases l:0<=k
 ·have d:k.toNat=j:=by
   rw[seqIndex_of l w]at c;exact vL c
  exact PySem.W.ki_setAt f l (by lia) (by rw[size_toArray,<-e];exact w) (by rw[d];exact⟨_,g,q⟩)
 ·have d:(k+(a.toArray.size:Int)).toNat=j:=by
   rw[seqIndex_neg (by lia) m]at c;rw[size_toArray,<-e];exact vL c
  exact PySem.W.ki_setBack f (by lia) (by rw[size_toArray,<-e];exact m) (by lia) (by rw[d];exact⟨_,g,q⟩)
theorem w4(lo hi:Option Int)(n:Nat):(sliceBounds lo hi none n).1=((HT.sIx n 0 lo:Nat):Int)/\(sliceBounds lo hi none n).2.1=((HT.sIx n n hi:Nat):Int)/\(sliceBounds lo hi none n).2.2=1:=by
 refine⟨?_,?_,rfl⟩
 ·cases lo with
  | none=>simp[sliceBounds,HT.sIx]
  | some i=>
   simp only[sliceBounds,HT.sIx,Option.getD_none,show(1:Int)>0 by decide,if_true];by_cases h:i<0
   ·simp only[h,if_true]<;>lia
   ·simp only[h,if_false]<;>lia
 ·cases hi with
  | none=>simp[sliceBounds,HT.sIx]
  | some i=>
   simp only[sliceBounds,HT.sIx,Option.getD_none,show(1:Int)>0 by decide,if_true];by_cases h:i<0
   ·simp only[h,if_true]<;>lia
   ·simp only[h,if_false]<;>lia
theorem kZ(a:List Value)(lo hi:Option Int):slicePick a.toArray lo hi none=((a.drop (HT.sIx a.length 0 lo)).take (HT.sIx a.length a.length hi-HT.sIx a.length 0 lo)).toArray:=by
 obtain⟨b,c,d⟩:=w4 lo hi a.toArray.size;unfold slicePick;rw[b,c,d];simp only[sliceRange_one,pick_run,size_toArray]<;>rfl
noncomputable def rSlL(K:Frg):V->Option Int->Option Int->Hp->VK->Prop:=fun x lo hi H Q=>∃a xs,x = .ref a/\SqL K H a xs/\∀p,H p=none->Q (.ref p) (upd H p (.lst (cutV xs lo hi)))
theorem yo:SlR X (rSlL X.K):=by
 intro i s A H x v y z e f w Q I t j n p h;obtain⟨a,c,rfl,k,q⟩:=h;cases t;obtain⟨m,r,g,l⟩:=I.list k;have d:=r.length;refine⟨"list",_,slot_list_getitem.lookup,g.isList.typeIs,?_⟩;refine wpAny_getItem_list_slice g.isList j n p .none (by simp) ?_ (by rw[size_toArray]<;>lia);rw[kZ,<-d];refine⟨.ref s.heap.objs.size,_,I.laid (t':=s.toks) (o:=.lst (cutV c e f)) (fun b u q=>vJ _ q) (vb _) ?_,rfl,q _ (I.hok.fresh (vb _))⟩;exact⟨vW (Qu c e f) l,_,0,(r.drop (HT.sIx c.length 0 e)).take (HT.sIx c.length c.length f-HT.sIx c.length 0 e),Heap.get?_push_size _ rfl⟩
noncomputable def flatV:V->Bool
 | .non=>true
 | .bl _=>true
 | .int _=>true
 | .str _=>true
 | _=>false
noncomputable def eqV:V->V->Bool
 | .non,.non=>true
 | .bl a,.bl b=>a==b
 | .bl a,.int b=>(if a then 1 else 0)==b
 | .int a,.bl b=>a==(if b then 1 else 0)
 | .int a,.int b=>a==b
 | .str a,.str b=>a==b
 | _,_=>false
theorem j45(f:RelV y u)(c:RelV x v)(g:flatV y=true)(e:flatV x=true):SeqAt.EqAt A s u v (eqV y x):=by
 cases y with
 | non=>
  cases f;cases x with
  | non=>cases c;exact SeqAt.EqAt.same _
  | bl b=>cases c;exact SeqAt.EqAt.none_bool b
  | int b=>obtain⟨t,rfl⟩:=c;exact SeqAt.EqAt.none_int b t
  | str b=>obtain⟨t,rfl⟩:=c;exact SeqAt.EqAt.none_str b t
  | _=>exact ud (show false=true from e) vF
 | bl a=>
  cases f;cases x with
  | non=>cases c;exact SeqAt.EqAt.bool_none a
  | bl b=>cases c;exact SeqAt.EqAt.bool_bool a b
  | int b=>obtain⟨t,rfl⟩:=c;exact SeqAt.EqAt.bool_int a b t
  | str b=>obtain⟨t,rfl⟩:=c;exact SeqAt.EqAt.bool_str a b t
  | _=>exact ud (show false=true from e) vF
 | int a=>
  obtain⟨d,rfl⟩:=f;cases x with
  | non=>cases c;exact SeqAt.EqAt.int_none a d
  | bl b=>cases c;exact SeqAt.EqAt.int_bool a d b
  | int b=>obtain⟨t,rfl⟩:=c;exact SeqAt.EqAt.int_int a d b t
  | str b=>obtain⟨t,rfl⟩:=c;exact SeqAt.EqAt.int_str a d b t
  | _=>exact ud (show false=true from e) vF
 | str a=>
  obtain⟨d,rfl⟩:=f;cases x with
  | non=>cases c;exact SeqAt.EqAt.str_none a d
  | bl b=>cases c;exact SeqAt.EqAt.str_bool a d b
  | int b=>obtain⟨t,rfl⟩:=c;exact SeqAt.EqAt.str_int a d b t
  | str b=>obtain⟨t,rfl⟩:=c;exact SeqAt.EqAt.str_str a d b t
  | _=>exact ud (show false=true from e) vF
 | _=>exact ud (show false=true from g) vF
noncomputable def eqU(x:V)(u:Value):Bool:=match u with
 | .none=>eqV .non x
 | .bool b=>eqV (.bl b) x
 | .int i _=>eqV (.int i) x
 | .str z _=>eqV (.str z) x
 | _=>false
theorem j0R(r:RelV y u)(f:flatV y=true):eqU x u=eqV y x:=by
 cases y with
 | non=>cases r;rfl
 | bl b=>cases r;rfl
 | int i=>obtain⟨t,rfl⟩:=r;rfl
 | str z=>obtain⟨t,rfl⟩:=r;rfl
 | _=>exact ud (show false=true from f) vF
theorem ZU:∀{xs:List V} {us:List Value},Vals xs us->xs.all flatV=true->us.any (eqU x)=xs.any fun y=>eqV y x
 | _,_,.nil,_=>rfl
 | y::xs,u::us,.cons r t,f=>by
  rw[all_cons,Bool.and_eq_true]at f;rw[any_cons,any_cons,j0R r f.1,ZU t f.2]
theorem zP(c:RelV x v)(b:flatV x=true):∀{xs:List V} {us:List Value},Vals xs us->xs.all flatV=true->∀u∈us,SeqAt.EqAt A s u v (eqU x u)
 | _,_,.nil,_=>fun u a=>by cases a
 | y::xs,u::us,.cons r t,f=>fun d a=>by
  rw[all_cons,Bool.and_eq_true]at f;rcases mem_cons.mp a with rfl | a
  ·rw[j0R r f.1];exact j45 r c f.1 b
  ·exact zP c b t f.2 d a
noncomputable def inV(x:V)(xs:List V):Bool:=xs.any fun y=>eqV y x
def rIn(K:Frg)(neg:Bool):R2:=fun x y H Q=>∃p xs,y = .ref p/\(SqL K H p xs\/SqT K H p xs)/\flatV x=true/\xs.all flatV=true/\Q (.bl (if neg then !inV x xs else inV x xs)) H
theorem yR:OpR X (compareOp .In) (rIn X.K false):=by
 intro g s m H x y v u Q I i k h;obtain⟨p,l,rfl,b,f,c,q⟩:=h;cases k;rcases b with b | b
 ·obtain⟨a,r,e,j⟩:=I.list b;refine SeqAt.in_listAt (eqU x) e.isList (fun w d=>zP i f r c w (by simpa using d)) ⟨.bl _,H,I,rfl,?_⟩;rw[show a.toArray.any (eqU x)=a.any (eqU x) by simp,ZU r c];exact q
 ·obtain⟨a,r,e,j⟩:=I.tuple b;refine SeqAt.in_tupleAt (eqU x) e (fun w d=>zP i f r c w (by simpa using d)) ⟨.bl _,H,I,rfl,?_⟩;rw[show a.toArray.any (eqU x)=a.any (eqU x) by simp,ZU r c];exact q
theorem wO:OpR X (compareOp .NotIn) (rIn X.K true):=by
 intro g s m H x y v u Q I i k h;obtain⟨p,l,rfl,b,f,c,q⟩:=h;cases k;rcases b with b | b
 ·obtain⟨a,r,e,j⟩:=I.list b;refine SeqAt.notIn_listAt (eqU x) e.isList (fun w d=>zP i f r c w (by simpa using d)) ⟨.bl _,H,I,rfl,?_⟩;rw[show a.toArray.any (eqU x)=a.any (eqU x) by simp,ZU r c];exact q
 ·obtain⟨a,r,e,j⟩:=I.tuple b;refine SeqAt.notIn_tupleAt (eqU x) e (fun w d=>zP i f r c w (by simpa using d)) ⟨.bl _,H,I,rfl,?_⟩;rw[show a.toArray.any (eqU x)=a.any (eqU x) by simp,ZU r c];exact q
theorem qR:CallR X (.type "list") (fun xs H Q=>∃p ys,xs=[.ref p]/\(SqL X.K H p ys\/SqT X.K H p ys)/\∀l,H l=none->Q (.ref l) (upd H l (.lst ys))):=by
 intro t s B H xs C Q I r h;obtain⟨p,ys,rfl,j,q⟩:=h;obtain⟨u,rfl,A⟩:=vals1 r;cases A;have g:∀(a:List Value),Vals ys a->ys.length<=sizeLine->∀(c:Heap) (d:Nat),(∀b z,s.heap.get? b=some z->c.get? b=some z)->
   c.get? s.heap.objs.size=some {cls:=.type "list",dict:=none,data:=.seq a.toArray d,slots:=#[]}->EP X t B Q (.ref s.heap.objs.size) {s with heap:=c}:=fun a f k c d m e=>
  ⟨.ref s.heap.objs.size,_,I.laid (t':=s.toks) m (vb _) (show ObjOk X.prog X.w _ c _ (.lst ys)from⟨k,a,d,f,e⟩),rfl,q _ (I.hok.fresh (vb _))⟩
 rcases j with j | j
 ·obtain⟨a,f,y,k⟩:=I.list j;have i:=f.length;obtain⟨o,x,v,n,w⟩:=y.isList;exact call_list_seq p (.inl rfl) x v w (fun c d m e=>g a f k c d m e) (by simp only[size_toArray]<;>lia)
 ·obtain⟨a,f,y,k⟩:=I.tuple j;have i:=f.length;obtain⟨o,x,v,n,w⟩:=y;exact call_list_seq p (.inr rfl) x v w (fun c d m e=>g a f k c d m e) (by simp only[size_toArray]<;>lia)
theorem JX:CallR X (.type "tuple") (fun xs H Q=>∃p ys,xs=[.ref p]/\((SqL X.K H p ys/\∀l,H l=none->Q (.ref l) (upd H l (.tup ys)))\/(SqT X.K H p ys/\Q (.ref p) H))):=by
 intro a s n H xs x Q I r h;obtain⟨p,ys,rfl,h⟩:=h;obtain⟨u,rfl,w⟩:=vals1 r;cases w;rcases h with⟨f,q⟩ | ⟨f,q⟩
 ·obtain⟨c,i,g,m⟩:=I.list f;have k:=i.length;refine call_tuple_list g.isList (fun d v=>?_) (by simp only[size_toArray]<;>lia);have j:Inv X a n H {s with heap:=d}:=I.kept (t':=s.toks) v;have t:Inv X a n (upd H d.objs.size (.tup ys)) {s with heap:=d.push {cls:=.type "tuple",data:=.seq c.toArray}}:=
   j.laid (t':=s.toks) (fun b o e=>vJ _ e) (vb _) (show ObjOk X.prog X.w _ _ _ (.tup ys)from⟨m,c,i,IsTup.new _ _⟩)
  exact⟨.ref d.objs.size,_,t,rfl,q _ (j.hok.fresh (vb _))⟩
 ·obtain⟨c,i,g,m⟩:=I.tuple f;exact call_tuple_same g ⟨.ref p,H,I,rfl,q⟩
def tyV(K:Frg)(T:String)(x:V)(H:Hp):Prop:=match x with
 | .str _=>T = "str"
 | .int _=>T = "int"
 | .ref p=>(T = "list"/\∃xs,SqL K H p xs)\/(T = "tuple"/\∃o,K.lookup p=some o/\o.cls = .type "tuple"/\o.dict=none)\/
   (T = "dict"/\((∃kvs,H p=some (.dK kvs))\/∃kvs,H p=some (.dT kvs)))\/(T = "set"/\∃S n,H p=some (.set S n))
 | _=>False
theorem j2j{w:St}{H:Hp}(I:Inv X pins w H s)(r:RelV x v)(f:tyV X.K T x H) :
  s.TypeIs v T/\∀a,v = .ref a->∃k,s.heap.get? a=some k/\k.dict=none:=by
 cases x with
 | str z=>
  obtain⟨t,rfl⟩:=r;cases(show T = "str" from f);exact⟨typeIs_str s z t,fun _ e=>nomatch e⟩
 | int i=>
  obtain⟨t,rfl⟩:=r;cases(show T = "int" from f);exact⟨typeIs_int s i t,fun _ e=>nomatch e⟩
 | ref p=>
  cases r;rcases f with⟨rfl,y,q⟩ | ⟨rfl,o,b,m,h⟩ | ⟨rfl,b⟩ | ⟨rfl,S,n,b⟩
  ·obtain⟨u,_,l,_⟩:=I.list q;refine⟨l.isList.typeIs,fun a e=>?_⟩;cases e;obtain⟨o,n,e,c,h,_⟩:=l;exact⟨o,e,h⟩
  ·refine⟨⟨o,I.kIn p o b,m⟩,fun a e=>?_⟩;cases e;exact⟨o,I.kIn _ o b,h⟩
  ·have z:∃o,s.heap.get? p=some o/\o.ExactDict:=by
    rcases b with⟨j,b⟩ | ⟨j,b⟩
    ·obtain⟨_,_,_,_,o,_,_,e,d,_⟩:=I.hok p _ b;exact⟨o,e,d⟩
    ·obtain⟨_,_,_,_,o,_,_,e,d,_⟩:=I.hok p _ b;exact⟨o,e,d⟩
   obtain⟨o,e,d⟩:=z;refine⟨⟨o,e,d.1⟩,fun a g=>?_⟩;cases g;exact⟨o,e,d.2.1⟩
  ·obtain⟨o,_,_,_,e,d,_⟩:=I.hok p _ b;refine⟨⟨o,e,d.1⟩,fun a g=>?_⟩;cases g;exact⟨o,e,d.2.1⟩
 | _=>exact False.elim f
def tBM0(K:Frg)(T:String)(r:V->List V->Hp->VK->Prop)(to:TE):TE:=fun σ H Q=>to σ H fun x H1=>tyV K T x H1/\r x [] H1 Q
def tBM(K:Frg)(T:String)(r:V->List V->Hp->VK->Prop)(to:TE)(t:TA):TE:=fun σ H Q=>to σ H fun x H1=>tyV K T x H1/\t σ H1 fun xs H2=>r x xs H2 Q
variable{o e:Expr}{es:List Expr}{to:TE}{t:TA}{name:Str}{apos cpos:Pos}{T id:String}{r:V->List V->Hp->VK->Prop}
theorem j1H(p:PlainAttrs T)(d:Slot T name id)(e:typeOf (.builtin id)=pure (.type "method_descriptor"))(m:MtR X id r)(n:PE X o to)
  (b:attributeBase o name X.env (eval o X.env)=eval o X.env:=by rfl) (c:(apos.endLine==cpos.line)=true:=by rfl):PE X (.Call (.Attribute o name apos) [] [] cpos) (tBM0 X.K T r to):=by
 intro a s i H Q I h;refine wpAny_Call_method0_late b c (thn (n a s i H _ I h) fun v t ⟨x,j,f,g,u,q⟩=>?_);obtain⟨k,l⟩:=j2j f g u;exact⟨T,id,p,d,e,k,l,Calls.callWith_builtin rfl (PySem.evalArgs_none (m a t i j x [] v [] Q f g .nil q))⟩
theorem qI(C:PlainAttrs T)(g:Slot T name id)(i:typeOf (.builtin id)=pure (.type "method_descriptor"))(z:MtR X id r)(A:PE X o to)(y:PA X (e::es) t)
  (c:attributeBase o name X.env (eval o X.env)=eval o X.env:=by rfl)
  (f:((backTo cpos (starEach (e::es) X.env)).all (fun x=>!x.1)&&(backToKw cpos (keywordEach [] X.env)).all (fun x=>x.1.isSome)
   && decide ((e::es).length+([]:List Keyword).length+(if([]:List Keyword).isEmpty then 0 else 1)<30))=true:=by rfl)
  (d:(apos.endLine==cpos.line)=true:=by rfl) (B:starEach (e::es) X.env=(false,eval e X.env)::starEach es X.env:=by rfl) (b:(backTo cpos (starEach es X.env)).any (·.1)=false:=by rfl) :
  PE X (.Call (.Attribute o name apos) (e::es) [] cpos) (tBM X.K T r to t):=by
 intro a s j H Q I h;refine wpAny_Call_method_late c f d rfl (thn (A a s j H _ I h) fun v G ⟨x,n,k,m,K,D⟩=>?_);obtain⟨u,w⟩:=j2j k m K;refine⟨T,id,C,g,i,u,w,?_⟩;have l:=y cpos a G j n _ k D;rw[B]at l|-;refine Calls.callWith_builtin (by show(false||(backTo cpos (starEach es X.env)).any (·.1))=false;rw[b]<;>rfl) (Calls.evalArgs_plain ?_);exact thn l fun L J ⟨M,p,q,F,E⟩=>z a J j p x M v L Q q m F E
end
def MtM(X:Cx)(id:String)(r:V->List V->Hp->VK->Prop):Prop:=
 ∀(pins:List (Addr×Obj)) (s:Shared) (σ:St) (H:Hp) (x:V) (xs:List V) (v:Value) (us:List Value) (Q:VK),Inv X pins σ H s->RelV x v->Vals xs us->r x xs H Q->
  wpAny (model X.prog X.w) X.A (call (.builtin id) (v::us)) (EP X pins σ Q) X.xe s
theorem Vals.one:∀{x:V} {us:List Value},Vals [x] us->∃u,us=[u]/\RelV x u
 | _,_,.cons r .nil=>⟨_,rfl,r⟩
theorem Vals.zero:∀{us:List Value},Vals [] us->us=[]
 | _,.nil=>rfl
theorem Vals.dropLast{xs:List V}{us:List Value}(h:Vals xs us):Vals xs.dropLast us.dropLast:=by
 induction h with
 | nil=>exact .nil
 | cons r t ih=>
  cases t with
  | nil=>exact .nil
  | cons q t'=>exact .cons r ih
theorem xh{c:Type}(l:List c):l.eraseIdx (l.length-1)=l.dropLast:=by
 induction l with
 | nil=>rfl
 | cons a r ih=>
  cases r with
  | nil=>rfl
  | cons b r=>
   have e:(a::b::r).length-1=((b::r).length-1)+1:=by
    have d:(a::b::r).length=r.length+2:=rfl;have f:(b::r).length=r.length+1:=rfl;lia
   rw[e,List.eraseIdx_cons_succ,ih]
   all_goals rfl
section
variable{X:Cx}{pins:List (Addr×Obj)}{σ:St}{H:Hp}{s:Shared}{l b:Addr}{xs ys zs:List V}
theorem Inv.lset{a its':List Value}{n:Nat}{f:Array Value->Array Value}{t':Nat}(I:Inv X pins σ H s)(b:H l=some (.lst xs))
  (e:s.heap.get? l=some {cls:=.type "list",data:=.seq a.toArray n}) (d:f a.toArray=its'.toArray) (h:Vals ys its') (hz:ys.length<=sizeLine) :
  Inv X pins σ (upd H l (.lst ys)) {s with heap:=s.heap.update l (Obj.mapSeq f),toks:=t'}:=by
 have q:=PySem.IsL.update e f;rw[d]at q;refine I.write (x:=l) (e:=l) (by rw[b];exact trivial) (.inl rfl) (fun i u c g=>(Heap.get?_update_other s.heap (Obj.mapSeq f) (Ne.symm c)).trans g) ⟨_,q⟩ ?_;exact⟨hz,its',_,h,q⟩
theorem Inv.lnew(I:Inv X pins σ H s)(a:Vals ys its)(hz:ys.length<=sizeLine) :
  Inv X pins σ (upd H s.heap.objs.size (.lst ys)) {s with heap:=s.heap.push {cls:=.type "list",data:=.seq its.toArray},toks:=t'}:=
 I.laid (fun _ _ q=>vJ _ q) (vb _) ⟨hz,its,0,a,Heap.get?_push_size _ rfl⟩
theorem Inv.fresh(I:Inv X pins σ H s):H s.heap.objs.size=none:=I.hok.fresh (vb _)
theorem Inv.lstM(I:Inv X pins σ H s)(b:H l=some (.lst xs)):xs.length<=sizeLine/\∃(a:List Value) (n:Nat),Vals xs a/\xs.length=a.length/\s.heap.get? l=some {cls:=.type "list",data:=.seq a.toArray n}:=by
 obtain⟨z,a,n,r,e⟩:=I.hok l _ b;exact⟨z,a,n,r,r.length,e⟩
theorem notLongL(h:n<=sizeLine):Builtin.List.listTooLong n=false:=by
 unfold Builtin.List.listTooLong;exact vH (by lia)
end
section
variable{X:Cx}
noncomputable def rAppend:V->List V->Hp->VK->Prop:=fun x vs H Q=>∃l xs y,x = .ref l/\vs=[y]/\H l=some (.lst xs)/\xs.length<sizeLine/\Q .non (upd H l (.lst (xs++[y])))
theorem jX:MtM X "list.append" rAppend:=by
 intro c s p H x m v k Q I g f h;obtain⟨l,o,y,rfl,rfl,b,j,q⟩:=h;cases g;obtain⟨u,rfl,d⟩:=f.one;obtain⟨z,a,n,r,i,e⟩:=I.lstM b;refine call_meets F.slot_list_append ⟨_,e,rfl⟩ F.entry_list_append (F.args_list_append_2 _ _) (PySem.list_append l a.toArray n u (by rw[size_toArray];lia)) ⟨e,?_⟩;refine⟨.non,_,I.lset (its':=a++[u]) b e (by simp) (r.append (.cons d .nil)) ?_,rfl,q⟩;rw[vn,vS];lia
noncomputable def rExtend:V->List V->Hp->VK->Prop:=fun x vs H Q=>∃l b xs zs,x = .ref l/\vs=[.ref b]/\H l=some (.lst xs)/\H b=some (.lst zs)/\xs.length+zs.length<=sizeLine/\Q .non (upd H l (.lst (xs++zs)))
theorem j0a:MtM X "list.extend" rExtend:=by
 intro i s K H x D v C Q I y w h;obtain⟨l,b,E,J,rfl,rfl,g,k,B,q⟩:=h;cases y;obtain⟨u,rfl,t⟩:=w.one;cases t;obtain⟨z,c,n,r,A,e⟩:=I.lstM g;obtain⟨G,a,o,p,m,j⟩:=I.lstM k;have f:c.toArray.size+a.toArray.size<=sizeLine:=by rw[size_toArray,size_toArray];lia
 have d:¬(!c.toArray.isEmpty&&Builtin.List.listTooLong (c.toArray.size+a.toArray.size))=true:=by
  rw[notLongL f,Bool.and_false];exact vF
 refine call_meets F.slot_list_extend ⟨_,e,rfl⟩ F.entry_list_extend (F.args_list_extend_2 _ _)
  (AutoSeq1.list_extend_list_list_0 l c.toArray n b a.toArray o d (by rw[size_toArray];lia) (by lia)) ⟨e,j,?_⟩
 refine⟨.non,_,I.lset (its':=c++a) g e (by simp) (r.append p) ?_,rfl,q⟩;rw[vn];lia
noncomputable def rPop:V->List V->Hp->VK->Prop:=fun x vs H Q=>∃l xs y,x = .ref l/\vs=[]/\H l=some (.lst xs)/\xs[xs.length-1]?=some y/\Q y (upd H l (.lst xs.dropLast))
theorem j4h:MtM X "list.pop" rPop:=by
 intro f s A H x t v p Q I o m h;obtain⟨l,w,y,rfl,rfl,d,j,q⟩:=h;cases o;have b:=m.zero;subst b;obtain⟨z,a,n,r,g,e⟩:=I.lstM d;obtain⟨u,i,k⟩:=r.get j;have c:a.toArray[a.toArray.size-1]?=some u:=by
  show a.toArray[a.length-1]?=some u;rw[<-Array.getElem?_toList,<-g];exact i
 refine call_meets F.slot_list_pop ⟨_,e,rfl⟩ F.entry_list_pop (F.args_list_pop_1 _) (MeetsSeq.list_pop_last l a.toArray n u c (by rw[size_toArray];lia)) ⟨e,?_⟩;refine⟨y,_,I.lset (its':=a.dropLast) d e ?_ r.dropLast ?_,k,q⟩
 ·show a.toArray.eraseIdxIfInBounds (a.toArray.size-1)=a.dropLast.toArray;rw[size_toArray,List.eraseIdxIfInBounds_toArray,xh]
 ·rw[List.length_dropLast];lia
def rCat:R2:=fun x y H Q=>∃l b xs zs,x = .ref l/\y = .ref b/\H l=some (.lst xs)/\H b=some (.lst zs)/\xs.length+zs.length<=sizeLine/\∀p,H p=none->Q (.ref p) (upd H p (.lst (xs++zs)))
theorem yQ:OpR X (binaryOp .Add) rCat:=by
 intro d s E H x y v u Q I o p h;obtain⟨l,b,B,D,rfl,rfl,j,i,w,q⟩:=h;cases o;cases p;obtain⟨z,c,n,r,t,e⟩:=I.lstM j;obtain⟨C,a,A,m,k,f⟩:=I.lstM i;refine PySem.P.add_list e f ?_ (by rw[size_toArray,size_toArray];lia);have g:c.toArray++a.toArray=(c++a).toArray:=by simp
 rw[g];exact⟨.ref _,_,I.lnew (t':=s.toks) (r.append m) (by rw[vn];lia),rfl,q _ I.fresh⟩
end
section
variable{prog:Program}{w:World}{A:Around}{E:Value->Shared->Prop}{s:Shared}
end
section
variable{X:Cx}
end
end L2
namespace Att
open PySem PySem.W PySem.Calls PyProof.Rows
theorem Ym:∀(c:List Int) (vs:List Value),WellAll P h vs (c.map WData.int)->IntsAre vs c:=by
 intro c
 induction c with
 | nil=>
  intro vs w;rw[map_nil]at w;cases w;exact .nil
 | cons n c ih=>
  intro vs w;rw[uy]at w;cases w with
  | cons a b=>
   cases a;exact .cons _ _ (ih _ b)
theorem j0q{l:OpenLaw}{n:Nat}(t:l.most=some n){P:Params}{h:Heap}{args:List WData}{e:List Value}
  (c:l.row.toRowW.claim.pre args=true) (k:WellAll P h e args) :
  ∃a vs b,e=[Value.ref a]/\args=[WData.list (b.map WData.int)]/\h.get? a=some {cls:=.type "list",data:=.seq vs.toArray}/\IntsAre vs b/\b.length<=n:=by
 have j:WShape.hasAll [] args [.list .int]=true:=(pre_splitW c).1;have m:l.pre.holds [] {args:=args}=true:=(pre_splitW c).2;obtain⟨d,r,rfl,o,p⟩:=hasAllW_cons j;obtain rfl:=hasAllW_nil p;obtain⟨v,rfl,s⟩:=hasW_list o;obtain⟨b,rfl⟩:=items_int s;have f:b.length<=n:=by
  unfold OpenLaw.pre at m;have g:(WTm.not (.lt (.lit (.int (n:Int))) (.len (.arg 0)))).holds [] {args:=[.list (b.map .int)]}=true:=by
   have g:=(holds_andW m).1;rw[t]at g;exact g
  have i:=condW_of g (w_not (w_lt w_lit (w_len_list (w_arg rfl))));rw[vt]at i;refine Nat.le_of_not_lt fun q=>?_
  have u:(n:Int)<((b.length:Nat):Int):=by lia
  first
   | (rw[vG u]at i;exact ud i (by decide))
   | (simp at i;lia)
 cases k with
 | cons w1 w2=>
  cases w2;cases w1 with
  | list ho hall=>exact⟨_,_,b,rfl,rfl,ho,Ym b _ hall,f⟩
theorem j0j(l:OpenLaw)(args:List WData):l.row.toRowW.claim.post args (.bool true) args=true:=
 postW_of (r:=l.row.toRowW) (X:=(true==true))
  (show WShape.has [] (.bool true) .bool=true by first | rfl | decide | simp[WShape.has,WShape.arms,WShape.armsAll])
  (show(WTm.eq .res (.lit (.bool true))).value [] {args:=args,res:=some (.bool true),after:=args}=some (.bool (true==true))from w_eq_bool (w_res rfl) w_lit) rfl
section
variable{prog:Program}{w:World}{A:Around}{E:Value->Shared->Prop}{s:Shared}{K:Frag}
end
end Att
namespace L2
open PySem PySem.Spec PyProof.Rows
theorem KM:∀{vs:List Value} {a:List Int},IntsAre vs a->Vals (a.map V.int) vs
 | _,_,.nil=>.nil
 | _,_,.cons n t h=>.cons ⟨t,rfl⟩ (KM h)
def Only(H:Hp):Prop:=∀b,H b=none\/∃o xs,H b=some (.frz o (.lst xs))
theorem j15{P:Program}{w:World}{K:Frg}{L X:Str->Option Value}{CX:CXT}{k:Nat}{S a:Addr}{fd:FuncData}{x:Str}{sp:Sp}{c:Shared}{vs:List Value}{M:List Int}
  (Z:K.In c.heap) (D:c.heap.Ns mainGlobals L) (g:c.heap.Ns builtinsNs X) (U:∀x:Str,x≠"__name__"->X x=bootBuiltins x) (C:c.heap.NoLimit) (hg:c.gens = #[])
  (O:c.heap.get? a=some {cls:=.type "list",data:=.seq vs.toArray}) (hi:IntsAre vs M) (hl:M.length<=sizeLine) (hr:Room k callerA)
  (F:∀base:Heap,K.In base->base.Ns mainGlobals L->FnOk P w K L base CX k S fd [x] sp) (l:∀(s:Shared) (u:Value),BindsTo s fd ⟨[u],[]⟩ [(x,u)])
  (W:∀H:Hp,Only H->SqL K H a (M.map V.int)->sp [.ref a] H (fun v _=>v = .bl true) fun _ _ _=>False)
  (T:∀H e s',CX [] H c (fun _ _ _=>False) e s'->False) :
  codeAny (model P w) callerA (.call (.ref S) ⟨[.ref a],[]⟩) (fun r s'=>r = .ok (.ret (.bool true))/\OldK c.heap s'.heap/\s'.os=c.os/\AllBare s'.gens) c:=by
 have rv:=KM hi;have J:=hi.length;have j:∀H:Hp,Only H->SqL K H a (M.map V.int)->HOk P w H c.heap->(∀b,H b≠none->b=a)->(H a≠none->K.lookup a=none)->
   codeAny (model P w) callerA (.call (.ref S) ⟨[.ref a],[]⟩) (fun r s'=>r = .ok (.ret (.bool true))/\OldK c.heap s'.heap/\s'.os=c.os/\AllBare s'.gens) c:=by
  intro H hO hS G hA hK;have f:∀{b:Addr} {o:Obj},c.heap.get? b=some o->H b=none->(hidT c.heap H).get? b=some o:=fun e n=>j10 e n
  have Y:∀{b:Addr} {o:Obj} {y:Array DictEntry} {t:Nat},c.heap.get? b=some o->o.data = .dict y t->H b=none:=fun {b o y t} e d=>by
   cases q:H b with
   | none=>rfl
   | some u=>
    have R:b=a:=hA b (by rw[q];simp);subst R;rw[O]at e;cases e;have d':Data.seq vs.toArray _=Data.dict y t:=d;cases d'
  have i:∀{b:Addr} {m:Str->Option Value},c.heap.Ns b m->(hidT c.heap H).Ns b m:=fun {b m} ⟨o,y,t,e,d,r⟩=>⟨o,y,t,f e (Y e d),d,r⟩
  have B:K.In (hidT c.heap H):=fun b o e=>f (Z b o e) (by
   cases q:H b with
   | none=>rfl
   | some u=>
    have R:b=a:=hA b (by rw[q];simp);subst R;rw[hK (by rw[q];simp)]at e;cases e)
  have hM:Mod K L (hidT c.heap H):=⟨B,i D,⟨X,i g,U⟩,let ⟨mc,h1,h2⟩:=C;⟨mc,i h1,h2⟩⟩
  have e0:Env0 P w K L (hidT c.heap H) callerA [] c H:=⟨rfl,hM,fun b o e=>j35 e,Nat.le_of_eq (X5 _ _),trivial,fun b g=>ud (show b∈([]:List Addr)from g) (by simp),G,.of_eq hg⟩
  refine codeAny_mono ((F _ B (i D)).run callerA [] c H ⟨[.ref a],[]⟩ [.ref a] [.ref a] _ _ hr e0 (l c (.ref a)) (.cons rfl .nil) (W H hO hS)) fun r s' h=>?_
  cases r with
  | error e=>exact(T H e s' h).elim
  | ok fl=>
   cases fl with
   | next=>exact False.elim h
   | brk=>exact False.elim h
   | cont=>exact False.elim h
   | ret u=>
    obtain⟨v,H',os,p,un,I,r',q⟩:=h;have q':v = .bl true:=q;subst q';obtain rfl:u=Value.bool true:=r';refine⟨rfl,OldK.of_keep fun b o e=>?_,os,p⟩;cases q:H b with
    | none=>exact un.keep b o e q (by intro z;exact ud (show b∈([]:List Addr)from z) (by simp)) (by simp)
    | some u=>
     rcases hO b with z | ⟨ob,xs,z⟩
     ·rw[q]at z;cases z
     ·have z2:=un.frzs b ob _ z;obtain⟨e1,_⟩:=G b _ z;obtain⟨e2,_⟩:=I b _ z2;rw[e]at e1;cases e1;exact e2
 cases hk:K.lookup a with
 | some o=>
  have e:=Z a o hk;rw[O]at e;cases e;refine j (fun _=>none) (fun _=>.inl rfl) (.inr ⟨_,vs.toArray,_,hk,rfl,rfl,rfl,by rw[size_toArray,J];exact hl,by simpa using rv⟩) (fun b u z=>by have N:(none:Option HO)=some u:=z;cases N) (fun b z=>ud rfl z) fun z=>ud rfl z
 | none=>
  refine j (fun b=>if b=a then some (.frz {cls:=.type "list",data:=.seq vs.toArray} (.lst (M.map V.int)))else none) (fun b=>?_) (.inl (.inr ⟨{cls:=.type "list",data:=.seq vs.toArray},vd rfl⟩)) (fun b u z=>?_) (fun b z=>?_) fun _=>hk
  ·by_cases g:b=a
   ·exact .inr ⟨_,_,vd g⟩
   ·exact .inl (vc g)
  ·by_cases g:b=a
   ·have N:=(vd g).symm.trans z;cases N;subst g;exact⟨O,by rw[vt];exact hl,vs,_,rv,O⟩
   ·have N:=(vc g).symm.trans z;cases N
  ·by_cases g:b=a
   ·exact g
   ·exact ud (vc g) z
noncomputable abbrev KOf{K:Frg}{h:Heap}(_:K.In h):Frg:=K
noncomputable def inClass(s:Stmt)(j:Nat):Stmt:=match s with
 | .ClassDef _ _ _ body _ _ _ _ _ _ _=>body.getD j (.Pass ⟨0,0,0,0⟩)
 | _=>.Pass ⟨0,0,0,0⟩
noncomputable def defArgs(s:Stmt):Arguments:=match s with
 | .FunctionDef _ a _ _ _ _ _ _ _ _=>a
 | _=>{posonlyargs:=[],args:=[],vararg:=none,kwonlyargs:=[],kw_defaults:=[],kwarg:=none,defaults:=[]}
noncomputable def defBody(s:Stmt):List Stmt:=match s with
 | .FunctionDef _ _ b _ _ _ _ _ _ _=>b
 | _=>[]
noncomputable def defScope(s:Stmt):Scope:=match s with
 | .FunctionDef _ _ _ _ _ _ sc _ _ _=>sc
 | _=>{kind:=.function,names:=[],isGenerator:=false,isCoroutine:=false}
noncomputable abbrev CX0:CXT:=fun _ _ _ _ _ _=>False
noncomputable abbrev E0:XK:=fun _ _ _=>False
theorem pass0:Passes CX0 X E0:=fun _ _ _ _ _ _ _ h=>h.elim
structure Fun(K:Frg)(x qual:Str)(st:Stmt)(f:Addr)(fd:FuncData):Prop where
 ex:∃(oc:Value) (od:Option Addr) (kV doc pm:Value) (an:Option Addr) (cdv ct:Value) (osl:Array (Option Value)),
  fd=PySem.W.fnOf x qual (defArgs st) (defBody st) (defScope st) .none kV doc pm an cdv ct/\K.lookup f=some ⟨oc,od,.func fd,osl⟩/\PySem.W.codeIn K cdv qual=true
 kp:PySem.W.keepIn K (.ref f)=true
section
variable{P:Program}{w:World}{K:Frg}{mg:Str->Option Value}{base:Heap}
theorem Fun.ok{x b:Str}{st:Stmt}{f:Addr}{j:FuncData}{N ps:List Str}{k:Nat}{sp:Sp}(F:Fun K x b st f j)(S:FnScope N ps (defScope st))(i:∀vs H Q E,sp vs H Q E->vs.length=ps.length)
  (d:∀(c:Value) (A:Around) (a:List Env) (s:Shared) (H:Hp) (vs:List V) (Q:VK) (E:XK),Room k (A.deeper (envOfC b (defScope st) s.heap.objs.size f c))->sp vs H Q E->
   ∃t,PSs (cxOf CX0 P w K mg base N b (defScope st) f c A a s H E).nox (defBody st) t/\t {nx:=fun _ H'=>Q .non H',rt:=Q} (start N vs) H):FnOk P w K mg base CX0 (k+1) f j ps sp:=by
 obtain⟨u,v,kV,l,y,p,c,r,o,rfl,n,e⟩:=F.ex;refine j52 n e S i fun A a s H vs Q E m g=>?_
 obtain⟨t,h,q⟩:=d c A a s H vs Q E m g;exact⟨t,h.nox,q⟩
theorem Fun.binds{x a:Str}{st:Stmt}{f:Addr}{g:FuncData}{ps:List Str}(F:Fun K x a st f g)
  (h:∀(kV c e:Value) (an:Option Addr) (b d:Value) (us:List Value),us.length=ps.length->bindArgs (PySem.W.fnOf x a (defArgs st) (defBody st) (defScope st) .none kV c e an b d) ⟨us,[]⟩=pure (ps.zip us)):Binds K g ps []:=by
 obtain⟨l,m,kV,c,e,an,b,d,j,rfl,k,i⟩:=F.ex;exact .all (h kV c e an b d)
theorem jC{x a:Str}{st:Stmt}{f:Addr}{i:Value}{j an:Option Addr}{e:Array (Option Value)}{kV d h b g:Value}(l:K.lookup f=some ⟨i,j,.func (PySem.W.fnOf x a (defArgs st) (defBody st) (defScope st) .none kV d h an b g),e⟩)
  (c:PySem.W.codeIn K b a=true) (k:PySem.W.keepIn K (.ref f)=true):Fun K x a st f (PySem.W.fnOf x a (defArgs st) (defBody st) (defScope st) .none kV d h an b g):=⟨⟨i,j,kV,d,h,an,b,g,e,rfl,l,c⟩,k⟩
end
theorem qt(a:Room k A):A.units+1<cLine:=vD (Nat.add_le_add_left (by decide:1<=64) _) a.units
section
variable{X:Cx}
theorem pv(i:Nat)(b:X.N[i]?=some x:=by rfl)(d:Vis X.env.scope x:=by first | exact Or.inl rfl | exact Or.inr (Or.inl rfl) | exact Or.inr (Or.inr rfl))(c:(x==("__debug__" : Str))=false:=by decide)
  (a:(x==("__classdict__" : Str))=false:=by decide):PE X (.Name x pos) (tVar i):=j4t b d c a
end
theorem iteF{A B:Prop}(h:B):if false=true then A else B:=by
 rw[vc vF];exact h
theorem iteT{A B:Prop}(h:A):if true=true then A else B:=by
 rw[vd rfl];exact h
def Same(H H':Hp):Prop:=∀b o,H b=some o->H' b=some o
theorem Same.refl(H:Hp):Same H H:=fun _ _ h=>h
theorem Same.trans{H d e:Hp}(a:Same H d)(b:Same d e):Same H e:=fun c o h=>b c o (a c o h)
theorem Same.seq{K:Frg}{H H':Hp}{a:Addr}{xs:List V}(e:Same H H')(h:SqL K H a xs):SqL K H' a xs:=by
 rcases h with(h | ⟨o,h⟩) | h
 ·exact .inl (.inl (e _ _ h))
 ·exact .inl (.inr ⟨o,e _ _ h⟩)
 ·exact .inr h
section
variable{κ:Type}[DecidableEq κ]
noncomputable def valV(kvs:List (κ×V))(k:κ):Option V:=(kvs.find? fun kv=>decide (kv.1=k)).map (·.2)
noncomputable def putK(kvs:List (κ×V))(k:κ)(v:V):List (κ×V):=
 if(kvs.any fun kv=>decide (kv.1=k))=true then kvs.map (fun kv=>if kv.1=k then(kv.1,v)else kv)else kvs++[(k,v)]
theorem kL{p:κ×V}{r:List (κ×V)}{k:κ}(e:p.1=k):valV (p::r) k=some p.2:=by simp[valV,List.find?_cons,e]
theorem kK{p:κ×V}{r:List (κ×V)}{k:κ}(e:¬p.1=k):valV (p::r) k=valV r k:=by simp[valV,List.find?_cons,e]
theorem Zd(k:κ):∀kvs:List (κ×V),(kvs.any fun kv=>decide (kv.1=k))=(valV kvs k).isSome
 | []=>rfl
 | p::r=>by
  rw[any_cons];by_cases e:p.1=k
  ·simp only[kL e,decide_eq_true e,Bool.true_or,Option.isSome_some]
  ·rw[kK e,vH e,Bool.false_or];exact Zd k r
theorem zN(kvs:List (κ×V))(k:κ)(v:V):(putK kvs k v).length<=kvs.length+1:=by
 unfold putK;split
 ·rw[vt];lia
 ·rw[vn,vQ,length_nil];lia
theorem RelO.isSome_eq(r:RelO o u):o.isSome=u.isSome:=by
 cases o with
 | none=>cases u with
  | none=>rfl
  | some _=>exact(show False from r).elim
 | some _=>cases u with
  | none=>exact(show False from r).elim
  | some _=>rfl
theorem KV.val{kvs:List (κ×V)}{vs:List (κ×Value)}(r:KV kvs vs)(k:κ):RelO (valV kvs k) (valueAt vs k):=by
 unfold KV at r
 induction r with
 | nil=>exact True.intro
 | @cons p q ps qs h t ih=>
  obtain⟨c,d⟩:=h;by_cases e:p.1=k
  ·have a:q.1=k:=c.symm.trans e;have b:valueAt (q::qs) k=some q.2:=by simp[valueAt,List.find?_cons,a]
   rw[kL e,b];exact d
  ·have a:¬q.1=k:=fun z=>e (c.trans z)
   have b:valueAt (q::qs) k=valueAt qs k:=by simp[valueAt,List.find?_cons,a]
   rw[kK e,b];exact ih
theorem KV.any(r:KV kvs vs)(k:κ):(kvs.any fun kv=>decide (kv.1=k))=vs.any fun kv=>decide (kv.1=k):=by
 unfold KV at r
 induction r with
 | nil=>rfl
 | cons h t ih=>rw[any_cons,any_cons,ih,h.1]
theorem KV.repl(r:KV kvs vs)(k:κ)(c:RelV y u) :
  KV (kvs.map fun kv=>if kv.1=k then(kv.1,y)else kv) (vs.map fun kv=>if kv.1=k then(kv.1,u)else kv):=by
 unfold KV at r|-
 induction r with
 | nil=>exact .nil
 | @cons p q ps qs h t ih=>
  rw[uy,uy];refine .cons ?_ ih;obtain⟨a,b⟩:=h;by_cases e:p.1=k
  ·rw[vd e,vd (a.symm.trans e)];exact⟨a,c⟩
  ·rw[vc e,vc (fun z=>e (a.trans z))];exact⟨a,b⟩
theorem KV.put(r:KV kvs vs)(k:κ)(a:RelV y u):KV (putK kvs k y) (stored vs k u):=by
 unfold putK stored;rw[r.any k];by_cases e:(vs.any fun kv=>decide (kv.1=k))=true
 ·rw[vd e,vd e];exact r.repl k a
 ·rw[vc e,vc e];exact Paired.snoc r ⟨rfl,a⟩
theorem KV.keys{kvs:List (κ×V)}{vs:List (κ×Value)}(r:KV kvs vs):kvs.map (·.1)=vs.map (·.1):=by
 unfold KV at r
 induction r with
 | nil=>rfl
 | cons h t ih=>rw[uy,uy,ih,h.1]
theorem KV.length(r:KV kvs vs):kvs.length=vs.length:=Paired.length r
end
theorem Y4(r:RelV (kV k) u):(mixKind P w).is k u=true:=by
 cases k with
 | inl i=>obtain⟨t,e⟩:=(show∃t,u=Value.int i t from r);subst e;exact Wx P w i t
 | inr x=>obtain⟨t,e⟩:=(show∃t,u=Value.str x t from r);subst e;exact Wy P w x t
theorem j13{a b:Key}(e:kV a=kV b):a=b:=by
 cases a with
 | inl i=>cases b with
  | inl j=>have c:V.int i=V.int j:=e;injection c with c;rw[c]
  | inr y=>exact nomatch (show V.int i=V.str y from e)
 | inr x=>cases b with
  | inl j=>exact nomatch (show V.str x=V.int j from e)
  | inr y=>have c:V.str x=V.str y:=e;injection c with c;rw[c]
theorem Xq:∀{a b:List Key},a.map kV=b.map kV->a=b
 | [],[],_=>rfl
 | [],_::_,e=>by simp at e
 | _::_,[],e=>by simp at e
 | x::xs,y::ys,e=>by
  rw[uy,uy]at e;injection e with e1 e2;rw[j13 e1,Xq e2]
theorem yN:∀{ks:List Key} {us:List Value},Vals (ks.map kV) us->ItemsAre (mixKind P w) ks us
 | [],_,r=>by rw[map_nil]at r;cases r;exact .nil
 | k::ks,_,r=>by
  rw[uy]at r;cases r with
  | cons h t=>exact .cons (Y4 h) (yN t)
noncomputable abbrev KT(H:Hp):List (List Key×V)->List (List Key×Addr×Value)->Prop:=Paired fun p q=>p.1=q.1/\H q.2.1=some (.tup (p.1.map kV))/\RelV p.2 q.2.2
theorem KT.val{H:Hp}{kvs:List (List Key×V)}{xs:List (List Key×Addr×Value)}(r:KT H kvs xs)(k:List Key):RelO (valV kvs k) ((atKey xs k).map (·.2)):=by
 induction r with
 | nil=>exact True.intro
 | @cons p q ps qs h t ih=>
  obtain⟨c,_,d⟩:=h;by_cases e:p.1=k
  ·have a:q.1=k:=c.symm.trans e;have b:atKey (q::qs) k=some q.2:=by simp[atKey,List.find?_cons,a]
   rw[kL e,b];exact d
  ·have a:¬q.1=k:=fun z=>e (c.trans z)
   have b:atKey (q::qs) k=atKey qs k:=by simp[atKey,List.find?_cons,a]
   rw[kK e,b];exact ih
theorem KT.repl{H:Hp}(r:KT H kvs xs)(k:List Key)(d:RelV y u) :
  KT H (kvs.map fun kv=>if kv.1=k then(kv.1,y)else kv) (xs.map (putAt k u)):=by
 induction r with
 | nil=>exact .nil
 | @cons p q ps qs h t ih=>
  rw[uy,uy];refine .cons ?_ ih;obtain⟨a,b,c⟩:=h;unfold putAt;by_cases e:p.1=k
  ·rw[vd e,vd (a.symm.trans e)];exact⟨a,b,d⟩
  ·rw[vc e,vc (fun z=>e (a.trans z))];exact⟨a,b,c⟩
theorem KT.put{H:Hp}(r:KT H kvs xs)(k:List Key)(c:H b=some (.tup (k.map kV)))(a:RelV y u) :
  KT H (putK kvs k y) (storedH xs k b u):=by
 have e:(kvs.any fun kv=>decide (kv.1=k))=(atKey xs k).isSome:=by
  rw[Zd,(r.val k).isSome_eq,Option.isSome_map]
 unfold putK storedH;rw[e];by_cases q:(atKey xs k).isSome=true
 ·rw[vd q,vd q];exact r.repl k a
 ·rw[vc q,vc q];exact Paired.snoc r ⟨rfl,c,a⟩
theorem KT.keeps{H H':Hp}(r:KT H kvs xs)(a:∀b ys,H b=some (.tup ys)->H' b=some (.tup ys)):KT H' kvs xs:=
 Paired.mapP r fun _ _ z=>⟨z.1,a _ _ z.2.1,z.2.2⟩
section
variable{P:Program}{w:World}{H:Hp}{h:Heap}{a:Addr}
theorem j3O(b:HOk P w H h)(e:Rd H a u):ObjOk P w H h a u:=e.ok b
theorem Xf(b:HOk P w H h)(e:Rd H a (.dK kvs)):kvs.length<=sizeLine/\(a==sysModules)=false/\∃vs,KV kvs vs/\h.DictOf (mixKind P w) a vs:=
 show ObjOk P w H h a (.dK kvs)from j3O b e
theorem YX(b:HOk P w H h)(e:H a=some (.dK kvs)):kvs.length<=sizeLine/\(a==sysModules)=false/\∃vs,KV kvs vs/\h.DictOf (mixKind P w) a vs:=Xf b (.inl e)
theorem Y5(g:HOk P w H h)(e:H a=some (.tup (ks.map kV))):(tupleKind (mixKind P w)).is h ks a:=by
 obtain⟨_,b,r,o,c,d,n,f⟩:=(show ObjOk P w H h a (.tup (ks.map kV))from g a _ e)
 exact⟨o,b.toArray,n,c,d,f,by simpa using yN r⟩
theorem Xi(d:HOk P w H h)(e:Rd H a (.dT kvs)):kvs.length<=sizeLine/\(a==sysModules)=false/\
  ∃xs,KT H kvs xs/\h.DictOfH (tupleKind (mixKind P w)) a xs:=by
 obtain⟨z,y,xs,r,o,g,f,i,j,k,n,s⟩:=(show ObjOk P w H h a (.dT kvs)from j3O d e)
 refine⟨z,y,xs,r,o,g,f,i,j,k,n,fun x b=>?_,s⟩;have c:∀{l:List (List Key×V)} {m:List (List Key×Addr×Value)},KT H l m->∀x∈m,(tupleKind (mixKind P w)).is h x.1 x.2.1:=by
  intro l m q
  induction q with
  | nil=>intro x b;exact nomatch b
  | @cons p q ps qs hq t ih=>
   intro x b;rcases mem_cons.mp b with e | b
   ·subst e;exact Y5 d (by rw[<-hq.1];exact hq.2.1)
   ·exact ih x b
 exact c r x b
theorem j4X(b:HOk P w H h)(e:H a=some (.dT kvs)):kvs.length<=sizeLine/\(a==sysModules)=false/\
  ∃xs,KT H kvs xs/\h.DictOfH (tupleKind (mixKind P w)) a xs:=Xi b (.inl e)
end
def DGet(H:Hp)(a:Addr)(y:V)(r:Option V):Prop:=
 (∃kvs k,Rd H a (.dK kvs)/\y=kV k/\r=valV kvs k)\/∃kvs k b,Rd H a (.dT kvs)/\y = .ref b/\H b=some (.tup (k.map kV))/\r=valV kvs k
def DPut(H:Hp)(a:Addr)(y v:V)(H':Hp):Prop:=
 (∃kvs k,H a=some (.dK kvs)/\y=kV k/\kvs.length<sizeLine/\H'=upd H a (.dK (putK kvs k v)))\/
 ∃kvs k b,H a=some (.dT kvs)/\y = .ref b/\H b=some (.tup (k.map kV))/\kvs.length<sizeLine/\H'=upd H a (.dT (putK kvs k v))
theorem DGet.k{H:Hp}{a:Addr}{kvs:List (Key×V)}{k:Key}(e:H a=some (.dK kvs)):DGet H a (kV k) (valV kvs k):=.inl ⟨kvs,k,.inl e,rfl,rfl⟩
theorem DPut.k{H:Hp}{a:Addr}{kvs:List (Key×V)}{k:Key}{v:V}(e:H a=some (.dK kvs))(b:kvs.length<sizeLine):DPut H a (kV k) v (upd H a (.dK (putK kvs k v))):=.inl ⟨kvs,k,e,rfl,b,rfl⟩
section
variable{X:Cx}{pins:List (Addr×Obj)}{σ:St}{H:Hp}{s:Shared}{a:Addr}{y v:V}{u r:Value}{o:Option V}{A:Around}{E:Value->Shared->Prop}
theorem Inv.big(I:Inv X pins σ H s):sysModules<s.heap.objs.size:=by
 have h:mainGlobals<s.heap.objs.size:=(I.mod.glob.keeps I.bk).lt;exact Nat.lt_trans (by decide) h
theorem Kq{Q:Value->Shared->Prop}(B:A.units+1<cLine)(I:Inv X pins σ H s)(g:DGet H a y (some v))(r:RelV y u)(h:∀f s',Inv X pins σ H s'->RelV v f->Q f s') :
  wpAny (model X.prog X.w) A (getItem (.ref a) u) Q E s:=by
 rcases g with⟨q,k,e,j,l⟩ | ⟨q,k,b,e,j,t,l⟩
 ·subst j;obtain⟨z,w,C,c,i⟩:=Xf I.hok e;obtain⟨f,n,d⟩:=RelO.some_of (v:=v) (o:=valueAt C k) (by rw[l];exact c.val k);exact wpAny_getItem_of (Y4 r) i.mapOf n (h f _ (I.tok _) d)
 ·subst j;cases(show u=Value.ref b from r);obtain⟨z,w,D,c,i⟩:=Xi I.hok e;obtain⟨f,n,d⟩:=RelO.some_of (v:=v) (o:=(atKey D k).map (·.2)) (by rw[l];exact c.val k);obtain⟨p,x,m⟩:=vg.mp n;refine wpAny_getItem_heap (tupleKind_room_in1 B) (Y5 I.hok t) i x ?_;rw[m];exact h f _ (I.tok _) d
theorem j59{Q:Value->Shared->Prop}(p:A.units+1<cLine)(I:Inv X pins σ H s)(g:DGet H a y o)(m:RelV y u)(h:∀s',Inv X pins σ H s'->Q (.bool o.isSome) s') :
  wpAny (model X.prog X.w) A (compareOp .In u (.ref a)) Q E s:=by
 rcases g with⟨j,k,e,f,l⟩ | ⟨j,k,b,e,f,n,l⟩
 ·subst f;obtain⟨z,i,r,c,d⟩:=Xf I.hok e;refine wpAny_in_of (Y4 m) i d.mapOf ?_;rw[<-(c.val k).isSome_eq,<-l];exact h _ (I.tok _)
 ·subst f;cases(show u=Value.ref b from m);obtain⟨z,i,t,c,d⟩:=Xi I.hok e;refine wpAny_in_heap (tupleKind_room_in1 p) (Y5 I.hok n) i d ?_;have q:=(c.val k).isSome_eq;rw[Option.isSome_map]at q;rw[<-q,<-l];exact h _ (I.tok _)
theorem ZY(I:Inv X pins σ H s)(h:Mut (H a))(g:Heap.SameBut a s.heap h')(f:∃q,h'.get? a=some q)(c:ObjOk X.prog X.w (upd H a ob) h' a ob) :
  Inv X pins σ (upd H a ob) {s with heap:=h',toks:=t'}:=
 I.write (x:=a) (e:=a) h (.inl rfl) (fun b q d z=>(g.2 b d).trans z) f c
theorem we{H':Hp}(z:kvs.length<=sizeLine)(d:(a==sysModules)=false)(b:KV kvs vs)(c:h'.DictOf (mixKind P w) a vs) :
  ObjOk P w H' h' a (.dK kvs):=⟨z,d,vs,b,c⟩
theorem XZ{H':Hp}{Q:Unit->Shared->Prop}(R:A.units+1<cLine)(I:Inv X pins σ H s)(g:DPut H a y v H')(G:RelV y u)(F:RelV v r)(h:∀s',Inv X pins σ H' s'->Q () s') :
  wpAny (model X.prog X.w) A (setItem (.ref a) u r) Q E s:=by
 rcases g with⟨d,k,e,o,l,n⟩ | ⟨d,k,b,e,o,B,l,n⟩
 ·subst o n;obtain⟨z,p,S,f,m⟩:=YX I.hok e;have x:S.length<=sizeLine:=by rw[<-f.length];exact z
  have t:(putK d k v).length<=sizeLine:=by have:=zN d k v;lia
  refine wpAny_setItem_pairs (hsz:=x) (Y4 G) m fun D i w=>h _ ?_
  have P:∃q,D.get? a=some q:=let ⟨q,_,_,j,_⟩:=i;⟨q,j⟩;exact ZY I (by rw[e];exact True.intro) w P (we t p (f.put k F) i)
 ·subst o n;cases(show u=Value.ref b from G);obtain⟨z,p,T,f,m⟩:=j4X I.hok e;have x:T.length<=sizeLine:=by rw[<-Paired.length f];exact z
  have t:(putK d k v).length<=sizeLine:=by have:=zN d k v;lia
  refine wpAny_setItem_heap (hsz:=x) (tupleKind_room_in1 R) (Y5 I.hok B) m fun D i w=>h _ ?_
  obtain⟨q,K,J,j,L,M,N,_,O⟩:=i;refine ZY I (by rw[e];exact True.intro) w ⟨q,j⟩ ⟨t,p,_,(f.put k B F).keeps fun c U C=>?_,q,K,J,j,L,M,N,O⟩;rw[jh (Qf C e (fun z=>nomatch z))];exact C
end
section
variable{X:Cx}{pins:List (Addr×Obj)}{σ:St}{H:Hp}{s:Shared}{a:Addr}{kvs:List (Key×V)}{k:Key}{u:Value}{A:Around}{E:Value->Shared->Prop}
end
def NoSl(i:Expr):Prop:=∀ov iv,subscripted i false ov iv=operate [ov,iv] (getItem ov iv)
theorem j3u{prog:Program}{w:World}{A:Around}{E:Value->Shared->Prop}{s:Shared}{env:Env}{b a:Expr}{l:Pos}{T q:String}{Q:Value->Shared->Prop}
  (n:typeLookup (.type T) "__getitem__"= pure (some (.builtin q))) (p:NoSl a)
  (h:wpAny (model prog w) A (eval b env) (fun o e=>wpAny (model prog w) A (eval a env) (fun i c=>c.TypeIs o T/\wpAny (model prog w) A (getItem o i) Q E c) E e) E s) :
  wpAny (model prog w) A (eval (.Subscript b a l) env) Q E s:=by
 refine Subscript_ (wpAny_mono h (fun o e j=>wpAny_mono j (fun i c d=>?_) fun _ _ x=>x) fun _ _ x=>x);obtain⟨m,d⟩:=d;unfold subscriptTail;refine uf ?_;rw[getitemInPython_of_ne m.not_modules];refine uf (wpAny_specialOf m n ?_);have g:wpAny (model prog w) A (subscripted a false o i) (fun r f=>wpAny (model prog w) A (letTemporaryGo b o r >>= fun _=>pure r) Q E f) E c:=by
  rw[p o i];exact wpAny_operating (wpAny_mono d (fun r f k=>uf (wpAny_letTemporaryGo (ue k))) fun _ _ x=>x)
 first
  | exact ue (uf g)
  | exact uf (ue (uf g))
  | exact uf g
theorem Yi{f:St}{H:Hp}(I:Inv X pins f H s)(g:DGet H a y o):s.TypeIs (.ref a) "dict":=by
 rcases g with⟨d,k,e,_,_⟩ | ⟨d,k,b,e,_,_,_⟩
 ·obtain⟨_,_,h,_,c⟩:=Xf I.hok e;exact c.typeIs
 ·obtain⟨_,_,i,_,c⟩:=Xi I.hok e;exact c.typeIs
def tDGet(td ty:TE):TE:=fun σ H Q=>td σ H fun x H1=>ty σ H1 fun y H2=>∃a v,x = .ref a/\DGet H2 a y (some v)/\Q v H2
def tDIn(ty td:TE):TE:=fun σ H Q=>ty σ H fun y H1=>td σ H1 fun x H2=>∃a o,x = .ref a/\DGet H2 a y o/\Q (.bl o.isSome) H2
def sDPut(td ty tv:TE):TS:=fun D σ H=>tv σ H fun v H1=>td σ H1 fun x H2=>ty σ H2 fun y H3=>∃a H4,x = .ref a/\DPut H3 a y v H4/\D.nx σ H4
section
variable{X:Cx}{o i e value:Expr}{pos pos' tpos:Pos}{td ty tv:TE}
theorem ze(q:X.A.units+1<cLine)(n:PE X o td)(hi:PE X i ty)(p:NoSl i:=by exact fun _ _=>rfl):PE X (.Subscript o i pos) (tDGet td ty):=by
 intro b s e H Q I h;refine j3u PySem.F.slot_dict_getitem.lookup p (thn (n b s e H _ I h) fun u A ⟨x,f,k,w,r⟩=>thn (hi b A e f _ k r) fun B C ⟨y,j,d,z,a,v,m,g,t⟩=>?_);subst m;obtain rfl:u=Value.ref a:=w;exact⟨Yi d g,Kq q d g z fun E D l c=>⟨v,j,l,c,t⟩⟩
theorem j4p(n:X.A.units+1<cLine)(hi:PE X i ty)(m:PE X o td):PC X .In i o (tDIn ty td):=by
 intro b s c H Q I h;refine thn (hi b s c H _ I h) fun w v ⟨y,d,f,t,p⟩=>thn (m b v c d _ f p) fun u z ⟨x,e,j,r,a,ov,l,g,q⟩=>?_
 subst l;obtain rfl:u=Value.ref a:=r;exact j59 n j g t fun A k=>⟨.bl ov.isSome,e,k,rfl,q⟩
theorem zf(t:X.A.units+1<cLine)(p:PE X o td)(hi:PE X i ty)(w:PE X value tv)(q:swapsWith value (some (.Subscript o i pos')) pos.line X.env=pure false) :
  PS X (.Assign [.Subscript o i pos'] value pos) (sDPut td ty tv):=by
 intro b s c H D I h;refine wpAny_Assign_Subscript (thn (w b s c H _ I h) fun r G ⟨v,d,j,C,z⟩=>thn (p b G c d _ j z) fun u J ⟨x,e,k,E,A⟩=>thn (hi b J c e _ k A) fun L M ⟨y,K,l,F,a,f,n,g,B⟩=>?_) q;subst n;obtain rfl:u=Value.ref a:=E;exact XZ t l g F C fun N m=>⟨c,f,m,B⟩
end
theorem Wl{H:Hp}(h:Heap)(a:sysModules<h.objs.size):ObjOk P w H (h.push {cls:=.type "dict",data:=.dict #[]}) h.objs.size (.dK []):=
 ⟨va _,beq_eq_false_iff_ne.mpr (Ne.symm (vE a)),[],.nil,Heap.DictOf.new h⟩
def tDNewK:TE:=fun _ H Q=>∀p,H p=none->Q (.ref p) (upd H p (.dK []))
section
variable{X:Cx}{pos:Pos}
theorem QY:PE X (.Dict [] [] pos) tDNewK:=fun b s c H Q I h=>
 wpAny_Dict_empty ⟨.ref s.heap.objs.size,_,I.laid (a:=s.heap.objs.size) (o:=.dK []) (t':=s.toks) (fun _ _ q=>vJ _ q) (vb _) (Wl s.heap I.big),rfl,h _ (I.hok.fresh (vb _))⟩
end
noncomputable def tPairs:List (TE×TE)->St->Hp->(List (V×V)->Hp->Prop)->Prop
 | [],_,H,Q=>Q [] H
 | (tk,tv)::r,σ,H,Q=>tk σ H fun x H1=>tv σ H1 fun y H2=>tPairs r σ H2 fun ps H3=>Q ((x,y)::ps) H3
noncomputable abbrev VV:List (V×V)->List (Value×Value)->Prop:=Paired fun p q=>RelV p.1 q.1/\RelV p.2 q.2
def PPs(X:Cx)(pos:Pos)(keys:List (Option Expr))(values:List Expr)(trs:List (TE×TE)):Prop:=
 ∀(pins:List (Addr×Obj)) (s:Shared) (σ:St) (H:Hp) (Q:List (V×V)->Hp->Prop),Inv X pins σ H s->tPairs trs σ H Q->
  wpAny (model X.prog X.w) X.A (evalPairs (pairTrees keys values X.env pos)) (fun vs s'=>∃ps H',Inv X pins σ H' s'/\VV ps vs/\Q ps H') X.xe s
theorem j3h{X:Cx}{a:Pos}:PPs X a [] [] []:=fun b s c H Q I h=>pairTrees_nil_walk ⟨[],H,I,.nil,h⟩
theorem j1K{X:Cx}{b:Pos}{k v:Expr}{ks:List (Option Expr)}{vs:List Expr}{f g:TE}{c:List (TE×TE)}(p:PE X k f)(r:PE X v g)(q:PPs X b ks vs c) :
  PPs X b (some k::ks) (v::vs) ((f,g)::c):=fun a s e H Q I h=>
 pairTrees_cons_walk (thn (p a s e H _ I h) fun u D ⟨x,i,m,B,w⟩=>thn (r a D e i _ m w) fun G E ⟨y,j,n,C,z⟩=>
  thn (q a E e j _ n z) fun J F ⟨t,l,o,d,A⟩=>⟨(x,y)::t,l,o,.cons ⟨B,C⟩ d,A⟩)
noncomputable def mergeK(kvs more:List (Key×V)):List (Key×V):=more.foldl (fun acc kv=>putK acc kv.1 kv.2) kvs
theorem KV.merge:∀{more:List (Key×V)} {a:List (Key×Value)} {kvs:List (Key×V)} {vs:List (Key×Value)},KV more a->KV kvs vs->KV (mergeK kvs more) (merged vs a):=by
 intro more a kvs vs r;unfold KV at r
 induction r generalizing kvs vs with
 | nil=>intro q;exact q
 | @cons p q ps qs h t ih=>
  intro b;have e:KV (putK kvs p.1 p.2) (stored vs q.1 q.2):=by
   have:=b.put p.1 h.2;rw[<-h.1];exact this
  exact ih e
theorem qE:∀(more kvs:List (Key×V)),(mergeK kvs more).length<=kvs.length+more.length
 | [],kvs=>by show kvs.length<=kvs.length+0;lia
 | p::r,kvs=>by
  have a:=qE r (putK kvs p.1 p.2);have b:=zN kvs p.1 p.2;show(mergeK (putK kvs p.1 p.2) r).length<=_;rw[vQ];lia
theorem YT{P:Program}{w:World}:∀{kvs:List (Key×V)} {e:List (Value×Value)},VV (kvs.map fun kv=>(kV kv.1,kv.2)) e->∃d,Carries (mixKind P w) e d/\KV kvs d
 | [],_,r=>by rw[map_nil]at r;cases r;exact⟨[],True.intro,.nil⟩
 | p::kvs,_,r=>by
  rw[uy]at r;cases r with
  | @cons a b as bs h t=>
   obtain⟨d,c,q⟩:=YT (P:=P) (w:=w) t;obtain⟨g,f⟩:=b;exact⟨(p.1,f)::d,⟨Y4 h.1,rfl,c⟩,.cons ⟨rfl,h.2⟩ q⟩
def tDisp(trs:List (TE×TE)):TE:=fun σ H Q=>∀p,H p=none->tPairs trs σ (upd H p (.dK [])) fun ps H2=>H2 p=some (.dK [])/\∃kvs:List (Key×V),ps=kvs.map (fun kv=>(kV kv.1,kv.2))/\kvs.length<=15/\Q (.ref p) (upd H2 p (.dK (mergeK [] kvs)))
theorem j3e{X:Cx}{k:Pos}{b:List (Option Expr)}{d:List Expr}{l:List (TE×TE)}(h:PPs X k b d l)(g:b.all (·.isSome)=true)(B:b.length=d.length)(v:b≠[])
  (m:b.length<=15):PE X (.Dict b d k) (tDisp l):=by
 intro j s M H Q I q;have C:=I.hok.fresh (vb s.heap.objs.size);have r:=I.laid (a:=s.heap.objs.size) (o:=.dK []) (h':=s.heap.push {cls:=.type "dict",data:=.dict #[]}) (t':=s.toks) (fun _ _ q=>vJ _ q) (vb _) (Wl s.heap I.big);refine wpAny_Dict_walk (knd:=mixKind X.prog X.w) g B v m (thn (h j _ M _ _ r (q _ C)) fun T S ⟨R,N,p,n,e,i,u,O,F⟩=>?_);subst u;obtain⟨K,c,J⟩:=YT (P:=X.prog) (w:=X.w) n;obtain⟨z,y,L,G,t⟩:=YX p.hok e;cases G;refine⟨K,c,t,fun h' f D=>⟨.ref s.heap.objs.size,_,?_,rfl,F⟩⟩;have E:(mergeK [] i).length<=sizeLine:=by
  have x:=qE i [];rw[length_nil]at x;rw[sizeLine_eq];lia
 have A:∃q,h'.get? s.heap.objs.size=some q:=let ⟨q,_,_,hq,_⟩:=f;⟨q,hq⟩;exact ZY p (by rw[e];exact True.intro) D A (we E y (J.merge .nil) f)
section
variable{X:Cx}{pins:List (Addr×Obj)}{σ:St}{H:Hp}{s:Shared}{a:Addr}{y d:V}{u r:Value}{o:Option V}{A:Around}{E:Value->Shared->Prop}
end
section
variable{X:Cx}{o e f:Expr}{apos cpos:Pos}{td ty tx:TE}
end
section
variable{X:Cx}{pins:List (Addr×Obj)}{σ:St}{H:Hp}{s:Shared}{a:Addr}{kvs:List (Key×V)}{A:Around}{E:Value->Shared->Prop}
end
section
variable{X:Cx}{pins:List (Addr×Obj)}{σ:St}{H:Hp}{s:Shared}{a:Addr}{y:V}{u:Value}{A:Around}{E:Value->Shared->Prop}
end
section
variable{X:Cx}
end
section
variable{κ:Type}[DecidableEq κ]
theorem j2k{kvs:List (κ×V)}{k:κ}(h:valV kvs k=none):¬k∈kvs.map (·.1):=by
 intro m;obtain⟨p,a,e⟩:=vK.mp m;have q:(kvs.any fun kv=>decide (kv.1=k))=true:=any_eq_true.mpr ⟨p,a,vG e⟩;rw[Zd,h]at q;exact ud q (by simp)
theorem j3z{kvs:List (κ×V)}{k:κ}{v:V}(h:valV kvs k=some v):k∈kvs.map (·.1):=by
 have q:(kvs.any fun kv=>decide (kv.1=k))=true:=by
  rw[Zd,h]
  all_goals rfl
 obtain⟨p,a,e⟩:=any_eq_true.mp q;exact vK.mpr ⟨p,a,of_decide_eq_true e⟩
end
theorem compLoopT{R:Result->Shared->Prop}(I:Nat->Shared->Prop)
  (u:∀n s,I n s->wpAny (model prog w) A (pyNext it) (fun r b=>match r with
   | none=>R (.ok .next) b
   | some v=>wpAny (model prog w) A (letOwnedTupleGo target it v) (fun _ g=>wpAny (model prog w) A (assign target env v) (fun _ i=>
     wpAny (model prog w) A (forIn ifs true fun c r=>if r=true then do let t <-isTrue c env (eval c env);pure (ForInStep.yield t)else pure (ForInStep.yield r)) (fun t d=>
      if t=true then wpAny (model prog w) A (eval elt env) (fun x j=>
       wpAny (model prog w) A (call (.builtin "list.append") [acc,x]) (fun _ k=>∃m,m<n/\I m k) (fun _ _=>False) j) (fun _ _=>False) d
      else∃m,m<n/\I m d) (fun _ _=>False) i) (fun _ _=>False) g) (fun _ _=>False) b) (fun _ _=>False) s)
  (n:Nat) (h:I n s) :
  codeAny (model prog w) A (.compLoop (.ListComp elt [⟨target,iter,ifs,0⟩] scope pos) 0 it acc env) R s:=by
 refine codeAny_loop rfl I (fun n s y=>?_) n h;show wpAny _ A ((compTurn (.ListComp elt [⟨target,iter,ifs,0⟩] scope pos) 0 it acc env).onRaise (fun x=>do noteFrame x env;theTreesLotGoes x)) _ _ s;refine wpAny_noted ?_;rw[compTurn_list];refine uf (wpAny_standAt (uf (wpAny_mono (u n s y) (fun r b e=>?_) fun _ _ a=>a.elim)));cases r with
 | none=>exact ue e
 | some v=>
  refine uf (wpAny_mono e (fun _ g l=>?_) fun _ _ a=>a.elim);refine uf (wpAny_mono l (fun _ i o=>uf (wpAny_mono o (fun t d f=>?_) fun _ _ a=>a.elim)) fun _ _ a=>a.elim);cases t with
  | false=>exact ue ⟨rfl,f⟩
  | true=>
   exact uf (uf (wpAny_mono f (fun x j p=>uf (wpAny_mono p (fun _ k q=>ue (ue ⟨rfl,q⟩)) fun _ _ a=>a.elim)) fun _ _ a=>a.elim))
def PF(X:Cx)(ifs:List Expr)(t:TT):Prop:=
 ∀(pins:List (Addr×Obj)) (s:Shared) (σ:St) (H:Hp) (Q:Bool->Hp->Prop),Inv X pins σ H s->t σ H Q->
  wpAny (model X.prog X.w) X.A (forIn ifs true fun c r=>if r=true then do let ok <-isTrue c X.env (eval c X.env);pure (ForInStep.yield ok)else pure (ForInStep.yield r)) (TP X pins σ Q) X.xe s
def tYes:TT:=fun _ H Q=>Q true H
theorem Ju:PF X [] tYes:=fun _ _ _ H _ I h=>wpAny_tests_nil ⟨H,I,h⟩
theorem ZK(b:PT X c t):PF X [c] t:=fun a s d H Q I h=>wpAny_tests_one (b a s d H Q I h)
noncomputable def closL(env:Env):List (Str×NameKind)->List (Str×Addr)->List (Str×Addr)
 | [],acc=>acc
 | (n,k)::r,acc=>closL env r (if k == .free then(n,(env.cells.lookup n).getD 0)::acc else acc)
theorem ZW(h:∀y∈scope.names,y.2 = .free->∃c,env.cells.lookup y.1=some c):closureFor scope env=pure (closL env scope.names []):=by
 have l:∀(names:List (Str×NameKind)) (b:List (Str×Addr)),(∀y∈names,y.2 = .free->∃c,env.cells.lookup y.1=some c)->
   (forIn (m:=Sem) names b fun x r=>(match x with | (name,kind)=>if(kind == .free)=true then do let a <-cellOf env name;pure (ForInStep.yield ((name,a)::r))else pure (ForInStep.yield r)))=pure (closL env names b):=by
  intro names
  induction names with
  | nil=>intro b _;rfl
  | cons y r ih=>
   obtain⟨n,k⟩:=y;intro b d;rw[List.forIn_cons];cases hk:(k==NameKind.free)with
   | true=>
    have e:k = .free:=by simpa using hk
    obtain⟨c,i⟩:=d (n,k) vq e;have j:cellOf env n=pure c:=by unfold cellOf;rw[i]
    simp only[hk,if_true,j,pure_bind,closL,i,Option.getD_some];exact ih _ fun y f=>d y (vp _ f)
   | false=>
    simp only[hk,Bool.false_eq_true,if_false,pure_bind,closL];exact ih _ fun y f=>d y (vp _ f)
 have g:=l scope.names [] h;unfold closureFor;simp only[g,pure_bind]
theorem Ko:∀(names:List (Str×NameKind)) (a:List (Str×Addr)),(∀y∈names,y.2 = .free->∃c,env.cells.lookup y.1=some c)->(∀x c,a.lookup x=some c->env.cells.lookup x=some c)->
  ∀x c,(closL env names a).lookup x=some c->env.cells.lookup x=some c
 | [],_,_,ha,x,c,h=>ha x c h
 | (n,k)::r,a,hh,ha,x,c,h=>by
  refine Ko r _ (fun y f=>hh y (vp _ f)) (fun x c e=>?_) x c h;cases hk:(k==NameKind.free)with
  | false=>rw[hk]at e;exact ha x c e
  | true=>
   rw[hk]at e;have b:k = .free:=by simpa using hk
   obtain⟨g,d⟩:=hh (n,k) vq b;simp only[if_true,d,Option.getD_some]at e;rw[lookup_cons]at e;cases hx:(x==n)with
   | true=>
    rw[hx]at e;have:x=n:=by simpa using hx
    rw[this,d];exact e
   | false=>rw[hx]at e;exact ha x c e
theorem Kn:∀(names:List (Str×NameKind)) (a:List (Str×Addr)) (x:Str),(∃c,a.lookup x=some c)->∃c,(closL env names a).lookup x=some c
 | [],_,_,h=>h
 | (n,k)::r,a,x,h=>by
  refine Kn r _ x ?_;cases hk:(k==NameKind.free)with
  | false=>exact h
  | true=>
   simp only[if_true];rw[lookup_cons];cases hx:(x==n)with
   | true=>exact⟨_,rfl⟩
   | false=>exact h
theorem yF:∀(names:List (Str×NameKind)) (a:List (Str×Addr)) (x:Str),(x,NameKind.free)∈names->∃c,(closL env names a).lookup x=some c
 | [],_,_,h=>by simp at h
 | (n,k)::r,a,x,h=>by
  rcases mem_cons.mp h with e | h
  ·cases e;refine Kn r _ _ ?_;simp
  ·exact yF r _ x h
theorem Qe{env:Env}:∀{names:List (Str×NameKind)} {x:Str} {k:NameKind},(names.map fun(n,k)=>if(k==NameKind.free&&env.scope.kind == .function&&env.kindOf n==some .cell)then(n,NameKind.cell)else(n,k)).lookup x=some k->
  ∃b,(x,b)∈names/\names.lookup x=some b/\(b=k\/(b = .free/\k = .cell))
 | [],_,_,h=>by simp at h
 | (n,k₀)::r,x,k,h=>by
  have i:=@Qe env r x k;rw[uy]at h;dsimp only at h;cases hx:x==n with
  | true=>
   have e:x=n:=by simpa using hx
   subst e;refine⟨k₀,vq,by simp,?_⟩;by_cases a:(k₀==NameKind.free&&env.scope.kind == .function&&env.kindOf x==some .cell)=true
   ·rw[vd a]at h;simp only[lookup_cons,beq_self_eq_true]at h;simp only[Bool.and_eq_true,beq_iff_eq]at a;exact .inr ⟨a.1.1,(vL h).symm⟩
   ·rw[vc a]at h;simp only[lookup_cons,beq_self_eq_true]at h;exact .inl (vL h)
  | false=>
   have c:(r.map fun(n,k)=>if(k==NameKind.free&&env.scope.kind == .function&&env.kindOf n==some .cell)then(n,NameKind.cell)else(n,k)).lookup x=some k:=by
    by_cases a:(k₀==NameKind.free&&env.scope.kind == .function&&env.kindOf n==some .cell)=true
    ·rw[vd a]at h;simpa only[lookup_cons,hx]using h
    ·rw[vc a]at h;simpa only[lookup_cons,hx]using h
   obtain⟨b,d,f,g⟩:=i c;exact⟨b,vp _ d,by simpa only[lookup_cons,hx]using f,g⟩
theorem yE:∀(names:List (Str×NameKind)) (n:Nat) (a:List (Str×Addr)) (x:Str) (c:Addr),(cellsFrom n names a).lookup x=some c->n<=c\/a.lookup x=some c
 | [],_,_,_,_,h=>.inr h
 | (y,k)::r,n,a,x,c,h=>by
  unfold cellsFrom at h;split at h
  ·rcases yE r (n+1) _ x c h with q | q
   ·exact .inl (by lia)
   ·rw[lookup_cons]at q;cases hx:x==y with
    | true=>rw[hx]at q;cases q;exact .inl (vb _)
    | false=>rw[hx]at q;exact .inr q
  ·exact yE r n a x c h
theorem xa:∀(names:List (Str×NameKind)) (n:Nat) (a:List (Str×Addr)),(∀x c,a.lookup x=some c->c<n)->(∀x y c,a.lookup x=some c->a.lookup y=some c->x=y)->
  ∀x y c,(cellsFrom n names a).lookup x=some c->(cellsFrom n names a).lookup y=some c->x=y
 | [],_,_,_,hi,x,y,c,h1,h2=>hi x y c h1 h2
 | (z,k)::r,n,a,hb,hi,x,y,c,h1,h2=>by
  unfold cellsFrom at h1 h2;split at h1
  ·rename_i hk;rw[vd hk]at h2;refine xa r (n+1) _ (fun x c e=>?_) (fun x y c d b=>?_) x y c h1 h2
   ·rw[lookup_cons]at e;cases hx:x==z with
    | true=>rw[hx]at e;cases e;exact Nat.lt_succ_self _
    | false=>rw[hx]at e;exact Nat.lt_succ_of_lt (hb x c e)
   ·rw[lookup_cons]at d b;cases hx:x==z with
    | true=>
     rw[hx]at d;cases d;cases hy:y==z with
     | true=>rw[beq_iff_eq.mp hx,beq_iff_eq.mp hy]
     | false=>rw[hy]at b;exact ud (hb y n b) (Nat.lt_irrefl _)
    | false=>
     rw[hx]at d;cases hy:y==z with
     | true=>rw[hy]at b;cases b;exact ud (hb x n d) (Nat.lt_irrefl _)
     | false=>rw[hy]at b;exact hi x y c d b
  ·rename_i hk;rw[vc hk]at h2;exact xa r n a hb hi x y c h1 h2
theorem K4:∀(names:List (Str×NameKind)) (n:Nat) (a:List (Str×Addr)) (x:Str),(∃c,a.lookup x=some c)->∃c,(cellsFrom n names a).lookup x=some c
 | [],_,_,_,h=>h
 | (y,k)::r,n,a,x,h=>by
  unfold cellsFrom;split
  ·refine K4 r (n+1) _ x ?_;rw[lookup_cons];cases hx:x==y with
   | true=>exact⟨_,rfl⟩
   | false=>exact h
  ·exact K4 r n a x h
theorem W9:∀(names:List (Str×NameKind)) (n:Nat) (a:List (Str×Addr)) (x:Str),(x,NameKind.cell)∈names->∃c,(cellsFrom n names a).lookup x=some c
 | [],_,_,_,h=>by simp at h
 | (y,k)::r,n,a,x,h=>by
  unfold cellsFrom;rcases mem_cons.mp h with e | h
  ·cases e;simp only[beq_self_eq_true,if_true];exact K4 r _ _ _ (by simp)
  ·split
   ·exact W9 r _ _ x h
   ·exact W9 r _ _ x h
theorem xc:∀(names:List (Str×NameKind)) (n:Nat) (a:List (Str×Addr)) (x:Str),(x,NameKind.cell)∉names->(cellsFrom n names a).lookup x=a.lookup x
 | [],_,_,_,_=>rfl
 | (y,k)::r,n,a,x,h=>by
  have b:(x,NameKind.cell)∉r:=fun q=>h (vp _ q)
  unfold cellsFrom;split
  ·rename_i hk;rw[xc r _ _ x b,lookup_cons];cases hx:x==y with
   | true=>rw[beq_iff_eq.mp hx,beq_iff_eq.mp hk]at h;exact ud vq h
   | false=>rfl
  ·exact xc r n a x b
theorem xb:∀(names:List (Str×NameKind)) (a n:Nat) (b:List (Str×Addr)) (x:Str) (c:Addr),a<=n->((x,NameKind.cell)∈names\/∀c,b.lookup x=some c->a<=c)->(cellsFrom n names b).lookup x=some c->a<=c
 | [],_,_,_,_,c,_,h,e=>h.elim (fun z=>by simp at z) fun z=>z c e
 | (y,k)::r,a,n,b,x,c,hn,h,e=>by
  unfold cellsFrom at e;split at e
  ·refine xb r a (n+1) _ x c (by lia) ?_ e;rcases h with h | h
   ·rcases mem_cons.mp h with q | q
    ·cases q;exact .inr fun c q=>by rw[lookup_cons,beq_self_eq_true]at q;cases q;exact hn
    ·exact .inl q
   ·refine .inr fun c q=>?_
    rw[lookup_cons]at q;cases hx:x==y with
    | true=>rw[hx]at q;cases q;exact hn
    | false=>rw[hx]at q;exact h c q
  ·rename_i hk;refine xb r a n b x c hn ?_ e;rcases h with h | h
   ·rcases mem_cons.mp h with q | q
    ·cases q;exact ud rfl hk
    ·exact .inl q
   ·exact .inr h
theorem YU:∀(names:List (Str×NameKind)) (h:Heap) (a:List (Str×Addr)) (x:Str) (c:Addr),(cellsFrom h.objs.size names a).lookup x=some c->a.lookup x=some c\/(pushCells h names).IsCell c none
 | [],_,_,_,_,e=>.inl e
 | (y,k)::r,h,a,x,c,e=>by
  unfold cellsFrom at e;unfold pushCells;split
  ·rename_i hk;rw[vd hk]at e;rw[<-Heap.size_push h {cls:=.type "cell",data:=.cell none}]at e;rcases YU r _ _ x c e with q | q
   ·rw[lookup_cons]at q;cases hx:x==y with
    | true=>
     rw[hx]at q;cases q;exact .inr ⟨_,pushCells_keeps _ _ _ _ (Heap.get?_push_size _ rfl),rfl⟩
    | false=>rw[hx]at q;exact .inl q
   ·exact .inr q
  ·rename_i hk;rw[vc hk]at e;exact YU r h a x c e
theorem envC{E:Value->Shared->Prop}{Q:Env->Shared->Prop}
  (h:Q (newEnv scope s.heap.objs.size globals (cellsFrom (s.heap.objs.size+1) scope.names cl) qual none .none (some env) builtinsNs) {s with heap:=pushCells (s.heap.push {cls:=.type "dict",data:=.dict #[]}) scope.names}) :
  wpAny M A (newFunctionEnv scope globals cl [] qual none .none (some env)) Q E s:=by
 simp only[newFunctionEnv,Option.isSome_some,if_true];refine uf (wpAny_alloc ?_);refine uf (wpAny_layCells _ (fun c a b=>by cases hkc:a==NameKind.cell<;>simp[hkc]) _ _ _ _ ?_);rw[show({s with heap:=s.heap.push {cls:=.type "dict",data:=.dict #[]}}:Shared).heap.objs.size=s.heap.objs.size+1 from Heap.size_push ..];rw[List.forIn_nil];exact uf (ue (ue h))
noncomputable def blk(X:Cx)(scope:Scope)(ow:List Str)(ci:List Nat)(C:Addr)(s₀:Shared)(H₀:Hp)(ex:List Addr)(pn:List (Addr×Obj)):Cx:=
 {X with N:=ow++ci.map fun j=>X.N.getD j "",s₀:=s₀,H₀:=H₀,env:=compEnvC scope (cellsFrom (C+1) scope.names (closL X.env scope.names [])) C X.env,outer:=X.stack,stack:=X.stack,ex:=ex,fn:=fun x=>scope.names.lookup x==some .cell,pn:=pn,xe:=fun _ _=>False}
structure CompScope(X:Cx)(scope:Scope)(ow:List Str)(ci:List Nat):Prop where
 kind:scope.kind = .function
 cell:∀y∈scope.names,y.2 = .cell->scope.names.lookup y.1=some .cell
 names:∀y∈scope.names,y.2 = .local->scope.names.lookup y.1=some .local
 free:∀y∈scope.names,y.2 = .free->X.env.kindOf y.1=some .cell\/X.env.kindOf y.1=some .free
 ix:∀j∈ci,j<X.N.length/\scope.names.lookup (X.N.getD j "")=some .free
noncomputable def compOk(fsc:Scope)(N:List Str)(scope:Scope)(ci:List Nat):Bool:=
 scope.kind == .function&&scope.names.all (fun y=>y.2 != .cell||scope.names.lookup y.1==some .cell)&&scope.names.all (fun y=>y.2 != .local||scope.names.lookup y.1==some .local) &&
 scope.names.all (fun y=>y.2 != .free||fsc.names.lookup y.1==some .cell||fsc.names.lookup y.1==some .free)&&ci.all (fun j=>decide (j<N.length)&&scope.names.lookup (N.getD j "")==some .free)
theorem CompScope.of(a:Scope)(N:List Str)(c:X.env.scope=a)(d:X.N=N)(h:compOk a N scope ci=true):CompScope X scope ow ci:=by
 subst c d;unfold compOk at h;simp only[Bool.and_eq_true,all_eq_true,Bool.or_eq_true,bne_iff_ne,ne_eq,beq_iff_eq,decide_eq_true_eq]at h;obtain⟨⟨⟨⟨f,g⟩,i⟩,k⟩,l⟩:=h;refine⟨f,fun y b e=>(g y b).resolve_left fun z=>z e,fun y b e=>?_,fun y b e=>?_,fun j m=>l j m⟩
 ·rcases i y b with z | z
  ·exact ud e z
  ·exact z
 ·rcases k y b with(z | z) | z
  ·exact ud e z
  ·exact .inl z
  ·exact .inr z
theorem jJ{a:Hp}(N:List Str)(e:X.N=N)(h:(ow++ci.map fun j=>N.getD j "").Nodup):(blk X scope ow ci C s₀ a ex pn).N.Nodup:=by
 subst e;exact h
theorem Y7{env:Env}:∀{names:List (Str×NameKind)} {x:Str},(names.lookup x=some .cell\/names.lookup x=some .free)->
  (names.map fun(n,k)=>if(k==NameKind.free&&env.scope.kind == .function&&env.kindOf n==some .cell)then(n,NameKind.cell)else(n,k)).lookup x=some .cell\/
  (names.map fun(n,k)=>if(k==NameKind.free&&env.scope.kind == .function&&env.kindOf n==some .cell)then(n,NameKind.cell)else(n,k)).lookup x=some .free
 | [],_,h=>by simp at h
 | (n,k)::r,x,h=>by
  have b:=@Y7 env r x;rw[uy];dsimp only;cases hx:x==n with
  | true=>
   simp only[lookup_cons,hx]at h;by_cases a:(k==NameKind.free&&env.scope.kind == .function&&env.kindOf n==some .cell)=true
   ·rw[vd a];exact .inl (by simp only[lookup_cons,hx])
   ·rw[vc a];simp only[lookup_cons,hx];exact h
  | false=>
   simp only[lookup_cons,hx]at h;by_cases a:(k==NameKind.free&&env.scope.kind == .function&&env.kindOf n==some .cell)=true
   ·rw[vd a];simp only[lookup_cons,hx];exact b h
   ·rw[vc a];simp only[lookup_cons,hx];exact b h
theorem CompScope.ofB{X:Cx}{a d:Scope}{c ow:List Str}{b ci:List Nat}{C:Addr}{g:Shared}{f:Hp}{k:List Addr}{pn:List (Addr×Obj)}(N:List Str)(e:(blk X a c b C g f k pn).N=N)
  (h:compOk a N d ci=true):CompScope (blk X a c b C g f k pn) d ow ci:=by
 unfold compOk at h;simp only[Bool.and_eq_true,all_eq_true,Bool.or_eq_true,bne_iff_ne,ne_eq,beq_iff_eq,decide_eq_true_eq]at h;obtain⟨⟨⟨⟨l,m⟩,n⟩,o⟩,p⟩:=h;refine⟨l,fun y i e=>(m y i).resolve_left fun z=>z e,fun y i e=>(n y i).resolve_left fun z=>z e,fun y i q=>?_,fun j r=>by rw[e];exact p j r⟩;refine Y7 ?_;rcases o y i with(z | z) | z
 ·exact ud q z
 ·exact .inl z
 ·exact .inr z
noncomputable def capAt(σ:St)(j:Nat):Option V:=match σ[j]? with | some o=>o | none=>none
noncomputable def capS(n:Nat)(ci:List Nat)(σ:St):St:=List.replicate n none++ci.map (capAt σ)
def tComp(wi:TI)(n:Nat)(ci:List Nat)(g:TG)(tf:TT)(te:TE):TE:=fun σ H Q=>wi σ H fun J H1=>∃W:Nat->Nat->List V->Hp->Prop,(∃m,W 0 m [] H1)/\∀i m ys H,W i m ys H->
 (J.stop i H/\ys.length<=sizeLine/\∀p,H p=none->Q (.ref p) (upd H p (.lst ys)))\/
 (J.go i H/\∃N:List V->Hp->Prop,(∀ys' H',N ys' H'->∃m',m'<m/\W (i+1) m' ys' H')/\∀x H',J.yld i H x H'->g x (capS n ci σ) H' fun σ2 H2=>tf σ2 H2 fun b H3=>
  if b=true then te σ2 H3 fun v H4=>ys.length<sizeLine/\N (ys++[v]) H4 else N ys H3)
section
variable{X:Cx}{pins:List (Addr×Obj)}{σ:St}{H:Hp}{s:Shared}{elt iter tg:Expr}{ifs:List Expr}{scope:Scope}{pos:Pos}{ow:List Str}{ci:List Nat}{g:TG}{tf:TT}{te:TE}
theorem CompScope.cells(S:CompScope X scope ow ci)(b:X.Ok):∀y∈scope.names,y.2 = .free->∃c,X.env.cells.lookup y.1=some c:=fun y a e=>b.has y.1 (S.free y a e)
theorem CompScope.sub(S:CompScope X scope ow ci)(a:X.Ok):∀x c,(closL X.env scope.names []).lookup x=some c->X.env.cells.lookup x=some c:=
 Ko scope.names [] (S.cells a) fun _ _ e=>by simp at e
theorem CompScope.cel(S:CompScope X scope ow ci)(a:X.Ok)(h:(cellsFrom (C+1) scope.names (closL X.env scope.names [])).lookup x=some c):C+1<=c\/X.env.cells.lookup x=some c:=
 (yE _ _ _ _ _ h).imp id (S.sub a x c)
theorem j3W(S:CompScope X scope ow ci)(I:Inv X pins σ H s)(f:s.heap.objs.size<=C)
  (a:∀b∈ex,b<s.heap.objs.size/\FpOk X pins H b):(blk X scope ow ci C s H ex pn).Ok where
 mod:=I.ok.mod
 kind:=S.kind
 glob:=I.ok.glob
 blt:=I.ok.blt
 above:=f
 inj:=xa scope.names (C+1) _ (fun x c e=>by
   obtain⟨v,q⟩:=I.cell x c (S.sub I.ok x c e);exact Nat.lt_succ_of_le (vY (Nat.lt_of_lt_of_le q.lt f))) fun x y c i j=>I.ok.inj x y c (S.sub I.ok x c i) (S.sub I.ok y c j)
 has:=fun x h=>by
  have n:∃k,(relabel scope X.env).names.lookup x=some k/\(k = .cell\/k = .free):=by
   rcases h with h | h
   ·exact⟨_,h,.inl rfl⟩
   ·exact⟨_,h,.inr rfl⟩
  obtain⟨k,t,r⟩:=n;obtain⟨m,l,_,e⟩:=Qe (env:=X.env) t;have g:m = .cell\/m = .free:=by
   rcases e with e | ⟨e,_⟩
   ·subst e;exact r
   ·exact .inr e
  rcases g with g | g
  ·subst g;exact W9 scope.names _ _ x l
  ·subst g;exact K4 scope.names _ _ x (yF scope.names [] x l)
 cab:=fun x c h e=>vW (vW f (Nat.le_succ _)) (xb scope.names (C+1) (C+1) _ x c (vb _) (.inl (PySem.mem_of_lookup (beq_iff_eq.mp h))) e)
 hd:=I.ok.hd
 frames:=I.ok.frames
 stk:=.inl rfl
 exf:=fun b d=>⟨vE (Nat.lt_of_lt_of_le (a b d).1 f),fun x c e=>(S.cel I.ok e).elim (fun q z=>Nat.lt_irrefl _ (Nat.lt_of_lt_of_le (z▸(a b d).1) (vW f (vW (Nat.le_succ _) q)))) fun q=>(a b d).2.2.2.2.2.1 x c q⟩
 bs:=I.bs
 bsz:=vW I.ok.bsz I.sz
 noex:=fun b o e d=>by
  obtain⟨_,_,_,p,_⟩:=(a b d).2;rcases p with z | z
  ·exact I.ok.noex b o e z
  ·exact ud (Nat.lt_of_lt_of_le (vI e) (vW I.ok.bsz z)) (Nat.lt_irrefl _)
 exfs:=fun b d z=>by
  obtain⟨_,i,j,_⟩:=(a b d).2;rcases mem_cons.mp (I.stkSub b z)with e | e
  ·exact i e
  ·exact j e
 funs:=I.stack
 frf:=I.stkFree
theorem XW(S:CompScope X scope ow ci)(I:Inv X pins σ H s){h:Str->Option Value}(D:s.heap.objs.size<=C)
  (F:∀b∈ex,b<s.heap.objs.size/\FpOk X pins H b) (Z:h₁.Ns C h) (k:∀b o,s.heap.get? b=some o->h₁.get? b=some o)
  (A:∀x c,(cellsFrom (C+1) scope.names (closL X.env scope.names [])).lookup x=some c->(closL X.env scope.names []).lookup x=some c\/h₁.IsCell c none) :
  Inv (blk X scope ow ci C s H ex (X.pn++pins)) [] (capS ow.length ci σ) H {s with heap:=h₁,toks:=t₁}:=by
 have ok:=j3W (pn:=X.pn++pins) S I D F;refine⟨ok,rfl,I.bare,Un.kept k,⟨h,Z,fun i x v Q f R=>?_⟩,fun x c e=>?_,I.hok.fresh D,fun x c e=>(S.cel I.ok e).elim (fun q=>I.hok.fresh (vW D (vW (Nat.le_succ _) q))) (I.freeC x c),fun p hp=>?_,I.hok.kept k,?_⟩
 ·have l:(ow++ci.map fun j=>X.N.getD j "")[i]?=some x:=Q;unfold capS at f;by_cases G:i<ow.length
  ·rw[vB (by simpa using G),List.getElem?_replicate,vd G]at f;cases f
  ·rw[vC (by simpa using G),vv,List.length_replicate]at f;rw[vC (by lia),vv]at l;cases hj:ci[i-ow.length]? with
   | none=>rw[hj]at f;cases f
   | some j=>
    rw[hj]at l f;obtain⟨Y,E⟩:=S.ix j (vm hj);have w:X.N.getD j ""= x:=vL l;have T:X.N[j]?=some x:=by
     rw[<-w,vy,vz Y];rfl
    have U:σ[j]?=some (some v):=by
     have a:capAt σ j=some v:=vL f;unfold capAt at a;cases q:σ[j]? with
     | none=>rw[q]at a;cases a
     | some o=>rw[q]at a;rw[show o=some v from a]
    rw[w]at E;have g:(x,NameKind.free)∈scope.names:=PySem.mem_of_lookup E;have N:=S.free _ g rfl;obtain⟨m,_,J⟩:=I.loc;have L:Vis X.env.scope x:=by
     rcases N with q | q
     ·exact .inr (.inl q)
     ·exact .inr (.inr q)
    obtain⟨u,r,lk⟩:=J j x v T U L;refine⟨u,r,.inr ⟨?_,?_⟩⟩
    ·rcases R with q | q | q
     ·obtain⟨k',_,M,B⟩:=Qe (env:=X.env) q;rw[E]at M;cases M;rcases B with B | ⟨_,B⟩<;>cases B
     ·exact .inl q
     ·exact .inr q
    ·rcases lk with⟨q,_⟩ | ⟨_,c,W,t⟩
     ·have O:X.env.kindOf x=some .local:=q;rcases N with z | z<;>(rw[z]at O;cases O)
     ·obtain⟨P,y⟩:=yF (env:=X.env) scope.names [] x g;have e:=S.sub I.ok x P y;rw[W]at e;cases e;refine⟨c,?_,t.keeps k⟩;show(cellsFrom (C+1) scope.names (closL X.env scope.names [])).lookup x=some c;rw[xc scope.names _ _ x fun z=>?_]
      ·exact y
      ·have:=S.cell _ z rfl;rw[E]at this;cases this
 ·rcases A x c e with q | q
  ·obtain⟨v,q⟩:=I.cell x c (S.sub I.ok x c q);exact⟨v,q.keeps k⟩
  ·exact⟨_,q⟩
 ·have K:p∈X.pn++pins:=by
   rcases vh.mp hp with z | z
   ·exact z
   ·cases z
  obtain⟨e,n,ne,nf,d⟩:=I.pin p K;refine⟨k _ _ e,n,vE (Nat.lt_of_lt_of_le (vI e) D),fun z=>?_,d⟩;rcases mem_cons.mp (I.stkSub p.1 z)with q | q
  ·exact ne q
  ·exact nf q
 ·show(capS ow.length ci σ).length=(ow++ci.map fun j=>X.N.getD j "").length;simp[capS]
theorem Inv.forget{σ':St}(I:Inv X pins σ' H s)(n:Nat)(ci:List Nat)(a:St)(c:(capS n ci a).length=X.N.length)(h:∀i v,n<=i->(capS n ci a)[i]?=some (some v)->σ'[i]?=some (some v)):Inv X pins (capS n ci a) H s:=
 I.weak (by rw[c,I.len]) fun i v e=>by
  by_cases b:n<=i
  ·exact h i v b e
  ·unfold capS at e;rw[vB (by simpa using b),List.getElem?_replicate,vd (by lia)]at e;cases e
def GKeeps(n:Nat)(g:TG):Prop:=∀x σ H (Q:St->Hp->Prop),g x σ H Q->g x σ H fun σ2 H2=>(∀(i:Nat) v,n<=i->σ[i]?=some (some v)->σ2[i]?=some (some v))/\Q σ2 H2
theorem jY(h:i<n):GKeeps n (gName i):=fun x b H Q q=>⟨fun j v a e=>by rw[List.getElem?_set_ne (by lia)];exact e,q⟩
theorem Zm{K:Frg}{n i j:Nat}(hi:i<n)(p:j<n):GKeeps n (gTup K 2 (gCons (gName i) (gCons (gName j) gNil))):=fun x t H Q q=>by
 obtain⟨a,o,b,c,d,v,r,f,m,l,g,h,q⟩:=q;refine⟨a,o,b,c,d,v,r,f,m,l,g,h,fun k u s e=>?_,q⟩;rw[List.getElem?_set_ne (by lia),List.getElem?_set_ne (by lia)];exact e
theorem YV{E:Value->Shared->Prop}{tn:Nat->Heap->Prop}{RR:Value->Addr->Result->Shared->Prop}(hc:X.calm=true)(S:CompScope X scope ow ci)(hk:GKeeps ow.length g)
  (a:∀C F y ex pn,PG (blk X scope ow ci C F y ex pn) tg g/\PF (blk X scope ow ci C F y ex pn) ifs tf/\PE (blk X scope ow ci C F y ex pn) elt te)
  (I:Inv X pins σ H s) (T:Turn X.prog X.w X.K tg J fp it tn) (st:tn 0 s.heap) (hf:∀b∈fp,FpOk X pins H b) (Z:List V->Hp->Prop)
  (W:Nat->Nat->List V->Hp->Prop) (w0:∃m,W 0 m [] H)
  (aP:∀i m ys H,W i m ys H->(J.stop i H/\ys.length<=sizeLine/\Z ys H)\/
   (J.go i H/\∃N:List V->Hp->Prop,(∀aQ H',N aQ H'->∃m',m'<m/\W (i+1) m' aQ H')/\∀x H',J.yld i H x H'->g x (capS ow.length ci σ) H' fun aR H2=>tf aR H2 fun b H3=>
    if b=true then te aR H3 fun v H4=>ys.length<sizeLine/\N (ys++[v]) H4 else N ys H3))
  (aY:∀D C s' H' m ys,Inv X pins σ (upd H' D (.lst ys)) s'->H' D=none->Z ys H'->s'.heap.Ns C m->s.heap.objs.size<=C->C≠D->H' C=none->RR (.ref D) C (.ok .next) s') :
  wpAny (model X.prog X.w) X.A (newList []) (fun an aN=>wpAny (model X.prog X.w) X.A (newFunctionEnv scope X.env.globals (closL X.env scope.names []) [] X.env.qual none .none (some X.env)) (fun a6 aO=>
   codeAny (model X.prog X.w) X.A (.compStart (.ListComp elt [⟨tg,iter,ifs,0⟩] scope pos) 0 (.ref it) an {a6 with scope:=relabel scope X.env}) (RR an a6.locals) aO) E aN) E s:=by
 refine wpAny_newObj_type (envC ?_);dsimp only;generalize O:({s with heap:=s.heap.push {cls:=.type "list",dict:=none,data:=.seq ([]:List Value).toArray}}:Shared)=s3;have e3:s3.heap=s.heap.push {cls:=.type "list",dict:=none,data:=.seq ([]:List Value).toArray}:=by rw[<-O]
 rw[<-e3];generalize ad:pushCells (s3.heap.push {cls:=.type "dict",data:=.dict #[]}) scope.names=h₁;have k3:∀b o,s.heap.get? b=some o->s3.heap.get? b=some o:=fun b o e=>by rw[e3];exact vJ _ e
 have hsz:s3.heap.objs.size=s.heap.objs.size+1:=by rw[e3,Heap.size_push]
 have I3:Inv X pins σ H s3:=by rw[<-O];exact I.kept (t':=s.toks) fun b o e=>vJ _ e
 have b4:s3.heap.get? s.heap.objs.size=some {cls:=.type "list",dict:=none,data:=.seq ([]:List Value).toArray}:=by rw[e3];exact Heap.get?_push_size _ rfl
 generalize ac:s.heap.objs.size=D at *;generalize l:s3.heap.objs.size=C at *;have A:D<C:=by lia
 have ar:H D=none:=I.hok.fresh (Nat.le_of_eq ac);have aZ:FpOk X pins H D:=I.fpOk (Nat.le_of_eq ac) ar;have ae:∀(b:Addr) o,s.heap.get? b=some o->b<D:=fun b o e=>by rw[<-ac];exact vI e
 have bd:∀(b:Addr) o,s3.heap.get? b=some o->b<C:=fun b o e=>by rw[<-l];exact vI e
 have a8:∀b∈fp,b<D:=fun b a=>by
  obtain⟨o,e,_⟩:=T.obj 0 _ st b a;exact ae b o e
 have G:∀b∈D::fp,b<s3.heap.objs.size/\FpOk X pins H b:=fun b a=>by
  rw[l];rcases mem_cons.mp a with rfl | a
  ·exact⟨A,aZ⟩
  ·exact⟨Nat.lt_trans (a8 b a) A,hf b a⟩
 have kk:∀b o,s3.heap.get? b=some o->h₁.get? b=some o:=fun b o e=>by rw[<-ad];exact pushCells_keeps _ _ b o (vJ _ e)
 have M:h₁.Ns C fun _=>none:=by rw[<-ad,<-l];exact(Heap.Ns.new s3.heap (.type "dict")).keeps (pushCells_keeps _ _)
 have ay:∀x c,(cellsFrom (C+1) scope.names (closL X.env scope.names [])).lookup x=some c->(closL X.env scope.names []).lookup x=some c\/h₁.IsCell c none:=fun x c e=>by
  rw[<-ad];refine YU scope.names _ _ x c ?_;rw[Heap.size_push,l];exact e
 obtain⟨hg,av,he⟩:=a C s3 H (D::fp) (X.pn++pins);generalize w:blk X scope ow ci C s3 H (D::fp) (X.pn++pins)=Y at hg av he;have f:Y.prog=X.prog:=by rw[<-w];rfl
 have Yw:Y.w=X.w:=by rw[<-w];rfl
 have YK:Y.K=X.K:=by rw[<-w];rfl
 have YA:Y.A=X.A:=by rw[<-w];rfl
 have Yc:Y.calm=true:=by rw[<-w];exact hc
 have h:Y.env=compEnvC scope (cellsFrom (C+1) scope.names (closL X.env scope.names [])) C X.env:=by rw[<-w];rfl
 have aa:Y.xe=fun _ _=>False:=by rw[<-w];rfl
 have am:Y.fs=frs X.stack:=by rw[<-w];rfl
 have al:Y.ex=D::fp:=by rw[<-w];rfl
 have aW:Y.pn=X.pn++pins:=by rw[<-w];rfl
 have Ys:Y.s₀=s3:=by rw[<-w];rfl
 have YH:Y.H₀=H:=by rw[<-w];rfl
 have YN:(capS ow.length ci σ).length=Y.N.length:=by rw[<-w];show(capS ow.length ci σ).length=(ow++ci.map fun j=>X.N.getD j "").length;simp[capS]
 have af:∀b∈D::fp,b≠Y.env.locals/\b∉Y.fs/\b∈Y.ex/\(∀x c,Y.env.cells.lookup x=some c->c≠b)/\∀p∈Y.pn,p.1≠b:=fun b a=>by
  obtain⟨h0,h1,h2,h3,h4,h5⟩:=(G b a).2;refine⟨by rw[h];exact vE (l▸(G b a).1),fun z=>?_,by rw[al];exact a,fun x c e=>?_,by rw[aW];exact h5⟩
  ·rw[am]at z;rcases mem_cons.mp (I.stkSub b z)with q | q
   ·exact h1 q
   ·exact h2 q
  ·rw[h]at e;rcases S.cel I.ok e with q | q
   ·exact fun z=>Nat.lt_irrefl _ (Nat.lt_of_lt_of_le (l▸(G b a).1) (vW (Nat.le_succ _) (z▸q)))
   ·exact h4 x c q
 have aE:D∉fp:=fun z=>Nat.lt_irrefl _ (a8 D z)
 have aC:∀s4:Shared,Inv Y [] (capS ow.length ci σ) H s4->tn 0 s4.heap->s4.heap.PlainList D #[]->
   codeAny (model X.prog X.w) X.A (.compLoop (.ListComp elt [⟨tg,iter,ifs,0⟩] scope pos) 0 (.ref it) (.ref D) (compEnvC scope (cellsFrom (C+1) scope.names (closL X.env scope.names [])) C X.env)) (RR (.ref D) C) s4:=by
  intro s4 J4 Q ag;obtain⟨m0,w0⟩:=w0;refine compLoopT (fun n s'=>∃i ys k H',Inv Y [] (capS ow.length ci σ) H' s'/\tn i s'.heap/\(∀b∈fp,H' b=none)/\H' D=none/\s'.heap.PlainList D k/\Vals ys k.toList/\W i n ys H') ?_ m0
   ⟨0,[],#[],H,J4,Q,fun b a=>(hf b a).1,ar,ag,.nil,w0⟩
  rintro n s5 ⟨i,ys,k,U,J5,aK,ap,t,⟨aH,b9⟩,R,w5⟩;have vl:ys.length=k.size:=by have:=R.length;simpa using this
  have aF:∀{H':Hp} {s':Shared} {ai:St},Inv Y [] ai H' s'->H' D=none->∀{o:Obj},s'.heap.get? D=some o->(∀v,o.data≠.cell v)->Inv Y [(D,o)] ai H' s':=fun {H' s' ai} K hD o e d=>
   K.pins_of fun p hp=>by
    have ep:p=(D,o):=by simpa using hp
    subst ep;obtain⟨a1,a2,_⟩:=af D vq;exact⟨e,hD,a1,a2,d⟩
  have P5:=aF J5 t b9 (fun v z=>by cases z);have ab:∀{H':Hp},(∀b∈fp,H' b=none)->∀{o:Obj},∀b∈fp,FpOk Y [(D,o)] H' b:=fun {H'} hn {o} b a=>by
   obtain⟨a1,a2,a3,a4,a5⟩:=af b (vp _ a);refine⟨hn b a,a1,a2,.inl a3,a4,fun p hp=>?_⟩;rcases vh.mp hp with q | q
   ·exact a5 p q
   ·have ep:p=(D,o):=by simpa using q
    subst ep;exact fun z=>aE (by have z':D=b:=z;rw[z'];exact a)
  rcases aP i n ys U w5 with⟨aM,aB,z5⟩ | ⟨go,NN,as,aL⟩
  ·have d:=T.done Y f Yw YK Yc i [(D,_)] s5 _ U (fun _ _=>False) P5 (ab ap) aK aM;rw[YA]at d;refine thn d fun r s6 ⟨hr,J6⟩=>?_
   subst hr;have D6:=(J6.pin (D,_) (mem_append_right _ vq)).1;obtain⟨mC,aw,_⟩:=J6.loc;rw[h]at aw;have ax:s6.heap.Ns C mC:=aw;have b3:U C=none:=by have:=J6.free;rw[h]at this;exact this
   refine aY D C s6 U mC ys ?_ t z5 ax (vY A) (Nat.ne_of_gt A) b3;have B:=J6.base;rw[am,al,YH,Ys]at B;have aD:∀b o,s.heap.get? b=some o->b≠D/\b≠C:=fun b o e=>⟨vE (ae b o e),vE (Nat.lt_trans (ae b o e) A)⟩
   have P:∀b o,s.heap.get? b=some o->b∉fp->b∉D::fp:=fun b o e a z=>by
    rcases mem_cons.mp z with q | q
    ·exact(aD b o e).1 q
    ·exact a q
   have uN:Un (frs X.stack) fp H (upd U D (.lst ys)) s.heap s6.heap:=by
    refine⟨fun b o e n a hx=>B.keep b o (k3 b o e) n a (P b o e hx),fun b o e n a hx=>B.slot b o (k3 b o e) n a (P b o e hx),fun b o e n hx=>?_,fun b o e hx=>B.there b o (k3 b o e) (P b o e hx),fun b xs q=>?_,fun b o u q=>?_,fun b ps q=>?_⟩
    ·rw[jh (aD b o e).1];exact B.free b o (k3 b o e) n (P b o e hx)
    ·rw[jh (je (B.tups b xs q) t)];exact B.tups b xs q
    ·rw[jh (je (B.frzs b o u q) t)];exact B.frzs b o u q
    ·obtain⟨mo,q'⟩:=B.tbls b ps q;exact⟨mo,by rw[jh (je q' t)];exact q'⟩
   have az:HOk X.prog X.w U s6.heap:=by rw[<-f,<-Yw];exact J6.hok
   have aA:HOk X.prog X.w (upd U D (.lst ys)) s6.heap:=fun b u e=>by
    by_cases au:b=D
    ·subst au;rw[jq]at e;cases e;exact⟨aB,k.toList,_,R,by simpa using D6⟩
    ·rw[jh au]at e;exact(az b u e).stay (fun c v _ q=>q) (fun c q=>by rw[jh (je q t)];exact q) fun c xs q=>by rw[jh (je q t)];exact q
   refine I.call' (by rw[J6.os,Ys,<-O]) uN aA J6.bare fun b a=>?_
   obtain⟨h0,h1,h2,h3,h4,h5⟩:=hf b a;exact⟨h3,h1,h4,h5⟩
  ·have d:=T.item Y f Yw YK Yc i [(D,_)] s5 _ U (fun _ _=>False) P5 (ab ap) aK go;rw[YA]at d;refine thn d fun r s6 ⟨u,hr,h6⟩=>?_
   subst hr;refine thn h6 fun _ s7 ⟨x,H7,J7,r7,y7,ah,b0⟩=>?_
   have aT:=J7.pinned (ab b0) (T.obj _ _ ah);have h8:=hg _ s7 _ H7 x u _ aT r7 (hk _ _ _ _ (aL x H7 y7));rw[f,Yw,YA,h,aa]at h8;refine thn h8 fun _ s8 ⟨aj,H8,J8,b7,q8⟩=>?_
   have h9:=av _ s8 aj H8 _ J8 q8;rw[f,Yw,YA,h,aa]at h9;refine thn h9 fun b s9 ⟨H9,J9,q9⟩=>?_
   have a0:∀{H':Hp} {s':Shared},Inv Y ([(D,({cls:=.type "list",data:=.seq k aH}:Obj))]++pinsAt fp s7.heap) aj H' s'->Inv Y [] (capS ow.length ci σ) H' s'/\tn (i+1) s'.heap/\(∀b∈fp,H' b=none)/\H' D=none/\s'.heap.get? D=some {cls:=.type "list",data:=.seq k aH}:=fun {H' s'} K=>by
    have pD:=K.pin (D,_) (mem_append_right _ (mem_append_left _ vq));refine⟨(K.pins_of (pins':=[]) (by simp)).forget _ _ _ YN (fun j v hj e=>b7 j v hj e),T.keep _ _ _ ah fun b a o e=>(K.pin (b,o) (mem_append_right _ (mem_append_right _ (zc a e)))).1,fun b a=>?_,pD.2.1,pD.1⟩;obtain⟨o,e,_⟩:=T.obj _ _ ah b a;exact(K.pin (b,o) (mem_append_right _ (mem_append_right _ (zc a e)))).2.1
   cases b with
   | false=>
    rw[vc vF]at q9|-;obtain⟨m',hm,w9⟩:=as _ _ q9;obtain⟨K9,bb,b1,b5,e9⟩:=a0 J9;exact⟨m',hm,i+1,ys,k,H9,K9,bb,b1,b5,⟨_,e9⟩,R,w9⟩
   | true=>
    rw[vd rfl]at q9|-;have aq:=he _ s9 aj H9 _ J9 q9;rw[f,Yw,YA,h,aa]at aq;refine thn aq fun z aI ⟨v,ak,aS,ba,b6,b8⟩=>?_
    obtain⟨m',hm,bc⟩:=as _ _ b8;obtain⟨aU,aJ,ao,a7,aX⟩:=a0 aS;refine wpAny_list_append_plain (hsz:=by rw[<-vl];exact vY b6) ⟨_,aX⟩ fun b2 aG a9=>?_
    obtain⟨a1,a2,a3,a4,a5⟩:=af D vq;have aV:Inv Y [] (capS ow.length ci σ) ak {aI with heap:=b2}:=aU.turned (t':=aI.toks) (fun b o a e=>(a9.2 b a).trans e) a7 a1 (.inl a3) a4 (fun p hp=>a5 p (by simpa using hp));refine⟨m',hm,i+1,ys++[v],k.push z,ak,aV,T.keep _ _ _ aJ fun b a o e=>(a9.2 b (fun q=>aE (q▸a))).trans e,ao,a7,aG,?_,bc⟩;rw[Array.toList_push];exact R.append (.cons ba .nil)
 have J4:Inv Y [] (capS ow.length ci σ) H {s3 with heap:=h₁}:=by
  rw[<-w];exact XW (t₁:=s3.toks) S I3 (Nat.le_of_eq l) G M kk ay
 have Q:tn 0 h₁:=T.keep _ _ _ st fun b _ o e=>kk b o (k3 b o e)
 have ag:h₁.PlainList D #[]:=⟨_,kk _ _ b4⟩
 have L:=aC _ J4 Q ag;subst O;exact codeAny_compStart_list L (T.self _ 0 _ _ _ Q L)
variable{wi:TI}
theorem jU(P:X.calm=true)(S:CompScope X scope ow ci)(R:GKeeps ow.length g)(hi:PI X tg iter wi)
  (n:∀C c a ex pn,PG (blk X scope ow ci C c a ex pn) tg g/\PF (blk X scope ow ci C c a ex pn) ifs tf/\PE (blk X scope ow ci C c a ex pn) elt te)
  (Y:∀x,foldedSetIterable iter X.env x=pure x:=by intro _;rfl):PE X (.ListComp elt [⟨tg,iter,ifs,0⟩] scope pos) (tComp wi ow.length ci g tf te):=by
 intro d s u H Q I h;rw[eval_ListComp];refine wpAny_comprehension_free (use:=none) rfl Y (ZW (S.cells I.ok)) S.kind S.names (thn (hi d s u H _ I h) fun v s1 L=>thn L fun Z s2 M=>?_);obtain⟨it,fp,tn,J,H2,e,t,T,r,A,W,w0,f⟩:=M;subst e;refine YV (RR:=fun j C=>compPost (model X.prog X.w) X.A X.xe none (EP X d u Q) j C) P S R n t T r A (fun i H=>∀p,H p=none->Q (.ref p) (upd H p (.lst i))) W w0 f fun D C s' H' m i K O z U N l k=>?_
 refine⟨m,U,fun h' q=>⟨.ref D,upd H' D (.lst i),?_,rfl,z D O⟩⟩;obtain⟨w,y,B,E,F,G⟩:=t.fpOk (H':=upd H' D (.lst i)) N (by rw[jh l];exact k);exact K.turned (t':=s'.toks) (fun b o n e=>(q.2 b n).trans e) w y E F G
theorem YE(hc:X.calm=true)(S:CompScope X scope ow ci)(hk:GKeeps ow.length g)(hN:X.N.Nodup)(A:X.N[i]?=some x)(hx:Loc X.env.scope x)(hi:PI X tg iter wi)
  (t:∀C f c ex pn,PG (blk X scope ow ci C f c ex pn) tg g/\PF (blk X scope ow ci C f c ex pn) ifs tf/\PE (blk X scope ow ci C f c ex pn) elt te)
  (y:swapsWith (.ListComp elt [⟨tg,iter,ifs,0⟩] scope pos) (some (.Name x px)) spos.line X.env=pure true:=by rfl)
  (hf:X.fn x=true\/X.env.scope.names.lookup x=some .local:=by first | exact .inl rfl | exact .inr rfl | assumption)
  (hs:∀x,foldedSetIterable iter X.env x=pure x:=by intro _;rfl):PS X (.Assign [.Name x px] (.ListComp elt [⟨tg,iter,ifs,0⟩] scope pos) spos) (tAsg (tComp wi ow.length ci g tf te) (gName i)):=by
 intro d s M H D I h;rw[exec_Assign_Name_used _ _ _ _ y];refine uf (wpAny_standAt (uf ?_));show wpAny _ X.A (do let _ <-comprehension (.ListComp elt [⟨tg,iter,ifs,0⟩] scope pos) scope X.env _ (newList []) false (eval iter X.env) (some (assign (.Name x px) X.env))) _ _ s;refine uf (wpAny_mono (wpAny_comprehension_free (use:=some (assign (.Name x px) X.env)) (Q:=fun _ j=>SP X d D .next j) rfl hs (ZW (S.cells I.ok)) S.kind S.names
  (thn (hi d s M H _ I h) fun v s1 h1=>thn h1 fun a0 s2 h2=>?_)) (fun _ j hq=>ue (ue hq)) fun _ _ e=>e)
 obtain⟨it,fp,tn,J,H2,e,F,T,B,R,W,w0,k⟩:=h2;subst e;refine YV (RR:=fun l C=>compPost (model X.prog X.w) X.A X.xe (some (assign (.Name x px) X.env)) (fun _ j=>SP X d D .next j) l C) hc S hk t F T B R
  (fun E H=>∀p,H p=none->gName i (.ref p) M (upd H p (.lst E)) D.nx) W w0 k fun P C j H' m E K hD z hn hC r n=>?_
 obtain⟨O,G,U,Y,L,Z⟩:=F.fpOk (H':=upd H' P (.lst E)) hC (by rw[jh r];exact n);show wpAny _ X.A (assign (.Name x px) X.env (.ref P)) _ _ j;refine wpAny_assign_Name (KJ K hN A hx (v:=.ref P) rfl (fun s3 N ⟨a,w,ha⟩=>⟨m,hn.sameBut w ?_,fun h' u=>?_⟩) hf)
 ·rcases ha with q | q
  ·rw[q];exact G
  ·exact fun z=>L x a q z.symm
 ·exact⟨_,_,N.turned (t':=s3.toks) (fun b o t e=>(u.2 b t).trans e) O G Y L Z,z P hD⟩
theorem qw{lo:Int}{n k:Nat}{ci:List Nat}{g:TG}{q:TT}{o:TE}{r:St}{H:Hp}{Z:Addr->List V->Hp->Prop}(c:Nat->List V->Hp->Prop)(s:c 0 [] H)
  (u:∀i ys H,i<n->c i ys H->g (.int (lo+i)) (capS k ci r) H fun a H2=>q a H2 fun b h=>if b=true then o a h fun v j=>ys.length<sizeLine/\c (i+1) (ys++[v]) j else c (i+1) ys h)
  (t:∀ys H,c n ys H->ys.length<=sizeLine/\∀p,H p=none->Z p ys H) :
  ∃W:Nat->Nat->List V->Hp->Prop,(∃m,W 0 m [] H)/\∀i m ys H,W i m ys H->
   ((Itr lo n).stop i H/\ys.length<=sizeLine/\∀p,H p=none->Z p ys H)\/
   ((Itr lo n).go i H/\∃N:List V->Hp->Prop,(∀f H',N f H'->∃l,l<m/\W (i+1) l f H')/\∀x H',(Itr lo n).yld i H x H'->g x (capS k ci r) H' fun a H2=>q a H2 fun b h=>
    if b=true then o a h fun v j=>ys.length<sizeLine/\N (ys++[v]) j else N ys h):=by
 refine⟨fun i m ys H=>m=n-i/\i<=n/\c i ys H,⟨n,by simp,va _,s⟩,?_⟩;rintro i m ys H ⟨rfl,z,p⟩;by_cases d:i<n
 ·refine .inr ⟨d,c (i+1),fun f H' w=>⟨n-(i+1),by lia,rfl,d,w⟩,fun x H' y=>?_⟩;obtain⟨e,y⟩:=y;subst e y;exact u i ys _ d p
 ·have e:i=n:=by lia
  subst e;exact .inl ⟨vb _,t ys H p⟩
theorem j3{K:Frg}{a:Addr}{xs:List V}{k:Nat}{ci:List Nat}{g:TG}{r:TT}{o:TE}{s:St}{H:Hp}{Z:Addr->List V->Hp->Prop}(d:Nat->List V->Hp->Prop)(t:d 0 [] H)(z:∀i ys H,i<=xs.length->d i ys H->SqL K H a xs)
  (A:∀i x ys H,xs[i]?=some x->d i ys H->g x (capS k ci s) H fun c H2=>r c H2 fun b h=>if b=true then o c h fun v l=>ys.length<sizeLine/\d (i+1) (ys++[v]) l else d (i+1) ys h)
  (u:∀ys H,d xs.length ys H->ys.length<=sizeLine/\∀p,H p=none->Z p ys H) :
  ∃W:Nat->Nat->List V->Hp->Prop,(∃m,W 0 m [] H)/\∀i m ys H,W i m ys H->
   ((Itl K a).stop i H/\ys.length<=sizeLine/\∀p,H p=none->Z p ys H)\/
   ((Itl K a).go i H/\∃N:List V->Hp->Prop,(∀f H',N f H'->∃n,n<m/\W (i+1) n f H')/\∀x H',(Itl K a).yld i H x H'->g x (capS k ci s) H' fun c H2=>r c H2 fun b h=>
    if b=true then o c h fun v l=>ys.length<sizeLine/\N (ys++[v]) l else N ys h):=by
 refine⟨fun i m ys H=>m=xs.length-i/\i<=xs.length/\d i ys H,⟨xs.length,by simp,va _,t⟩,?_⟩;rintro i m ys H ⟨rfl,w,p⟩;have q:=z i ys H w p;by_cases j:i<xs.length
 ·refine .inr ⟨⟨xs,xs[i],q,by simp[j]⟩,d (i+1),fun f H' B=>⟨xs.length-(i+1),by lia,rfl,j,B⟩,fun x H' y=>?_⟩;obtain⟨e,y⟩:=y;subst e;exact A i x ys _ (y xs q) p
 ·have e:i=xs.length:=by lia
  subst e;exact .inl ⟨⟨xs,q,vb _⟩,u ys H p⟩
end
theorem XB:(10:Nat)^250<2^831:=by decide +kernel
theorem Wh(a : -10^250<=x)(b:x<=10^250):Builtin.Int.intBits x<=1048576:=by
 refine vW (PySem.intBits_le_iff.mpr ?_:Builtin.Int.intBits x<=831) (by decide);have:x.natAbs<=10^250:=by lia
 exact vD this XB
theorem mulOk(a : -10^250<=x)(b:x<=10^250)(c : -10^250<=y)(d:y<=10^250):IntMulOk x y:=.of_bits (Wh a b) (Wh c d)
section
variable{X:Cx}
theorem JR:OpR X (binaryOp .Mult) (rI IntMulOk fun i j=>.int (i*j)):=opI fun _ _ _ _ _ _ _ a q=>mul_int q a
def CDivB(_ j:Int):Prop:=0<j/\j<=10^250
theorem cdivB(a:0<j)(b:j<=10^250):CDivB i j:=⟨a,b⟩
theorem QX:OpR X (binaryOp .FloorDiv) (rI CDivB fun i j=>.int (i/j)):=opI fun i j _ _ _ _ _ a q=>by
 have b:(0:Int)<j:=a.1;have c:j<=10^250:=a.2;refine floordiv_int (by lia) ?_ (.inl (PyProof.noPylong_of_log2 ?_))
 ·rw[Int.fdiv_eq_ediv_of_nonneg _ (by lia)];exact q
 ·have e:j.natAbs<=10^250:=by lia
  have g:j.natAbs.log2<831:=(Nat.log2_lt (by lia)).mpr (vD e XB);lia
theorem ZV:CallR X (.builtin "isinstance") (fun xs H Q=>∃x T t b,xs=[x,.ty T]/\TyOf X.K H x t/\PySem.W.kitOne X.K t (.type T)=some b/\Q (.bl b) H):=by
 intro a s j H xs i Q I r h;obtain⟨x,T,t,b,rfl,ty,e,q⟩:=h;obtain⟨u,f,rfl,d,c⟩:=vals2 r;cases(show f=Value.type T from c);exact X8 I d ty e fun g=>⟨.bl b,H,I.tok _,rfl,q⟩
theorem j0u{E:Value->Shared->Prop}{Q:Value->Shared->Prop}(y:A.handled=none)(d:s.heap.IsList l (intItems xs))
  (h:∀h' tk t',(∀b o,s.heap.get? b=some o->h'.get? b=some o)->Q (.int (preSum (numAt xs) xs.size) t') {s with heap:=h',toks:=tk}) :
  wpAny (model prog w) A (call (.builtin "sum") [.ref l]) Q E s:=by
 obtain⟨o,m,B,n,C⟩:=id d;have f:l≠s.heap.objs.size:=vE (vI m);have g:(intItems xs).size=xs.size:=by simp[intItems]
 have W:=(Walks.list (prog:=prog) (w:=w) (A:=A.in1) y s.heap.objs.size l f (intItems xs)).toS;rw[g]at W;refine call_sum_walkAnyS (wpAny_pyIter_list d ?_);refine⟨s.heap.objs.size,_,_,_,_,_,_,numAt xs,rfl,W,⟨⟨_,Heap.get?_push_size _ rfl,rfl,rfl⟩,d.at fun o e=>vJ _ e⟩,fun b a=>?_,fun i v x=>intItems_at x,fun z t' c=>?_⟩
 ·rcases mem_cons.mp a with rfl | a
  ·exact vI (Heap.get?_push_size _ rfl)
  ·obtain rfl:=vo.mp a;exact vI (vJ _ m)
 ·obtain⟨h',u,p,k,j⟩:=z;have q:u=s.gens:=c.gens;have r:p=s.drawn:=c.drawn;have t:j=s.os:=c.os;subst q r t;exact h h' k t' fun b o e=>c.heap b o (fun a=>ud (vI e) ((vo.mp a)▸Nat.lt_irrefl _)) (vJ _ e)
theorem Km(g:X.calm=true):CallR X (.builtin "sum") (fun xs H Q=>∃(p:Addr) (b:List Int),xs=[.ref p]/\SqL X.K H p (b.map V.int)/\Q (.int b.sum) H):=by
 intro f s z H xs x Q I r h;obtain⟨p,b,rfl,j,q⟩:=h;obtain⟨u,rfl,n⟩:=vals1 r;cases n;obtain⟨a,m,l,t⟩:=I.list j;have d:IntsAre a b:=intsAre_of m;obtain⟨y,k⟩:=d.allInts.items;have c:numsOf a.toArray.toList=b:=by rw[show a.toArray.toList=a from rfl,d.numsOf]
 have e:=l.isList;rw[k]at e c;rw[nums_intItems]at c;refine j0u (I.ok.hd g) e fun o w v i=>?_
 rw[preSum_eq,take_of_length_le (by simp),c];exact⟨.int b.sum,H,I.kept i,⟨_,rfl⟩,q⟩
end
end L2
namespace Att
open PySem PySem.W PySem.Calls PyProof.Rows
theorem Yh:∀(a:List Int) (x:Int),x∈a->Builtin.Int.intBits x<=WData.weightAll (a.map WData.int)
 | [],_,h=>by cases h
 | n::r,x,h=>by
  show _<=WData.weight (.int n)+1+WData.weightAll (r.map WData.int);rcases mem_cons.mp h with e | h
  ·subst e;have e:Builtin.Int.intBits x=WData.weight (.int x):=by
    unfold Builtin.Int.intBits WData.weight;rfl
   lia
  ·have:=Yh r x h;lia
theorem KY{l:OpenLaw}{n:Nat}{q:Program}{c:List Str}{E:(Str->Option Value)->Heap->Prop}{F:World->Heap->Prop}{d:DefRec}
  (S:l.most=some n) (z:d.params.defaults=[])
  (k:∀(w:World) (e b:Shared) (mg C:Str->Option Value) (m:Addr) (o:Obj) (D v h:Value) (a:Addr) (vs:List Value) (g:List Int),
   Ground q c [] E w e mg C b.heap->F w b.heap->
   b.heap.get? m=some o->o.data = .func (docDef d.name d.params d.body d.scope D v h)->b.heap.CodeRec v d.name->mg d.name=some (.ref m)->
   b.heap.get? a=some {cls:=.type "list",data:=.seq vs.toArray}->IntsAre vs g->g.length<=n->(∀x∈g,Builtin.Int.intBits x<=1048576)->b.gens = #[]->
   codeAny (model l.prog w) callerA (.call (.ref m) ⟨[.ref a],[]⟩) (fun r s'=>r = .ok (.ret (.bool true))/\OldK b.heap s'.heap/\s'.os=b.os/\AllBare s'.gens) b) :
  WalkO q c E F l.row.toRowW d [] (fun f vs=>PySem.call f vs):=by
 intro w e b mg C G Y m o D v h K kV T O y I A P H J as u p W B Q;obtain rfl:K = .none:=Dflts.none I z;obtain rfl:kV = .none:=Dflts.noKw I;obtain⟨a,vs,g,rfl,rfl,t,j,s⟩:=j0q S u B;have i:∀x∈g,Builtin.Int.intBits x<=1048576:=by
  have X:(WData.list (g.map WData.int)).weight<=2^20:=(layableW_iff.mp (layW_cons p).1).2.2;intro x Z;exact vW (Yh g x Z) X
 refine enter_call (codeAny_mono (k w e b mg C m o D v h a vs g G Y T (fd_plain O) y A t j s i P) fun r s' U=>?_);obtain⟨rfl,L,M,N⟩:=U;exact⟨.inl ⟨.bool true,.bool true,[],rfl,fun _=>rfl,.bool true,j0j l _,fun _=>⟨List.Pairwise.nil,fun _ R=>(nomatch R)⟩⟩,L,M,N⟩
end Att
namespace L2
open PySem PySem.Spec PyProof.Rows
theorem j2n{l:PySem.W.OpenLaw}{n k:Nat}{q:Program}{i:List Str}{L:(Str->Option Value)->Heap->Prop}{I:World->Heap->Prop}{d:DefRec}{K:Params->Frg}{CX:CXT}{sp:Frg->Sp}{x:Str}
  (W:l.most=some n) (B:n<=sizeLine) (y:d.params.defaults=[]) (X:Room k callerA)
  (R:∀(w:World) (h:Heap),I w h->(K w.params).In h)
  (F:∀(w:World) (mg:Str->Option Value) (r:Addr) (h:Heap),(K w.params).In h->h.Ns mainGlobals mg->mg d.name=some (.ref r)->
   ∃fd:FuncData,(∀(s:Shared) (u:Value),BindsTo s fd ⟨[u],[]⟩ [(x,u)])/\
    ∀base:Heap,(K w.params).In base->base.Ns mainGlobals mg->FnOk l.prog w (K w.params) mg base CX k r fd [x] (sp (K w.params)))
  (C:∀(K:Frg) (H:Hp) (a:Addr) (m:List Int),m.length<=n->(∀x∈m,Builtin.Int.intBits x<=1048576)->Only H->SqL K H a (m.map V.int)->sp K [.ref a] H (fun v _=>v = .bl true) fun _ _ _=>False)
  (t:∀(H:Hp) (s:Shared) (e:Value) (s':Shared),CX [] H s (fun _ _ _=>False) e s'->False) :
  PySem.W.WalkO q i L I l.row.toRowW d [] (fun f vs=>PySem.call f vs):=by
 refine Att.KY W y fun w J p mg mb r o pm Z M a vs m G Y ho hd T z j g b c U=>?_
 have D:=R w _ Y;obtain⟨fd,S,N⟩:=F w mg r _ D G.T.g z;exact j15 D G.T.g G.T.b G.T.builtins G.T.nolimit U j g (vW b B) X N S (fun H O P=>C _ H a m b c O P) fun H e s'=>t H p e s'
section
variable{P:Program}{w:World}{K:Frg}{mg:Str->Option Value}{base:Heap}
end
theorem SP.nx{R:St->Hp->Prop}(a:∀σ' H',R σ' H'->D.nx σ' H')(h:SP X pins {D with nx:=R} f s):SP X pins D f s:=by
 cases f with
 | next=>obtain⟨σ',H',I,q⟩:=h;exact⟨σ',H',I,a _ _ q⟩
 | brk=>exact h
 | cont=>exact h
 | ret u=>exact h
def tIfJ(c:TT)(t u:TS):TS:=fun D σ H=>∃R:St->Hp->Prop,(∀σ' H',R σ' H'->D.nx σ' H')/\tIfS c t u {D with nx:=R} σ H
theorem Qh(j:PT X c tc)(g:PSs X a t)(i:PSs X b u):PS X (.If c a b pos) (tIfJ tc t u):=by
 intro d s k H D I h;obtain⟨R,e,h⟩:=h;exact thn (jS j g i d s k H _ I h) fun f l q=>q.nx e
open PySem
theorem Jj:bootBuiltins "len"= some (.builtin "len"):=by decide +kernel
theorem j0H:bootBuiltins "max"= some (.builtin "max"):=by decide +kernel
theorem W6:bootBuiltins "min"= some (.builtin "min"):=by decide +kernel
theorem j0I:bootBuiltins "sum"= some (.builtin "sum"):=by decide +kernel
theorem qD:bootBuiltins "isinstance"= some (.builtin "isinstance"):=by decide +kernel
theorem yC:bootBuiltins "sorted"= some (.builtin "sorted"):=by decide +kernel
theorem j3X:bootBuiltins "int"= some (.type "int"):=by decide +kernel
theorem j2s:bootBuiltins "bool"= some (.type "bool"):=by decide +kernel
theorem Q7:bootBuiltins "list"= some (.type "list"):=by decide +kernel
theorem QW:bootBuiltins "tuple"= some (.type "tuple"):=by decide +kernel
theorem j2t:bootBuiltins "dict"= some (.type "dict"):=by decide +kernel
theorem K0:bootBuiltins "enumerate"= some (.type "enumerate"):=by decide +kernel
theorem j3Y:bootBuiltins "zip"= some (.type "zip"):=by decide +kernel
theorem Y6(K:Frg)(t:Value)(h:(t==t)=true):PySem.W.kitOne K t t=some true:=by unfold PySem.W.kitOne;rw[vd h]
theorem j00(K:Frg)(c:(Value.type a==Value.type b)=false)(d:PySem.W.kitMeta b=true)(e:PySem.W.subIn [] (.type a) (.type b)=some v):PySem.W.kitOne K (.type a) (.type b)=some v:=by
 unfold PySem.W.kitOne;rw[vc (by rw[c];exact vF)];show(if PySem.W.kitMeta b=true then _ else _)=_;rw[vd d];exact e
theorem X6{K:Frg}:PySem.W.kitOne K (.type "int") (.type "int")=some true:=Y6 K _ (by decide +kernel)
theorem xo{K:Frg}:PySem.W.kitOne K (.type "int") (.type "bool")=some false:=j00 K (by decide +kernel) (by decide +kernel) (by decide +kernel)
theorem Wp{K:Frg}:PySem.W.kitOne K (.type "list") (.type "list")=some true:=Y6 K _ (by decide +kernel)
theorem kP{K:Frg}:PySem.W.kitOne K (.type "tuple") (.type "tuple")=some true:=Y6 K _ (by decide +kernel)
section
variable{X:Cx}{tg:Expr}
theorem j26:SlR X (fun x lo hi H Q=>∃z,x = .str z/\z.length<=sizeLine/\Q (.str (Txt.slice z lo hi)) H):=by
 intro b s n H x v p r lo hi o Q I m c g e h;obtain⟨z,rfl,d,q⟩:=h;obtain⟨t,rfl⟩:=m;refine⟨"str",_,F.slot_str_getitem.lookup,typeIs_str _ _ _,?_⟩;have a:∀(lo hi:Option Int),Q (.str (Txt.slice z lo hi)) H->∀f k,EP X b n Q (.str (Txt.slice z lo hi) f) {s with toks:=k}:=fun lo hi q f k=>⟨.str _,H,I.tok _,⟨_,rfl⟩,q⟩
 cases g with
 | none=>
  cases e with
  | none=>exact wpAny_getItem_str_slice (l:=none) (u:=none) (st:=none) c rfl (post_val_or_str ⟨vW (Txt.slice_le z _ _) d,a _ _ q⟩)
  | int j uj=>exact wpAny_getItem_str_slice (l:=none) (u:=some (j,uj)) (st:=none) c rfl (post_val_or_str ⟨vW (Txt.slice_le z _ _) d,a _ _ q⟩)
 | int i ui=>
  cases e with
  | none=>exact wpAny_getItem_str_slice (l:=some (i,ui)) (u:=none) (st:=none) c rfl (post_val_or_str ⟨vW (Txt.slice_le z _ _) d,a _ _ q⟩)
  | int j uj=>exact wpAny_getItem_str_slice (l:=some (i,ui)) (u:=some (j,uj)) (st:=none) c rfl (post_val_or_str ⟨vW (Txt.slice_le z _ _) d,a _ _ q⟩)
theorem rd_str{R:Str->Prop}(h:R z):∃a,V.str z = .str a/\R a:=⟨z,rfl,h⟩
end
section
variable{X:Cx}{K:Frg}
theorem Js(e:X.K=K):IxR X (rIxL K):=by subst e;exact jA
theorem Jo(e:X.K=K):IxR X (rIxT K):=by subst e;exact ji
theorem Kk(e:X.K=K):CallR X (.builtin "len") (fun xs H Q=>∃x n,xs=[x]/\LenV K x H n/\Q (.int n) H):=by subst e;exact jR
theorem zd(e:X.K=K):OpR X (compareOp .In) (rIn K false):=by subst e;exact yR
theorem kU(e:X.K=K):OpR X (compareOp .NotIn) (rIn K true):=by subst e;exact wO
end
mutual
inductive DV(H:Hp):V->PyData->Prop
 | non:DV H .non .none
 | bl (b:Bool):DV H (.bl b) (.bool b)
 | int (i:Int):DV H (.int i) (.int i)
 | str (x:Str):DV H (.str x) (.str x)
 | lst {a:Addr} {xs:List V} {ds:List PyData}:H a=some (.lst xs)->DVs H xs ds->DV H (.ref a) (.list ds)
 | tup {a:Addr} {xs:List V} {ds:List PyData}:H a=some (.tup xs)->DVs H xs ds->DV H (.ref a) (.tuple ds)
inductive DVs(H:Hp):List V->List PyData->Prop
 | nil:DVs H [] []
 | cons {x:V} {d:PyData} {xs:List V} {ds:List PyData}:DV H x d->DVs H xs ds->DVs H (x::xs) (d::ds)
end
mutual
theorem DV.mono{H H':Hp}(k:Same H H'):∀{v:V} {d:PyData},DV H v d->DV H' v d
 | _,_,.non=>.non
 | _,_,.bl b=>.bl b
 | _,_,.int i=>.int i
 | _,_,.str x=>.str x
 | _,_,.lst e r=>.lst (k _ _ e) (DVs.mono k r)
 | _,_,.tup e r=>.tup (k _ _ e) (DVs.mono k r)
theorem DVs.mono{H H':Hp}(k:Same H H'):∀{vs:List V} {ds:List PyData},DVs H vs ds->DVs H' vs ds
 | _,_,.nil=>.nil
 | _,_,.cons a r=>.cons (DV.mono k a) (DVs.mono k r)
end
section
variable{X:Cx}
mutual
theorem Qd{p:St}{H:Hp}(I:Inv X pins p H s):∀{v:V} {d:PyData} {u:Value},DV H v d->RelV v u->∃as,Reads s.heap u d as
 | _,_,_,.non,r=>⟨_,by cases r;exact Reads.none⟩
 | _,_,_,.bl b,r=>⟨_,by cases r;exact Reads.bool b⟩
 | _,_,_,.int i,r=>by obtain⟨t,rfl⟩:=r;exact⟨_,Reads.int i t⟩
 | _,_,_,.str x,r=>by obtain⟨t,rfl⟩:=r;exact⟨_,Reads.str x t⟩
 | _,_,_,.lst e q,r=>by
  cases r;obtain⟨_,a,c,g,k⟩:=I.hok _ _ e;obtain⟨as,f⟩:=yJ I q g;exact⟨_,reads_list_at k rfl rfl (by simpa using f)⟩
 | _,_,_,.tup e q,r=>by
  cases r;obtain⟨a,g,m,_⟩:=I.tuple (SqT.of e);obtain⟨o,l,h,n,j⟩:=m;obtain⟨as,f⟩:=yJ I q g;exact⟨_,reads_tuple_at l h j (by simpa using f)⟩
theorem yJ{d:St}{H:Hp}(I:Inv X pins d H s):∀{vs:List V} {ds:List PyData} {us:List Value},DVs H vs ds->Vals vs us->∃as,ReadsAll s.heap us ds as
 | _,_,_,.nil,r=>by cases r;exact⟨_,ReadsAll.nil⟩
 | _,_,_,.cons a q,r=>by
  cases r with
  | cons r1 r2=>
   obtain⟨as,b⟩:=Qd I a r1;obtain⟨e,c⟩:=yJ I q r2;exact⟨_,ReadsAll.cons b c⟩
end
theorem km(f:X.A.units+64<cLine):OpR X (compareOp .Eq) (fun x y H Q=>∃d e,DV H x d/\DV H y e/\SeqAt.shaped d=true/\SeqAt.shaped e=true/\Q (.bl (PyData.eqv d e)) H):=by
 intro a s p H x y v u Q I j k h;obtain⟨d,e,b,c,l,m,q⟩:=h;obtain⟨n,g⟩:=Qd I b j;obtain⟨o,i⟩:=Qd I c k;exact eq_dataH g i l m f ⟨.bl _,H,I,rfl,q⟩
theorem yS(f:X.A.units+64<cLine):OpR X (compareOp .NotEq) (fun x y H Q=>∃d e,DV H x d/\DV H y e/\SeqAt.shaped d=true/\SeqAt.shaped e=true/\Q (.bl (!PyData.eqv d e)) H):=by
 intro a s p H x y v u Q I j k h;obtain⟨d,e,b,c,l,m,q⟩:=h;obtain⟨n,g⟩:=Qd I b j;obtain⟨o,i⟩:=Qd I c k;exact ne_dataH g i l m f ⟨.bl _,H,I,rfl,q⟩
theorem j2l{us:List Value}:∀{a:List Int},IntsAre us a->Vals (a.map V.int) us:=by
 induction us with
 | nil=>intro a r;cases r;exact .nil
 | cons u us ih=>
  intro a r;cases r with
  | cons n t r=>exact .cons ⟨t,rfl⟩ (ih r)
theorem Kl(w:X.calm=true):CallR X (.builtin "max") (fun xs H Q=>∃(p:Addr) (c:List Int),xs=[.ref p]/\SqL X.K H p (c.map V.int)/\0<c.length/\∀m∈c,(∀a∈c,a<=m)->Q (.int m) H):=by
 intro n s L H xs K Q I r h;obtain⟨p,c,rfl,A,d,q⟩:=h;obtain⟨u,rfl,E⟩:=vals1 r;cases E;obtain⟨B,D,C,_⟩:=I.list A;have k:=intsAre_of D;have l:=C.isList;obtain⟨xs,e⟩:=k.allInts.items;have b:c=xs.toList.map (·.1):=by rw[<-k.numsOf,<-nums_intItems,<-e]
 have f:0<xs.size:=by
  have g:=d;rw[b,vt,Array.length_toList]at g;exact g
 rw[e]at l;refine max_intList (I.ok.hd w) l f fun v G F z y=>?_
 obtain⟨t,rfl⟩:=intItems_at z;obtain⟨J,o⟩:=argBest_gt (numAt xs) (xs.size-1);refine⟨.int _,H,I.kept (t':=F) y,⟨_,rfl⟩,q _ ?_ fun a i=>?_⟩
 ·rw[b,numAt_eq];exact getD_mem (by rw[vt,Array.length_toList];lia)
 ·rw[b]at i;obtain⟨j,x,rfl⟩:=mem_getD i;rw[vt,Array.length_toList]at x;rw[<-numAt_eq];exact o j (by lia)
end
section
variable{σ:St}{H:Hp}{Q:VK}
theorem rd_dget(h:td σ H fun x H1=>ty σ H1 fun y H2=>∃a v,x = .ref a/\DGet H2 a y (some v)/\Q v H2):tDGet td ty σ H Q:=h
theorem j3n{a:List (TE×TE)}(h:∀p,H p=none->tPairs a σ (upd H p (.dK [])) fun ps H2=>H2 p=some (.dK [])/\∃kvs:List (Key×V),ps=kvs.map (fun kv=>(kV kv.1,kv.2))/\kvs.length<=15/\Q (.ref p) (upd H2 p (.dK (mergeK [] kvs)))):tDisp a σ H Q:=h
theorem rd_prN{R:List (V×V)->Hp->Prop}(h:R [] H):tPairs [] σ H R:=h
theorem rd_prC{a b:TE}{r:List (TE×TE)}{R:List (V×V)->Hp->Prop}(h:a σ H fun x H1=>b σ H1 fun y H2=>tPairs r σ H2 fun ps c=>R ((x,y)::ps) c):tPairs ((a,b)::r) σ H R:=h
end
def TabK(K:Frg)(a:Addr)(D:List (Str×PyProof.Rows.KTD.Dat)):Prop:=PyProof.Rows.KTD.tabLook (PyProof.Rows.KTD.datLooks fun b=>K.lookup b) (fun b=>K.lookup b) a D=true
section
variable{X:Cx}
theorem j4n:OpR X (compareOp .In) (fun x y H Q=>∃a k D,x = .str k/\y = .ref a/\TabK X.K a D/\Q (.bl (PyProof.Rows.KTD.inKeys k D)) H):=by
 intro b s f H x y v u Q I c d h;obtain⟨a,k,D,rfl,rfl,T,q⟩:=h;obtain⟨t,rfl⟩:=c;cases d;exact PyProof.Rows.KTD.in_text (h₀:=s.heap) ⟨PySem.W.kt_text_in I.kIn T,fun _ _ e=>e⟩ ⟨.bl _,H,I.tok _,rfl,q⟩
end
theorem Qb{K:Frg}{a:Addr}{xs:List V}{k:Nat}{ci:List Nat}{g:TG}{r:TT}{o:TE}{s:St}{H:Hp}{Z:Addr->List V->Hp->Prop}(d:Nat->List V->Hp->Prop)(t:d 0 [] H)(z:∀i ys H,i<=xs.length->d i ys H->SqT K H a xs)
  (A:∀i x ys H,xs[i]?=some x->d i ys H->g x (capS k ci s) H fun c H2=>r c H2 fun b h=>if b=true then o c h fun v l=>ys.length<sizeLine/\d (i+1) (ys++[v]) l else d (i+1) ys h)
  (u:∀ys H,d xs.length ys H->ys.length<=sizeLine/\∀p,H p=none->Z p ys H) :
  ∃W:Nat->Nat->List V->Hp->Prop,(∃m,W 0 m [] H)/\∀i m ys H,W i m ys H->
   ((Itt K a).stop i H/\ys.length<=sizeLine/\∀p,H p=none->Z p ys H)\/
   ((Itt K a).go i H/\∃N:List V->Hp->Prop,(∀f H',N f H'->∃n,n<m/\W (i+1) n f H')/\∀x H',(Itt K a).yld i H x H'->g x (capS k ci s) H' fun c H2=>r c H2 fun b h=>
    if b=true then o c h fun v l=>ys.length<sizeLine/\N (ys++[v]) l else N ys h):=by
 refine⟨fun i m ys H=>m=xs.length-i/\i<=xs.length/\d i ys H,⟨xs.length,by simp,va _,t⟩,?_⟩;rintro i m ys H ⟨rfl,w,p⟩;have q:=z i ys H w p;by_cases j:i<xs.length
 ·refine .inr ⟨⟨xs,xs[i],q,by simp[j]⟩,d (i+1),fun f H' B=>⟨xs.length-(i+1),by lia,rfl,j,B⟩,fun x H' y=>?_⟩;obtain⟨e,y⟩:=y;subst e;exact A i x ys _ (y xs q) p
 ·have e:i=xs.length:=by lia
  subst e;exact .inl ⟨⟨xs,q,vb _⟩,u ys H p⟩
theorem rd_iTup{K:Frg}{b:TE}{c:St}{H:Hp}{R:It->Hp->Prop}(h:b c H fun x H1=>∃a,x = .ref a/\(∃xs,SqT K H1 a xs)/\R (Itt K a) H1):iTup K b c H R:=h
theorem JA{K:Frg}{i j:Nat}{a:Addr}{x y:V}{b:St}{H:Hp}{R:St->Hp->Prop}(e:SqT K H a [x,y])(h:gName i x b H fun σ' H'=>gName j y σ' H' R):gTup K 2 (gCons (gName i) (gCons (gName j) gNil)) (.ref a) b H R:=
 ⟨a,[x,y],rfl,e,rfl,x,[y],rfl,y,[],rfl,rfl,h⟩
theorem rd_sub{a:St}{H:Hp}{R:St->Hp->Prop}(h:to a H fun o H1=>ti a H1 fun i H2=>t o i v H2 fun b=>R a b):gSub to ti t v a H R:=h
theorem rd_dnew{a:St}{H:Hp}(h:∀p,H p=none->Q (.ref p) (upd H p (.dK []))):tDNewK a H Q:=h
theorem rd_dput{b:St}{H:Hp}(h:tv b H fun v H1=>td b H1 fun x H2=>ty b H2 fun y d=>∃a c,x = .ref a/\DPut d a y v c/\D.nx b c):sDPut td ty tv D b H:=h
theorem rd_bm0{K:Frg}{T:String}{r:V->List V->Hp->VK->Prop}{a:TE}{b:St}{H:Hp}{Q:VK}(h:a b H fun x H1=>tyV K T x H1/\r x [] H1 Q):tBM0 K T r a b H Q:=h
section
variable{X:Cx}{pins:List (Addr×Obj)}{σ:St}{H:Hp}{s:Shared}{h':Heap}
theorem Inv.turnedL{t':Nat}{ch:List Addr}(I:Inv X pins σ H s)(f:∀b∈ch,FpOk X pins H b)(k:∀b o,b∉ch->s.heap.get? b=some o->h'.get? b=some o):Inv X pins σ H {s with heap:=h',toks:=t'}:=by
 have d:∀b u,H b=some u->b∉ch:=fun b u e z=>by rw[(f b z).1]at e;cases e
 refine I.step (g':=s.gens) (d':=s.drawn) (ch:=ch) (fun b t=>?_) (fun b o _ _ a e _=>k b o a e) (fun b o _ _ a e _=>⟨o.slots,k b o a e⟩) (fun _ _ _ _ n=>n)
  (fun b o a e=>⟨o,k b o a e⟩) (fun _ _ e=>e) (fun _ _ _ e=>e) (fun b y e=>⟨#[],by rw[e];simp⟩) (fun m w=>?_) (fun b u e=>?_) I.bare
 ·obtain⟨_,i,_,j,l,p⟩:=f b t;exact⟨j,i,l,p⟩
 ·obtain⟨o,h,g,x,r⟩:=w;exact⟨o,h,g,k _ o (fun z=>(f _ z).2.1 rfl) x,r⟩
 ·refine(I.hok b u e).stay (fun c v a q=>k c v ?_ q) (fun _ q=>q) fun _ _ q=>q
  rcases a with z | z
  ·rw[z];exact d b u e
  ·exact d c _ z
theorem Inv.pair{t':Nat}{ch:List Addr}{x y:V}{u v:Value}(I:Inv X pins σ H s)(c:∀b∈ch,FpOk X pins H b)(h:∀b∈ch,b<s.heap.objs.size)(i:RelV x u)(j:RelV y v)
  (g:h'.get? s.heap.objs.size=some {cls:=.type "tuple",data:=.seq #[u,v]}) (k:∀b o,b∉ch->s.heap.get? b=some o->h'.get? b=some o) :
  Inv X pins σ (upd H s.heap.objs.size (.tup [x,y])) {s with heap:=h',toks:=t'}/\∀b∈ch,FpOk X pins (upd H s.heap.objs.size (.tup [x,y])) b:=by
 have f:∀b∈ch,FpOk X pins (upd H s.heap.objs.size (.tup [x,y])) b:=fun b a=>⟨(jh (vE (h b a))).trans (c b a).1,(c b a).2⟩
 have d:Inv X pins σ (upd H s.heap.objs.size (.tup [x,y])) {s with heap:=s.heap.push {cls:=.type "tuple",data:=.seq #[u,v]},toks:=t'}:=
  I.laid (t':=t') (fun b o e=>vJ _ e) (vb _) (show ObjOk X.prog X.w _ _ _ (.tup [x,y])from⟨(by show 2<=sizeLine;decide),[u,v],.cons i (.cons j .nil),IsTup.new _ _⟩)
 refine⟨d.turnedL (h':=h') (t':=t') f fun b o a e=>?_,f⟩;rcases Heap.get?_push_cases e with⟨rfl,rfl⟩ | e
 ·exact g
 ·exact k b o a e
end
def Ite(K:Frg)(a:Addr):It:=
 ⟨fun i H=>∃xs x,SqL K H a xs/\xs[i]?=some x,fun i H x H'=>∃T v,x = .ref T/\H T=none/\H'=upd H T (.tup [.int i,v])/\∀xs,SqL K H a xs->xs[i]?=some v,fun i H=>∃xs,SqL K H a xs/\xs.length<=i⟩
theorem j0w{P:Program}{w:World}{K:Frg}{n:List Expr}{k:Nat}{O:Pos}(a e it:Addr)(t:e≠it) :
  Turn P w K (.Tuple n k O) (Ite K a) [e,it] e (fun i h=>(∃f,IsEnum h e it ((i:Nat):Int) f)/\h.IsListIter it a i) where
 mem:=by simp
 obj:=fun i h j b g=>by
  rcases(by simpa using g:b=e\/b=it)with rfl | rfl
  ·obtain⟨f,l⟩:=j.1;exact⟨_,l,fun v z=>by cases z⟩
  ·obtain⟨o,e,c,d⟩:=j.2;exact⟨o,e,fun v z=>by rw[d]at z;cases z⟩
 keep:=fun i h h' j k=>⟨let ⟨f,l⟩:=j.1;⟨f,k e (by simp) _ l⟩,j.2.at fun o q=>k it (by simp) o q⟩
 item:=by
  intro X D L C S i A s σ H E I G j J;subst D L C;obtain⟨xs,x,B,M⟩:=J;obtain⟨N,Q,p,hz⟩:=I.list B;obtain⟨u,hu,ru⟩:=Q.get M;obtain⟨⟨f,l⟩,m⟩:=j;have le:e<s.heap.objs.size:=vI l;have li:it<s.heap.objs.size:=by obtain⟨o,q,_⟩:=id m;exact vI q
  refine wpAny_pyNext_enum_item l m p.isList (x:=u) (by simpa using hu) t fun h' ho r hT a0 hk=>?_
  obtain⟨U,R⟩:=I.pair (t':=s.toks+1) (ch:=[e,it]) (x:=.int i) (y:=x) G (fun b g=>by rcases(by simpa using g:b=e\/b=it)with rfl | rfl<;>assumption) ⟨s.toks,rfl⟩ ru hT
   (fun b o g q=>hk b o (fun z=>g (by simp[z])) (fun z=>g (by simp[z])) q)
  refine⟨_,rfl,wpAny_letOwnedTupleGo_enum ho fun Z F T=>?_⟩;have W:=U.turnedL (h':=Z) (t':=s.toks+1) (ch:=[e,it]) R fun b o g q=>(T.2 b fun z=>g (by simp[z])).trans q
  exact⟨.ref s.heap.objs.size,_,W,rfl,⟨_,x,rfl,I.hok.fresh (vb _),rfl,fun ys hy=>by rw[I.list_inj hy B];exact M⟩,
   ⟨⟨u,by simpa using F⟩,r.at fun o q=>(T.2 it t.symm).trans q⟩,fun b g=>(R b g).1⟩
 done:=by
  intro X D L C S i A s σ H E I G j J;subst D L C;obtain⟨xs,B,M⟩:=J;obtain⟨N,Q,p,hz⟩:=I.list B;obtain⟨⟨f,l⟩,m⟩:=j;have hl:=Q.length;exact wpAny_pyNext_enum_end (I.ok.hd S) l m p.isList (by simp;lia) fun h' Y=>⟨rfl,I.turnedL (t':=s.toks) (ch:=[e,it]) G fun b o g q=>Y b o (fun z=>g (by simp[z])) q⟩
 self:=fun _ _ _ _ _ j h=>let ⟨_,l⟩:=j.1;wpAny_pyIter_enum l h
def iEnum(K:Frg)(ta:TA):TI:=fun σ H R=>ta σ H fun vs H1=>∃a xs,vs=[.ref a]/\SqL K H1 a xs/\R (Ite K a) H1
theorem YD{X:Cx}{a:Expr}{n:TA}{f:List Expr}{k:Nat}{p i j:Pos}(v:Gl X "enumerate")(x:X.mg "enumerate"= none)(r:PA X [a] n)(z:starEach [a] X.env=[(false,eval a X.env)]:=by rfl) :
  PI X (.Tuple f k j) (.Call (.Name "enumerate" p) [a] [] i) (iEnum X.K n):=by
 intro g s F H R I h;refine Call_ (zb I v x K0 (PyProof.Rows.callWith_type1 (thn (r i g s F H _ I h) fun L e ⟨M,o,d,D,C⟩=>?_) z rfl));obtain⟨b,N,rfl,y,q⟩:=C;obtain⟨u,rfl,E⟩:=vals1 D;cases E;obtain⟨B,K,p,J⟩:=d.list y;refine call_enumerate_list p.isList fun G m l A w=>?_
 refine wpAny_pyIter_enum m ?_;refine⟨e.heap.objs.size+1,[e.heap.objs.size+1,e.heap.objs.size],_,_,o,rfl,d.kept (t':=e.toks) w,j0w b _ _ (Nat.succ_ne_self _),⟨⟨_,by simpa using m⟩,l⟩,fun c t=>?_,q⟩;rcases(by simpa using t:c=e.heap.objs.size+1\/c=e.heap.objs.size)with rfl | rfl
 ·exact d.fpOk (Nat.le_succ _) (d.hok.fresh (Nat.le_succ _))
 ·exact d.fpOk (vb _) (d.hok.fresh (vb _))
theorem Z1{K:Frg}{a:Addr}{xs:List V}{g:TG}{l:TS}{D:Ends}{c:St}{H:Hp}(d:Nat->St->Hp->Prop)(n:d 0 c H)(u:∀i c H,i<=xs.length->d i c H->SqL K H a xs)
  (w:∀i v c H T H',xs[i]?=some v->d i c H->Same H H'->H' T=some (.tup [.int i,v])->g (.ref T) c H' fun f H2=>l {D with nx:=d (i+1),ct:=d (i+1),bk:=D.nx} f H2) (s:∀c H,d xs.length c H->D.nx c H) :
  ∃W:Nat->Nat->St->Hp->Prop,(∃m,W 0 m c H)/\∀i m c H,W i m c H->
   ((Ite K a).stop i H/\D.nx c H)\/((Ite K a).go i H/\∃N:St->Hp->Prop,(∀σ' H',N σ' H'->∃k,k<m/\W (i+1) k σ' H')/\∀x H',(Ite K a).yld i H x H'->g x c H' fun f H2=>l {D with nx:=N,ct:=N,bk:=D.nx} f H2):=by
 refine⟨fun i m c H=>m=xs.length-i/\i<=xs.length/\d i c H,⟨xs.length,by simp,va _,n⟩,?_⟩;rintro i m c H ⟨rfl,t,p⟩;have q:=u i c H t p;by_cases j:i<xs.length
 ·refine .inr ⟨⟨xs,xs[i],q,by simp[j]⟩,d (i+1),fun σ' H' z=>⟨xs.length-(i+1),by lia,rfl,j,z⟩,fun x H' y=>?_⟩;obtain⟨T,v,rfl,r,e,y⟩:=y;exact w i v c H T H' (y xs q) p (fun b o h=>by rw[e,jh (je h r)];exact h) (by rw[e];exact jq)
 ·have e:i=xs.length:=by lia
  subst e;exact .inl ⟨⟨xs,q,vb _⟩,s c H p⟩
theorem rd_iEnum{K:Frg}{b:TA}{c:St}{H:Hp}{R:It->Hp->Prop}(h:b c H fun vs H1=>∃a xs,vs=[.ref a]/\SqL K H1 a xs/\R (Ite K a) H1):iEnum K b c H R:=h
def Itz(K:Frg)(a b:Addr):It:=
 ⟨fun i H=>∃xs x ys y,SqL K H a xs/\xs[i]?=some x/\SqL K H b ys/\ys[i]?=some y,
  fun i H x H'=>∃T u v,x = .ref T/\H T=none/\H'=upd H T (.tup [u,v])/\(∀xs,SqL K H a xs->xs[i]?=some u)/\∀ys,SqL K H b ys->ys[i]?=some v,
  fun i H=>∃xs ys,SqL K H a xs/\SqL K H b ys/\(xs.length<=i\/ys.length<=i)⟩
theorem JU{h:Heap}{a b:Addr}{o u:Obj}(d:h.get? a=some o)(c:h.get? b=some u)(f:o.cls≠u.cls):a≠b:=fun e=>by
 subst e;rw[d]at c;cases c;exact f rfl
theorem j2i{P:Program}{w:World}{K:Frg}{T:List Expr}{k:Nat}{aa:Pos}(t A z TI TO l m:Addr)
  (D:∀t A,t≠z->t≠TO->t≠l->t≠m->A≠z->A≠TO->A≠l->A≠m->ZipApart z TI TO l m t A) :
  Turn P w K (.Tuple T k aa) (Itz K t A) [z,TI,TO,l,m] z (fun i h=>IsZip h z TI TO .none/\IsPair h TI (.ref l) (.ref m)/\(∃a b,IsPair h TO a b)/\h.IsListIter l t i/\h.IsListIter m A i) where
 mem:=by simp
 obj:=fun i h M b j=>by
  obtain⟨n,g,⟨a,c,f⟩,J,L⟩:=M;rcases(by simpa using j:b=z\/b=TI\/b=TO\/b=l\/b=m)with rfl | rfl | rfl | rfl | rfl
  ·exact⟨_,n,fun v z=>by cases z⟩
  ·exact⟨_,g,fun v z=>by cases z⟩
  ·exact⟨_,f,fun v z=>by cases z⟩
  ·obtain⟨o,e,c,d⟩:=J;exact⟨o,e,fun v z=>by rw[d]at z;cases z⟩
  ·obtain⟨o,e,c,d⟩:=L;exact⟨o,e,fun v z=>by rw[d]at z;cases z⟩
 keep:=fun i h h' M k=>by
  obtain⟨n,g,⟨a,c,f⟩,J,L⟩:=M;exact⟨k z (by simp) _ n,k TI (by simp) _ g,⟨a,c,k TO (by simp) _ f⟩,J.at fun o q=>k l (by simp) o q,L.at fun o q=>k m (by simp) o q⟩
 item:=by
  intro X hP hw hK hc i W s σ H E I hf M hg;subst hP hw hK;obtain⟨xs,x,ys,y,hq,hx,hr,hy⟩:=hg;obtain⟨a8,rv,p,_⟩:=I.list hq;obtain⟨a9,N,U,_⟩:=I.list hr;obtain⟨u,hu,ru⟩:=rv.get hx;obtain⟨v,hv,ab⟩:=N.get hy;obtain⟨n,g,⟨a,c,f⟩,J,L⟩:=M;obtain⟨o1,n1,F,B,_⟩:=id p;obtain⟨o2,n2,G,C,_⟩:=id U;obtain⟨o3,O,R,_⟩:=id J;obtain⟨o4,Q,S,_⟩:=id L;have r:=D t A (JU F n (by rw[B];show Value.type "list"≠Value.type "zip";decide)) (JU F f (by rw[B];show Value.type "list"≠Value.type "tuple";decide)) (JU F O (by rw[B,R];decide)) (JU F Q (by rw[B,S];decide))
   (JU G n (by rw[C];show Value.type "list"≠Value.type "zip";decide)) (JU G f (by rw[C];show Value.type "list"≠Value.type "tuple";decide)) (JU G O (by rw[C,R];decide)) (JU G Q (by rw[C,S];decide))
  have lt:∀b∈[z,TI,TO,l,m],b<s.heap.objs.size:=fun b j=>by
   rcases(by simpa using j:b=z\/b=TI\/b=TO\/b=l\/b=m)with rfl | rfl | rfl | rfl | rfl
   ·exact vI n
   ·exact vI g
   ·exact vI f
   ·exact vI O
   ·exact vI Q
  refine wpAny_pyNext_zip_item r n g f J L p.isList U.isList (x:=u) (y:=v) (by simpa using hu) (by simpa using hv) fun h' a1 a2 a3 a4 a5 a6 Z=>?_
  obtain⟨I1,f1⟩:=I.pair (t':=s.toks) (ch:=[z,TI,TO,l,m]) (x:=x) (y:=y) hf lt ru ab a5
   (fun b o j q=>Z b o (fun e=>j (by simp[e])) (fun e=>j (by simp[e])) (fun e=>j (by simp[e])) (fun e=>j (by simp[e])) q)
  refine⟨_,rfl,wpAny_letOwnedTupleGo_zip a1 fun h3 a7 Y=>?_⟩;have I2:=I1.turnedL (h':=h3) (t':=s.toks) (ch:=[z,TI,TO,l,m]) f1 fun b o j q=>(Y.2 b fun e=>j (by simp[e])).trans q
  exact⟨.ref s.heap.objs.size,_,I2,rfl,⟨_,x,y,rfl,I.hok.fresh (vb _),rfl,(fun ys hy=>by rw[I.list_inj hy hq];exact hx),fun ys a0=>by rw[I.list_inj a0 hr];exact hy⟩,
   ⟨a7,(Y.2 TI r.TIz).trans (Z TI _ r.TIz r.TITO r.TIi1 r.TIi2 g),⟨_,_,(Y.2 TO r.TOz).trans a2⟩,a3.at fun o q=>(Y.2 l r.i1z).trans q,a4.at fun o q=>(Y.2 m r.i2z).trans q⟩,fun b j=>(f1 b j).1⟩
 done:=by
  intro X hP hw hK hc i W s σ H E I hf M hg;subst hP hw hK;obtain⟨xs,ys,hq,hr,hl⟩:=hg;obtain⟨a8,rv,p,_⟩:=I.list hq;obtain⟨a9,N,U,_⟩:=I.list hr;obtain⟨n,g,⟨a,c,f⟩,J,L⟩:=M;obtain⟨o1,n1,F,B,_⟩:=id p;obtain⟨o2,n2,G,C,_⟩:=id U;obtain⟨o3,O,R,_⟩:=id J;obtain⟨o4,Q,S,_⟩:=id L;have r:=D t A (JU F n (by rw[B];show Value.type "list"≠Value.type "zip";decide)) (JU F f (by rw[B];show Value.type "list"≠Value.type "tuple";decide)) (JU F O (by rw[B,R];decide)) (JU F Q (by rw[B,S];decide))
   (JU G n (by rw[C];show Value.type "list"≠Value.type "zip";decide)) (JU G f (by rw[C];show Value.type "list"≠Value.type "tuple";decide)) (JU G O (by rw[C,R];decide)) (JU G Q (by rw[C,S];decide))
  have ac:=rv.length;have ad:=N.length;refine wpAny_pyNext_zip_end (I.ok.hd hc) r n g f J L p.isList U.isList ?_ fun h' Z=>⟨rfl,I.turnedL (t':=s.toks) (ch:=[z,TI,TO,l,m]) hf fun b o j q=>Z b o (fun e=>j (by simp[e])) (fun e=>j (by simp[e])) (fun e=>j (by simp[e])) (fun e=>j (by simp[e])) q⟩
  rcases hl with q | q
  ·exact .inl (by simp;lia)
  ·exact .inr (by simp;lia)
 self:=fun _ _ _ _ _ M h=>wpAny_pyIter_zip M.1 h
theorem QO{n i j:Nat}(h:i≠j):n+i≠n+j:=fun e=>h (Nat.add_left_cancel e)
def iZip(K:Frg)(ta:TA):TI:=fun σ H R=>ta σ H fun vs H1=>∃a b xs ys,vs=[.ref a,.ref b]/\SqL K H1 a xs/\SqL K H1 b ys/\R (Itz K a b) H1
theorem xH{X:Cx}{a b:Expr}{w:TA}{f:List Expr}{k:Nat}{p n o:Pos}(O:Gl X "zip")(Q:X.mg "zip"= none)(M:PA X [a,b] w)(U:starEach [a,b] X.env=[(false,eval a X.env),(false,eval b X.env)]:=by rfl)(l:starEach [b] X.env=[(false,eval b X.env)]:=by rfl) :
  PI X (.Tuple f k o) (.Call (.Name "zip" p) [a,b] [] n) (iZip X.K w):=by
 intro m s σ H R I h;refine Call_ (zb I O Q j3Y (PyProof.Rows.callWith_type1 (thn (M n m s σ H _ I h) fun us d ⟨vs,x,e,r1,q1⟩=>?_) (by rw[U,l]) (by rw[l];rfl)));obtain⟨u,v,xs,ys,rfl,S,T,q⟩:=q1;cases r1 with
 | cons r rr=>
  cases rr with
  | cons r' rr=>
   cases rr;cases r;cases r';obtain⟨Y,rv,p,hz⟩:=e.list S;obtain⟨Z,a0,p',W⟩:=e.list T;refine call_zip_2 p.isList p'.isList fun h' t y z A B a6 P=>?_
   refine wpAny_pyIter_zip t ?_;refine⟨d.heap.objs.size+4,[d.heap.objs.size+4,d.heap.objs.size+2,d.heap.objs.size+3,d.heap.objs.size,d.heap.objs.size+1],_,_,x,rfl,e.kept (t':=d.toks) P,
    j2i u v _ _ _ _ _ (fun u v C D E F G J K L=>⟨QO (by decide),QO (by decide),QO (i:=0) (by decide),QO (by decide),QO (by decide),QO (j:=0) (by decide),QO (by decide),QO (j:=0) (by decide),QO (by decide),QO (i:=0) (by decide),C,D,E,F,G,J,K,L⟩),⟨t,y,⟨_,_,z⟩,A,B⟩,fun c N=>?_,q⟩
   have g:d.heap.objs.size<=c:=by
    rcases(by simpa using N:c=d.heap.objs.size+4\/c=d.heap.objs.size+2\/c=d.heap.objs.size+3\/c=d.heap.objs.size\/c=d.heap.objs.size+1)with rfl | rfl | rfl | rfl | rfl<;>lia
   exact e.fpOk g (e.hok.fresh g)
theorem j2G{K:Frg}{a b:Addr}{xs ys:List V}{g:TG}{r:TS}{D:Ends}{c:St}{H:Hp}(d:Nat->St->Hp->Prop)(l:xs.length=ys.length)(s:d 0 c H)(A:∀i c H,i<=xs.length->d i c H->SqL K H a xs/\SqL K H b ys)
  (B:∀i u v c H T H',xs[i]?=some u->ys[i]?=some v->d i c H->Same H H'->H' T=some (.tup [u,v])->g (.ref T) c H' fun f H2=>r {D with nx:=d (i+1),ct:=d (i+1),bk:=D.nx} f H2) (w:∀c H,d xs.length c H->D.nx c H) :
  ∃W:Nat->Nat->St->Hp->Prop,(∃m,W 0 m c H)/\∀i m c H,W i m c H->
   ((Itz K a b).stop i H/\D.nx c H)\/((Itz K a b).go i H/\∃N:St->Hp->Prop,(∀σ' H',N σ' H'->∃n,n<m/\W (i+1) n σ' H')/\∀x H',(Itz K a b).yld i H x H'->g x c H' fun f H2=>r {D with nx:=N,ct:=N,bk:=D.nx} f H2):=by
 refine⟨fun i m c H=>m=xs.length-i/\i<=xs.length/\d i c H,⟨xs.length,by simp,va _,s⟩,?_⟩;rintro i m c H ⟨rfl,z,p⟩;obtain⟨q,k⟩:=A i c H z p;by_cases j:i<xs.length
 ·refine .inr ⟨⟨xs,xs[i],ys,ys[i],q,by simp[j],k,by simp⟩,d (i+1),fun σ' H' C=>⟨xs.length-(i+1),by lia,rfl,j,C⟩,fun x H' y=>?_⟩;obtain⟨T,u,v,rfl,t,e,y,E⟩:=y;exact B i u v c H T H' (y xs q) (E ys k) p (fun b o h=>by rw[e,jh (je h t)];exact h) (by rw[e];exact jq)
 ·have e:i=xs.length:=by lia
  subst e;exact .inl ⟨⟨xs,ys,q,k,.inl (vb _)⟩,w c H p⟩
theorem rd_iZip{K:Frg}{c:TA}{d:St}{H:Hp}{R:It->Hp->Prop}(h:c d H fun vs H1=>∃a b xs ys,vs=[.ref a,.ref b]/\SqL K H1 a xs/\SqL K H1 b ys/\R (Itz K a b) H1):iZip K c d H R:=h
theorem Ks:entryFor table "dict.update.loop"= some Builtin.«dict.update.loop»:=entryFor_of_tree (by kernel_rfl)
theorem Zo:plainId "dict.update.loop"= true:=by decide +kernel
theorem j08:typeLookup (.type "list") "keys"= pure none:=by rw[typeLookup_type,builtinLookup_eq_fast];kernel_rfl
section
variable{prog:Program}{w:World}{A:Around}{E:Value->Shared->Prop}{s:Shared}
theorem noKeys{Q:Option Value->Shared->Prop}(p:s.heap.get? a=some o)(m:o.cls = .type "list")(f:o.data = .seq xs k)(n:o.dict=none)(t:A.handled=none)
  (h:∀h' tk,(∀b o,s.heap.get? b=some o->h'.get? b=some o)->Q none {s with heap:=h',toks:=tk}):wpAny (model prog w) A (getAttr? (.ref a) "keys") Q E s:=by
 obtain⟨c,r,q,x⟩:=o;simp only at m f n;subst m f n;obtain⟨u,g,d,tk,v⟩:=s;have l:∀j,(⟨u,g,d,j,v⟩:Shared).TypeIs (.ref a) "list":=fun _=>⟨_,p,rfl⟩
 have y:=sub_AttributeError;have z:=F.slot_list_getattribute.lookup;have B:=F.slot_list_getattribute.bind (.ref a);have C:=am_list_getattr_none;unfold getAttr? getAttrBy? getAttrBy
 repeat (any_goals (first | assumption | exact l _ | ((with_reducible show wpAny _ _ (call (Value.builtin "list.__getattribute__") _ _) _ _ _);refine call_meets F.slot_list_getattribute (l _) am_entry_list_getattribute (F.args_list_getattribute_2 _ _) (meets_getattribute_miss_list a xs k x "keys" _ j08 (by decide +kernel) (by decide +kernel)) ⟨p,t,fun h' j e i=>?_⟩) | wp_step))
 obtain⟨G,H,D⟩:=i.there;show wpAny _ _ (getattributeRaised _ _ _ _ _ _ _) _ _ _;unfold getattributeRaised
 repeat (any_goals (first | assumption | wp_step))
 exact h _ _ i.keeps
variable{K:Type}[DecidableEq K]{knd:KeyKind prog w K}
noncomputable def foldS(acc:List (K×Value))(ps:List (K×Value)):List (K×Value):=ps.foldl (fun acc kv=>stored acc kv.1 kv.2) acc
theorem xS(a:List (K×Value))(k:K)(v:Value):(stored a k v).length<=a.length+1:=by
 unfold stored;split
 ·rw[vt];exact Nat.le_succ _
 ·rw[vn];exact vb _
theorem dul{R:Result->Shared->Prop}{d it l:Addr}{items:List Value}{res:Value}(N:A.handled=none)(h:d≠it)(q:d≠l)(r:it≠l) :
  ∀(ps:List (K×Value)) (i:Nat) (c:List (K×Value)) (s:Shared),s.heap.IsListIter it l i->s.heap.IsList l items.toArray->(items.length=i+ps.length)->
   (∀j kv,ps[j]?=some kv->∃a key,items[i+j]?=some (.ref a)/\IsTup s.heap a #[key,kv.2]/\knd.is kv.1 key=true/\a≠d/\a≠it)->s.heap.DictOf knd d c->c.length+ps.length<=sizeLine->
   (∀h' tk,(∀b o,b≠d->b≠it->s.heap.get? b=some o->h'.get? b=some o)->h'.DictOf knd d (foldS c ps)->R (.ok (.ret res)) {s with heap:=h',toks:=tk})->
   codeAny (model prog w) A (.builtin "dict.update.loop" ⟨[.ref d,.ref it,rawInt i,res],[]⟩) R s
 | [],i,c,s,hit,hl,hn,hp,hd,hz,hR=>by
  refine codeAny_builtin Ks ?_;rw[Around.under_plainId Zo _];show wpAny _ A.in1 (pyNext (.ref it) >>= _) _ _ s;refine uf (wpAny_pyNext_list_end (A:=A.in1) N hit hl (by simp;simp at hn;lia) fun h' M=>?_);show wpAny _ A.in1 (Builtin.Dict.addKeywords d [] >>= _) _ _ _;refine uf (ue (ue (hR h' s.toks (fun b o _ C e=>M b o C e) ?_)));exact hd.extBut M h
 | kv::ps,i,c,s,hit,hl,hn,hp,hd,hz,hR=>by
  obtain⟨a,key,W,ht,Z,X,B⟩:=hp 0 kv rfl;refine codeAny_builtin Ks ?_;rw[Around.under_plainId Zo _];show wpAny _ A.in1 (pyNext (.ref it) >>= _) _ _ s;refine uf (wpAny_pyNext_list_item (A:=A.in1) hit hl (x:=.ref a) (by simpa using W) fun y t L=>?_);obtain⟨ot,Q,oc,n,od⟩:=ht;have p:y.get? a=some ot:=(L.2 a B).trans Q;show wpAny _ A.in1 (holding [Value.ref a] _ >>= _) _ _ _;refine uf (wpAny_holding ?_);refine uf (wpAny_tryCatch ?_);unfold Builtin.Dict.pairItems;refine uf (wpAny_typeOf (T:="tuple") ⟨_,p,oc⟩ ?_);show wpAny _ A.in1 (if((Value.type "tuple"== Value.type "list")||(Value.type "tuple"== Value.type "tuple"))=true then _ else _) _ _ _;rw[vd (by decide)];refine uf (wpAny_seqItems p od ?_);refine ue ?_;show wpAny _ A.in1 (holding [key,kv.2] (dictSet d key kv.2)) _ _ _;have D:y.DictOf knd d c:=hd.extBut (fun b o C e=>(L.2 b C).trans e) h;refine wpAny_holding (wpAny_dictSet_pairs (s:={s with heap:=y}) Z D (fun S E v=>?_) (by simp at hz;lia));show wpAny _ A.in1 (again _) _ _ _;refine ue ⟨plainId_quiet Zo _,?_⟩;have I:∀b o,b≠d->b≠it->s.heap.get? b=some o->S.get? b=some o:=fun b o f g e=>(v.2 b f).trans ((L.2 b g).trans e)
  have sl:=xS c kv.1 kv.2;refine dul N h q r ps (i+1) (stored c kv.1 kv.2) _ (t.at fun o e=>(v.2 it h.symm).trans e) (hl.at fun o e=>I l o q.symm r.symm e) (by simp at hn;lia) (fun j J Y=>?_) E (by simp at hz;lia) fun U tk k3 F=>?_
  ·obtain⟨O,u,z,H,G,k,m⟩:=hp (j+1) J (by simpa using Y);obtain⟨o',P,r'⟩:=H;exact⟨O,u,by rw[<-z];congr 1;lia,⟨o',I _ _ k m P,r'⟩,G,k,m⟩
  ·exact hR U tk (fun b o f g e=>k3 b o f g (I b o f g e)) F
end
open PySem PySem.W PyProof.Rows
section
variable{n:Nat}{key:Nat->Int}{p:Array Nat}
noncomputable def Tw(n:Nat)(key:Nat->Int){α:Type}:KasT α->(α->Prop)->Prop
 | .ret a,Q=>Q a
 | .ask i j k,Q=>i<n/\j<n/\Tw n key (k (decide (key i<key j))) Q
theorem Tw.bind{b c:Type}{f:b->KasT c}{Q:c->Prop}:∀{t:KasT b},Tw n key t (fun a=>Tw n key (f a) Q)->Tw n key (t.bind f) Q
 | .ret _,h=>h
 | .ask _ _ _,h=>⟨h.1,h.2.1,Tw.bind h.2.2⟩
theorem Tw.mono{d:Type}{Q b:d->Prop}(c:∀a,Q a->b a):∀{t:KasT d},Tw n key t Q->Tw n key t b
 | .ret _,h=>c _ h
 | .ask _ _ _,h=>⟨h.1,h.2.1,Tw.mono c h.2.2⟩
theorem Tw.run{d:Type}{b:Nat->Nat->(Bool->Shared->Prop)->Shared->Prop}{Q:d->Shared->Prop}(c:∀i j C,i<n->j<n->C (decide (key i<key j)) s->b i j C s) :
  ∀{t:KasT d},Tw n key t (fun a=>Q a s)->t.kasWp b Q s
 | .ret _,h=>h
 | .ask i j k,h=>c i j _ h.1 h.2.1 (Tw.run c h.2.2)
theorem Tw.asks{a:Type}{k:Bool->KasT a}{Q:a->Prop}(hi:i<n)(e:j<n)(b:key i<key j->Tw n key (k true) Q)(d:¬key i<key j->Tw n key (k false) Q):Tw n key (.ask i j k) Q:=by
 refine⟨hi,e,?_⟩;by_cases c:key i<key j
 ·rw[vG c];exact b c
 ·rw[vH c];exact d c
def Pk(n:Nat)(p:Array Nat):Prop:=p.toList.Perm (List.range n)
noncomputable def kv(key:Nat->Int)(p:Array Nat)(i:Nat):Int:=key (p.getD i 0)
def Up(key:Nat->Int)(p:Array Nat)(k:Nat):Prop:=∀i j,i<=j->j<k->kv key p i<=kv key p j
def Dn(key:Nat->Int)(p:Array Nat)(k:Nat):Prop:=∀i j,i<=j->j<k->kv key p j<=kv key p i
def Eqs(key:Nat->Int)(p:Array Nat)(m q:Nat):Prop:=∀k,m-(q+1)<=k->k<m->kv key p k=kv key p (m-1)
theorem Pk.size(h:Pk n p):p.size=n:=by have:=h.length_eq;simpa using this
theorem Pk.lt(h:Pk n p)(a:0<n)(i:Nat):p.getD i 0<n:=by
 rw[Array.getD_eq_getD_getElem?];cases e:p[i]? with
 | none=>exact a
 | some x=>exact v6.mp (h.mem_iff.mp (Array.mem_toList_iff.mpr (Array.mem_of_getElem? e)))
theorem Pk.of(h:Pk n p)(a:q.Perm p):Pk n q:=(Array.perm_iff_toList_perm.mp a).trans h
theorem Wt(h:a[i]?=b[j]?):kv key a i=kv key b j:=by
 unfold kv;rw[Array.getD_eq_getD_getElem?,Array.getD_eq_getD_getElem?,h]
theorem xu(a:j<=p.size)(k:Nat):kv key (kas_rev p i j) k=if i<=k/\k<j then kv key p (i+j-1-k)else kv key p k:=by
 have h:=getElem?_mirror_all (xs:=p) (i:=i) a k;split
 ·rename_i c;rw[vd c]at h;exact Wt h
 ·rename_i c;rw[vc c]at h;exact Wt h
theorem j4g(b:src<p.size)(a:d<=src)(k:Nat):kv key (bubble p src d) k=if k=src-d then kv key p src else if src-d<k/\k<=src then kv key p (k-1)else kv key p k:=by
 have h:=getElem?_bubble (xs:=p) b d a k;split
 ·rename_i c;rw[vd c]at h;exact Wt h
 ·rename_i c;rw[vc c]at h;split
  ·rename_i c';rw[vd c']at h;exact Wt h
  ·rename_i c';rw[vc c']at h;exact Wt h
theorem Up.snoc(h:Up key p m)(d:1<=m)(f:¬kv key p m<kv key p (m-1)):Up key p (m+1):=fun i j a g=>by
 by_cases e:j<m
 ·exact h i j a e
 ·have c:j=m:=by lia
  subst c;by_cases b:i=j
  ·rw[b];exact vA _
  ·have:=h i (j-1) (by lia) (by lia);lia
theorem Dn.snoc(h:Dn key p m)(d:1<=m)(f:kv key p m<=kv key p (m-1)):Dn key p (m+1):=fun i j a g=>by
 by_cases e:j<m
 ·exact h i j a e
 ·have c:j=m:=by lia
  subst c;by_cases b:i=j
  ·rw[b];exact vA _
  ·have:=h i (j-1) (by lia) (by lia);lia
theorem j2d(a:Pk n p):∀f m,1<=m->m+f<=n->Up key p m->Tw n key (kas_asc p f m) fun r=>m<=r/\r<=m+f/\Up key p r/\(r<m+f->kv key p r<kv key p (r-1))
 | 0,m,h1,hn,hu=>⟨vb _,vb _,hu,fun h=>ud h (Nat.lt_irrefl _)⟩
 | f+1,m,h1,hn,hu=>by
  refine Tw.asks (a.lt (by lia) _) (a.lt (by lia) _) (fun c=>?_) (fun c=>?_)<;>simp only[Bool.false_eq_true,if_true,if_false]
  ·exact⟨vb _,by lia,hu,fun _=>c⟩
  ·exact Tw.mono (fun r h=>⟨by lia,by lia,h.2.2.1,fun b=>h.2.2.2 (by lia)⟩) (j2d a f (m+1) (by lia) (by lia) (hu.snoc h1 c))
theorem Xr(b:m<=p.size)(a:Eqs key p m q)(k:Nat):kv key (kas_rev p (m-(q+1)) m) k=kv key p k:=by
 rw[xu b];split
 ·rename_i c;rw[a k c.1 c.2,a _ (by lia) (by lia)]
 ·rfl
theorem Wa:∀f (p:Array Nat) m q,Pk n p->1<=m->m+f<=n->q+1<=m->Dn key p m->Eqs key p m q->
  Tw n key (kas_desc f p m q) fun r=>Pk n r.1/\m<=r.2.1/\r.2.1<=m+f/\Dn key r.1 r.2.1/\r.2.2+1<=r.2.1/\Eqs key r.1 r.2.1 r.2.2
 | 0,p,m,q,hp,h1,hn,hq,hd,he=>⟨hp,vb _,vb _,hd,hq,he⟩
 | f+1,p,m,q,hp,h1,hn,hq,hd,he=>by
  have t:=hp.size;refine Tw.asks (hp.lt (by lia) _) (hp.lt (by lia) _) (fun c=>?_) (fun c=>?_)<;>simp only[Bool.false_eq_true,if_true,if_false]
  ·have c:kv key p m<kv key p (m-1):=c;split
   ·have g:=Xr (key:=key) (p:=p) (m:=m) (q:=q) (by lia) he;have d:Pk n (kas_rev p (m-(q+1)) m):=hp.of (mirror_perm _ _ _ _);refine Tw.mono (fun r h=>⟨h.1,by lia,by lia,h.2.2.2⟩) (Wa f _ (m+1) 0 d (by lia) (by lia) (by lia) (fun i j b s=>?_) fun k l o=>?_)
    ·rw[g,g];exact hd.snoc h1 (by lia) i j b s
    ·rw[show k=m+1-1 by lia]
   ·refine Tw.mono (fun r h=>⟨h.1,by lia,by lia,h.2.2.2⟩) (Wa f p (m+1) 0 hp (by lia) (by lia) (by lia) (hd.snoc h1 (by lia)) fun k l o=>?_);rw[show k=m+1-1 by lia]
  ·have c:¬kv key p m<kv key p (m-1):=c;refine Tw.asks (hp.lt (by lia) _) (hp.lt (by lia) _) (fun a=>?_) (fun a=>?_)<;>simp only[Bool.false_eq_true,if_true,if_false]
   ·exact⟨hp,vb _,Nat.le_add_right m (f+1),hd,hq,he⟩
   ·have a:¬kv key p (m-1)<kv key p m:=a;refine Tw.mono (fun r h=>⟨h.1,by lia,by lia,h.2.2.2⟩) (Wa f p (m+1) (q+1) hp (by lia) (by lia) (by lia) (hd.snoc h1 (by lia)) fun k l o=>?_);rw[Nat.add_sub_cancel];by_cases e:k=m
    ·rw[e]
    ·rw[he k (by lia) (by lia)];lia
theorem j2f(c:Pk n p)(d:1<=m)(k:m<=n)(e:Dn key p m):Tw n key (kas_tail3 m n p) fun r=>Pk n r.2/\1<=r.1/\r.1<=n/\Up key r.2 r.1:=by
 have l:=c.size;have a:Pk n (kas_rev p 0 m):=c.of (mirror_perm _ _ _ _);have b:=xu (key:=key) (p:=p) (i:=0) (j:=m) (by lia);refine Tw.bind (Tw.mono (fun r h=>?_) (j2d a (n-m) m d (by lia) fun i j f g=>?_))
 ·exact⟨a,by lia,by lia,h.2.2.1⟩
 ·rw[b,b,vd ⟨va _,by lia⟩,vd ⟨va _,g⟩];exact e _ _ (by lia) (by lia)
theorem j2e(t:Pk n p)(u:m+1<=n)(o:Dn key p (m+1)):Tw n key (kas_descPart m n p) fun r=>Pk n r.2/\1<=r.1/\r.1<=n/\Up key r.2 r.1:=by
 refine Tw.bind (Tw.mono (fun r h=>?_) (Wa (n-(m+1)) p (m+1) 0 t (by lia) (by lia) (by lia) o fun k v w=>by rw[show k=m+1-1 by lia]));obtain⟨a,b,c,d,e,g⟩:=h;have x:=a.size;split
 ·have l:=Xr (key:=key) (p:=r.1) (m:=r.2.1) (q:=r.2.2) (by lia) g;exact j2f (a.of (mirror_perm _ _ _ _)) (by lia) (by lia) fun i j f s=>by rw[l,l];exact d i j f s
 ·exact j2f a (by lia) (by lia) d
theorem j3v(g:Pk n p)(t:1<=n):Tw n key (kas_count n p) fun r=>Pk n r.2/\1<=r.1/\r.1<=n/\Up key r.2 r.1:=by
 have y:=g.size;refine Tw.bind (Tw.mono (fun r h=>?_) (j2d (key:=key) g (n-1) 1 (by lia) (by lia) fun i j l m=>by rw[show i=j by lia];exact vA _));obtain⟨a,b,c,d⟩:=h;split
 ·exact⟨g,a,by lia,c⟩
 rename_i hne;have w:r<n:=by
  have:r≠n:=fun e=>hne (by rw[e];simp)
  lia
 have d:=d (by lia);split
 ·refine Tw.asks (g.lt (by lia) _) (g.lt (by lia) _) (fun q=>?_) (fun q=>?_)<;>simp only[Bool.false_eq_true,if_true,if_false]
  ·exact⟨g,a,by lia,c⟩
  ·have q:¬kv key p 0<kv key p (r-1):=q;have v:=xu (key:=key) (p:=p) (i:=0) (j:=r) (by lia);have f:∀i,i<r->kv key p i=kv key p (r-1):=fun i u=>by
    have t:=c 0 i (va _) u;have x:=c i (r-1) (by lia) (by lia);lia
   have k:∀i,kv key (kas_rev p 0 r) i=kv key p i:=fun i=>by
    rw[v];split
    ·rename_i q';rw[f _ q'.2,f _ (by lia)]
    ·rfl
   refine j2e (g.of (mirror_perm _ _ _ _)) (by lia) fun i j l m=>?_
   rw[k,k];by_cases e:j=r
   ·by_cases o:i=r
    ·rw[e,o];exact vA _
    ·rw[e,f i (by lia)];lia
   ·rw[f i (by lia),f j (by lia)];exact vA _
 ·have s:r=1:=by lia
  subst s;refine j2e g (by lia) fun i j l m=>?_
  rcases(by lia:(i=0/\j=0)\/(i=0/\j=1)\/(i=1/\j=1))with⟨rfl,rfl⟩ | ⟨rfl,rfl⟩ | ⟨rfl,rfl⟩
  ·exact vA _
  ·have:kv key p 1<kv key p (1-1):=d;exact Int.le_of_lt this
  ·exact vA _
theorem Wb(e:Pk n p)(c:k<n)(g:Up key p k):∀f l r,l<=r->r<=k->r-l<=f->(∀i,i<l->kv key p i<=kv key p k)->(∀i,r<=i->i<k->kv key p k<kv key p i)->
  Tw n key (kas_place p k f l r) fun m=>m<=k/\(∀i,i<m->kv key p i<=kv key p k)/\∀i,m<=i->i<k->kv key p k<kv key p i
 | 0,l,r,h1,h2,h3,a,b=>⟨by lia,a,fun i d=>b i (by lia)⟩
 | f+1,l,r,h1,h2,h3,a,b=>by
  unfold kas_place;split
  ·exact⟨by lia,a,fun i d=>b i (by lia)⟩
  refine Tw.asks (e.lt (by lia) _) (e.lt (by lia) _) (fun q=>?_) (fun q=>?_)<;>simp only[Bool.false_eq_true,if_true,if_false]
  ·have q:kv key p k<kv key p ((l+r)/2):=q;exact Wb e c g f l _ (by lia) (by lia) (by lia) a fun i d h=>by
    have:=g ((l+r)/2) i d h;lia
  ·have q:¬kv key p k<kv key p ((l+r)/2):=q;exact Wb e c g f _ r (by lia) h2 (by lia) (fun i d=>by
    have:=g i ((l+r)/2) (by lia) (by lia);lia) b
theorem j3P:∀f (p:Array Nat) k,Pk n p->k+f<=n->Up key p k->Tw n key (kas_bin f p k) fun q=>Pk n q/\Up key q (k+f)
 | 0,p,k,hp,hn,hu=>⟨hp,hu⟩
 | f+1,p,k,hp,hn,hu=>by
  have t:=hp.size;refine Tw.bind (Tw.mono (fun l h=>?_) (Wb hp (by lia) hu k 0 k (va _) (vb _) (by lia) (fun i o=>ud o (Nat.not_lt_zero _)) fun i e m=>ud e (by lia)));obtain⟨a,b,c⟩:=h;have g:=j4g (key:=key) (p:=p) (src:=k) (d:=k-l) (by lia) (by lia);refine Tw.mono (fun q h=>⟨h.1,by rw[show k+(f+1)=k+1+f by lia];exact h.2⟩) (j3P f _ (k+1) (hp.of (bubble_perm _ _ _)) (by lia) fun i j r s=>?_);rw[g,g,show k-(k-l)=l by lia]
  repeat' split
  all_goals first
   | exact vA _
   | (exfalso;lia)
   | exact Int.le_of_lt (c _ (by lia) (by lia))
   | exact b _ (by lia)
   | exact hu _ _ (by lia) (by lia)
   | (have e:=b i (by lia);have m:=c (j-1) (by lia) (by lia);lia)
theorem j4E(f:1<=n):Tw n key (kas_sort n) fun q=>Pk n q/\Up key q n:=by
 have g:Pk n (List.toArray (List.range n)):=List.Perm.refl _;refine Tw.bind (Tw.mono (fun r h=>?_) (j3v (key:=key) g f));obtain⟨a,b,c,d⟩:=h;split
 ·refine Tw.mono (fun q h=>⟨h.1,?_⟩) (j3P (n-max r.1 1) r.2 (max r.1 1) a (by lia) (by rw[show max r.1 1=r.1 by lia];exact d));have e:max r.1 1+(n-max r.1 1)=n:=by lia
  rw[e]at h;exact h.2
 ·have e:r.1=n:=by lia
  exact⟨a,by rw[<-e];exact d⟩
end
section
variable{prog:Program}{w:World}{A:Around}{E:Value->Shared->Prop}{s:Shared}
def PrAt(h:Heap)(as:List Addr)(key:Nat->Int):Prop:=∀i a,as[i]?=some a->∃o t u n,h.get? a=some o/\o.cls = .type "tuple"/\o.data = .seq #[.int (key i) t,u] n
theorem PrAt.keep{key:Nat->Int}(x:PrAt h as key)(k:∀a∈as,∀o,h.get? a=some o->h'.get? a=some o):PrAt h' as key:=fun i a e=>by
 obtain⟨o,t,u,n,q,r⟩:=x i a e;exact⟨o,t,u,n,k a (vm e) _ q,r⟩
theorem j56{key:Nat->Int}(x:PrAt s.heap as key)(d:∀i j,i<as.length->j<as.length->key i=key j->i=j){C:Bool->Shared->Prop}(hi:i<as.length)(b:j<as.length)
  (h:C (decide (key i<key j)) s):kas_ask prog w A (tuples' true) (as.map Value.ref) i j C s:=by
 unfold kas_ask;obtain⟨o,t,u,n,k,B,f⟩:=x i _ (vz hi);obtain⟨y,z,m,E,l,D,g⟩:=x j _ (vz b);have p:(as.map Value.ref).getD i Value.none = .ref as[i]:=by rw[vy,vv,vz hi];rfl
 have q:(as.map Value.ref).getD j Value.none = .ref as[j]:=by rw[vy,vv,vz b];rfl
 rw[p,q];refine kat_lt k f l g ?_;show KatLex prog w A true _ C [(.int (key i) t,.int (key j) z),(u,m)] 0 s;refine kat_cons (wpAny_eqBool_int ?_);by_cases c:key i=key j
 ·have v:=d i j hi b c;subst v;rw[beq_self_eq_true];have r:u=m:=by
   have e:o=y:=vL (k.symm.trans l);subst e;have e:=f.symm.trans g;injection e with e _;have:=congrArg (fun a:Array Value=>a[1]?) e;simpa using this
  subst r;refine kat_yes (kat_cons (SeqAt.EqAt.same _ _ _ _ _ ?_));refine kat_yes (kat_nil ?_);rw[vH (Int.lt_irrefl _)]at h;exact h
 ·rw[beq_false_of_ne c];exact kat_no (oneLt_int h)
theorem XC{key:Nat->Int}:∀{as:List Addr} (_:PrAt h as key),∃fs,KatTups h (as.map Value.ref) fs/\fs.length=as.length/\∀v∈fs,∃n t,v=Value.int n t
 | [],_=>⟨[],KatTups.nil,rfl,fun v g=>nomatch g⟩
 | a::r,x=>by
  obtain⟨o,t,u,n,q,c,d⟩:=x 0 a rfl;obtain⟨fs,k,l,f⟩:=XC (key:=fun i=>key (i+1)) (as:=r) fun i b e=>x (i+1) b (by simpa using e)
  refine⟨.int (key 0) t::fs,KatTups.cons q c d rfl k,by rw[vQ,l,vQ],fun v g=>?_⟩;rcases mem_cons.mp g with rfl | g
  ·exact⟨_,_,rfl⟩
  ·exact f v g
theorem j3C(vs:List Value):(vs.toArray.zip vs.toArray).map (·.2)=vs.toArray:=by
 apply Array.toList_inj.mp;rw[Array.toList_map,Array.toList_zip];exact List.map_snd_zip (vb _)
theorem j0m(vs:List Value):(List.range vs.length).map (fun i=>vs.getD i Value.none)=vs:=by
 refine ext_getElem (by simp) fun i b a=>?_
 rw[getElem_map,getElem_range,vy,vz a];rfl
theorem j1O:∀{l:List Int},l.length<2->l.Pairwise (·<=·)
 | [],_=>.nil
 | [_],_=>pairwise_singleton _ _
 | _::_::_,h=>ud h (by rw[vQ,vQ];lia)
theorem j28{key:Nat->Int}{P:PySem.Fin->Shared->Prop}(d:s.heap.get? a=some (seqObj "list" (as.map Value.ref).toArray c0))(S:a∉as)(x:PrAt s.heap as key)
  (U:∀i j,i<as.length->j<as.length->key i=key j->i=j) (O:as.length<64)
  (D:∀(q:List Nat) (h':Heap) (c:Nat),q.Perm (List.range as.length)->(q.map key).Pairwise (·<=·)->(∀b o,b≠a->s.heap.get? b=some o->h'.get? b=some o)->
   h'.get? a=some (seqObj "list" ((q.map fun i=>as.getD i 0).map Value.ref).toArray c)->P (.done (.ret .none)) {s with heap:=h'}) :
  wpAny (model prog w) A (Builtin.«list.sort» ⟨[.ref a],[]⟩) P E s:=by
 have a5:a<s.heap.objs.size:=vI d;obtain⟨u,k⟩:∃u,(s.heap.update a (Obj.mapSeq fun _=>(#[]:Array Value))).get? a=some (seqObj "list" #[] u):=⟨_,get?_update_seq d fun _=>#[]⟩
 have X:=Heap.SameBut.update s.heap a (Obj.mapSeq fun _=>(#[]:Array Value));rw[list_sort_plain];refine uf (listItems_at (s:=s) d rfl ?_);refine uf (listUpdate_at (s:=s) d rfl ?_ (by rw[size_toArray,vt,sizeLine_eq];lia) (va _));refine uf (seqEpoch_at (n:=u) k rfl ?_);refine uf (wpAny_newTuple ?_ (by show(as.map Value.ref).length<=_;rw[vt,sizeLine_eq];lia));refine uf (wpAny_newList ?_ (va (sizeLine)));refine wpAny_holding ?_;generalize Y:((s.heap.update a (Obj.mapSeq fun _=>(#[]:Array Value))).push (seqObj "tuple" (as.map Value.ref).toArray 0)).push (seqObj "list" #[] 0)=hX;have kX:∀b o,b≠a->s.heap.get? b=some o->hX.get? b=some o:=fun b o y e=>by
  rw[<-Y];exact vJ _ (vJ _ ((X.2 b y).trans e))
 have F:hX.get? a=some (seqObj "list" #[] u):=by
  rw[<-Y];exact vJ _ (vJ _ k)
 have xX:PrAt hX as key:=x.keep fun b y o e=>kX b o (fun z=>S (z▸y)) e
 show wpAny (model prog w) A _ P E {s with heap:=hX};dsimp only;have K:(as.map Value.ref).toArray.size=as.length:=by rw[size_toArray,vt]
 have H:∀q:List Nat,q.Perm (List.range as.length)->(List.map (fun i=>(as.map Value.ref).getD i Value.none) q)=(q.map fun i=>as.getD i 0).map Value.ref:=fun q M=>by
  rw[v8];refine map_congr_left fun i B=>?_
  have hl:i<as.length:=v6.mp (M.mem_iff.mp B);show(as.map Value.ref).getD i Value.none=Value.ref (as.getD i 0);rw[vy,vy,vv,vz hl];rfl
 have g:∀(q:List Nat),q.Perm (List.range as.length)->(q.map key).Pairwise (·<=·)->∀r:Array Value,r=(List.map (fun i=>(as.map Value.ref).getD i Value.none) q).toArray->
   P (.done (.ret .none)) {s with heap:=hX.update a (Obj.mapSeq fun _=>r)}:=fun q M hs r ho=>by
  subst ho;have o2:=get?_update_seq F fun _=>(List.map (fun i=>(as.map Value.ref).getD i Value.none) q).toArray
  have J:=Heap.SameBut.update hX a (Obj.mapSeq fun _=>(List.map (fun i=>(as.map Value.ref).getD i Value.none) q).toArray);rw[H q M]at o2 J|-;exact D q _ _ M hs (fun b o y e=>(J.2 b y).trans (kX b o y e)) o2
 by_cases l:(as.map Value.ref).toArray.size<2
 ·rw[vd l,vd l];refine uf (ue ?_);rw[StateT.run_pure];refine uf (ue ?_);dsimp only;refine uf (seqEpoch_at (n:=u) F rfl ?_);have eo:(arrOf (SortSt.mk' general' ((as.map Value.ref).toArray.zip (as.map Value.ref).toArray) #[] 7 none)).map (·.2)=(List.map (fun i=>(as.map Value.ref).getD i Value.none) (List.range as.length)).toArray:=by
   have e:=j0m (as.map Value.ref);rw[vt]at e;rw[e];exact j3C _
  rw[eo];refine uf (listUpdate_at (s:={s with heap:=hX}) F rfl ?_ (va _) (by rw[size_toArray,vt,length_range,sizeLine_eq];lia));simp only[bne_self_eq_false,Bool.false_eq_true,if_false];refine ue (g (List.range as.length) (List.Perm.refl _) ?_ _ rfl);rw[K]at l;exact j1O (by rw[vt,length_range];exact l)
 ·rw[vc l,vc l];rw[K]at l;obtain⟨fs,kt,kl,ki⟩:=XC xX;have a0:hX=({s with heap:=hX}:Shared).heap:=rfl;refine uf (kat_kind (s:={s with heap:=hX}) (T:=Value.type "int") kt (by lia) (fun v hv=>?_) (by decide) ?_)
  ·obtain⟨m,t,rfl⟩:=ki v hv;exact Looks.of_pure rfl
  refine uf (wpAny_mono (kat_run (s:={s with heap:=hX}) (ks:=as.map Value.ref) (vs:=as.map Value.ref) (κ:=tuples' true) (Q:=fun f I=>∃p:Array Nat,Pk as.length p/\Up key p as.length/\arrOf f=p.map (kas_item ((as.map Value.ref).toArray.zip (as.map Value.ref).toArray))/\failedOf f=none/\I={s with heap:=hX}) (G:=fun p I=>Pk as.length p/\Up key p as.length/\I={s with heap:=hX})
   rfl (by rw[vt];lia) (by rw[vt];exact O) (fun p f I _ a2 a3 N=>⟨p,N.1,N.2.1,a2,a3,N.2.2⟩) ?_) ?_ fun _ _ e=>e)
  ·rw[vt];exact Tw.run (n:=as.length) (key:=key) (fun i j C B L hC=>j56 xX U B L hC) (Tw.mono (fun q h=>⟨h.1,h.2,rfl⟩) (j4E (key:=key) (by lia)))
  rintro⟨⟨⟩,f⟩ I ⟨p,Z,hu,R,hf,rfl⟩;dsimp only;rw[kat_snds rfl R];refine uf (seqEpoch_at (n:=u) F rfl ?_);have W:=Z.size;refine uf (listUpdate_at (s:={s with heap:=hX}) F rfl ?_ (va _) (by rw[size_toArray,vt,Array.length_toList,W,sizeLine_eq];lia));rw[hf];simp only[bne_self_eq_false,Bool.false_eq_true,if_false];refine ue (g p.toList Z ?_ _ rfl);refine pairwise_map.mpr (pairwise_iff_getElem.mpr fun i j B L a1=>?_);rw[Array.length_toList]at B L;have:=hu i j (by lia) (by lia);unfold kv at this;rw[Array.getD_eq_getD_getElem?,Array.getD_eq_getD_getElem?,Array.getElem?_eq_getElem B,Array.getElem?_eq_getElem L]at this;exact this
end
open PySem PySem.Spec PySem.W PyProof.Rows
section
variable{X:Cx}{pins:List (Addr×Obj)}{σ:St}{H:Hp}{s:Shared}
def NewA(X:Cx)(pins:List (Addr×Obj))(T:Addr):Prop:=X.s₀.heap.objs.size<=T/\T≠X.env.locals/\(∀x c,X.env.cells.lookup x=some c->c≠T)/\∀p∈X.pn++pins,p.1≠T
theorem Inv.newA(I:Inv X pins σ H s)(a:s.heap.objs.size<=T):NewA X pins T:=by
 obtain⟨_,b,_,_,c,d⟩:=I.fpOk (H':=fun _=>none) a rfl;exact⟨vW I.sz a,b,c,d⟩
theorem ObjOk.obj(x:ObjOk P w H h a o):∃u,h.get? a=some u:=by
 cases o with
 | lst xs=>obtain⟨_,_,_,_,e⟩:=x;exact⟨_,e⟩
 | tup xs=>obtain⟨_,_,_,u,e,_⟩:=x;exact⟨u,e⟩
 | dK kvs=>obtain⟨_,_,_,_,u,_,_,e,_⟩:=x;exact⟨u,e⟩
 | dT kvs=>obtain⟨_,_,_,_,u,_,_,e,_⟩:=x;exact⟨u,e⟩
 | set S n=>obtain⟨u,_,_,_,e,_⟩:=x;exact⟨u,e⟩
 | ins C dx fs=>obtain⟨_,_,_,e,_⟩:=x;exact⟨_,e⟩
 | own y=>exact x
 | xd fs=>obtain⟨_,⟨u,_,_,e,_⟩,_⟩:=x;exact⟨u,e⟩
 | rng lo hi=>obtain⟨_,_,_,e⟩:=x;exact⟨_,e⟩
 | frz u v=>exact⟨_,x.1⟩
 | tbl ps=>exact⟨_,x⟩
 | met f y=>exact⟨_,x⟩
 | ext φ=>exact x.2.1
theorem Inv.none_at{a:Heap}(I:Inv X pins σ H s)(c:∀b o,s.heap.get? b=some o->a.get? b=some o):H a.objs.size=none:=by
 cases e:H a.objs.size with
 | none=>rfl
 | some u=>
  obtain⟨v,q⟩:=(I.hok _ _ e).obj;exact ud (vI (c _ _ q)) (Nat.lt_irrefl _)
theorem Inv.newB{a:Heap}(I:Inv X pins σ H s)(h:∀b o,s.heap.get? b=some o->a.get? b=some o):NewA X pins a.objs.size:=by
 have f:∀b o,s.heap.get? b=some o->b<a.objs.size:=fun b o e=>vI (h b o e)
 obtain⟨m,⟨o,_,_,d,_⟩,_⟩:=I.loc;have g:=f _ _ d;refine⟨vY (vD I.ok.above g),Nat.ne_of_gt g,fun x c e=>?_,fun p i=>vE (f _ _ (I.pin p i).1)⟩;obtain⟨v,o,d,_⟩:=I.cell x c e;exact vE (f _ _ d)
theorem Inv.track(I:Inv X pins σ H s)(h:H T=none)(d:NewA X pins T)(g:ObjOk X.prog X.w (upd H T o) s.heap T o):Inv X pins σ (upd H T o) s:=by
 have a:∀b u,H b=some u->b≠T:=fun b u e z=>by rw[z,h]at e;cases e
 refine I.step (h':=s.heap) (H':=upd H T o) (g':=s.gens) (d':=s.drawn) (t':=s.toks) (ch:=[T]) (fun b f=>?_) (fun b o _ _ _ e _=>e) (fun b o _ _ _ e _=>⟨o.slots,e⟩) (fun b u f _ n=>?_) (fun b u _ e=>⟨u,e⟩)
  (fun b k e=>(jh (a _ _ e)).trans e) (fun b u v e=>(jh (a _ _ e)).trans e) (fun b j e=>⟨#[],by rw[jh (a _ _ e),e];simp⟩) (fun m i=>i) (fun b u e=>?_) I.bare
 ·have e:b=T:=by simpa using f
  subst e;exact⟨.inr d.1,d.2.1,d.2.2.1,d.2.2.2⟩
 ·exact(jh fun z=>f (by simp[z])).trans n
 ·by_cases z:b=T
  ·subst z;rw[jq]at e;cases e;exact g
  ·rw[jh z]at e;exact(I.hok b u e).stay (fun c v _ q=>q) (fun c q=>(jh (a _ _ q)).trans q) fun c l q=>(jh (a _ _ q)).trans q
theorem Inv.trackAll:∀(e:List (Addr×HO)) {H:Hp},Inv X pins σ H s->(∀p∈e,H p.1=none/\NewA X pins p.1/\∀H',ObjOk X.prog X.w H' s.heap p.1 p.2)->(e.map (·.1)).Nodup->∃H',Inv X pins σ H' s/\Same H H'/\∀p∈e,H' p.1=some p.2
 | [],H,I,_,_=>⟨H,I,Same.refl _,fun p d=>nomatch d⟩
 | w::r,H,I,h,nd=>by
  obtain⟨a,b,c⟩:=h w vq;rw[uy,nodup_cons]at nd;have g:=I.track a b (c _);obtain⟨H',i,f,m⟩:=Inv.trackAll r g (fun p d=>by
   obtain⟨j,k,l⟩:=h p (vp _ d);exact⟨(jh fun z:p.1=w.1=>nd.1 (by rw[<-z];exact vK.mpr ⟨p,d,rfl⟩)).trans j,k,l⟩) nd.2
  have n:Same H (upd H w.1 w.2):=fun b u q=>(jh (je q a)).trans q
  refine⟨H',i,n.trans f,fun p d=>?_⟩;rcases mem_cons.mp d with rfl | d
  ·exact f _ _ jq
  ·exact m p d
end
section
variable{X:Cx}
theorem valsR:∀as:List Addr,Vals (as.map V.ref) (as.map Value.ref)
 | []=>.nil
 | _::r=>.cons rfl (valsR r)
theorem KV.get{κ:Type}:∀{kvs:List (κ×V)} {vs:List (κ×Value)} {i:Nat} {p:κ×V},KV kvs vs->kvs[i]?=some p->∃q,vs[i]?=some q/\p.1=q.1/\RelV p.2 q.2
 | _,_,_,_,.nil,e=>by simp at e
 | _,_,0,_,.cons r _,e=>by simp at e;subst e;exact⟨_,rfl,r⟩
 | _,_,i+1,p,.cons _ t,e=>by
  obtain⟨q,a,b⟩:=KV.get (i:=i) (p:=p) t (by simpa using e);exact⟨q,by simpa using a,b⟩
theorem j0b:MtR X "dict.update" (fun x vs H Q=>∃d o kvs more,x = .ref d/\vs=[.ref o]/\H d=some (.dK kvs)/\H o=some (.dK more)/\d≠o/\kvs.length+more.length<=sizeLine/\Q .non (upd H d (.dK (mergeK kvs more)))):=by
 intro l s G H x vs v D Q I B A h;obtain⟨d,o,kvs,more,rfl,rfl,k,p,g,y,q⟩:=h;cases B;obtain⟨u,rfl,z⟩:=vals1 A;cases z;obtain⟨E,e,i,m,b⟩:=YX I.hok k;obtain⟨F,f,j,n,c⟩:=YX I.hok p;refine call_meetsIn PySem.F.slot_dict_update b.typeIs PySem.F.entry_dict_update (PySem.F.args_dict_update_2 _ _) (meets_dict_update (mixKind X.prog X.w) d o g f) ⟨i,j,b,c,by rw[<-m.length,<-n.length];exact y,fun r a _ w=>?_⟩;have t:∃q,r.get? d=some q:=let ⟨q,_,_,hq,_⟩:=a;⟨q,hq⟩;have C:=qE more kvs;exact⟨.non,_,ZY (t':=s.toks) I (by rw[k];exact True.intro) w t (we (by lia) e (n.merge m) a),rfl,q⟩
noncomputable def IView(v d:Addr):HO:=.ext fun h=>h.get? v=some {cls:=.type "dict_items",data:=.fields #[.ref d]}
theorem j1k:MtR X "dict.items" (fun x vs H Q=>∃d kvs,x = .ref d/\vs=[]/\H d=some (.dK kvs)/\∀v,H v=none->Q (.ref v) (upd H v (IView v d))):=by
 intro i s y H x vs v t Q I m l h;obtain⟨d,kvs,rfl,rfl,j,q⟩:=h;cases m;have f:=l.zero;subst f;obtain⟨w,c,g,r,a⟩:=YX I.hok j;refine call_meetsIn PySem.F.slot_dict_items a.typeIs PySem.F.entry_dict_items (PySem.F.args_dict_items_1 (.ref d)) (meets_dict_items (mixKind X.prog X.w) d c) ⟨⟨g,a⟩,?_⟩;have e:(s.heap.push {cls:=.type "dict_items",data:=.fields #[.ref d]}).get? s.heap.objs.size=some {cls:=.type "dict_items",data:=.fields #[.ref d]}:=Heap.get?_push_size _ rfl;exact⟨.ref s.heap.objs.size,_,I.laid (t':=s.toks) (o:=IView s.heap.objs.size d) (fun b u q=>vJ _ q) (vb _) (show ObjOk X.prog X.w _ _ _ (IView s.heap.objs.size d)from⟨e,⟨_,e⟩,fun n p q k=>k _ q⟩),rfl,q _ (I.hok.fresh (vb _))⟩
noncomputable def iiK(p:Int×Int):Key×V:=(Sum.inl p.1,.int p.2)
theorem K2(hc:X.calm=true):CallR X (.builtin "sorted") (fun xs H Q=>∃(v d:Addr) (kvs:List (Int×Int)),xs=[.ref v]/\H v=some (IView v d)/\H d=some (.dK (kvs.map iiK))/\kvs.length<64/\
  ∀(l:Addr) (as:List Addr) (ms:List (Int×Int)) (H':Hp),Same H H'->H l=none->H' l=some (.lst (as.map V.ref))->(∀a∈as,H a=none)->ms.Perm kvs->(ms.map (·.1)).Pairwise (·<=·)->as.length=ms.length->(∀(i:Nat) (a:Addr) (p:Int×Int),as[i]?=some a->ms[i]?=some p->H' a=some (.tup [.int p.1,.int p.2]))->Q (.ref l) H'):=by
 intro y s σ H xs us Q I r h;obtain⟨v,d,kvs,rfl,ev,ed,Z,q⟩:=h;obtain⟨u,rfl,ru⟩:=vals1 r;cases ru;obtain⟨z1,a4,N,r1,G⟩:=YX I.hok ed;have hv:s.heap.get? v=some {cls:=.type "dict_items",data:=.fields #[.ref d]}:=(I.hok v _ ev).1;obtain⟨ep,da⟩:=G.dictAt;have lv:=r1.length;rw[vt]at lv;have nd:(kvs.map (·.1)).Nodup:=by
  have R:(N.map (·.1)).Nodup:=let ⟨_,_,_,_,_,_,_,_,hn⟩:=G;hn;rw[<-r1.keys,v8]at R;refine pairwise_map.mpr ((pairwise_map.mp R).imp fun {a b} h e=>h ?_);show(Sum.inl a.1:Key)=Sum.inl b.1;rw[e]
 refine Calls.call_function_entry kind_sorted plain_sorted entry_sorted (args_sorted1 (.ref v)) ?_;unfold Builtin.«sorted»;refine uf (m:=checkCount "sorted" 1 1 1) (ue ?_);refine uf (kdx_collect (knd:=mixKind X.prog X.w) (kvs:=N) (ep:=ep) (A:=X.A.in1) (I.ok.hd hc) ⟨_,hv,rfl,rfl⟩ da (by rw[<-lv,sizeLine_eq];lia) fun g tk as P C J=>?_);rw[<-lv]at C;refine uf (wpAny_newList ?_ (by rw[vt,C,sizeLine_eq];lia));have K:(g.push (seqObj "list" (as.map Value.ref).toArray 0)).get? g.objs.size=some (seqObj "list" (as.map Value.ref).toArray 0):=Heap.get?_push_size _ rfl;have D:g.objs.size∉as:=fun z=>Nat.lt_irrefl _ (J.there z)
 have E:∀i p,kvs[i]?=some p->(fun i=>(kvs.getD i (0,0)).1) i=p.1/\(fun i=>(kvs.getD i (0,0)).2) i=p.2:=fun i p e=>by
  dsimp only;rw[vy,e];exact⟨rfl,rfl⟩
 have xQ:∀i a,as[i]?=some a->∃t u,(g.push (seqObj "list" (as.map Value.ref).toArray 0)).get? a=some {cls:=.type "tuple",data:=.seq #[.int ((fun i=>(kvs.getD i (0,0)).1) i) t,.int ((fun i=>(kvs.getD i (0,0)).2) i) u]}:=fun i a e=>by
  obtain⟨ky,k,x,O,w,e3⟩:=J.pairs i a e;have f:i<kvs.length:=by rw[<-C];exact(vx.mp e).1
  obtain⟨w',e4,a3⟩:=KV.get r1 (i:=i) (p:=iiK kvs[i]) (by rw[vv,vz f];rfl);rw[O]at e4;cases e4;obtain⟨ek,S,ex⟩:=a3;have T:k=Sum.inl kvs[i].1:=ek.symm;subst T;have U:x = .int kvs[i].2 S:=ex;subst U;obtain⟨W,Y⟩:=E i _ (vz f);rw[show(fun i=>(kvs.getD i (0,0)).1) i=kvs[i].1 from W,show(fun i=>(kvs.getD i (0,0)).2) i=kvs[i].2 from Y];rcases jW (show keyIs (Sum.inl kvs[i].1) ky=true from w)with⟨n,t,q1,q2⟩ | ⟨n,t,q1,q2⟩
  ·cases q1;subst q2;exact⟨t,S,vJ _ e3⟩
  ·cases q1
 have xP:PrAt (g.push (seqObj "list" (as.map Value.ref).toArray 0)) as (fun i=>(kvs.getD i (0,0)).1):=fun i a e=>by
  obtain⟨t,u,z⟩:=xQ i a e;exact⟨_,t,_,_,z,rfl,rfl⟩
 have a0:∀i j,i<as.length->j<as.length->(fun i=>(kvs.getD i (0,0)).1) i=(fun i=>(kvs.getD i (0,0)).1) j->i=j:=fun i j f B e=>by
  rw[C]at f B;obtain⟨W,_⟩:=E i _ (vz f);obtain⟨Y,_⟩:=E j _ (vz B);rw[W,Y]at e;rcases Nat.lt_trichotomy i j with z | z | z
  ·exact ud e (by have:=pairwise_iff_getElem.mp nd i j (by rw[vt];exact f) (by rw[vt];exact B) z;simpa using this)
  ·exact z
  ·exact ud e.symm (by have:=pairwise_iff_getElem.mp nd j i (by rw[vt];exact B) (by rw[vt];exact f) z;simpa using this)
 refine uf (wpAny_holding (wpAny_call_entry slot_list_sort ⟨_,K,rfl⟩ entry_list_sort (j28 (s:={s with heap:=g.push (seqObj "list" (as.map Value.ref).toArray 0),toks:=tk}) K D xP a0 (by rw[C];exact Z) fun M F c hq hs kk o2=>⟨_,rfl,?_⟩) (args_list_sort _)));refine ue ⟨_,rfl,?_⟩;have a1:∀b o,s.heap.get? b=some o->b<g.objs.size:=fun b o e=>vI (P b o e)
 have k2:∀b o,s.heap.get? b=some o->F.get? b=some o:=fun b o e=>kk b o (vE (a1 b o e)) (vJ _ (P b o e))
 have I2:Inv X y σ H {s with heap:=F,toks:=tk}:=I.kept (t':=tk) k2;have hB:H g.objs.size=none:=I.none_at P;have nB:=I.newB P;have ha:∀a∈as,H a=none/\NewA X y a:=fun a h=>⟨I.hok.fresh (vY (J.above a h)),I.newA (vY (J.above a h))⟩
 have L:∀i∈M,i<as.length:=fun i f=>v6.mp (hq.mem_iff.mp f)
 have a2:(((g.objs.size,HO.lst ((M.map fun i=>as.getD i 0).map V.ref))::(List.range as.length).map fun i=>(as.getD i 0,HO.tup [.int (kvs.getD i (0,0)).1,.int (kvs.getD i (0,0)).2])).map (·.1)).Nodup:=by
  rw[uy,nodup_cons,v8];have w:(List.range as.length).map ((fun x=>x.1)∘fun i=>(as.getD i 0,HO.tup [.int (kvs.getD i (0,0)).1,.int (kvs.getD i (0,0)).2]))=as:=ext_getElem (by simp) fun i g F=>by
   rw[getElem_map,getElem_range];show as.getD i 0=_;rw[vy,vz F];rfl
  rw[w];exact⟨D,J.rise.imp fun h=>vE h⟩
 obtain⟨H',I3,s3,k3⟩:=I2.trackAll ((g.objs.size,HO.lst ((M.map fun i=>as.getD i 0).map V.ref))::(List.range as.length).map fun i=>(as.getD i 0,HO.tup [.int (kvs.getD i (0,0)).1,.int (kvs.getD i (0,0)).2])) (fun p hp=>by
  rcases mem_cons.mp hp with rfl | hp
  ·refine⟨hB,nB,fun H'=>⟨?_,_,c,valsR _,o2⟩⟩;rw[vt,vt,hq.length_eq,length_range,C,sizeLine_eq];lia
  ·obtain⟨i,f,rfl⟩:=vK.mp hp;have f:=v6.mp f;have e:as[i]?=some (as.getD i 0):=by rw[vy,vz f];rfl
   obtain⟨t1,S,eo⟩:=xQ i _ e;have hm:=vm e;obtain⟨R,n2⟩:=ha _ hm;exact⟨R,n2,fun H'=>⟨(by show 2<=sizeLine;decide),[_,_],.cons ⟨t1,rfl⟩ (.cons ⟨S,rfl⟩ .nil),⟨_,kk _ _ (fun z=>D (z▸hm)) eo,rfl,_,rfl⟩⟩⟩) a2
 ·refine⟨.ref g.objs.size,H',I3,rfl,q g.objs.size (M.map fun i=>as.getD i 0) (M.map fun i=>kvs.getD i (0,0)) H' s3 hB (k3 _ vq) (fun a h=>?_) ?_ ?_ (by rw[vt,vt]) fun i a p O w=>?_⟩
  ·obtain⟨i,f,rfl⟩:=vK.mp h;have e:as[i]?=some (as.getD i 0):=by rw[vy,vz (L i f)];rfl
   exact(ha _ (vm e)).1
  ·have e:=hq.map fun i=>kvs.getD i (0,0)
   rw[C]at e;have w:(List.range kvs.length).map (fun i=>kvs.getD i (0,0))=kvs:=ext_getElem (by simp) fun i g F=>by
    rw[getElem_map,getElem_range,vy,vz F];rfl
   rw[w]at e;exact e
  ·rw[v8];exact hs
  ·rw[vv]at O w;obtain⟨j,B,rfl⟩:=vg.mp O;rw[B]at w;cases w;exact k3 _ (vp _ (vK.mpr ⟨j,v6.mpr (L j (vm B)),rfl⟩))
end
theorem Zs:∀{as:List Addr} {us:List Value},Vals (as.map V.ref) us->us=as.map Value.ref
 | [],_,r=>by cases r;rfl
 | a::as,_,r=>by
  cases r with
  | cons r1 r2=>rw[Zs r2,show _=Value.ref a from r1];rfl
theorem WH:∀{as:List Addr} {kvs:List (Int×Int)},as.length=kvs.length->(∀(i:Nat) (a:Addr) (q:Int×Int),as[i]?=some a->kvs[i]?=some q->∃t u,IsTup h a #[.int q.1 t,.int q.2 u])->
  ∃ps:List (Key×Value),KV (kvs.map iiK) ps/\ps.length=kvs.length/\∀(j:Nat) (kv:Key×Value),ps[j]?=some kv->∃a key,as[j]?=some a/\IsTup h a #[key,kv.2]/\keyIs kv.1 key=true
 | [],[],_,_=>⟨[],.nil,rfl,fun j kv e=>by simp at e⟩
 | [],_::_,l,_=>by simp at l
 | _::_,[],l,_=>by simp at l
 | a::as,q::kvs,l,f=>by
  obtain⟨ps,o,p,r⟩:=WH (as:=as) (kvs:=kvs) (by simpa using l) fun i a q m n=>f (i+1) a q (by simpa using m) (by simpa using n)
  obtain⟨t,u,e⟩:=f 0 a q rfl rfl;refine⟨(Sum.inl q.1,.int q.2 u)::ps,.cons ⟨rfl,u,rfl⟩ o,by rw[vQ,p,vQ],fun j kv c=>?_⟩;cases j with
  | zero=>simp at c;subst c;exact⟨a,_,rfl,e,Ku _ _⟩
  | succ j=>obtain⟨b,s,d,g,k⟩:=r j kv (by simpa using c);exact⟨b,s,by simpa using d,g,k⟩
section
variable{X:Cx}
theorem W7(G:X.calm=true):CallR X (.type "dict") (fun xs H Q=>∃(p:Addr) (as:List Addr) (kvs:List (Int×Int)),xs=[.ref p]/\H p=some (.lst (as.map V.ref))/\as.length=kvs.length/\
  (∀(i:Nat) (a:Addr) (q:Int×Int),as[i]?=some a->kvs[i]?=some q->H a=some (.tup [.int q.1,.int q.2]))/\∀d,H d=none->Q (.ref d) (upd H d (.dK (mergeK [] (kvs.map iiK))))):=by
 intro M s σ H xs us Q I r h;obtain⟨p,as,kvs,rfl,Z,B,ht,q⟩:=h;obtain⟨u,rfl,ru⟩:=vals1 r;cases ru;obtain⟨z,D,n,rv,lv,e⟩:=I.lstM Z;have W:=Zs rv;subst W;rw[vt]at z;have J:p<s.heap.objs.size:=vI e;obtain⟨ps,kp,N,pt⟩:=WH (h:=s.heap) B fun i a q S U=>by
  obtain⟨_,D,r',t'⟩:=I.hok a _ (ht i a q S U);cases r' with
  | cons ra rr=>
   cases rr with
   | cons rb rr=>
    cases rr;obtain⟨t1,rfl⟩:=ra;obtain⟨t2,rfl⟩:=rb;exact⟨t1,t2,t'⟩
 refine callType_codes (Q₁:=fun t g=>t = .ref s.heap.objs.size/\g={s with heap:=s.heap.push {cls:=.type "dict",data:=.dict #[]}}) PySem.F.kt_called_dict (PySem.F.kt_typeCall_dict_1 (.ref p)) PySem.F.entry_dict_init (kt_code_dict_new (.ref p) ⟨rfl,rfl⟩) ?_;rintro t g ⟨rfl,rfl⟩;have c:(s.heap.push {cls:=.type "dict",data:=.dict #[]}).DictOf (mixKind X.prog X.w) s.heap.objs.size []:=Heap.DictOf.new s.heap;have v:∀b o,s.heap.get? b=some o->(s.heap.push {cls:=.type "dict",data:=.dict #[]}).get? b=some o:=fun b o e=>vJ _ e
 generalize s.heap.push {cls:=.type "dict",data:=.dict #[]}=h0 at c v;refine⟨c.typeIs (s:={s with heap:=h0}),PySem.F.args_dict_init_2 _ _,?_⟩;unfold Builtin.«dict.__init__»;refine uf ?_;unfold Builtin.Dict.selfAndRest;refine uf (wpAny_notOrdered_dict (c.typeIs (s:={s with heap:=h0})) ?_);show wpAny (model X.prog X.w) _ (pure (s.heap.objs.size,[Value.ref p])) _ _ _;refine ue ?_;show wpAny (model X.prog X.w) _ (Builtin.Dict.updateFrom "dict.__init__" s.heap.objs.size (.ref p) [] .none) _ _ _;unfold Builtin.Dict.updateFrom;refine uf (wpAny_typeOf (T:="list") ⟨_,v _ _ e,rfl⟩ ?_);rw[vd (by decide)];refine uf (noKeys (s:={s with heap:=h0}) (v _ _ e) rfl rfl rfl (I.ok.hd G) fun m tk K=>?_);rw[vd (show(none:Option Value).isNone=true from rfl)];have f:∀b o,s.heap.get? b=some o->m.get? b=some o:=fun b o e=>K b o (v b o e)
 have k:m.DictOf (mixKind X.prog X.w) s.heap.objs.size []:=c.keep K;have w:s.heap.objs.size<m.objs.size:=by obtain⟨_,_,_,hg,_⟩:=k;exact vI hg
 have lp:p<m.objs.size:=Nat.lt_trans J w;refine uf (wpAny_rule ?_);refine uf (wpAny_pyIter_list (l:=p) (items:=(as.map Value.ref).toArray) ⟨_,f _ _ e,rfl,n,rfl⟩ ?_);refine ue ⟨plainId_quiet Zo _,?_⟩;refine dul (knd:=mixKind X.prog X.w) (A:=X.A.in1) (d:=s.heap.objs.size) (it:=m.objs.size) (l:=p) (items:=as.map Value.ref) (res:=.none) (I.ok.hd G) (vE w) (Nat.ne_of_gt J) (Nat.ne_of_gt lp) ps 0 [] _
  ⟨_,Heap.get?_push_size _ rfl,rfl,rfl⟩ ⟨_,vJ _ (f _ _ e),rfl,n,rfl⟩ (by rw[vt,B,N,Nat.zero_add]) (fun j kv Y=>?_) (k.push _) (by rw[length_nil,N,<-B,Nat.zero_add];exact z) fun h2 E k2 x=>?_
 ·obtain⟨a,ky,O,⟨o,F,P⟩,R⟩:=pt j kv Y;have L:a<s.heap.objs.size:=vI F;exact⟨a,ky,by rw[Nat.zero_add,vv,O];rfl,⟨o,vJ _ (f _ _ F),P⟩,R,vE L,vE (Nat.lt_trans L w)⟩
 ·refine⟨rfl,.ref s.heap.objs.size,upd H s.heap.objs.size (.dK (mergeK [] (kvs.map iiK))),I.laid (t':=E) (fun b o y=>k2 b o (vE (vI y)) (vE (Nat.lt_trans (vI y) w)) (vJ _ (f _ _ y))) (vb _) ?_,rfl,q _ (I.hok.fresh (vb _))⟩;have hm:=qE (kvs.map iiK) [];rw[length_nil,vt]at hm;have C:(s.heap.objs.size==sysModules)=false:=by
   rw[beq_eq_false_iff_ne];exact Nat.ne_of_gt I.big
  exact we (by lia) C (kp.merge .nil) x
end
theorem Zi{H:Hp}:∀(ks:List Int),DVs H (ks.map V.int) (ks.map PyData.int)
 | []=>.nil
 | k::r=>.cons (.int k) (Zi r)
theorem j2E(ks:List Int):PyData.eqv (.list (ks.map PyData.int)) (.list [])=decide (ks=[]):=by
 cases ks<;>simp[PyData.eqv,PyData.eqvAll]
theorem j4l(S:X.A.units+64<cLine):OpR X (compareOp .In) (fun x y H Q=>∃(a l:Addr) (as:List Addr) (hs:List (List Int)),x = .ref a/\y = .ref l/\H a=some (.lst [])/\H l=some (.lst (as.map V.ref))/\as.length=hs.length/\
  (∀(i:Nat) (b:Addr) (ks:List Int),as[i]?=some b->hs[i]?=some ks->H b=some (.lst (ks.map V.int)))/\Q (.bl (hs.any fun ks=>decide (ks=[]))) H):=by
 intro o s U H x y v u Q I L M h;obtain⟨a,l,as,hs,rfl,rfl,t,B,R,D,q⟩:=h;cases L;cases M;obtain⟨F,r,G,T⟩:=I.list (SqL.of B);have A:=Zs r;subst A;obtain⟨N,J⟩:=Qd I (DV.lst t .nil) (show RelV (.ref a) (.ref a)from rfl)
 classical
 have p:∀(i:Nat) (b:Addr) (ks:List Int),as[i]?=some b->hs[i]?=some ks->∃c,Reads s.heap (.ref b) (.list (ks.map PyData.int)) c:=fun i b ks d f=>Qd I (DV.lst (D i b ks d f) (Zi ks)) (show RelV (.ref b) (.ref b)from rfl)
 have n:∀(i:Nat) (b:Addr) (ks:List Int),as[i]?=some b->hs[i]?=some ks->decide (∃c,Reads s.heap (.ref b) (.list []) c)=decide (ks=[]):=fun i b ks d f=>by
  obtain⟨c,m⟩:=p i b ks d f;rw[decide_eq_decide];constructor
  ·rintro⟨O,K⟩;have e:=SeqAt.Reads.unique _ _ _ _ _ (show PyData.canLay0 (.list [])=true from rfl) K m;cases ks with
   | nil=>rfl
   | cons k r=>simp at e
  ·rintro rfl;exact⟨c,m⟩
 refine SeqAt.in_listAt (fun w=>decide (∃c,Reads s.heap w (.list []) c)) G.isList (fun w j=>?_) ⟨.bl _,H,I,rfl,?_⟩
 ·obtain⟨i,g,e⟩:=mem_iff_getElem.mp (show w∈as.map Value.ref by simpa using j);rw[getElem_map]at e;rw[vt]at g;subst e;have d:as[i]?=some as[i]:=vz g;have f:hs[i]?=some hs[i]:=vz (by lia);obtain⟨c,m⟩:=p i _ _ d f;have z:=SeqAt.eqAt_reads _ _ X.A.in1 s _ _ _ _ m J (by show PyData.canLayAll0 _=true;exact ke_canLayAll0 _) rfl (by
   show X.A.in1.units+min (PyData.depthAll _+1) (0+1)<cLine;have P:X.A.in1.units=X.A.units+1:=rfl;lia)
  rw[j2E,<-n i _ _ d f]at z;exact z
 ·have e:(as.map Value.ref).toArray.any (fun w=>decide (∃c,Reads s.heap w (.list []) c))=hs.any fun ks=>decide (ks=[]):=by
   rw[List.any_toArray,List.any_map,Bool.eq_iff_iff,any_eq_true,any_eq_true];constructor
   ·rintro⟨b,C,j⟩;obtain⟨i,g,rfl⟩:=mem_iff_getElem.mp C;exact⟨hs[i],getElem_mem _,by rw[<-n i _ _ (vz g) (vz (by lia))];exact j⟩
   ·rintro⟨ks,E,j⟩;obtain⟨i,g,rfl⟩:=mem_iff_getElem.mp E;refine⟨as[i],getElem_mem _,?_⟩;show decide _=true;rw[n i _ _ (vz (by lia)) (vz g)];exact j
  rw[e];exact q
section
variable{X:Cx}
def tTru(K:Frg)(ta:TE):TT:=fun σ H Q=>ta σ H fun x H'=>∃k,TruV K x H' k/\Q k H'
theorem j4w{a:Expr}{c:TE}(d:PE X a c)(e:∀b,isTrue a X.env b=(do let v <-b;standAt a.pos;holding [v] (truthy v))):PT X a (tTru X.K c):=j1M d e
end
theorem rd_tru{K:Frg}{a:TE}{b:St}{H:Hp}{Q:Bool->Hp->Prop}(h:a b H fun x H'=>∃k,TruV K x H' k/\Q k H'):tTru K a b H Q:=h
theorem Wj{K:Frg}{a b:Addr}{xs zs:List V}{k:Nat}{ci:List Nat}{g:TG}{z:TT}{w:TE}{A:St}{H:Hp}{Z:Addr->List V->Hp->Prop}(d:Nat->List V->Hp->Prop)(s:xs.length=zs.length)(B:d 0 [] H)(F:∀i ys H,i<=xs.length->d i ys H->SqL K H a xs/\SqL K H b zs)
  (G:∀i u v ys H T H',xs[i]?=some u->zs[i]?=some v->d i ys H->Same H H'->H' T=some (.tup [u,v])->g (.ref T) (capS k ci A) H' fun c H2=>z c H2 fun b j=>if b=true then w c j fun v n=>ys.length<sizeLine/\d (i+1) (ys++[v]) n else d (i+1) ys j)
  (D:∀ys H,d xs.length ys H->ys.length<=sizeLine/\∀p,H p=none->Z p ys H) :
  ∃W:Nat->Nat->List V->Hp->Prop,(∃m,W 0 m [] H)/\∀i m ys H,W i m ys H->
   ((Itz K a b).stop i H/\ys.length<=sizeLine/\∀p,H p=none->Z p ys H)\/
   ((Itz K a b).go i H/\∃N:List V->Hp->Prop,(∀f H',N f H'->∃t,t<m/\W (i+1) t f H')/\∀x H',(Itz K a b).yld i H x H'->g x (capS k ci A) H' fun c H2=>z c H2 fun b j=>
    if b=true then w c j fun v n=>ys.length<sizeLine/\N (ys++[v]) n else N ys j):=by
 refine⟨fun i m ys H=>m=xs.length-i/\i<=xs.length/\d i ys H,⟨xs.length,by simp,va _,B⟩,?_⟩;rintro i m ys H ⟨rfl,E,p⟩;obtain⟨q,r⟩:=F i ys H E p;by_cases l:i<xs.length
 ·refine .inr ⟨⟨xs,xs[i],zs,zs[i],q,by simp[l],r,by simp⟩,d (i+1),fun f H' I=>⟨xs.length-(i+1),by lia,rfl,l,I⟩,fun x H' y=>?_⟩;obtain⟨T,u,v,rfl,C,e,y,J⟩:=y;exact G i u v ys H T H' (y xs q) (J zs r) p (fun b o h=>by rw[e,jh (je h C)];exact h) (by rw[e];exact jq)
 ·have e:i=xs.length:=by lia
  subst e;exact .inl ⟨⟨xs,zs,q,r,.inl (vb _)⟩,D ys H p⟩
theorem wN{X:Cx}:OpR X (binaryOp .Mult) (rI (fun _ j=>-(2^64)<j/\j<2^64) fun i j=>.int (i*j)):=opI fun _ _ _ _ _ _ _ a q=>mul_int q (CMul.ok (.inr a))
section
variable{X:Cx}{e:Expr}{te:TE}
def tRevS(K:Frg)(te:TE)(ts:TO):TE:=fun σ H Q=>te σ H fun x H1=>ts σ H1 fun st H2=>st=some (-1)/\∃a xs,x = .ref a/\SqL K H2 a xs/\∀p,H2 p=none->Q (.ref p) (upd H2 p (.lst xs.reverse))
theorem j2m{xs:List V}{us:List Value}(h:Vals xs us):Vals xs.reverse us.reverse:=by
 induction h with
 | nil=>exact .nil
 | cons r _ ih=>rw[reverse_cons,reverse_cons];exact ih.append (.cons r .nil)
theorem j4s{st:Expr}{p:TO}{n j:Pos}(A:PE X e te)(B:PO X (some st) p):PE X (.Subscript e (.Slice none none (some st) n) j) (tRevS X.K te p):=by
 intro c s f H Q I h;refine Subscript_ (thn (A c s f H _ I h) fun v L ⟨x,t,w,K,J⟩=>?_);refine wpAny_Slice ?_;rw[evalPart_none];refine ue ?_;refine ue ?_;refine thn (B c L f t _ w J) fun k d ⟨N,u,y,G,i,a,M,z,C,q⟩=>?_
 subst i z;cases K;have g:Inv X c f u {d with heap:=d.heap.push {cls:=.type "slice",data:=.fields #[.none,.none,k]}}:=y.kept (t':=d.toks) fun b F q=>vJ _ q
 obtain⟨E,r,m,D⟩:=g.list C;have l:=r.length;show wpAny (model X.prog X.w) X.A (subscriptTail e (.Slice none none (some st) n) (.ref a) (.ref d.heap.objs.size)) (EP X c f Q) X.xe {d with heap:=d.heap.push {cls:=.type "slice",data:=.fields #[.none,.none,k]}};refine tail_any (ops:=[.ref a,.ref d.heap.objs.size]) m.isList.typeIs slot_list_getitem.lookup ?_ (by with_unfolding_all rfl);refine wpAny_getItem_list_slice m.isList (Heap.IsSliceOf.new ..) .none .none G (by decide) ?_ (by rw[size_toArray]<;>lia);rw[PySem.W.krv_pick];refine⟨.ref (d.heap.push {cls:=.type "slice",data:=.fields #[.none,.none,k]}).objs.size,_,g.laid (t':=d.toks) (o:=.lst M.reverse) (fun b F q=>vJ _ q) (vb _) ?_,rfl,q _ (g.hok.fresh (vb _))⟩;exact⟨by rw[List.length_reverse];exact D,_,0,j2m r,Heap.get?_push_size _ rfl⟩
end
theorem rd_revS{K:Frg}{c:TE}{d:TO}{b:St}{H:Hp}{Q:VK}(h:c b H fun x H1=>d b H1 fun st H2=>st=some (-1)/\∃a xs,x = .ref a/\SqL K H2 a xs/\∀p,H2 p=none->Q (.ref p) (upd H2 p (.lst xs.reverse))):tRevS K c d b H Q:=h
theorem j4y{K:Frg}{i j k:Nat}{a:Addr}{x y z:V}{b:St}{H:Hp}{R:St->Hp->Prop}(e:SqT K H a [x,y,z])(h:gName i x b H fun σ' H'=>gName j y σ' H' fun σ' H'=>gName k z σ' H' R):gTup K 3 (gCons (gName i) (gCons (gName j) (gCons (gName k) gNil))) (.ref a) b H R:=
 ⟨a,[x,y,z],rfl,e,rfl,x,[y,z],rfl,y,[z],rfl,z,[],rfl,rfl,h⟩
theorem j4z{K:Frg}{i j k l:Nat}{a:Addr}{x y z w:V}{b:St}{H:Hp}{R:St->Hp->Prop}(e:SqT K H a [x,y,z,w])(h:gName i x b H fun σ' H'=>gName j y σ' H' fun σ' H'=>gName k z σ' H' fun σ' H'=>gName l w σ' H' R):gTup K 4 (gCons (gName i) (gCons (gName j) (gCons (gName k) (gCons (gName l) gNil)))) (.ref a) b H R:=
 ⟨a,[x,y,z,w],rfl,e,rfl,x,[y,z,w],rfl,y,[z,w],rfl,z,[w],rfl,w,[],rfl,rfl,h⟩
section
variable{prog:Program}{w:World}{A:Around}{E:Value->Shared->Prop}{s:Shared}
end
def Itd(lo:Int)(n:Nat):It:=⟨fun i _=>i<n,fun i H x H'=>H'=H/\x = .int (lo-i),fun i _=>n<=i⟩
theorem WW{P:Program}{w:World}{K:Frg}{N:Expr}(it:Addr)(lo:Int)(n:Nat):Turn P w K N (Itd lo n) [it] it (fun i h=>IsRangeIter h it (lo+(i:Nat)*(-1)) ((n:Int)-(i:Nat)) (-1)) where
 mem:=by simp
 obj:=fun i h a b d=>by
  have e:b=it:=by simpa using d
  subst e;exact⟨_,a,fun v z=>by
   have O:Data.fields _=Data.cell v:=z;cases O⟩
 keep:=fun i h g a k=>k it (by simp) _ a
 item:=by
  intro X x B u y i c s D H E I j a A;subst x B u;obtain⟨l,m,J,p,q,r⟩:=j it (by simp);have W:=Walks.range (prog:=X.prog) (w:=X.w) (I.ok.hd y) it lo (-1) n;refine W.item i s _ _ A a fun v g C L f M=>?_
  obtain⟨t,rfl⟩:=L;have F:Inv X c D H {s with heap:=g,toks:=C}:=I.turned (fun b o d e=>M b o (by simpa using d) e) l m p q r;refine⟨_,rfl,Xl (s:={s with heap:=g,toks:=C}) (n:="range_iterator") f rfl rfl (by decide) ⟨.int (lo-i),H,F,⟨t,?_⟩,⟨rfl,rfl⟩,f,fun b d=>(j b d).1⟩⟩;rw[show lo+(i:Int)*(-1)=lo-i by lia]
 done:=by
  intro X x B u y i c s D H E I j a A;subst x B u;obtain⟨l,m,J,p,q,r⟩:=j it (by simp);exact wpAny_pyNext_range_end (I.ok.hd y) a (by have:n<=i:=A;lia) fun g G=>⟨rfl,I.turned (t':=s.toks) (fun b o d e=>G b o d e) l m p q r⟩
 self:=fun _ _ _ _ _ a h=>wpAny_pyIter_rangeiter a h
section
variable{X:Cx}{tg:Expr}
theorem Zz(a b:Int):Builtin.Range.rangeSize a b (-1)=if b<a then a-b else 0:=by
 unfold Builtin.Range.rangeSize;simp only[show¬((-1:Int)>0) by decide,if_false,show(- -1:Int)=1 by decide,Int.ediv_one];split<;>lia
theorem j0s(c : -(2^61)<=a)(d:a<2^61)(e : -(2^61)<=b)(h:b<2^61):Builtin.Range.small a b (-1)=true:=by
 have f:∀x:Int,-(2^62)<=x->x<2^62->Builtin.Range.rangeFitsLong x=true:=fun x c d=>by
  unfold Builtin.Range.rangeFitsLong;simp;lia
 unfold Builtin.Range.small;rw[Zz];have g : -(2^62)<=(if b<a then a-b else 0)/\(if b<a then a-b else 0)<2^62:=by split<;>lia
 rw[f a (by lia) (by lia),f b (by lia) (by lia),f (-1) (by decide) (by decide),f _ g.1 g.2,vc (show¬((-1:Int)>0) by decide),f (b+(-1+1)) (by lia) (by lia)];simp
theorem j0n{a:List (Addr×Obj)}{f:St}{H:Hp}{s:Shared}{R:It->Hp->Prop}{E:Value->Shared->Prop}{lo hi:Int}{t u v:Tok}{d:Nat}(I:Inv X a f H s)(i : -(2^61)<=lo)(j:lo<2^61)(k : -(2^61)<=hi)(l:hi<2^61)
  (q:R (Itd lo (lo-hi).toNat) H):wpAny (model X.prog X.w) X.A (pyIter (.ref s.heap.objs.size)) (PIE X a f tg R) E {s with heap:=s.heap.push {cls:=.type "range",data:=.fields #[.int lo t,.int hi u,.int (-1) v]},toks:=d}:=by
 refine wpAny_pyIter_range (IsRange.new ..) (j0s i j k l) ?_;have c:Inv X a f H {s with heap:=s.heap.push {cls:=.type "range",data:=.fields #[.int lo t,.int hi u,.int (-1) v]},toks:=d}:=I.kept fun b o e=>vJ _ e
 refine⟨(s.heap.push {cls:=.type "range",data:=.fields #[.int lo t,.int hi u,.int (-1) v]}).objs.size,[(s.heap.push {cls:=.type "range",data:=.fields #[.int lo t,.int hi u,.int (-1) v]}).objs.size],_,_,H,rfl,
  c.kept (t':=d) fun b o e=>vJ _ e,WW _ lo (lo-hi).toNat,?_,fun b m=>?_,q⟩
 ·have g:lo+((0:Nat):Int)*(-1)=lo:=by simp
  have h:(((lo-hi).toNat:Nat):Int)-((0:Nat):Int)=Builtin.Range.rangeSize lo hi (-1):=by rw[Zz];split<;>lia
  show IsRangeIter _ _ (lo+((0:Nat):Int)*(-1)) ((((lo-hi).toNat:Nat):Int)-((0:Nat):Int)) (-1);rw[g,h];exact Heap.get?_push_size _ rfl
 ·have e:b=(s.heap.push {cls:=.type "range",data:=.fields #[.int lo t,.int hi u,.int (-1) v]}).objs.size:=by simpa using m
  subst e;exact c.fpOk (vb _) (c.hok.fresh (vb _))
def iRngD(ta:TA):TI:=fun σ H R=>ta σ H fun vs H1=>∃i j:Int,vs=[.int i,.int j,.int (-1)]/\(-(2^61)<=i/\i<2^61/\-(2^61)<=j/\j<2^61)/\R (Itd i (i-j).toNat) H1
theorem j0i(m:Gl X "range")(n:X.mg "range"= none)(l:PA X [a,b,c] ta)(o:starEach [a,b,c] X.env=(false,eval a X.env)::starEach [b,c] X.env:=by rfl)(f:(backTo pos (starEach [b,c] X.env)).any (·.1)=false:=by rfl) :
  PI X tg (.Call (.Name "range" p) [a,b,c] [] pos) (iRngD ta):=by
 intro d s z H R I h;refine Call_ (zb I m n boot_range (PyProof.Rows.callWith_type1 (thn (l pos d s z H _ I h) fun D B ⟨E,A,k,x,g⟩=>?_) o f));obtain⟨i,j,e,⟨g,u,v,w⟩,q⟩:=g;subst e;cases x with
 | cons r rr=>
  cases rr with
  | cons r' rr=>
   cases rr with
   | cons r'' rr=>
    cases rr;obtain⟨t,rfl⟩:=r;obtain⟨C,rfl⟩:=r';obtain⟨y,rfl⟩:=r'';exact call_range_3 (by decide) (j0n k g u v w q) (.inl (PyProof.noPylong_small (by lia)))
end
theorem rd_rngD{a:St}{H:Hp}{R:It->Hp->Prop}(h:ta a H fun vs H1=>∃i j:Int,vs=[.int i,.int j,.int (-1)]/\(-(2^61)<=i/\i<2^61/\-(2^61)<=j/\j<2^61)/\R (Itd i (i-j).toNat) H1):iRngD ta a H R:=h
theorem j0V{lo:Int}{n:Nat}{g:TG}{h:TS}{D:Ends}{a:St}{H:Hp}(b:Nat->St->Hp->Prop)(j:b 0 a H)(l:∀i a H,i<n->b i a H->g (.int (lo-i)) a H fun d H2=>h {D with nx:=b (i+1),ct:=b (i+1),bk:=D.nx} d H2)(k:∀a H,b n a H->D.nx a H) :
  ∃W:Nat->Nat->St->Hp->Prop,(∃m,W 0 m a H)/\∀i m a H,W i m a H->
   ((Itd lo n).stop i H/\D.nx a H)\/((Itd lo n).go i H/\∃N:St->Hp->Prop,(∀σ' H',N σ' H'->∃f,f<m/\W (i+1) f σ' H')/\∀x H',(Itd lo n).yld i H x H'->g x a H' fun d H2=>h {D with nx:=N,ct:=N,bk:=D.nx} d H2):=by
 refine⟨fun i m a H=>m=n-i/\i<=n/\b i a H,⟨n,by simp,va _,j⟩,?_⟩;rintro i m a H ⟨rfl,q,p⟩;by_cases c:i<n
 ·refine .inr ⟨c,b (i+1),fun σ' H' o=>⟨n-(i+1),by lia,rfl,c,o⟩,fun x H' y=>?_⟩;obtain⟨e,y⟩:=y;subst e y;exact l i a _ c p
 ·have e:i=n:=by lia
  subst e;exact .inl ⟨vb _,k a H p⟩
section
variable{X:Cx}
end
section
variable{prog:Program}{w:World}{A:Around}{E:Value->Shared->Prop}{s:Shared}
end
section
variable{X:Cx}{pos:Pos}
end
section
variable{σ:St}{H:Hp}{D:Ends}{Q:VK}{ta tb te:TE}
theorem rd_seq(h:t {D with nx:=u D} σ H):tSeq t u D σ H:=h
theorem rd_asg(h:te σ H fun x H1=>g x σ H1 D.nx):tAsg te g D σ H:=h
theorem rd_v0{r:St}(h:Q v H):tVar 0 (some v::r) H Q:=⟨v,rfl,h⟩
theorem rd_n0{r:St}{R:St->Hp->Prop}(h:R (some v::r) H):gName 0 v (a0::r) H R:=h
theorem rd_v1{r:St}(h:Q v H):tVar 1 (a0::some v::r) H Q:=⟨v,rfl,h⟩
theorem rd_n1{r:St}{R:St->Hp->Prop}(h:R (a0::some v::r) H):gName 1 v (a0::a1::r) H R:=h
theorem rd_v2{r:St}(h:Q v H):tVar 2 (a0::a1::some v::r) H Q:=⟨v,rfl,h⟩
theorem rd_n2{r:St}{R:St->Hp->Prop}(h:R (a0::a1::some v::r) H):gName 2 v (a0::a1::a2::r) H R:=h
theorem rd_v3{r:St}(h:Q v H):tVar 3 (a0::a1::a2::some v::r) H Q:=⟨v,rfl,h⟩
theorem rd_n3{r:St}{R:St->Hp->Prop}(h:R (a0::a1::a2::some v::r) H):gName 3 v (a0::a1::a2::a3::r) H R:=h
theorem rd_v4{r:St}(h:Q v H):tVar 4 (a0::a1::a2::a3::some v::r) H Q:=⟨v,rfl,h⟩
theorem rd_n4{r:St}{R:St->Hp->Prop}(h:R (a0::a1::a2::a3::some v::r) H):gName 4 v (a0::a1::a2::a3::a4::r) H R:=h
theorem rd_v5{r:St}(h:Q v H):tVar 5 (a0::a1::a2::a3::a4::some v::r) H Q:=⟨v,rfl,h⟩
theorem rd_n5{r:St}{R:St->Hp->Prop}(h:R (a0::a1::a2::a3::a4::some v::r) H):gName 5 v (a0::a1::a2::a3::a4::a5::r) H R:=h
theorem rd_v6{r:St}(h:Q v H):tVar 6 (a0::a1::a2::a3::a4::a5::some v::r) H Q:=⟨v,rfl,h⟩
theorem rd_n6{r:St}{R:St->Hp->Prop}(h:R (a0::a1::a2::a3::a4::a5::some v::r) H):gName 6 v (a0::a1::a2::a3::a4::a5::a6::r) H R:=h
theorem rd_v7{r:St}(h:Q v H):tVar 7 (a0::a1::a2::a3::a4::a5::a6::some v::r) H Q:=⟨v,rfl,h⟩
theorem rd_n7{r:St}{R:St->Hp->Prop}(h:R (a0::a1::a2::a3::a4::a5::a6::some v::r) H):gName 7 v (a0::a1::a2::a3::a4::a5::a6::a7::r) H R:=h
theorem rd_v8{r:St}(h:Q v H):tVar 8 (a0::a1::a2::a3::a4::a5::a6::a7::some v::r) H Q:=⟨v,rfl,h⟩
theorem rd_n8{r:St}{R:St->Hp->Prop}(h:R (a0::a1::a2::a3::a4::a5::a6::a7::some v::r) H):gName 8 v (a0::a1::a2::a3::a4::a5::a6::a7::a8::r) H R:=h
theorem rd_v9{r:St}(h:Q v H):tVar 9 (a0::a1::a2::a3::a4::a5::a6::a7::a8::some v::r) H Q:=⟨v,rfl,h⟩
theorem rd_n9{r:St}{R:St->Hp->Prop}(h:R (a0::a1::a2::a3::a4::a5::a6::a7::a8::some v::r) H):gName 9 v (a0::a1::a2::a3::a4::a5::a6::a7::a8::a9::r) H R:=h
theorem rd_v10{r:St}(h:Q v H):tVar 10 (a0::a1::a2::a3::a4::a5::a6::a7::a8::a9::some v::r) H Q:=⟨v,rfl,h⟩
theorem rd_n10{r:St}{R:St->Hp->Prop}(h:R (a0::a1::a2::a3::a4::a5::a6::a7::a8::a9::some v::r) H):gName 10 v (a0::a1::a2::a3::a4::a5::a6::a7::a8::a9::a10::r) H R:=h
theorem rd_v11{r:St}(h:Q v H):tVar 11 (a0::a1::a2::a3::a4::a5::a6::a7::a8::a9::a10::some v::r) H Q:=⟨v,rfl,h⟩
theorem rd_n11{r:St}{R:St->Hp->Prop}(h:R (a0::a1::a2::a3::a4::a5::a6::a7::a8::a9::a10::some v::r) H):gName 11 v (a0::a1::a2::a3::a4::a5::a6::a7::a8::a9::a10::a11::r) H R:=h
theorem rd_v12{r:St}(h:Q v H):tVar 12 (a0::a1::a2::a3::a4::a5::a6::a7::a8::a9::a10::a11::some v::r) H Q:=⟨v,rfl,h⟩
theorem rd_n12{r:St}{R:St->Hp->Prop}(h:R (a0::a1::a2::a3::a4::a5::a6::a7::a8::a9::a10::a11::some v::r) H):gName 12 v (a0::a1::a2::a3::a4::a5::a6::a7::a8::a9::a10::a11::a12::r) H R:=h
theorem rd_v13{r:St}(h:Q v H):tVar 13 (a0::a1::a2::a3::a4::a5::a6::a7::a8::a9::a10::a11::a12::some v::r) H Q:=⟨v,rfl,h⟩
theorem rd_n13{r:St}{R:St->Hp->Prop}(h:R (a0::a1::a2::a3::a4::a5::a6::a7::a8::a9::a10::a11::a12::some v::r) H):gName 13 v (a0::a1::a2::a3::a4::a5::a6::a7::a8::a9::a10::a11::a12::a13::r) H R:=h
theorem rd_const(h:Q v H):tC v σ H Q:=h
theorem rd_op(h:ta σ H fun x H1=>tb σ H1 fun y H2=>r x y H2 Q):tOp r ta tb σ H Q:=h
theorem rd_un{r:V->Hp->VK->Prop}(h:ta σ H fun x H1=>r x H1 Q):tUn r ta σ H Q:=h
theorem rd_i0{g:Int->Int->V}(h:Q (g i j) H):rI0 g (.int i) (.int j) H Q:=⟨i,j,rfl,rfl,h⟩
theorem j5a{C:Int->Int->Prop}{g:Int->Int->V}(c:C i j)(h:Q (g i j) H):rI C g (.int i) (.int j) H Q:=⟨i,j,rfl,rfl,c,h⟩
theorem rd_u{g:Int->V}(h:Q (g i) H):rU g (.int i) H Q:=⟨i,rfl,h⟩
theorem rd_eqI(h:Q (.bl (decide (i=j))) H):rEq (.int i) (.int j) H Q:=by
 refine⟨rfl,?_⟩;rw[show decide (V.int i=V.int j)=decide (i=j) by simp];exact h
theorem rd_neI(h:Q (.bl (!decide (i=j))) H):rNe (.int i) (.int j) H Q:=by
 refine⟨rfl,?_⟩;rw[show decide (V.int i=V.int j)=decide (i=j) by simp];exact h
theorem rd_eqS(h:Q (.bl (decide (i=j))) H):rEq (.str i) (.str j) H Q:=by
 refine⟨rfl,?_⟩;rw[show decide (V.str i=V.str j)=decide (i=j) by simp];exact h
theorem rd_if(h:c σ H fun b H1=>if b=true then t D σ H1 else u D σ H1):tIfS c t u D σ H:=h
theorem rd_test{R:Bool->Hp->Prop}(h:te σ H fun x H'=>∃k,x = .bl k/\R k H'):tTest te σ H R:=h
theorem rd_tB{R:Bool->Hp->Prop}(h:te σ H fun x H'=>∃k,x = .bl k/\R k H'):tB te σ H R:=h
theorem rd_blP{R:Bool->Prop}(h:R k):∃a,V.bl k = .bl a/\R a:=⟨k,rfl,h⟩
theorem rd_not{R:Bool->Hp->Prop}(h:t σ H fun c H1=>R (!c) H1):tNot t σ H R:=h
theorem rd_and{R:Bool->Hp->Prop}(h:t σ H fun c H1=>if c=true then u σ H1 R else R false H1):tAnd t u σ H R:=h
theorem rd_or{R:Bool->Hp->Prop}(h:t σ H fun c H1=>if c=true then R true H1 else u σ H1 R):tOr t u σ H R:=h
theorem rd_andV(h:ta σ H fun x H1=>∃c,x = .bl c/\if c=true then tb σ H1 Q else Q (.bl false) H1):tAndV ta tb σ H Q:=h
theorem rd_ifE(h:t σ H fun c H1=>if c=true then ta σ H1 Q else tb σ H1 Q):tIf t ta tb σ H Q:=h
theorem rd_ret(h:te σ H D.rt):tRet te D σ H:=h
theorem rd_next(h:D.nx σ H):tNext D σ H:=h
theorem rd_drop(h:te σ H fun _ H1=>D.nx σ H1):tDrop te D σ H:=h
theorem rd_cb{r:List V->Hp->VK->Prop}(h:t σ H fun vs H1=>r vs H1 Q):tCB r t σ H Q:=h
theorem rd_call{sp:Sp}(h:t σ H fun vs H1=>sp (vs++dvs) H1 Q E):tCall sp dvs E t σ H Q:=h
theorem rd_fld{K:Frg}{f:Str}(h:ta σ H fun x H1=>∃a C dx fs v,x = .ref a/\H1 a=some (.ins C dx fs)/\Cls K C/\NoAttr K C f/\fs.lookup f=some v/\Q v H1):tFld K ta f σ H Q:=h
theorem rd_sfld{K:Frg}{f:Str}(h:tb σ H fun y H1=>ta σ H1 fun x H2=>∃a C dx fs,x = .ref a/\H2 a=some (.ins C dx fs)/\Cls K C/\NoAttr K C f/\fs.length<1000/\D.nx σ (upd H2 a (.ins C dx (putF f y fs)))):sFld K ta tb f D σ H:=h
theorem rd_meth{sp:Sp}(h:ta σ H fun x H1=>∃a dx fs,x = .ref a/\H1 a=some (.ins C dx fs)/\fs.lookup m=none/\t σ H1 fun vs H2=>sp (x::(vs++dvs)) H2 Q E):tMeth C m sp dvs E ta t σ H Q:=h
theorem rd_make{sp:Sp}(h:t σ H fun vs H1=>∀x dx,H1 x=none->H1 dx=none->dx≠x->sp (.ref x::(vs++dvs)) (upd (upd H1 dx (.own x)) x (.ins C dx [])) (fun v H2=>v = .non/\Q (.ref x) H2) E):tMake C sp dvs E t σ H Q:=h
theorem rd_dIn(h:ta σ H fun y H1=>tb σ H1 fun x H2=>∃a o,x = .ref a/\DGet H2 a y o/\Q (.bl o.isSome) H2):tDIn ta tb σ H Q:=h
theorem rd_nil{R:List V->Hp->Prop}(h:R [] H):tNil σ H R:=h
theorem rd_cons{R:List V->Hp->Prop}(h:ta σ H fun x H1=>tr σ H1 fun xs H2=>R (x::xs) H2):tCons ta tr σ H R:=h
theorem rd_lst(h:t σ H fun xs H1=>xs.length<=sizeLine/\∀p,H1 p=none->Q (.ref p) (upd H1 p (.lst xs))):tLst t σ H Q:=h
theorem rd_tup(h:t σ H fun xs H1=>xs.length<=sizeLine/\∀p,H1 p=none->Q (.ref p) (upd H1 p (.tup xs))):tTup t σ H Q:=h
theorem rd_chain(h:ta σ H fun x H1=>tb σ H1 fun y H2=>r x y H2 fun z a=>∃k,z = .bl k/\(if k=true then tc σ a fun c b=>r' y c b Q else Q (.bl false) a)):tChain r r' ta tb tc σ H Q:=h
theorem rd_bm{K:Frg}{T:String}{r:V->List V->Hp->VK->Prop}{t:TA}(h:te σ H fun x H1=>tyV K T x H1/\t σ H1 fun xs H2=>r x xs H2 Q):tBM K T r te t σ H Q:=h
theorem rd_sl{r:V->Option Int->Option Int->Hp->VK->Prop}(h:te σ H fun x H1=>tl σ H1 fun l H2=>th σ H2 fun u a=>r x l u a Q):tSl r te tl th σ H Q:=h
theorem rd_nopart{R:Option Int->Hp->Prop}(h:R none H):tNoPart σ H R:=h
theorem rd_part{R:Option Int->Hp->Prop}(h:te σ H fun x H1=>∃i,x = .int i/\R (some i) H1):tPart te σ H R:=h
theorem rd_int{R:Int->Prop}(h:R i):∃a,V.int i = .int a/\R a:=⟨i,rfl,h⟩
theorem iteD{p A B:Prop}[Decidable p](a:p->A)(b:¬p->B):if decide p=true then A else B:=by
 by_cases h:p
 ·rw[vd (vG h)];exact a h
 ·rw[vc (by simpa using h)];exact b h
theorem iteN{p A B:Prop}[Decidable p](a:¬p->A)(b:p->B):if(!decide p)=true then A else B:=by
 by_cases h:p
 ·rw[vc (by simpa using h)];exact b h
 ·rw[vd (by simpa using h)];exact a h
theorem rd_rng1{a:TA}{R:It->Hp->Prop}(h:a σ H fun vs H1=>∃j:Int,vs=[.int j]/\-(2^62)<=j/\j<2^62/\R (Itr 0 j.toNat) H1):iRng1 a σ H R:=h
theorem rd_iList{K:Frg}{R:It->Hp->Prop}(h:te σ H fun x H1=>∃a,x = .ref a/\(∃xs,SqL K H1 a xs)/\R (Itl K a) H1):iList K te σ H R:=h
theorem rd_p18(h:Q (.int (10^18)) H):rI CPow (fun i j=>.int (i^j.toNat)) (.int 10) (.int 18) H Q:=⟨10,18,rfl,rfl,⟨by decide,by decide,by decide⟩,h⟩
theorem rd_p40(h:Q (.int (10^40)) H):rI CPow (fun i j=>.int (i^j.toNat)) (.int 10) (.int 40) H Q:=⟨10,40,rfl,rfl,⟨by decide,by decide,by decide⟩,h⟩
theorem rd_p60(h:Q (.int (10^60)) H):rI CPow (fun i j=>.int (i^j.toNat)) (.int 10) (.int 60) H Q:=⟨10,60,rfl,rfl,⟨by decide,by decide,by decide⟩,h⟩
theorem rd_aug(h:tVar i σ H fun x a=>te σ a fun y H1=>ti x y H1 fun z H2=>gName i z σ H2 D.nx):tAug i te ti D σ H:=h
theorem rd_ipI{f:Int->Int->Int}(h:Q (.int (f i j)) H):ipI f (.int i) (.int j) H Q:=⟨i,j,rfl,rfl,h⟩
theorem rd_for{c:TS} (h:wi σ H fun J H1=>∃W:Nat->Nat->St->Hp->Prop,(∃m,W 0 m σ H1)/\∀i m σ H,W i m σ H->
 (J.stop i H/\D.nx σ H)\/(J.go i H/\∃N:St->Hp->Prop,(∀σ' H',N σ' H'->∃b,b<m/\W (i+1) b σ' H')/\∀x H',J.yld i H x H'->g x σ H' fun a H2=>c {D with nx:=N,ct:=N,bk:=D.nx} a H2)):tFor wi g c D σ H:=h
theorem rd_comp (h:wi σ H fun J H1=>∃W:Nat->Nat->List V->Hp->Prop,(∃m,W 0 m [] H1)/\∀i m ys H,W i m ys H->
 (J.stop i H/\ys.length<=sizeLine/\∀p,H p=none->Q (.ref p) (upd H p (.lst ys)))\/
 (J.go i H/\∃N:List V->Hp->Prop,(∀a H',N a H'->∃e,e<m/\W (i+1) e a H')/\∀x H',J.yld i H x H'->g x (capS n ci σ) H' fun c H2=>tf c H2 fun b d=>
  if b=true then te c d fun v f=>ys.length<sizeLine/\N (ys++[v]) f else N ys d)):tComp wi n ci g tf te σ H Q:=h
theorem rd_yes{R:Bool->Hp->Prop}(h:R true H):tYes σ H R:=h
theorem jV{n:Nat}{ci:List Nat}{g:TG}{x:V}{σ':St}{R:St->Hp->Prop}(e:capS n ci σ=σ')(h:g x σ' H R):g x (capS n ci σ) H R:=by rw[e];exact h
theorem jw{t:TS}{σ':St}(e:σ=σ')(h:t D σ' H):t D σ H:=by subst e;exact h
theorem xA(d : -A<=x)(f:x<=A)(g : -B<=y)(i:y<=B) : -(A*B)<=x*y/\x*y<=A*B:=by
 have a:x.natAbs<=A.toNat:=by lia
 have b:y.natAbs<=B.toNat:=by lia
 have h:=Nat.mul_le_mul a b;rw[<-Int.natAbs_mul]at h;have e:((A.toNat*B.toNat:Nat):Int)=A*B:=by
  rw[Int.natCast_mul,Int.toNat_of_nonneg (by lia),Int.toNat_of_nonneg (by lia)]
 have c:((x*y).natAbs:Int)<=A*B:=by rw[<-e];exact Int.ofNat_le.mpr h
 lia
theorem YJ{H H':Hp}(h:H p=none)(e:upd H p o=H'):Same H H':=fun b u q=>by rw[<-e,jh (je q h)];exact q
theorem YR{H H':Hp}(e:upd H p o=H'):H' p=some o:=by rw[<-e];exact jq
end
theorem ixLm{K:Frg}{p:Addr}{xs:List V}{i:Int}{v:V}{H:Hp}{Q:VK}(h:SqL K H p xs)(e:atI xs i=some v)(q:Q v H):rIxL K (.ref p) (.int i) H Q:=⟨p,xs,i,v,rfl,rfl,h,e,q⟩
theorem ixTm{K:Frg}{p:Addr}{xs:List V}{i:Int}{v:V}{H:Hp}{Q:VK}(h:SqT K H p xs)(e:atI xs i=some v)(q:Q v H):rIxT K (.ref p) (.int i) H Q:=⟨p,xs,i,v,rfl,rfl,h,e,q⟩
end L2
local macro_rules | `(tactic| walk_at "side") => `(tactic| first | with_reducible assumption | exact L2.cdivB (by lia) (by lia) | exact L2.mulOk (by lia) (by lia) (by lia) (by lia) | exact L2.mulOkC (by first | assumption | exact L2.bits_ediv (by assumption) _) (by lia) (by lia) | lia)
local macro_rules | `(tactic| walk_at $s:str) => do
 let ws:=s.getString.splitOn " "
 if ws.head?==some "f" then
  let vs:=if ws.length==3 then["p"++ws.getD 1 "","hp"++ws.getD 1 "","H"++ws.getD 1 "","s"++ws.getD 1 "",ws.getD 2 ""++ws.getD 1 ""]else ws.drop 1
  let i:=fun(k:Nat)=>Lean.mkIdent (Lean.Name.mkSimple (vs.getD k ""))
  return <-`(tactic| (intro $(i 0):ident $(i 1):ident;generalize eH:L2.upd _ $(i 0) _ = $(i 2):ident;have $(i 3):ident:=L2.YJ $(i 1) eH;have $(i 4):ident:=L2.YR eH;clear eH))
 let ns:=match s.getString with | "goA"=>"rd_seq rd_asg rd_op rd_const rd_i0 rd_cons rd_nil rd_call rd_ret rd_if rd_test rd_tB rd_blP rd_not rd_next" | "goB"=>"rd_un rd_u rd_and rd_or rd_andV rd_ifE rd_drop rd_cb rd_lst rd_tup rd_chain rd_bm rd_sl rd_nopart rd_part rd_eqI rd_neI rd_eqS rd_str rd_int rd_rng1 rd_iList rd_ipI rd_aug rd_for rd_comp rd_yes rd_dget rd_prC rd_prN rd_iTup rd_sub rd_iEnum rd_iZip rd_dnew rd_dput rd_bm0 rd_tru rd_revS rd_rngD rd_fld rd_sfld rd_meth rd_make rd_dIn" | "goP"=>"rd_p18 rd_p40 rd_p60" | "goV"=>"rd_v0 rd_v1 rd_v2 rd_v3 rd_v4 rd_v5 rd_v6 rd_v7 rd_v8 rd_v9 rd_v10 rd_v11 rd_v12 rd_v13" | "goN"=>"rd_n0 rd_n1 rd_n2 rd_n3 rd_n4 rd_n5 rd_n6 rd_n7 rd_n8 rd_n9 rd_n10 rd_n11 rd_n12 rd_n13" | _=>""
 if ns == "" then Lean.Macro.throwUnsupported
 let as <-(ns.splitOn " ").toArray.mapM fun n=>`(Lean.Parser.Tactic.tacticSeq| refine $(Lean.mkIdent (Lean.Name.mkStr2 "L2" n)) ?_)
 `(tactic| with_reducible (first $[| $as]*))
local macro_rules | `(tactic| walk_at "go1") => `(tactic| first | walk_at "goA" | walk_at "goV" | walk_at "goB" | walk_at "goN" | walk_at "goP" | (with_reducible refine L2.j5a ?c ?_; (case c => ((try dsimp only); walk_at "side"))))
local macro_rules | `(tactic| walk_at "g") => `(tactic| repeat walk_at "go1")
local macro_rules | `(tactic| exists $e) => `(tactic| (walk_at "g"; refine $e))
namespace Fs
end Fs
namespace Rp
noncomputable def ramp(s g b j:Int):Int:=s+(g-s)*j/b
end Rp
namespace Rp
end Rp
namespace Pr
open PySem L2
end Pr
namespace Pr
open PySem L2
inductive sp_law(K:Frg)(vs:List V)(H:Hp)(Q:VK)(xk:XK):Prop
 | mk (a:Addr) (ns:List Int) (_:vs=[.ref a]) (_:SqL K H a (ns.map V.int)) (_:ns.length<=63) (_:(∀x∈ns,Builtin.Int.intBits x<=1048576)) (_:∀H',Q (.bl true) H'):sp_law K vs H Q xk
end Pr
namespace Pr
open PySem L2
theorem j2T{a:List Int}{lo hi:Option Int}{x:V}(h:x∈cutV (a.map V.int) lo hi):∃c∈a,x = .int c:=by
 have b:x∈a.map V.int:=List.mem_of_mem_drop (uw h);obtain⟨c,d,e⟩:=vK.mp b;exact⟨c,d,e.symm⟩
end Pr
namespace Pr
open PySem L2
end Pr
namespace Pr
open PySem L2
end Pr
namespace Pr
open PySem L2
end Pr
namespace Pr
open PySem L2
def B4(s g b j:Int):Prop:=-10^61<=s/\s<=10^61/\-10^61<=g/\g<=10^61/\0<b/\b<=10^61/\-10^61<=j/\j<=10^61
def XI:Sp:=fun vs H Q _=>∃s g b j:Int,vs=[.int s,.int g,.int b,.int j]/\B4 s g b j/\Q (.int (Rp.ramp s g b j)) H
end Pr
namespace Pr
open PySem L2
end Pr
namespace Ws
open PySem PySem.NumText L2
noncomputable def lets:Str:="abcdefghijklmnopqrstuvwxyz"
noncomputable def among(x z:Str):Bool:=decide (∀c∈x.cps.toList,c∈z.cps.toList)
noncomputable def isW(x:Str):Bool:=decide (1<=x.length/\x.length<=8)&&among x lets
theorem j21{H H':Hp}{p:Addr}{o:HO}(h:Same H H')(a:H p=none):Same H (upd H' p o):=fun b u q=>by
 rw[jh (je q a)];exact h b u q
end Ws
namespace Ws
open PySem PySem.NumText L2
end Ws
namespace Ws
open PySem L2
end Ws
namespace Rm
open PySem PySem.NumText PyProof.Rows L2
theorem Xa{x:Str}{lo hi:Option Int}:(Txt.slice x lo hi).length<=x.length:=Txt.slice_le x lo hi
theorem j1e:c∈Ws.lets.cps.toList↔97<=c/\c<=122:=by
 rw[show Ws.lets.cps.toList=List.range' 97 26 by decide +kernel,List.mem_range'_1];lia
theorem j19{i:Int}(a:0<=i)(b:i<26):atI (Str.ofString "abcdefghijklmnopqrstuvwxyz").cps.toList i=some (97+i.toNat):=by
 have h:∀k:Nat,k<26->atI (Str.ofString "abcdefghijklmnopqrstuvwxyz").cps.toList (k:Int)=some (97+(k:Int).toNat):=by decide +kernel
 have e:=h i.toNat (by lia);rw[Int.toNat_of_nonneg a]at e;exact e
open PySem L2
theorem none_of{H H':Hp}(s:Same H H')(h:H' p=none):H p=none:=by
 cases e:H p with
 | none=>rfl
 | some u=>rw[s _ _ e]at h;cases h
inductive Fm where
 | hold (n:Int) | ring (x:Str) (n:Int) | rise (x:Str) (h n:Int) | row (ps:List Str) | side (ps:List Str) | again (k:Int) (x:Str)
noncomputable def FormAt(H:Hp)(a:Addr):Fm->Prop
 | .hold n=>H a=some (.tup [.str "hold",.int n])
 | .ring x n=>H a=some (.tup [.str "ring",.str x,.int n])
 | .rise x h n=>H a=some (.tup [.str "raise",.str x,.int h,.int n])
 | .row ps=>∃b,H a=some (.tup [.str "row",.ref b])/\H b=some (.tup (ps.map V.str))
 | .side ps=>∃b,H a=some (.tup [.str "side",.ref b])/\H b=some (.tup (ps.map V.str))
 | .again k x=>H a=some (.tup [.str "again",.int k,.str x])
def PartAt(H:Hp)(a:Addr)(p:Str×Fm):Prop:=∃b,H a=some (.tup [.str p.1,.ref b])/\FormAt H b p.2
def LimbAt(H:Hp)(a:Addr)(p:Str×Int):Prop:=H a=some (.tup [.str p.1,.int p.2])
def All2{α:Type}(R:Addr->α->Prop)(as:List Addr)(xs:List α):Prop:=as.length=xs.length/\∀(i:Nat) (a:Addr) (x:α),as[i]?=some a->xs[i]?=some x->R a x
theorem All2.nil{b:Type}{R:Addr->b->Prop}:All2 R [] []:=⟨rfl,fun i a x h=>by simp at h⟩
theorem All2.mono{b:Type}{R S:Addr->b->Prop}{as:List Addr}{xs:List b}(h:All2 R as xs)(k:∀a x,R a x->S a x):All2 S as xs:=⟨h.1,fun i a x c d=>k a x (h.2 i a x c d)⟩
theorem All2.snoc{f:Type}{R:Addr->f->Prop}{as:List Addr}{xs:List f}{a:Addr}{x:f}(h:All2 R as xs)(k:R a x):All2 R (as++[a]) (xs++[x]):=by
 have j:=h.1;refine⟨by simp[j],fun i b y c d=>?_⟩;by_cases g:i<as.length
 ·rw[vB g]at c;rw[vB (by lia)]at d;exact h.2 i b y c d
 ·rw[vC (by lia)]at c;rw[vC (by lia)]at d;have e:i-as.length=0:=by
   have:=(vx.mp c).1;simp at this;lia
  rw[e]at c;rw[show i-xs.length=0 by lia]at d;simp at c d;subst c d;exact k
theorem All2.get{b:Type}{R:Addr->b->Prop}{as:List Addr}{xs:List b}{i:Nat}{x:b}(h:All2 R as xs)(d:xs[i]?=some x):∃a,as[i]?=some a/\R a x:=by
 have e:=(vx.mp d).1;have f:=h.1;have c:as[i]?=some as[i]:=vz (by lia);exact⟨_,c,h.2 i _ _ c d⟩
section
variable{H H':Hp}{z:Ra}{m:Rr}
end
section
variable{m:Rr}{f:Fm}{ks:List Int}{g:Int}
theorem getD_snoc{a:Type}{l:List a}{x d:a}{j:Nat}(h:j<l.length):(l++[x]).getD j d=l.getD j d:=by
 rw[vy,vy,vB h]
theorem getD_last{a:Type}{l:List a}{x d:a}:(l++[x]).getD l.length d=x:=by
 rw[vy,vC (vb _),uo];rfl
end
theorem getD_in{a:List Str}{n:Nat}(h:n<a.length):a.getD n ⟨#[]⟩∈a:=by
 rw[vy,vz h];exact getElem_mem h
theorem J2{as:List Addr}{i:Int}{a:Addr}(b:0<=i)(h:as[i.toNat]?=some a):atI (as.map V.ref) i=some (.ref a):=by
 have e:atI (as.map V.ref) ((i.toNat:Nat):Int)=some (.ref a):=jG (by rw[vv,h];rfl);rw[Int.toNat_of_nonneg b]at e;exact e
open PySem PySem.Spec PyProof.Rows L2
noncomputable def vN(j:Nat):V:=.int j
theorem yP:∀{ks:List Int} {lo hi:Int},ks.Pairwise (· < ·)->(∀k∈ks,lo<=k/\k<hi)->ks.length<=(hi-lo).toNat
 | [],_,_,_,_=>va _
 | k::r,lo,hi,h,b=>by
  have c:=yP (ks:=r) (lo:=k+1) (hi:=hi) (vV.mp h).2 fun x a=>⟨(vV.mp h).1 x a,(b x (vp _ a)).2⟩
  have d:=b k vq;rw[vQ];lia
theorem Xj{H:Hp}:∀(ks:List Int),DVs H (ks.map V.int) (ks.map PyData.int)
 | []=>.nil
 | k::r=>.cons (.int k) (Xj r)
theorem j0Q{H:Hp}{a:Addr}{ks:List Int}(h:H a=some (.lst (ks.map V.int))):DV H (.ref a) (.list (ks.map PyData.int)):=.lst h (Xj ks)
theorem j2B{H:Hp}(h:H a=some (.lst [])):DV H (.ref a) (.list []):=.lst h .nil
theorem j0T(ks:List Int):PyData.eqv (.list (ks.map PyData.int)) (.list [])=decide (ks=[]):=by
 cases ks<;>simp[PyData.eqv,PyData.eqvAll]
theorem shp(ks:List Int):SeqAt.shaped (.list (ks.map PyData.int))=true:=PySem.W.ke_shaped_ints ks
theorem shp0:SeqAt.shaped (.list [])=true:=PySem.W.ke_shaped_ints []
theorem wo(n:Int):∀hs:List Int,inV (.int n) (hs.map V.int)=decide (n∈hs)
 | []=>rfl
 | h::r=>by
  have a:=wo n r;unfold inV at a|-;rw[uy,any_cons,a];have e:eqV (.int h) (.int n)=decide (h=n):=by
   show decide _=_;simp
  rw[e,Bool.eq_iff_iff];simp only[Bool.or_eq_true,decide_eq_true_eq,mem_cons];constructor
  ·rintro(x | x)
   ·exact .inl x.symm
   ·exact .inr x
  ·rintro(x | x)
   ·exact .inl x.symm
   ·exact .inr x
theorem inI(n:Int)(a:List Int):(if false=true then !inV (.int n) (a.map V.int)else inV (.int n) (a.map V.int))=decide (n∈a):=by rw[vc (by decide),wo]
theorem notInI(n:Int)(a:List Int):(if true=true then !inV (.int n) (a.map V.int)else inV (.int n) (a.map V.int)) = !decide (n∈a):=by rw[vd rfl,wo]
theorem flats:∀hs:List Int,(hs.map V.int).all flatV=true
 | []=>rfl
 | h::r=>by rw[uy,all_cons,flats r];rfl
theorem take_snoc{a:Type}{l:List a}{i:Nat}{x:a}(h:l[i]?=some x):l.take (i+1)=l.take i++[x]:=by
 rw[List.take_add_one,h];rfl
theorem yp{is:List Nat}{i:Nat}{x:V}(h:(is.map vN)[i]?=some x):∃j,is[i]?=some j/\x = .int j/\j∈is:=by
 rw[vv]at h;obtain⟨j,a,rfl⟩:=vg.mp h;exact⟨j,a,rfl,vm a⟩
theorem j0t{ms c:List Int}(e:ms.Perm c)(f:c.Nodup)(d:ms.Pairwise (·<=·)):ms.Pairwise (· < ·):=
 (List.Pairwise.and d (e.nodup_iff.mpr f)).imp fun {a b} h=>by have g:=h.1;have i:a≠b:=h.2;lia
def Shp(n:Nat)(d:PyData):Prop:=d.canLay0=true/\d.depth<=n
theorem Shp.int:Shp 0 (.int i):=⟨rfl,vb _⟩
theorem Shp.str(h:PyData.strOk x=true):Shp 0 (.str x):=⟨h,vb _⟩
theorem Shp.mono(h:Shp n d)(a:n<=k):Shp k d:=⟨h.1,vW h.2 a⟩
theorem yj:∀{ds:List PyData},(∀d∈ds,Shp n d)->PyData.canLayAll0 ds=true/\PyData.depthAll ds<=n
 | [],_=>⟨rfl,va _⟩
 | d::r,h=>by
  have a:=h d vq;have b:=yj (ds:=r) fun x c=>h x (vp _ c)
  constructor
  ·show(d.canLay0&&PyData.canLayAll0 r)=true;rw[a.1,b.1];rfl
  ·show max d.depth (PyData.depthAll r)<=n;exact Nat.max_le.mpr ⟨a.2,b.2⟩
theorem Shp.lst(h:∀d∈ds,Shp n d):Shp (n+1) (.list ds):=⟨(yj h).1,Nat.succ_le_succ (yj h).2⟩
theorem Shp.tup(h:∀d∈ds,Shp n d):Shp (n+1) (.tuple ds):=⟨(yj h).1,Nat.succ_le_succ (yj h).2⟩
theorem Shp.ok(h:Shp n d)(a:n<=64):SeqAt.shaped d=true:=by
 unfold SeqAt.shaped;rw[h.1,Bool.true_and];exact vG (vW h.2 a)
theorem XJ(h:Ws.isW x=true):PyData.strOk x=true:=by
 unfold Ws.isW Ws.among at h;rw[Bool.and_eq_true]at h;have a:=of_decide_eq_true h.2;unfold PyData.strOk;rw[Array.all_eq_true_iff_forall_mem];intro c b;have:=j1e.mp (a c (by simpa using b));exact vG (by lia)
theorem j3J{x:Str}(h:Ws.isW x=true):x.length<=8:=by
 unfold Ws.isW at h;rw[Bool.and_eq_true]at h;exact(of_decide_eq_true h.1).2
noncomputable def limbD(p:Str×Int):PyData:=.tuple [.str p.1,.int p.2]
theorem Yt{H:Hp}:∀(xs:List Str),DVs H (xs.map V.str) (xs.map PyData.str)
 | []=>.nil
 | x::r=>.cons (.str x) (Yt r)
theorem wj{H:Hp}(h:LimbAt H a p):DV H (.ref a) (limbD p):=.tup h (.cons (.str _) (.cons (.int _) .nil))
theorem All2.tail{c:Type}{R:Addr->c->Prop}{a:Addr}{x:c}{as:List Addr}{xs:List c}(h:All2 R (a::as) (x::xs)):R a x/\All2 R as xs:=
 ⟨h.2 0 a x rfl rfl,Nat.succ.inj h.1,fun i b y d e=>h.2 (i+1) b y (by simpa using d) (by simpa using e)⟩
theorem zL{b:Type}{H:Hp}{R:Addr->b->Prop}{D:b->PyData}(k:∀a x,R a x->DV H (.ref a) (D x)):∀{as:List Addr} {xs:List b},All2 R as xs->DVs H (as.map V.ref) (xs.map D)
 | [],[],_=>.nil
 | [],_::_,h=>by have:=h.1;simp at this
 | _::_,[],h=>by have:=h.1;simp at this
 | _::_,_::_,h=>.cons (k _ _ h.tail.1) (zL k h.tail.2)
noncomputable def FmWs:Fm->Prop
 | .hold n=>0<=n/\n<=10^18
 | .ring x n=>Ws.isW x=true/\0<=n/\n<=10^18
 | .rise x h n=>Ws.isW x=true/\0<=h/\h<=10^18/\0<=n/\n<=10^18
 | .row ps=>ps.length<=8/\∀x∈ps,Ws.isW x=true
 | .side ps=>ps.length<=8/\∀x∈ps,Ws.isW x=true
 | .again k x=>0<=k/\k<=10^18/\Ws.isW x=true
structure BkOk(ls:List (Str×Int))(ps:List (Str×Fm)):Prop where
 l8:ls.length<=8
 ln:∀p∈ls,Ws.isW p.1=true/\0<=p.2/\p.2<=10^18
 p61:ps.length<=61
 pn:∀p∈ps,Ws.isW p.1=true/\FmWs p.2
theorem kF{n:Nat}{xs:List Str}(h:∀x∈xs,Ws.isW x=true):∀d∈xs.map PyData.str,Shp n d:=fun d a=>by
 obtain⟨x,b,rfl⟩:=vK.mp a;exact(Shp.str (XJ (h x b))).mono (va _)
theorem yZ(B:BkOk ls ps):Shp 4 (.list (ls.map limbD)):=by
 refine Shp.mono (n:=2) (Shp.lst fun d a=>?_) (by decide);obtain⟨p,b,rfl⟩:=vK.mp a;refine Shp.tup fun d a=>?_
 simp only[mem_cons,List.not_mem_nil,or_false]at a;rcases a with rfl | rfl
 ·exact Shp.str (XJ (B.ln p b).1)
 ·exact Shp.int
structure BookAt(H:Hp)(b pl pp:Addr)(las pas:List Addr)(ls:List (Str×Int))(ps:List (Str×Fm)):Prop where
 t:H b=some (.tup [.ref pl,.ref pp])
 l:H pl=some (.lst (las.map V.ref))
 la:All2 (LimbAt H) las ls
 p:H pp=some (.lst (pas.map V.ref))
 pa:All2 (PartAt H) pas ps
theorem FormAt.same{H H':Hp}(s:Same H H')(h:FormAt H a f):FormAt H' a f:=by
 cases f with
 | row ps=>obtain⟨b,c,d⟩:=h;exact⟨b,s _ _ c,s _ _ d⟩
 | side ps=>obtain⟨b,c,d⟩:=h;exact⟨b,s _ _ c,s _ _ d⟩
 | hold n=>exact s _ _ h
 | ring x n=>exact s _ _ h
 | rise x g n=>exact s _ _ h
 | again x n=>exact s _ _ h
theorem PartAt.same{H H':Hp}(s:Same H H')(h:PartAt H a p):PartAt H' a p:=by
 obtain⟨b,c,d⟩:=h;exact⟨b,s _ _ c,FormAt.same s d⟩
theorem BookAt.same{H H':Hp}(B:BookAt H b pl pp las pas ls ps)(s:Same H H'):BookAt H' b pl pp las pas ls ps:=
 ⟨s _ _ B.t,s _ _ B.l,B.la.mono fun a x h=>s _ _ h,s _ _ B.p,B.pa.mono fun a x h=>PartAt.same s h⟩
theorem getD_inj{a:List Str}(d:a.Nodup){i j:Nat}(hi:i<a.length)(b:j<a.length)(h:a.getD i ⟨#[]⟩=a.getD j ⟨#[]⟩):i=j:=by
 rw[vy,vy,vz hi,vz b]at h;have c:a[i]=a[j]:=h;rcases Nat.lt_trichotomy i j with q | q | q
 ·exact ud c (pairwise_iff_getElem.mp d i j hi b q)
 ·exact q
 ·exact ud c.symm (pairwise_iff_getElem.mp d j i b hi q)
open PyProof.Rows.KTD (inKeys Dat)
theorem at0:atI (x::xs) 0=some x:=jG (j:=0) rfl
theorem iteB0{A B:Prop}(e:b=false)(h:B):if b=true then A else B:=by rw[e];exact h
theorem iteB1{A B:Prop}(e:b=true)(h:A):if b=true then A else B:=by rw[e];exact h
theorem All2.at_ref{e:Type}{R:Addr->e->Prop}{as:List Addr}{xs:List e}{i:Nat}{v:V}(h:All2 R as xs)(c:(as.map V.ref)[i]?=some v):∃a x,v = .ref a/\xs[i]?=some x/\R a x:=by
 rw[vv]at c;obtain⟨a,b,rfl⟩:=vg.mp c;have f:=(vx.mp b).1;have g:=h.1;have d:xs[i]?=some xs[i]:=vz (by lia);exact⟨a,_,rfl,d,h.2 i a _ b d⟩
theorem qf:∀{n:Nat} {hs:List Int},hs.Nodup->(∀k∈hs,0<=k/\k<(n:Int))->hs.length<=n
 | 0,hs,_,h=>by
  cases hs with
  | nil=>exact vb _
  | cons k r=>have:=h k vq;lia
 | n+1,hs,nd,h=>by
  by_cases e:(n:Int)∈hs
  ·have i:=qf (n:=n) (nd.erase (n:Int)) fun k a=>by
    have b:=h k (List.mem_of_mem_erase a);have c:k≠(n:Int):=fun z=>nd.not_mem_erase (z▸a)
    lia
   have l:=List.length_erase_of_mem e;lia
  ·have i:=qf (n:=n) nd fun k a=>by
    have b:=h k a;have c:k≠(n:Int):=fun z=>e (z▸a)
    lia
   lia
noncomputable def Fm.ns:Fm->List Str
 | .row ps=>ps
 | .side ps=>ps
 | .again _ x=>[x]
 | _=>[]
noncomputable def numK(xs:List Str):List (Key×V):=xs.zipIdx.map fun p=>(Sum.inr p.1,.int (p.2:Nat))
theorem j0d(xs:List Str)(x:Str):numK (xs++[x])=numK xs++[(Sum.inr x,.int (xs.length:Nat))]:=by
 unfold numK;rw[List.zipIdx_append,vj];simp
theorem j1s(xs:List Str):(numK xs).length=xs.length:=by simp[numK]
theorem KC(xs:List Str):(numK xs).map (·.1)=xs.map Sum.inr:=by
 unfold numK;rw[v8];have e:∀(k:Nat) (xs:List Str),(xs.zipIdx k).map ((fun x=>x.1)∘fun p:Str×Nat=>((Sum.inr p.1:Key),V.int (p.2:Nat)))=xs.map Sum.inr:=fun k xs=>by
  induction xs generalizing k with
  | nil=>rfl
  | cons x r ih=>rw[List.zipIdx_cons,uy,uy,ih];rfl
 exact e 0 xs
theorem j33{xs:List Str}{j:Nat}{x:Str}(h:xs[j]?=some x):(numK xs)[j]?=some (Sum.inr x,.int (j:Nat)):=by
 unfold numK;rw[vv,List.getElem?_zipIdx,h];simp
theorem kM:∀{kvs:List (Key×V)} {j:Nat} {k:Key} {v:V},(kvs.map (·.1)).Nodup->kvs[j]?=some (k,v)->valV kvs k=some v
 | [],j,k,v,_,h=>by simp at h
 | p::r,0,k,v,_,h=>by
  simp at h;subst h;unfold valV;simp
 | p::r,j+1,k,v,nd,h=>by
  rw[uy,nodup_cons]at nd;have a:r[j]?=some (k,v):=by simpa using h
  have c:p.1≠k:=fun e=>nd.1 (e▸vK.mpr ⟨(k,v),vm a,rfl⟩)
  have b:=kM nd.2 a;unfold valV at b|-;rw[List.find?_cons,vH c];exact b
theorem Z9{xs:List Str}(a:xs.Nodup){j:Nat}{x:Str}(h:xs[j]?=some x):valV (numK xs) (Sum.inr x)=some (.int (j:Nat)):=
 kM (by rw[KC];exact pairwise_map.mpr (a.imp fun h e=>h (Sum.inr.inj e))) (j33 h)
theorem zU{kvs:List (Key×V)}{k:Key}{v:V}(h:k∉kvs.map (·.1)):putK kvs k v=kvs++[(k,v)]:=by
 unfold putK;rw[vc];intro e;obtain⟨p,b,a⟩:=any_eq_true.mp e;exact h (vK.mpr ⟨p,b,of_decide_eq_true a⟩)
noncomputable def ixOf:List Str->Str->Nat
 | [],_=>0
 | y::r,x=>if y=x then 0 else ixOf r x+1
theorem j4:∀{xs:List Str} {j:Nat} {x:Str},xs.Nodup->xs[j]?=some x->ixOf xs x=j
 | [],j,x,_,h=>by simp at h
 | y::r,0,x,_,h=>by
  simp at h;subst h;exact vd rfl
 | y::r,j+1,x,nd,h=>by
  rw[nodup_cons]at nd;have a:r[j]?=some x:=by simpa using h
  have b:y≠x:=fun e=>nd.1 (e▸vm a)
  show(if y=x then 0 else ixOf r x+1)=j+1;rw[vc b,j4 nd.2 a]
noncomputable def nmsOf{α:Type}(ps:List (Str×α)):List Str:=ps.map (·.1)
noncomputable def inP(ps:List (Str×Fm))(f:Fm):List Nat:=f.ns.map (ixOf (nmsOf ps))
structure WfB(ls:List (Str×Int))(ps:List (Str×Fm)):Prop where
 ln:(nmsOf ls).Nodup
 l8:ls.length<=8
 pn:(nmsOf ps).Nodup
 p61:ps.length<=61
 f:∀(i:Nat) (p:Str×Fm),ps[i]?=some p->(∀x∈p.2.ns,∃j,j<i/\(nmsOf ps)[j]?=some x)/\p.2.ns.length<=8
 r:∀(i:Nat) (y x:Str) (h n:Int),ps[i]?=some (y,.rise x h n)->∃j:Nat,(nmsOf ls)[j]?=some x
theorem WfB.inP_lt(W:WfB ls ps)(h:ps[i]?=some p)(a:j∈inP ps p.2):j<i:=by
 obtain⟨x,c,rfl⟩:=vK.mp a;obtain⟨k,b,e⟩:=(W.f i p h).1 x c;rw[j4 W.pn e];exact b
inductive sp_numbers_of(vs:List V)(H:Hp)(Q:VK)(xk:XK):Prop
 | mk (l:Addr) (as:List Addr) (xs:List Str) (_:vs=[.ref l]) (_:H l=some (.lst (as.map V.ref))) (_:as.length=xs.length) (_:(∀(i:Nat) (a:Addr) (x:Str),as[i]?=some a->xs[i]?=some x->∃r,H a=some (.tup [.str x,r]))) (_:xs.Nodup) (_:xs.length<=100) (_:∀(d:Addr) (H':Hp),Same H H'->H d=none->H' d=some (.dK (numK xs))->Q (.ref d) H'):sp_numbers_of vs H Q xk
def ListsAt(H:Hp)(as:List Addr)(M:List (List Int)):Prop:=All2 (fun a ks=>H a=some (.lst (ks.map V.int))) as M
theorem All2.monoM{c:Type}{R S:Addr->c->Prop}{as:List Addr}{xs:List c}(h:All2 R as xs)(k:∀a∈as,∀x,R a x->S a x):All2 S as xs:=⟨h.1,fun i a x b d=>k a (vm b) x (h.2 i a x b d)⟩
inductive sp_inner(vs:List V)(H:Hp)(Q:VK)(xk:XK):Prop
 | mk (b pl pp:Addr) (las pas:List Addr) (ls:List (Str×Int)) (ps:List (Str×Fm)) (_:vs=[.ref b]) (_:BookAt H b pl pp las pas ls ps) (_:WfB ls ps) (_:∀(l:Addr) (as:List Addr) (H':Hp),Same H H'->H l=none->H' l=some (.lst (as.map V.ref))->(∀a∈as,H a=none)->ListsAt H' as (ps.map fun p=>(inP ps p.2).map fun j:Nat=>(j:Int))->Q (.ref l) H'):sp_inner vs H Q xk
def PrsAt(H:Hp)(bs:List Addr)(e:List (Int×Int)):Prop:=All2 (fun b q=>H b=some (.tup [.int q.1,.int q.2])) bs e
def EndsAt(H:Hp)(as:List Addr)(E:List (List (Int×Int))):Prop:=All2 (fun a e=>∃bs,H a=some (.lst (bs.map V.ref))/\PrsAt H bs e) as E
def LastIn(E:List (List (Int×Int)))(is:List Nat)(k v:Int):Prop:=∃pre j post,is=pre++j::post/\(k,v)∈E.getD j []/\∀j'∈post,∀v',(k,v')∉E.getD j' []
def EndIs(ls:List (Str×Int))(ps:List (Str×Fm))(E:List (List (Int×Int)))(f:Fm)(k v:Int):Prop:=LastIn E (inP ps f) k v\/∃x n,f = .rise x v n/\k=(ixOf (nmsOf ls) x:Nat)
def EndOk(ls:List (Str×Int))(ps:List (Str×Fm))(E:List (List (Int×Int))):Prop:=∀(i:Nat) (p:Str×Fm) (e:List (Int×Int)),ps[i]?=some p->E[i]?=some e->(e.map (·.1)).Pairwise (· < ·)/\∀k v,(k,v)∈e↔EndIs ls ps E p.2 k v
inductive sp_ends(vs:List V)(H:Hp)(Q:VK)(xk:XK):Prop
 | mk (b pl pp:Addr) (las pas:List Addr) (ls:List (Str×Int)) (ps:List (Str×Fm)) (_:vs=[.ref b]) (_:BookAt H b pl pp las pas ls ps) (_:WfB ls ps) (_:∀(l:Addr) (as:List Addr) (E:List (List (Int×Int))) (H':Hp),Same H H'->H l=none->H' l=some (.lst (as.map V.ref))->(∀a∈as,H a=none)->E.length=ps.length->EndsAt H' as E->EndOk ls ps E->Q (.ref l) H'):sp_ends vs H Q xk
def MovOk(ls:List (Str×Int))(ps:List (Str×Fm))(M:List (List Int)):Prop:=∀(i:Nat) (p:Str×Fm) (ks:List Int),ps[i]?=some p->M[i]?=some ks->ks.Pairwise (· < ·)/\∀k,k∈ks↔(∃j∈inP ps p.2,k∈M.getD j [])\/∃x h n,p.2 = .rise x h n/\k=(ixOf (nmsOf ls) x:Nat)
inductive sp_moved(vs:List V)(H:Hp)(Q:VK)(xk:XK):Prop
 | mk (b pl pp:Addr) (las pas:List Addr) (ls:List (Str×Int)) (ps:List (Str×Fm)) (_:vs=[.ref b]) (_:BookAt H b pl pp las pas ls ps) (_:WfB ls ps) (_:∀(l:Addr) (as:List Addr) (M:List (List Int)) (H':Hp),Same H H'->H l=none->H' l=some (.lst (as.map V.ref))->(∀a∈as,H a=none)->M.length=ps.length->ListsAt H' as M->MovOk ls ps M->Q (.ref l) H'):sp_moved vs H Q xk
theorem Wc:∀{a b:List Int},a.Pairwise (· < ·)->b.Pairwise (· < ·)->(∀k,k∈a↔k∈b)->a=b
 | [],[],_,_,_=>rfl
 | [],y::s,_,_,h=>ud ((h y).mpr vq) (by simp)
 | x::r,[],_,_,h=>ud ((h x).mp vq) (by simp)
 | x::r,y::s,ha,hb,h=>by
  rw[vV]at ha hb;have e:x=y:=by
   rcases mem_cons.mp ((h x).mp vq)with q | q
   ·exact q
   ·rcases mem_cons.mp ((h y).mpr vq)with d | d
    ·exact d.symm
    ·have f:=hb.1 x q;have g:=ha.1 y d;lia
  subst e;congr 1;refine Wc ha.2 hb.2 fun k=>⟨fun c=>?_,fun c=>?_⟩
  ·rcases mem_cons.mp ((h k).mp (vp _ c))with q | q
   ·have:=ha.1 k c;lia
   ·exact q
  ·rcases mem_cons.mp ((h k).mpr (vp _ c))with q | q
   ·have:=hb.1 k c;lia
   ·exact q
theorem getD_map{E:List (List (Int×Int))}(j:Nat):(E.map fun e=>e.map (·.1)).getD j []=(E.getD j []).map (·.1):=by
 rw[vy,vy,vv];cases E[j]?<;>rfl
theorem wy{k:Int}{e:List (Int×Int)}:k∈e.map (·.1)↔∃v,(k,v)∈e:=by
 constructor
 ·intro h;obtain⟨p,a,rfl⟩:=vK.mp h;exact⟨p.2,a⟩
 ·rintro⟨v,h⟩;exact vK.mpr ⟨_,h,rfl⟩
theorem Yv:∀{is:List Nat},(∃v,LastIn E is k v)↔∃j∈is,∃v,(k,v)∈E.getD j []
 | []=>⟨fun⟨v,b,j,a,e,_⟩=>by cases b<;>simp at e,fun⟨j,h,_⟩=>by simp at h⟩
 | i::r=>by
  have p:=Yv (E:=E) (k:=k) (is:=r);constructor
  ·rintro⟨v,b,j,a,e,c,m⟩;exact⟨j,by rw[e];simp,v,c⟩
  ·rintro⟨j,d,v,n⟩;by_cases q:∃j∈r,∃v,(k,v)∈E.getD j []
   ·obtain⟨l,b,g,a,e,c,m⟩:=p.mpr q;exact⟨l,i::b,g,a,by rw[e];rfl,c,m⟩
   ·rcases mem_cons.mp d with rfl | d
    ·exact⟨v,[],j,r,rfl,n,fun g o l f=>q ⟨g,o,l,f⟩⟩
    ·exact ud ⟨j,d,v,n⟩ q
theorem j1j{ls:List (Str×Int)}{ps:List (Str×Fm)}{E:List (List (Int×Int))}(s:E.length=ps.length)(h:EndOk ls ps E):MovOk ls ps (E.map fun e=>e.map (·.1)):=fun i p t q d=>by
 rw[vv]at d;obtain⟨e,o,rfl⟩:=vg.mp d;obtain⟨a,b⟩:=h i p e q o;refine⟨a,fun k=>?_⟩;rw[wy];constructor
 ·rintro⟨v,r⟩;rcases(b k v).mp r with z | ⟨x,n,f,g⟩
  ·obtain⟨j,l,m,c⟩:=Yv.mp ⟨v,z⟩;exact .inl ⟨j,l,by rw[getD_map];exact wy.mpr ⟨m,c⟩⟩
  ·exact .inr ⟨x,v,n,f,g⟩
 ·rintro(⟨j,l,d⟩ | ⟨x,h,n,f,g⟩)
  ·rw[getD_map]at d;obtain⟨m,c⟩:=wy.mp d;obtain⟨v,z⟩:=Yv.mpr ⟨j,l,m,c⟩;exact⟨v,(b k v).mpr (.inl z)⟩
  ·exact⟨h,(b k h).mpr (.inr ⟨x,n,f,g⟩)⟩
theorem Xp(h:x∈xs):ixOf xs x<xs.length:=by
 induction xs with
 | nil=>exact nomatch h
 | cons y r ih=>
  show(if y=x then 0 else ixOf r x+1)<r.length+1;split
  ·lia
  ·rename_i hne;rcases mem_cons.mp h with e | e
   ·exact ud e.symm hne
   ·have:=ih e;lia
theorem Z0(W:WfB ls ps)(s:E.length<=ps.length)(h:EndOk ls ps E):∀(i:Nat),∀q∈E.getD i [],0<=q.1/\q.1<(ls.length:Int):=by
 intro i
 induction i using Nat.strongRecOn with
 | ind i ih=>
  intro q a;rw[vy]at a;cases e:E[i]? with
  | none=>rw[e]at a;exact nomatch a
  | some ev=>
   rw[e]at a;have r:=(vx.mp e).1;have f:ps[i]?=some ps[i]:=vz (by lia);obtain⟨_,b⟩:=h i _ ev f e;rcases(b q.1 q.2).mp a with⟨m,j,k,c,d,_⟩ | ⟨x,n,c,d⟩
   ·exact ih j (W.inP_lt f (by rw[c];simp)) _ d
   ·have g:ps[i]?=some (ps[i].1,.rise x q.2 n):=by rw[f,<-c]
    obtain⟨j,l⟩:=W.r i _ _ _ _ g;have o:=Xp (vm l);have p:(nmsOf ls).length=ls.length:=vt _;rw[d];lia
theorem Wm{ls:List (Str×Int)}{ps:List (Str×Fm)}(W:WfB ls ps){E:List (List (Int×Int))}(f:E.length<=ps.length)(h:EndOk ls ps E){i:Nat}{e:List (Int×Int)}(c:E[i]?=some e):e.length<=8:=by
 have hi:=(vx.mp c).1;have a:=(h i _ e (vz (by lia)) c).1;have b:=Z0 W f h i;rw[vy,c]at b;have z:=yP (ks:=e.map (·.1)) (lo:=0) (hi:=ls.length) a fun k d=>by
  obtain⟨q,g,rfl⟩:=vK.mp d;exact b q g
 rw[vt]at z;have:=W.l8;lia
noncomputable def putI(kvs:List (Int×Int))(k v:Int):List (Int×Int):=if k∈kvs.map (·.1)then kvs.map (fun q=>if q.1=k then(q.1,v)else q)else kvs++[(k,v)]
noncomputable def mergeI(kvs more:List (Int×Int)):List (Int×Int):=more.foldl (fun acc q=>putI acc q.1 q.2) kvs
theorem j1N(kvs:List (Int×Int))(k v:Int):putK (kvs.map iiK) (Sum.inl k) (.int v)=(putI kvs k v).map iiK:=by
 have e:(((kvs.map iiK).any fun kv=>decide (kv.1=(Sum.inl k:Key)))=true)↔k∈kvs.map (·.1):=by
  rw[List.any_map,any_eq_true];constructor
  ·rintro⟨q,a,h⟩;have b:(Sum.inl q.1:Key)=Sum.inl k:=of_decide_eq_true h;exact vK.mpr ⟨q,a,Sum.inl.inj b⟩
  ·intro h;obtain⟨q,a,rfl⟩:=vK.mp h;exact⟨q,a,vG rfl⟩
 unfold putK putI;by_cases c:k∈kvs.map (·.1)
 ·rw[vd (e.mpr c),vd c,v8,v8];refine map_congr_left fun q _=>?_
  show(if(Sum.inl q.1:Key)=Sum.inl k then _ else _)=iiK (if q.1=k then(q.1,v)else q);by_cases z:q.1=k
  ·rw[vd z,vd (by rw[z])];rfl
  ·rw[vc z,vc (fun w=>z (Sum.inl.inj w))]
 ·rw[vc (fun w=>c (e.mp w)),vc c,vj];rfl
theorem ZH:∀(more kvs:List (Int×Int)),mergeK (kvs.map iiK) (more.map iiK)=(mergeI kvs more).map iiK
 | [],kvs=>rfl
 | q::r,kvs=>by
  show mergeK (putK (kvs.map iiK) (Sum.inl q.1) (.int q.2)) (r.map iiK)=(mergeI (putI kvs q.1 q.2) r).map iiK;rw[j1N,ZH r]
theorem j0k(kvs:List (Int×Int))(k v:Int)(d:(kvs.map (·.1)).Nodup):((putI kvs k v).map (·.1)).Nodup:=by
 unfold putI;split
 ·rw[v8];have e:kvs.map ((fun x=>x.1)∘fun q=>if q.1=k then(q.1,v)else q)=kvs.map (·.1):=map_congr_left fun q _=>by
   show(if q.1=k then(q.1,v)else q).1=q.1;split<;>rfl
  rw[e];exact d
 ·rename_i c;rw[vj,nodup_append];exact⟨d,pairwise_singleton _ _,fun a f b g e=>c (by rw[show k=b from(vo.mp g).symm,<-e];exact f)⟩
theorem j1f:(a,b)∈putI kvs k v↔(a=k/\b=v)\/(a≠k/\(a,b)∈kvs):=by
 unfold putI;split
 ·rename_i c;rw[vK];constructor
  ·rintro⟨q,d,e⟩;by_cases z:q.1=k
   ·rw[vd z]at e;cases e;exact .inl ⟨z,rfl⟩
   ·rw[vc z]at e;subst e;exact .inr ⟨z,d⟩
  ·rintro(⟨rfl,rfl⟩ | ⟨f,g⟩)
   ·obtain⟨q,d,e⟩:=vK.mp c;exact⟨q,d,by rw[vd e,e]⟩
   ·exact⟨(a,b),g,by rw[vc f]⟩
 ·rename_i c;rw[vh];constructor
  ·rintro(h | h)
   ·exact .inr ⟨fun e=>c (e▸vK.mpr ⟨(a,b),h,rfl⟩),h⟩
   ·cases vo.mp h;exact .inl ⟨rfl,rfl⟩
  ·rintro(⟨rfl,rfl⟩ | ⟨_,h⟩)
   ·exact .inr (vo.mpr rfl)
   ·exact .inl h
theorem Ky:∀{more kvs:List (Int×Int)},(kvs.map (·.1)).Nodup->(more.map (·.1)).Nodup->((mergeI kvs more).map (·.1)).Nodup/\∀k v,(k,v)∈mergeI kvs more↔(k,v)∈more\/((∀c,(k,c)∉more)/\(k,v)∈kvs)
 | [],kvs,nd,_=>⟨nd,fun k v=>⟨fun h=>.inr ⟨(fun _ h=>nomatch h),h⟩,fun h=>h.elim (fun h=>nomatch h) (·.2)⟩⟩
 | q::r,kvs,nd,nm=>by
  rw[uy,nodup_cons]at nm;obtain⟨a,b⟩:=Ky (more:=r) (kvs:=putI kvs q.1 q.2) (j0k _ _ _ nd) nm.2;refine⟨a,fun k v=>(b k v).trans ?_⟩;rw[j1f];have i:∀c,(q.1,c)∉r:=fun c h=>nm.1 (vK.mpr ⟨_,h,rfl⟩)
  constructor
  ·rintro(h | ⟨f,⟨rfl,rfl⟩ | ⟨g,j⟩⟩)
   ·exact .inl (vp _ h)
   ·exact .inl vq
   ·refine .inr ⟨fun c d=>?_,j⟩;rcases mem_cons.mp d with e | e
    ·exact g (by rw[<-e])
    ·exact f c e
  ·rintro(h | ⟨f,g⟩)
   ·rcases mem_cons.mp h with e | e
    ·refine .inr ⟨fun c d=>?_,.inl ⟨by rw[<-e],by rw[<-e]⟩⟩;rw[<-e]at i;exact i c d
    ·exact .inl e
   ·refine .inr ⟨fun c d=>f c (vp _ d),.inr ⟨fun e=>?_,g⟩⟩;exact f q.2 (by rw[e];exact vq)
theorem xz(b:(ms.map (·.1)).Nodup):mergeI [] ms=ms:=by
 have e:∀(r a:List (Int×Int)),((a++r).map (·.1)).Nodup->mergeI a r=a++r:=by
  intro r
  induction r with
  | nil=>intro a _;exact(append_nil _).symm
  | cons q r ih=>
   intro a b;have c:q.1∉a.map (·.1):=fun h=>by
    rw[vj,nodup_append]at b;exact b.2.2 q.1 h q.1 (by simp) rfl
   show mergeI (putI a q.1 q.2) r=_;unfold putI;rw[vc c,ih (a++[(q.1,q.2)]) (by rw[List.append_assoc];exact b),List.append_assoc];rfl
 exact e ms [] b
theorem j02:LastIn E (is++[j]) k v↔(k,v)∈E.getD j []\/((∀m,(k,m)∉E.getD j [])/\LastIn E is k v):=by
 constructor
 ·rintro⟨c,i,a,e,g,l⟩;rcases List.eq_nil_or_concat a with rfl | ⟨b,x,rfl⟩
  ·have f:=List.append_inj' (show is++[j]=c++[i]from e) rfl;have n:j=i:=by simpa using f.2
   rw[n];exact .inl g
  ·have p:is++[j]=(c++i::b)++[x]:=by rw[e];simp
   have f:=List.append_inj' p rfl;have n:j=x:=by simpa using f.2
   subst n;exact .inr ⟨l j (by simp),c,i,b,f.1,g,fun o d=>l o (by simp[d])⟩
 ·rintro(h | ⟨g,c,i,a,e,l,q⟩)
  ·exact⟨is,j,[],rfl,h,(fun _ h=>nomatch h)⟩
  ·refine⟨c,i,a++[j],by rw[e];simp,l,fun o d m=>?_⟩;rcases vh.mp d with z | z
   ·exact q o z m
   ·rw[vo.mp z];exact g m
theorem Z4(h:∀j∈is,E.getD j []=E'.getD j []):LastIn E is k v->LastIn E' is k v:=by
 rintro⟨c,j,b,e,f,g⟩;refine⟨c,j,b,e,by rw[<-h j (by rw[e];simp)];exact f,fun d a=>?_⟩;rw[<-h d (by rw[e];simp[a])];exact g d a
theorem EndOk.snoc{ls:List (Str×Int)}{ps:List (Str×Fm)}(W:WfB ls ps){E:List (List (Int×Int))}{p:Str×Fm}{e:List (Int×Int)}(h:EndOk ls ps E)(u:ps[E.length]?=some p)(o:(e.map (·.1)).Pairwise (· < ·))
  (r:∀k v,(k,v)∈e↔EndIs ls ps E p.2 k v):EndOk ls ps (E++[e]):=fun i q f g c=>by
 have t:i<=E.length:=by
  have:=(vx.mp c).1;rw[vn]at this;exact Nat.le_of_lt_succ this
 have ext:∀j∈inP ps q.2,E.getD j []=(E++[e]).getD j []:=fun j l=>(getD_snoc (by have:=W.inP_lt g l;lia)).symm
 have d:∀k v,EndIs ls ps E q.2 k v↔EndIs ls ps (E++[e]) q.2 k v:=fun k v=>by
  unfold EndIs;exact⟨fun h=>h.imp (Z4 ext) id,fun h=>h.imp (Z4 fun j l=>(ext j l).symm) id⟩
 by_cases s:i<E.length
 ·rw[vB s]at c;obtain⟨a,b⟩:=h i q f g c;exact⟨a,fun k v=>(b k v).trans (d k v)⟩
 ·have n:i=E.length:=by lia
  subst n;rw[vC (vb _),uo]at c;have m:e=f:=by simpa using c
  subst m;rw[u]at g;cases g;exact⟨o,fun k v=>(r k v).trans (d k v)⟩
theorem Wr{H:Hp}(h:FormAt H a f)(d:∀x v n,f≠.rise x v n):∃k xs,H a=some (.tup (.str k::xs))/\decide (k=("raise" : Str))=false:=by
 cases f with
 | hold n=>exact⟨_,_,h,by decide +kernel⟩
 | ring x n=>exact⟨_,_,h,by decide +kernel⟩
 | rise x v n=>exact ud rfl (d x v n)
 | row ps=>obtain⟨b,c,_⟩:=h;exact⟨_,_,c,by decide +kernel⟩
 | side ps=>obtain⟨b,c,_⟩:=h;exact⟨_,_,c,by decide +kernel⟩
 | again k x=>exact⟨_,_,h,by decide +kernel⟩
noncomputable def kv0(ls:List (Str×Int)):Fm->List (Int×Int)
 | .rise x h _=>[((ixOf (nmsOf ls) x:Nat),h)]
 | _=>[]
theorem j2N(a:∀x v n,f≠.rise x v n):kv0 ls f=[]:=by
 cases f with
 | rise x v n=>exact ud rfl (a x v n)
 | _=>rfl
theorem wz:(k,v)∈kv0 ls f↔∃x n,f = .rise x v n/\k=(ixOf (nmsOf ls) x:Nat):=by
 cases f with
 | rise x h n=>
  constructor
  ·intro a;cases vo.mp a;exact⟨x,n,rfl,rfl⟩
  ·rintro⟨c,b,e,rfl⟩;injection e with e1 e2 e3;subst e1 e2;exact vo.mpr rfl
 | _=>exact⟨(fun h=>nomatch h),fun⟨_,_,e,_⟩=>nomatch e⟩
theorem j4e(f:Fm):inP ps f=[]\/kv0 ls f=[]:=by
 cases f with
 | rise x h n=>exact .inl rfl
 | _=>exact .inr rfl
theorem j4f(f:Fm):((kv0 ls f).map (·.1)).Nodup:=by
 cases f with
 | rise x h n=>exact pairwise_singleton _ _
 | _=>exact .nil
inductive sp_check_side(vs:List V)(H:Hp)(Q:VK)(xk:XK):Prop
 | mk (r:Int) (l ll:Addr) (as las:List Addr) (M:List (List Int)) (_:vs=[.int r,.ref l,.ref ll]) (_:H l=some (.lst (as.map V.ref))) (_:ListsAt H as M) (_:(∀ks∈M,ks≠[])) (_:M.length<=8) (_:H ll=some (.lst (las.map V.ref))) (_:(∀k:Int,(M.filter fun ks=>decide (k∈ks)).length<=1)) (_:∀H',Same H H'->Q .non H'):sp_check_side vs H Q xk
noncomputable def LenIs:Fm->List Int->Int->Prop
 | .hold n,_,g=>g=n
 | .ring _ n,_,g=>g=n
 | .rise _ _ n,_,g=>g=n
 | .row _,gs,g=>g=gs.sum
 | .side _,gs,g=>g∈gs/\∀x∈gs,x<=g
 | .again k _,gs,g=>∃y,gs.head?=some y/\g=k*y
noncomputable def LenPre:Fm->List Int->Prop
 | .side _,gs=>gs≠[]
 | .again k _,gs=>∃y r,gs=y::r/\0<=k/\k<=10^18/\0<=y/\y<=10^60
 | _,_=>True
inductive sp_length_of(vs:List V)(H:Hp)(Q:VK)(xk:XK):Prop
 | mk (a l:Addr) (f:Fm) (gs:List Int) (_:vs=[.ref a,.ref l]) (_:FormAt H a f) (_:H l=some (.lst (gs.map V.int))) (_:LenPre f gs) (_:∀g,LenIs f gs g->Q (.int g) H):sp_length_of vs H Q xk
structure Snd(ls:List (Str×Int))(ps:List (Str×Fm))(gs:List Int)(hs:List (List Int)):Prop where
 w:WfB ls ps
 gl:gs.length=ps.length
 gb:∀i,i<ps.length->0<=gs.getD i 0/\gs.getD i 0<=10^60
 mv:∀M:List (List Int),M.length=ps.length->MovOk ls ps M->∀i,i<ps.length->M.getD i []=hs.getD i []
 ln:∀(i:Nat) (p:Str×Fm),ps[i]?=some p->LenPre p.2 ((inP ps p.2).map fun j=>gs.getD j 0)/\∀g,LenIs p.2 ((inP ps p.2).map fun j=>gs.getD j 0) g->g=gs.getD i 0
 sd:∀(i:Nat) (p:Str×Fm) (qs:List Str),ps[i]?=some p->p.2 = .side qs->(∀j∈inP ps p.2,hs.getD j []≠[])/\∀k:Int,(((inP ps p.2).map fun j=>hs.getD j []).filter fun ks=>decide (k∈ks)).length<=1
inductive sp_lengths(vs:List V)(H:Hp)(Q:VK)(xk:XK):Prop
 | mk (b pl pp:Addr) (las pas:List Addr) (ls:List (Str×Int)) (ps:List (Str×Fm)) (gs:List Int) (hs:List (List Int)) (_:vs=[.ref b]) (_:BookAt H b pl pp las pas ls ps) (_:Snd ls ps gs hs) (_:∀(l:Addr) (H':Hp),Same H H'->H l=none->H' l=some (.lst (gs.map V.int))->Q (.ref l) H'):sp_lengths vs H Q xk
theorem any_empty{M:List (List Int)}(h:∀ks∈M,ks≠[]):(M.any fun ks=>decide (ks=[]))=false:=by
 rw[List.any_eq_false];intro ks a;simpa using h ks a
theorem j2I{gs:List Int}{i:Nat}(h:i<gs.length):gs.take (i+1)=gs.take i++[gs.getD i 0]:=by
 refine take_snoc ?_;rw[vy,vz h];rfl
theorem j0Z{gs:List Int}{i j:Nat}(hi:i<=gs.length)(a:j<i):atI ((gs.take i).map V.int) (j:Int)=some (.int (gs.getD j 0)):=by
 refine jG ?_;rw[vv,List.getElem?_take,vd a,vy,vz (by lia)];rfl
theorem YL:∀{a b:List (Int×Int)},(a.map (·.1)).Pairwise (· < ·)->(b.map (·.1)).Pairwise (· < ·)->(∀k v,(k,v)∈a↔(k,v)∈b)->a=b
 | [],[],_,_,_=>rfl
 | [],y::s,_,_,h=>ud ((h y.1 y.2).mpr vq) (by simp)
 | x::r,[],_,_,h=>ud ((h x.1 x.2).mp vq) (by simp)
 | x::r,y::s,ha,hb,h=>by
  rw[uy,vV]at ha hb;have g:∀q∈r,x.1<q.1:=fun q d=>ha.1 _ (vK.mpr ⟨q,d,rfl⟩)
  have i:∀q∈s,y.1<q.1:=fun q d=>hb.1 _ (vK.mpr ⟨q,d,rfl⟩)
  have e:x=y:=by
   rcases mem_cons.mp ((h x.1 x.2).mp vq)with q | q
   ·exact q
   ·rcases mem_cons.mp ((h y.1 y.2).mpr vq)with f | f
    ·exact f.symm
    ·have j:=i _ q;have l:=g _ f;simp only at j l;lia
  subst e;rw[YL ha.2 hb.2 fun k v=>?_];constructor
  ·intro c;rcases mem_cons.mp ((h k v).mp (vp _ c))with q | q
   ·have:=g _ c;rw[<-q]at this;simp only at this;lia
   ·exact q
  ·intro c;rcases mem_cons.mp ((h k v).mpr (vp _ c))with q | q
   ·have:=i _ c;rw[<-q]at this;simp only at this;lia
   ·exact q
theorem j40{xs:List V}{k:Nat}:cutV xs none (some (k:Int))=xs.take k:=by
 unfold cutV;rw[show HT.sIx xs.length 0 none=0 from rfl,HT.XG,List.drop_zero,Nat.sub_zero,List.take_eq_take_iff];lia
theorem j2V(W:WfB ls ps)(m:M.length=ps.length)(h:MovOk ls ps M):∀(i:Nat),∀k∈M.getD i [],0<=k/\k<(ls.length:Int):=by
 intro i
 induction i using Nat.strongRecOn with
 | ind i ih=>
  intro k a;rw[vy]at a;cases e:M[i]? with
  | none=>rw[e]at a;exact nomatch a
  | some ks=>
   rw[e]at a;have l:=(vx.mp e).1;have d:ps[i]?=some ps[i]:=vz (by lia);obtain⟨_,b⟩:=h i _ ks d e;rcases(b k).mp a with⟨j,c,f⟩ | ⟨x,v,n,g,rfl⟩
   ·exact ih j (W.inP_lt d c) k f
   ·obtain⟨j,c⟩:=W.r i (ps[i]).1 x v n (by rw[d,<-g]);rw[j4 W.ln c];have:=(vx.mp c).1;unfold nmsOf at this;rw[vt]at this;lia
theorem j2W{ls:List (Str×Int)}{ps:List (Str×Fm)}(W:WfB ls ps){M:List (List Int)}(d:M.length=ps.length)(h:MovOk ls ps M){i:Nat}{ks:List Int}(c:M[i]?=some ks):ks.length<=8:=by
 have hi:=(vx.mp c).1;have a:=(h i _ ks (vz (by lia)) c).1;have b:=j2V W d h i;rw[vy,c]at b;have z:=yP (ks:=ks) (lo:=0) (hi:=ls.length) a b;have:=W.l8;lia
theorem FormAt.keep{H H':Hp}(k:∀c xs,H c=some (.tup xs)->H' c=some (.tup xs))(h:FormAt H a f):FormAt H' a f:=by
 cases f with
 | row ps=>obtain⟨c,b,d⟩:=h;exact⟨c,k _ _ b,k _ _ d⟩
 | side ps=>obtain⟨c,b,d⟩:=h;exact⟨c,k _ _ b,k _ _ d⟩
 | hold n=>exact k _ _ h
 | ring x n=>exact k _ _ h
 | rise x g n=>exact k _ _ h
 | again x n=>exact k _ _ h
theorem PartAt.keep{H H':Hp}(k:∀c xs,H c=some (.tup xs)->H' c=some (.tup xs))(h:PartAt H a p):PartAt H' a p:=by
 obtain⟨b,d,e⟩:=h;exact⟨b,k _ _ d,FormAt.keep k e⟩
section
variable{ls:List (Str×Int)}{x:Str}{f:Fm}
end
theorem j0C(a:0<=i)(h:xs[i.toNat]?=some c):atI xs i=some c:=by
 have q:∀k:Nat,xs[k]?=some c->atI xs (k:Int)=some c:=fun k d=>by
  obtain⟨b,rfl⟩:=vx.mp d;unfold atI ixN;simp[b]
 have:=q i.toNat h;rw[Int.toNat_of_nonneg a]at this;exact this
theorem ixZ{n:Nat}{k:Int}(a:0<=k)(c:k<n):ixN n k=some k.toNat:=by
 have b:∀j:Nat,j<n->ixN n (j:Int)=some j:=fun j h=>by
  unfold ixN;simp[h]
 have q:=b k.toNat (by lia);rw[Int.toNat_of_nonneg a]at q;exact q
noncomputable abbrev Pc:=Nat×Int×Int
noncomputable abbrev Pr4:=Nat×Int×Int×Option Int
noncomputable def rowPc(gs:List Int):List Nat->Int->List Pc
 | [],_=>[]
 | j::r,b=>(j,1,b)::rowPc gs r (b+gs.getD j 0)
noncomputable def pcsI(gs:List Int)(f:Fm)(is:List Nat):List Pc:=
 match f with
 | .again k _=>match is with
  | []=>[]
  | j::_=>(j,1,0)::(if 1<k then[(j,k-1,gs.getD j 0)]else[])
 | .row _=>rowPc gs is 0
 | _=>is.map fun j=>(j,1,0)
def PcsAt(H:Hp)(as:List Addr)(qs:List Pc):Prop:=All2 (fun a q=>H a=some (.tup [.int (q.1:Nat),.int q.2.1,.int q.2.2])) as qs
def PssAt(H:Hp)(as:List Addr)(qss:List (List Pc)):Prop:=All2 (fun a qs=>∃bs,H a=some (.lst (bs.map V.ref))/\PcsAt H bs qs) as qss
inductive sp_pieces_in(vs:List V)(H:Hp)(Q:VK)(xk:XK):Prop
 | mk (a l s:Addr) (f:Fm) (is:List Nat) (gs:List Int) (_:vs=[.ref a,.ref l,.ref s]) (_:FormAt H a f) (_:H l=some (.lst ((is.map fun j:Nat=>(j:Int)).map V.int))) (_:H s=some (.lst (gs.map V.int))) (_:is.length<=8) (_:(∀j∈is,j<gs.length)) (_:(∀k x,f = .again k x->is≠[])) (_:∀(p:Addr) (as:List Addr) (H':Hp),Same H H'->H p=none->H' p=some (.lst (as.map V.ref))->PcsAt H' as (pcsI gs f is)->Q (.ref p) H'):sp_pieces_in vs H Q xk
inductive sp_pieces_of(vs:List V)(H:Hp)(Q:VK)(xk:XK):Prop
 | mk (b pl pp s:Addr) (las pas:List Addr) (ls:List (Str×Int)) (ps:List (Str×Fm)) (gs:List Int) (_:vs=[.ref b,.ref s]) (_:BookAt H b pl pp las pas ls ps) (_:WfB ls ps) (_:H s=some (.lst (gs.map V.int))) (_:gs.length=ps.length) (_:∀(l:Addr) (as:List Addr) (H':Hp),Same H H'->H l=none->H' l=some (.lst (as.map V.ref))->PssAt H' as (ps.map fun p=>pcsI gs p.2 (inP ps p.2))->(∀a∈as,H a=none)->Q (.ref l) H'):sp_pieces_of vs H Q xk
noncomputable def ov(gs:List Int)(t:Int)(q:Pc):Int:=if q.2.1<(t-q.2.2)/gs.getD q.1 0 then q.2.1 else(t-q.2.2)/gs.getD q.1 0
noncomputable def prg1(gs:List Int)(t:Int)(q:Pc):Option Pr4:=
 if q.2.2<=t then some (q.1,q.2.2,ov gs t q,if ov gs t q<q.2.1 then some (t-q.2.2-ov gs t q*gs.getD q.1 0)else none)else none
noncomputable def prg(gs:List Int)(t:Int)(qs:List Pc):List Pr4:=qs.filterMap (prg1 gs t)
noncomputable def optV:Option Int->V
 | none=>.non
 | some r=>.int r
def PrgAt(H:Hp)(as:List Addr)(ys:List Pr4):Prop:=All2 (fun a y=>H a=some (.tup [.int (y.1:Nat),.int y.2.1,.int y.2.2.1,optV y.2.2.2])) as ys
def PcOk(gs:List Int)(q:Pc):Prop:=q.1<gs.length/\1<=gs.getD q.1 0/\gs.getD q.1 0<=10^60/\1<=q.2.1/\q.2.1<=10^18/\0<=q.2.2/\q.2.2<=10^62
inductive sp_progress(vs:List V)(H:Hp)(Q:VK)(xk:XK):Prop
 | mk (l s:Addr) (t:Int) (bs:List Addr) (qs:List Pc) (gs:List Int) (_:vs=[.ref l,.ref s,.int t]) (_:H l=some (.lst (bs.map V.ref))) (_:PcsAt H bs qs) (_:H s=some (.lst (gs.map V.int))) (_:qs.length<=8) (_:(∀q∈qs,PcOk gs q)) (_:0<=t) (_:t<=10^62) (_:∀(p:Addr) (as:List Addr) (H':Hp),Same H H'->H p=none->H' p=some (.lst (as.map V.ref))->PrgAt H' as (prg gs t qs)->Q (.ref p) H'):sp_progress vs H Q xk
def GonAt(H:Hp)(as:List Addr)(xs:List (Nat×Int)):Prop:=All2 (fun a x=>H a=some (.tup [.int (x.1:Nat),.int x.2])) as xs
noncomputable def wth1(gs:List Int)(y:Pr4):List (Nat×Int):=(if 0<y.2.2.1 then[(y.1,gs.getD y.1 0)]else[])++(match y.2.2.2 with | some r=>[(y.1,r)] | none=>[])
noncomputable def wth(gs:List Int)(t:Int)(qs:List Pc):List (Nat×Int):=(prg gs t qs).flatMap (wth1 gs)
inductive sp_within(vs:List V)(H:Hp)(Q:VK)(xk:XK):Prop
 | mk (l s:Addr) (t:Int) (bs:List Addr) (qs:List Pc) (gs:List Int) (_:vs=[.ref l,.ref s,.int t]) (_:H l=some (.lst (bs.map V.ref))) (_:PcsAt H bs qs) (_:H s=some (.lst (gs.map V.int))) (_:qs.length<=8) (_:(∀q∈qs,PcOk gs q)) (_:0<=t) (_:t<=10^62) (_:∀(p:Addr) (as:List Addr) (H':Hp),Same H H'->H p=none->H' p=some (.lst (as.map V.ref))->GonAt H' as (wth gs t qs)->Q (.ref p) H'):sp_within vs H Q xk
noncomputable def reachL(pc:Nat->List Pc)(gs:List Int):Nat->Nat->Int->List (Nat×Int)
 | 0,i,t=>[(i,t)]
 | n+1,i,t=>if gs.getD i 0<=t\/pc i=[]then[(i,t)]else(wth gs t (pc i)).flatMap fun x=>reachL pc gs n x.1 x.2
noncomputable def nodesL(pc:Nat->List Pc)(gs:List Int):Nat->Nat->Int->Nat
 | 0,_,_=>1
 | n+1,i,t=>if gs.getD i 0<=t\/pc i=[]then 1 else 1+((wth gs t (pc i)).map fun x=>nodesL pc gs n x.1 x.2).sum
noncomputable def pcB(ps:List (Str×Fm))(gs:List Int)(i:Nat):List Pc:=match ps[i]? with | some p=>pcsI gs p.2 (inP ps p.2) | none=>[]
section
variable{gs:List Int}{t:Int}
theorem Kx(h:q∈rowPc gs is b):q.1∈is/\q.2.1=1:=by
 induction is generalizing b with
 | nil=>exact nomatch h
 | cons j r ih=>
  rcases mem_cons.mp h with rfl | h
  ·exact⟨vq,rfl⟩
  ·obtain⟨a,b⟩:=ih h;exact⟨vp _ a,b⟩
theorem j06(is:List Nat)(b:Int):(rowPc gs is b).length=is.length:=by
 induction is generalizing b with
 | nil=>rfl
 | cons j r ih=>rw[rowPc,vQ,vQ,ih]
theorem Yk(d:∀j∈is,0<=gs.getD j 0/\gs.getD j 0<=10^60)(h:q∈rowPc gs is b):b<=q.2.2/\q.2.2<=b+10^60*is.length:=by
 induction is generalizing b with
 | nil=>exact nomatch h
 | cons j r ih=>
  have g:=d j vq;rw[vQ];rcases mem_cons.mp h with rfl | h
  ·have:(0:Int)<=10^60*((r.length+1:Nat):Int):=Int.mul_nonneg (by decide) (by lia);exact⟨vA _,by show b<=_;lia⟩
  ·obtain⟨a,c⟩:=ih (fun k e=>d k (vp _ e)) h;refine⟨by lia,?_⟩;rw[show((r.length+1:Nat):Int)=(r.length:Int)+1 by lia,Int.mul_add];lia
theorem Y9(h:q∈pcsI gs f is):q.1∈is:=by
 unfold pcsI at h;split at h
 ·split at h
  ·exact nomatch h
  ·rcases mem_cons.mp h with rfl | h
   ·exact vq
   ·split at h
    ·rw[vo.mp h];exact vq
    ·exact nomatch h
 ·exact(Kx h).1
 ·obtain⟨j,a,rfl⟩:=vK.mp h;exact a
theorem j17(a:is.length<=8):(pcsI gs f is).length<=8:=by
 unfold pcsI;split
 ·split
  ·exact va _
  ·split<;>simp
 ·rw[j06];exact a
 ·rw[vt];exact a
theorem wA(h:y∈prg gs t qs):∃q∈qs,prg1 gs t q=some y:=mem_filterMap.mp h
theorem Xs(qs:List Pc):(prg gs t qs).length<=qs.length:=List.length_filterMap_le _ _
theorem ku(h:prg1 gs t q=some y):y.1=q.1:=by
 unfold prg1 at h;split at h
 ·cases h;rfl
 ·cases h
theorem wB(h:x∈wth gs t qs):∃q∈qs,x.1=q.1:=by
 obtain⟨y,c,a⟩:=mem_flatMap.mp h;obtain⟨q,b,e⟩:=wA c;refine⟨q,b,?_⟩;rw[<-ku e];unfold wth1 at a;rcases vh.mp a with z | z
 ·split at z
  ·rw[vo.mp z]
  ·exact nomatch z
 ·split at z
  ·rw[vo.mp z]
  ·exact nomatch z
theorem j18(y:Pr4):(wth1 gs y).length<=2:=by
 unfold wth1;rw[vn];have a:(if 0<y.2.2.1 then[(y.1,gs.getD y.1 0)]else[]).length<=1:=by split<;>simp
 have b:(match y.2.2.2 with | some r=>[(y.1,r)] | none=>[]:List (Nat×Int)).length<=1:=by split<;>simp
 lia
theorem j2P(qs:List Pc):(wth gs t qs).length<=2*qs.length:=by
 have h:∀a:List Pr4,(a.flatMap (wth1 gs)).length<=2*a.length:=fun a=>by
  induction a with
  | nil=>exact va _
  | cons y r ih=>
   rw[flatMap_cons,vn,vQ];have:=j18 (gs:=gs) y;lia
 have:=h (prg gs t qs);have:=Xs (gs:=gs) (t:=t) qs;unfold wth;lia
end
section
variable{ls:List (Str×Int)}{ps:List (Str×Fm)}{gs:List Int}
theorem j1G(W:WfB ls ps)(h:q∈pcB ps gs i):q.1<i:=by
 unfold pcB at h;split at h
 ·rename_i p hp;exact W.inP_lt hp (Y9 h)
 ·exact nomatch h
theorem QT(W:WfB ls ps)(h:x∈wth gs t (pcB ps gs i)):x.1<i:=by
 obtain⟨q,a,e⟩:=wB h;rw[e];exact j1G W a
theorem QN{a c:Type}{f g:a->List c}:∀{l:List a},(∀x∈l,f x=g x)->l.flatMap f=l.flatMap g
 | [],_=>rfl
 | x::r,h=>by rw[flatMap_cons,flatMap_cons,h x vq,QN fun y b=>h y (vp _ b)]
theorem kA(W:WfB ls ps):∀{n m i:Nat} {t:Int},i<n->i<m->reachL (pcB ps gs) gs n i t=reachL (pcB ps gs) gs m i t
 | 0,_,_,_,h,_=>ud h (Nat.not_lt_zero _)
 | _,0,_,_,_,h=>ud h (Nat.not_lt_zero _)
 | n+1,m+1,i,t,h1,h2=>by
  unfold reachL;split
  ·rfl
  ·exact QN fun x a=>by
    have:=QT W a;exact kA W (by lia) (by lia)
theorem ka(W:WfB ls ps):∀{n m i:Nat} {t:Int},i<n->i<m->nodesL (pcB ps gs) gs n i t=nodesL (pcB ps gs) gs m i t
 | 0,_,_,_,h,_=>ud h (Nat.not_lt_zero _)
 | _,0,_,_,_,h=>ud h (Nat.not_lt_zero _)
 | n+1,m+1,i,t,h1,h2=>by
  unfold nodesL;split
  ·rfl
  ·congr 2;exact map_congr_left fun x a=>by
    have:=QT W a;exact ka W (by lia) (by lia)
noncomputable def reach(ps:List (Str×Fm))(gs:List Int)(i:Nat)(t:Int):List (Nat×Int):=reachL (pcB ps gs) gs (i+1) i t
noncomputable def nodes(ps:List (Str×Fm))(gs:List Int)(i:Nat)(t:Int):Nat:=nodesL (pcB ps gs) gs (i+1) i t
theorem JB(h:gs.getD i 0<=t\/pcB ps gs i=[]):reach ps gs i t=[(i,t)]:=by
 unfold reach reachL;rw[vd h]
theorem qz(W:WfB ls ps)(h:¬(gs.getD i 0<=t\/pcB ps gs i=[])):reach ps gs i t=(wth gs t (pcB ps gs i)).flatMap fun x=>reach ps gs x.1 x.2:=by
 unfold reach;rw[reachL,vc h];exact QN fun x a=>by
  have:=QT W a;exact kA W (by lia) (by lia)
theorem ZI(h:gs.getD i 0<=t\/pcB ps gs i=[]):nodes ps gs i t=1:=by
 unfold nodes nodesL;rw[vd h]
theorem kc(W:WfB ls ps)(h:¬(gs.getD i 0<=t\/pcB ps gs i=[])):nodes ps gs i t=1+((wth gs t (pcB ps gs i)).map fun x=>nodes ps gs x.1 x.2).sum:=by
 unfold nodes;rw[nodesL,vc h];congr 2;exact map_congr_left fun x a=>by
  have:=QT W a;exact ka W (by lia) (by lia)
theorem KA(i:Nat)(t:Int):1<=nodes ps gs i t:=by
 unfold nodes nodesL;split<;>lia
end
section
variable{gs:List Int}{t:Int}
noncomputable def wq(gs:List Int)(t:Int)(q:Pc):List (Nat×Int):=match prg1 gs t q with | some y=>wth1 gs y | none=>[]
theorem XU:wth gs t []=[]:=rfl
theorem Qj(q:Pc)(qs:List Pc):wth gs t (q::qs)=wq gs t q++wth gs t qs:=by
 unfold wth prg wq;rw[filterMap_cons];cases prg1 gs t q with
 | none=>rfl
 | some y=>rfl
theorem j3A(h:t<q.2.2):wq gs t q=[]:=by
 unfold wq prg1;rw[vc (by lia)]
theorem Wd(d:1<=gs.getD j 0)(h:b<=t):wq gs t (j,1,b)=if gs.getD j 0<=t-b then[(j,gs.getD j 0)]else[(j,t-b)]:=by
 have c:wq gs t (j,1,b)=wth1 gs (j,b,ov gs t (j,1,b),if ov gs t (j,1,b)<1 then some (t-b-ov gs t (j,1,b)*gs.getD j 0)else none):=by
  unfold wq prg1;rw[vd (show b<=t from h)]
 rw[c];generalize a:gs.getD j 0=g at d|-;have e:ov gs t (j,1,b)=if g<=t-b then 1 else 0:=by
  show(if(1:Int)<(t-b)/gs.getD j 0 then(1:Int)else(t-b)/gs.getD j 0)=_;rw[a];by_cases z:g<=t-b
  ·rw[vd z];have:1<=(t-b)/g:=by
    rw[Int.le_ediv_iff_mul_le (by lia)];lia
   split<;>lia
  ·rw[vc z];have:(t-b)/g=0:=Int.ediv_eq_zero_of_lt (by lia) (by lia);rw[this];rfl
 by_cases z:g<=t-b
 ·rw[vd z]at e;rw[vd z,e];unfold wth1;simp;rw[<-vy];exact a
 ·rw[vc z]at e;rw[vc z,e];unfold wth1;simp
theorem XS(h:q.2.2<=t):wq gs t q=(if 0<ov gs t q then[(q.1,gs.getD q.1 0)]else[])++(if ov gs t q<q.2.1 then[(q.1,t-q.2.2-ov gs t q*gs.getD q.1 0)]else[]):=by
 unfold wq prg1;rw[vd h];show wth1 gs _=_;unfold wth1;congr 1;show(match(if ov gs t q<q.2.1 then some (t-q.2.2-ov gs t q*gs.getD q.1 0)else none)with | some r=>[(q.1,r)] | none=>[])=_;split<;>rename_i e<;>split at e
 ·cases e;rw[vd (by assumption)]
 ·cases e
 ·cases e
 ·rw[vc (by assumption)]
theorem yq:∀{qs:List Pc},(∀q∈qs,t<q.2.2)->wth gs t qs=[]
 | [],_=>rfl
 | q::r,h=>by rw[Qj,j3A (h q vq),yq fun q a=>h q (vp _ a)];rfl
theorem kB(a:∀j∈is,0<=gs.getD j 0/\gs.getD j 0<=10^60)(h:t<b):wth gs t (rowPc gs is b)=[]:=
 yq fun q c=>by have:=(Yk a c).1;lia
theorem WM(a:∀k∈j::r,1<=gs.getD k 0/\gs.getD k 0<=10^60)(h:b<=t):wth gs t (rowPc gs (j::r) b)=if gs.getD j 0<=t-b then(j,gs.getD j 0)::wth gs t (rowPc gs r (b+gs.getD j 0))else[(j,t-b)]:=by
 have g:=a j vq;rw[rowPc,Qj,Wd g.1 h];split
 ·rfl
 ·rw[kB (fun k c=>by have:=a k (vp _ c);lia) (by lia)];rfl
theorem j2c{a:Type}{f g:a->Nat}:∀{l:List a},(∀x∈l,f x<=g x)->(l.map f).sum<=(l.map g).sum
 | [],_=>vb _
 | x::r,h=>by
  rw[uy,uy,ux,ux];have:=h x vq;have:=j2c (l:=r) fun y b=>h y (vp _ b)
  lia
theorem XF{N:Nat×Int->Nat}:∀{is:List Nat} {b:Int},(∀k∈is,1<=gs.getD k 0/\gs.getD k 0<=10^60)->(∀k∈is,N (k,gs.getD k 0)=1)->(∀k∈is,∀r,0<=r->N (k,r)<=B)->((wth gs t (rowPc gs is b)).map N).sum<=is.length+B
 | [],b,_,_,_=>va _
 | j::r,b,hg,h1,h2=>by
  by_cases h:b<=t
  ·rw[WM hg h];split
   ·rw[uy,ux,h1 j vq,vQ];have:=XF (N:=N) (B:=B) (is:=r) (b:=b+gs.getD j 0) (fun k a=>hg k (vp _ a)) (fun k a=>h1 k (vp _ a)) fun k a=>h2 k (vp _ a)
    lia
   ·have:=h2 j vq (t-b) (by lia);simp;lia
  ·rw[kB (fun k a=>by have:=hg k a;lia) (by lia)];exact va _
theorem WP{is:List Nat}(a:∀k∈is,1<=gs.getD k 0)(c:0<=t):wth gs t (is.map fun j=>(j,1,0))=is.map fun j=>if gs.getD j 0<=t then(j,gs.getD j 0)else(j,t):=by
 induction is with
 | nil=>rfl
 | cons j r ih=>
  rw[uy,Qj,Wd (a j vq) c,ih fun k b=>a k (vp _ b),uy,Int.sub_zero];split<;>rfl
theorem XV{N:Nat×Int->Nat}(l:1<=gs.getD j 0)(f:0<=t)(b:N (j,gs.getD j 0)=1)(d:∀r,0<=r->N (j,r)<=B) :
  ((wth gs t ((j,1,0)::(if 1<k then[(j,k-1,gs.getD j 0)]else[]))).map N).sum<=2+B:=by
 rw[Qj,Wd l f,Int.sub_zero,vj,sum_append];by_cases z:gs.getD j 0<=t
 ·rw[vd z];have a:((wth gs t (if 1<k then[(j,k-1,gs.getD j 0)]else[])).map N).sum<=1+B:=by
   split
   ·rw[Qj,XU,append_nil,XS (show gs.getD j 0<=t from z),vj,sum_append];have g:(((if 0<ov gs t (j,k-1,gs.getD j 0)then[(j,gs.getD j 0)]else[]):List (Nat×Int)).map N).sum<=1:=by
     split
     ·simp;rw[<-vy,b];exact vb _
     ·simp
    have h:(((if ov gs t (j,k-1,gs.getD j 0)<k-1 then[(j,t-gs.getD j 0-ov gs t (j,k-1,gs.getD j 0)*gs.getD j 0)]else[]):List (Nat×Int)).map N).sum<=B:=by
     split
     ·have m:ov gs t (j,k-1,gs.getD j 0)=(t-gs.getD j 0)/gs.getD j 0:=by
       show(if k-1<(t-gs.getD j 0)/gs.getD j 0 then k-1 else(t-gs.getD j 0)/gs.getD j 0)=_;rename_i c;have i:(if k-1<(t-gs.getD j 0)/gs.getD j 0 then k-1 else(t-gs.getD j 0)/gs.getD j 0)<k-1:=c;split at i
       ·lia
       ·rename_i z;rw[vc z]
      have:=d (t-gs.getD j 0-ov gs t (j,k-1,gs.getD j 0)*gs.getD j 0) (by
       rw[m];have:=Int.ediv_mul_le (t-gs.getD j 0) (show gs.getD j 0≠0 by lia);lia)
      simp;exact this
     ·simp
    have o:((if 0<ov gs t (j,k-1,gs.getD j 0)then[((j,k-1,gs.getD j 0):Pc).1].map fun a=>(a,gs.getD a 0)else[]):List (Nat×Int))=if 0<ov gs t (j,k-1,gs.getD j 0)then[(j,gs.getD j 0)]else[]:=rfl
    exact Nat.add_le_add g h
   ·exact va _
  have:(([(j,gs.getD j 0)]:List (Nat×Int)).map N).sum=1:=by
   simp;rw[<-vy,b]
  lia
 ·rw[vc z];have e:wth gs t (if 1<k then[(j,k-1,gs.getD j 0)]else[])=[]:=by
   split
   ·exact yq fun q n=>by rw[vo.mp n];show t<gs.getD j 0;lia
   ·rfl
  rw[e];have:=d t f;simp;lia
end
theorem len_sub{a b:List Int}(c:a.Nodup)(f:∀x∈a,x∈b):a.length<=b.length:=by
 induction a generalizing b with
 | nil=>exact va _
 | cons x r ih=>
  rw[nodup_cons]at c;have g:=f x vq;have:=ih (b:=b.erase x) c.2 fun y h=>by
   have d:y≠x:=fun e=>c.1 (e▸h)
   exact(List.mem_erase_of_ne d).mpr (f y (vp _ h))
  rw[List.length_erase_of_mem g]at this;have:0<b.length:=length_pos_of_mem g;rw[vQ];lia
section
variable{ls:List (Str×Int)}{ps:List (Str×Fm)}{gs:List Int}{hs:List (List Int)}
theorem Y1(S:Snd ls ps gs hs)(a:hs.length=ps.length)(hi:i<ps.length):hs[i]?=some (hs.getD i []):=by
 rw[vy,vz (by lia)];rfl
theorem j4i(S:Snd ls ps gs hs)(e:hs.length=ps.length)(M:MovOk ls ps hs){i:Nat}{p:Str×Fm}(c:ps[i]?=some p){j:Nat}(d:j∈inP ps p.2):(hs.getD j []).length<=(hs.getD i []).length:=by
 have f:=(vx.mp c).1;have l:=S.w.inP_lt c d;obtain⟨_,b⟩:=M i p _ c (Y1 S e f);obtain⟨a,_⟩:=M j _ _ (vz (show j<ps.length by lia)) (Y1 S e (by lia));exact len_sub (a.imp fun h=>by lia) fun k g=>(b k).mpr (.inl ⟨j,d,g⟩)
theorem j25(S:Snd ls ps gs hs)(v:hs.length=ps.length)(M:MovOk ls ps hs){i:Nat}{p:Str×Fm}{qs:List Str}(f:ps[i]?=some p)(e:p.2 = .side qs):((inP ps p.2).map fun j=>(hs.getD j []).length).sum<=(hs.getD i []).length:=by
 have z:=(vx.mp f).1;obtain⟨_,t⟩:=S.sd i p qs f e;obtain⟨_,b⟩:=M i p _ f (Y1 S v z);have B:=fun j=>S.w.inP_lt (j:=j) f
 have C:∀d:List Nat,(∀j∈d,j<ps.length)->(∀k:Int,((d.map fun j=>hs.getD j []).filter fun s=>decide (k∈s)).length<=1)->(d.flatMap fun j=>hs.getD j []).Nodup:=fun d=>by
  induction d with
  | nil=>exact fun _ _=>.nil
  | cons j r ih=>
   intro l u;rw[flatMap_cons];have D:(hs.getD j []).Nodup:=by
    obtain⟨a,_⟩:=M j _ _ (vz (l j vq)) (Y1 S v (l j vq));exact a.imp fun h=>by lia
   refine nodup_append.mpr ⟨D,ih (fun k c=>l k (vp _ c)) fun k=>?_,fun a x b y g=>?_⟩
   ·have:=u k;rw[uy,uz]at this;split at this
    ·rw[vQ]at this;lia
    ·exact this
   ·subst g;obtain⟨A,o,q⟩:=mem_flatMap.mp y;have:=u a;rw[uy,uz,vd (vG x),vQ]at this;have E:0<((r.map fun j=>hs.getD j []).filter fun s=>decide (a∈s)).length:=length_pos_of_mem (vP.mpr ⟨vK.mpr ⟨A,o,rfl⟩,vG q⟩);lia
 have n:=C (inP ps p.2) (fun j m=>by have:=B j m;lia) t;have w:=len_sub (b:=hs.getD i []) n fun k c=>by
  obtain⟨j,m,c⟩:=mem_flatMap.mp c;exact(b k).mpr (.inl ⟨j,m,c⟩)
 rw[List.length_flatMap]at w;exact w
theorem XM{a:Type}{f:a->Nat}:∀{l:List a},(l.map fun x=>c*f x).sum=c*(l.map f).sum
 | []=>rfl
 | x::r=>by rw[uy,uy,ux,ux,XM,Nat.mul_add]
theorem j1o(S:Snd ls ps gs hs)(A:hs.length=ps.length)(M:MovOk ls ps hs)(G:∀i,i<ps.length->1<=gs.getD i 0):∀i t,i<ps.length->0<=t->nodes ps gs i t<=9*(i+1)*max 1 (hs.getD i []).length:=by
 intro i
 induction i using Nat.strongRecOn with
 | ind i ih=>
  intro t H z;have W:=S.w;have C:1<=max 1 (hs.getD i []).length:=Nat.le_max_left _ _;by_cases a:gs.getD i 0<=t\/pcB ps gs i=[]
  ·rw[ZI a];have:1*1<=9*(i+1)*max 1 (hs.getD i []).length:=Nat.mul_le_mul (by lia) C;lia
  rw[kc W a];obtain⟨p,o⟩:∃p,ps[i]?=some p:=⟨_,vz H⟩
  have c:pcB ps gs i=pcsI gs p.2 (inP ps p.2):=by unfold pcB;rw[o]
  have q:=fun j=>W.inP_lt (j:=j) o
  have h:∀k∈inP ps p.2,1<=gs.getD k 0/\gs.getD k 0<=10^60:=fun k m=>by
   have:=q k m;exact⟨G k (by lia),(S.gb k (by lia)).2⟩
  have I:(inP ps p.2).length<=8:=by unfold inP;rw[vt];exact(W.f i p o).2
  have b:∀k∈inP ps p.2,nodes ps gs k (gs.getD k 0)=1:=fun k _=>ZI (.inl (vA _))
  have u:∀k∈inP ps p.2,∀r,0<=r->nodes ps gs k r<=9*i*max 1 (hs.getD i []).length:=fun k m r y=>by
   have l:=q k m;have:=ih k l r (by lia) y;have s:=j4i S A M o m;refine vW this (Nat.mul_le_mul (by lia) ?_);exact Nat.max_le.mpr ⟨Nat.le_max_left _ _,vW s (Nat.le_max_right _ _)⟩
  have f:∀X:Nat,X<=8+9*i*max 1 (hs.getD i []).length->1+X<=9*(i+1)*max 1 (hs.getD i []).length:=fun X K=>by
   rw[Nat.mul_add,Nat.add_mul];have:9*1*1<=9*1*max 1 (hs.getD i []).length:=Nat.mul_le_mul (vb _) C;lia
  rw[c];cases e:p.2 with
  | again k x=>
   have d:inP ps p.2=[ixOf (nmsOf ps) x]:=by rw[e];rfl
   rw[e]at d;rw[d];have g:ixOf (nmsOf ps) x∈inP ps p.2:=by rw[e,d];exact vq
   refine f _ (vW (XV (N:=fun x=>nodes ps gs x.1 x.2) (h _ g).1 z (b _ g) (u _ g)) (by lia))
  | row xs=>
   rw[e]at h b u I;exact f _ (vW (XF (N:=fun x=>nodes ps gs x.1 x.2) h b u) (by lia))
  | side xs=>
   have F:=j25 S A M o e;obtain⟨E,_⟩:=S.sd i p xs o e;rw[show pcsI gs (.side xs) (inP ps (.side xs))=(inP ps (.side xs)).map fun j=>(j,1,0)from rfl];rw[e]at h b F E q;rw[WP (fun k m=>(h k m).1) z,v8];have B:((inP ps (.side xs)).map ((fun x=>nodes ps gs x.1 x.2)∘fun j=>if gs.getD j 0<=t then(j,gs.getD j 0)else(j,t))).sum<=((inP ps (.side xs)).map fun j=>9*i*(hs.getD j []).length).sum:=by
    refine j2c fun j w=>?_
    have l:=q j w;have J:1<=(hs.getD j []).length:=List.length_pos_iff.mpr (E j w);have D:∀r,0<=r->nodes ps gs j r<=9*i*(hs.getD j []).length:=fun r y=>by
     have:=ih j l r (by lia) y;rw[Nat.max_eq_right J]at this;exact vW this (Nat.mul_le_mul (by lia) (vb _))
    show nodes ps gs (if gs.getD j 0<=t then(j,gs.getD j 0)else(j,t)).1 (if gs.getD j 0<=t then(j,gs.getD j 0)else(j,t)).2<=_;split
    ·exact D _ (by have:=h j w;lia)
    ·exact D _ z
   rw[XM]at B;refine f _ (vW B (vW (Nat.mul_le_mul (vb (9*i)) (vW F (Nat.le_max_right 1 _))) (Nat.le_add_left _ _)))
  | hold n=>
   exact ud (.inr (by rw[c,e];rfl)) a
  | ring x n=>
   exact ud (.inr (by rw[c,e];rfl)) a
  | rise x v n=>
   exact ud (.inr (by rw[c,e];rfl)) a
end
structure Sn(ls:List (Str×Int))(ps:List (Str×Fm))(gs:List Int)(hs:List (List Int)):Prop where
 s:Snd ls ps gs hs
 hl:hs.length=ps.length
 m:MovOk ls ps hs
 g1:∀i,i<ps.length->1<=gs.getD i 0
 ne:1<=ps.length
 l18:∀q∈ls,0<=q.2/\q.2<=10^18
 r18:∀(i:Nat) (y x:Str) (v n:Int),ps[i]?=some (y,.rise x v n)->0<=v/\v<=10^18/\1<=n/\n<=10^18
 a18:∀(i:Nat) (y x:Str) (k:Int),ps[i]?=some (y,.again k x)->1<=k/\k<=10^18
section
variable{ls:List (Str×Int)}{ps:List (Str×Fm)}{gs:List Int}{hs:List (List Int)}
theorem Sn.g(N:Sn ls ps gs hs)(hi:i<ps.length):1<=gs.getD i 0/\gs.getD i 0<=10^60:=⟨N.g1 i hi,(N.s.gb i hi).2⟩
theorem Sn.j0Z(N:Sn ls ps gs hs){i:Nat}(hi:i<ps.length):gs[i]?=some (gs.getD i 0):=by
 rw[vy,vz (by rw[N.s.gl];exact hi)];rfl
theorem Sn.i8(N:Sn ls ps gs hs){i:Nat}{p:Str×Fm}(a:ps[i]?=some p):(inP ps p.2).length<=8:=by
 unfold inP;rw[vt];exact(N.s.w.f i p a).2
theorem Sn.pcOk(N:Sn ls ps gs hs){i:Nat}{q:Pc}(h:q∈pcB ps gs i):PcOk gs q:=by
 have u:=j1G N.s.w h;have n:=h;unfold pcB at h;split at h
 case h_2=>exact nomatch h
 rename_i p hp;have o:=(vx.mp hp).1;have g:=N.g (show q.1<ps.length by lia);have t:=N.i8 hp;have a:∀k∈inP ps p.2,0<=gs.getD k 0/\gs.getD k 0<=10^60:=fun k d=>by
  have:=N.s.w.inP_lt hp d;have:=N.g (show k<ps.length by lia);lia
 refine⟨by rw[N.s.gl];lia,g.1,g.2,?_⟩;unfold pcsI at h;split at h
 ·rename_i k x e;have f:=N.a18 i p.1 x k (by rw[hp,<-e]);split at h
  ·exact nomatch h
  ·rename_i j r ein;have c:=a j (by rw[ein];exact vq);rcases mem_cons.mp h with rfl | h
   ·exact⟨(by show(1:Int)<=1;decide),(by show(1:Int)<=10^18;decide),(by show(0:Int)<=0;decide),(by show(0:Int)<=10^62;decide)⟩
   ·split at h
    ·rw[vo.mp h];refine⟨?_,?_,c.1,?_⟩
     ·show 1<=k-1;lia
     ·show k-1<=_;lia
     ·show gs.getD j 0<=_;lia
    ·exact nomatch h
 ·obtain⟨b,l⟩:=Yk a h;have m:=(Kx h).2;refine⟨by lia,by lia,b,?_⟩;have:(10:Int)^60*((inP ps p.2).length:Int)<=10^60*8:=Int.mul_le_mul_of_nonneg_left (by lia) (by decide);lia
 ·obtain⟨j,s,rfl⟩:=vK.mp h;exact⟨(by show(1:Int)<=1;decide),(by show(1:Int)<=10^18;decide),(by show(0:Int)<=0;decide),(by show(0:Int)<=10^62;decide)⟩
theorem j1F(c:PcOk gs q)(h:q.2.2<=t):0<=ov gs t q/\ov gs t q<=q.2.1/\ov gs t q*gs.getD q.1 0<=t-q.2.2/\0<=ov gs t q*gs.getD q.1 0:=by
 obtain⟨_,e,_,f,_,_⟩:=c;have d:0<=(t-q.2.2)/gs.getD q.1 0:=Int.ediv_nonneg (by lia) (by lia);have b:=Int.ediv_mul_le (t-q.2.2) (show gs.getD q.1 0≠0 by lia);have a:0<=ov gs t q/\ov gs t q<=q.2.1/\ov gs t q<=(t-q.2.2)/gs.getD q.1 0:=by
  unfold ov;split<;>lia
 refine⟨a.1,a.2.1,?_,Int.mul_nonneg a.1 (by lia)⟩;exact vX (Int.mul_le_mul_of_nonneg_right a.2.2 (by lia)) b
theorem kN(j:∀q∈qs,PcOk gs q)(h:x∈wth gs t qs):0<=x.2:=by
 obtain⟨y,i,d⟩:=mem_flatMap.mp h;obtain⟨q,g,e⟩:=wA i;have o:=j q g;by_cases c:q.2.2<=t
 case neg=>unfold prg1 at e;rw[vc c]at e;cases e
 have b:=j1F o c;unfold prg1 at e;rw[vd c]at e;have f:=vL e;subst f;unfold wth1 at d;rcases vh.mp d with z | z
 ·have z:x∈(if 0<ov gs t q then[(q.1,gs.getD q.1 0)]else[]):=z;split at z
  ·rw[vo.mp z];exact vX (by decide) o.2.1
  ·exact nomatch z
 ·split at z
  ·rename_i r a;rw[vo.mp z];have a:(if ov gs t q<q.2.1 then some (t-q.2.2-ov gs t q*gs.getD q.1 0)else none)=some r:=a;split at a
   ·cases a;show 0<=t-q.2.2-ov gs t q*gs.getD q.1 0;lia
   ·cases a
  ·exact nomatch z
theorem Sn.nodes(N:Sn ls ps gs hs)(a:∀i,i<ps.length->(hs.getD i []).length<=8)(hi:i<ps.length)(b:0<=t):Rm.nodes ps gs i t<=5000:=by
 have:=j1o N.s N.hl N.m N.g1 i t hi b;have c:=N.s.w.p61;have d:=a i hi;have:9*(i+1)*max 1 (hs.getD i []).length<=9*61*8:=Nat.mul_le_mul (by lia) (by lia);lia
end
noncomputable def appH(ls:List (Str×Int))(ps:List (Str×Fm))(gs:List Int)(E:List (List (Int×Int)))(h:List Int)(x:Nat×Int):List Int:=
 if gs.getD x.1 0<=x.2 then(E.getD x.1 []).foldl (fun h q=>h.set q.1.toNat q.2) h
 else match ps[x.1]? with
  | some (_,.rise y v n)=>h.set (ixOf (nmsOf ls) y) (Rp.ramp (h.getD (ixOf (nmsOf ls) y) 0) v n x.2)
  | _=>h
noncomputable def standH(ls:List (Str×Int))(ps:List (Str×Fm))(gs:List Int)(E:List (List (Int×Int)))(t:Int):List Int:=(reach ps gs (ps.length-1) t).foldl (appH ls ps gs E) (ls.map (·.2))
noncomputable def ringX(ps:List (Str×Fm))(x:Nat×Int):List Str:=match ps[x.1]? with
 | some (_,.ring y _)=>if x.2=0 then[y]else[]
 | _=>[]
noncomputable def ringsW(ps:List (Str×Fm))(gs:List Int)(t:Int):List Str:=(reach ps gs (ps.length-1) t).flatMap (ringX ps)
inductive sp_standG(vs:List V)(H:Hp)(Q:VK)(xk:XK):Prop
 | mk (b pl pp:Addr) (las pas:List Addr) (ls:List (Str×Int)) (ps:List (Str×Fm)) (gs:List Int) (hs:List (List Int)) (t:Int) (_:vs=[.ref b,.int t]) (_:BookAt H b pl pp las pas ls ps) (_:Sn ls ps gs hs) (_:0<=t) (_:t<=gs.getD (ps.length-1) 0) (_:∀(l:Addr) (E:List (List (Int×Int))) (H':Hp),Same H H'->H l=none->E.length=ps.length->EndOk ls ps E->H' l=some (.lst ((standH ls ps gs E t).map V.int))->(standH ls ps gs E t).length=ls.length->Q (.ref l) H'):sp_standG vs H Q xk
inductive sp_ringsG(vs:List V)(H:Hp)(Q:VK)(xk:XK):Prop
 | mk (b pl pp:Addr) (las pas:List Addr) (ls:List (Str×Int)) (ps:List (Str×Fm)) (gs:List Int) (hs:List (List Int)) (t:Int) (_:vs=[.ref b,.int t]) (_:BookAt H b pl pp las pas ls ps) (_:Sn ls ps gs hs) (_:0<=t) (_:t<=gs.getD (ps.length-1) 0) (_:∀(l:Addr) (H':Hp),Same H H'->H l=none->H' l=some (.lst ((ringsW ps gs t).map V.str))->(ringsW ps gs t).length<=5000->Q (.ref l) H'):sp_ringsG vs H Q xk
theorem All2.app{e:Type}{R:Addr->e->Prop}{as d:List Addr}{xs ys:List e}(h:All2 R as xs)(k:All2 R d ys):All2 R (as++d) (xs++ys):=by
 have g:=h.1;refine⟨by rw[vn,vn,h.1,k.1],fun i a x b c=>?_⟩;by_cases f:i<as.length
 ·rw[vB f]at b;rw[vB (by lia)]at c;exact h.2 i a x b c
 ·rw[vC (by lia)]at b;rw[vC (by lia)]at c;exact k.2 _ a x b (by rw[g];exact c)
theorem All2.cons{b:Type}{R:Addr->b->Prop}{a:Addr}{as:List Addr}{x:b}{xs:List b}(h:R a x)(k:All2 R as xs):All2 R (a::as) (x::xs):=All2.app (as:=[a]) (xs:=[x]) (All2.snoc (as:=[]) (xs:=[]) .nil h) k
theorem All2.rev{b:Type}{R:Addr->b->Prop}:∀{as:List Addr} {xs:List b},All2 R as xs->All2 R as.reverse xs.reverse
 | [],[],_=>.nil
 | [],_::_,h=>ud h.1 (by simp)
 | _::_,[],h=>ud h.1 (by simp)
 | a::as,x::xs,h=>by
  rw[reverse_cons,reverse_cons];exact All2.app (All2.rev (All2.tail h).2) (All2.snoc (as:=[]) (xs:=[]) .nil (All2.tail h).1)
theorem All2.last{e:Type}{R:Addr->e->Prop}{as:List Addr}{xs:List e}{x:e}(h:All2 R as (xs++[x])):∃c a,as=c++[a]/\All2 R c xs/\R a x:=by
 rcases List.eq_nil_or_concat as with rfl | ⟨c,a,rfl⟩
 ·have:=h.1;simp at this
 ·rw[List.concat_eq_append]at h|-;have g:=h.1;rw[vn,vn]at g;have d:c.length=xs.length:=by simpa using g
  refine⟨c,a,rfl,⟨d,fun i b y f j=>?_⟩,?_⟩
  ·have k:=(vx.mp f).1;exact h.2 i b y (by rw[vB k];exact f) (by rw[vB (by lia)];exact j)
  ·exact h.2 c.length a x (by simp) (by rw[d];simp)
theorem x9{gs:List Int}{n:Nat}(h:1<=n)(e:gs.length=n):atI (gs.map V.int) (-1)=some (.int (gs.getD (n-1) 0)):=by
 have i:ixN n (-1)=some (n-1):=by
  unfold ixN;simp;lia
 unfold atI;rw[vt,e,i];show(gs.map V.int)[n-1]?=_;rw[vv,vy,vz (by lia)];rfl
section
variable{ls:List (Str×Int)}{ps:List (Str×Fm)}{gs:List Int}{hs:List (List Int)}
theorem WK(W:WfB ls ps):∀{i:Nat} {t:Int} {x:Nat×Int},i<ps.length->x∈reach ps gs i t->x.1<ps.length:=by
 intro i
 induction i using Nat.strongRecOn with
 | ind i ih=>
  intro t x b a;by_cases h:gs.getD i 0<=t\/pcB ps gs i=[]
  ·rw[JB h]at a;rw[vo.mp a];exact b
  ·rw[qz W h]at a;obtain⟨y,c,a⟩:=mem_flatMap.mp a;have:=QT W c;exact ih y.1 this (by lia) a
theorem j44(N:Sn ls ps gs hs)(m:E.length=ps.length)(k:EndOk ls ps E):∀{i:Nat},i<ps.length->∀q∈E.getD i [],0<=q.2/\q.2<=10^18:=by
 intro i
 induction i using Nat.strongRecOn with
 | ind i ih=>
  intro f q h;have d:E[i]?=some (E.getD i []):=by rw[vy,vz (by lia)];rfl
  obtain⟨p,a⟩:∃p,ps[i]?=some p:=⟨_,vz f⟩
  rcases((k i p _ a d).2 q.1 q.2).mp h with⟨l,j,b,e,c,_⟩ | ⟨x,n,e,_⟩
  ·have g:j∈inP ps p.2:=by rw[e];simp
   have:=N.s.w.inP_lt a g;exact ih j this (by lia) _ c
  ·have:=N.r18 i p.1 x q.2 n (by rw[a,<-e]);lia
theorem j3k(i:0<=h/\h<=10^18)(l:0<=v/\v<=10^18)(k:1<=n)(d:0<=j)(e:j<=n):0<=Rp.ramp h v n j/\Rp.ramp h v n j<=10^18:=by
 unfold Rp.ramp;by_cases c:h<=v
 ·have a:0<=(v-h)*j:=Int.mul_nonneg (by lia) d;have b:(v-h)*j<=(v-h)*n:=Int.mul_le_mul_of_nonneg_left e (by lia);have f:0<=(v-h)*j/n:=Int.ediv_nonneg a (by lia);have g:(v-h)*j/n<=v-h:=by
   have:=Int.ediv_le_ediv (show 0<n by lia) b;rw[Int.mul_ediv_cancel _ (show n≠0 by lia)]at this;exact this
  lia
 ·have a:(v-h)*j<=0:=Int.mul_nonpos_of_nonpos_of_nonneg (by lia) d;have b:(v-h)*n<=(v-h)*j:=Int.mul_le_mul_of_nonpos_left (by lia) e;have f:(v-h)*j/n<=0:=by
   have:=Int.ediv_le_ediv (show 0<n by lia) a;rw[Int.zero_ediv]at this;exact this
  have g:v-h<=(v-h)*j/n:=by
   have:=Int.ediv_le_ediv (show 0<n by lia) b;rw[Int.mul_ediv_cancel _ (show n≠0 by lia)]at this;exact this
  lia
end
inductive Fn where
 | hold (n:Int) | ring (x:Str) (n:Int) | rise (x:Str) (h n:Int) | row (is:List Nat) | side (is:List Nat) | again (k:Int) (j:Nat)
noncomputable def Fn.js:Fn->List Nat
 | .row is=>is
 | .side is=>is
 | .again _ j=>[j]
 | _=>[]
def Ex(p:Addr)(H H':Hp):Prop:=∀c u,c≠p->H c=some u->H' c=some u
theorem Ex.refl(H:Hp):Ex p H H:=fun _ _ _ h=>h
theorem Ex.trans{d e f:Hp}(a:Ex p d e)(b:Ex p e f):Ex p d f:=fun c u n h=>b c u n (a c u n h)
theorem Ex.of{H H':Hp}(s:Same H H'):Ex p H H':=fun c u _ h=>s c u h
noncomputable def LenN(gs:List Int):Fn->Int->Prop
 | .hold n,g=>g=n
 | .ring _ n,g=>g=n
 | .rise _ _ n,g=>g=n
 | .row is,g=>g=(is.map fun j=>gs.getD j 0).sum
 | .side is,g=>(∃j∈is,g=gs.getD j 0)/\∀j∈is,gs.getD j 0<=g
 | .again k j,g=>g=k*gs.getD j 0
def MovN(L:List Str)(M:List (List Int))(f:Fn)(ks:List Int):Prop:=ks.Pairwise (· < ·)/\∀k,k∈ks↔(∃j∈f.js,k∈M.getD j [])\/∃(x:Str) (h n:Int) (i:Nat),f = .rise x h n/\L[i]?=some x/\k=(i:Int)
def ApartN(M:List (List Int))(is:List Nat):Prop:=(∀j∈is,M.getD j []≠[])/\is.Pairwise fun a b=>∀k∈M.getD a [],¬k∈M.getD b []
noncomputable def PreN(L:List Str)(M:List (List Int))(n:Nat):Fn->Prop
 | .hold m=>1<=m/\m<=10^18
 | .ring x m=>1<=m/\m<=10^18/\Ws.isW x=true
 | .rise x h m=>(∃i:Nat,L[i]?=some x)/\0<=h/\h<=10^18/\1<=m/\m<=10^18
 | .row is=>is≠[]/\is.length<=8/\∀j∈is,j<n
 | .side is=>2<=is.length/\is.length<=8/\(∀j∈is,j<n)/\ApartN M is
 | .again k j=>1<=k/\k<=10^18/\j<n
theorem PreN.js(h:PreN L M n f):f.js.length<=8/\∀j∈f.js,j<n:=by
 cases f with
 | row is=>exact h.2
 | side is=>exact⟨h.2.1,h.2.2.1⟩
 | again k j=>exact⟨by show 1<=8;lia,fun i a=>by rw[vo.mp a];exact h.2.2⟩
 | hold n=>exact⟨va _,fun j h=>nomatch h⟩
 | ring x n=>exact⟨va _,fun j h=>nomatch h⟩
 | rise x v n=>exact⟨va _,fun j h=>nomatch h⟩
structure DOk(L:List Str)(fs:List Fn)(M:List (List Int))(gs:List Int):Prop where
 ml:M.length=fs.length
 gl:gs.length=fs.length
 f:∀(i:Nat) (f:Fn),fs[i]?=some f->PreN L M i f/\MovN L M f (M.getD i [])/\LenN gs f (gs.getD i 0)
 g:∀i,i<fs.length->1<=gs.getD i 0/\gs.getD i 0<=10^60
noncomputable def toldF(names:List Str):Fn->Fm
 | .hold n=>.hold n
 | .ring x n=>.ring x n
 | .rise x h n=>.rise x h n
 | .row is=>.row (is.map fun j=>names.getD j ⟨#[]⟩)
 | .side is=>.side (is.map fun j=>names.getD j ⟨#[]⟩)
 | .again k j=>.again k (names.getD j ⟨#[]⟩)
inductive sp_takeD(vs:List V)(H:Hp)(Q:VK)(xk:XK):Prop
 | mk (p:Addr) (x m:Int) (_:vs=[.ref p,.int m]) (_:H p=some (.lst [.int x])) (_:0<m) (_:m<=10^200) (_:∀(r y:Int) (H':Hp),0<=r->r<m->Ex p H H'->H' p=some (.lst [.int y])->Q (.int r) H'):sp_takeD vs H Q xk
theorem Jn{a:Type}{xs:List a}{x d:a}{j:Nat}(h:j<xs.length):(xs++[x]).getD j d=xs.getD j d:=by
 rw[vy,vy,vB h]
theorem jT{a:Type}{xs:List a}{x d:a}:(xs++[x]).getD xs.length d=x:=by
 rw[vy,vC (vb _),uo];rfl
theorem PreN.ext{L:List Str}{M:List (List Int)}{ks:List Int}{n:Nat}{f:Fn}(q:n<=M.length)(h:PreN L M n f):PreN L (M++[ks]) n f:=by
 cases f with
 | side is=>
  obtain⟨a,b,c,d,e⟩:=h;have g:∀j∈is,(M++[ks]).getD j []=M.getD j []:=fun j i=>Jn (by have:=c j i;lia)
  refine⟨a,b,c,fun j i=>by rw[g j i];exact d j i,?_⟩;exact(List.pairwise_iff_forall_sublist.mpr fun {x y} l=>by
   have o:x∈is:=l.subset vq;have p:y∈is:=l.subset (vp _ vq);rw[g x o,g y p];exact List.pairwise_iff_forall_sublist.mp e l)
 | hold m=>exact h
 | ring x m=>exact h
 | rise x v m=>exact h
 | row is=>exact h
 | again k j=>exact h
theorem MovN.ext{L:List Str}{M:List (List Int)}{ks d:List Int}{f:Fn}(c:∀j∈f.js,j<M.length)(h:MovN L M f d):MovN L (M++[ks]) f d:=by
 refine⟨h.1,fun k=>(h.2 k).trans ?_⟩;have:(∃j∈f.js,k∈M.getD j [])↔∃j∈f.js,k∈(M++[ks]).getD j []:=by
  constructor
  ·rintro⟨j,a,b⟩;exact⟨j,a,by rw[Jn (c j a)];exact b⟩
  ·rintro⟨j,a,b⟩;exact⟨j,a,by rw[Jn (c j a)]at b;exact b⟩
 rw[this]
theorem LenN.ext{gs:List Int}{g' g:Int}{f:Fn}(n:∀j∈f.js,j<gs.length)(h:LenN gs f g):LenN (gs++[g']) f g:=by
 have e:∀j∈f.js,(gs++[g']).getD j 0=gs.getD j 0:=fun j a=>Jn (n j a)
 cases f with
 | hold m=>exact h
 | ring x m=>exact h
 | rise x v m=>exact h
 | row is=>
  show g=(is.map fun j=>(gs++[g']).getD j 0).sum;have d:is.map (fun j=>(gs++[g']).getD j 0)=is.map fun j=>gs.getD j 0:=map_congr_left e
  rw[d];exact h
 | side is=>
  obtain⟨⟨j,a,i⟩,l⟩:=h;exact⟨⟨j,a,by rw[e j a];exact i⟩,fun c b=>by rw[e c b];exact l c b⟩
 | again k j=>
  show g=k*(gs++[g']).getD j 0;rw[e j vq];exact h
theorem DOk.add{L:List Str}{l:List Fn}{M:List (List Int)}{gs:List Int}{f:Fn}{ks:List Int}{g:Int}(D:DOk L l M gs)(r:PreN L M l.length f)(s:MovN L M f ks)(t:LenN gs f g)(u:1<=g/\g<=10^60):DOk L (l++[f]) (M++[ks]) (gs++[g]):=by
 have p:=D.ml;have o:=D.gl;refine⟨by simp[p],by simp[o],fun i q d=>?_,fun i n=>?_⟩
 ·by_cases n:i<l.length
  ·rw[vB n]at d;obtain⟨a,b,c⟩:=D.f i q d;have m:=a.js.2;rw[Jn (by lia),Jn (by lia)];exact⟨a.ext (by lia),b.ext fun j k=>by have:=m j k;lia,c.ext fun j k=>by have:=m j k;lia⟩
  ·rw[vC (by lia)]at d;have h:i=l.length:=by
    have:=(vx.mp d).1;simp at this;lia
   subst h;rw[uo]at d;have e:f=q:=by simpa using d
   subst e;rw[<-p,jT,p,<-o,jT,o];have m:=r.js.2;exact⟨r.ext (by lia),s.ext fun j k=>by have:=m j k;lia,t.ext fun j k=>by have:=m j k;lia⟩
 ·rw[vn]at n;by_cases h:i<l.length
  ·rw[Jn (by lia)];exact D.g i h
  ·have e:i=gs.length:=by simp at n;lia
   subst e;rw[jT];exact u
theorem DOk.bnd(D:DOk L fs M gs):∀i,i<fs.length->∀k∈M.getD i [],0<=k/\k<(L.length:Int):=by
 intro i
 induction i using Nat.strongRecOn with
 | ind i ih=>
  intro e k f;obtain⟨a,b,_⟩:=D.f i _ (vz e);rcases(b.2 k).mp f with⟨j,c,d⟩ | ⟨x,h,n,j,_,c,rfl⟩
  ·have:=a.js.2 j c;exact ih j this (by lia) k d
  ·have:=(vx.mp c).1;lia
noncomputable def drawnPs(names:List Str)(fs:List Fn):List (Str×Fm):=(List.range fs.length).map fun i=>(names.getD i ⟨#[]⟩,toldF names (fs.getD i (.hold 0)))
section
variable{L:List Str}{fs:List Fn}{M:List (List Int)}{gs:List Int}{names:List Str}{ls:List (Str×Int)}
theorem jM:(drawnPs names fs).length=fs.length:=by unfold drawnPs;rw[vt,length_range]
theorem Je(h:fs[i]?=some f):(drawnPs names fs)[i]?=some (names.getD i ⟨#[]⟩,toldF names f):=by
 unfold drawnPs;have a:=(vx.mp h).1;rw[vv,List.getElem?_range a];have e:fs.getD i (.hold 0)=f:=by rw[vy,h];rfl
 show some (names.getD i ⟨#[]⟩,toldF names (fs.getD i (.hold 0)))=_;rw[e]
theorem Jl(h:(drawnPs names fs)[i]?=some p):∃f,fs[i]?=some f/\p=(names.getD i ⟨#[]⟩,toldF names f):=by
 have b:=(vx.mp h).1;rw[jM]at b;obtain⟨f,a⟩:∃f,fs[i]?=some f:=⟨_,vz b⟩
 rw[Je a]at h;exact⟨f,a,(vL h).symm⟩
theorem Kr(c:fs.length<=names.length):nmsOf (drawnPs names fs)=names.take fs.length:=by
 unfold nmsOf drawnPs;rw[v8];refine ext_getElem (by rw[vt,length_range,vi];lia) fun i a b=>?_
 rw[getElem_map,getElem_range,getElem_take];show names.getD i ⟨#[]⟩=_;rw[vy,vz];rfl
theorem Xy(b:fs.length<=names.length)(a:j<fs.length):(nmsOf (drawnPs names fs))[j]?=some (names.getD j ⟨#[]⟩):=by
 rw[Kr b,List.getElem?_take,vd a,vy,vz (by lia)];rfl
theorem ZZ(a:fs.length<=names.length)(b:names.Nodup):(nmsOf (drawnPs names fs)).Nodup:=by
 rw[Kr a];exact b.sublist (take_sublist _ _)
theorem JJ(c:fs.length<=names.length)(d:names.Nodup)(b:∀j∈f.js,j<fs.length):inP (drawnPs names fs) (toldF names f)=f.js:=by
 have e:∀a:List Nat,(∀j∈a,j<fs.length)->(a.map fun j=>names.getD j ⟨#[]⟩).map (ixOf (nmsOf (drawnPs names fs)))=a:=fun a h=>by
  rw[v8]
  conv=>rhs;rw[<-map_id a]
  exact map_congr_left fun j b=>j4 (ZZ c d) (Xy c (h j b))
 unfold inP;cases f with
 | row a=>exact e a b
 | side a=>exact e a b
 | again k j=>exact e [j] b
 | hold n=>rfl
 | ring x n=>rfl
 | rise x v n=>rfl
theorem WV(f:Fn):(toldF names f).ns=f.js.map fun j=>names.getD j ⟨#[]⟩:=by cases f<;>rfl
theorem DOk.wf(D:DOk (nmsOf ls) fs M gs)(m:fs.length<=names.length)(t:names.Nodup)(l:(nmsOf ls).Nodup)(s:ls.length<=8)(d:fs.length<=61):WfB ls (drawnPs names fs):=by
 refine⟨l,s,ZZ m t,by rw[jM];exact d,fun i p g=>?_,fun i y x h n g=>?_⟩
 ·obtain⟨f,c,rfl⟩:=Jl g;have u:=(vx.mp c).1;obtain⟨a,_⟩:=D.f i f c;have q:=a.js;refine⟨fun x o=>?_,?_⟩
  ·rw[WV]at o;obtain⟨j,r,rfl⟩:=vK.mp o;have:=q.2 j r;exact⟨j,this,Xy m (by lia)⟩
  ·rw[WV,vt];exact q.1
 ·obtain⟨f,c,e⟩:=Jl g;obtain⟨a,_⟩:=D.f i f c;have b:=(Prod.mk.inj e).2;cases f with
  | rise x' h' n'=>
   have:x=x':=by injection b
   subst this;exact a.1
  | hold n=>cases b
  | ring x n=>cases b
  | row is=>cases b
  | side is=>cases b
  | again k j=>cases b
theorem DOk.mov(D:DOk (nmsOf ls) fs M gs)(o:fs.length<=names.length)(t:names.Nodup)(b:(nmsOf ls).Nodup):MovOk ls (drawnPs names fs) M:=by
 intro i p s q m;obtain⟨f,g,rfl⟩:=Jl q;have u:=(vx.mp g).1;obtain⟨c,d,_⟩:=D.f i f g;have r:=c.js.2;have l:M.getD i []=s:=by rw[vy,m];rfl
 rw[l]at d;refine⟨d.1,fun k=>(d.2 k).trans ?_⟩;rw[JJ o t fun j a=>by have:=r j a;lia];refine⟨fun h=>h.imp id ?_,fun h=>h.imp id ?_⟩
 ·rintro⟨x,v,n,j,rfl,a,rfl⟩;exact⟨x,v,n,rfl,by rw[j4 b a]⟩
 ·rintro⟨x,v,n,e,rfl⟩;cases f with
  | rise x' h' n'=>
   have:x'=x:=by injection e
   subst this;obtain⟨j,a⟩:=c.1;exact⟨x',h',n',j,rfl,a,by rw[j4 b a]⟩
  | hold n=>cases e
  | ring x n=>cases e
  | row is=>cases e
  | side is=>cases e
  | again k j=>cases e
theorem j2X{M c:List (List Int)}(W:WfB ls ps)(h:MovOk ls ps M)(h':MovOk ls ps c)(l:M.length=ps.length)(r:c.length=ps.length):∀i,i<ps.length->c.getD i []=M.getD i []:=by
 intro i
 induction i using Nat.strongRecOn with
 | ind i ih=>
  intro q;have e:ps[i]?=some ps[i]:=vz q;have p:M[i]?=some (M.getD i []):=by rw[vy,vz (by lia)];rfl
  have f:c[i]?=some (c.getD i []):=by rw[vy,vz (by lia)];rfl
  obtain⟨a,b⟩:=h i _ _ e p;obtain⟨n,o⟩:=h' i _ _ e f;refine Wc n a fun k=>(o k).trans (Iff.trans ?_ (b k).symm)
  have m:(∃j∈inP ps (ps[i]).2,k∈c.getD j [])↔∃j∈inP ps (ps[i]).2,k∈M.getD j []:=by
   constructor
   ·rintro⟨j,d,g⟩;have:=W.inP_lt e d;exact⟨j,d,by rw[<-ih j this (by lia)];exact g⟩
   ·rintro⟨j,d,g⟩;have:=W.inP_lt e d;exact⟨j,d,by rw[ih j this (by lia)];exact g⟩
  rw[m]
theorem DOk.sn(D:DOk (nmsOf ls) fs M gs)(C:fs.length<=names.length)(G:names.Nodup)(B:(nmsOf ls).Nodup)(X:ls.length<=8)(J:fs.length<=61)(f1:1<=fs.length)(Y:∀q∈ls,0<=q.2/\q.2<=10^18):Sn ls (drawnPs names fs) gs M:=by
 have W:=D.wf C G B X J;have O:=D.mov C G B;have dl:(drawnPs names fs).length=fs.length:=jM;have ml:=D.ml;have gl:=D.gl;refine⟨⟨W,by lia,fun i w=>?_,fun Z T K i w=>j2X W O K (by lia) T i w,fun i p t=>?_,fun i p qs t e=>?_⟩,by lia,O,fun i w=>(D.g i (by lia)).1,by lia,Y,fun i y x v n t=>?_,fun i y x k t=>?_⟩
 ·have:=D.g i (by lia);lia
 ·obtain⟨f,m,rfl⟩:=Jl t;have w:=(vx.mp m).1;obtain⟨d,_,u⟩:=D.f i f m;have o:=d.js.2;rw[show inP (drawnPs names fs) (names.getD i ⟨#[]⟩,toldF names f).2=f.js from JJ C G fun j A=>by have:=o j A;lia];cases f with
  | hold n=>exact⟨trivial,fun g h=>Eq.trans h (Eq.symm u)⟩
  | ring x n=>exact⟨trivial,fun g h=>Eq.trans h (Eq.symm u)⟩
  | rise x v n=>exact⟨trivial,fun g h=>Eq.trans h (Eq.symm u)⟩
  | row is=>exact⟨trivial,fun g h=>Eq.trans h (Eq.symm u)⟩
  | side is=>
   refine⟨fun z=>?_,fun g h=>?_⟩
   ·have p2:=d.1;have:is.length=0:=by rw[<-vt (f:=fun j=>gs.getD j 0)];exact congrArg List.length z
    lia
   ·obtain⟨Q,R⟩:=h;obtain⟨j,A,rfl⟩:=vK.mp Q;obtain⟨⟨E,s,e'⟩,U⟩:=u;have a1:=U j A;have a2:=R (gs.getD E 0) (vK.mpr ⟨E,s,rfl⟩);lia
  | again k j=>
   have P:=D.g j (by have:=o j vq;lia);refine⟨⟨gs.getD j 0,[],rfl,vX (by decide) d.1,d.2.1,by lia,P.2⟩,fun g h=>?_⟩;obtain⟨y,S,rfl⟩:=h;cases S;exact Eq.symm u
 ·obtain⟨f,m,rfl⟩:=Jl t;have w:=(vx.mp m).1;obtain⟨d,_,_⟩:=D.f i f m;have o:=d.js.2;rw[show inP (drawnPs names fs) (names.getD i ⟨#[]⟩,toldF names f).2=f.js from JJ C G fun j A=>by have:=o j A;lia];cases f with
  | side is=>
   obtain⟨_,_,_,H,I⟩:=d;refine⟨H,fun k=>?_⟩;have N:∀o:List Nat,o.Pairwise (fun a b=>∀k∈M.getD a [],¬k∈M.getD b [])->((o.map fun j=>M.getD j []).filter fun F=>decide (k∈F)).length<=1:=fun o=>by
    induction o with
    | nil=>exact fun _=>va _
    | cons j r ih=>
     intro h;rw[vV]at h;rw[uy,uz];split
     ·rename_i c;have e:(r.map fun j=>M.getD j []).filter (fun F=>decide (k∈F))=[]:=by
       rw[List.filter_eq_nil_iff];intro F L;obtain⟨E,s,rfl⟩:=vK.mp L;have:=h.1 E s k (of_decide_eq_true c);simpa using this
      rw[e];exact vb _
     ·exact ih h.2
   exact N is I
  | hold n=>cases e
  | ring x n=>cases e
  | rise x v n=>cases e
  | row is=>cases e
  | again k j=>cases e
 ·obtain⟨f,m,e⟩:=Jl t;obtain⟨d,_⟩:=D.f i f m;have l:=(Prod.mk.inj e).2;cases f with
  | rise x' K n'=>
   injection l with e3 e4 e5;subst e3 e4 e5;exact d.2
  | hold n=>cases l
  | ring x n=>cases l
  | row is=>cases l
  | side is=>cases l
  | again k j=>cases l
 ·obtain⟨f,m,e⟩:=Jl t;obtain⟨d,_⟩:=D.f i f m;have l:=(Prod.mk.inj e).2;cases f with
  | again k' j=>
   injection l with e3 e4;subst e3;exact⟨d.1,d.2.1⟩
  | rise x' K n'=>cases l
  | hold n=>cases l
  | ring x n=>cases l
  | row is=>cases l
  | side is=>cases l
end
end Rm
namespace L2
open PySem PySem.Spec PySem.W PyProof.Rows
theorem XQ:∀{ys:List V} {us:List Value},us.length=ys.length->(∀(j:Nat) (u:Value),us[j]?=some u->∃y,ys[j]?=some y/\RelV y u)->Vals ys us
 | [],[],_,_=>.nil
 | [],_::_,h,_=>by simp at h
 | _::_,[],h,_=>by simp at h
 | y::ys,u::us,h,q=>by
  obtain⟨b,e,r⟩:=q 0 u rfl;simp only[List.getElem?_cons_zero,Option.some.injEq]at e;subst e;exact .cons r (XQ (by simpa using h) fun j u a=>by simpa using q (j+1) u (by simpa using a))
section
variable{X:Cx}
end
open PySem PySem.Spec PyProof.Rows
section
variable{prog:Program}{w:World}{A:Around}{E:Value->Shared->Prop}{s:Shared}
end
theorem xV{P:Nat->Value->Prop}:∀{xs:List V} {us:List Value},us.length=xs.length->(∀(i:Nat) v,us[i]?=some v->P i v)->(∀(i:Nat) (v:Value) (x:V),P i v->xs[i]?=some x->RelV x v)->Vals xs us:=by
 intro xs
 induction xs generalizing P with
 | nil=>
  intro us h _ _;rw[List.length_eq_zero_iff.mp h];exact .nil
 | cons x r ih=>
  intro us h a b;cases us with
  | nil=>exact ud h (by simp)
  | cons u us=>
   refine .cons (b 0 u x (a 0 u rfl) rfl) (ih (P:=fun i v=>P (i+1) v) (by simpa using h) (fun i v e=>a (i+1) v (by simpa using e)) fun i v y p e=>b (i+1) v y p (by simpa using e))
def tLR(ta:TA):TE:=fun σ H Q=>ta σ H fun vs H1=>∃n:Nat,vs=[.int (n:Nat)]/\n<=10^6/\∀p,H1 p=none->Q (.ref p) (upd H1 p (.lst ((List.range n).map fun u:Nat=>V.int (u:Nat))))
theorem j3N{a:TA}{b:St}{H:Hp}{Q:VK}(h:a b H fun vs H1=>∃n:Nat,vs=[.int (n:Nat)]/\n<=10^6/\∀p,H1 p=none->Q (.ref p) (upd H1 p (.lst ((List.range n).map fun u:Nat=>V.int (u:Nat))))):tLR a b H Q:=h
theorem kr{X:Cx}{a:Expr}{K:TA}{p C D c:Pos}(N:X.calm=true)(r:Gl X "list")(z:X.mg "list"= none)(w:Gl X "range")(A:X.mg "range"= none)(M:PA X [a] K)
  (g:starEach [.Call (.Name "range" C) [a] [] c] X.env=[(false,eval (.Call (.Name "range" C) [a] [] c) X.env)]:=by rfl)
  (R:starEach [a] X.env=[(false,eval a X.env)]:=by rfl) :
  PE X (.Call (.Name "list" p) [.Call (.Name "range" C) [a] [] c] [] D) (tLR K):=by
 intro j s σ H Q I h;refine wpAny_Call_Name_kw (zb I r z Q7 ?_);refine PyProof.Rows.callWith_type1 ?_ g rfl;rw[g];refine Calls.spliced_cons ?_;refine Call_ (zb I w A boot_range (PyProof.Rows.callWith_type1 (thn (M c j s σ H _ I h) fun us l ⟨vs,H1,m,W,U⟩=>?_) R rfl));obtain⟨n,rfl,hn,q⟩:=U;obtain⟨u,rfl,t,rfl⟩:=vals1 W;refine call_range_1 ?_;refine Calls.spliced_nil ?_;have T:Builtin.Range.rangeSize 0 (n:Int) 1=((n:Nat):Int):=by rw[rangeSize_one];split<;>lia
 have sl:(10^6:Nat)<=2^24:=by decide
 refine call_list_range (n:=n) (m.ok.hd N) (IsRange.new ..) (small_one (by lia) (by lia) (by lia) (by lia)) T (by lia) fun E Y f L S e d=>?_
 have B:∀b o,l.heap.get? b=some o->E.get? b=some o:=fun b o e=>S b o (vJ _ e)
 have J:l.heap.objs.size<=(l.heap.push {cls:=.type "range",data:=.fields #[.int 0 l.toks,.int n t,.int 1 (l.toks+1)]}).objs.size:=by rw[Heap.size_push];exact Nat.le_succ _
 have Z:Vals ((List.range n).map fun u:Nat=>V.int (u:Nat)) f.toList:=by
  refine xV (P:=fun i v=>∃t,v=Value.int (0+(i:Int)*1) t) (by rw[Array.length_toList,d.1,vt,length_range]) (fun i v e=>d.2 i v (by simpa using e)) fun i v x O F=>?_
  rw[vv]at F;obtain⟨k,y,rfl⟩:=vg.mp F;obtain⟨t,rfl⟩:=O;have G:=(vx.mp y).1;rw[length_range]at G;rw[List.getElem?_range G]at y;cases y;exact⟨t,by simp⟩
 have sz:(10^6:Nat)<=sizeLine:=by decide
 refine⟨.ref _,_,m.laid (t':=Y) B J (show ObjOk X.prog X.w _ E _ (.lst ((List.range n).map fun u:Nat=>V.int (u:Nat)))from⟨by rw[vt,length_range];lia,f.toList,L,Z,by simpa using e⟩),rfl,q _ (m.hok.fresh J)⟩
noncomputable abbrev NI:=Sum Key (List Key)
noncomputable abbrev NK:=List NI
section
variable(P:Program)(w:World)
inductive ItN(h:Heap):NK->List Value->Prop
 | nil:ItN h [] []
 | key {k:Key} {v:Value} {ks:NK} {vs:List Value}:keyIs k v=true->ItN h ks vs->ItN h (Sum.inl k::ks) (v::vs)
 | tup {kk:List Key} {b:Addr} {ks:NK} {vs:List Value}:IsTupleKey (mixKind P w) h kk b->ItN h ks vs->ItN h (Sum.inr kk::ks) (.ref b::vs)
def IsN(h:Heap)(ks:NK)(a:Addr):Prop:=∃o items n,h.get? a=some o/\o.cls = .type "tuple"/\o.data = .seq items n/\ItN P w h ks items.toList
end
section
variable{P:Program}{w:World}{h h':Heap}
theorem ItN.inj:∀{x y:NK} {vs:List Value},ItN P w h x vs->ItN P w h y vs->x=y
 | _,_,_,.nil,q=>by cases q;rfl
 | _,_,_,.key a r,q=>by
  cases q with
  | key b t=>rw[(mixKind P w).inj _ _ _ a b,r.inj t]
  | tup b t=>exact ud ((mixKind P w).byValue _ _ a) (by simp[carriedByValue])
 | _,_,_,.tup a r,q=>by
  cases q with
  | key b t=>exact ud ((mixKind P w).byValue _ _ b) (by simp[carriedByValue])
  | tup b t=>rw[a.inj b,r.inj t]
theorem ItN.keeps{d:Addr}{o:Obj}{es ep}(ho:h.get? d=some o)(hd:o.data = .dict es ep)(hs:Heap.SameBut d h h'):∀{x:NK} {vs:List Value},ItN P w h x vs->ItN P w h' x vs
 | _,_,.nil=>.nil
 | _,_,.key a r=>.key a (r.keeps ho hd hs)
 | _,_,.tup a r=>.tup (a.keeps ho hd hs) (r.keeps ho hd hs)
noncomputable def itH(w:World)(P:Program):NI->Int
 | .inl k=>keyH w k
 | .inr kk=>tupleKeyHash (mixKind P w) kk
noncomputable def itD:NI->Nat
 | .inl _=>1
 | .inr kk=>kk.length+1
noncomputable def dsN:NK->Nat
 | []=>1
 | x::r=>itD x+dsN r
noncomputable def hashN(w:World)(P:Program)(ks:NK):Int:=reduceHash (Builtin.Tuple.tupleHashOf (ks.map (itH w P)))
theorem IsN.typeIs{s:Shared}{ks:NK}{a:Addr}(x:IsN P w s.heap ks a):s.TypeIs (.ref a) "tuple":=let ⟨o,_,_,ho,hc,_⟩:=x;⟨o,ho,hc⟩
section
variable{A:Around}{E:Value->Shared->Prop}{s:Shared}
theorem j2J{x:NI}{ks:NK}{v:Value}{vs:List Value}{Q:Int->Shared->Prop}(b:A.units<cLine)(i:ItN P w s.heap (x::ks) (v::vs))(h:Q (itH w P x) {s with toks:=s.toks+itD x}):wpAny (model P w) A (pyHash v) Q E s:=by
 cases i with
 | key a r=>exact(mixKind P w).pyHash a h
 | tup a r=>exact wpAny_pyHash_tuple b a h
theorem Xh(x:NI):∀ks:NK,dsN (ks++[x])=dsN ks+itD x
 | []=>by show itD x+1=1+itD x;lia
 | y::r=>by show itD y+dsN (r++[x])=itD y+dsN r+itD x;rw[Xh x r];lia
theorem j46{ks:NK}{a:Addr}{Q:Int->Shared->Prop}(C:A.units+60<cLine)(u:IsN P w s.heap ks a)(h:Q (hashN w P ks) {s with toks:=s.toks+dsN ks}):wpAny (model P w) A (pyHash (.ref a)) Q E s:=by
 have T:=u.typeIs;obtain⟨o,m,n,B,_,v,z⟩:=u;have k:A.units<cLine:=by lia
 unfold pyHash
 first | unfold pyHashByItsType | skip
 first | refine uf (wpAny_cRoomFor_or (.inr k) ?_) | skip
 refine uf (wpAny_specialOf T F.slot_tuple_hash.lookup ?_);show wpAny _ _ (if(some (Value.builtin "tuple.__hash__")==some Value.none)=true then _ else _) Q E s;rw[vc (by rw[beq_builtin_none];exact vF)];refine uf (wpAny_specialOf T F.slot_tuple_hash.lookup ?_);show wpAny _ _ (callSpecialIfBoundUnlessNone? (.ref a) "__hash__" _ >>= _) Q E s;refine uf (wpAny_callSpecialIfBoundUnlessNone?_slot T F.slot_tuple_hash (wpAny_call_entry F.slot_tuple_hash T F.entry_tuple_hash ?_ (F.args_tuple_hash_1 _)));show wpAny _ _ (Builtin.Tuple.tupleItemsOf (.ref a) >>= _) _ _ s;refine uf (wpAny_tupleItemsOf B v ?_);refine uf ?_;rw[<-Array.forIn_toList];refine wpAny_forIn_list _ (fun d (b:Array Int) q=>∃c left:NK,ks=c++left/\ItN P w s.heap left d/\b.toList=c.map (itH w P)/\q={s with toks:=s.toks+(dsN c-1)}) _ ?_ ?_ _ _ ⟨[],ks,rfl,z,rfl,rfl⟩
 ·rintro x d b q ⟨c,left,rfl,g,j,rfl⟩;have p:∀y:NI,1<=itD y:=fun y=>by cases y<;>simp[itD]
  have i:∀l:NK,1<=dsN l:=fun l=>by
   cases l with
   | nil=>exact vb _
   | cons y r=>exact vW (p y) (Nat.le_add_right _ _)
  cases left with
  | nil=>cases g
  | cons y ks'=>
   have e:ItN P w s.heap ks' d:=by cases g with
    | key a r=>exact r
    | tup a r=>exact r
   have f:s.toks+(dsN c-1)+itD y=s.toks+(dsN (c++[y])-1):=by rw[Xh];have:=i c;lia
   refine uf (j2J (s:={s with toks:=s.toks+(dsN c-1)}) (by show A.units+1<cLine;lia) g ?_)
   first
    | exact ue ⟨c++[y],ks',by simp,e,by simp[j],by rw[<-f]⟩
    | exact uf (ue (ue ⟨c++[y],ks',by simp,e,by simp[j],by rw[<-f]⟩))
 ·rintro b q ⟨c,left,rfl,g,j,rfl⟩;cases g;rw[append_nil]at h;have i:1<=dsN c:=by
   cases c with
   | nil=>exact vb _
   | cons y r=>cases y<;>simp only[dsN,itD]<;>lia
  have t:s.toks+(dsN c-1)+1=s.toks+dsN c:=by lia
  show wpAny _ _ (retInt (Builtin.Tuple.tupleHashOf b.toList)) _ _ _;rw[j];refine wpAny_ret_mkInt ?_;show wpAny _ _ (if(decide (-(2:Int)^63<=Builtin.Tuple.tupleHashOf (c.map (itH w P)))&&decide (Builtin.Tuple.tupleHashOf (c.map (itH w P))<2^63))=true then _ else _) Q E _;unfold hashN reduceHash at h;by_cases e:(decide (-(2:Int)^63<=Builtin.Tuple.tupleHashOf (c.map (itH w P)))&&decide (Builtin.Tuple.tupleHashOf (c.map (itH w P))<2^63))=true
  ·rw[vd e];rw[vd e]at h;exact ue (by simpa [t]using h)
  ·rw[vc e];rw[vc e]at h;exact uf (wpAny_rule (ue (by simpa [t]using h)))
theorem j50{x y:NI}{ks ls:NK}{u v:Value}{us vs:List Value}(p:A.units+1<cLine)(i:ItN P w s.heap (x::ks) (u::us))(j:ItN P w s.heap (y::ls) (v::vs)){Q:Bool->Shared->Prop}(h:Q (decide (x=y)) s):wpAny (model P w) A (eqBool u v) Q E s:=by
 have f:∀{m:List Key} {b:Addr},IsTupleKey (mixKind P w) s.heap m b->∃c,s.heap.IsTuple b c:=fun⟨o,c,n,g,k,l,_⟩=>⟨c,o,g,k,n,l⟩
 cases i with
 | key a r=>
  cases j with
  | key b t=>
   refine(mixKind P w).eqBool a b ?_;rw[show decide (Sum.inl _=(Sum.inl _:NI))=decide _ from decide_eq_decide.mpr ⟨Sum.inl.inj,congrArg _⟩]at h;exact h
  | tup b t=>
   obtain⟨c,e⟩:=f b;rw[vH (fun z=>nomatch z)]at h;rcases jW a with⟨i,t,rfl,rfl⟩ | ⟨x,t,rfl,rfl⟩
   ·exact SeqAt.EqAt.int_tuple i t e (by lia) _ _ _ _ h
   ·exact SeqAt.EqAt.str_tuple x t e (by lia) _ _ _ _ h
 | tup a r=>
  obtain⟨c,d⟩:=f a;cases j with
  | key b t=>
   rw[vH (fun z=>nomatch z)]at h;rcases jW b with⟨i,t,rfl,rfl⟩ | ⟨x,t,rfl,rfl⟩
   ·exact SeqAt.EqAt.tuple_int i t d (by lia) _ _ _ _ h
   ·exact SeqAt.EqAt.tuple_str x t d (by lia) _ _ _ _ h
  | tup b t=>
   refine wpAny_eqBool_tuple (by lia) a b ?_;rw[show decide (Sum.inr _=(Sum.inr _:NI))=decide _ from decide_eq_decide.mpr ⟨Sum.inr.inj,congrArg _⟩]at h;exact h
theorem j0S(c:A.units+1<cLine):∀{x y:NK} {us vs:List Value},ItN P w s.heap x us->ItN P w s.heap y vs->∀(j:Nat) (h1:j<us.length) (h2:j<vs.length),∃(a:j<x.length) (b:j<y.length),∀(E:Value->Shared->Prop) (Q:Bool->Shared->Prop),Q (decide (x[j]=y[j])) s->wpAny (model P w) A (eqBool us[j] vs[j]) Q E s
 | [],_,_,_,i,_,j,h1,_=>by cases i;exact ud h1 (Nat.not_lt_zero _)
 | _::_,[],_,_,_,i,j,_,h2=>by cases i;exact ud h2 (Nat.not_lt_zero _)
 | x::xs,y::ys,[],_,i,_,_,_,_=>nomatch i
 | x::xs,y::ys,_::_,[],_,i,_,_,_=>nomatch i
 | x::xs,y::ys,u::us,v::vs,i,k,0,_,_=>⟨Nat.succ_pos _,Nat.succ_pos _,fun E Q h=>j50 c i k h⟩
 | x::xs,y::ys,u::us,v::vs,i,k,j+1,h1,h2=>by
  have d:ItN P w s.heap xs us:=by cases i with
   | key _ r=>exact r
   | tup _ r=>exact r
  have e:ItN P w s.heap ys vs:=by cases k with
   | key _ r=>exact r
   | tup _ r=>exact r
  obtain⟨a,b,q⟩:=j0S c d e j (Nat.lt_of_succ_lt_succ h1) (Nat.lt_of_succ_lt_succ h2);exact⟨Nat.succ_lt_succ a,Nat.succ_lt_succ b,fun E Q h=>q E Q h⟩
theorem ItN.length:∀{x:NK} {vs:List Value},ItN P w h x vs->x.length=vs.length
 | _,_,.nil=>rfl
 | _,_,.key _ r=>by rw[vQ,vQ,r.length]
 | _,_,.tup _ r=>by rw[vQ,vQ,r.length]
theorem j3S{c:Type}[DecidableEq c]{x y:List c}{e:Nat->Bool}(a:∀j (h1:j<x.length) (h2:j<y.length),e j=decide (x[j]=y[j])):((List.range (min x.length y.length)).all e&&x.length==y.length)=decide (x=y):=by
 by_cases z:x=y
 ·subst z;rw[vG rfl,Bool.and_eq_true];refine⟨all_eq_true.mpr fun j b=>?_,by simp⟩;have b:=v6.mp b;rw[a j (by lia) (by lia)];simp
 ·rw[vH z];cases e':((List.range (min x.length y.length)).all e&&x.length==y.length)with
  | false=>rfl
  | true=>
   rw[Bool.and_eq_true]at e';obtain⟨h1,h2⟩:=e';have h2:x.length=y.length:=by simpa using h2
   refine ud (ext_getElem h2 fun j d f=>?_) z;have:=all_eq_true.mp h1 j (v6.mpr (by lia));rw[a j d f]at this;exact of_decide_eq_true this
theorem j4Z{x y:NK}{a b:Addr}{Q:Bool->Shared->Prop}(hu:A.units+60<cLine)(T:IsN P w s.heap x a)(U:IsN P w s.heap y b)(h:Q (decide (x=y)) s):wpAny (model P w) A (eqBool (.ref a) (.ref b)) Q E s:=by
 by_cases C:a=b
 ·subst C;obtain⟨o,c,n,R,_,H,I⟩:=T;obtain⟨o',a0,n',i,_,f,N⟩:=U;rw[R]at i;cases i;rw[H]at f;cases f;rw[I.inj N,vG rfl]at h;exact SeqAt.EqAt.same _ P w E Q h
 ·have X:=T.typeIs;have Y:=U.typeIs;obtain⟨⟨_,oa,_,sa⟩,c,n,R,Z,H,I⟩:=id T;obtain⟨⟨_,ob,_,sb⟩,d,m,i,D,f,p⟩:=id U;simp only at Z H D f;subst Z H D f;unfold eqBool;refine wpAny_holding ?_;refine wpAny_ite_split (fun z=>ud (by have:=eq_of_beq z;injection this) C) fun _=>?_
  have lx:x.length=c.size:=I.length.trans Array.length_toList;have ly:y.length=d.size:=p.length.trans Array.length_toList
  let e:Nat->Bool:=fun j=>decide (x[j]?=y[j]?)
  have J:((List.range (min c.size d.size)).all e&&c.size==d.size)=decide (x=y):=by
   rw[<-lx,<-ly];refine j3S fun j K L=>?_
   show decide (x[j]?=y[j]?)=_;rw[vz K,vz L];exact decide_eq_decide.mpr ⟨vL,congrArg _⟩
  refine uf (wpAny_richCompare_same_room (op:=.Eq) X Y F.slot_tuple_eq (wpAny_call_entry F.slot_tuple_eq X F.entry_tuple_eq ?_ (F.args_tuple_eq_2 _ _)) (by lia));show wpAny _ _ (isInstance (.ref b) (.type "tuple") >>= _) _ _ s;refine uf (wpAny_isInstance Y isSubtype_tuple_tuple ?_);simp only[Bool.not_true,Bool.false_eq_true,if_false];refine uf (wpAny_tupleItemsOf R rfl ?_);refine uf (wpAny_tupleItemsOf i rfl ?_);refine uf ?_;refine wpAny_forIn_list _ (fun l r W=>r.1=none/\W=s/\∃k,l=(List.zip c.toList d.toList).drop k/\∀j,j<k->e j=true) _ ?_ ?_ _ _ ⟨rfl,rfl,0,rfl,fun j p=>ud p (Nat.not_lt_zero _)⟩
  ·rintro⟨u,v⟩ l r W ⟨S,rfl,k,t,O⟩;have G:k<(List.zip c.toList d.toList).length:=by
    rcases Nat.lt_or_ge k (List.zip c.toList d.toList).length with g | g
    ·exact g
    ·rw[List.drop_eq_nil_of_le g]at t;cases t
   rw[List.drop_eq_getElem_cons G]at t;injection t with hz1 hz2;rw[length_zip]at G;have l1:k<c.toList.length:=by lia
   have l2:k<d.toList.length:=by lia
   rw[List.getElem_zip]at hz1;injection hz1 with eu ev;obtain⟨K,L,q⟩:=j0S (A:=A.in1) (by show A.units+1+1<cLine;lia) I p k l1 l2;have ek:e k=decide (x[k]=y[k]):=by
    show decide (x[k]?=y[k]?)=_;rw[vz K,vz L];exact decide_eq_decide.mpr ⟨vL,congrArg _⟩
   rw[eu,ev];refine uf (q _ _ ?_);by_cases z:x[k]=y[k]
   ·rw[vG z];simp only[Bool.not_true,Bool.false_eq_true,if_false];refine ue ⟨rfl,rfl,k+1,hz2,fun j p=>?_⟩;rcases Nat.lt_or_ge j k with g | g
    ·exact O j g
    ·have:j=k:=by lia
     subst this;rw[ek,vG z]
   ·rw[vH z];simp only[Bool.not_false,if_true];have hf:decide (x=y)=false:=vH fun g=>z (by subst g;rfl)
    rw[hf]at h;exact uf (ue (ue (ue ⟨_,rfl,(fun e=>nomatch e),wpAny_truthy_bool h⟩)))
  ·rintro⟨r1,r2⟩ W ⟨S,rfl,k,t,O⟩;simp only at S;subst S;have M:(List.zip c.toList d.toList).length<=k:=by
    rcases Nat.lt_or_ge k (List.zip c.toList d.toList).length with g | g
    ·rw[List.drop_eq_getElem_cons g]at t;cases t
    ·exact g
   rw[length_zip,Array.length_toList,Array.length_toList]at M;have B:(c.size==d.size)=decide (x=y):=by
    rw[<-J,all_eq_true.mpr fun j p=>O j (by have:=v6.mp p;lia),Bool.true_and]
   refine ue ⟨_,rfl,(fun e=>nomatch e),wpAny_truthy_bool ?_⟩;rw[B];exact h
theorem j0l{p:List Key}{b:Addr}{n:Nat}{Q:Bool->Shared->Prop}(i:IsTupleKey (mixKind P w) s.heap p b)(h:Q true s):wpAny (model P w) A (eqIsQuiet (n+1) (.ref b)) Q E s:=by
 have T:=i.typeIs;obtain⟨o,d,m,l,_,j,k⟩:=i;unfold eqIsQuiet;refine uf (wpAny_specialOf T F.slot_tuple_eq.lookup ?_);show wpAny _ _ (isInstance (.ref b) (.type "tuple") >>= _) _ _ s;refine uf (wpAny_isInstance T isSubtype_tuple_tuple ?_);simp only[Bool.not_true,Bool.false_eq_true,if_false];refine uf (wpAny_seqItems l j ?_);refine uf ?_;show wpAny _ _ (forIn d _ _) _ _ s;rw[<-Array.forIn_toList];refine wpAny_forIn_list _ (fun c r g=>r.1=none/\g=s/\∀v∈c,carriedByValue v=true) _ ?_ ?_ _ _ ⟨rfl,rfl,k.byValue⟩
 ·rintro v c r g ⟨e,rfl,a⟩;rw[eqIsQuiet_byValue _ (a v vq)];refine uf (ue ?_);simp only[Bool.not_true,Bool.false_eq_true,if_false];exact ue ⟨rfl,rfl,fun u f=>a u (vp _ f)⟩
 ·rintro⟨q,t⟩ g ⟨e,rfl,_⟩;simp only at e;subst e;exact ue h
theorem j3j{ks:NK}{a:Addr}{Q:Bool->Shared->Prop}(f:IsN P w s.heap ks a)(h:Q true s):wpAny (model P w) A (eqIsQuiet 8 (.ref a)) Q E s:=by
 have T:=f.typeIs;obtain⟨o,c,m,l,_,i,j⟩:=f;unfold eqIsQuiet;refine uf (wpAny_specialOf T F.slot_tuple_eq.lookup ?_);show wpAny _ _ (isInstance (.ref a) (.type "tuple") >>= _) _ _ s;refine uf (wpAny_isInstance T isSubtype_tuple_tuple ?_);simp only[Bool.not_true,Bool.false_eq_true,if_false];refine uf (wpAny_seqItems l i ?_);refine uf ?_;show wpAny _ _ (forIn c _ _) _ _ s;rw[<-Array.forIn_toList];refine wpAny_forIn_list _ (fun b r e=>r.1=none/\e=s/\∃g:NK,ItN P w s.heap g b) _ ?_ ?_ _ _ ⟨rfl,rfl,ks,j⟩
 ·rintro v b r e ⟨d,rfl,g,k⟩;cases k with
  | key z t=>
   rw[eqIsQuiet_byValue _ ((mixKind P w).byValue _ _ z)];refine uf (ue ?_);simp only[Bool.not_true,Bool.false_eq_true,if_false];exact ue ⟨rfl,rfl,_,t⟩
  | tup z t=>
   refine uf (j0l z ?_);simp only[Bool.not_true,Bool.false_eq_true,if_false];exact ue ⟨rfl,rfl,_,t⟩
 ·rintro⟨n,p⟩ e ⟨d,rfl,_⟩;simp only at d;subst d;exact ue h
end
noncomputable def nestKind(P:Program)(w:World):HeapKind P w NK where
 is:=IsN P w
 hash:=hashN w P
 draws:=dsN
 room:=fun A=>A.units+60<cLine
 inj:=fun hx hy=>by
  obtain⟨o,its,n,ho,_,hd,hi⟩:=hx;obtain⟨o',its',n',ho',_,hd',hi'⟩:=hy;rw[ho]at ho';cases ho';rw[hd]at hd';cases hd';exact hi.inj hi'
 keeps:=fun {h h' k a d o es ep} x ho hd hs=>by
  obtain⟨o',its,n,ho',hc,hd',hi⟩:=x;have ne:a≠d:=fun z=>by
   rw[z,ho]at ho';cases ho';rw[hd]at hd';cases hd'
  exact⟨o',its,n,(hs.2 a ne).trans ho',hc,hd',hi.keeps ho hd hs⟩
 pyHash:=fun hu hk h=>j46 hu hk h
 eqBool:=fun hu hx hy h=>j4Z hu hx hy h
 quiet:=fun hk h=>j3j hk h
end
section
variable{prog:Program}{w:World}{K:Type}[DecidableEq K]{knd:HeapKind prog w K}{A:Around}{E:Value->Shared->Prop}{s:Shared}
theorem j0r{d a:Addr}{xs:List (K×Addr×Value)}{k:K}{v:Value}{Q:Value->Shared->Prop}(q:knd.room A)(b:knd.is s.heap k a)(G:s.heap.DictOfH knd d xs)(hz:xs.length<=sizeLine)
  (C:∀p,atKey xs k=some p->Q p.2 {s with toks:=s.toks+knd.draws k})
  (D:atKey xs k=none->∀h',h'.DictOfH knd d (xs++[(k,a,v)])->Heap.SameBut d s.heap h'->Q v {s with heap:=h',toks:=s.toks+knd.draws k}) :
  wpAny (model prog w) A (dictSetDefault d (.ref a) v) Q E s:=by
 obtain⟨o,B,u,g,F,c,l,h,m⟩:=G;have H:=size_of_entries l;unfold dictSetDefault
 try with_reducible refine wpAny_holding ?_
 refine uf (knd.pyHash q b ?_);refine uf (wpAny_dictFind_heap (s:={s with toks:=s.toks+knd.draws k}) q b g c l h m (fun t=>?_) fun j p n=>?_)
 ·have i:k∉xs.map (·.1):=not_mem_keys_of_get t;refine uf (wpAny_rule (uf (wpAny_updateDictKeys (hz:=by lia) (s:={s with toks:=s.toks+knd.draws k}) g c (ue (D (atKey_none_of_get t) _ ⟨_,_,u+1,Heap.get?_update_self _ g (Obj.isFreed_of_dict (Obj.data_mapDictKeys c _)),F.mapDictKeys _,Obj.data_mapDictKeys c _,?_,fun x f=>?_,?_⟩ (Heap.SameBut.update ..))))))
  ·simp[l,entryOfKey]
  ·rcases vh.mp f with f | f
   ·exact knd.keeps (h x f) g c (Heap.SameBut.update ..)
   ·rw[vo.mp f];exact knd.keeps b g c (Heap.SameBut.update ..)
  ·rw[vj,nodup_append];refine⟨m,by simp,fun x f y r z=>?_⟩;simp only[map_cons,map_nil,mem_singleton]at r;exact i (r▸z▸f)
 ·refine uf (wpAny_dictEntries (s:={s with toks:=s.toks+knd.draws k}) g c ?_);have e:B[j]?=some (entryOfKey knd (k,p)):=by rw[entry_at l j,n];rfl
  rw[e];exact uf (wpAny_rule (ue (C p (atKey_of_get m n))))
theorem xO(d a:Addr)(i:(d==sysModules)=false)(v:Value) :
  MeetsIn prog w (Builtin.«dict.setdefault» ⟨[.ref d,.ref a,v],[]⟩) (fun A R s=>knd.room A.in1/\∃k xs,knd.is s.heap k a/\s.heap.DictOfH knd d xs/\xs.length<=sizeLine/\
   (∀p,atKey xs k=some p->R (.ok (.ret p.2)) {s with toks:=s.toks+knd.draws k})/\
   (atKey xs k=none->∀h',h'.DictOfH knd d (xs++[(k,a,v)])->Heap.SameBut d s.heap h'->R (.ok (.ret v)) {s with heap:=h',toks:=s.toks+knd.draws k})):=
 .of_wp fun A R s ⟨m,k,xs,b,f,n,g,h⟩=>by
  unfold Builtin.«dict.setdefault»;refine uf ?_;unfold Builtin.Dict.keyAndDefault;refine uf (wpAny_notOrdered_dict f.typeIs ?_);show wpAny _ _ (pure (d,Value.ref a,some v)) _ _ s;refine ue ?_;show wpAny _ _ (if(d==sysModules)=true then _ else(dictSetDefault d (.ref a) v >>= _)) _ _ s;rw[vc (by rw[i];exact vF)];exact uf (j0r m b f n (fun p l=>ue ⟨p.2,rfl,g p l⟩) fun j h' c e=>ue ⟨v,rfl,h j h' c e⟩)
def RawD(h:Heap)(d:Addr)(es:Array DictEntry)(ep:Nat):Prop:=∃o,h.get? d=some o/\o.ExactDict/\o.data = .dict es ep
theorem RawD.typeIs{d:Addr}{es:Array DictEntry}{ep:Nat}(x:RawD s.heap d es ep):s.TypeIs (.ref d) "dict":=let ⟨o,ho,hc,_⟩:=x;⟨o,ho,hc.1⟩
theorem j1R{d:Addr}{es:Array DictEntry}{ep:Nat}{Q:Value->Shared->Prop}(f:(d==sysModules)=false)(b:RawD s.heap d es ep)
  (e:Q (.ref s.heap.objs.size) {s with heap:=s.heap.push {cls:=.type "dict_keyiterator",data:=.fields #[.ref d,.int 0 0,.int es.size 0,.int ep 0]}}) :
  wpAny (model prog w) A (pyIter (.ref d)) Q E s:=by
 have T:=b.typeIs;obtain⟨o,c,g,a⟩:=b;refine wpAny_pyIter_slot T F.slot_dict_iter (wpAny_call_entry F.slot_dict_iter T F.entry_dict_iter ?_ (F.args_dict_iter_1 _));unfold Builtin.«dict.__iter__»;refine uf ?_;unfold Builtin.Dict.dictSlotNone;refine uf (wpAny_notOrdered_dict T ?_);show wpAny _ _ (pure (Value.ref d)) _ _ s;refine ue ?_;show wpAny _ _ (Builtin.Dict.showsAll d >>= _) _ _ s;unfold Builtin.Dict.showsAll;rw[vc (by rw[f];exact vF)];refine uf (ue ?_);refine uf (wpAny_dictEntries c a ?_);refine uf (wpAny_dictEpoch c a ?_);refine uf (wpAny_newObj_type (ue ⟨_,rfl,"dict_keyiterator",_,⟨_,Heap.get?_push_size _ rfl,rfl⟩,F.slot_dict_keyiterator_next.lookup,?_⟩));simpa [rawInt]using e
theorem j1Q{it d:Addr}{i ep:Nat}{es:Array DictEntry}{e:DictEntry}{Q:Option Value->Shared->Prop}(a:s.heap.IsKeyIter it d i es.size ep)(n:RawD s.heap d es ep)(p:es[i]?=some e)
  (k:∀h',h'.IsKeyIter it d (i+1) es.size ep->Heap.SameBut it s.heap h'->Q (some e.key) {s with heap:=h'}):wpAny (model prog w) A (pyNext (.ref it)) Q E s:=by
 obtain⟨o,j,l,h⟩:=id a;obtain⟨q,f,m,c⟩:=n;unfold pyNext;refine uf (wpAny_attempt (wpAny_callSpecial?_slot (name:=Str.ofString "__next__") a.typeIs F.slot_dict_keyiterator_next (wpAny_call_entry F.slot_dict_keyiterator_next a.typeIs F.entry_dict_keyiterator_next ?_ (F.args_dict_keyiterator_next_1 _))));refine uf (ue ?_);refine uf ?_;refine uf ?_
 first | refine uf (wpAny_typeNameOfWhole_keyiter a.typeIs (ue ?_)) | refine uf (wpAny_typeNameOf_keyiter a.typeIs (ue ?_))
 refine uf (wpAny_fieldsOf j h ?_);have g:Builtin.Dict_items.ownsTuple "dict_keyiterator"= false:=by decide
 simp only[g,Bool.false_eq_true,if_false];show wpAny _ _ (if(Value.ref d==Value.none)=true then _ else _) _ _ s;rw[vc (show¬((Value.ref d==Value.none)=true)from vF)];refine uf (ue (uf (wpAny_dictEntries f c ?_)));rw[vc (by simp)];refine uf (ue (uf (wpAny_dictEpoch f c ?_)));rw[vc (by simp)];refine ue ?_;simp only[show¬((i:Int)<0)from by lia,if_false,Int.toNat_natCast,p];refine uf ?_
 first | refine uf (wpAny_typeNameOfWhole_keyiter a.typeIs (ue ?_)) | refine uf (wpAny_typeNameOf_keyiter a.typeIs (ue ?_))
 refine uf (wpAny_isOneOf_keyiter a.typeIs ?_);show wpAny _ _ (setField (.ref it) 1 (rawInt ((i:Int)+1)) >>= _) _ _ s;refine uf (wpAny_setField j h (by simp) ?_);have b:(s.heap.update it (Obj.mapFields (·.setIfInBounds 1 (rawInt ((i:Int)+1))))).IsKeyIter it d (i+1) es.size ep:=
  ⟨_,Heap.get?_update_self _ j (Obj.isFreed_of_fields (Obj.data_mapFields h _)),(Obj.cls_mapFields ..).trans l,by rw[Obj.data_mapFields h];simp[rawInt]⟩
 refine uf (wpAny_holding ?_);refine uf (wpAny_isOneOf_keyiter (s:={s with heap:=s.heap.update it (Obj.mapFields (·.setIfInBounds 1 (rawInt ((i:Int)+1))))}) b.typeIs ?_);show wpAny _ _ (pure e.key) _ _ _;exact ue (ue ⟨_,rfl,ue (k _ b (Heap.SameBut.update ..))⟩)
theorem j3l{it d:Addr}{ep:Nat}{es:Array DictEntry}{Q:Option Value->Shared->Prop}(l:A.handled=none)(c:s.heap.IsKeyIter it d es.size es.size ep)(n:RawD s.heap d es ep)
  (j:∀h',Heap.ExtBut it s.heap h'->Q none {s with heap:=h'}):wpAny (model prog w) A (pyNext (.ref it)) Q E s:=by
 obtain⟨o,i,p,h⟩:=id c;obtain⟨q,f,k,e⟩:=n;unfold pyNext;refine uf (wpAny_attempt (wpAny_callSpecial?_slot (name:=Str.ofString "__next__") c.typeIs F.slot_dict_keyiterator_next (wpAny_call_entry F.slot_dict_keyiterator_next c.typeIs F.entry_dict_keyiterator_next ?_ (F.args_dict_keyiterator_next_1 _))));refine uf (ue ?_);refine uf ?_;refine uf ?_
 first | refine uf (wpAny_typeNameOfWhole_keyiter c.typeIs (ue ?_)) | refine uf (wpAny_typeNameOf_keyiter c.typeIs (ue ?_))
 refine uf (wpAny_fieldsOf i h ?_);have g:Builtin.Dict_items.ownsTuple "dict_keyiterator"= false:=by decide
 simp only[g,Bool.false_eq_true,if_false];show wpAny _ _ (if(Value.ref d==Value.none)=true then _ else _) _ _ s;rw[vc (show¬((Value.ref d==Value.none)=true)from vF)];refine uf (ue (uf (wpAny_dictEntries f e ?_)));rw[vc (by simp)];refine uf (ue (uf (wpAny_dictEpoch f e ?_)));rw[vc (by simp)];refine ue ?_;simp only[show¬((es.size:Int)<0)from by lia,if_false,Int.toNat_natCast,Array.getElem?_eq_none (Nat.le_refl es.size)];refine uf ?_
 first | refine uf (wpAny_typeNameOfWhole_keyiter c.typeIs (ue ?_)) | refine uf (wpAny_typeNameOf_keyiter c.typeIs (ue ?_))
 show wpAny _ _ (setField (.ref it) 0 .none >>= _) _ _ s;refine uf (wpAny_setField i h (by simp) ?_);show wpAny _ _ (newExc (.type "StopIteration") [] >>= _) _ _ _;refine uf ?_;simp only[newExc,newTuple];refine uf (wpAny_newObj_type ?_ (by size_fits));refine uf (m:=firstArgMember _ _) (wpAny_of_eq (a:=Value.none) (by first | rfl | (simp only[firstArgMember];rfl)) ?_);refine wpAny_newObj_type ?_ (by size_fits);simp only[raiseNew];refine uf (wpAny_handled ?_);rw[show A.in1.handled=none from l];refine uf (ue (wpAny_throw ?_));refine uf (wpAny_isInstance (T:="StopIteration") (b:=true) ⟨_,Heap.get?_push_size _ rfl,rfl⟩ isSubtype_stop ?_);exact ue (j _ (((Heap.SameBut.update ..).extBut.push _).push _))
theorem RawD.at'{h h':Heap}{d:Addr}{es:Array DictEntry}{ep:Nat}(x:RawD h d es ep)(e:∀o,h.get? d=some o->h'.get? d=some o):RawD h' d es ep:=let ⟨o,ho,r⟩:=x;⟨o,e _ ho,r⟩
theorem RawD.lt{h:Heap}{d:Addr}{es:Array DictEntry}{ep:Nat}(x:RawD h d es ep):d<h.objs.size:=let ⟨_,ho,_⟩:=x;vI ho
theorem j0o(q:A.handled=none)(I d:Addr)(m:d≠I)(es:Array DictEntry)(ep:Nat) :
  Walks prog w A I [I,d] [I] es.size (fun i v=>∃e,es[i]?=some e/\v=e.key) (fun i h=>h.IsKeyIter I d i es.size ep/\RawD h d es ep) where
 sub:=fun b c=>by simp at c;simp[c]
 frame:=fun _ _ _ a p=>⟨a.1.at fun o e=>p I (by simp) o e,a.2.at' fun o e=>p d (by simp) o e⟩
 item:=fun i s Q E n a f=>j1Q a.1 a.2 (Array.getElem?_eq_getElem n) fun k g j=>
  f _ k s.toks ⟨_,Array.getElem?_eq_getElem n,rfl⟩ ⟨g,a.2.at' fun o e=>j.extBut d o m e⟩ fun b o c e=>j.extBut b o (fun h=>c (by simp[h])) e
 done:=fun s Q E a f=>j3l q a.1 a.2 fun k l=>f k s.toks fun b o c e=>l b o (fun h=>c (by simp[h])) e
 self:=fun _ _ _ _ a f=>wpAny_pyIter_keyiter a.1 f
theorem j3m{d:Addr}{es:Array DictEntry}{ep:Nat}(lo:(d==sysModules)=false):KdlSrc prog w "dict" d d es.size (fun i v=>∃e,es[i]?=some e/\v=e.key) (fun h=>RawD h d es ep) where
 type:=fun _ a=>a.typeIs
 there:=fun _ a=>⟨a.lt,a.lt⟩
 keep:=fun _ _ a f=>a.at' fun o e=>f d (.inl rfl) o e
 notList:=by decide
 notTuple:=by decide
 hint:=fun _ _ _ _ a b=>kdl_hint_dict a.typeIs b
 iter:=fun _ _ c a=>⟨_,_,(fun _ _ b=>j1R lo a b),j0o c _ d (vE a.lt) es ep,⟨⟨_,Heap.get?_push_size _ rfl,rfl,rfl⟩,a.at' fun o e=>vJ _ e⟩⟩
end
inductive NVs(H:Hp):List V->NK->Prop
 | nil:NVs H [] []
 | key {k:Key} {vs:List V} {ks:NK}:NVs H vs ks->NVs H (kV k::vs) (Sum.inl k::ks)
 | tup {b:Addr} {kk:List Key} {vs:List V} {ks:NK}:H b=some (.tup (kk.map kV))->NVs H vs ks->NVs H (.ref b::vs) (Sum.inr kk::ks)
def NAt(H:Hp)(b:Addr)(ks:NK):Prop:=∃vs,H b=some (.tup vs)/\NVs H vs ks
section
variable{P:Program}{w:World}{H:Hp}{h:Heap}
theorem xq(a:HOk P w H h):∀{vs:List V} {ks:NK} {us:List Value},NVs H vs ks->Vals vs us->ItN P w h ks us
 | _,_,_,.nil,r=>by cases r;exact .nil
 | _,_,_,.key t,r=>by
  cases r with
  | cons r1 r2=>exact .key (Y4 (P:=P) (w:=w) r1) (xq a t r2)
 | _,_,_,.tup e t,r=>by
  cases r with
  | cons r1 r2=>
   cases r1;exact .tup (Y5 a e) (xq a t r2)
theorem j11{b:Addr}{ks:NK}(c:HOk P w H h)(x:NAt H b ks):IsN P w h ks b:=by
 obtain⟨i,e,n⟩:=x;obtain⟨_,a,r,o,d,f,m,g⟩:=(show ObjOk P w H h b (.tup i)from c b _ e)
 exact⟨o,a.toArray,m,d,f,g,by simpa using xq c n r⟩
end
noncomputable abbrev NE:=NK×Addr×V
noncomputable def DNx(P:Program)(w:World)(a:Addr)(xs:List NE):HO:=.ext fun h=>xs.length<=sizeLine/\(a==sysModules)=false/\(xs.map (·.1)).Nodup/\∃ys:List (NK×Addr×Value),
 Paired (fun(p:NE) (q:NK×Addr×Value)=>p.1=q.1/\p.2.1=q.2.1/\RelV p.2.2 q.2.2) xs ys/\∃es ep,RawD h a es ep/\es.toList=ys.map (entryOfKey (nestKind P w))
section
variable{P:Program}{w:World}{H:Hp}{h:Heap}{a:Addr}{xs:List NE}
theorem j0P(z:xs.length<=sizeLine)(c:(a==sysModules)=false)(d:(xs.map (·.1)).Nodup){ys:List (NK×Addr×Value)}(r:Paired (fun(p:NE) (q:NK×Addr×Value)=>p.1=q.1/\p.2.1=q.2.1/\RelV p.2.2 q.2.2) xs ys)
  {es:Array DictEntry} {ep:Nat} (b:RawD h a es ep) (e:es.toList=ys.map (entryOfKey (nestKind P w))):ObjOk P w H h a (DNx P w a xs):=by
 refine⟨⟨z,c,d,ys,r,es,ep,b,e⟩,let ⟨o,ho,_⟩:=b;⟨o,ho⟩,?_⟩;rintro f g ⟨z,c,d,ys,r,es,ep,b,e⟩ k;exact⟨z,c,d,ys,r,es,ep,b.at' k,e⟩
def PNE(xs:List NE)(ys:List (NK×Addr×Value)):Prop:=Paired (fun(p:NE) (q:NK×Addr×Value)=>p.1=q.1/\p.2.1=q.2.1/\RelV p.2.2 q.2.2) xs ys
theorem PNE.keys:∀{xs:List NE} {ys:List (NK×Addr×Value)},PNE xs ys->ys.map (·.1)=xs.map (·.1)
 | _,_,.nil=>rfl
 | _,_,.cons r t=>by rw[uy,uy,r.1,PNE.keys t]
theorem PNE.length{xs:List NE}{ys:List (NK×Addr×Value)}(r:PNE xs ys):xs.length=ys.length:=by
 have:=congrArg List.length r.keys;rw[vt,vt]at this;exact this.symm
theorem PNE.snoc{k:NK}{b:Addr}{v:V}{u:Value}(a:RelV v u):∀{xs:List NE} {ys:List (NK×Addr×Value)},PNE xs ys->PNE (xs++[(k,b,v)]) (ys++[(k,b,u)])
 | _,_,.nil=>.cons ⟨rfl,rfl,a⟩ .nil
 | _,_,.cons r t=>.cons r (PNE.snoc a t)
theorem PNE.all{F:NK->Addr->Prop}:∀{xs:List NE} {ys:List (NK×Addr×Value)},PNE xs ys->(∀p∈xs,F p.1 p.2.1)->∀q∈ys,F q.1 q.2.1
 | _,_,.nil,_=>fun q b=>nomatch b
 | _,_,.cons (a:=x) r t,h=>fun q b=>by
  rcases mem_cons.mp b with rfl | b
  ·have:=h _ vq;rw[r.1,r.2.1]at this;exact this
  ·exact PNE.all t (fun p c=>h p (vp _ c)) q b
theorem PNE.fnd{k:NK}:∀{xs:List NE} {ys:List (NK×Addr×Value)},PNE xs ys->(∀p,xs.find? (fun p=>decide (p.1=k))=some p->∃u,atKey ys k=some (p.2.1,u)/\RelV p.2.2 u)/\(xs.find? (fun p=>decide (p.1=k))=none->atKey ys k=none)
 | _,_,.nil=>⟨fun p e=>by simp at e,fun _=>rfl⟩
 | _,_,.cons (a:=x) (b:=y) (l₂:=m) r t=>by
  obtain⟨d,f⟩:=PNE.fnd (k:=k) t;by_cases e:x.1=k
  ·have c:y.1=k:=r.1▸e;refine⟨fun p q=>?_,fun q=>?_⟩
   ·rw[List.find?_cons,vG e]at q;cases q;refine⟨y.2.2,?_,r.2.2⟩;unfold atKey;rw[List.find?_cons,vG c,r.2.1];rfl
   ·rw[List.find?_cons,vG e]at q;cases q
  ·have c:¬y.1=k:=r.1▸e;have z:atKey (y::m) k=atKey m k:=by
    unfold atKey;rw[List.find?_cons,vH c]
   refine⟨fun p q=>?_,fun q=>?_⟩
   ·rw[List.find?_cons,vH e]at q;rw[z];exact d p q
   ·rw[List.find?_cons,vH e]at q;rw[z];exact f q
end
section
variable{X:Cx}
def tDNewN(P:Program)(w:World):TE:=fun _ H Q=>∀p,H p=none->Q (.ref p) (upd H p (DNx P w p []))
theorem j1I{b:Pos}:PE X (.Dict [] [] b) (tDNewN X.prog X.w):=fun c s d H Q I h=>
 wpAny_Dict_empty ⟨.ref s.heap.objs.size,_,I.laid (a:=s.heap.objs.size) (o:=DNx X.prog X.w s.heap.objs.size []) (t':=s.toks) (fun _ _ q=>vJ _ q) (vb _)
  (j0P (va _) (beq_eq_false_iff_ne.mpr (Ne.symm (vE I.big))) nodup_nil .nil (es:=#[]) (ep:=0) ⟨_,Heap.get?_push_size _ rfl,⟨rfl,rfl,rfl⟩,rfl⟩ rfl),rfl,h _ (I.hok.fresh (vb _))⟩
theorem j1S{P:Program}{w:World}{a:St}{H:Hp}{Q:VK}(h:∀p,H p=none->Q (.ref p) (upd H p (DNx P w p []))):tDNewN P w a H Q:=h
theorem Xg{b:List (Addr×Obj)}{c:St}{H:Hp}{s:Shared}{a:Addr}{xs:List NE}(I:Inv X b c H s)(e:H a=some (DNx X.prog X.w a xs)):xs.length<=sizeLine/\(a==sysModules)=false/\(xs.map (·.1)).Nodup/\∃ys,PNE xs ys/\∃es ep,RawD s.heap a es ep/\es.toList=ys.map (entryOfKey (nestKind X.prog X.w)):=
 (show ObjOk X.prog X.w H s.heap a (DNx X.prog X.w a xs)from I.hok a _ e).1
def tSetN(P:Program)(w:World)(to:TE)(t:TA):TE:=fun σ H Q=>to σ H fun x H1=>∃a xs1,x = .ref a/\H1 a=some (DNx P w a xs1)/\t σ H1 fun vs H2=>∃(xs:List NE) (b:Addr) (k:NK) (v:V),vs=[.ref b,v]/\H2 a=some (DNx P w a xs)/\(∀p∈xs,NAt H2 p.2.1 p.1)/\NAt H2 b k/\xs.length<sizeLine/\
 (∀p,xs.find? (fun p=>decide (p.1=k))=some p->Q p.2.2 H2)/\(xs.find? (fun p=>decide (p.1=k))=none->Q v (upd H2 a (DNx P w a (xs++[(k,b,v)]))))
theorem j3f{o e:Expr}{es:List Expr}{to:TE}{t:TA}{f c:Pos}(hu:X.A.units+64<cLine)(ho:PE X o to)(ha:PA X (e::es) t)
  (i:attributeBase o "setdefault" X.env (eval o X.env)=eval o X.env:=by rfl)
  (y:((backTo c (starEach (e::es) X.env)).all (fun x=>!x.1)&&(backToKw c (keywordEach [] X.env)).all (fun x=>x.1.isSome)
   && decide ((e::es).length+([]:List Keyword).length+(if([]:List Keyword).isEmpty then 0 else 1)<30))=true:=by rfl)
  (l:(f.endLine==c.line)=true:=by rfl) (hs:starEach (e::es) X.env=(false,eval e X.env)::starEach es X.env:=by rfl) (d:(backTo c (starEach es X.env)).any (·.1)=false:=by rfl) :
  PE X (.Call (.Attribute o "setdefault" f) (e::es) [] c) (tSetN X.prog X.w to t):=by
 intro g s σ H Q I h;refine wpAny_Call_method_late i y l rfl (thn (ho g s σ H _ I h) fun v s1 ⟨x,H1,W,r1,a,a2,ex,e1,q1⟩=>?_);subst ex;cases r1;obtain⟨_,_,_,_,_,_,_,C,_⟩:=Xg W e1;refine⟨"dict","dict.setdefault",PySem.F.plainAttrs_dict,PySem.F.slot_dict_setdefault,PySem.F.type_dict_setdefault,C.typeIs,fun b eb=>?_,?_⟩
 ·cases eb;obtain⟨ob,h1,h2,_⟩:=C;exact⟨ob,h1,h2.2.1⟩
 have hA:=ha c g s1 σ H1 _ W q1;rw[hs]at hA|-;refine Calls.callWith_builtin (by show(false||(backTo c (starEach es X.env)).any (·.1))=false;rw[d]<;>rfl) (Calls.evalArgs_plain ?_);refine thn hA fun us T ⟨vs,H2,w,r2,U,b,k,v,ev,Y,E,nb,z,f1,f2⟩=>?_
 subst ev;cases r2 with
 | cons rb rr=>
  cases rb;obtain⟨u,rfl,ru⟩:=vals1 rr;obtain⟨z2,hd,hn,ys,r,J,ep,D,he⟩:=Xg w Y;have T2:=D.typeIs;obtain⟨o2,P,K,M⟩:=D;have dd:T.heap.DictOfH (nestKind X.prog X.w) a ys:=⟨o2,J,ep,P,K,M,he,fun q hq=>r.all (F:=fun k b=>IsN X.prog X.w T.heap k b) (fun p n=>j11 w.hok (E p n)) q hq,by rw[r.keys];exact hn⟩
  have ln:=r.length;obtain⟨Z,g2⟩:=r.fnd (k:=k);refine call_meetsIn PySem.F.slot_dict_setdefault T2 PySem.F.entry_dict_setdefault (PySem.F.args_dict_setdefault_3 _ _ _) (xO (knd:=nestKind X.prog X.w) a b hd u) ⟨by show X.A.units+1+60<cLine;lia,k,ys,j11 w.hok nb,dd,by lia,fun p n=>?_,fun no h' G R=>?_⟩
  ·cases j:U.find? (fun p=>decide (p.1=k))with
   | none=>rw[g2 j]at n;cases n
   | some p'=>
    obtain⟨u',m,S⟩:=Z p' j;rw[m]at n;cases n;exact⟨p'.2.2,H2,w.tok _,S,f1 p' j⟩
  ·have j:U.find? (fun p=>decide (p.1=k))=none:=by
    cases j:U.find? (fun p=>decide (p.1=k))with
    | none=>rfl
    | some p'=>
     obtain⟨u',m,_⟩:=Z p' j;rw[m]at no;cases no
   obtain⟨o3,a1,a0,B,L,N,O,_,A⟩:=G;rw[vj,r.keys]at A;refine⟨v,_,ZY (t':=T.toks+_) w (by rw[Y];exact True.intro) R ⟨_,B⟩ (j0P (by rw[vn,vS];lia) hd (by rw[vj];exact A) (r.snoc ru) ⟨o3,B,L,N⟩ O),ru,f2 j⟩
theorem j3o{P:Program}{w:World}{e:TE}{t:TA}{d:St}{H:Hp}{Q:VK} (h:e d H fun x H1=>∃a c,x = .ref a/\H1 a=some (DNx P w a c)/\t d H1 fun vs H2=>∃(xs:List NE) (b:Addr) (k:NK) (v:V),vs=[.ref b,v]/\H2 a=some (DNx P w a xs)/\(∀p∈xs,NAt H2 p.2.1 p.1)/\NAt H2 b k/\xs.length<sizeLine/\
 (∀p,xs.find? (fun p=>decide (p.1=k))=some p->Q p.2.2 H2)/\(xs.find? (fun p=>decide (p.1=k))=none->Q v (upd H2 a (DNx P w a (xs++[(k,b,v)]))))):tSetN P w e t d H Q:=h
theorem XX:CallR X (.builtin "len") (fun xs H Q=>∃a ys,xs=[V.ref a]/\H a=some (DNx X.prog X.w a ys)/\Q (.int ys.length) H):=by
 intro f s E H xs B Q I r h;obtain⟨a,ys,rfl,i,q⟩:=h;obtain⟨u,rfl,w⟩:=vals1 r;cases w;obtain⟨z,l,A,C,v,j,x,c,n⟩:=Xg I i;have T:=c.typeIs;obtain⟨o,p,y,b⟩:=c;have t:j.size=ys.length:=by rw[<-Array.length_toList,n,vt,v.length]
 have D:=sizeLine_eq;refine Calls.call_function_entry kind_len plain_len entry_len (args_len1 _) ?_;unfold Builtin.«len»;refine uf (m:=oneArg "len" _) (ue ?_);have d:wpAny (model X.prog X.w) X.A.in1 (callSpecial? (.ref a) (Str.ofString "__len__")) (fun r g=>r=some (.int ys.length s.toks)/\g={s with toks:=s.toks+1}) X.xe s:=by
  refine wpAny_callSpecial?_slot (name:=Str.ofString "__len__") T F.slot_dict_len (wpAny_call_entry F.slot_dict_len T F.entry_dict_len ?_ (F.args_dict_len_1 _));show wpAny _ _ (dictSize a >>= _) _ _ s;unfold dictSize;refine uf (uf (wpAny_dictEntries p b (ue ?_)));show wpAny _ _ (Builtin.Dict.pendingCount a >>= _) _ _ s;refine uf (wpAny_pendingCount_other l ?_);refine wpAny_ret_mkInt ?_;rw[Nat.add_zero,t];exact⟨rfl,rfl⟩
 refine uf (wpAny_mono d (fun r g k=>?_) fun _ _ e=>e);obtain⟨rfl,rfl⟩:=k;show wpAny _ _ _ _ _ {s with toks:=s.toks+1};refine uf (wpAny_holding (ue ?_));refine uf (wpAny_letGo ?_);show wpAny _ _ (if((ys.length:Nat):Int)<0 then _ else _) _ _ _;rw[vc (by lia)];show wpAny _ _ (if((ys.length:Nat):Int)>=2^63 then _ else _) _ _ _;rw[vc (by lia)];exact uf (wpAny_mkInt (ue ⟨_,rfl,.int ys.length,H,I.tok _,⟨_,rfl⟩,q⟩))
theorem W8(E:X.calm=true):CallR X (.type "list") (fun xs H Q=>∃(a:Addr) (ys:List NE),xs=[.ref a]/\H a=some (DNx X.prog X.w a ys)/\∀l,H l=none->Q (.ref l) (upd H l (.lst (ys.map fun q=>.ref q.2.1)))):=by
 intro w s R H xs P Q I r h;obtain⟨a,ys,rfl,B,q⟩:=h;obtain⟨u,rfl,L⟩:=vals1 r;cases L;obtain⟨z,F,O,g,k,es,ep,m,o⟩:=Xg I B;have K:es.size=ys.length:=by rw[<-Array.length_toList,o,vt,k.length]
 refine kdl_call (j3m (es:=es) (ep:=ep) F) (I.ok.hd E) m (by lia) fun C N b A G D c=>?_
 have M:Vals (ys.map fun q=>.ref q.2.1) b.toList:=XQ (by rw[Array.length_toList,vt,<-K];exact c.1) fun j u J=>by
  obtain⟨e,d,rfl⟩:=c.2 j u (by rw[<-Array.getElem?_toList];exact J);rw[<-Array.getElem?_toList,o,vv]at d;obtain⟨y,n,rfl⟩:=vg.mp d;have v:j<ys.length:=by rw[k.length];exact(vx.mp n).1
  have i:∀{xs:List NE} {g:List (NK×Addr×Value)} {j:Nat} {y:NK×Addr×Value} {x:NE},PNE xs g->g[j]?=some y->xs[j]?=some x->x.2.1=y.2.1:=by
   intro xs g j y x p
   induction p generalizing j with
   | nil=>intro e;simp at e
   | cons r t ih=>
    cases j with
    | zero=>intro d f;simp at d f;subst d f;exact r.2.1
    | succ j=>intro d f;exact ih (by simpa using d) (by simpa using f)
  refine⟨.ref ys[j].2.1,by rw[vv,vz v];rfl,?_⟩;rw[i k n (vz v)];rfl
 refine⟨.ref s.heap.objs.size,_,I.laid (t':=N) G (vb _) (show ObjOk X.prog X.w _ C _ (.lst (ys.map fun q=>.ref q.2.1))from⟨by rw[vt];exact z,b.toList,A,M,by rw[Array.toArray_toList];exact D⟩),rfl,q _ (I.hok.fresh (vb _))⟩
theorem xr{K:Frg}(e:X.K=K)(p:X.A.units+1<cLine):IxR X (fun x y H Q=>rIxL K x y H Q\/∃a v,x = .ref a/\DGet H a y (some v)/\Q v H):=by
 subst e;intro c b d s n H x y v u Q I l m h k;rcases h with h | ⟨a,t,rfl,g,q⟩
 ·exact jA c b d s n H x y v u Q I l m h k
 ·cases l;have T:=Yi I g;unfold subscriptTail;refine uf ?_;rw[getitemInPython_of_ne T.not_modules];refine uf (wpAny_specialOf T PySem.F.slot_dict_getitem.lookup ?_);have f:wpAny (model X.prog X.w) X.A (subscripted b false (.ref a) u) (fun r i=>wpAny (model X.prog X.w) X.A (letTemporaryGo c (.ref a) r >>= fun _=>pure r) (EP X d n Q) X.xe i) X.xe s:=by
   rw[k];exact wpAny_operating (Kq p I g m fun z w o j=>uf (wpAny_letTemporaryGo (ue ⟨t,H,o,j,q⟩)))
  first
   | exact ue (uf f)
   | exact uf (ue (uf f))
   | exact uf f
end
theorem intsK{P:Program}{w:World}:∀{ks:List Int} {us:List Value},us.length=ks.length->(∀(j:Nat) (u:Value) (k:Int),us[j]?=some u->ks[j]?=some k->(mixKind P w).is (Sum.inl k) u=true)->IntsAre us ks
 | [],[],_,_=>.nil
 | [],_::_,h,_=>by simp at h
 | _::_,[],h,_=>by simp at h
 | k::ks,u::us,h,q=>by
  obtain⟨t,rfl⟩:=Value.isInt_shape (k:=k) (q 0 u k rfl rfl);exact .cons k t (intsK (P:=P) (w:=w) (by simpa using h) fun j u k b a=>q (j+1) u k (by simpa using b) (by simpa using a))
theorem Zx{X:Cx}(hc:X.calm=true):CallR X (.builtin "sorted") (fun xs H Q=>∃(d:Addr) (kvs:List (Key×V)) (ks:List Int),xs=[.ref d]/\H d=some (.dK kvs)/\kvs.map (·.1)=ks.map Sum.inl/\ks.length<64/\∀(l:Addr) (ms:List Int),H l=none->ms.Perm ks->ms.Pairwise (·<=·)->Q (.ref l) (upd H l (.lst (ms.map V.int)))):=by
 intro O s σ H xs us Q I r h;obtain⟨d,kvs,ks,rfl,W,J,p,q⟩:=h;obtain⟨u,rfl,ru⟩:=vals1 r;cases ru;obtain⟨z1,v,B,R,n⟩:=YX I.hok W;obtain⟨ep,t⟩:=n.dictAt;have M:kvs.length=ks.length:=by have:=congrArg List.length J;rw[vt,vt]at this;exact this
 have vl:=R.length;refine Calls.call_function_entry kind_sorted plain_sorted entry_sorted (args_sorted1 _) ?_;unfold Builtin.«sorted»;refine uf (m:=checkCount "sorted" 1 1 _) (ue ?_);refine uf (kdu_collect (A:=X.A.in1) (kdl_dict (knd:=mixKind X.prog X.w) (kvs:=B) (ep:=ep) v) (I.ok.hd hc) t (by lia) fun i tk a c f=>?_);have D:a.toList.length=ks.length:=by rw[Array.length_toList,f.1,<-vl,M]
 have Y:IntsAre a.toList ks:=intsK (P:=X.prog) (w:=X.w) D fun j u k hu G=>by
  obtain⟨k',x,e,z⟩:=f.2 j u (by rw[<-Array.getElem?_toList];exact hu);have L:j<kvs.length:=by rw[M];exact(vx.mp G).1
  obtain⟨y,E,U,_⟩:=R.get (vz L);rw[e]at E;cases E;have F:(kvs.map (·.1))[j]?=some k':=by rw[vv,vz L];exact congrArg some U
  rw[J,vv,G]at F;cases F;exact z
 refine uf (wpAny_newList ?_ (by rw[D,sizeLine_eq];lia));have g:(i.push (seqObj "list" a.toList.toArray 0)).get? i.objs.size=some (seqObj "list" a.toList.toArray 0):=Heap.get?_push_size _ rfl;refine uf (wpAny_holding (wpAny_call_entry slot_list_sort ⟨_,g,rfl⟩ entry_list_sort (list_sort_tree g Y (by lia) fun out ms S C T=>⟨_,rfl,?_⟩) (args_list_sort _)));refine ue ⟨_,rfl,?_⟩;have ml:ms.length=ks.length:=C.length_eq;have K:=I.none_at c;have Z:=I.newB c;have k2:∀b o,s.heap.get? b=some o->(sortedHeap (i.push (seqObj "list" a.toList.toArray 0)) i.objs.size a.toList out).get? b=some o:=fun b o e=>by
  have N:=vI (c b o e);rw[sortedHeap_old (vE N) (by rw[size_push'];exact Nat.lt_succ_of_lt N)];exact vJ _ (c b o e)
 obtain⟨e',he⟩:=sortedHeap_at (out:=out) g;refine⟨.ref i.objs.size,_,(I.kept (t':=tk) k2).track K Z (show ObjOk X.prog X.w _ _ _ (.lst (ms.map V.int))from⟨by rw[vt];exact vW (vY (ml▸p)) (by decide),out.toList,_,j2l S,by rw[Array.toArray_toList];exact he⟩),rfl,q _ ms K C T⟩
section
variable{H:Hp}
theorem NVs.inj:∀{vs:List V} {x y:NK},NVs H vs x->NVs H vs y->x=y
 | _,_,_,.nil,q=>by cases q;rfl
 | _,_,_,.key (k:=k) r,q=>by
  generalize e:kV k=v at q;cases q with
  | key t=>rw[j13 e,r.inj t]
  | tup h t=>cases k<;>cases e
 | _,_,_,.tup (b:=b) h r,q=>by
  generalize e:V.ref b=v at q;cases q with
  | @key k _ _ t=>cases k<;>cases e
  | tup h' t=>
   cases e;rw[h]at h';injection h' with h';injection h' with h';rw[Xq h',r.inj t]
theorem NAt.inj{a:Addr}{x y:NK}(p:NAt H a x)(q:NAt H a y):x=y:=by
 obtain⟨d,e,n⟩:=p;obtain⟨c,b,m⟩:=q;rw[e]at b;cases b;exact n.inj m
theorem wp{P c:Program}{w d:World}{h:Heap}(b:HOk P w H h):∀{vs:List V} {ks:NK} {us:List Value},NVs H vs ks->Vals vs us->ItN c d h ks us
 | _,_,_,.nil,r=>by cases r;exact .nil
 | _,_,_,.key t,r=>by
  cases r with
  | cons r1 r2=>exact .key (Y4 (P:=c) (w:=d) r1) (wp b t r2)
 | _,_,_,.tup e t,r=>by
  cases r with
  | cons r1 r2=>
   cases r1;obtain⟨_,a,j,o,f,g,n,i⟩:=(show ObjOk P w H h _ (.tup _)from b _ _ e)
   exact .tup ⟨o,a.toArray,n,f,g,i,by simpa using yN j⟩ (wp b t r2)
theorem Xn{P d:Program}{w k:World}{h:Heap}{b:Addr}{ks:NK}(c:HOk P w H h)(x:NAt H b ks):IsN d k h ks b:=by
 obtain⟨j,e,n⟩:=x;obtain⟨_,a,r,o,f,g,m,i⟩:=(show ObjOk P w H h b (.tup j)from c b _ e)
 exact⟨o,a.toArray,m,f,g,i,by simpa using wp c n r⟩
end
section
variable{X:Cx}
theorem eqAtN{P:Program}{w:World}{H:Hp}{A:Around}{s:Shared}{a b:Addr}{x y:NK}(e:A.units+60<cLine)(c:HOk P w H s.heap)(p:NAt H a x)(q:NAt H b y):SeqAt.EqAt A s (.ref a) (.ref b) (decide (x=y)):=
 fun _ _ _ _ d=>j4Z e (Xn c p) (Xn c q) d
noncomputable def memN(k:NK)(ks:List NK):Bool:=ks.any fun x=>decide (x=k)
theorem j1d{k:NK}{ks:List NK}:memN k ks=true↔k∈ks:=by
 unfold memN;rw[any_eq_true];exact⟨fun⟨x,a,e⟩=>(of_decide_eq_true e)▸a,fun h=>⟨k,h,vG rfl⟩⟩
open Classical in
theorem xZ{H:Hp}{k:NK}:∀{as:List Addr} {ks:List NK},as.length=ks.length->(∀(i:Nat) (a:Addr) (x:NK),as[i]?=some a->ks[i]?=some x->NAt H a x)->(as.map Value.ref).any (fun u=>decide (∃a,u = .ref a/\NAt H a k))=memN k ks
 | [],[],_,_=>rfl
 | [],_::_,h,_=>by simp at h
 | _::_,[],h,_=>by simp at h
 | a::as,x::ks,h,q=>by
  have g:=xZ (H:=H) (k:=k) (as:=as) (ks:=ks) (by simpa using h) fun i a x d f=>q (i+1) a x (by simpa using d) (by simpa using f)
  have c:=q 0 a x rfl rfl;rw[uy,any_cons,g];show _=(decide (x=k)||memN k ks)
  have e:decide (∃b,Value.ref a = .ref b/\NAt H b k)=decide (x=k):=by
   rw[decide_eq_decide];constructor
   ·rintro⟨b,e,n⟩;cases e;exact c.inj n
   ·intro e;exact⟨a,rfl,e▸c⟩
  rw[e]
def rInN(f:Bool->Bool):R2:=fun x y H Q=>∃(b l:Addr) (k:NK) (as:List Addr) (ks:List NK),x = .ref b/\y = .ref l/\H l=some (.lst (as.map V.ref))/\as.length=ks.length/\(∀(i:Nat) (a:Addr) (x:NK),as[i]?=some a->ks[i]?=some x->NAt H a x)/\NAt H b k/\Q (.bl (f (memN k ks))) H
open Classical in
theorem j2L{c:List (Addr×Obj)}{j:St}{H:Hp}{s:Shared}(o:X.A.units+64<cLine)(I:Inv X c j H s){b:Addr}{k:NK}{as:List Addr}{ks:List NK}(m:as.length=ks.length)(g:∀(i:Nat) (a:Addr) (x:NK),as[i]?=some a->ks[i]?=some x->NAt H a x)(f:NAt H b k)(w:Value)(hw:w∈as.map Value.ref):SeqAt.EqAt X.A.in1 s w (.ref b) (decide (∃a,w = .ref a/\NAt H a k)):=by
 obtain⟨i,d,e⟩:=mem_iff_getElem.mp hw;rw[getElem_map]at e;rw[vt]at d;subst e;have n:=g i _ _ (vz d) (vz (by lia));have z:=eqAtN (A:=X.A.in1) (by show X.A.units+1+60<cLine;lia) I.hok n f;have e:decide (∃a,Value.ref as[i] = .ref a/\NAt H a k)=decide (ks[i]'(by lia)=k):=by
  rw[decide_eq_decide];constructor
  ·rintro⟨l,e,h⟩;cases e;exact n.inj h
  ·rintro e;exact⟨_,rfl,e▸n⟩
 rw[e];exact z
theorem j4m(i:X.A.units+64<cLine):OpR X (compareOp .In) (rInN id):=by
 intro d s B H x y v u Q I o p h;obtain⟨b,l,k,t,A,rfl,rfl,f,a,c,g,q⟩:=h;cases o;cases p;obtain⟨m,r,n,z⟩:=I.list (SqL.of f);have e:=Zs r;subst e;refine SeqAt.in_listAt _ n.isList (fun w j=>j2L i I a c g w (by simpa using j)) ⟨.bl _,H,I,rfl,?_⟩;rw[List.any_toArray,xZ a c];exact q
end
section
variable{X:Cx}{tg:Expr}
end
end L2
namespace Nm
open PySem PySem.Spec PyProof.Rows L2
end Nm
namespace Rm
open PySem PySem.Spec PyProof.Rows L2
inductive Gv where
 | smp (r:Bool) (vs:List V) | rise (x h n:V) | again (k x:V) | many (s:Bool) (xs:List V)
noncomputable def GAt(H:Hp)(a:Addr):Gv->Prop
 | .smp r vs=>H a=some (.tup (.str (if r then "ring" else "hold")::vs))
 | .rise x h n=>H a=some (.tup [.str "raise",x,h,n])
 | .again k x=>H a=some (.tup [.str "again",k,x])
 | .many s xs=>∃b,H a=some (.tup [.str (if s then "side" else "row"),.ref b])/\H b=some (.tup xs)
theorem GAt.same{H H':Hp}{a:Addr}{g:Gv}(s:Same H H')(h:GAt H a g):GAt H' a g:=by
 cases g with
 | smp r vs=>exact s _ _ h
 | rise x g n=>exact s _ _ h
 | again k x=>exact s _ _ h
 | many t xs=>obtain⟨b,c,d⟩:=h;exact⟨b,s _ _ c,s _ _ d⟩
theorem GAt.tups{H H':Hp}{a:Addr}{g:Gv}(s:∀b xs,H b=some (.tup xs)->H' b=some (.tup xs))(h:GAt H a g):GAt H' a g:=by
 cases g with
 | smp r vs=>exact s _ _ h
 | rise x g n=>exact s _ _ h
 | again k x=>exact s _ _ h
 | many t xs=>obtain⟨b,c,d⟩:=h;exact⟨b,s _ _ c,s _ _ d⟩
def Itm(H:Hp)(l:Addr)(x y:V):Prop:=(∃xs i,H l=some (.lst xs)/\x = .int i/\atI xs i=some y)\/DGet H l x (some y)
theorem wt{K:Frg}{H:Hp}{l:Addr}{x y:V}{Q:VK}(h:Itm H l x y)(q:Q y H):rIxL K (.ref l) x H Q\/∃a v,V.ref l = .ref a/\DGet H a x (some v)/\Q v H:=by
 rcases h with⟨b,i,e,rfl,h⟩ | h
 ·exact .inl ⟨l,b,i,y,rfl,rfl,SqL.of e,h,q⟩
 ·exact .inr ⟨l,y,rfl,h,q⟩
theorem Itm.same{H H':Hp}{l:Addr}{x y:V}(s:Same H H')(h:Itm H l x y):Itm H' l x y:=by
 rcases h with⟨g,i,e,rfl,h⟩ | h
 ·exact .inl ⟨g,i,s _ _ e,rfl,h⟩
 ·refine .inr ?_;rcases h with⟨a,k,e,c,d⟩ | ⟨a,k,b,e,c,d,f⟩
  ·exact .inl ⟨a,k,e.imp (fun e=>s _ _ e) fun⟨o,e⟩=>⟨o,s _ _ e⟩,c,d⟩
  ·exact .inr ⟨a,k,b,e.imp (fun e=>s _ _ e) fun⟨o,e⟩=>⟨o,s _ _ e⟩,c,s _ _ d,f⟩
noncomputable def GMap(H:Hp)(l p:Addr):Gv->Gv->Prop
 | .smp r vs,g=>g = .smp r vs
 | .rise x h n,g=>∃y,Itm H l x y/\g = .rise y h n
 | .again k x,g=>∃y,Itm H p x y/\g = .again k y
 | .many s xs,g=>∃ys,ys.length=xs.length/\(∀(i:Nat) (x y:V),xs[i]?=some x->ys[i]?=some y->Itm H p x y)/\xs.length<=8/\g = .many s ys
inductive sp_formW(vs:List V)(H:Hp)(Q:VK)(xk:XK):Prop
 | mk (a l p:Addr) (g g':Gv) (_:vs=[.ref a,.ref l,.ref p]) (_:GAt H a g) (_:GMap H l p g g') (_:∀(b:Addr) (H':Hp),Same H H'->GAt H' b g'->Q (.ref b) H'):sp_formW vs H Q xk
noncomputable def Gv.ns:Gv->List V
 | .again _ x=>[x]
 | .many _ xs=>xs
 | _=>[]
inductive sp_namesG(vs:List V)(H:Hp)(Q:VK)(xk:XK):Prop
 | mk (a:Addr) (g:Gv) (_:vs=[.ref a]) (_:GAt H a g) (_:∀(b:Addr) (H':Hp),Same H H'->H' b=some (.tup g.ns)->Q (.ref b) H'):sp_namesG vs H Q xk
noncomputable def gF:Fm->Gv
 | .hold n=>.smp false [.int n]
 | .ring x n=>.smp true [.str x,.int n]
 | .rise x h n=>.rise (.str x) (.int h) (.int n)
 | .row ps=>.many false (ps.map V.str)
 | .side ps=>.many true (ps.map V.str)
 | .again k x=>.again (.int k) (.str x)
theorem Wo{H:Hp}{a:Addr}{f:Fm}:FormAt H a f↔GAt H a (gF f):=by
 cases f<;>exact Iff.rfl
inductive Dm where
 | hold (n:Int) | ring (x:Str) (n:Int) | rise (l:Nat) (h n:Int) | row (ps:List Nat) | side (ps:List Nat) | again (k:Int) (p:Nat)
 deriving DecidableEq
noncomputable def gD:Dm->Gv
 | .hold n=>.smp false [.int n]
 | .ring x n=>.smp true [.str x,.int n]
 | .rise l h n=>.rise (.int l) (.int h) (.int n)
 | .row ps=>.many false (ps.map vN)
 | .side ps=>.many true (ps.map vN)
 | .again k p=>.again (.int k) (.int p)
noncomputable def Dm.ns:Dm->List Nat
 | .row ps=>ps
 | .side ps=>ps
 | .again _ p=>[p]
 | _=>[]
theorem j0X(d:Dm):(gD d).ns=d.ns.map vN:=by cases d<;>rfl
noncomputable def iK(n:Nat):Key:=Sum.inl (n:Int)
noncomputable def kD:Dm->NK
 | .hold n=>[Sum.inl (Sum.inr "hold"),Sum.inl (Sum.inl n)]
 | .ring x n=>[Sum.inl (Sum.inr "ring"),Sum.inl (Sum.inr x),Sum.inl (Sum.inl n)]
 | .rise l h n=>[Sum.inl (Sum.inr "raise"),Sum.inl (iK l),Sum.inl (Sum.inl h),Sum.inl (Sum.inl n)]
 | .row ps=>[Sum.inl (Sum.inr "row"),Sum.inr (ps.map iK)]
 | .side ps=>[Sum.inl (Sum.inr "side"),Sum.inr (ps.map iK)]
 | .again k p=>[Sum.inl (Sum.inr "again"),Sum.inl (Sum.inl k),Sum.inl (iK p)]
theorem wm:∀{a b:List Nat},a.map iK=b.map iK->a=b
 | [],[],_=>rfl
 | [],_::_,h=>by simp at h
 | _::_,[],h=>by simp at h
 | x::a,y::b,h=>by
  rw[uy,uy]at h;injection h with h1 h2;have:(x:Int)=y:=Sum.inl.inj h1;rw[wm h2,show x=y by lia]
theorem qL{x y:Str}{r s:NK}(h:(Sum.inl (Sum.inr x):NI)::r=Sum.inl (Sum.inr y)::s):x=y/\r=s:=by
 injection h with h1 h2;exact⟨Sum.inr.inj (Sum.inl.inj h1),h2⟩
theorem j12{d e:Dm}(h:kD d=kD e):d=e:=by
 cases d with
 | hold n=>
  cases e with
  | hold m=>
   have:=(qL h).2;injection this with h1;rw[Sum.inl.inj (Sum.inl.inj h1)]
  | _=>exact ud (qL h).1 (by decide +kernel)
 | ring x n=>
  cases e with
  | ring y m=>
   have:=(qL h).2;injection this with h1 h2;injection h2 with h2;rw[Sum.inl.inj (Sum.inl.inj h2),Sum.inr.inj (Sum.inl.inj h1)]
  | _=>exact ud (qL h).1 (by decide +kernel)
 | rise l v n=>
  cases e with
  | rise l' v' m=>
   have:=(qL h).2;injection this with h1 h2;injection h2 with h2 h3;injection h3 with h3;have e:(l:Int)=l':=Sum.inl.inj (Sum.inl.inj h1);rw[Sum.inl.inj (Sum.inl.inj h2),Sum.inl.inj (Sum.inl.inj h3),show l=l' by lia]
  | _=>exact ud (qL h).1 (by decide +kernel)
 | row ps=>
  cases e with
  | row qs=>
   have:=(qL h).2;injection this with h1;rw[wm (Sum.inr.inj h1)]
  | _=>exact ud (qL h).1 (by decide +kernel)
 | side ps=>
  cases e with
  | side qs=>
   have:=(qL h).2;injection this with h1;rw[wm (Sum.inr.inj h1)]
  | _=>exact ud (qL h).1 (by decide +kernel)
 | again k p=>
  cases e with
  | again k' p'=>
   have:=(qL h).2;injection this with h1 h2;injection h2 with h2;have e:(p:Int)=p':=Sum.inl.inj (Sum.inl.inj h2);rw[Sum.inl.inj (Sum.inl.inj h1),show p=p' by lia]
  | _=>exact ud (qL h).1 (by decide +kernel)
theorem XO(ps:List Nat):(ps.map iK).map kV=ps.map vN:=by rw[v8];rfl
theorem wC{H:Hp}{a:Addr}{d:Dm}(h:GAt H a (gD d)):NAt H a (kD d):=by
 cases d with
 | hold n=>exact⟨_,h,.key (k:=Sum.inr "hold") (.key (k:=Sum.inl n) .nil)⟩
 | ring x n=>exact⟨_,h,.key (k:=Sum.inr "ring") (.key (k:=Sum.inr x) (.key (k:=Sum.inl n) .nil))⟩
 | rise l v n=>exact⟨_,h,.key (k:=Sum.inr "raise") (.key (k:=Sum.inl (l:Int)) (.key (k:=Sum.inl v) (.key (k:=Sum.inl n) .nil)))⟩
 | row ps=>obtain⟨b,c,e⟩:=h;exact⟨_,c,.key (k:=Sum.inr "row") (.tup (by rw[XO];exact e) .nil)⟩
 | side ps=>obtain⟨b,c,e⟩:=h;exact⟨_,c,.key (k:=Sum.inr "side") (.tup (by rw[XO];exact e) .nil)⟩
 | again k p=>exact⟨_,h,.key (k:=Sum.inr "again") (.key (k:=Sum.inl k) (.key (k:=Sum.inl (p:Int)) .nil))⟩
noncomputable def wiF(lx px:List Str)(ns:List Nat):Fm->Dm
 | .hold n=>.hold n
 | .ring x n=>.ring x n
 | .rise x h n=>.rise (ixOf lx x) h n
 | .row qs=>.row (qs.map fun x=>ns.getD (ixOf px x) 0)
 | .side qs=>.side (qs.map fun x=>ns.getD (ixOf px x) 0)
 | .again k x=>.again k (ns.getD (ixOf px x) 0)
noncomputable def stepM(lx px:List Str)(st:List Dm×List Nat)(p:Str×Fm):List Dm×List Nat:=
 let d:=wiF lx px st.2 p.2
 if d∈st.1 then(st.1,st.2++[st.1.idxOf d])else(st.1++[d],st.2++[st.1.length])
noncomputable def madeM(lx px:List Str)(ps:List (Str×Fm)):List Dm×List Nat:=ps.foldl (stepM lx px) ([],[])
theorem Jg(lx px:List Str)(ps:List (Str×Fm))(p:Str×Fm):madeM lx px (ps++[p])=stepM lx px (madeM lx px ps) p:=by
 unfold madeM;rw[foldl_append];rfl
structure MkOk(ks:List Dm)(ns:List Nat)(n:Nat):Prop where
 nd:ks.Nodup
 ln:ns.length=n
 lk:ks.length<=n
 lt:∀k∈ns,k<ks.length
theorem Z7(lx px:List Str):∀(n:Nat) (ps:List (Str×Fm)),ps.length=n->MkOk (madeM lx px ps).1 (madeM lx px ps).2 n
 | 0,ps,h=>by
  rw[List.length_eq_zero_iff.mp h];exact⟨nodup_nil,rfl,vb _,fun k h=>nomatch h⟩
 | n+1,ps,h=>by
  obtain⟨b,p,rfl⟩:∃b p,ps=b++[p]:=⟨ps.dropLast,ps.getLast (fun z=>by rw[z]at h;cases h),(List.dropLast_concat_getLast _).symm⟩
  rw[vn,vS]at h;obtain⟨e,c,i,d⟩:=Z7 lx px n b (by lia);rw[Jg];generalize madeM lx px b=st at e c i d;unfold stepM;dsimp only;split
  ·rename_i hd;refine⟨e,by rw[vn,c];rfl,by show st.1.length<=n+1;lia,fun k a=>?_⟩;rcases vh.mp a with a | a
   ·exact d k a
   ·rw[vo.mp a];exact idxOf_lt_length_of_mem hd
  ·rename_i hd;refine⟨nodup_append.mpr ⟨e,by simp,fun x f y g z=>hd (by rw[<-vo.mp g,<-z];exact f)⟩,by rw[vn,c];rfl,by show(st.1++[_]).length<=n+1;rw[vn,vS];lia,fun k a=>?_⟩;show k<(st.1++[_]).length;rw[vn,vS];rcases vh.mp a with a | a
   ·have:=d k a;lia
   ·rw[vo.mp a];lia
def EnAt(H:Hp)(xs:List NE)(ks:List Dm):Prop:=xs.length=ks.length/\∀(i:Nat) (d:Dm),ks[i]?=some d->∃a,xs[i]?=some (kD d,a,.int i)/\GAt H a (gD d)
theorem EnAt.tups{H H':Hp}{xs:List NE}{ks:List Dm}(e:EnAt H xs ks)(s:∀b xs,H b=some (.tup xs)->H' b=some (.tup xs)):EnAt H' xs ks:=⟨e.1,fun i d h=>let ⟨a,h1,h2⟩:=e.2 i d h;⟨a,h1,h2.tups s⟩⟩
theorem EnAt.nat{H:Hp}{xs:List NE}{ks:List Dm}(e:EnAt H xs ks):∀p∈xs,NAt H p.2.1 p.1:=fun p g=>by
 obtain⟨i,f,c⟩:=mem_iff_getElem.mp g;have l:=e.1;obtain⟨a,b,d⟩:=e.2 i _ (vz (by lia));rw[vz f,c]at b;cases b;exact wC d
theorem EnAt.snoc{H:Hp}{xs:List NE}{ks:List Dm}(e:EnAt H xs ks){a:Addr}{d:Dm}(h:GAt H a (gD d)):EnAt H (xs++[(kD d,a,.int (ks.length:Nat))]) (ks++[d]):=by
 have l:=e.1;refine⟨by rw[vn,vn,l];rfl,fun i f b=>?_⟩;rcases Nat.lt_or_ge i ks.length with z | z
 ·rw[vB z]at b;obtain⟨c,j,k⟩:=e.2 i f b;exact⟨c,by rw[vB (by lia)];exact j,k⟩
 ·rw[vC z]at b;have g:i=ks.length:=by
   have:=(vx.mp b).1;rw[vS]at this;lia
  subst g;rw[uo]at b;cases b;exact⟨a,by rw[<-l,vC (vb _),uo];rfl,h⟩
theorem EnAt.found{H:Hp}{xs:List NE}{ks:List Dm}{d:Dm}(e:EnAt H xs ks)(r:ks.Nodup) :
  (∀p,xs.find? (fun p=>decide (p.1=kD d))=some p->d∈ks/\p.2.2 = .int (ks.idxOf d:Nat))/\(xs.find? (fun p=>decide (p.1=kD d))=none->d∉ks):=by
 have l:=e.1;refine⟨fun p j=>?_,fun q o=>?_⟩
 ·have k:=List.find?_some j;have m:=List.mem_of_find?_eq_some j;obtain⟨i,f,c⟩:=mem_iff_getElem.mp m;have g:i<ks.length:=by lia
  obtain⟨a,b,n⟩:=e.2 i _ (vz g);rw[vz f,c]at b;cases b;have h:ks[i]=d:=j12 (of_decide_eq_true k);refine⟨h▸getElem_mem g,?_⟩;show V.int _=V.int _;rw[<-h,r.idxOf_getElem i g]
 ·obtain⟨i,f,c⟩:=mem_iff_getElem.mp o;obtain⟨a,b,n⟩:=e.2 i _ (vz f);have:=List.find?_eq_none.mp q _ (vm b);rw[c]at this;exact this (vG rfl)
noncomputable def numV(xs:List Str)(ns:List Nat):List (Key×V):=(xs.zip ns).map fun q=>(Sum.inr q.1,vN q.2)
theorem KE{xs:List Str}{a:List Nat}{x:Str}{n:Nat}(h:xs.length=a.length):numV (xs++[x]) (a++[n])=numV xs a++[(Sum.inr x,vN n)]:=by
 unfold numV;rw[List.zip_append h,vj];rfl
theorem j1t{xs:List Str}{a:List Nat}(h:xs.length=a.length):(numV xs a).length=xs.length:=by
 unfold numV;rw[vt,length_zip];lia
theorem KD{xs:List Str}{a:List Nat}(h:xs.length=a.length):(numV xs a).map (·.1)=xs.map Sum.inr:=by
 unfold numV;rw[v8];show(xs.zip a).map (fun q=>Sum.inr q.1)=_;rw[show(fun q:Str×Nat=>(Sum.inr q.1:Key))=Sum.inr∘Prod.fst from rfl,<-v8,List.map_fst_zip (by lia)]
def DrAt(H:Hp)(as:List Addr)(ks:List Dm):Prop:=All2 (fun a d=>GAt H a (gD d)) as ks
inductive sp_made(vs:List V)(H:Hp)(Q:VK)(xk:XK):Prop
 | mk (b pl pp:Addr) (las pas:List Addr) (ls:List (Str×Int)) (ps:List (Str×Fm)) (_:vs=[.ref b]) (_:BookAt H b pl pp las pas ls ps) (_:WfB ls ps) (_:1<=ps.length) (_:∀(t f:Addr) (fas:List Addr) (H':Hp),Same H H'->H' t=some (.tup [.ref f,vN ((madeM (nmsOf ls) (nmsOf ps) ps).2.getD (ps.length-1) 0)])->H' f=some (.lst (fas.map V.ref))->DrAt H' fas (madeM (nmsOf ls) (nmsOf ps) ps).1->Q (.ref t) H'):sp_made vs H Q xk
theorem WC{xs:List Str}{a:List Nat}(h:xs.length=a.length)(b:xs.Nodup){j:Nat}{x:Str}(e:xs[j]?=some x):valV (numV xs a) (Sum.inr x)=some (vN (a.getD j 0)):=by
 have c:=(vx.mp e).1;refine kM (j:=j) (by rw[KD h];exact pairwise_map.mpr (b.imp fun h e=>h (Sum.inr.inj e))) ?_;unfold numV;rw[vv,List.getElem?_zip_eq_some.mpr (show xs[j]?=some (x,a[j]).1/\a[j]?=some (x,a[j]).2 from⟨e,vz (by lia)⟩),vy,vz (by lia)];rfl
theorem j1p{H:Hp}{d:Addr}{px:List Str}{a:List Nat}{i:Nat}(hi:i<=px.length)(h:a.length=i)(c:px.Nodup)(e:H d=some (.dK (numV (px.take i) a))){x:Str}{j:Nat}(f:j<i)(b:px[j]?=some x):Itm H d (.str x) (vN (a.getD (ixOf px x) 0)):=by
 rw[j4 c b];refine .inr ?_;have g:=DGet.k (k:=Sum.inr x) e;rw[WC (j:=j) (by rw[vi];lia) (List.Nodup.sublist (take_sublist _ _) c) (by rw[List.getElem?_take,vd f];exact b)]at g;exact g
theorem j1a{H:Hp}{d l:Addr}{ls:List (Str×Int)}{ps:List (Str×Fm)}{e:List Nat}{i:Nat}{p:Str×Fm}(W:WfB ls ps)(o:ps[i]?=some p)(t:e.length=i)(C:H d=some (.dK (numK (nmsOf ls))))(r:H l=some (.dK (numV ((nmsOf ps).take i) e))) :
  GMap H d l (gF p.2) (gD (wiF (nmsOf ls) (nmsOf ps) e p.2)):=by
 have G:=(vx.mp o).1;have A:i<=(nmsOf ps).length:=by rw[nmsOf,vt];lia
 obtain⟨q,B⟩:=W.f i p o;have b:∀(s:Bool) (a:List Str),(∀x∈a,∃j,j<i/\(nmsOf ps)[j]?=some x)->a.length<=8->GMap H d l (.many s (a.map V.str)) (.many s ((a.map fun x=>e.getD (ixOf (nmsOf ps) x) 0).map vN)):=fun s a E D=>by
  refine⟨_,by rw[vt,vt,vt],fun k x y u v=>?_,by rw[vt];exact D,rfl⟩;rw[vv]at u;obtain⟨z,w,rfl⟩:=vg.mp u;rw[vv,vv,w]at v;cases v;obtain⟨j,c,m⟩:=E z (vm w);exact j1p A t W.pn r c m
 obtain⟨F,f⟩:=p;cases f with
 | hold n=>rfl
 | ring x n=>rfl
 | rise x h n=>
  obtain⟨j,c⟩:=W.r i F x h n o;refine⟨vN j,.inr ?_,?_⟩
  ·have g:=DGet.k (k:=Sum.inr x) C;rw[Z9 W.ln c]at g;exact g
  ·show Gv.rise (.int (ixOf (nmsOf ls) x:Nat)) _ _=_;rw[j4 W.ln c];rfl
 | row a=>exact b false a q B
 | side a=>exact b true a q B
 | again k x=>
  obtain⟨j,c,m⟩:=q x vq;exact⟨_,j1p A t W.pn r c m,rfl⟩
theorem j0E{xs:List V}{n:Nat}{v:V}(h:1<=n)(e:xs.length=n)(a:xs[n-1]?=some v):atI xs (-1)=some v:=by
 have:xs=xs.take (n-1)++[v]:=by
  rw[<-take_snoc a,show n-1+1=xs.length by lia,v7]
 rw[this];exact j0D _ _
theorem DrAt.of{H:Hp}{xs:List NE}{ks:List Dm}(e:EnAt H xs ks):DrAt H (xs.map fun q=>q.2.1) ks:=by
 refine⟨by rw[vt];exact e.1,fun i a d b g=>?_⟩;obtain⟨h,c,f⟩:=e.2 i d g;rw[vv,c]at b;cases b;exact f
inductive Rc(ks:List Dm)(t:Nat):Nat->Prop
 | top:Rc ks t t
 | sub {y x:Nat}:Rc ks t y->x∈(ks.getD y (.hold 0)).ns->Rc ks t x
structure Dwn(ks:List Dm):Prop where
 lt:∀(i:Nat) (d:Dm),ks[i]?=some d->∀j∈d.ns,j<i
 l8:∀d∈ks,d.ns.length<=8
theorem Dwn.get{ks:List Dm}(D:Dwn ks){i j:Nat}(h:j∈(ks.getD i (.hold 0)).ns):j<i/\i<ks.length:=by
 rw[vy]at h;cases e:ks[i]? with
 | none=>rw[e]at h;exact nomatch h
 | some d=>rw[e]at h;exact⟨D.lt i d e j h,(vx.mp e).1⟩
theorem Rc.le{ks:List Dm}{t x:Nat}(D:Dwn ks)(h:Rc ks t x):x<=t:=by
 induction h with
 | top=>exact vb _
 | sub _ hm ih=>have:=(D.get hm).1;lia
theorem j3R(lx px:List Str)(a:List Nat)(f:Fm):(wiF lx px a f).ns=f.ns.map fun x=>a.getD (ixOf px x) 0:=by cases f<;>rfl
theorem j1h{ls:List (Str×Int)}{ps:List (Str×Fm)}(W:WfB ls ps):∀n,n<=ps.length->Dwn (madeM (nmsOf ls) (nmsOf ps) (ps.take n)).1
 | 0,_=>⟨fun i d h=>by simp[madeM]at h,fun d h=>by simp[madeM]at h⟩
 | n+1,hn=>by
  have g:ps[n]?=some ps[n]:=vz hn;obtain⟨f,e⟩:=j1h W n (by lia);have M:=Z7 (nmsOf ls) (nmsOf ps) n (ps.take n) (by rw[vi];lia);rw[take_snoc g,Jg];generalize madeM (nmsOf ls) (nmsOf ps) (ps.take n)=st at f e M;obtain⟨q,p⟩:=W.f n _ g;unfold stepM;dsimp only;split
  ·exact⟨f,e⟩
  ·refine⟨fun i d h j b=>?_,fun d a=>?_⟩
   ·rcases Nat.lt_or_ge i st.1.length with z | z
    ·rw[vB z]at h;exact f i d h j b
    ·rw[vC z]at h;have l:i-st.1.length=0:=by
      have:=(vx.mp h).1;rw[vS]at this;lia
     rw[l]at h;cases h;rw[j3R]at b;obtain⟨x,o,rfl⟩:=vK.mp b;obtain⟨k,c,m⟩:=q x o;rw[j4 W.pn m,vy,vz (by rw[M.ln];exact c)];have:=M.lt _ (getElem_mem (by rw[M.ln];exact c):st.2[k]'(by rw[M.ln];exact c)∈st.2);show st.2[k]'_<i;lia
   ·rcases vh.mp a with a | a
    ·exact e d a
    ·rw[vo.mp a,j3R,vt];exact p
noncomputable def putS(S:List Nat)(x:Nat):List Nat:=if x∈S then S else S++[x]
noncomputable def addS(S xs:List Nat):List Nat:=xs.foldl putS S
theorem j1g{S:List Nat}{x y:Nat}:y∈putS S x↔y∈S\/y=x:=by
 unfold putS;split
 ·rename_i h;exact⟨.inl,fun z=>z.elim id fun e=>e▸h⟩
 ·simp
theorem qj:∀{xs S:List Nat} {y:Nat},y∈addS S xs↔y∈S\/y∈xs
 | [],S,y=>by simp[addS]
 | x::xs,S,y=>by
  show y∈addS (putS S x) xs↔_;rw[qj,j1g,mem_cons,or_assoc]
theorem j2Y{S:List Nat}(c:S.Nodup)(x:Nat):(putS S x).Nodup:=by
 unfold putS;split
 ·exact c
 ·rename_i h;exact nodup_append.mpr ⟨c,by simp,fun a d b e z=>h (by rw[<-vo.mp e,<-z];exact d)⟩
theorem Kb(S xs:List Nat)(x:Nat):addS S (xs++[x])=putS (addS S xs) x:=by
 unfold addS;rw[foldl_append];rfl
def KySet(kvs:List (Key×V))(S:List Nat):Prop:=kvs.map (·.1)=S.map iK/\S.Nodup
theorem xn{a b:Nat}(h:iK a=iK b):a=b:=by
 have:(a:Int)=b:=Sum.inl.inj h;lia
theorem KySet.mem{kvs:List (Key×V)}{S:List Nat}(h:KySet kvs S){x:Nat}:(valV kvs (iK x)).isSome=decide (x∈S):=by
 have e:iK x∈kvs.map (·.1)↔x∈S:=by
  rw[h.1];exact⟨fun z=>let ⟨y,hy,e⟩:=vK.mp z;(xn e)▸hy,fun z=>vK.mpr ⟨x,z,rfl⟩⟩
 cases v:valV kvs (iK x)with
 | none=>exact(vH fun z=>j2k v (e.mpr z)).symm
 | some y=>exact(vG (e.mp (j3z v))).symm
theorem KySet.put{kvs:List (Key×V)}{S:List Nat}(h:KySet kvs S)(x:Nat)(v:V):KySet (putK kvs (iK x) v) (putS S x):=by
 refine⟨?_,j2Y h.2 x⟩;have m:=h.mem (x:=x);unfold putK putS;rw[Zd,m];by_cases z:x∈S
 ·rw[vG z,vd rfl,vd z,v8,<-h.1];refine map_congr_left fun q _=>?_
  show(if q.1=iK x then(q.1,v)else q).1=q.1;split<;>rfl
 ·rw[vH z,vc vF,vc z,vj,vj,h.1];rfl
theorem KySet.len{kvs:List (Key×V)}{S:List Nat}(h:KySet kvs S):kvs.length=S.length:=by
 have:=congrArg List.length h.1;rw[vt,vt]at this;exact this
theorem XL{d:Type}[DecidableEq d]:∀{l m:List d},l.Nodup->(∀x∈l,x∈m)->l.length<=m.length
 | [],m,_,_=>va _
 | a::l,m,nd,h=>by
  rw[nodup_cons]at nd;have b:=h a vq;have:=XL (l:=l) (m:=m.erase a) nd.2 fun x c=>(List.mem_erase_of_ne (fun z:x=a=>nd.1 (by rw[<-z];exact c))).mpr (h x (vp _ c))
  rw[List.length_erase_of_mem b]at this;have:=length_pos_of_mem b;rw[vQ];lia
theorem Z8{S:List Nat}{n:Nat}(b:S.Nodup)(h:∀x∈S,x<n):S.length<=n:=by
 have:=XL (m:=List.range n) b fun x a=>v6.mpr (h x a)
 rw[length_range]at this;exact this
structure CmOk(ks:List Dm)(t i:Nat)(S:List Nat):Prop where
 rc:∀x∈S,Rc ks t x
 tp:t∈S
 cl:∀y∈S,t<y+i->∀j∈(ks.getD y (.hold 0)).ns,j∈S
theorem CmOk.all{ks:List Dm}{t:Nat}{S:List Nat}(c:CmOk ks t (t+1) S){x:Nat}:x∈S↔Rc ks t x:=by
 refine⟨c.rc x,fun h=>?_⟩
 induction h with
 | top=>exact c.tp
 | sub _ hm ih=>exact c.cl _ ih (by lia) _ hm
theorem CmOk.yes{ks:List Dm}{t i y:Nat}{S:List Nat}(D:Dwn ks)(c:CmOk ks t i S)(d:y∈S)(e:y+i=t):CmOk ks t (i+1) (addS S (ks.getD y (.hold 0)).ns):=by
 refine⟨fun x b=>?_,qj.mpr (.inl c.tp),fun z f k j a=>?_⟩
 ·rcases qj.mp b with h | h
  ·exact c.rc x h
  ·exact .sub (c.rc y d) h
 ·rcases qj.mp f with h | h
  ·by_cases g:z=y
   ·subst g;exact qj.mpr (.inr a)
   ·exact qj.mpr (.inl (c.cl z h (by lia) j a))
  ·have:=(D.get h).1;lia
theorem CmOk.no{ks:List Dm}{t i y:Nat}{S:List Nat}(c:CmOk ks t i S)(d:y∉S)(e:y+i=t):CmOk ks t (i+1) S:=
 ⟨c.rc,c.tp,fun z a f j b=>c.cl z a (by have:z≠y:=fun e=>d (e▸a);lia) j b⟩
theorem Xx:∀{ms:List Int},(∀m∈ms,0<=m)->∃a:List Nat,ms=a.map (fun n:Nat=>(n:Int))
 | [],_=>⟨[],rfl⟩
 | m::ms,h=>by
  obtain⟨a,e⟩:=Xx (ms:=ms) fun x b=>h x (vp _ b)
  have:=h m vq;exact⟨m.toNat::a,by rw[uy,<-e,show((m.toNat:Nat):Int)=m by lia]⟩
theorem Yl{ms:List Int}{S:List Nat}(p:ms.Perm (S.map fun n:Nat=>(n:Int)))(o:ms.Pairwise (·<=·))(i:S.Nodup):∃a:List Nat,ms.map V.int=a.map vN/\a.Pairwise (· < ·)/\∀x,x∈a↔x∈S:=by
 obtain⟨a,rfl⟩:=Xx (ms:=ms) fun m g=>by
  obtain⟨n,_,rfl⟩:=vK.mp (p.mem_iff.mp g);exact Int.natCast_nonneg n
 have c:∀x,x∈a↔x∈S:=fun x=>by
  constructor
  ·intro h;obtain⟨y,b,e⟩:=vK.mp (p.mem_iff.mp (vK.mpr ⟨x,h,rfl⟩));have:y=x:=by lia
   exact this▸b
  ·intro h;obtain⟨y,b,e⟩:=vK.mp (p.mem_iff.mpr (vK.mpr ⟨x,h,rfl⟩));have:y=x:=by lia
   exact this▸b
 have d:(S.map fun n:Nat=>(n:Int)).Nodup:=pairwise_map.mpr (i.imp fun h e=>h (by lia));have f:=pairwise_map.mp (p.nodup_iff.mpr d);refine⟨a,by rw[v8];rfl,?_,c⟩;exact((pairwise_map.mp o).and f).imp fun⟨j,k⟩=>by lia
inductive sp_come(vs:List V)(H:Hp)(Q:VK)(xk:XK):Prop
 | mk (f:Addr) (fas:List Addr) (ks:List Dm) (t:Nat) (_:vs=[.ref f,vN t]) (_:H f=some (.lst (fas.map V.ref))) (_:DrAt H fas ks) (_:Dwn ks) (_:t<ks.length) (_:ks.length<=61) (_:∀(l:Addr) (ms:List Nat) (H':Hp),Same H H'->H l=none->H' l=some (.lst (ms.map vN))->ms.Pairwise (· < ·)->(∀x,x∈ms↔Rc ks t x)->Q (.ref l) H'):sp_come vs H Q xk
noncomputable def reD(P:Nat->Nat):Dm->Dm
 | .row ps=>.row (ps.map P)
 | .side ps=>.side (ps.map P)
 | .again k p=>.again k (P p)
 | d=>d
noncomputable def keptD(ks:List Dm)(ms:List Nat):List Dm:=ms.map fun k=>reD (fun n=>ms.idxOf n) (ks.getD k (.hold 0))
def LmOk(ks:List Dm)(n:Nat):Prop:=∀d∈ks,∀l h b,d = .rise l h b->l<n
theorem j3K{ls:List (Str×Int)}{ps:List (Str×Fm)}(W:WfB ls ps):∀n,n<=ps.length->LmOk (madeM (nmsOf ls) (nmsOf ps) (ps.take n)).1 ls.length
 | 0,_=>fun d h=>by simp[madeM]at h
 | n+1,hn=>by
  have g:ps[n]?=some ps[n]:=vz hn;have i:=j3K W n (by lia);rw[take_snoc g,Jg];generalize madeM (nmsOf ls) (nmsOf ps) (ps.take n)=st at i;unfold stepM;dsimp only;split
  ·exact i
  ·intro d a l h b e;rcases vh.mp a with a | a
   ·exact i d a l h b e
   ·rw[vo.mp a]at e;generalize r:ps[n]=p at e g;obtain⟨q,f⟩:=p;cases f with
    | rise x v m=>
     obtain⟨j,o⟩:=W.r n q x v m g;have c:(Dm.rise (ixOf (nmsOf ls) x) v m) = .rise l h b:=e;injection c with c;rw[<-c,j4 W.ln o];have:=(vx.mp o).1;rw[nmsOf,vt]at this;exact this
    | hold n=>cases e
    | ring x n=>cases e
    | row qs=>cases e
    | side qs=>cases e
    | again k x=>cases e
noncomputable def numI(ms:List Nat):List (Key×V):=ms.zipIdx.map fun p=>(iK p.1,vN p.2)
theorem j0c(ms:List Nat)(m:Nat):numI (ms++[m])=numI ms++[(iK m,vN ms.length)]:=by
 unfold numI;rw[List.zipIdx_append,vj];simp
theorem j1q(ms:List Nat):(numI ms).length=ms.length:=by simp[numI]
theorem KB(ms:List Nat):(numI ms).map (·.1)=ms.map iK:=by
 unfold numI;rw[v8];have e:∀(k:Nat) (a:List Nat),(a.zipIdx k).map ((fun x=>x.1)∘fun p:Nat×Nat=>(iK p.1,vN p.2))=a.map iK:=fun k a=>by
  induction a generalizing k with
  | nil=>rfl
  | cons x r ih=>rw[List.zipIdx_cons,uy,uy,ih];rfl
 exact e 0 ms
theorem j1r{ms:List Nat}(b:ms.Nodup){m:Nat}(h:m∈ms):valV (numI ms) (iK m)=some (vN (ms.idxOf m)):=by
 refine kM (j:=ms.idxOf m) (by rw[KB];exact pairwise_map.mpr (b.imp fun h e=>h (xn e))) ?_;unfold numI;have a:=idxOf_lt_length_of_mem h;rw[vv,List.getElem?_zipIdx,vz a,getElem_idxOf a];simp
theorem j1l{ms:List Nat}(h:ms.Pairwise (· < ·)):ms.Nodup:=h.imp fun h=>vE h
theorem j4B{H:Hp}{l an:Addr}{n:Nat}{ms:List Nat}{d:Dm}(o:H l=some (.lst ((List.range n).map vN)))(m:H an=some (.dK (numI ms)))(C:ms.Nodup)(t:∀k h b,d = .rise k h b->k<n)(v:∀j∈d.ns,j∈ms)(e:d.ns.length<=8) :
  GMap H l an (gD d) (gD (reD (fun n=>ms.idxOf n) d)):=by
 have i:∀j∈d.ns,Itm H an (vN j) (vN (ms.idxOf j)):=fun j q=>by
  refine .inr ?_;have g:=DGet.k (k:=iK j) m;rw[j1r C (v j q)]at g;exact g
 have c:∀(s:Bool) (a:List Nat),(∀j∈a,j∈d.ns)->a.length<=8->GMap H l an (.many s (a.map vN)) (.many s ((a.map fun n=>ms.idxOf n).map vN)):=fun s a w e=>by
  refine⟨_,by rw[vt,vt,vt],fun k x y A f=>?_,by rw[vt];exact e,rfl⟩;obtain⟨z,B,rfl,u⟩:=yp A;rw[vv,vv,B]at f;cases f;exact i z (w z u)
 cases d with
 | hold n=>rfl
 | ring x n=>rfl
 | rise k h b=>
  have r:=t k h b rfl;exact⟨.int (k:Nat),.inl ⟨_,_,o,rfl,L2.jG (j:=k) (by rw[vv,List.getElem?_range r];rfl)⟩,rfl⟩
 | row a=>exact c false a (fun j h=>h) e
 | side a=>exact c true a (fun j h=>h) e
 | again k p=>exact⟨_,i p vq,rfl⟩
noncomputable def topM(ls:List (Str×Int))(ps:List (Str×Fm)):Nat:=(madeM (nmsOf ls) (nmsOf ps) ps).2.getD (ps.length-1) 0
noncomputable def drsM(ls:List (Str×Int))(ps:List (Str×Fm)):List Dm:=(madeM (nmsOf ls) (nmsOf ps) ps).1
def Kept(ls:List (Str×Int))(ps:List (Str×Fm))(ms:List Nat):Prop:=ms.Pairwise (· < ·)/\∀x,x∈ms↔Rc (drsM ls ps) (topM ls ps) x
inductive sp_drums(vs:List V)(H:Hp)(Q:VK)(xk:XK):Prop
 | mk (b pl pp:Addr) (las pas:List Addr) (ls:List (Str×Int)) (ps:List (Str×Fm)) (_:vs=[.ref b]) (_:BookAt H b pl pp las pas ls ps) (_:WfB ls ps) (_:1<=ps.length) (_:∀(t l f:Addr) (das:List Addr) (ms:List Nat) (H':Hp),Same H H'->H' t=some (.tup [.ref l,.ref f])->H' l=some (.lst (las.map V.ref))->H' f=some (.lst (das.map V.ref))->H l=none->H f=none->l≠f->DrAt H' das (keptD (drsM ls ps) ms)->Kept ls ps ms->Q (.ref t) H'):sp_drums vs H Q xk
structure MadeOk(ls:List (Str×Int))(ps:List (Str×Fm)):Prop where
 dw:Dwn (drsM ls ps)
 lm:LmOk (drsM ls ps) ls.length
 nd:(drsM ls ps).Nodup
 k61:(drsM ls ps).length<=61
 tp:topM ls ps<(drsM ls ps).length
theorem Yx{ls:List (Str×Int)}{ps:List (Str×Fm)}(W:WfB ls ps)(a:1<=ps.length):MadeOk ls ps:=by
 have M:=Z7 (nmsOf ls) (nmsOf ps) ps.length ps rfl;have d:=j1h W ps.length (vb _);have l:=j3K W ps.length (vb _);rw[v7]at d l;refine⟨d,l,M.nd,vW M.lk W.p61,M.lt _ ?_⟩;unfold topM;rw[vy,vz (by rw[M.ln];lia)];exact getElem_mem _
theorem Kept.lt{ls:List (Str×Int)}{ps:List (Str×Fm)}{ms:List Nat}(K:Kept ls ps ms)(O:MadeOk ls ps){x:Nat}(h:x∈ms):x<=topM ls ps:=((K.2 x).mp h).le O.dw
theorem Kept.len{ls:List (Str×Int)}{ps:List (Str×Fm)}{ms:List Nat}(K:Kept ls ps ms)(O:MadeOk ls ps):ms.length<=61:=by
 have:=Z8 (n:=topM ls ps+1) (j1l K.1) fun x a=>by have:=K.lt O a;lia
 have:=O.tp;have:=O.k61;lia
theorem Kept.sub{ls:List (Str×Int)}{ps:List (Str×Fm)}{ms:List Nat}(K:Kept ls ps ms){x j:Nat}(h:x∈ms)(a:j∈((drsM ls ps).getD x (.hold 0)).ns):j∈ms:=(K.2 j).mpr (.sub ((K.2 x).mp h) a)
theorem j2y{xs:List V}{k:Nat}:cutV xs none (some (k:Int))=xs.take k:=by
 unfold cutV;rw[show HT.sIx xs.length 0 none=0 from rfl,show HT.sIx xs.length xs.length (some (k:Int))=min k xs.length from HT.XG xs.length xs.length k,List.drop_zero,Nat.sub_zero];rcases Nat.lt_or_ge k xs.length with z | z
 ·rw[Nat.min_eq_left (by lia)]
 ·rw[Nat.min_eq_right z,v7,take_of_length_le z]
inductive sp_below(vs:List V)(H:Hp)(Q:VK)(xk:XK):Prop
 | mk (a:Addr) (g:Gv) (_:vs=[.ref a]) (_:GAt H a g) (_:g.ns.length<=8) (_:∀(l:Addr) (H':Hp),Same H H'->H l=none->H' l=some (.lst g.ns)->Q (.ref l) H'):sp_below vs H Q xk
theorem Yy:∀{a b:List Nat},a.Pairwise (· < ·)->b.Pairwise (· < ·)->(∀k,k∈a↔k∈b)->a=b
 | [],[],_,_,_=>rfl
 | [],y::b,_,_,h=>nomatch (h y).mpr vq
 | x::a,[],_,_,h=>nomatch (h x).mp vq
 | x::a,y::b,h1,h2,h=>by
  rw[vV]at h1 h2;have e:x=y:=by
   rcases mem_cons.mp ((h x).mp vq)with z | z
   ·exact z
   ·rcases mem_cons.mp ((h y).mpr vq)with w | w
    ·exact w.symm
    ·have:=h1.1 y w;have:=h2.1 x z;lia
  subst e;rw[Yy h1.2 h2.2 fun k=>?_];constructor
  ·intro c;rcases mem_cons.mp ((h k).mp (vp _ c))with z | z
   ·have:=h1.1 k c;lia
   ·exact z
  ·intro c;rcases mem_cons.mp ((h k).mpr (vp _ c))with z | z
   ·have:=h2.1 k c;lia
   ·exact z
theorem j2S{d:Dm}{ks:List Dm}:memN (kD d) (ks.map kD)=decide (d∈ks):=by
 rw[Bool.eq_iff_iff,j1d,decide_eq_true_iff];exact⟨fun h=>let ⟨e,he,k⟩:=vK.mp h;(j12 k)▸he,fun h=>vK.mpr ⟨d,h,rfl⟩⟩
theorem j3t{lx px:List Str}{st:List Dm×List Nat}{p:Str×Fm}:∃j,(stepM lx px st p).2=st.2++[j]/\(stepM lx px st p).1[j]?=some (wiF lx px st.2 p.2)/\∀m,m<j->(stepM lx px st p).1[m]?≠some (wiF lx px st.2 p.2):=by
 unfold stepM;dsimp only;split
 ·rename_i hd;refine⟨_,rfl,?_,fun m a e=>?_⟩
  ·have b:=idxOf_lt_length_of_mem hd;rw[vz b,getElem_idxOf b]
  ·obtain⟨d,c⟩:=vx.mp e;have:=List.not_of_lt_findIdx (p:=(· == wiF lx px st.2 p.2)) (xs:=st.1) a;rw[c]at this;simp at this
 ·rename_i hd;refine⟨_,rfl,by rw[vC (vb _),uo];rfl,fun m a e=>hd ?_⟩;rw[vB a]at e;exact vm e
theorem DrAt.key{H:Hp}{as:List Addr}{ks:List Dm}(h:DrAt H as ks):as.length=(ks.map kD).length/\∀(i:Nat) (a:Addr) (x:NK),as[i]?=some a->(ks.map kD)[i]?=some x->NAt H a x:=by
 refine⟨by rw[vt];exact h.1,fun i a x c b=>?_⟩;rw[vv]at b;obtain⟨d,e,rfl⟩:=vg.mp b;exact wC (h.2 i a d c e)
theorem Y2{ms:List Nat}{x:Nat}(h:x∈ms):ms[ms.idxOf x]?=some x/\∀m,m<ms.idxOf x->ms[m]?≠some x:=by
 refine⟨?_,fun m c e=>?_⟩
 ·have a:=idxOf_lt_length_of_mem h;rw[vz a,getElem_idxOf a]
 ·obtain⟨d,b⟩:=vx.mp e;have:=List.not_of_lt_findIdx (p:=(· == x)) (xs:=ms) c;rw[b]at this;simp at this
noncomputable def natD(n:Nat):PyData:=.int (n:Int)
noncomputable def dmD:Dm->PyData
 | .hold n=>.tuple [.str "hold",.int n]
 | .ring x n=>.tuple [.str "ring",.str x,.int n]
 | .rise l h n=>.tuple [.str "raise",natD l,.int h,.int n]
 | .row ps=>.tuple [.str "row",.tuple (ps.map natD)]
 | .side ps=>.tuple [.str "side",.tuple (ps.map natD)]
 | .again k p=>.tuple [.str "again",.int k,natD p]
theorem zJ{H:Hp}:∀a:List Nat,DVs H (a.map vN) (a.map natD)
 | []=>.nil
 | n::r=>.cons (.int _) (zJ r)
theorem j4Y{H:Hp}{a:Addr}{d:Dm}(h:GAt H a (gD d)):DV H (.ref a) (dmD d):=by
 cases d with
 | hold n=>exact .tup h (.cons (.str _) (.cons (.int _) .nil))
 | ring x n=>exact .tup h (.cons (.str _) (.cons (.str _) (.cons (.int _) .nil)))
 | rise l v n=>exact .tup h (.cons (.str _) (.cons (.int _) (.cons (.int _) (.cons (.int _) .nil))))
 | row ps=>obtain⟨b,c,e⟩:=h;exact .tup c (.cons (.str _) (.cons (.tup e (zJ ps)) .nil))
 | side ps=>obtain⟨b,c,e⟩:=h;exact .tup c (.cons (.str _) (.cons (.tup e (zJ ps)) .nil))
 | again k p=>exact .tup h (.cons (.str _) (.cons (.int _) (.cons (.int _) .nil)))
noncomputable def boxD(ls:List (Str×Int))(ks:List Dm):PyData:=.tuple [.list (ls.map limbD),.list (ks.map dmD)]
theorem wg{H:Hp}{t l f:Addr}{b a:List Addr}{ls:List (Str×Int)}{ks:List Dm}(g:H t=some (.tup [.ref l,.ref f]))(e:H l=some (.lst (b.map V.ref)))(i:All2 (LimbAt H) b ls)(d:H f=some (.lst (a.map V.ref)))(c:DrAt H a ks):DV H (.ref t) (boxD ls ks):=
 .tup g (.cons (.lst e (zL (fun _ _ h=>wj h) i)) (.cons (.lst d (zL (fun _ _ h=>j4Y h) c)) .nil))
theorem XD(P:Nat->Nat)(d:Dm):(reD P d).ns=d.ns.map P:=by cases d<;>rfl
theorem j2M{ls:List (Str×Int)}{ps:List (Str×Fm)}{ms:List Nat}(O:MadeOk ls ps)(K:Kept ls ps ms):∀d∈keptD (drsM ls ps) ms,d.ns.length<=8:=fun d a=>by
 obtain⟨k,b,rfl⟩:=vK.mp a;rw[XD,vt];have:=K.lt O b;have:=O.tp;rw[vy,vz (by lia)];exact O.dw.l8 _ (getElem_mem _)
end Rm
namespace L2
open PySem PySem.Spec PyProof.Rows
end L2
namespace Rm
open PySem PySem.Spec PyProof.Rows L2
noncomputable def nmK(n:Nat):Str:=if n<26 then⟨#[97+n]⟩else⟨#[97+n/26,97+n%26]⟩
def WQ:Sp:=fun vs H Q _=>∃n:Nat,vs=[.int (n:Nat)]/\n<676/\Q (.str (nmK n)) H
noncomputable def bkF(lx:List Str):Dm->Fm
 | .hold n=>.hold n
 | .ring x n=>.ring x n
 | .rise l h n=>.rise (lx.getD l ⟨#[]⟩) h n
 | .row ps=>.row (ps.map nmK)
 | .side ps=>.side (ps.map nmK)
 | .again k p=>.again k (nmK p)
noncomputable def bkP(ls:List (Str×Int))(ks:List Dm):List (Str×Fm):=(List.range ks.length).map fun i=>(nmK i,bkF (nmsOf ls) (ks.getD i (.hold 0)))
theorem qC(ls:List (Str×Int))(ks:List Dm):(bkP ls ks).length=ks.length:=by unfold bkP;rw[vt,length_range]
theorem KZ{ls:List (Str×Int)}{ks:List Dm}{i:Nat}{d:Dm}(h:ks[i]?=some d):(bkP ls ks)[i]?=some (nmK i,bkF (nmsOf ls) d):=by
 unfold bkP;rw[vv,List.getElem?_range (vx.mp h).1];show some (nmK i,bkF (nmsOf ls) (ks.getD i _))=_;rw[vy,h];rfl
structure BxOk(ls:List (Str×Int))(ks:List Dm):Prop where
 dw:Dwn ks
 lm:LmOk ks ls.length
 k61:ks.length<=61
 l8:ls.length<=8
theorem j3V{H:Hp}{l p:Addr}{ls:List (Str×Int)}{d:Dm}{n:Nat}(o:H l=some (.lst ((nmsOf ls).map V.str)))(ep:H p=some (.lst ((List.range n).map fun i=>V.str (nmK i))))(t:∀k h b,d = .rise k h b->k<ls.length)(v:∀j∈d.ns,j<n)(e:d.ns.length<=8) :
  GMap H l p (gD d) (gF (bkF (nmsOf ls) d)):=by
 have m:∀j∈d.ns,Itm H p (vN j) (.str (nmK j)):=fun j q=>.inl ⟨_,_,ep,rfl,L2.jG (j:=j) (by rw[vv,List.getElem?_range (v j q)];rfl)⟩
 have c:∀(s:Bool) (a:List Nat),(∀j∈a,j∈d.ns)->a.length<=8->GMap H l p (.many s (a.map vN)) (.many s ((a.map nmK).map V.str)):=fun s a w e=>by
  refine⟨_,by rw[vt,vt,vt],fun k x y A g=>?_,by rw[vt];exact e,rfl⟩;obtain⟨z,B,rfl,u⟩:=yp A;rw[vv,vv,B]at g;cases g;exact m z (w z u)
 cases d with
 | hold n=>rfl
 | ring x n=>rfl
 | rise k h b=>
  have r:=t k h b rfl;have f:k<(nmsOf ls).length:=by rw[nmsOf,vt];exact r
  refine⟨.str ((nmsOf ls).getD k ⟨#[]⟩),.inl ⟨_,_,o,rfl,L2.jG (j:=k) ?_⟩,rfl⟩;rw[vv,vy,vz f];rfl
 | row a=>exact c false a (fun j h=>h) e
 | side a=>exact c true a (fun j h=>h) e
 | again k p=>exact⟨_,m p vq,rfl⟩
inductive sp_bookof(vs:List V)(H:Hp)(Q:VK)(xk:XK):Prop
 | mk (bx l f:Addr) (las das:List Addr) (ls:List (Str×Int)) (ks:List Dm) (_:vs=[.ref bx]) (_:H bx=some (.tup [.ref l,.ref f])) (_:H l=some (.lst (las.map V.ref))) (_:All2 (LimbAt H) las ls) (_:H f=some (.lst (das.map V.ref))) (_:DrAt H das ks) (_:BxOk ls ks) (_:∀(b pl pp:Addr) (pas:List Addr) (H':Hp),Same H H'->BookAt H' b pl pp las pas ls (bkP ls ks)->H pl=none->H pp=none->pl≠pp->Q (.ref b) H'):sp_bookof vs H Q xk
theorem j47{ms:List Nat}(h:ms.Pairwise (· < ·)){i n m:Nat}(hi:ms[i]?=some m)(f:n∈ms)(d:n<m):ms.idxOf n<i:=by
 have b:=idxOf_lt_length_of_mem f;have e:=getElem_idxOf b;obtain⟨c,a⟩:=vx.mp hi;rcases Nat.lt_or_ge (ms.idxOf n) i with z | z
 ·exact z
 ·rcases Nat.lt_or_ge i (ms.idxOf n)with w | w
  ·have:=pairwise_iff_getElem.mp h i _ c b w;rw[a,e]at this;lia
  ·have:i=ms.idxOf n:=by lia
   subst this;rw[e]at a;lia
theorem wu{ks:List Dm}{ms:List Nat}{i m:Nat}(h:ms[i]?=some m):(keptD ks ms)[i]?=some (reD (fun n=>ms.idxOf n) (ks.getD m (.hold 0))):=by
 unfold keptD;rw[vv,h];rfl
theorem Z3(ks:List Dm)(ms:List Nat):(keptD ks ms).length=ms.length:=vt _
theorem wv{ls:List (Str×Int)}{ps:List (Str×Fm)}{ms:List Nat}(O:MadeOk ls ps)(r:ls.length<=8)(K:Kept ls ps ms):BxOk ls (keptD (drsM ls ps) ms):=by
 refine⟨⟨fun i d c j g=>?_,j2M O K⟩,fun d c l h b e=>?_,by rw[Z3];exact K.len O,r⟩
 ·have f:=(vx.mp c).1;rw[Z3]at f;have m:ms[i]?=some ms[i]:=vz f;rw[wu m]at c;cases c;rw[XD]at g;obtain⟨n,o,rfl⟩:=vK.mp g;exact j47 K.1 m (K.sub (getElem_mem f) o) (O.dw.get o).1
 ·obtain⟨k,q,rfl⟩:=vK.mp c;have:=K.lt O q;have:=O.tp;have p:(drsM ls ps).getD k (.hold 0)=(drsM ls ps)[k]:=by rw[vy,vz (by lia)];rfl
  rw[p]at e;have a:(drsM ls ps)[k]∈drsM ls ps:=getElem_mem _;generalize(drsM ls ps)[k]=d' at e a;refine O.lm d' a l h b ?_;cases d'<;>first | exact e | cases e
theorem W5(lx:List Str)(d:Dm):(bkF lx d).ns=d.ns.map nmK:=by cases d<;>rfl
theorem j4A{f:Nat->Nat}{d e:Dm}(j:∀a∈d.ns,∀b∈e.ns,f a=f b->a=b)(h:reD f d=reD f e):d=e:=by
 have c:∀{i g:List Nat},(∀a∈i,∀b∈g,f a=f b->a=b)->i.map f=g.map f->i=g:=by
  intro i
  induction i with
  | nil=>intro g _ h;cases g with
   | nil=>rfl
   | cons=>simp at h
  | cons p i ih=>
   intro g j h;cases g with
   | nil=>simp at h
   | cons q g=>
    rw[uy,uy]at h;injection h with h1 h2;rw[j p vq q vq h1,ih (fun a m b o=>j a (vp _ m) b (vp _ o)) h2]
 cases d with
 | row i=>cases e with
  | row g=>injection h with h;exact congrArg Dm.row (c j h)
  | _=>cases h
 | side i=>cases e with
  | side g=>injection h with h;exact congrArg Dm.side (c j h)
  | _=>cases h
 | again k p=>cases e with
  | again k' p'=>injection h with h1 h2;rw[h1,j p vq p' vq h2]
  | _=>cases h
 | hold n=>cases e with
  | hold=>exact h
  | _=>cases h
 | ring x n=>cases e with
  | ring=>exact h
  | _=>cases h
 | rise l v n=>cases e with
  | rise=>exact h
  | _=>cases h
theorem j1T{f g:Nat->Nat}{d:Dm}(h:∀n∈d.ns,f n=g n):reD f d=reD g d:=by
 cases d with
 | row ps=>exact congrArg Dm.row (map_congr_left h)
 | side ps=>exact congrArg Dm.side (map_congr_left h)
 | again k p=>show Dm.again k (f p) = .again k (g p);rw[h p vq]
 | _=>rfl
theorem Rc.inv{ks:List Dm}{t x:Nat}(h:Rc ks t x):x=t\/∃y,Rc ks t y/\x∈(ks.getD y (.hold 0)).ns:=by
 cases h with
 | top=>exact .inl rfl
 | sub h1 h2=>exact .inr ⟨_,h1,h2⟩
theorem j2K{ms:List Nat}{a b:Nat}(e:a∈ms)(f:b∈ms)(h:ms.idxOf a=ms.idxOf b):a=b:=by
 have c:=(Y2 e).1;have d:=(Y2 f).1;rw[h,d]at c;exact(vL c).symm
section
variable{ls:List (Str×Int)}{ps:List (Str×Fm)}{ms:List Nat}
theorem Kept.refs(K:Kept ls ps ms)(O:MadeOk ls ps){x:Nat}{d:Dm}(c:x∈ms)(a:(drsM ls ps)[x]?=some d):∀j∈d.ns,j∈ms:=fun j b=>K.sub c (by rw[vy,a];exact b)
theorem Kept.nd(K:Kept ls ps ms)(O:MadeOk ls ps):(keptD (drsM ls ps) ms).Nodup:=by
 refine pairwise_map.mpr (List.Pairwise.imp_of_mem (fun {a b} f g h e=>?_) K.1);have k:=K.lt O f;have l:=K.lt O g;have m:=O.tp;have c:(drsM ls ps)[a]?=some (drsM ls ps)[a]:=vz (by lia);have d:(drsM ls ps)[b]?=some (drsM ls ps)[b]:=vz (by lia);rw[vy,vy,c,d]at e;have:=j4A (fun x i y j=>j2K (K.refs O f c x i) (K.refs O g d y j)) e;have:=(List.getElem_inj O.nd).mp this;lia
theorem Kept.named(K:Kept ls ps ms)(O:MadeOk ls ps):(∃c,ms[c]?=some (topM ls ps)/\c+1=ms.length)/\∀j,j+1<ms.length->∃(i:Nat) (d:Dm),(keptD (drsM ls ps) ms)[i]?=some d/\j∈d.ns:=by
 have g:topM ls ps∈ms:=(K.2 _).mpr .top;have a:ms.idxOf (topM ls ps)+1=ms.length:=by
  have f:=idxOf_lt_length_of_mem g;have h:=getElem_idxOf f;rcases Nat.lt_or_ge (ms.idxOf (topM ls ps)+1) ms.length with z | z
  ·have:=pairwise_iff_getElem.mp K.1 (ms.idxOf (topM ls ps)) (ms.idxOf (topM ls ps)+1) f z (by lia);have:=K.lt O (getElem_mem z);rw[h]at *;lia
  ·lia
 refine⟨⟨_,(Y2 g).1,a⟩,fun j p=>?_⟩;have k:ms[j]?=some ms[j]:=vz (by lia);have l:ms[j]∈ms:=getElem_mem _;have b:ms.idxOf ms[j]=j:=(j1l K.1).idxOf_getElem j (by lia);rcases((K.2 _).mp l).inv with e | ⟨y,n,m⟩
 ·rw[e]at b;lia
 ·have o:=(K.2 y).mpr n;refine⟨_,_,wu (Y2 o).1,?_⟩;rw[XD];exact vK.mpr ⟨_,m,b⟩
end
theorem j2a{lx px:List Str}{st:List Dm×List Nat}{p:Str×Fm}:∃r,(stepM lx px st p).1=st.1++r:=by
 unfold stepM;dsimp only;split
 ·exact⟨[],(append_nil _).symm⟩
 ·exact⟨_,rfl⟩
theorem j1i(lx px:List Str)(ps:List (Str×Fm))(n:Nat):∀k,∃r,(madeM lx px (ps.take (n+k))).1=(madeM lx px (ps.take n)).1++r
 | 0=>⟨[],(append_nil _).symm⟩
 | k+1=>by
  obtain⟨r,h⟩:=j1i lx px ps n k;rcases Nat.lt_or_ge (n+k) ps.length with z | z
  ·rw[show n+(k+1)=(n+k)+1 by lia,take_snoc (vz z),Jg];obtain⟨b,a⟩:=j2a (lx:=lx) (px:=px) (st:=madeM lx px (ps.take (n+k))) (p:=ps[n+k]);exact⟨r++b,by rw[a,h,List.append_assoc]⟩
  ·have e:ps.take (n+(k+1))=ps.take (n+k):=by rw[take_of_length_le (by lia),take_of_length_le z]
   rw[e];exact⟨r,h⟩
theorem j42{ls:List (Str×Int)}{ps:List (Str×Fm)}{n x:Nat}{d:Dm}(h:(madeM (nmsOf ls) (nmsOf ps) (ps.take n)).1[x]?=some d):(drsM ls ps)[x]?=some d:=by
 obtain⟨r,e⟩:=j1i (nmsOf ls) (nmsOf ps) ps n ps.length;rw[take_of_length_le (by lia)]at e;unfold drsM;rw[e,vB (vx.mp h).1];exact h
theorem kH{lx px:List Str}{st:List Dm×List Nat}{p:Str×Fm}:∃j,(stepM lx px st p).2=st.2++[j]/\(stepM lx px st p).1[j]?=some (wiF lx px st.2 p.2)/\((j<st.1.length/\(stepM lx px st p).1=st.1)\/(j=st.1.length/\(stepM lx px st p).1.length=st.1.length+1)):=by
 obtain⟨j,a,b,_⟩:=j3t (lx:=lx) (px:=px) (st:=st) (p:=p);refine⟨j,a,b,?_⟩;unfold stepM at a|-;dsimp only at a|-;split
 ·rename_i hd;rw[vd hd]at a;have:st.1.idxOf (wiF lx px st.2 p.2)=j:=by
   have:=List.append_cancel_left a;injection this
  exact .inl ⟨this▸idxOf_lt_length_of_mem hd,rfl⟩
 ·rename_i hd;rw[vc hd]at a;have:st.1.length=j:=by
   have:=List.append_cancel_left a;injection this
  exact .inr ⟨this.symm,by rw[vn];rfl⟩
theorem WA{a:Type}[DecidableEq a]{l:List a}(c:l.Nodup){i:Nat}{x:a}(h:l[i]?=some x):l.idxOf x=i:=by
 obtain⟨b,rfl⟩:=vx.mp h;exact c.idxOf_getElem i b
def RenF(R:Str->Str->Prop)(p q:Fm):Prop:=match p with
 | .row ps=>∃qs,q = .row qs/\ps.length=qs.length/\∀(i:Nat) (x y:Str),ps[i]?=some x->qs[i]?=some y->R x y
 | .side ps=>∃qs,q = .side qs/\ps.length=qs.length/\∀(i:Nat) (x y:Str),ps[i]?=some x->qs[i]?=some y->R x y
 | .again k x=>∃y,q = .again k y/\R x y
 | p=>q=p
theorem RenF.rise{R:Str->Str->Prop}{p:Fm}{x:Str}{a b:Int}(h:RenF R p (.rise x a b)):p = .rise x a b:=by
 cases p with
 | row ps=>obtain⟨_,e,_⟩:=h;cases e
 | side ps=>obtain⟨_,e,_⟩:=h;cases e
 | again k y=>obtain⟨_,e,_⟩:=h;cases e
 | _=>exact h.symm
section
variable{lx px fr:List Str}{ps qs:List (Str×Fm)}{n:Int}{i:Nat}{nh:List (List Nat)}
end
theorem PartAt.tups{H H':Hp}{a:Addr}{p:Str×Fm}(s:∀b xs,H b=some (.tup xs)->H' b=some (.tup xs))(h:PartAt H a p):PartAt H' a p:=by
 obtain⟨b,c,d⟩:=h;exact⟨b,s _ _ c,Wo.mpr (GAt.tups s (Wo.mp d))⟩
theorem j3L{ls:List (Str×Int)}{ps:List (Str×Fm)}(B:BkOk ls ps):∀n,n<=ps.length->∀d∈(madeM (nmsOf ls) (nmsOf ps) (ps.take n)).1,∀x b,d = .ring x b->Ws.isW x=true
 | 0,_=>fun d h=>by simp[madeM]at h
 | n+1,hn=>by
  have i:ps[n]?=some ps[n]:=vz hn;have g:=j3L B n (by lia);rw[take_snoc i,Jg];generalize madeM (nmsOf ls) (nmsOf ps) (ps.take n)=st at g;unfold stepM;dsimp only;split
  ·exact g
  ·intro d a x b e;rcases vh.mp a with a | a
   ·exact g d a x b e
   ·rw[vo.mp a]at e;have w:=(B.pn _ (getElem_mem (h:=hn))).2;generalize ps[n]=p at e w;obtain⟨j,f⟩:=p;cases f with
    | ring y m=>
     have c:(Dm.ring y m) = .ring x b:=e;injection c with c;rw[<-c];exact w.1
    | hold n=>cases e
    | rise x v n=>cases e
    | row qs=>cases e
    | side qs=>cases e
    | again k x=>cases e
theorem j4D{d:Dm}(h:∀x b,d = .ring x b->Ws.isW x=true):Shp 2 (dmD d):=by
 have m:∀{x:Str},Ws.isW x=true->Shp 1 (.str x):=fun h=>kF (xs:=[_]) (fun y j=>by rw[vo.mp j];exact h) _ (vo.mpr rfl)
 have c:∀f:List Nat,Shp 1 (.tuple (f.map natD)):=fun f=>Shp.tup (n:=0) fun d g=>by
  obtain⟨n,_,rfl⟩:=vK.mp g;exact Shp.int
 have e:∀{i:Int},Shp 1 (.int i):=Shp.int.mono (va _);have a:∀{x:Str},PyData.strOk x=true->Shp 1 (.str x):=fun h=>(Shp.str h).mono (va _)
 cases d with
 | hold n=>exact Shp.tup (forall_mem_cons.mpr ⟨a (by decide +kernel),forall_mem_cons.mpr ⟨e,fun _ h=>nomatch h⟩⟩)
 | ring x n=>exact Shp.tup (forall_mem_cons.mpr ⟨a (by decide +kernel),forall_mem_cons.mpr ⟨m (h x n rfl),forall_mem_cons.mpr ⟨e,fun _ h=>nomatch h⟩⟩⟩)
 | rise l v n=>exact Shp.tup (forall_mem_cons.mpr ⟨a (by decide +kernel),forall_mem_cons.mpr ⟨e,forall_mem_cons.mpr ⟨e,forall_mem_cons.mpr ⟨e,fun _ h=>nomatch h⟩⟩⟩⟩)
 | row f=>exact Shp.tup (forall_mem_cons.mpr ⟨a (by decide +kernel),forall_mem_cons.mpr ⟨c f,fun _ h=>nomatch h⟩⟩)
 | side f=>exact Shp.tup (forall_mem_cons.mpr ⟨a (by decide +kernel),forall_mem_cons.mpr ⟨c f,fun _ h=>nomatch h⟩⟩)
 | again k p=>exact Shp.tup (forall_mem_cons.mpr ⟨a (by decide +kernel),forall_mem_cons.mpr ⟨e,forall_mem_cons.mpr ⟨e,fun _ h=>nomatch h⟩⟩⟩)
theorem XH{ls:List (Str×Int)}{ps:List (Str×Fm)}{ms:List Nat}(B:BkOk ls ps):Shp 5 (boxD ls (keptD (drsM ls ps) ms)):=by
 have g:=j3L B ps.length (vb _);rw[v7]at g;refine Shp.tup (n:=4) (forall_mem_cons.mpr ⟨yZ B,forall_mem_cons.mpr ⟨?_,fun _ h=>nomatch h⟩⟩);refine(Shp.lst (n:=2) fun d i=>?_).mono (by decide);obtain⟨e,j,rfl⟩:=vK.mp i;obtain⟨k,_,rfl⟩:=vK.mp j;refine j4D fun x b a=>?_
 rw[vy]at a;cases ek:(drsM ls ps)[k]? with
 | none=>rw[ek]at a;cases a
 | some d=>
  rw[ek]at a;cases d with
  | ring y c=>
   have f:Dm.ring y c = .ring x b:=a;injection f with f;rw[<-f];exact g _ (vm ek) y c rfl
  | _=>cases a
theorem WJ{H:Hp}{c p:Addr}{a:List Addr}{qs:List (Str×Fm)}{q:Str×Fm}(e:H c=some (.lst (a.map V.ref)))(g:All2 (PartAt H) a qs)(f:PartAt H p q):upd H c (.lst (a.map V.ref++[.ref p])) c=some (.lst ((a++[p]).map V.ref))/\All2 (PartAt (upd H c (.lst (a.map V.ref++[.ref p])))) (a++[p]) (qs++[q])/\∀b u,b≠c->H b=some u->upd H c (.lst (a.map V.ref++[.ref p])) b=some u:=by
 have k:∀b u,b≠c->H b=some u->upd H c (.lst (a.map V.ref++[.ref p])) b=some u:=fun b u n h=>(jh n).trans h
 have t:∀b d,H b=some (.tup d)->upd H c (.lst (a.map V.ref++[.ref p])) b=some (.tup d):=fun b d h=>k _ _ (Qf h e (fun z=>by cases z)) h
 exact⟨by rw[jq,vj];rfl,(g.mono fun b x h=>h.tups t).snoc (f.tups t),k⟩
theorem j32{i j:Nat}(hi:i<676)(a:j<676)(h:nmK i=nmK j):i=j:=by
 unfold nmK at h;split at h<;>split at h<;>(injection h with h;simp only[Array.mk.injEq,List.cons.injEq,reduceCtorEq,and_true,and_false,false_and]at h)<;>lia
theorem j1n(ls:List (Str×Int))(ks:List Dm):nmsOf (bkP ls ks)=(List.range ks.length).map nmK:=by
 unfold nmsOf bkP;rw[v8];rfl
section
variable{ls:List (Str×Int)}{ks:List Dm}
theorem j3G(B:BxOk ls ks):(nmsOf (bkP ls ks)).Nodup:=by
 rw[j1n];refine pairwise_map.mpr (List.Pairwise.imp_of_mem (fun {a b} d f c e=>c (j32 ?_ ?_ e)) (nodup_range (n:=ks.length)))
 ·have:=v6.mp d;have:=B.k61;lia
 ·have:=v6.mp f;have:=B.k61;lia
theorem j3H{j:Nat}(h:j<ks.length):(nmsOf (bkP ls ks))[j]?=some (nmK j):=by
 rw[j1n,vv,List.getElem?_range h];rfl
theorem j3F(B:BxOk ls ks){j:Nat}(h:j<ks.length):ixOf (nmsOf (bkP ls ks)) (nmK j)=j:=j4 (j3G B) (j3H h)
theorem kz{n j:Nat}(h:j<n):(List.range n).getD j 0=j:=by
 rw[vy,List.getElem?_range h];rfl
theorem j58(B:BxOk ls ks)(q:(nmsOf ls).Nodup){i:Nat}{d:Dm}(f:ks[i]?=some d):wiF (nmsOf ls) (nmsOf (bkP ls ks)) (List.range i) (bkF (nmsOf ls) d)=d:=by
 have m:=(vx.mp f).1;have g:=B.dw.lt i d f;have c:∀j∈d.ns,(List.range i).getD (ixOf (nmsOf (bkP ls ks)) (nmK j)) 0=j:=fun j e=>by
  rw[j3F B (Nat.lt_trans (g j e) m),kz (g j e)]
 have b:∀a:List Nat,(∀j∈a,j∈d.ns)->((a.map nmK).map fun x=>(List.range i).getD (ixOf (nmsOf (bkP ls ks)) x) 0)=a:=fun a h=>by
  rw[v8]
  conv=>rhs;rw[<-map_id a]
  exact map_congr_left fun j e=>c j (h j e)
 cases d with
 | hold n=>rfl
 | ring x n=>rfl
 | rise l h n=>
  have o:=B.lm _ (vm f) l h n rfl;show Dm.rise (ixOf (nmsOf ls) ((nmsOf ls).getD l ⟨#[]⟩)) h n=_;rw[j4 (j:=l) q (by rw[vy,vz (by unfold nmsOf;rw[vt];exact o)];rfl)]
 | row a=>exact congrArg Dm.row (b a fun j h=>h)
 | side a=>exact congrArg Dm.side (b a fun j h=>h)
 | again k p=>show Dm.again k _=_;rw[c p vq]
theorem Xt(B:BxOk ls ks)(b:(nmsOf ls).Nodup)(c:ks.Nodup):∀n,n<=ks.length->madeM (nmsOf ls) (nmsOf (bkP ls ks)) ((bkP ls ks).take n)=(ks.take n,List.range n)
 | 0,_=>rfl
 | n+1,h=>by
  have a:ks[n]?=some ks[n]:=vz h;rw[take_snoc (KZ a),Jg,Xt B b c n (by lia)];unfold stepM;dsimp only;rw[j58 B b a,vc,take_snoc a,range_succ,vi,Nat.min_eq_left (by lia)];intro z;obtain⟨j,d,e⟩:=mem_iff_getElem.mp z;rw[vi]at d;rw[getElem_take]at e;exact ud e (pairwise_iff_getElem.mp c j n (by lia) h (by lia))
theorem j43(B:BxOk ls ks)(a:(nmsOf ls).Nodup)(b:ks.Nodup):madeM (nmsOf ls) (nmsOf (bkP ls ks)) (bkP ls ks)=(ks,List.range ks.length):=by
 have h:=Xt B a b ks.length (vb _);rw[v7,take_of_length_le (by rw[qC];exact vb _)]at h;exact h
theorem j4x(D:Dwn ks)(f:∀j,j+1<ks.length->∃(i:Nat) (d:Dm),ks[i]?=some d/\j∈d.ns):∀m x,ks.length-1-x=m->x<ks.length->Rc ks (ks.length-1) x:=by
 intro m
 induction m using Nat.strongRecOn with
 | _ m ih=>
  intro x e g;rcases Nat.lt_or_ge (x+1) ks.length with z | z
  ·obtain⟨i,d,a,b⟩:=f x z;have c:=(vx.mp a).1;have h:=D.lt i d a x b;exact .sub (ih (ks.length-1-i) (by lia) i rfl c) (by rw[vy,a];exact b)
  ·rw[show x=ks.length-1 by lia];exact .top
theorem Wg{mt:List Nat}(B:BxOk ls ks)(m:(nmsOf ls).Nodup)(o:ks.Nodup)(r:1<=ks.length)(p:∀j,j+1<ks.length->∃(i:Nat) (d:Dm),ks[i]?=some d/\j∈d.ns)(K:Kept ls (bkP ls ks) mt):keptD (drsM ls (bkP ls ks)) mt=ks:=by
 have e:=j43 B m o;have b:drsM ls (bkP ls ks)=ks:=by unfold drsM;rw[e]
 have c:topM ls (bkP ls ks)=ks.length-1:=by
  unfold topM;rw[e,qC];exact kz (by lia)
 have f:mt=List.range ks.length:=by
  refine Yy K.1 List.pairwise_lt_range fun k=>(K.2 k).trans ?_
  rw[b,c,v6];constructor
  ·intro h;have:=h.le B.dw;lia
  ·exact fun h=>j4x B.dw p _ k rfl h
 rw[b,f];unfold keptD;refine ext_getElem (by rw[vt,length_range]) fun i q a=>?_
 rw[getElem_map,getElem_range,vy,vz a];have n:=B.dw.lt i _ (vz a);refine(j1T (g:=id) fun j l=>WA nodup_range (List.getElem?_range (Nat.lt_trans (n j l) a))).trans ?_;show reD id ks[i]=ks[i];cases ks[i]with
 | row ps=>show Dm.row (ps.map id)=_;rw[map_id]
 | side ps=>show Dm.side (ps.map id)=_;rw[map_id]
 | _=>rfl
theorem j3Q(B:BxOk ls ks)(m:(nmsOf ls).Nodup):WfB ls (bkP ls ks):=by
 refine⟨m,B.l8,j3G B,by rw[qC];exact B.k61,fun i p a=>?_,fun i y x h n a=>?_⟩
 all_goals
  have d:=(vx.mp a).1;rw[qC]at d;have c:ks[i]?=some ks[i]:=vz d;rw[KZ c]at a
 ·cases a;refine⟨fun x f=>?_,?_⟩
  ·rw[W5]at f;obtain⟨j,g,rfl⟩:=vK.mp f;have:=B.dw.lt i _ c j g;exact⟨j,this,j3H (by lia)⟩
  ·show(bkF _ _).ns.length<=8;rw[W5,vt];exact B.dw.l8 _ (getElem_mem _)
 ·injection a with a;injection a with _ a;cases e:ks[i]with
  | rise l v b=>
   rw[e]at a;injection a with h1;have k:=B.lm _ (vm c) l v b e;exact⟨l,by rw[<-h1,vy,vz (by unfold nmsOf;rw[vt];exact k)];rfl⟩
  | _=>rw[e]at a;cases a
end
theorem Xz(lx px:List Str)(ps:List (Str×Fm))(n:Nat):∀k,∃r,(madeM lx px (ps.take (n+k))).2=(madeM lx px (ps.take n)).2++r
 | 0=>⟨[],(append_nil _).symm⟩
 | k+1=>by
  obtain⟨r,h⟩:=Xz lx px ps n k;rcases Nat.lt_or_ge (n+k) ps.length with z | z
  ·rw[show n+(k+1)=(n+k)+1 by lia,take_snoc (vz z),Jg];obtain⟨j,a,_⟩:=kH (lx:=lx) (px:=px) (st:=madeM lx px (ps.take (n+k))) (p:=ps[n+k]);exact⟨r++[j],by rw[a,h,List.append_assoc]⟩
  ·have e:ps.take (n+(k+1))=ps.take (n+k):=by rw[take_of_length_le (by lia),take_of_length_le z]
   rw[e];exact⟨r,h⟩
noncomputable def numOf(ls:List (Str×Int))(ps:List (Str×Fm))(i:Nat):Nat:=(madeM (nmsOf ls) (nmsOf ps) ps).2.getD i 0
section
variable{ls:List (Str×Int)}{ps:List (Str×Fm)}{ms:List Nat}
theorem xB{n i:Nat}(a:n<=ps.length)(h:i<n):(madeM (nmsOf ls) (nmsOf ps) (ps.take n)).2.getD i 0=numOf ls ps i:=by
 obtain⟨r,e⟩:=Xz (nmsOf ls) (nmsOf ps) ps n ps.length;have M:=Z7 (nmsOf ls) (nmsOf ps) n (ps.take n) (by rw[vi];lia);rw[take_of_length_le (by lia)]at e;unfold numOf;rw[e,vy,vy,vB (by rw[M.ln];exact h)]
theorem KG(W:WfB ls ps){i:Nat}{p:Str×Fm}(b:ps[i]?=some p):(drsM ls ps)[numOf ls ps i]?=some (wiF (nmsOf ls) (nmsOf ps) (madeM (nmsOf ls) (nmsOf ps) ps).2 p.2):=by
 have q:=(vx.mp b).1;have g:=Z7 (nmsOf ls) (nmsOf ps) i (ps.take i) (by rw[vi];lia);have m:madeM (nmsOf ls) (nmsOf ps) (ps.take (i+1))=stepM (nmsOf ls) (nmsOf ps) (madeM (nmsOf ls) (nmsOf ps) (ps.take i)) p:=by rw[take_snoc b,Jg]
 obtain⟨j,c,e,_⟩:=kH (lx:=nmsOf ls) (px:=nmsOf ps) (st:=madeM (nmsOf ls) (nmsOf ps) (ps.take i)) (p:=p);rw[<-m]at c e;have h:numOf ls ps i=j:=by
  rw[<-xB (n:=i+1) (by lia) (by lia),c];have:=getD_last (l:=(madeM (nmsOf ls) (nmsOf ps) (ps.take i)).2) (x:=j) (d:=0);rw[g.ln]at this;exact this
 rw[h];have:=j42 e;rw[this];have a:∀x∈p.2.ns,(madeM (nmsOf ls) (nmsOf ps) (ps.take i)).2.getD (ixOf (nmsOf ps) x) 0=(madeM (nmsOf ls) (nmsOf ps) ps).2.getD (ixOf (nmsOf ps) x) 0:=fun x o=>xB (by lia) (W.inP_lt b (vK.mpr ⟨x,o,rfl⟩))
 generalize p.2=f at a;cases f with
 | row qs=>exact congrArg (fun z=>some (Dm.row z)) (map_congr_left a)
 | side qs=>exact congrArg (fun z=>some (Dm.side z)) (map_congr_left a)
 | again k x=>exact congrArg (fun z=>some (Dm.again k z)) (a x vq)
 | _=>rfl
structure Cor(ps qs:List (Str×Fm))(C:Nat->Nat->Prop)(g:Nat->Nat):Prop where
 lt:∀i k,C i k->i<ps.length/\k<qs.length
 ex:∀k,k<qs.length->∃i,C i k
 top:C (ps.length-1) (qs.length-1)
 f:∀(i k:Nat) (p q:Str×Fm),C i k->ps[i]?=some p->qs[k]?=some q->RenF (fun _ _=>True) p.2 q.2/\inP qs q.2=(inP ps p.2).map g/\∀j∈inP ps p.2,j<i/\C j (g j)
theorem j1u(n:Nat):∀(i:Nat),i<=n->∀(x:Nat),x<(madeM (nmsOf ls) (nmsOf ps) (ps.take i)).1.length->i<=ps.length->∃j,j<i/\numOf ls ps j=x
 | 0,_,x,h,_=>by simp[madeM]at h
 | i+1,hn,x,h,hi=>by
  have k:ps[i]?=some ps[i]:=vz hi;have e:=Z7 (nmsOf ls) (nmsOf ps) i (ps.take i) (by rw[vi];lia);obtain⟨j,b,m,c⟩:=kH (lx:=nmsOf ls) (px:=nmsOf ps) (st:=madeM (nmsOf ls) (nmsOf ps) (ps.take i)) (p:=ps[i]);have f:madeM (nmsOf ls) (nmsOf ps) (ps.take (i+1))=stepM (nmsOf ls) (nmsOf ps) (madeM (nmsOf ls) (nmsOf ps) (ps.take i)) ps[i]:=by rw[take_snoc k,Jg]
  rw[<-f]at b c;have a:x<(madeM (nmsOf ls) (nmsOf ps) (ps.take i)).1.length->∃j,j<i+1/\numOf ls ps j=x:=fun h=>by
   obtain⟨j,o,g⟩:=j1u n i (by lia) x h (by lia);exact⟨j,by lia,g⟩
  rcases c with⟨_,z⟩ | ⟨q,r⟩
  ·exact a (by rw[z]at h;exact h)
  ·rcases Nat.lt_or_ge x (madeM (nmsOf ls) (nmsOf ps) (ps.take i)).1.length with y | y
   ·exact a y
   ·refine⟨i,by lia,?_⟩;rw[<-xB (n:=i+1) (by lia) (by lia),b];have:=getD_last (l:=(madeM (nmsOf ls) (nmsOf ps) (ps.take i)).2) (x:=j) (d:=0);rw[e.ln]at this;lia
theorem j0J(W:WfB ls ps)(D:1<=ps.length)(K:Kept ls ps ms):Cor ps (bkP ls (keptD (drsM ls ps) ms)) (fun i k=>i<ps.length/\ms[k]?=some (numOf ls ps i)) (fun j=>ms.idxOf (numOf ls ps j)):=by
 have O:=Yx W D;have B:=wv O W.l8 K;have z:(keptD (drsM ls ps) ms).length=ms.length:=by unfold keptD;rw[vt]
 have r:(bkP ls (keptD (drsM ls ps) ms)).length=ms.length:=by rw[qC,z]
 refine⟨fun i k h=>⟨h.1,by rw[r];exact(vx.mp h.2).1⟩,fun k o=>?_,?_,fun i k p q h l C=>?_⟩
 ·rw[r]at o;have g:ms[k]<(drsM ls ps).length:=vD (K.lt O (getElem_mem o)) O.tp;obtain⟨j,m,u⟩:=j1u (ls:=ls) (ps:=ps) ps.length ps.length (vb _) ms[k] (by rw[v7];exact g) (vb _);exact⟨j,m,by rw[u];exact vz o⟩
 ·obtain⟨⟨c,m,u⟩,_⟩:=K.named O;refine⟨by lia,?_⟩;rw[r,show ms.length-1=c by lia];exact m
 ·obtain⟨F,g⟩:=h;have v:=KG W l;have s:=wu (ks:=drsM ls ps) g;rw[vy,v]at s;have t:=KZ (ls:=ls) s;rw[C]at t;cases t;have d:∀j∈inP ps p.2,numOf ls ps j∈ms:=fun j a=>by
   refine K.refs O (vm g) v _ ?_;obtain⟨x,b,rfl⟩:=vK.mp a;generalize p.2=f at b;cases f with
   | row qs=>exact vK.mpr ⟨x,b,rfl⟩
   | side qs=>exact vK.mpr ⟨x,b,rfl⟩
   | again k y=>rw[vo.mp b];exact vq
   | _=>exact nomatch b
  have w:∀j∈inP ps p.2,ixOf (nmsOf (bkP ls (keptD (drsM ls ps) ms))) (nmK (ms.idxOf (numOf ls ps j)))=ms.idxOf (numOf ls ps j):=fun j a=>j3F B (by rw[z];exact idxOf_lt_length_of_mem (d j a))
  refine⟨?_,?_,fun j a=>⟨W.inP_lt l a,by have:=W.inP_lt l a;lia,(Y2 (d j a)).1⟩⟩
  ·have A:=fun x h n (e:p.2 = .rise x h n)=>W.r i p.1 x h n (by rw[l,<-e])
   show RenF _ p.2 (bkF (nmsOf ls) (reD _ (wiF _ _ _ p.2)));generalize p.2=f at A;cases f with
   | hold n=>rfl
   | ring x n=>rfl
   | rise x h n=>
    obtain⟨j,a⟩:=A x h n rfl;show Fm.rise ((nmsOf ls).getD (ixOf (nmsOf ls) x) ⟨#[]⟩) h n = .rise x h n;rw[j4 W.ln a,vy,a];rfl
   | row qs=>exact⟨_,rfl,by rw[vt,vt,vt],fun _ _ _ _ _=>trivial⟩
   | side qs=>exact⟨_,rfl,by rw[vt,vt,vt],fun _ _ _ _ _=>trivial⟩
   | again k x=>exact⟨_,rfl,trivial⟩
  ·unfold inP at w|-;show(bkF (nmsOf ls) (reD _ (wiF _ _ _ p.2))).ns.map _=_;rw[W5,XD,v8,v8];have E:(wiF (nmsOf ls) (nmsOf ps) (madeM (nmsOf ls) (nmsOf ps) ps).2 p.2).ns=p.2.ns.map fun x=>numOf ls ps (ixOf (nmsOf ps) x):=by cases p.2<;>rfl
   rw[E,v8];refine Eq.trans ?_ v8.symm;exact map_congr_left fun x b=>w _ (vK.mpr ⟨x,b,rfl⟩)
theorem RenF.rise'{R:Str->Str->Prop}{p q:Fm}{x:Str}{a b:Int}(h:RenF R p q):p = .rise x a b↔q = .rise x a b:=by
 constructor
 ·rintro rfl;exact h
 ·rintro rfl;exact h.rise
section
variable{qs:List (Str×Fm)}{C:Nat->Nat->Prop}{g:Nat->Nat}
theorem j2w{M N:List (List Int)}(R:Cor ps qs C g)(H:M.length=ps.length)(I:N.length=qs.length)(B:MovOk ls ps M)(D:MovOk ls qs N):∀i k,C i k->N.getD k []=M.getD i []:=by
 intro i
 induction i using Nat.strongRecOn with
 | ind i ih=>
  intro k s;obtain⟨E,F⟩:=R.lt i k s;have q:ps[i]?=some ps[i]:=vz E;have r:qs[k]?=some qs[k]:=vz F;have z:M[i]?=some (M.getD i []):=by rw[vy,vz (by lia)];rfl
  have A:N[k]?=some (N.getD k []):=by rw[vy,vz (by lia)];rfl
  obtain⟨a,b⟩:=B i _ _ q z;obtain⟨w,y⟩:=D k _ _ r A;obtain⟨u,d,t⟩:=R.f i k _ _ s q r;refine Wc w a fun v=>(y v).trans (Iff.trans ?_ (b v).symm)
  rw[d];refine or_congr ⟨?_,?_⟩ ⟨?_,?_⟩
  ·rintro⟨G,l,m⟩;obtain⟨j,c,rfl⟩:=vK.mp l;obtain⟨o,p⟩:=t j c;exact⟨j,c,by rw[<-ih j o _ p];exact m⟩
  ·rintro⟨j,c,m⟩;obtain⟨o,p⟩:=t j c;exact⟨g j,vK.mpr ⟨j,c,rfl⟩,by rw[ih j o _ p];exact m⟩
  ·rintro⟨x,h,n,e,f⟩;exact⟨x,h,n,u.rise'.mpr e,f⟩
  ·rintro⟨x,h,n,e,f⟩;exact⟨x,h,n,u.rise'.mp e,f⟩
def LastL(Ls:List (List (Int×Int)))(k v:Int):Prop:=∃pre e post,Ls=pre++e::post/\(k,v)∈e/\∀e'∈post,∀v',(k,v')∉e'
theorem Xu{d c:Type}{f:d->c}:∀{l:List d} {b:List c} {e:c} {a:List c},l.map f=b++e::a->∃p x q,l=p++x::q/\p.map f=b/\f x=e/\q.map f=a
 | [],b,e,a,h=>by cases b<;>simp at h
 | y::l,[],e,a,h=>by
  rw[uy,nil_append]at h;injection h with h1 h2;exact⟨[],y,l,rfl,rfl,h1,h2⟩
 | y::l,z::b,e,a,h=>by
  rw[uy,List.cons_append]at h;injection h with h1 h2;obtain⟨p,x,q,rfl,g,i,j⟩:=Xu h2;exact⟨y::p,x,q,rfl,by rw[uy,h1,g],i,j⟩
theorem zM{E:List (List (Int×Int))}{is:List Nat}{k v:Int}:LastIn E is k v↔LastL (is.map fun j=>E.getD j []) k v:=by
 constructor
 ·rintro⟨c,j,a,rfl,d,f⟩;refine⟨c.map fun j=>E.getD j [],E.getD j [],a.map fun j=>E.getD j [],by rw[vj];rfl,d,fun l i=>?_⟩;obtain⟨g,b,rfl⟩:=vK.mp i;exact f g b
 ·rintro⟨c,e,a,h,d,f⟩;obtain⟨p,x,q,rfl,rfl,rfl,rfl⟩:=Xu h;exact⟨p,x,q,rfl,d,fun g b=>f _ (vK.mpr ⟨g,b,rfl⟩)⟩
theorem j2v{E F:List (List (Int×Int))}(R:Cor ps qs C g)(B:E.length=ps.length)(D:F.length=qs.length)(w:EndOk ls ps E)(y:EndOk ls qs F):∀i k,C i k->F.getD k []=E.getD i []:=by
 intro i
 induction i using Nat.strongRecOn with
 | ind i ih=>
  intro k m;obtain⟨z,A⟩:=R.lt i k m;have h:ps[i]?=some ps[i]:=vz z;have l:qs[k]?=some qs[k]:=vz A;have s:E[i]?=some (E.getD i []):=by rw[vy,vz (by lia)];rfl
  have t:F[k]?=some (F.getD k []):=by rw[vy,vz (by lia)];rfl
  obtain⟨a,b⟩:=w i _ _ h s;obtain⟨q,r⟩:=y k _ _ l t;obtain⟨p,d,o⟩:=R.f i k _ _ m h l;refine YL q a fun x v=>(r x v).trans (Iff.trans ?_ (b x v).symm)
  unfold EndIs;have u:(inP ps ps[i].2).map ((fun j=>F.getD j [])∘g)=(inP ps ps[i].2).map fun j=>E.getD j []:=map_congr_left fun j c=>ih j (o j c).1 _ (o j c).2
  rw[zM,zM,d,v8,u];refine or_congr Iff.rfl ⟨?_,?_⟩
  ·rintro⟨x,n,e,f⟩;exact⟨x,n,p.rise'.mpr e,f⟩
  ·rintro⟨x,n,e,f⟩;exact⟨x,n,p.rise'.mp e,f⟩
theorem j1c:∀{l:List Int},l≠[]->∃g∈l,∀x∈l,x<=g
 | [],h=>ud rfl h
 | [a],_=>⟨a,vq,fun x c=>by rw[vo.mp c];exact vA _⟩
 | a::b::r,_=>by
  obtain⟨g,e,d⟩:=j1c (l:=b::r) (fun z=>by cases z);rcases Int.le_total a g with z | z
  ·exact⟨g,vp _ e,fun x c=>by
    rcases mem_cons.mp c with rfl | c
    ·exact z
    ·exact d x c⟩
  ·exact⟨a,vq,fun x c=>by
    rcases mem_cons.mp c with rfl | c
    ·exact vA _
    ·exact vX (d x c) z⟩
theorem j16{f:Fm}{a:List Int}(h:LenPre f a):∃g,LenIs f a g:=by
 cases f with
 | side qs=>exact(j1c h).imp fun g h=>h
 | again k x=>obtain⟨y,r,rfl,_⟩:=h;exact⟨k*y,y,rfl,rfl⟩
 | row qs=>exact⟨_,rfl⟩
 | _=>exact⟨_,rfl⟩
theorem Z5{R:Str->Str->Prop}{p q:Fm}(h:RenF R p q){a:List Int}:(LenPre p a↔LenPre q a)/\∀g,LenIs p a g↔LenIs q a g:=by
 cases p with
 | row ps=>obtain⟨_,rfl,_⟩:=h;exact⟨Iff.rfl,fun g=>Iff.rfl⟩
 | side ps=>obtain⟨_,rfl,_⟩:=h;exact⟨Iff.rfl,fun g=>Iff.rfl⟩
 | again k x=>obtain⟨_,rfl,_⟩:=h;exact⟨Iff.rfl,fun g=>Iff.rfl⟩
 | _=>rw[show q=_ from h];exact⟨Iff.rfl,fun g=>Iff.rfl⟩
theorem RenF.side'{R:Str->Str->Prop}{p q:Fm}{ys:List Str}(h:RenF R p q)(e:q = .side ys):∃xs,p = .side xs:=by
 subst e;cases p with
 | side ps=>exact⟨_,rfl⟩
 | row ps=>obtain⟨_,e,_⟩:=h;cases e
 | again k x=>obtain⟨_,e,_⟩:=h;cases e
 | _=>cases h
theorem j2x{gs:List Int}{w:List (List Int)}(S:Snd ls ps gs w)(hl:w.length=ps.length)(W:MovOk ls ps w)(R:Cor ps qs C g)(n1:1<=qs.length)(X:WfB ls qs):∃gs' hs',Snd ls qs gs' hs'/\gs'.getD (qs.length-1) 0=gs.getD (ps.length-1) 0/\hs'.length=qs.length/\MovOk ls qs hs':=by
 have⟨d,hrep⟩:∃d:Nat->Nat,∀k,k<qs.length->C (d k) k:=by
  have h:∀k,∃i,k<qs.length->C i k:=fun k=>by
   rcases Nat.lt_or_ge k qs.length with z | z
   ·exact(R.ex k z).imp fun i h _=>h
   ·exact⟨0,fun h=>by lia⟩
  exact⟨fun k=>(h k).choose,fun k s=>(h k).choose_spec s⟩
 have y:∀{α:Type} (v:Nat->α) (k i:Nat) (p q:Str×Fm),C i k->ps[i]?=some p->qs[k]?=some q->(∀f,f<k->∀j,C j f->v j=v (d f))->(inP ps p.2).map v=(inP qs q.2).map fun f=>v (d f):=fun v k i p q r hp u M=>by
  obtain⟨_,G,l⟩:=R.f i k p q r hp u;rw[G,v8];refine map_congr_left fun j A=>M (g j) ?_ j (l j A).2
  exact X.inP_lt u (by rw[G];exact vK.mpr ⟨j,A,rfl⟩)
 have hG:∀k,k<qs.length->∀i,C i k->gs.getD i 0=gs.getD (d k) 0:=by
  intro k
  induction k using Nat.strongRecOn with
  | ind k M=>
   intro s i r;have I:qs[k]?=some qs[k]:=vz s;have D:∀i,C i k->∀g,LenIs qs[k].2 ((inP qs qs[k].2).map fun f=>gs.getD (d f) 0) g->g=gs.getD i 0:=fun i r g L=>by
    obtain⟨p,t⟩:∃p,ps[i]?=some p:=⟨_,vz (R.lt i k r).1⟩
    have B:=y (fun j=>gs.getD j 0) k i _ _ r t I fun f o j l=>M f o (by lia) j l
    refine(S.ln i _ t).2 g ?_;rw[B];exact((Z5 (R.f i k _ _ r t I).1).2 g).mpr L
   obtain⟨p,t⟩:∃p,ps[i]?=some p:=⟨_,vz (R.lt i k r).1⟩
   have B:=y (fun j=>gs.getD j 0) k i _ _ r t I fun f o j l=>M f o (by lia) j l
   have Q:=(S.ln i _ t).1;rw[B]at Q;obtain⟨g,L⟩:=j16 ((Z5 (R.f i k _ _ r t I).1).1.mp Q);rw[<-D i r g L,<-D (d k) (hrep k s) g L]
 have Z:∀k,k<qs.length->∀i,C i k->w.getD i []=w.getD (d k) []:=by
  intro k
  induction k using Nat.strongRecOn with
  | ind k M=>
   intro s i r;have I:qs[k]?=some qs[k]:=vz s;have D:∀i,C i k->(w.getD i []).Pairwise (· < ·)/\∀v,v∈w.getD i []↔(∃c∈(inP qs qs[k].2).map (fun f=>w.getD (d f) []),v∈c)\/∃x h n,qs[k].2 = .rise x h n/\v=(ixOf (nmsOf ls) x:Nat):=fun i r=>by
    have hi:=(R.lt i k r).1;obtain⟨p,t⟩:∃p,ps[i]?=some p:=⟨_,vz hi⟩
    have B:=y (fun j=>w.getD j []) k i _ _ r t I fun f o j l=>M f o (by lia) j l
    have F:=(R.f i k _ _ r t I).1;obtain⟨a,b⟩:=W i _ (w.getD i []) t (by rw[vy,vz (by lia)];rfl);refine⟨a,fun v=>(b v).trans (or_congr ?_ ?_)⟩
    ·rw[<-B];constructor
     ·rintro⟨j,l,H⟩;exact⟨_,vK.mpr ⟨j,l,rfl⟩,H⟩
     ·rintro⟨c,a0,H⟩;obtain⟨j,l,rfl⟩:=vK.mp a0;exact⟨j,l,H⟩
    ·constructor
     ·rintro⟨x,h,n,e,J⟩;exact⟨x,h,n,F.rise'.mp e,J⟩
     ·rintro⟨x,h,n,e,J⟩;exact⟨x,h,n,F.rise'.mpr e,J⟩
   have h1:=D i r;have h2:=D (d k) (hrep k s);exact Wc h1.1 h2.1 fun v=>(h1.2 v).trans (h2.2 v).symm
 have T:∀k,k<qs.length->((List.range qs.length).map fun k=>gs.getD (d k) 0).getD k 0=gs.getD (d k) 0:=fun k s=>by
  rw[vy,vv,List.getElem?_range s];rfl
 have O:∀k,k<qs.length->((List.range qs.length).map fun k=>w.getD (d k) []).getD k []=w.getD (d k) []:=fun k s=>by
  rw[vy,vv,List.getElem?_range s];rfl
 have E:∀{k:Nat} {q:Str×Fm},qs[k]?=some q->∀j∈inP qs q.2,j<qs.length:=fun u j l=>by
  have:=X.inP_lt u l;have:=(vx.mp u).1;lia
 refine⟨(List.range qs.length).map fun k=>gs.getD (d k) 0,(List.range qs.length).map fun k=>w.getD (d k) [],⟨X,by rw[vt,length_range],fun k s=>?_,fun N nl hN k s=>?_,fun k q u=>?_,fun k q xs u e=>?_⟩,?_⟩
 ·rw[T k s];exact S.gb _ (R.lt _ k (hrep k s)).1
 ·rw[O k s];exact j2w R hl nl W hN _ k (hrep k s)
 ·have s:=(vx.mp u).1;have r:=hrep k s;obtain⟨p,t⟩:∃p,ps[d k]?=some p:=⟨_,vz (R.lt _ k r).1⟩
  have B:=y (fun j=>gs.getD j 0) k _ _ _ r t u fun f o j l=>hG f (by lia) j l
  have Y:(inP qs q.2).map (fun j=>((List.range qs.length).map fun k=>gs.getD (d k) 0).getD j 0)=(inP ps p.2).map fun j=>gs.getD j 0:=by
   rw[B];exact map_congr_left fun j l=>T j (E u j l)
  have F:=(R.f _ k _ _ r t u).1;rw[Y,T k s];exact⟨(Z5 F).1.mp (S.ln _ _ t).1,fun g L=>(S.ln _ _ t).2 g (((Z5 F).2 g).mpr L)⟩
 ·have s:=(vx.mp u).1;have r:=hrep k s;obtain⟨p,t⟩:∃p,ps[d k]?=some p:=⟨_,vz (R.lt _ k r).1⟩
  have B:=y (fun j=>w.getD j []) k _ _ _ r t u fun f o j l=>Z f (by lia) j l
  obtain⟨F,G,l⟩:=R.f _ k _ _ r t u;obtain⟨ys,ey⟩:=F.side' e;obtain⟨s1,s2⟩:=S.sd _ _ ys t ey;have Y:(inP qs q.2).map (fun j=>((List.range qs.length).map fun k=>w.getD (d k) []).getD j [])=(inP ps p.2).map fun j=>w.getD j []:=by
   rw[B];exact map_congr_left fun j l=>O j (E u j l)
  refine⟨fun j A=>?_,by rw[Y];exact s2⟩;rw[O j (E u j A)];rw[G]at A;obtain⟨U,K,rfl⟩:=vK.mp A;rw[<-Z _ (R.lt _ _ (l U K).2).2 U (l U K).2];exact s1 U K
 ·refine⟨by rw[T _ (by lia)];exact(hG _ (by lia) _ R.top).symm,by rw[vt,length_range],fun k q ks u P=>?_⟩;have s:=(vx.mp u).1;have r:=hrep k s;have hi:=(R.lt _ k r).1;obtain⟨p,t⟩:∃p,ps[d k]?=some p:=⟨_,vz hi⟩
  rw[vv,List.getElem?_range s]at P;cases P;have B:=y (fun j=>w.getD j []) k _ _ _ r t u fun f o j l=>Z f (by lia) j l
  have F:=(R.f _ k _ _ r t u).1;obtain⟨a,b⟩:=W _ _ (w.getD (d k) []) t (by rw[vy,vz (by lia)];rfl);refine⟨a,fun v=>(b v).trans (or_congr ?_ ?_)⟩
  ·constructor
   ·rintro⟨j,l,H⟩;have m:w.getD j []∈(inP qs q.2).map fun f=>w.getD (d f) []:=by rw[<-B];exact vK.mpr ⟨j,l,rfl⟩
    obtain⟨f,o,e⟩:=vK.mp m;exact⟨f,o,by rw[O f (E u f o),e];exact H⟩
   ·rintro⟨f,o,H⟩;rw[O f (E u f o)]at H;have m:w.getD (d f) []∈(inP ps p.2).map fun j=>w.getD j []:=by rw[B];exact vK.mpr ⟨f,o,rfl⟩
    obtain⟨j,l,e⟩:=vK.mp m;exact⟨j,l,by rw[e];exact H⟩
  ·constructor
   ·rintro⟨x,h,n,e,J⟩;exact⟨x,h,n,F.rise'.mp e,J⟩
   ·rintro⟨x,h,n,e,J⟩;exact⟨x,h,n,F.rise'.mpr e,J⟩
end
end
structure Sa where
 d:Addr
 f:Addr
 o:Addr
 s:Addr
 l:Addr
 p:Addr
 fb:List Addr
 la:List Addr
 pa:List Addr
noncomputable def fldS(z:Sa):List (Str×V):=putF "pieces" (.ref z.p) (putF "left" (.ref z.l) (putF "sizes" (.ref z.s) (putF "forms" (.ref z.o) (putF "first" (.ref z.f) (putF "limbs" (.ref z.d) [])))))
section
variable{z:Sa}
theorem Jk(h:¬a=b):(putF b v r).lookup a=r.lookup a:=by rw[QA,vc h]
theorem ZF:(putF a v r).lookup a=some v:=by rw[QA,vd rfl]
theorem xi:(fldS z).lookup ("pieces" : Str)=some (.ref z.p):=ZF
theorem j0U:(fldS z).lookup ("left" : Str)=some (.ref z.l):=(Jk (by decide +kernel)).trans ZF
theorem Zk:(fldS z).lookup ("sizes" : Str)=some (.ref z.s):=(Jk (by decide +kernel)).trans ((Jk (by decide +kernel)).trans ZF)
theorem Kt:(fldS z).lookup ("forms" : Str)=some (.ref z.o):=(Jk (by decide +kernel)).trans ((Jk (by decide +kernel)).trans ((Jk (by decide +kernel)).trans ZF))
theorem X2:(fldS z).lookup ("first" : Str)=some (.ref z.f):=(Jk (by decide +kernel)).trans ((Jk (by decide +kernel)).trans ((Jk (by decide +kernel)).trans ((Jk (by decide +kernel)).trans ZF)))
theorem X3:(fldS z).lookup ("limbs" : Str)=some (.ref z.d):=(Jk (by decide +kernel)).trans ((Jk (by decide +kernel)).trans ((Jk (by decide +kernel)).trans ((Jk (by decide +kernel)).trans ((Jk (by decide +kernel)).trans ZF))))
theorem wk{m:Str}(a:¬m = "pieces")(b:¬m = "left")(c:¬m = "sizes")(d:¬m = "forms")(e:¬m = "first")(f:¬m = "limbs"):(fldS z).lookup m=none:=(Jk a).trans ((Jk b).trans ((Jk c).trans ((Jk d).trans ((Jk e).trans (Jk f)))))
theorem j6(f:Str)(v:V):∀r:List (Str×V),(putF f v r).length<=r.length+1
 | []=>vb _
 | (g,u)::r=>by
  unfold putF;split
  ·exact Nat.le_succ _
  ·rw[vQ,vQ];have:=j6 f v r;lia
end
theorem BookAt.less{H:Hp}(o:H a=some (.ins C dx fs))(B:BookAt H b pl pp las pas ls ps) :
  ∃i:Hp,(∀H',(∀c u,c≠a->H c=some u->H' c=some u)->Same i H')/\(∀{c u},i c=some u->c≠a)/\BookAt i b pl pp las pas ls ps:=by
 have f:∀{c:Addr} {g:List V},H c=some (.tup g)->(fun c=>if c=a then none else H c) c=some (.tup g):=fun {c g} h=>by
  show(if c=a then none else H c)=_;rw[vc (fun z=>by rw[z,o]at h;cases h)];exact h
 have p:∀{c:Addr} {g:List V},H c=some (.lst g)->(fun c=>if c=a then none else H c) c=some (.lst g):=fun {c g} h=>by
  show(if c=a then none else H c)=_;rw[vc (fun z=>by rw[z,o]at h;cases h)];exact h
 refine⟨fun c=>if c=a then none else H c,fun H' k c u h=>?_,fun {c u} h=>?_,f B.t,p B.l,B.la.mono fun a x m=>f m,p B.p,B.pa.mono fun a x m=>?_⟩
 ·have h:(if c=a then none else H c)=some u:=h;by_cases e:c=a
  ·rw[vd e]at h;cases h
  ·rw[vc e]at h;exact k c u e h
 ·have h:(if c=a then none else H c)=some u:=h;intro e;rw[vd e]at h;cases h
 ·obtain⟨q,s,d⟩:=m;refine⟨q,f s,?_⟩;cases hx2:x.2 with
  | row r=>rw[hx2]at d;obtain⟨c,j,l⟩:=d;exact⟨c,f j,f l⟩
  | side r=>rw[hx2]at d;obtain⟨c,j,l⟩:=d;exact⟨c,f j,f l⟩
  | hold n=>rw[hx2]at d;exact f d
  | ring y n=>rw[hx2]at d;exact f d
  | rise y v n=>rw[hx2]at d;exact f d
  | again k y=>rw[hx2]at d;exact f d
theorem few(h:(putF f v r).length<=n)(k:n<1000):(putF f v r).length<1000:=vD h k
section
variable{a b c d e:Str}{u v w x y:V}
theorem few3:(putF c w (putF b v (putF a u []))).length<1000:=by
 have:=j6 c w (putF b v (putF a u []));have:=j6 b v (putF a u []);have:=j6 a u [];simp at *;lia
theorem few4:(putF d x (putF c w (putF b v (putF a u [])))).length<1000:=by
 have:=j6 d x (putF c w (putF b v (putF a u [])));have:=j6 c w (putF b v (putF a u []));have:=j6 b v (putF a u []);have:=j6 a u [];simp at *;lia
theorem few5:(putF e y (putF d x (putF c w (putF b v (putF a u []))))).length<1000:=by
 have:=j6 e y (putF d x (putF c w (putF b v (putF a u []))));have:=j6 d x (putF c w (putF b v (putF a u [])));have:=j6 c w (putF b v (putF a u []));have:=j6 b v (putF a u []);have:=j6 a u [];simp at *;lia
end
section
variable{L:List Str}{fs:List Fn}{M:List (List Int)}{gs:List Int}{names:List Str}{ls:List (Str×Int)}{n:Nat}
end
noncomputable def setE(es:List (Int×Int))(h:List Int):List Int:=es.foldl (fun h q=>h.set q.1.toNat q.2) h
theorem yY(q:Int×Int)(r:List (Int×Int))(h:List Int):setE (q::r) h=setE r (h.set q.1.toNat q.2):=rfl
def EN(L:List Str)(fs:List Fn)(n:Nat)(E:List (List (Int×Int))):Prop:=∀(i:Nat) (f:Fn),i<n->fs[i]?=some f->((E.getD i []).map (·.1)).Pairwise (· < ·)/\∀k v,(k,v)∈E.getD i []↔LastIn E f.js k v\/∃x m,f = .rise x v m/\k=(ixOf L x:Nat)
section
variable{L:List Str}{fs:List Fn}{M:List (List Int)}{gs:List Int}{names:List Str}{ls:List (Str×Int)}{n:Nat}{E:List (List (Int×Int))}
theorem EN.mov(D:DOk L fs M gs)(u:L.Nodup)(e:EN L fs n E)(w:n<=fs.length):∀{i:Nat},i<n->∀q∈E.getD i [],q.1∈M.getD i []:=by
 intro i
 induction i using Nat.strongRecOn with
 | ind i ih=>
  intro s q t;obtain⟨f,c⟩:∃f,fs[i]?=some f:=⟨_,vz (by lia)⟩
  obtain⟨a,b,_⟩:=D.f i f c;rcases((e i f s c).2 q.1 q.2).mp t with⟨v,j,h,o,r,_⟩ | ⟨x,m,l,p⟩
  ·have d:j∈f.js:=by rw[o];simp
   have:=a.js.2 j d;exact(b.2 q.1).mpr (.inl ⟨j,d,ih j this (by lia) _ r⟩)
  ·subst l;obtain⟨⟨k,g⟩,_⟩:=a;refine(b.2 q.1).mpr (.inr ⟨x,q.2,m,k,rfl,g,?_⟩);rw[p,j4 u g]
theorem yM{b a:Type}{f g:a->b->a}:∀{l:List b} {h:a},(∀x∈l,∀h,f h x=g h x)->l.foldl f h=l.foldl g h
 | [],_,_=>rfl
 | x::r,h,e=>by rw[v9,v9,e x vq,yM fun y c=>e y (vp _ c)]
end
section
variable{α β:Type}
theorem Wn{f:β->α->β}{x:α}:∀{ys:List α} {h:β},(∀y∈ys,∀h,f (f h x) y=f (f h y) x)->f (ys.foldl f h) x=ys.foldl f (f h x)
 | [],_,_=>rfl
 | y::r,h,k=>by
  rw[v9,v9,k y vq h];exact Wn fun z a=>k z (vp _ a)
theorem yK{f:β->α->β}{p:α->Bool}:∀{R:List α} {h:β},R.Pairwise (fun x y=>p x=false->p y=true->∀h,f (f h x) y=f (f h y) x)->
  (R.filter fun x=>!p x).foldl f ((R.filter p).foldl f h)=R.foldl f h
 | [],_,_=>rfl
 | x::r,h,k=>by
  rw[vV]at k;cases e:p x with
  | true=>
   have a:(x::r).filter (fun x=>!p x)=r.filter fun x=>!p x:=by rw[uz];simp[e]
   rw[a,filter_cons_of_pos e,v9,v9];exact yK k.2
  | false=>
   have a:(x::r).filter (fun x=>!p x)=x::r.filter fun x=>!p x:=by rw[uz];simp[e]
   have b:(x::r).filter p=r.filter p:=by rw[uz];simp[e]
   have c:f ((r.filter p).foldl f h) x=(r.filter p).foldl f (f h x):=Wn fun y d h=>k.1 y (vP.mp d).1 e (vP.mp d).2 h
   rw[a,b,v9,v9,c];exact yK k.2
theorem yL{f:β->α->β}{p:α->Bool}:∀{R:List α} {h:β},(∀x∈R,p x=false->∀h,f h x=h)->(R.filter p).foldl f h=R.foldl f h
 | [],_,_=>rfl
 | x::r,h,k=>by
  cases e:p x with
  | true=>
   rw[filter_cons_of_pos e,v9,v9];exact yL fun y a=>k y (vp _ a)
  | false=>
   rw[filter_cons_of_neg (by simp[e]),v9,k x vq e];exact yL fun y a=>k y (vp _ a)
theorem Zj{f:α->List β}{p:α->Bool}:∀{R:List α},(∀x∈R,p x=false->f x=[])->(R.filter p).flatMap f=R.flatMap f
 | [],_=>rfl
 | x::r,k=>by
  cases e:p x with
  | true=>
   rw[filter_cons_of_pos e,flatMap_cons,flatMap_cons,Zj fun y a=>k y (vp _ a)]
  | false=>
   rw[filter_cons_of_neg (by simp[e]),flatMap_cons,k x vq e,Zj fun y a=>k y (vp _ a)];rfl
end
section
variable{ls:List (Str×Int)}{ps:List (Str×Fm)}{gs:List Int}{hs:List (List Int)}{E:List (List (Int×Int))}{t:Int}
noncomputable def ovB(gs:List Int)(x:Nat×Int):Bool:=decide (gs.getD x.1 0<=x.2)
noncomputable def leafB(ps:List (Str×Fm))(gs:List Int)(x:Nat×Int):Bool:=(pcB ps gs x.1).isEmpty
def Dj(gs:List Int)(hs:List (List Int))(a b:Nat×Int):Prop:=ovB gs a=false->∀k∈hs.getD a.1 [],k∉hs.getD b.1 []
theorem Dj.ov{a b:Nat×Int}(h:gs.getD a.1 0<=a.2):Dj gs hs a b:=fun z=>by
 unfold ovB at z;rw[vG h]at z;cases z
theorem j3i{l r:List (Nat×Int)}(h:∀a∈l,gs.getD a.1 0<=a.2)(k:r.length<=1):(l++r).Pairwise (Dj gs hs):=by
 induction l with
 | nil=>
  match r,k with
  | [],_=>exact .nil
  | [a],_=>exact pairwise_singleton _ _
 | cons a l ih=>exact vV.mpr ⟨fun b _=>.ov (h a vq),ih fun b c=>h b (vp _ c)⟩
theorem j1W:∀{is:List Nat} {b:Int},(∀k∈is,1<=gs.getD k 0/\gs.getD k 0<=10^60)->(wth gs t (rowPc gs is b)).Pairwise (Dj gs hs)
 | [],b,_=>.nil
 | j::r,b,hg=>by
  by_cases h:b<=t
  ·rw[WM hg h];split
   ·exact vV.mpr ⟨fun b _=>.ov (vA _),j1W fun k a=>hg k (vp _ a)⟩
   ·exact pairwise_singleton _ _
  ·rw[kB (fun k a=>by have:=hg k a;lia) (by lia)];exact .nil
theorem Wf:∀{is:List Nat},(∀k:Int,((is.map fun j=>hs.getD j []).filter fun ks=>decide (k∈ks)).length<=1)->is.Pairwise fun j d=>∀k∈hs.getD j [],k∉hs.getD d []
 | [],_=>.nil
 | j::r,h=>by
  refine vV.mpr ⟨fun d b a e c=>?_,Wf fun k=>?_⟩
  ·have:=h a;rw[uy,uz,vd (vG e),vQ]at this;have f:0<((r.map fun j=>hs.getD j []).filter fun ks=>decide (a∈ks)).length:=length_pos_of_mem (vP.mpr ⟨vK.mpr ⟨d,b,rfl⟩,vG c⟩);lia
  ·have:=h k;rw[uy,uz]at this;split at this
   ·rw[vQ]at this;lia
   ·exact this
theorem j4P(N:Sn ls ps gs hs){i:Nat}(hi:i<ps.length)(s:0<=t):(wth gs t (pcB ps gs i)).Pairwise (Dj gs hs):=by
 obtain⟨p,o⟩:∃p,ps[i]?=some p:=⟨_,vz hi⟩
 have l:pcB ps gs i=pcsI gs p.2 (inP ps p.2):=by unfold pcB;rw[o]
 have d:∀k∈inP ps p.2,1<=gs.getD k 0/\gs.getD k 0<=10^60:=fun k m=>by
  have:=N.s.w.inP_lt o m;exact N.g (by lia)
 rw[l];cases e:p.2 with
 | again k x=>
  rw[e]at d;rw[show inP ps (.again k x)=[ixOf (nmsOf ps) x]from rfl]at d|-;have g:=(d _ vq).1;generalize ixOf (nmsOf ps) x=j at g|-;show(wth gs t ((j,1,0)::(if 1<k then[(j,k-1,gs.getD j 0)]else[]))).Pairwise _;rw[Qj,Wd g s,Int.sub_zero];by_cases c:gs.getD j 0<=t
  ·rw[vd c];split
   ·rw[Qj,XU,append_nil,XS (show gs.getD j 0<=t from c),<-List.append_assoc];refine j3i (fun a u=>?_) (by split<;>simp);have:a=(j,gs.getD j 0):=by
     rcases vh.mp u with z | z
     ·exact vo.mp z
     ·split at z
      ·exact vo.mp z
      ·exact nomatch z
    rw[this];exact vA _
   ·exact pairwise_singleton _ _
  ·rw[vc c];have z:wth gs t (if 1<k then[(j,k-1,gs.getD j 0)]else[])=[]:=by
    split
    ·exact yq fun q w=>by rw[vo.mp w];show t<gs.getD j 0;lia
    ·rfl
   rw[z];exact pairwise_singleton _ _
 | row xs=>rw[e]at d;exact j1W d
 | side xs=>
  obtain⟨_,f⟩:=N.s.sd i p xs o e;rw[e]at d f;show(wth gs t ((inP ps (.side xs)).map fun j=>(j,1,0))).Pairwise _;rw[WP (fun k m=>(d k m).1) s];refine pairwise_map.mpr ((Wf f).imp fun {a b} h=>?_);have r:∀j:Nat,(if gs.getD j 0<=t then(j,gs.getD j 0)else(j,t)).1=j:=fun j=>by split<;>rfl
  intro _;rw[r,r];exact h
 | hold n=>exact .nil
 | ring x n=>exact .nil
 | rise x v n=>exact .nil
theorem j4O{i:Nat}{p:Str×Fm}(b:ps[i]?=some p){x:Nat×Int}(h:x∈wth gs t (pcB ps gs i)):x.1∈inP ps p.2:=by
 obtain⟨q,a,e⟩:=wB h;unfold pcB at a;rw[b]at a;rw[e];exact Y9 a
theorem WL(N:Sn ls ps gs hs):∀{i:Nat} {t:Int} {x:Nat×Int},i<ps.length->x∈reach ps gs i t->∀k∈hs.getD x.1 [],k∈hs.getD i []:=by
 intro i
 induction i using Nat.strongRecOn with
 | ind i ih=>
  intro t x c a k b;by_cases h:gs.getD i 0<=t\/pcB ps gs i=[]
  ·rw[JB h]at a;rw[vo.mp a]at b;exact b
  ·rw[qz N.s.w h]at a;obtain⟨y,e,a⟩:=mem_flatMap.mp a;have f:=QT N.s.w e;have d:=vz c;exact((N.m i _ _ d (Y1 N.s N.hl c)).2 k).mpr (.inl ⟨y.1,j4O d e,ih y.1 f (by lia) a k b⟩)
theorem j1U(N:Sn ls ps gs hs):∀{i:Nat} {t:Int},i<ps.length->0<=t->(reach ps gs i t).Pairwise (Dj gs hs):=by
 intro i
 induction i using Nat.strongRecOn with
 | ind i ih=>
  intro t l r;by_cases h:gs.getD i 0<=t\/pcB ps gs i=[]
  ·rw[JB h];exact pairwise_singleton _ _
  ·rw[qz N.s.w h];refine List.pairwise_flatMap.mpr ⟨fun a c=>?_,(j4P N l r).imp_of_mem fun {a b} c j d x g y o z k m f=>?_⟩
   ·have:=QT N.s.w c;exact ih a.1 this (by lia) (kN (fun q n=>N.pcOk n) c)
   ·have s:=QT N.s.w c;have u:=QT N.s.w j;have p:ovB gs a=false:=by
     cases e:ovB gs a with
     | false=>rfl
     | true=>
      rw[JB (.inl (of_decide_eq_true e))]at g;rw[vo.mp g]at z;exact(e.symm.trans z:true=false)
    exact d p k (WL N (by lia) g k m) (WL N (by lia) o k f)
noncomputable def rzH(ls:List (Str×Int))(ps:List (Str×Fm))(h:List Int)(x:Nat×Int):List Int:=match ps[x.1]? with
 | some (_,.rise y v n)=>h.set (ixOf (nmsOf ls) y) (Rp.ramp (h.getD (ixOf (nmsOf ls) y) 0) v n x.2)
 | _=>h
theorem W3{h:List Int}{x:Nat×Int}(c:ovB gs x=true):appH ls ps gs E h x=setE (E.getD x.1 []) h:=by
 unfold appH;rw[vd (of_decide_eq_true c)];rfl
theorem W4{h:List Int}{x:Nat×Int}(c:ovB gs x=false):appH ls ps gs E h x=rzH ls ps h x:=by
 unfold appH;rw[vc (of_decide_eq_false c)];rfl
theorem WO{k:Nat}{v:Int}:∀{es:List (Int×Int)} {h:List Int},(∀q∈es,q.1.toNat≠k)->setE es (h.set k v)=(setE es h).set k v
 | [],_,_=>rfl
 | q::r,h,n=>by
  rw[yY,yY,List.set_comm _ _ (n q vq).symm];exact WO fun y a=>n y (vp _ a)
theorem KI{k:Nat}:∀{es:List (Int×Int)} {h:List Int},(∀q∈es,q.1.toNat≠k)->(setE es h).getD k 0=h.getD k 0
 | [],_,_=>rfl
 | q::r,h,n=>by
  rw[yY,KI fun y a=>n y (vp _ a),vy,vy,List.getElem?_set_ne (n q vq)]
theorem j2D(N:Sn ls ps gs hs)(b:E.length=ps.length)(c:EndOk ls ps E)(hi:i<ps.length)(a:q∈E.getD i []):q.1∈hs.getD i []:=by
 have:=N.s.mv _ (by rw[vt];exact b) (j1j b c) i hi;rw[<-this,vy,vv,vz (by lia)];rw[vy,vz (by lia)]at a;exact vK.mpr ⟨q,a,rfl⟩
theorem j2p(N:Sn ls ps gs hs)(o:E.length=ps.length)(i:EndOk ls ps E){x y:Nat×Int}(k:x.1<ps.length)(l:y.1<ps.length)(a:ovB gs x=false)(c:ovB gs y=true)(d:Dj gs hs x y)(h:List Int) :
  appH ls ps gs E (appH ls ps gs E h x) y=appH ls ps gs E (appH ls ps gs E h y) x:=by
 rw[W3 c,W3 c,W4 a,W4 a];unfold rzH;split
 ·rename_i nm z v n hp;have j:((ixOf (nmsOf ls) z:Nat):Int)∈hs.getD x.1 []:=((N.m x.1 _ _ hp (Y1 N.s N.hl k)).2 _).mpr (.inr ⟨z,v,n,rfl,rfl⟩);have g:∀q∈E.getD y.1 [],q.1.toNat≠ixOf (nmsOf ls) z:=fun q f e=>by
   have b:=(Z0 N.s.w (by lia) i y.1 q f).1;have m:=j2D N o i l f;rw[show q.1=((ixOf (nmsOf ls) z:Nat):Int) by lia]at m;exact d a _ j m
  rw[WO g,KI g]
 ·rfl
noncomputable def strH(ls:List (Str×Int))(ps:List (Str×Fm))(gs:List Int)(E:List (List (Int×Int)))(t:Int):List Int:=((reach ps gs (ps.length-1) t).filter (ovB gs)).foldl (fun h x=>setE (E.getD x.1 []) h) (ls.map (·.2))
theorem j05{x:Nat×Int}{y:Str}{v n:Int}{b:Str}(a:ps[x.1]?=some (b,.rise y v n)):leafB ps gs x=true:=by
 unfold leafB pcB;rw[a];rfl
theorem j04{x:Nat×Int}{y:Str}{n:Int}{b:Str}(a:ps[x.1]?=some (b,.ring y n)):leafB ps gs x=true:=by
 unfold leafB pcB;rw[a];rfl
theorem WT(N:Sn ls ps gs hs)(o:E.length=ps.length)(q:EndOk ls ps E)(r:0<=t){P:List (Nat×Int)}(l:P.filter (leafB ps gs)=(reach ps gs (ps.length-1) t).filter fun x=>!ovB gs x) :
  P.foldl (rzH ls ps) (strH ls ps gs E t)=standH ls ps gs E t:=by
 have s:=N.ne;have i:∀x∈reach ps gs (ps.length-1) t,x.1<ps.length:=fun x e=>WK N.s.w (by lia) e
 rw[<-yL (p:=leafB ps gs) (fun x _ c h=>?_),l]
 ·unfold standH strH;rw[<-yK (p:=ovB gs) (f:=appH ls ps gs E) ((j1U N (show ps.length-1<ps.length by lia) r).imp_of_mem fun {a b} m n d j k h=>j2p N o q (i a m) (i b n) j k d h)];rw[yM (f:=appH ls ps gs E) (g:=rzH ls ps) fun x e h=>W4 (by simpa using(vP.mp e).2)];rw[yM (f:=appH ls ps gs E) (g:=fun h x=>setE (E.getD x.1 []) h) fun x e h=>W3 (vP.mp e).2]
 ·unfold rzH;split
  ·rename_i hp;rw[j05 hp]at c;cases c
  ·rfl
theorem WS(N:Sn ls ps gs hs){P:List (Nat×Int)}(a:P.filter (leafB ps gs)=(reach ps gs (ps.length-1) t).filter fun x=>!ovB gs x):P.flatMap (ringX ps)=ringsW ps gs t:=by
 have d:=N.ne;unfold ringsW;rw[<-Zj (p:=leafB ps gs) (fun x _ c=>?_),a,Zj fun x b c=>?_]
 ·have c:ovB gs x=true:=by simpa using c
  have c:=of_decide_eq_true c;have:=(N.g (WK N.s.w (show ps.length-1<ps.length by lia) b)).1;unfold ringX;split
  ·rw[vc (by lia)]
  ·rfl
 ·unfold ringX;split
  ·rename_i hp;rw[j04 hp]at c;cases c
  ·rfl
end
structure StageAt(C:Addr)(H:Hp)(a:Addr)(z:Sa)(ls:List (Str×Int))(ps:List (Str×Fm))(gs:List Int)(E:List (List (Int×Int))):Prop where
 ob:∃dx,H a=some (.ins C dx (fldS z))
 hd:H z.d=some (.dK (numK (nmsOf ls)))
 hf:H z.f=some (.lst ((ls.map (·.2)).map V.int))
 ho:H z.o=some (.lst (z.fb.map V.ref))
 fo:All2 (fun a p=>FormAt H a p.2) z.fb ps
 hs:H z.s=some (.lst (gs.map V.int))
 hl:H z.l=some (.lst (z.la.map V.ref))
 el:E.length=ps.length
 ea:EndsAt H z.la E
 eo:EndOk ls ps E
 hp:H z.p=some (.lst (z.pa.map V.ref))
 pa:PssAt H z.pa (ps.map fun p=>pcsI gs p.2 (inP ps p.2))
theorem StageAt.same{C:Addr}{H H':Hp}{a:Addr}{z:Sa}{ls:List (Str×Int)}{ps:List (Str×Fm)}{gs:List Int}{E:List (List (Int×Int))}(A:StageAt C H a z ls ps gs E)(s:Same H H'):StageAt C H' a z ls ps gs E:=
 ⟨A.ob.imp fun g h=>s _ _ h,s _ _ A.hd,s _ _ A.hf,s _ _ A.ho,All2.mono A.fo fun a p h=>FormAt.same s h,s _ _ A.hs,s _ _ A.hl,A.el,All2.mono A.ea fun a e ⟨c,d,f⟩=>⟨c,s _ _ d,All2.mono f fun b q h=>s _ _ h⟩,A.eo,
  s _ _ A.hp,All2.mono A.pa fun a e ⟨c,d,f⟩=>⟨c,s _ _ d,All2.mono f fun b q h=>s _ _ h⟩⟩
inductive sp_initS(C:Addr)(vs:List V)(H:Hp)(Q:VK)(xk:XK):Prop
 | mk (a dx b pl pp:Addr) (las pas:List Addr) (ls:List (Str×Int)) (ps:List (Str×Fm)) (gs:List Int) (hs:List (List Int)) (_:vs=[.ref a,.ref b]) (_:H a=some (.ins C dx [])) (_:BookAt H b pl pp las pas ls ps) (_:Sn ls ps gs hs) (_:∀(z:Sa) (E:List (List (Int×Int))) (H':Hp),(∀c u,c≠a->H c=some u->H' c=some u)->StageAt C H' a z ls ps gs E->Q .non H'):sp_initS C vs H Q xk
inductive sp_sceneS(C:Addr)(vs:List V)(H:Hp)(Q:VK)(xk:XK):Prop
 | mk (a:Addr) (z:Sa) (ls:List (Str×Int)) (ps:List (Str×Fm)) (gs:List Int) (hs:List (List Int)) (E:List (List (Int×Int))) (t:Int) (_:vs=[.ref a,.int t]) (_:StageAt C H a z ls ps gs E) (_:Sn ls ps gs hs) (_:0<=t) (_:t<=gs.getD (ps.length-1) 0) (_:∀(r l1 l2:Addr) (as:List Addr) (P:List (Nat×Int)) (H':Hp),Same H H'->H l1=none->H l2=none->H' r=some (.tup [.ref l1,.ref l2])->H' l1=some (.lst ((strH ls ps gs E t).map V.int))->(strH ls ps gs E t).length=ls.length->(∀h∈strH ls ps gs E t,0<=h/\h<=10^18)->H' l2=some (.lst (as.map V.ref))->l1≠l2->GonAt H' as P->P.length<=5000->(∀x∈P,x.1<ps.length/\0<=x.2/\x.2<gs.getD x.1 0)->P.filter (leafB ps gs)=((reach ps gs (ps.length-1) t).filter fun x=>!ovB gs x)->Q (.ref r) H'):sp_sceneS C vs H Q xk
inductive sp_heightsS(C:Addr)(vs:List V)(H:Hp)(Q:VK)(xk:XK):Prop
 | mk (a:Addr) (z:Sa) (ls:List (Str×Int)) (ps:List (Str×Fm)) (gs:List Int) (hs:List (List Int)) (E:List (List (Int×Int))) (t:Int) (_:vs=[.ref a,.int t]) (_:StageAt C H a z ls ps gs E) (_:Sn ls ps gs hs) (_:0<=t) (_:t<=gs.getD (ps.length-1) 0) (_:∀(l:Addr) (H':Hp),Same H H'->H l=none->H' l=some (.lst ((standH ls ps gs E t).map V.int))->(standH ls ps gs E t).length=ls.length->Q (.ref l) H'):sp_heightsS C vs H Q xk
inductive sp_wordsS(C:Addr)(vs:List V)(H:Hp)(Q:VK)(xk:XK):Prop
 | mk (a:Addr) (z:Sa) (ls:List (Str×Int)) (ps:List (Str×Fm)) (gs:List Int) (hs:List (List Int)) (E:List (List (Int×Int))) (t:Int) (_:vs=[.ref a,.int t]) (_:StageAt C H a z ls ps gs E) (_:Sn ls ps gs hs) (_:0<=t) (_:t<=gs.getD (ps.length-1) 0) (_:∀(l:Addr) (H':Hp),Same H H'->H l=none->H' l=some (.lst ((ringsW ps gs t).map V.str))->(ringsW ps gs t).length<=5000->Q (.ref l) H'):sp_wordsS C vs H Q xk
theorem FormAt.put{H H':Hp}{a:Addr}{f:Fm}(k:∀b xs,H b=some (.tup xs)->H' b=some (.tup xs))(h:FormAt H a f):FormAt H' a f:=by
 cases f with
 | row ps=>obtain⟨c,d,e⟩:=h;exact⟨c,k _ _ d,k _ _ e⟩
 | side ps=>obtain⟨c,d,e⟩:=h;exact⟨c,k _ _ d,k _ _ e⟩
 | hold n=>exact k _ _ h
 | ring x n=>exact k _ _ h
 | rise x v n=>exact k _ _ h
 | again k' x=>exact k _ _ h
theorem j2b{a:Type}{f:a->Nat}:∀{l:List a},(∀x∈l,1<=f x)->l.length<=(l.map f).sum
 | [],_=>vb _
 | x::r,h=>by
  have c:=h x vq;have d:=j2b (l:=r) fun y b=>h y (vp _ b)
  rw[uy,ux,vQ];lia
section
variable{ls:List (Str×Int)}{ps:List (Str×Fm)}{gs:List Int}{E:List (List (Int×Int))}{D:List (Nat×Int)}{x:Nat×Int}
noncomputable def hOf(ls:List (Str×Int))(gs:List Int)(E:List (List (Int×Int)))(D:List (Nat×Int)):List Int:=(D.filter (ovB gs)).foldl (fun h x=>setE (E.getD x.1 []) h) (ls.map (·.2))
theorem YZ(h:ovB gs x=false):hOf ls gs E (if leafB ps gs x=true then D++[x]else D)=hOf ls gs E D:=by
 split
 ·unfold hOf;rw[filter_append,filter_cons_of_neg (by rw[h];decide)];show(D.filter (ovB gs)++[]).foldl _ _=_;rw[append_nil]
 ·rfl
theorem Y0(h:ovB gs x=true):hOf ls gs E (D++[x])=setE (E.getD x.1 []) (hOf ls gs E D):=by
 unfold hOf;rw[filter_append,filter_cons_of_pos h,foldl_append];rfl
theorem Kz(W:WfB ls ps){i:Nat}{t:Int}(c:t<gs.getD i 0):1+((wth gs t (pcB ps gs i)).map fun x=>nodes ps gs x.1 x.2).sum<=nodes ps gs i t:=by
 by_cases e:pcB ps gs i=[]
 ·rw[e,ZI (.inr e)];exact vb _
 ·rw[kc W (fun h=>h.elim (fun z=>by lia) e)];exact vb _
end
structure ScAt(ls:List (Str×Int))(ps:List (Str×Fm))(gs:List Int)(E:List (List (Int×Int)))(t0:Int)(H H':Hp)(p1 p2 p4:Addr)(pas tas:List Addr)(D P S:List (Nat×Int)):Prop where
 sm:Same H H'
 e1:H' p1=some (.lst ((hOf ls gs E D).map V.int))
 e2:H' p2=some (.lst (pas.map V.ref))
 eT:H' p4=some (.lst (tas.map V.ref))
 gP:GonAt H' pas P
 gT:GonAt H' tas S
 inv:D++S.reverse.flatMap (fun x=>reach ps gs x.1 x.2)=reach ps gs (ps.length-1) t0
 hS:∀x∈S,x.1<ps.length/\0<=x.2
 hP:P.filter (leafB ps gs)=D.filter fun x=>!ovB gs x
 bP:∀x∈P,x.1<ps.length/\0<=x.2/\x.2<gs.getD x.1 0
 bnd:P.length+(S.map fun x=>nodes ps gs x.1 x.2).sum<=5000
 ll:(hOf ls gs E D).length=ls.length
 hb:∀h∈hOf ls gs E D,0<=h/\h<=10^18
end Rm
namespace L2
open PySem PySem.Spec PyProof.Rows
theorem j3g{X:Cx}{K:Frg}{c l:Expr}{a:TE}(e:X.K=K)(b:PE X l a):PI X c l (iTup K a):=by subst e;exact yT b
end L2
namespace Rm
open PySem PySem.Spec PyProof.Rows L2
inductive sp_poolC(K:Frg)(vs:List V)(H:Hp)(Q:VK)(xk:XK):Prop
 | mk (a:Addr) (ns:List Int) (k:Int) (_:vs=[.ref a,.int k]) (_:SqL K H a (ns.map V.int)) (_:ns.length<=63) (_:0<=k) (_:k<=100) (_:∀(p:Addr) (y:Int) (H':Hp),Same H H'->H p=none->H' p=some (.lst [.int y])->Q (.ref p) H'):sp_poolC K vs H Q xk
def PairC(M:List (List Int))(H:Hp)(v:V):Prop:=v = .non\/∃(p:Addr) (i j:Nat),v = .ref p/\H p=some (.tup [.int (i:Nat),.int (j:Nat)])/\i<M.length/\j<M.length/\M.getD i []≠[]/\M.getD j []≠[]/\∀k∈M.getD i [],¬k∈M.getD j []
inductive sp_pairC(vs:List V)(H:Hp)(Q:VK)(xk:XK):Prop
 | mk (m:Addr) (mas:List Addr) (M:List (List Int)) (at':Int) (_:vs=[.ref m,.int at']) (_:H m=some (.lst (mas.map V.ref))) (_:ListsAt H mas M) (_:(∀ks∈M,ks.length<=8)) (_:1<=M.length) (_:M.length<=60) (_:0<=at') (_:at'<=10^6) (_:∀(v:V) (H':Hp),Same H H'->PairC M H' v->Q v H'):sp_pairC vs H Q xk
noncomputable def abcC:Str:="abcdefghijklnopqrstuvwxyz"
noncomputable def wdC(p k:Nat):Str:=Txt.slice "mmmm" none (some (p:Int))++(⟨#[abcC.cps.toList.getD k 97]⟩:Str)++Txt.slice "mmm" (some (p:Int)) none++("" : Str)
inductive sp_wordC(vs:List V)(H:Hp)(Q:VK)(xk:XK):Prop
 | mk (p k:Nat) (_:vs=[.int (p:Nat),.int (k:Nat)]) (_:p<4) (_:k<25) (_:∀H',Same H H'->Q (.str (wdC p k)) H'):sp_wordC vs H Q xk
structure NmC(p nl m g:Addr)(names:List Str)(n:Nat)(mas:List Addr)(Mv:List (List Int))(gs:List Int)(H:Hp):Prop where
 en:H nl=some (.lst ((names.take n).map V.str))
 em:H m=some (.lst (mas.map V.ref))
 am:ListsAt H mas Mv
 eg:H g=some (.lst (gs.map V.int))
 nn:n<=names.length
 ml:Mv.length=n
 gl:gs.length=n
 n1:1<=n
 n60:n<=60
 m8:∀ks∈Mv,ks.length<=8
 g0:∀j,j<n->1<=gs.getD j 0/\gs.getD j 0<=10^60
 nlp:nl≠p
 nmp:m≠p
 ngp:g≠p
 nap:∀a∈mas,a≠p
theorem NmC.ex{p d m g:Addr}{names:List Str}{n:Nat}{b:List Addr}{c:List (List Int)}{gs:List Int}{H H':Hp}(C:NmC p d m g names n b c gs H)(x:Ex p H H'):NmC p d m g names n b c gs H':=
 ⟨x _ _ C.nlp C.en,x _ _ C.nmp C.em,All2.monoM C.am fun a e f h=>x _ _ (C.nap a e) h,x _ _ C.ngp C.eg,C.nn,C.ml,C.gl,C.n1,C.n60,C.m8,C.g0,C.nlp,C.nmp,C.ngp,C.nap⟩
theorem NmC.at'{p d m g:Addr}{names:List Str}{n:Nat}{a:List Addr}{b:List (List Int)}{gs:List Int}{H:Hp}(C:NmC p d m g names n a b gs H){j:Nat}(c:j<n):atI ((names.take n).map V.str) ((j:Nat):Int)=some (.str (names.getD j ⟨#[]⟩)):=by
 have:=C.nn;refine L2.jG ?_;rw[vv,List.getElem?_take_of_lt c,vy,vz (by lia)];rfl
def AgB(gs:List Int)(f:Fn):Prop:=∀k j,f = .again k j->k*gs.getD j 0<=10^40\/k<=3
inductive sp_namingC(vs:List V)(H:Hp)(Q:VK)(xk:XK):Prop
 | mk (p nl m g:Addr) (x way most:Int) (names:List Str) (n:Nat) (mas:List Addr) (Mv:List (List Int)) (gs:List Int) (_:vs=[.ref p,.int way,.ref nl,.ref m,.ref g,.int most]) (_:H p=some (.lst [.int x])) (_:NmC p nl m g names n mas Mv gs H) (_:1<=most) (_:most<=10^18) (_:∀(a:Addr) (f:Fn) (y:Int) (H':Hp),Ex p H H'->H' p=some (.lst [.int y])->FormAt H' a (toldF names f)->(∀Ls,PreN Ls Mv n f)->AgB gs f->Q (.ref a) H'):sp_namingC vs H Q xk
structure BkC(b pl pp m g:Addr)(las pas mas:List Addr)(ls:List (Str×Int))(names:List Str)(fs:List Fn)(Mv:List (List Int))(gs:List Int)(H:Hp):Prop where
 bk:BookAt H b pl pp las pas ls (drawnPs names fs)
 em:H m=some (.lst (mas.map V.ref))
 am:ListsAt H mas Mv
 eg:H g=some (.lst (gs.map V.int))
 nn:fs.length<=names.length
 ml:Mv.length=fs.length
 gl:gs.length=fs.length
 n60:fs.length<=60
 m8:∀ks∈Mv,ks.length<=8
 g0:∀j,j<fs.length->1<=gs.getD j 0/\gs.getD j 0<=10^60
 l1:1<=ls.length
 l8:ls.length<=8
inductive sp_formC(vs:List V)(H:Hp)(Q:VK)(xk:XK):Prop
 | mk (p b pl pp m g:Addr) (x most:Int) (las pas mas:List Addr) (ls:List (Str×Int)) (names:List Str) (fs:List Fn) (Mv:List (List Int)) (gs:List Int) (_:vs=[.ref p,.ref b,.ref m,.ref g,.int most]) (_:H p=some (.lst [.int x])) (_:BkC b pl pp m g las pas mas ls names fs Mv gs H) (_:b≠p) (_:pl≠p) (_:pp≠p) (_:m≠p) (_:g≠p) (_:(∀a∈mas,a≠p)) (_:1<=most) (_:most<=10^18) (_:(∀x∈names,Ws.isW x=true)) (_:∀(a:Addr) (f:Fn) (y:Int) (H':Hp),Ex p H H'->H' p=some (.lst [.int y])->FormAt H' a (toldF names f)->PreN (nmsOf ls) Mv fs.length f->AgB gs f->Q (.ref a) H'):sp_formC vs H Q xk
theorem j51(xs:List Str):PyData.eqv (.list (xs.map PyData.str)) (.list [])=decide (xs=[]):=by
 cases xs<;>simp[PyData.eqv,PyData.eqvAll]
theorem j57{xs:List Str}(h:∀x∈xs,Ws.isW x=true):SeqAt.shaped (.list (xs.map PyData.str))=true:=(Shp.lst (n:=0) (kF h)).ok (by decide)
theorem j2q{xs:List V}{k:Int}(h:∀v∈xs,∃w:Str,v = .str w/\Ws.isW w=true)(c:0<=k)(d:k<(xs.length:Int)):∃w:Str,atI xs k=some (.str w)/\Ws.isW w=true:=by
 obtain⟨j,rfl⟩:∃j:Nat,k=(j:Int):=⟨k.toNat,by lia⟩
 have a:j<xs.length:=by lia
 obtain⟨w,e,b⟩:=h xs[j] (getElem_mem a);exact⟨w,L2.jG (by rw[vz a,e]),b⟩
theorem j3Z{xs:List V}{lo hi:Option Int}{v:V}(h:v∈cutV xs lo hi):v∈xs:=List.mem_of_mem_drop (uw h)
theorem Zc{f:Nat->Int}{p:Nat->Bool}:∀(l:List Nat),(∀k,p k=false->f k=0)->((l.filter p).map f).sum=(l.map f).sum
 | [],_=>rfl
 | k::l,h=>by
  rw[uz];cases e:p k with
  | true=>rw[vd rfl,uy,uy,ux,ux,Zc l h]
  | false=>rw[vc vF,uy,ux,h k e,uv,Zc l h]
theorem WU{f g:Nat->Int}:∀(l:List Nat),(l.map fun k=>f k+g k).sum=(l.map f).sum+(l.map g).sum
 | []=>rfl
 | k::l=>by
  rw[uy,uy,uy,ux,ux,ux,WU l];lia
theorem kJ{f:Nat->Int}:∀(l:List Nat),(∀k∈l,f k=0)->(l.map f).sum=0
 | [],_=>rfl
 | k::l,h=>by
  rw[uy,ux,h k vq,kJ l fun i a=>h i (vp _ a)];rfl
theorem XN{g:Nat->Int}{j:Nat}:∀{n:Nat},j<n->((List.range n).map fun k=>if k=j then g k else 0).sum=g j
 | 0,h=>ud h (Nat.not_lt_zero _)
 | n+1,h=>by
  rw[range_succ,vj,sum_append];by_cases c:n=j
  ·subst c;rw[kJ _ fun k a=>vc (by have:=v6.mp a;lia)];show 0+((if n=n then g n else 0)+0)=g n;rw[vd rfl];lia
  ·rw[XN (n:=n) (by lia)];show g j+((if n=j then g n else 0)+0)=g j;rw[vc c];lia
theorem KK{g:Nat->Int}{n:Nat}:∀(a:List Nat),(∀j∈a,j<n)->((List.range n).map fun k=>g k*((a.filter fun j=>decide (j=k)).length:Nat)).sum=(a.map g).sum
 | [],_=>kJ _ fun k _=>Int.mul_zero _
 | j::a,h=>by
  have d:=KK (g:=g) a fun i b=>h i (vp _ b)
  rw[uy,ux,<-d,<-XN (g:=g) (h j vq),<-WU];congr 1;refine map_congr_left fun k _=>?_
  rw[uz];by_cases c:k=j
  ·subst c;rw[vd rfl,vd (vG rfl),vQ];rw[show((((a.filter fun j=>decide (j=k)).length+1:Nat)):Int)=((a.filter fun j=>decide (j=k)).length:Nat)+1 from rfl,Int.mul_add,Int.mul_one];lia
  ·rw[vc c,vc (by rw[vH fun z:j=k=>c z.symm];exact vF),uv]
noncomputable def Fn.tag:Fn->Str
 | .hold _=>"hold"
 | .ring _ _=>"ring"
 | .rise _ _ _=>"raise"
 | .row _=>"row"
 | .side _=>"side"
 | .again _ _=>"again"
noncomputable def Fn.rs:Fn->Bool
 | .row _=>true
 | .side _=>true
 | _=>false
noncomputable def Fn.ag:Fn->Bool
 | .again _ _=>true
 | _=>false
noncomputable def Fn.rz:Fn->Bool
 | .rise _ _ _=>true
 | _=>false
noncomputable def Fn.x:Fn->Str
 | .rise x _ _=>x
 | _=>⟨#[]⟩
noncomputable def tupF(names:List Str)(b:Addr):Fn->List V
 | .hold n=>[.str "hold",.int n]
 | .ring x n=>[.str "ring",.str x,.int n]
 | .rise x h n=>[.str "raise",.str x,.int h,.int n]
 | .row _=>[.str "row",.ref b]
 | .side _=>[.str "side",.ref b]
 | .again k j=>[.str "again",.int k,.str (names.getD j ⟨#[]⟩)]
theorem j0W{H:Hp}{a:Addr}{names:List Str}{f:Fn}(h:FormAt H a (toldF names f)):∃b,H a=some (.tup (tupF names b f))/\(f.rs=true->H b=some (.tup ((f.js.map fun j=>names.getD j ⟨#[]⟩).map V.str))):=by
 cases f with
 | hold n=>exact⟨a,h,fun z=>by cases z⟩
 | ring x n=>exact⟨a,h,fun z=>by cases z⟩
 | rise x v n=>exact⟨a,h,fun z=>by cases z⟩
 | row is=>obtain⟨b,c,d⟩:=h;exact⟨b,c,fun _=>d⟩
 | side is=>obtain⟨b,c,d⟩:=h;exact⟨b,c,fun _=>d⟩
 | again k j=>exact⟨a,h,fun z=>by cases z⟩
theorem Zr{names:List Str}{b:Addr}{f:Fn}:atI (tupF names b f) 0=some (.str f.tag):=by cases f<;>rfl
theorem j3w{names:List Str}{b:Addr}{f:Fn}(h:f.rs=true):atI (tupF names b f) 1=some (.ref b):=by cases f<;>first | rfl | cases h
theorem j2h{names:List Str}{b:Addr}{f:Fn}(h:f.rz=true):atI (tupF names b f) 1=some (.str f.x):=by cases f<;>first | rfl | cases h
theorem j4F{f:Fn}:decide (f.tag∈[("row" : Str),"side"])=f.rs:=by
 cases f
 ·exact(by decide +kernel:decide (("hold" : Str)∈[("row" : Str),"side"])=false)
 ·exact(by decide +kernel:decide (("ring" : Str)∈[("row" : Str),"side"])=false)
 ·exact(by decide +kernel:decide (("raise" : Str)∈[("row" : Str),"side"])=false)
 ·exact(by decide +kernel:decide (("row" : Str)∈[("row" : Str),"side"])=true)
 ·exact(by decide +kernel:decide (("side" : Str)∈[("row" : Str),"side"])=true)
 ·exact(by decide +kernel:decide (("again" : Str)∈[("row" : Str),"side"])=false)
theorem j2g{f:Fn}:decide (f.tag = "again")=f.ag:=by
 cases f
 ·exact(by decide +kernel:decide (("hold" : Str) = "again")=false)
 ·exact(by decide +kernel:decide (("ring" : Str) = "again")=false)
 ·exact(by decide +kernel:decide (("raise" : Str) = "again")=false)
 ·exact(by decide +kernel:decide (("row" : Str) = "again")=false)
 ·exact(by decide +kernel:decide (("side" : Str) = "again")=false)
 ·exact(by decide +kernel:decide (("again" : Str) = "again")=true)
theorem j4H{f:Fn}:decide (f.tag = "raise")=f.rz:=by
 cases f
 ·exact(by decide +kernel:decide (("hold" : Str) = "raise")=false)
 ·exact(by decide +kernel:decide (("ring" : Str) = "raise")=false)
 ·exact(by decide +kernel:decide (("raise" : Str) = "raise")=true)
 ·exact(by decide +kernel:decide (("row" : Str) = "raise")=false)
 ·exact(by decide +kernel:decide (("side" : Str) = "raise")=false)
 ·exact(by decide +kernel:decide (("again" : Str) = "raise")=false)
noncomputable def Fn.rw:Fn->Bool
 | .row _=>true
 | _=>false
noncomputable def Fn.sd:Fn->Bool
 | .side _=>true
 | _=>false
theorem j4G{f:Fn}:decide (f.tag = "row")=f.rw:=by
 cases f
 ·exact(by decide +kernel:decide (("hold" : Str) = "row")=false)
 ·exact(by decide +kernel:decide (("ring" : Str) = "row")=false)
 ·exact(by decide +kernel:decide (("raise" : Str) = "row")=false)
 ·exact(by decide +kernel:decide (("row" : Str) = "row")=true)
 ·exact(by decide +kernel:decide (("side" : Str) = "row")=false)
 ·exact(by decide +kernel:decide (("again" : Str) = "row")=false)
theorem j4I{f:Fn}:decide (f.tag = "side")=f.sd:=by
 cases f
 ·exact(by decide +kernel:decide (("hold" : Str) = "side")=false)
 ·exact(by decide +kernel:decide (("ring" : Str) = "side")=false)
 ·exact(by decide +kernel:decide (("raise" : Str) = "side")=false)
 ·exact(by decide +kernel:decide (("row" : Str) = "side")=false)
 ·exact(by decide +kernel:decide (("side" : Str) = "side")=true)
 ·exact(by decide +kernel:decide (("again" : Str) = "side")=false)
theorem Xm(n:Str):∀hs:List Str,inV (.str n) (hs.map V.str)=decide (n∈hs)
 | []=>by simp[inV]
 | h::r=>by
  have a:=Xm n r;unfold inV at a|-;rw[uy,any_cons,a];have e:eqV (.str h) (.str n)=decide (h=n):=by
   show(h==n)=_;by_cases c:h=n
   ·subst c;simp
   ·rw[vH c];exact beq_eq_false_iff_ne.mpr c
  rw[e,Bool.eq_iff_iff];simp only[Bool.or_eq_true,decide_eq_true_eq,mem_cons];constructor
  ·rintro(x | x)
   ·exact .inl x.symm
   ·exact .inr x
  ·rintro(x | x)
   ·exact .inl x.symm
   ·exact .inr x
theorem inS(n:Str)(a:List Str):(if false=true then !inV (.str n) (a.map V.str)else inV (.str n) (a.map V.str))=decide (n∈a):=by rw[vc (by decide),Xm]
theorem flatS:∀hs:List Str,(hs.map V.str).all flatV=true
 | []=>rfl
 | h::r=>by rw[uy,all_cons,flatS r];rfl
theorem inRS(f:Fn):(if false=true then !inV (.str f.tag) [.str "row",.str "side"]else inV (.str f.tag) [.str "row",.str "side"])=f.rs:=(inS f.tag ["row","side"]).trans j4F
theorem iteBl{b:Bool}{A B:Prop}(a:b=true->A)(c:b=false->B):if b=true then A else B:=by
 cases b with
 | true=>exact a rfl
 | false=>exact c rfl
noncomputable def lastF(names:List Str)(b:Addr):Fn->V
 | .hold n=>.int n
 | .ring _ n=>.int n
 | .rise _ _ n=>.int n
 | .row _=>.ref b
 | .side _=>.ref b
 | .again _ j=>.str (names.getD j ⟨#[]⟩)
theorem j3x{names:List Str}{b:Addr}{f:Fn}:atI (tupF names b f) (-1)=some (lastF names b f):=by cases f<;>rfl
theorem j14{names:List Str}{b:Addr}{f:Fn}{gs:List Int}:(∃a,lastF names b f = .int a/\LenN gs f a)\/f.ag=true\/f.sd=true\/f.rw=true:=by
 cases f with
 | hold n=>exact .inl ⟨n,rfl,rfl⟩
 | ring x n=>exact .inl ⟨n,rfl,rfl⟩
 | rise x h n=>exact .inl ⟨n,rfl,rfl⟩
 | row is=>exact .inr (.inr (.inr rfl))
 | side is=>exact .inr (.inr (.inl rfl))
 | again k j=>exact .inr (.inl rfl)
theorem j53{f:Fn}(h:f.rw=true):∃is,f = .row is:=by
 cases f with
 | row is=>exact⟨is,rfl⟩
 | _=>cases h
theorem j54{f:Fn}(h:f.sd=true):∃is,f = .side is:=by
 cases f with
 | side is=>exact⟨is,rfl⟩
 | _=>cases h
theorem j3I{f:Fn}(h:f.ag=true):∃k j,f = .again k j:=by
 cases f with
 | again k j=>exact⟨k,j,rfl⟩
 | _=>cases h
noncomputable def numsC(n:Nat)(f:Fn):List Nat:=(List.range n).filter fun k=>decide (k∈f.js)
theorem Zn{n:Nat}{f:Fn}(h:∀j∈f.js,j<n)(k:Nat):k∈numsC n f↔k∈f.js:=by
 unfold numsC;rw[vP,v6,decide_eq_true_eq];exact⟨fun z=>z.2,fun z=>⟨h k z,z⟩⟩
theorem ke{n:Nat}{f:Fn}{k:Nat}(h:k∈numsC n f):k<n:=v6.mp (vP.mp h).1
theorem j0e{n:Nat}{f:Fn}:(numsC n f).length<=n:=vW (length_filter_le _ _) (Nat.le_of_eq length_range)
theorem j49{f:Fn}(a:f.rs=false)(b:f.ag=false):f.js=[]:=by
 cases f with
 | row is=>exact ud a Bool.noConfusion
 | side is=>exact ud a Bool.noConfusion
 | again k j=>exact ud b Bool.noConfusion
 | _=>rfl
theorem j34{n:Nat}{f:Fn}(h:f.ag=false):(List.range n).filter (fun k=>f.rs&&decide (k∈f.js))=numsC n f:=by
 unfold numsC;cases e:f.rs with
 | true=>rfl
 | false=>
  rw[j49 e h];rfl
theorem j0f{n j:Nat}{k:Int}(h:j<n):numsC n (.again k j)=[j]:=by
 have m:∀x,x∈numsC n (.again k j)↔x∈[j]:=Zn (f:=.again k j) fun i d=>by rw[vo.mp d];exact h
 have c:(numsC n (.again k j)).Nodup:=nodup_range.filter _;generalize numsC n (.again k j)=l at m c
 match l,m,c with
 | [],m,_=>exact ud ((m j).mpr vq) (by simp)
 | [x],m,_=>rw[vo.mp ((m x).mp vq)]
 | x::y::r,m,c=>
  have a:=vo.mp ((m x).mp vq);have b:=vo.mp ((m y).mp (vp _ vq));rw[a,b]at c;simp at c
theorem Wz{names:List Str}(c:names.Nodup){is:List Nat}{k:Nat}(b:k<names.length)(h:∀j∈is,j<names.length):names.getD k ⟨#[]⟩∈(is.map fun j=>names.getD j ⟨#[]⟩)↔k∈is:=by
 constructor
 ·intro z;obtain⟨j,a,e⟩:=vK.mp z;rw[<-getD_inj c (h j a) b e];exact a
 ·intro z;exact vK.mpr ⟨k,z,rfl⟩
theorem JK{p:Nat->Bool}{i:Nat}:((List.range (i+1)).filter p)=if p i=true then(List.range i).filter p++[i]else(List.range i).filter p:=by
 rw[range_succ,filter_append,uz,filter_nil];split<;>simp
def MovU(L:List Str)(M:List (List Int))(f:Fn)(ks:List Int):Prop:=ks.Nodup/\∀k,k∈ks↔(∃j∈f.js,k∈M.getD j [])\/∃(x:Str) (h n:Int) (i:Nat),f = .rise x h n/\L[i]?=some x/\k=(i:Int)
def MvOk(n:Nat)(Mv:List (List Int)):Prop:=∀ks∈Mv,ks.Nodup/\∀k∈ks,0<=k/\k<(n:Int)
theorem Xw{n:Nat}{a:List (List Int)}(h:MvOk n a)(j:Nat):(a.getD j []).Nodup/\∀k∈a.getD j [],0<=k/\k<(n:Int):=by
 by_cases c:j<a.length
 ·refine h _ ?_;rw[vy,vz c];exact getElem_mem c
 ·rw[vy,List.getElem?_eq_none (by lia)];exact⟨nodup_nil,fun k b=>by cases b⟩
theorem MovU.ok{L:List Str}{a:List (List Int)}{f:Fn}{ks:List Int}(h:MovU L a f ks)(m:MvOk L.length a):ks.Nodup/\∀k∈ks,0<=k/\k<(L.length:Int):=by
 refine⟨h.1,fun k b=>?_⟩;rcases(h.2 k).mp b with⟨j,_,z⟩ | ⟨x,v,n,i,_,e,rfl⟩
 ·exact(Xw m j).2 k z
 ·have:=(vx.mp e).1;lia
theorem MvOk.snoc{n:Nat}{a:List (List Int)}{ks:List Int}(h:MvOk n a)(k:ks.Nodup/\∀k∈ks,0<=k/\k<(n:Int)):MvOk n (a++[ks]):=fun c b=>by
 rcases vh.mp b with z | z
 ·exact h c z
 ·rw[vo.mp z];exact k
theorem j09{M:List (List Int)}{is:List Nat}{f b:List Int}{i j:Nat}(l:is[i]?=some j)(h:∀k,k∈b↔k∈f\/∃x∈is.take i,k∈M.getD x [])(n:b.Nodup)(o:(M.getD j []).Nodup) :
  (b++(M.getD j []).filter fun k=>!decide (k∈b)).Nodup/\∀k,k∈b++((M.getD j []).filter fun k=>!decide (k∈b))↔k∈f\/∃x∈is.take (i+1),k∈M.getD x []:=by
 rw[take_snoc l];refine⟨nodup_append.mpr ⟨n,o.filter _,fun x d y m e=>?_⟩,fun k=>?_⟩
 ·have:=(vP.mp m).2;rw[<-e]at this;simp[d]at this
 ·rw[vh,vP];constructor
  ·rintro(g | ⟨a,_⟩)
   ·rcases(h k).mp g with z | ⟨x,d,a⟩
    ·exact .inl z
    ·exact .inr ⟨x,mem_append_left _ d,a⟩
   ·exact .inr ⟨j,mem_append_right _ vq,a⟩
  ·rintro(z | ⟨x,d,a⟩)
   ·exact .inl ((h k).mpr (.inl z))
   ·rcases vh.mp d with z | z
    ·exact .inl ((h k).mpr (.inr ⟨x,z,a⟩))
    ·rw[vo.mp z]at a;by_cases c:k∈b
     ·exact .inl c
     ·exact .inr ⟨a,by simpa using c⟩
noncomputable def limC(L:List Str)(f:Fn):List Nat:=(List.range L.length).filter fun k=>f.rz&&decide (L.getD k ⟨#[]⟩=f.x)
theorem j2U{L:List Str}{M:List (List Int)}{n:Nat}{f:Fn}{ks:List Int}(c:∀j∈f.js,j<n)(o:ks.Nodup)(h:∀k,k∈ks↔k∈(limC L f).map (fun i:Nat=>(i:Int))\/∃x∈numsC n f,k∈M.getD x []):MovU L M f ks:=by
 refine⟨o,fun k=>(h k).trans ?_⟩;constructor
 ·rintro(z | ⟨x,l,g⟩)
  ·obtain⟨i,d,rfl⟩:=vK.mp z;obtain⟨b,a⟩:=vP.mp d;rw[v6]at b;rw[Bool.and_eq_true,decide_eq_true_eq]at a;refine .inr ?_;cases f with
   | rise x v m=>
    refine⟨x,v,m,i,rfl,?_,rfl⟩;have e:L.getD i ⟨#[]⟩=x:=a.2;rw[vy,vz b]at e;rw[vz b,<-e];rfl
   | hold m=>cases a.1
   | ring x m=>cases a.1
   | row is=>cases a.1
   | side is=>cases a.1
   | again k j=>cases a.1
  ·exact .inl ⟨x,(Zn c x).mp l,g⟩
 ·rintro(⟨j,b,a⟩ | ⟨x,v,m,i,rfl,e,rfl⟩)
  ·exact .inr ⟨j,(Zn c j).mpr b,a⟩
  ·refine .inl (vK.mpr ⟨i,vP.mpr ⟨v6.mpr (vx.mp e).1,?_⟩,rfl⟩);rw[vy,e];show(true&&decide (x=x))=true;simp
theorem j2R{L:List Str}{f:Fn}:((limC L f).map (fun i:Nat=>(i:Int))).Nodup:=by
 have a:(limC L f).Nodup:=nodup_range.filter _;exact(pairwise_map.mpr (a.imp fun h z=>h (by lia)))
theorem j2Q{L:List Str}{f:Fn}:∀k∈(limC L f).map (fun i:Nat=>(i:Int)),0<=k/\k<(L.length:Int):=fun k b=>by
 obtain⟨i,a,rfl⟩:=vK.mp b;have:=v6.mp (vP.mp a).1;lia
theorem j3p{gs:List Int}{n:Nat}{is:List Nat}(h:∀j∈is,j<n) :
  ((numsC n (.row is)).map fun k=>gs.getD k 0*((is.filter fun j=>decide (j=k)).length:Nat)).sum=(is.map fun j=>gs.getD j 0).sum:=by
 rw[<-KK (g:=fun j=>gs.getD j 0) is h];unfold numsC;refine Zc _ fun k b=>?_
 have e:is.filter (fun j=>decide (j=k))=[]:=List.filter_eq_nil_iff.mpr fun j a=>by
  have:¬k∈is:=of_decide_eq_false b;simp only[decide_eq_true_eq];intro z;exact this (z▸a)
 rw[e];show gs.getD k 0*((0:Nat):Int)=0;rw[show((0:Nat):Int)=0 from rfl,Int.mul_zero]
theorem w6{B:Int}:∀{xs:List Int},(∀x∈xs,0<=x/\x<=B)->0<=xs.sum/\xs.sum<=(xs.length:Int)*B
 | [],_=>⟨vA _,by simp⟩
 | x::xs,h=>by
  obtain⟨a,b⟩:=w6 (xs:=xs) fun y d=>h y (vp _ d)
  have c:=h x vq;rw[ux,vQ];refine⟨by lia,?_⟩;rw[show(((xs.length+1:Nat)):Int)=(xs.length:Int)+1 from rfl,Int.add_mul,Int.one_mul];lia
theorem j2O{L:List Str}{t:List (List Int)}{gs:List Int}{n:Nat}{f:Fn}{g B:Int}(p:PreN L t n f)(u:AgB gs f)(l:LenN gs f g)(w:10^40<=B)(b:∀j,j<n->1<=gs.getD j 0/\gs.getD j 0<=B):1<=g/\g<=8*B:=by
 cases f with
 | hold m=>obtain⟨c,h⟩:=p;have e:g=m:=l;lia
 | ring x m=>obtain⟨c,h,_⟩:=p;have e:g=m:=l;lia
 | rise x v m=>obtain⟨_,_,_,c,h⟩:=p;have e:g=m:=l;lia
 | row is=>
  obtain⟨c,h,a⟩:=p;have e:g=(is.map fun j=>gs.getD j 0).sum:=l;have q:=w6 (B:=B) (xs:=is.map fun j=>gs.getD j 0) fun x i=>by
   obtain⟨j,d,rfl⟩:=vK.mp i;have:=b j (a j d);exact⟨by lia,this.2⟩
  rw[vt]at q;have r:(is.length:Int)*B<=8*B:=Int.mul_le_mul_of_nonneg_right (by lia) (by lia);refine⟨?_,by lia⟩;cases is with
  | nil=>exact ud rfl c
  | cons j js=>
   rw[e,uy,ux];have y:=b j (a j vq);have:=(w6 (B:=B) (xs:=js.map fun j=>gs.getD j 0) fun x i=>by
    obtain⟨s,d,rfl⟩:=vK.mp i;have:=b s (a s (vp _ d));exact⟨by lia,this.2⟩).1
   lia
 | side is=>
  obtain⟨_,_,a,_⟩:=p;obtain⟨⟨j,d,e⟩,_⟩:=l;have:=b j (a j d);lia
 | again k j=>
  obtain⟨c,h,a⟩:=p;have e:g=k*gs.getD j 0:=l;have o:=b j a;refine⟨?_,?_⟩
  ·have:=Int.mul_le_mul c o.1 (by decide) (by lia);lia
  ·rcases u k j rfl with z | z
   ·lia
   ·have:=Int.mul_le_mul z o.2 (by lia) (by decide);lia
theorem xg{names:List Str}{a:List Fn}{f:Fn}:drawnPs names (a++[f])=drawnPs names a++[(names.getD a.length ⟨#[]⟩,toldF names f)]:=by
 refine List.ext_getElem? fun i=>?_
 unfold drawnPs;rw[vn,vS,range_succ,vj];congr 2
 ·refine map_congr_left fun j b=>?_
  rw[Jn (v6.mp b)]
 ·rw[uy,jT];rfl
structure Sep(pl pp m g:Addr)(mas:List Addr):Prop where
 lp:pl≠pp
 lm:pl≠m
 lg:pl≠g
 pm:pp≠m
 pg:pp≠g
 mg:m≠g
 ma:∀a∈mas,a≠pp/\a≠m/\a≠g
inductive sp_putC(vs:List V)(H:Hp)(Q:VK)(xk:XK):Prop
 | mk (b pl pp m g a:Addr) (las pas mas:List Addr) (ls:List (Str×Int)) (names:List Str) (fs:List Fn) (Mv:List (List Int)) (gs:List Int) (f:Fn) (B:Int) (_:vs=[.ref b,.ref m,.ref g,.str (names.getD fs.length ⟨#[]⟩),.ref a]) (_:BkC b pl pp m g las pas mas ls names fs Mv gs H) (_:Sep pl pp m g mas) (_:MvOk ls.length Mv) (_:FormAt H a (toldF names f)) (_:PreN (nmsOf ls) Mv fs.length f) (_:AgB gs f) (_:fs.length<names.length) (_:fs.length<30) (_:names.Nodup) (_:10^40<=B) (_:8*B<=10^60) (_:(∀j,j<fs.length->gs.getD j 0<=B)) (_:∀(c a1:Addr) (ks:List Int) (gg:Int) (H':Hp),(∀x u,x≠pp->x≠m->x≠g->H x=some u->H' x=some u)->BkC b pl pp m g las (pas++[c]) (mas++[a1]) ls names (fs++[f]) (Mv++[ks]) (gs++[gg]) H'->Sep pl pp m g (mas++[a1])->MovU (nmsOf ls) Mv f ks->LenN gs f gg->gg<=8*B->Q .non H'):sp_putC vs H Q xk
noncomputable def ordB(t:Nat):List Str:=match t with
 | 0=>["arm","armm","head"]
 | 1=>["head","armm","arm"]
 | _=>["armm","head","arm"]
noncomputable def ordC(t:Nat):List Str:=ordB t++[("leg" : Str),"wing","tail","eye","paw"]
noncomputable def nmC(p c:Nat)(x:Str):List Str:=(List.range 13).map fun k=>if c=1/\k=1 then x else wdC p k
theorem j31{p c:Nat}{x:Str}:(nmC p c x).length=13:=by unfold nmC;rw[vt,length_range]
theorem j30{p c:Nat}{x:Str}{k:Nat}(h:k<13):(nmC p c x).getD k ⟨#[]⟩=if c=1/\k=1 then x else wdC p k:=by
 unfold nmC;rw[vy,vv,List.getElem?_range h];rfl
theorem j2Z:∀p,p<4->∀c,c<2->∀t,t<3->(decide (nmC p c ((ordC t).getD 0 ⟨#[]⟩)).Nodup&&(nmC p c ((ordC t).getD 0 ⟨#[]⟩)).all fun x=>Ws.isW x)=true:=by decide +kernel
theorem j4j{p c t:Nat}(b:p<4)(a:c<2)(d:t<3):(nmC p c ((ordC t).getD 0 ⟨#[]⟩)).Nodup/\∀x∈nmC p c ((ordC t).getD 0 ⟨#[]⟩),Ws.isW x=true:=by
 have h:=j2Z p b c a t d;rw[Bool.and_eq_true,decide_eq_true_eq,all_eq_true]at h;exact h
theorem j1D:∀t,t<3->(decide (ordC t).Nodup&&(ordC t).all fun x=>Ws.isW x)=true:=by decide +kernel
theorem j3b{t:Nat}(a:t<3):(ordC t).Nodup/\∀x∈ordC t,Ws.isW x=true:=by
 have h:=j1D t a;rw[Bool.and_eq_true,decide_eq_true_eq,all_eq_true]at h;exact h
theorem j1E{t:Nat}:(ordC t).length=8:=by
 unfold ordC ordB;split<;>rfl
structure DUk(L:List Str)(fs:List Fn)(M:List (List Int))(gs:List Int):Prop where
 ml:M.length=fs.length
 gl:gs.length=fs.length
 f:∀(i:Nat) (f:Fn),fs[i]?=some f->PreN L M i f/\MovU L M f (M.getD i [])/\LenN gs f (gs.getD i 0)
 g:∀i,i<fs.length->1<=gs.getD i 0/\gs.getD i 0<=10^40*8^(i+1)
theorem MovU.ext{L:List Str}{M:List (List Int)}{ks d:List Int}{f:Fn}(c:∀j∈f.js,j<M.length)(h:MovU L M f d):MovU L (M++[ks]) f d:=by
 refine⟨h.1,fun k=>(h.2 k).trans ?_⟩;have:(∃j∈f.js,k∈M.getD j [])↔∃j∈f.js,k∈(M++[ks]).getD j []:=by
  constructor
  ·rintro⟨j,a,b⟩;exact⟨j,a,by rw[Jn (c j a)];exact b⟩
  ·rintro⟨j,a,b⟩;exact⟨j,a,by rw[Jn (c j a)]at b;exact b⟩
 rw[this]
theorem DUk.nil{L:List Str}:DUk L [] [] []:=⟨rfl,rfl,fun i f h=>by simp at h,fun i h=>ud h (Nat.not_lt_zero i)⟩
theorem DUk.add{L:List Str}{h:List Fn}{M:List (List Int)}{gs:List Int}{f:Fn}{ks:List Int}{g:Int}(D:DUk L h M gs)(r:PreN L M h.length f)(u:MovU L M f ks)(v:LenN gs f g)(w:1<=g/\g<=10^40*8^(h.length+1)):DUk L (h++[f]) (M++[ks]) (gs++[g]):=by
 have s:=D.ml;have o:=D.gl;refine⟨by simp[s],by simp[o],fun i q d=>?_,fun i l=>?_⟩
 ·by_cases l:i<h.length
  ·rw[vB l]at d;obtain⟨a,b,c⟩:=D.f i q d;have m:=a.js.2;rw[Jn (by lia),Jn (by lia)];exact⟨a.ext (by lia),b.ext fun j k=>by have:=m j k;lia,c.ext fun j k=>by have:=m j k;lia⟩
  ·rw[vC (by lia)]at d;have p:i=h.length:=by
    have:=(vx.mp d).1;simp at this;lia
   subst p;rw[uo]at d;have e:q=f:=(vL d).symm;subst e;have m:=r.js.2;have t:(M++[ks]).getD h.length []=ks:=by rw[<-s];exact jT
   have n:(gs++[g]).getD h.length 0=g:=by rw[<-o];exact jT
   rw[t,n];exact⟨r.ext (by lia),u.ext fun j k=>by have:=m j k;lia,v.ext fun j k=>by have:=m j k;lia⟩
 ·rw[vn]at l;have l:i<h.length+1:=l;by_cases c:i<h.length
  ·rw[Jn (by lia)];exact D.g i c
  ·have e:i=h.length:=by lia
   subst e;have n:(gs++[g]).getD h.length 0=g:=by rw[<-o];exact jT
   rw[n];exact w
theorem pow8{i n:Nat}(h:i<=n):(10:Int)^40*8^i<=10^40*8^n:=by
 have:(8:Int)^i<=8^n:=by
  obtain⟨k,rfl⟩:=Nat.exists_eq_add_of_le h;rw[Int.pow_add];have a:(1:Int)<=8^k:=Int.add_one_le_iff.mpr (Int.pow_pos (by decide));have b:(0:Int)<8^i:=Int.pow_pos (by decide);have:=Int.mul_le_mul_of_nonneg_left a (Int.le_of_lt b);lia
 exact Int.mul_le_mul_of_nonneg_left this (by decide)
theorem DUk.bnd{L:List Str}{a:List Fn}{M:List (List Int)}{gs:List Int}(D:DUk L a M gs):∀j,j<a.length->gs.getD j 0<=10^40*8^a.length:=fun j b=>vX (D.g j b).2 (pow8 b)
theorem wR{n:Nat}(h:n<=13):(10:Int)^40*8^n<=10^60:=vX (pow8 h) (by decide)
noncomputable def srtC(ks:List Int):List Int:=((List.range 8).filter fun k:Nat=>decide ((k:Int)∈ks)).map fun k:Nat=>(k:Int)
theorem WR{ks:List Int}(h:∀k∈ks,0<=k/\k<8)(k:Int):k∈srtC ks↔k∈ks:=by
 unfold srtC;constructor
 ·intro z;obtain⟨j,a,rfl⟩:=vK.mp z;exact of_decide_eq_true (vP.mp a).2
 ·intro z;have:=h k z;refine vK.mpr ⟨k.toNat,vP.mpr ⟨v6.mpr (by lia),?_⟩,by lia⟩;rw[show((k.toNat:Nat):Int)=k by lia];exact vG z
theorem j3s{ks:List Int}:(srtC ks).Pairwise (· < ·):=by
 unfold srtC;refine pairwise_map.mpr ?_;refine(List.Pairwise.filter _ (List.pairwise_lt_range (n:=8))).imp fun {a b} h=>?_
 lia
theorem j29{ks:List Int}(h:∀k∈ks,0<=k/\k<8)(n:ks≠[]):srtC ks≠[]:=fun z=>by
 obtain⟨k,a⟩:=List.exists_mem_of_ne_nil ks n;have:=(WR h k).mpr a;rw[z]at this;cases this
theorem DUk.sorted{L:List Str}{l:List Fn}{M:List (List Int)}{gs:List Int}(D:DUk L l M gs)(B:MvOk L.length M)(E:L.length<=8)(C:l.length<=12):DOk L l (M.map srtC) gs:=by
 have A:=D.ml;have n:∀j,(M.map srtC).getD j []=srtC (M.getD j []):=fun j=>by
  rw[vy,vy,vv];cases M[j]? with
  | none=>exact(by decide +kernel:([]:List Int)=srtC [])
  | some x=>rfl
 have r:∀j,∀k∈M.getD j [],0<=k/\k<8:=fun j k o=>by
  have:=(Xw B j).2 k o;lia
 have g:∀j k,k∈(M.map srtC).getD j []↔k∈M.getD j []:=fun j k=>by rw[n];exact WR (r j) k
 refine⟨by rw[vt];exact A,D.gl,fun i f w=>?_,fun i q=>⟨(D.g i q).1,vX (D.g i q).2 (wR (by lia))⟩⟩;obtain⟨a,b,c⟩:=D.f i f w;refine⟨?_,⟨by rw[n];exact j3s,fun k=>(g i k).trans ((b.2 k).trans ?_)⟩,c⟩
 ·cases f with
  | side is=>
   obtain⟨d,e,s,t,u⟩:=a;refine⟨d,e,s,fun j z=>by rw[n];exact j29 (r j) (t j z),u.imp fun {x y} h k o p=>h k ((g x k).mp o) ((g y k).mp p)⟩
  | hold m=>exact a
  | ring x m=>exact a
  | rise x v m=>exact a
  | row is=>exact a
  | again k j=>exact a
 ·have:(∃j∈f.js,k∈M.getD j [])↔∃j∈f.js,k∈(M.map srtC).getD j []:=by
   constructor
   ·rintro⟨j,d,e⟩;exact⟨j,d,(g j k).mpr e⟩
   ·rintro⟨j,d,e⟩;exact⟨j,d,(g j k).mp e⟩
  rw[this]
theorem BkC.same{b pl j m g:Addr}{c e d:List Addr}{ls:List (Str×Int)}{names:List Str}{i:List Fn}{f:List (List Int)}{gs:List Int}{H H':Hp}(C:BkC b pl j m g c e d ls names i f gs H)(s:Same H H'):BkC b pl j m g c e d ls names i f gs H':=
 ⟨C.bk.same s,s _ _ C.em,C.am.mono fun a k h=>s _ _ h,s _ _ C.eg,C.nn,C.ml,C.gl,C.n60,C.m8,C.g0,C.l1,C.l8⟩
theorem BkC.ex{p b pl j m g:Addr}{e f d:List Addr}{ls:List (Str×Int)}{names:List Str}{l:List Fn}{k:List (List Int)}{gs:List Int}{H H':Hp}{xs:List V}(C:BkC b pl j m g e f d ls names l k gs H)(x:Ex p H H')(ep:H p=some (.lst xs))
  (n:pl≠p) (o:j≠p) (q:m≠p) (r:g≠p) (s:∀a∈d,a≠p):BkC b pl j m g e f d ls names l k gs H':=by
 have i:∀c xs,H c=some (.tup xs)->H' c=some (.tup xs):=fun c xs h=>x _ _ (Qf h ep fun z=>by cases z) h
 exact⟨⟨i _ _ C.bk.t,x _ _ n C.bk.l,C.bk.la.mono fun c u h=>i _ _ h,x _ _ o C.bk.p,C.bk.pa.mono fun c u h=>PartAt.keep i h⟩,x _ _ q C.em,All2.monoM C.am fun a t v h=>x _ _ (s a t) h,x _ _ r C.eg,C.nn,C.ml,C.gl,C.n60,C.m8,C.g0,C.l1,C.l8⟩
theorem j4U{xs:List V}:cutV xs (some (-3)) none=xs.drop (xs.length-3):=by
 have e:HT.sIx xs.length 0 (some (-3))=xs.length-3:=by
  have:=HT.K5 (-3) xs.length 0;rw[vd (by decide)]at this;lia
 unfold cutV;rw[e,HT.j1Z];exact take_of_length_le (by rw[length_drop];lia)
noncomputable def lastC(n:Nat):List Nat:=(List.range n).drop (n-3)
theorem Wu{n j:Nat}(h:j∈lastC n):j<n:=v6.mp (List.mem_of_mem_drop h)
theorem j01{n:Nat}(h:2<=n):2<=(lastC n).length/\(lastC n).length<=3:=by
 unfold lastC;rw[length_drop,length_range];lia
theorem DOk.bkok{ls:List (Str×Int)}{names:List Str}{c:List Fn}{M:List (List Int)}{gs:List Int}(D:DOk (nmsOf ls) c M gs)(A:ls.length<=8)(u:∀q∈ls,0<=q.2/\q.2<=10^18)(t:∀x∈nmsOf ls,Ws.isW x=true)
  (B:∀x∈names,Ws.isW x=true) (C:c.length<=names.length) (n:c.length<=61):BkOk ls (drawnPs names c):=by
 have l:∀{j:Nat},j<c.length->Ws.isW (names.getD j ⟨#[]⟩)=true:=fun h=>B _ (getD_in (by lia))
 refine⟨A,fun p g=>⟨t _ (vK.mpr ⟨p,g,rfl⟩),(u p g).1,(u p g).2⟩,by rw[jM];exact n,fun p g=>?_⟩;obtain⟨i,y⟩:=List.mem_iff_getElem?.mp g;obtain⟨f,s,rfl⟩:=Jl y;have z:=(vx.mp s).1;have a:=(D.f i f s).1;refine⟨l z,?_⟩;cases f with
 | hold m=>exact⟨by have:=a.1;lia,a.2⟩
 | ring x m=>exact⟨a.2.2,by have:=a.1;lia,a.2.1⟩
 | rise x v m=>
  obtain⟨⟨j,e⟩,r,b,d,w⟩:=a;exact⟨t x (vm e),r,b,by lia,w⟩
 | row is=>
  obtain⟨_,b,d⟩:=a;refine⟨by rw[vt];exact b,fun x o=>?_⟩;obtain⟨j,e,rfl⟩:=vK.mp o;exact l (by have:=d j e;lia)
 | side is=>
  obtain⟨_,b,d,_⟩:=a;refine⟨by rw[vt];exact b,fun x o=>?_⟩;obtain⟨j,e,rfl⟩:=vK.mp o;exact l (by have:=d j e;lia)
 | again k j=>
  obtain⟨r,b,d⟩:=a;exact⟨by lia,b,l (by lia)⟩
section
variable{ls:List (Str×Int)}{ps qs:List (Str×Fm)}{C:Nat->Nat->Prop}{g:Nat->Nat}{gs gs':List Int}{hs hs':List (List Int)}
theorem K6(S:Snd ls ps gs hs)(m:Snd ls qs gs' hs')(R:Cor ps qs C g):∀i k,C i k->gs'.getD k 0=gs.getD i 0:=by
 intro i
 induction i using Nat.strongRecOn with
 | ind i ih=>
  intro k e;obtain⟨o,p⟩:=R.lt i k e;have c:ps[i]?=some ps[i]:=vz o;have d:qs[k]?=some qs[k]:=vz p;obtain⟨t,a,f⟩:=R.f i k _ _ e c d;have n:(inP qs qs[k].2).map (fun j=>gs'.getD j 0)=(inP ps ps[i].2).map fun j=>gs.getD j 0:=by
   rw[a,v8];exact map_congr_left fun j h=>ih j (f j h).1 (g j) (f j h).2
  obtain⟨q,s⟩:=S.ln i _ c;obtain⟨r,b⟩:=m.ln k _ d;obtain⟨v,l⟩:=j16 q;rw[<-s v l];exact(b v (by rw[n];exact((Z5 t).2 v).mp l)).symm
noncomputable def mvG(g:Nat->Nat)(q:Pc):Pc:=(g q.1,q.2)
theorem j0p{is:List Nat}(h:∀j∈is,gs'.getD (g j) 0=gs.getD j 0):∀b,rowPc gs' (is.map g) b=(rowPc gs is b).map (mvG g):=by
 induction is with
 | nil=>exact fun _=>rfl
 | cons j r ih=>
  intro b;rw[uy,rowPc,rowPc,h j vq,ih (fun j a=>h j (vp _ a))];rfl
theorem j3c{p q:Fm}{is:List Nat}(a:RenF (fun _ _=>True) p q)(h:∀j∈is,gs'.getD (g j) 0=gs.getD j 0):pcsI gs' q (is.map g)=(pcsI gs p is).map (mvG g):=by
 cases p with
 | row xs=>
  obtain⟨b,rfl,_⟩:=a;exact j0p h 0
 | side xs=>
  obtain⟨b,rfl,_⟩:=a;show(is.map g).map _=(is.map _).map _;rw[v8,v8];rfl
 | again m x=>
  obtain⟨y,rfl,_⟩:=a;cases is with
  | nil=>rfl
  | cons j r=>
   show(g j,1,0)::(if 1<m then[(g j,m-1,gs'.getD (g j) 0)]else[])=((j,1,0)::(if 1<m then[(j,m-1,gs.getD j 0)]else[])).map (mvG g);rw[h j vq,uy];split<;>rfl
 | hold n=>
  have:q = .hold n:=a;subst this;show(is.map g).map _=(is.map _).map _;rw[v8,v8];rfl
 | ring x n=>
  have:q = .ring x n:=a;subst this;show(is.map g).map _=(is.map _).map _;rw[v8,v8];rfl
 | rise x v n=>
  have:q = .rise x v n:=a;subst this;show(is.map g).map _=(is.map _).map _;rw[v8,v8];rfl
noncomputable def mv2(g:Nat->Nat)(x:Nat×Int):Nat×Int:=(g x.1,x.2)
theorem XT{t:Int}:∀{l:List Pc},(∀q∈l,gs'.getD (g q.1) 0=gs.getD q.1 0)->wth gs' t (l.map (mvG g))=(wth gs t l).map (mv2 g)
 | [],_=>rfl
 | q::r,h=>by
  have a:=h q vq;have b:=XT (t:=t) (l:=r) fun y e=>h y (vp _ e)
  have d:ov gs' t (mvG g q)=ov gs t q:=by
   unfold ov mvG;dsimp only;rw[a]
  have c:prg1 gs' t (mvG g q)=(prg1 gs t q).map fun y=>(g y.1,y.2):=by
   unfold prg1;rw[d];unfold mvG;dsimp only;rw[a];split<;>rfl
  unfold wth prg at b|-;rw[uy,filterMap_cons,c,filterMap_cons];cases hp:prg1 gs t q with
  | none=>exact b
  | some y=>
   have f:y.1=q.1:=ku hp;show((g y.1,y.2)::_).flatMap (wth1 gs')=((y::_).flatMap (wth1 gs)).map (mv2 g);rw[flatMap_cons,flatMap_cons,vj,b];congr 1;unfold wth1;dsimp only;rw[f,a,vj];congr 1
   ·split<;>rfl
   ·split<;>rfl
theorem XY(N:Sn ls ps gs hs)(w:Sn ls qs gs' hs')(R:Cor ps qs C g):∀i k,C i k->∀t,∃zs:List ((Nat×Nat)×Int),reach ps gs i t=zs.map (fun z=>(z.1.1,z.2))/\reach qs gs' k t=zs.map (fun z=>(z.1.2,z.2))/\∀z∈zs,C z.1.1 z.1.2:=by
 have n:=K6 N.s w.s R;intro i
 induction i using Nat.strongRecOn with
 | ind i ih=>
  intro k d t;obtain⟨K,L⟩:=R.lt i k d;have s:ps[i]?=some ps[i]:=vz K;have A:qs[k]?=some qs[k]:=vz L;obtain⟨Q,p,u⟩:=R.f i k _ _ d s A;have a:pcB qs gs' k=(pcB ps gs i).map (mvG g):=by
   unfold pcB;rw[s,A];show pcsI gs' qs[k].2 (inP qs qs[k].2)=_;rw[p];exact j3c Q fun j M=>n j (g j) (u j M).2
  have m:∀q∈pcB ps gs i,q.1∈inP ps ps[i].2:=fun q b=>by
   unfold pcB at b;rw[s]at b;exact Y9 b
  have H:wth gs' t (pcB qs gs' k)=(wth gs t (pcB ps gs i)).map (mv2 g):=by
   rw[a];exact XT fun q b=>n _ _ (u _ (m q b)).2
  by_cases c:gs.getD i 0<=t\/pcB ps gs i=[]
  ·have o:gs'.getD k 0<=t\/pcB qs gs' k=[]:=by
    rw[n i k d,a];rcases c with c | c
    ·exact .inl c
    ·exact .inr (by rw[c];rfl)
   rw[JB c,JB o];exact⟨[((i,k),t)],rfl,rfl,fun z f=>by rw[vo.mp f];exact d⟩
  ·have o:¬(gs'.getD k 0<=t\/pcB qs gs' k=[]):=by
    rw[n i k d,a];rintro(z | z)
    ·exact c (.inl z)
    ·exact c (.inr (List.map_eq_nil_iff.mp z))
   rw[qz N.s.w c,qz w.s.w o,H];have v:∀l:List (Nat×Int),(∀x∈l,x.1<i/\C x.1 (g x.1))->∃zs:List ((Nat×Nat)×Int),(l.flatMap fun x=>reach ps gs x.1 x.2)=zs.map (fun z=>(z.1.1,z.2))/\((l.map (mv2 g)).flatMap fun x=>reach qs gs' x.1 x.2)=zs.map (fun z=>(z.1.2,z.2))/\∀z∈zs,C z.1.1 z.1.2:=fun l=>by
    induction l with
    | nil=>exact fun _=>⟨[],rfl,rfl,fun z f=>nomatch f⟩
    | cons x r ihl=>
     intro h;obtain⟨I,J⟩:=h x vq;obtain⟨S,B,U,D⟩:=ih x.1 I (g x.1) J x.2;obtain⟨T,E,F,G⟩:=ihl fun y P=>h y (vp _ P)
     refine⟨S++T,by rw[flatMap_cons,B,E,vj],?_,fun z f=>(vh.mp f).elim (D z) (G z)⟩;rw[uy,flatMap_cons,F,vj];congr 1
   refine v _ fun x O=>?_
   obtain⟨q,b,e⟩:=wB O;rw[e];exact u _ (m q b)
theorem j0K(N:Sn ls ps gs hs)(R:Cor ps qs C g)(t:1<=qs.length)(B:WfB ls qs):∃gs' hs',Sn ls qs gs' hs'/\gs'.getD (qs.length-1) 0=gs.getD (ps.length-1) 0:=by
 obtain⟨gs',hs',o,e,j,A⟩:=j2x N.s N.hl N.m R t B;have u:=K6 N.s o R;have r:∀(k:Nat) (q:Str×Fm),qs[k]?=some q->∃(i:Nat) (p:Str×Fm),ps[i]?=some p/\RenF (fun _ _=>True) p.2 q.2:=fun k q b=>by
  have h:=(vx.mp b).1;obtain⟨i,d⟩:=R.ex k h;have s:=(R.lt i k d).1;exact⟨i,_,vz s,(R.f i k _ _ d (vz s) b).1⟩
 refine⟨gs',hs',⟨o,j,A,fun k h=>?_,t,N.l18,fun k y x v n b=>?_,fun k y x m b=>?_⟩,e⟩
 ·obtain⟨i,d⟩:=R.ex k h;rw[u i k d];exact N.g1 i (R.lt i k d).1
 ·obtain⟨i,p,l,a⟩:=r k _ b;have D:=a.rise'.mpr rfl;exact N.r18 i p.1 x v n (by rw[l];exact congrArg some (Prod.ext rfl D))
 ·obtain⟨i,p,l,a⟩:=r k _ b;obtain⟨z,f⟩:=p;cases f with
  | again m' x'=>
   obtain⟨E,c,_⟩:=a;cases c;exact N.a18 i z x' _ l
  | row xs=>obtain⟨_,c,_⟩:=a;cases c
  | side xs=>obtain⟨_,c,_⟩:=a;cases c
  | hold n=>exact ud (show Fm.again m x = .hold n from a) (fun z=>nomatch z)
  | ring w n=>exact ud (show Fm.again m x = .ring w n from a) (fun z=>nomatch z)
  | rise w v n=>exact ud (show Fm.again m x = .rise w v n from a) (fun z=>nomatch z)
theorem Wk(N:Sn ls ps gs hs)(i:Sn ls qs gs' hs')(R:Cor ps qs C g){E F:List (List (Int×Int))}(u:E.length=ps.length)(A:F.length=qs.length)(B:EndOk ls ps E)(D:EndOk ls qs F)(t:Int) :
  standH ls qs gs' F t=standH ls ps gs E t/\ringsW qs gs' t=ringsW ps gs t:=by
 have o:=K6 N.s i.s R;have CE:=j2v R u A B D;obtain⟨J,j,k,l⟩:=XY N i R _ _ R.top t;unfold standH ringsW;rw[j,k];clear j k;generalize ls.map (·.2)=h
 induction J generalizing h with
 | nil=>exact⟨rfl,rfl⟩
 | cons z r c=>
  have b:=l z vq;have c:=c fun y I=>l y (vp _ I)
  obtain⟨G,H⟩:=R.lt _ _ b;have d:ps[z.1.1]?=some ps[z.1.1]:=vz G;have e:qs[z.1.2]?=some qs[z.1.2]:=vz H;obtain⟨a,_⟩:=R.f _ _ _ _ b d e;have s:appH ls qs gs' F h (z.1.2,z.2)=appH ls ps gs E h (z.1.1,z.2):=by
   unfold appH;dsimp only;rw[o _ _ b,CE _ _ b,d,e];split
   ·rfl
   ·generalize ps[z.1.1]=p at a;generalize qs[z.1.2]=q at a;obtain⟨x,p⟩:=p;obtain⟨y,q⟩:=q;dsimp only at a|-;cases p with
    | row xs=>obtain⟨f,rfl,_⟩:=a;rfl
    | side xs=>obtain⟨f,rfl,_⟩:=a;rfl
    | again m x=>obtain⟨y,rfl,_⟩:=a;rfl
    | hold n=>have:q = .hold n:=a;subst this;rfl
    | ring x n=>have:q = .ring x n:=a;subst this;rfl
    | rise x v n=>have:q = .rise x v n:=a;subst this;rfl
  have w:ringX qs (z.1.2,z.2)=ringX ps (z.1.1,z.2):=by
   unfold ringX;dsimp only;rw[d,e];generalize ps[z.1.1]=p at a;generalize qs[z.1.2]=q at a;obtain⟨x,p⟩:=p;obtain⟨y,q⟩:=q;dsimp only at a|-;cases p with
   | row xs=>obtain⟨f,rfl,_⟩:=a;rfl
   | side xs=>obtain⟨f,rfl,_⟩:=a;rfl
   | again m x=>obtain⟨y,rfl,_⟩:=a;rfl
   | hold n=>have:q = .hold n:=a;subst this;rfl
   | ring x n=>have:q = .ring x n:=a;subst this;rfl
   | rise x v n=>have:q = .rise x v n:=a;subst this;rfl
  rw[uy,uy,v9,v9,flatMap_cons,flatMap_cons,s,w];exact⟨(c _).1,by rw[(c h).2]⟩
end
theorem xJ:∀{l:List (Int×Int)} {k v a:Int},(l.map (·.1)).Pairwise (· < ·)->(k,v)∈l->(k,a)∈l->v=a
 | [],_,_,_,_,m,_=>nomatch m
 | q::r,k,v,a,p,m,m'=>by
  rw[uy,vV]at p;rcases mem_cons.mp m with e | n<;>rcases mem_cons.mp m' with e' | n'
  ·rw[<-e]at e';cases e';rfl
  ·rw[<-e]at p;exact ud (p.1 _ (vK.mpr ⟨_,n',rfl⟩)) (Int.lt_irrefl _)
  ·rw[<-e']at p;exact ud (p.1 _ (vK.mpr ⟨_,n,rfl⟩)) (Int.lt_irrefl _)
  ·exact xJ p.2 n n'
theorem j03(r:∀j∈is,((E.getD j []).map (·.1)).Pairwise (· < ·))(a:LastIn E is k v)(b:LastIn E is k v'):v=v':=by
 obtain⟨t,j,n,e,g,q⟩:=a;obtain⟨o,s,i,l,d,h⟩:=b;rw[e]at l;have m:=r j (by rw[e];simp);rcases List.append_eq_append_iff.mp l with⟨f,p,c⟩ | ⟨f,p,c⟩
 ·cases f with
  | nil=>
   rw[nil_append]at c;injection c with e3 e4;subst e3;exact xJ m g d
  | cons x f=>
   rw[List.cons_append]at c;injection c with e3 e4;exact ud d (q s (by rw[e4];simp) v')
 ·cases f with
  | nil=>
   rw[nil_append]at c;injection c with e3 e4;subst e3;exact xJ m g d
  | cons x f=>
   rw[List.cons_append]at c;injection c with e3 e4;exact ud g (h j (by rw[e4];simp) v)
section
variable{L:List Str}{fs:List Fn}{M:List (List Int)}{gs:List Int}{names:List Str}{E:List (List (Int×Int))}
open Classical in
theorem EN.ex(D:DOk L fs M gs)(p:L.Nodup):∀n,n<=fs.length->∃E:List (List (Int×Int)),E.length=n/\EN L fs n E
 | 0,_=>⟨[],rfl,fun i f h=>ud h (Nat.not_lt_zero _)⟩
 | n+1,hn=>by
  obtain⟨E,Q,e⟩:=EN.ex D p n (by lia);obtain⟨f,N⟩:∃f,fs[n]?=some f:=⟨_,vz (by lia)⟩
  obtain⟨l,_,_⟩:=D.f n f N;have C:=l.js.2;have R:∀k v,(LastIn E f.js k v\/∃x m,f = .rise x v m/\k=(ixOf L x:Nat))->0<=k/\k<L.length:=by
   rintro k v (h | ⟨x,m,rfl,rfl⟩)
   ·obtain⟨j,d,s,F⟩:=Yv.mp ⟨v,h⟩;exact D.bnd j (by have:=C j d;lia) k (e.mov D p (by lia) (C j d) (k,s) F)
   ·obtain⟨⟨i,t⟩,_⟩:=l;rw[j4 p t];have:=(vx.mp t).1;lia
  have Z:∀k v s,(LastIn E f.js k v\/∃x m,f = .rise x v m/\k=(ixOf L x:Nat))->(LastIn E f.js k s\/∃x m,f = .rise x s m/\k=(ixOf L x:Nat))->v=s:=by
   rintro k v s (h | ⟨x,m,K,rfl⟩) (B | ⟨x',m',o,B⟩)
   ·refine j03 (fun j d=>?_) h B;obtain⟨g,q⟩:∃g,fs[j]?=some g:=⟨_,vz (by have:=C j d;lia)⟩
    exact(e j g (C j d) q).1
   ·rw[o]at h;obtain⟨l,j,w,z,_⟩:=h;simp[Fn.js]at z
   ·rw[K]at B;obtain⟨l,j,w,z,_⟩:=B;simp[Fn.js]at z
   ·rw[K]at o;cases o;rfl
  generalize U:(fun k v=>(LastIn E f.js k v\/∃x m,f = .rise x v m/\k=(ixOf L x:Nat)))=P;have A:∀k v,(LastIn E f.js k v\/∃x m,f = .rise x v m/\k=(ixOf L x:Nat))↔P k v:=fun k v=>by rw[<-U]
  generalize O:((List.range L.length).filterMap fun i:Nat=>if h:∃v,P (i:Int) v then some ((i:Int),Classical.choose h)else none)=r;have X:∀k v,(k,v)∈r↔P k v:=fun k v=>by
   rw[<-O,mem_filterMap];constructor
   ·rintro⟨i,t,z⟩;split at z
    case isTrue h=>
     have z:=vL z;injection z with z1 z2;rw[<-z1,<-z2];exact Classical.choose_spec h
    case isFalse h=>cases z
   ·intro h;obtain⟨b0,b1⟩:=R k v ((A k v).mpr h);refine⟨k.toNat,v6.mpr (by lia),?_⟩;have S:((k.toNat:Nat):Int)=k:=by lia
    rw[S,dif_pos ⟨v,h⟩];have c:=Classical.choose_spec (⟨v,h⟩:∃v,P k v);rw[Z k _ v ((A k _).mpr c) ((A k v).mpr h)]
  have Y:(r.map (·.1)).Pairwise (· < ·):=by
   rw[<-O,pairwise_map,List.pairwise_filterMap];refine List.pairwise_lt_range.imp fun {a b} W x G y H=>?_
   split at G
   case isFalse=>cases G
   split at H
   case isFalse=>cases H
   rw[<-vL G,<-vL H];show(a:Int)<(b:Int);lia
  have u:∀i,i<n->(E++[r]).getD i []=E.getD i []:=fun i t=>by rw[vy,vy,vB (by lia)]
  have I:(E++[r]).getD n []=r:=by rw[vy,vC (by lia),Q,uo];rfl
  refine⟨E++[r],by rw[vn,Q];rfl,fun i g t q=>?_⟩;have T:=(D.f i g q).1.js.2;have ex:∀j∈g.js,(E++[r]).getD j []=E.getD j []:=fun j d=>u j (by have:=T j d;lia)
  have J:∀k v,(LastIn E g.js k v\/∃x m,g = .rise x v m/\k=(ixOf L x:Nat))↔(LastIn (E++[r]) g.js k v\/∃x m,g = .rise x v m/\k=(ixOf L x:Nat)):=fun k v=>
   or_congr_left ⟨Z4 fun j d=>(ex j d).symm,Z4 ex⟩
  rcases Nat.lt_or_ge i n with c | c
  ·rw[u i c];obtain⟨a,b⟩:=e i g c q;exact⟨a,fun k v=>(b k v).trans (J k v)⟩
  ·have:i=n:=by lia
   subst this;rw[N]at q;cases q;rw[I];exact⟨Y,fun k v=>(X k v).trans ((A k v).symm.trans (J k v))⟩
end
noncomputable def shF(n:Nat):Fn->Fn
 | .row is=>.row (is.map fun j=>n+j)
 | .side is=>.side (is.map fun j=>n+j)
 | .again k j=>.again k (n+j)
 | f=>f
theorem xR(n:Nat)(f:Fn):(shF n f).js=f.js.map fun j=>n+j:=by cases f<;>rfl
section
variable{L:List Str}{fs:List Fn}{M M':List (List Int)}{gs gs':List Int}{n k:Nat}{f:Fn}
theorem PreN.sh(o:∀j,j<k->M'.getD (n+j) []=M.getD j [])(h:PreN L M k f):PreN L M' (n+k) (shF n f):=by
 cases f with
 | hold m=>exact h
 | ring x m=>exact h
 | rise x v m=>exact h
 | row is=>
  obtain⟨a,b,c⟩:=h;refine⟨fun z=>a (List.map_eq_nil_iff.mp z),by rw[vt];exact b,fun j l=>?_⟩;obtain⟨i,g,rfl⟩:=vK.mp l;have:=c i g;lia
 | side is=>
  obtain⟨a,b,c,d,e⟩:=h;refine⟨by rw[vt];exact a,by rw[vt];exact b,fun j l=>?_,fun j l=>?_,?_⟩
  ·obtain⟨i,g,rfl⟩:=vK.mp l;have:=c i g;lia
  ·obtain⟨i,g,rfl⟩:=vK.mp l;rw[o i (c i g)];exact d i g
  ·refine pairwise_map.mpr (List.Pairwise.imp_of_mem (fun {x y} p q h=>?_) e);rw[o x (c x p),o y (c y q)];exact h
 | again m j=>obtain⟨a,b,c⟩:=h;exact⟨a,b,by lia⟩
theorem MovN.sh{ks:List Int}(c:∀j,j<k->M'.getD (n+j) []=M.getD j [])(g:∀j∈f.js,j<k)(h:MovN L M f ks):MovN L M' (shF n f) ks:=by
 refine⟨h.1,fun v=>(h.2 v).trans (or_congr ?_ ?_)⟩
 ·rw[xR];constructor
  ·rintro⟨j,a,b⟩;exact⟨n+j,vK.mpr ⟨j,a,rfl⟩,by rw[c j (g j a)];exact b⟩
  ·rintro⟨j,a,b⟩;obtain⟨i,d,rfl⟩:=vK.mp a;rw[c i (g i d)]at b;exact⟨i,d,b⟩
 ·cases f with
  | rise x w m=>exact Iff.rfl
  | _=>exact⟨(fun⟨_,_,_,_,e,_⟩=>nomatch e),(fun⟨_,_,_,_,e,_⟩=>nomatch e)⟩
theorem LenN.sh{g:Int}(b:∀j,j<k->gs'.getD (n+j) 0=gs.getD j 0)(c:∀j∈f.js,j<k)(h:LenN gs f g):LenN gs' (shF n f) g:=by
 cases f with
 | hold m=>exact h
 | ring x m=>exact h
 | rise x v m=>exact h
 | row is=>
  show g=((is.map fun j=>n+j).map fun j=>gs'.getD j 0).sum;have e:(is.map fun j=>n+j).map (fun j=>gs'.getD j 0)=is.map fun j=>gs.getD j 0:=by
   rw[v8];exact map_congr_left fun j h=>b j (c j h)
  rw[e];exact h
 | side is=>
  obtain⟨⟨j,l,o⟩,p⟩:=h;refine⟨⟨n+j,vK.mpr ⟨j,l,rfl⟩,by rw[b j (c j l)];exact o⟩,fun i q=>?_⟩;obtain⟨d,a,rfl⟩:=vK.mp q;rw[b d (c d a)];exact p d a
 | again m j=>
  show g=m*gs'.getD (n+j) 0;rw[b j (c j vq)];exact h
theorem YY{a:Type}{xs:List a}{d:a}{k j:Nat}(h:j<k):(xs++xs.take k).getD (xs.length+j) d=xs.getD j d:=by
 rw[vy,vy,vC (by lia),Nat.add_sub_cancel_left,List.getElem?_take,vd h]
theorem y9{a:Type}{xs:List a}{d:a}{k:Nat}(h:k<xs.length):xs.take (k+1)=xs.take k++[xs.getD k d]:=by
 have e:xs[k]?=some (xs.getD k d):=by rw[vy,vz h];rfl
 exact take_snoc e
theorem DOk.dbl(D:DOk L fs M gs):∀k,k<=fs.length->DOk L (fs++(fs.take k).map (shF fs.length)) (M++M.take k) (gs++gs.take k)
 | 0,_=>by
  rw[take_zero,take_zero,take_zero,map_nil,append_nil,append_nil,append_nil];exact D
 | k+1,hk=>by
  have o:=DOk.dbl D k (by lia);have p:=D.ml;have m:=D.gl;have i:fs[k]?=some fs[k]:=vz hk;obtain⟨a,b,c⟩:=D.f k _ i;have l:=a.js.2;have e:∀j,j<k->(M++M.take k).getD (fs.length+j) []=M.getD j []:=fun j h=>by rw[<-p];exact YY h
  have n:∀j,j<k->(gs++gs.take k).getD (fs.length+j) 0=gs.getD j 0:=fun j h=>by rw[<-m];exact YY h
  have A:=o.add (f:=shF fs.length fs[k]) (ks:=M.getD k []) (g:=gs.getD k 0) (by rw[vn,vt,vi,Nat.min_eq_left (by lia)];exact a.sh e) (b.sh e l) (c.sh n l) (D.g k hk);rw[take_snoc i,vj,y9 (d:=[]) (xs:=M) (by lia),y9 (d:=0) (xs:=gs) (by lia),<-List.append_assoc,<-List.append_assoc,<-List.append_assoc];exact A
noncomputable def dbF(fs:List Fn):List Fn:=fs++fs.map (shF fs.length)++[.row [fs.length-1,fs.length+(fs.length-1)]]
noncomputable def dbM(M:List (List Int)):List (List Int):=M++M++[M.getD (M.length-1) []]
noncomputable def dbG(gs:List Int):List Int:=gs++gs++[2*gs.getD (gs.length-1) 0]
theorem DOk.twice(D:DOk L fs M gs)(p:1<=fs.length)(m:2*gs.getD (fs.length-1) 0<=10^60):DOk L (dbF fs) (dbM M) (dbG gs):=by
 have A:=D.dbl fs.length (vb _);have i:=D.ml;have b:=D.gl;rw[v7,take_of_length_le (by lia),take_of_length_le (by lia)]at A;have c:fs.length-1<fs.length:=by lia
 have d:(M++M).getD (fs.length-1) []=M.getD (fs.length-1) []:=by rw[vy,vB (by lia),<-vy]
 have n:(M++M).getD (fs.length+(fs.length-1)) []=M.getD (fs.length-1) []:=by rw[vy,vC (by lia),<-vy,i,Nat.add_sub_cancel_left]
 have k:(gs++gs).getD (fs.length-1) 0=gs.getD (fs.length-1) 0:=by rw[vy,vB (by lia),<-vy]
 have l:(gs++gs).getD (fs.length+(fs.length-1)) 0=gs.getD (fs.length-1) 0:=by rw[vy,vC (by lia),<-vy,b,Nat.add_sub_cancel_left]
 obtain⟨_,o,_⟩:=D.f (fs.length-1) _ (vz c);have q:=D.g _ c;have R:=A.add (f:=.row [fs.length-1,fs.length+(fs.length-1)]) (ks:=M.getD (fs.length-1) []) (g:=2*gs.getD (fs.length-1) 0) ⟨fun z=>(nomatch z),by show 2<=8;lia,fun j a=>?_⟩ ⟨o.1,fun v=>?_⟩ ?_ ⟨by lia,m⟩
 ·unfold dbF dbM dbG;rw[i,b];exact R
 ·rw[vn,vt];rcases mem_cons.mp a with z | z
  ·lia
  ·have:=vo.mp z;lia
 ·constructor
  ·intro h;exact .inl ⟨_,vq,by rw[d];exact h⟩
  ·rintro(⟨j,a,h⟩ | ⟨_,_,_,_,e,_⟩)
   ·rcases mem_cons.mp a with z | z
    ·rw[z,d]at h;exact h
    ·rw[vo.mp z,n]at h;exact h
   ·nomatch e
 ·show _=([fs.length-1,fs.length+(fs.length-1)].map fun j=>(gs++gs).getD j 0).sum;rw[uy,uy,map_nil,k,l,ux,ux,List.sum_nil];lia
end
noncomputable def zn(x:Str):Str:=("z" : Str)++x
noncomputable def dbN(names:List Str)(n:Nat):List Str:=names.take n++(names.take n).map zn++[("both" : Str)]
def ZnOk(names:List Str):Prop:=(names++names.map zn++[("both" : Str)]).Nodup/\∀x∈names,Ws.isW (zn x)=true
theorem j1m:∀p,p<4->∀c,c<2->∀t,t<3->(decide (nmC p c ((ordC t).getD 0 ⟨#[]⟩)++(nmC p c ((ordC t).getD 0 ⟨#[]⟩)).map zn++[("both" : Str)]).Nodup&&(nmC p c ((ordC t).getD 0 ⟨#[]⟩)).all fun x=>Ws.isW (zn x))=true:=by decide +kernel
theorem j55{p c t:Nat}(b:p<4)(a:c<2)(d:t<3):ZnOk (nmC p c ((ordC t).getD 0 ⟨#[]⟩)):=by
 have h:=j1m p b c a t d;rw[Bool.and_eq_true,decide_eq_true_eq,all_eq_true]at h;exact h
theorem j2z{names:List Str}{n:Nat}(h:n<=names.length):(dbN names n).length=n+n+1:=by
 unfold dbN;rw[vn,vn,vt,vi,Nat.min_eq_left h];rfl
theorem j41{names:List Str}{n:Nat}(h:ZnOk names):(dbN names n).Nodup:=by
 refine List.Nodup.sublist ?_ h.1;exact((take_sublist _ _).append ((take_sublist _ _).map zn)).append (List.Sublist.refl _)
theorem j4V{names:List Str}{n:Nat}(h:ZnOk names)(c:∀x∈names,Ws.isW x=true):∀x∈dbN names n,Ws.isW x=true:=fun x a=>by
 rcases vh.mp a with a | a
 ·rcases vh.mp a with a | a
  ·exact c x (uw a)
  ·obtain⟨y,b,rfl⟩:=vK.mp a;exact h.2 y (uw b)
 ·rw[vo.mp a];decide +kernel
theorem j0L{names:List Str}{n j:Nat}(a:n<=names.length)(h:j<n):(dbN names n).getD j ⟨#[]⟩=names.getD j ⟨#[]⟩:=by
 unfold dbN;rw[vy,List.append_assoc,vB (by rw[vi];lia),List.getElem?_take,vd h,<-vy]
theorem j0M{names:List Str}{n j:Nat}(b:n<=names.length)(h:j<n):(dbN names n).getD (n+j) ⟨#[]⟩=zn (names.getD j ⟨#[]⟩):=by
 have a:(names.take n).length=n:=by rw[vi];lia
 unfold dbN;rw[vy,List.append_assoc,vC (by lia),a,Nat.add_sub_cancel_left,vB (by rw[vt];lia),vv,List.getElem?_take,vd h,vy,vz (by lia)];rfl
theorem j4W{names:List Str}{n:Nat}(b:n<=names.length):(dbN names n).getD (n+n) ⟨#[]⟩=("both" : Str):=by
 have a:(names.take n++(names.take n).map zn).length=n+n:=by rw[vn,vt,vi];lia
 unfold dbN;rw[vy,vC (by lia),a,uo];rfl
noncomputable def zF:Fm->Fm
 | .row qs=>.row (qs.map zn)
 | .side qs=>.side (qs.map zn)
 | .again k x=>.again k (zn x)
 | f=>f
theorem j4J{names ys:List Str}{f:Fn}(h:∀j∈f.js,ys.getD j ⟨#[]⟩=names.getD j ⟨#[]⟩):toldF ys f=toldF names f:=by
 cases f with
 | row is=>exact congrArg Fm.row (map_congr_left h)
 | side is=>exact congrArg Fm.side (map_congr_left h)
 | again k j=>exact congrArg (Fm.again k) (h j vq)
 | _=>rfl
theorem j4K{names ys:List Str}{n:Nat}{f:Fn}(h:∀j∈f.js,ys.getD (n+j) ⟨#[]⟩=zn (names.getD j ⟨#[]⟩)):toldF ys (shF n f)=zF (toldF names f):=by
 have e:∀a:List Nat,(∀j∈a,ys.getD (n+j) ⟨#[]⟩=zn (names.getD j ⟨#[]⟩))->(a.map fun j=>n+j).map (fun j=>ys.getD j ⟨#[]⟩)=(a.map fun j=>names.getD j ⟨#[]⟩).map zn:=fun a h=>by
  rw[v8,v8];exact map_congr_left h
 cases f with
 | row a=>exact congrArg Fm.row (e a h)
 | side a=>exact congrArg Fm.side (e a h)
 | again k j=>exact congrArg (Fm.again k) (h j vq)
 | _=>rfl
noncomputable def rnP(ps:List (Str×Fm)):List (Str×Fm):=ps.map fun p=>(zn p.1,zF p.2)
theorem X1{L:List Str}{a:List Fn}{M:List (List Int)}{gs:List Int}{names:List Str}(D:DOk L a M gs)(c:a.length<=names.length)(q:1<=a.length) :
  drawnPs (dbN names a.length) (dbF a)=drawnPs names a++rnP (drawnPs names a)++[(("both" : Str),.row [names.getD (a.length-1) ⟨#[]⟩,zn (names.getD (a.length-1) ⟨#[]⟩)])]:=by
 have o:(dbF a).length=a.length+a.length+1:=by unfold dbF;rw[vn,vn,vt];rfl
 have d:(drawnPs names a).length=a.length:=jM;have m:(rnP (drawnPs names a)).length=a.length:=by unfold rnP;rw[vt,d]
 refine List.ext_getElem? fun i=>?_
 rcases Nat.lt_or_ge i a.length with f | f
 ·have b:a[i]?=some a[i]:=vz f;have e:(dbF a)[i]?=some a[i]:=by unfold dbF;rw[List.append_assoc,vB f];exact b
  have l:=(D.f i _ b).1.js.2;rw[Je e,List.append_assoc,vB (by lia),Je b,j0L c f,j4J fun j g=>j0L c (by have:=l j g;lia)]
 ·rcases Nat.lt_or_ge i (a.length+a.length)with p | p
  ·obtain⟨k,rfl⟩:∃k,i=a.length+k:=⟨i-a.length,by lia⟩
   have h:k<a.length:=by lia
   have b:a[k]?=some a[k]:=vz h;have e:(dbF a)[a.length+k]?=some (shF a.length a[k]):=by
    unfold dbF;rw[List.append_assoc,vC (by lia),Nat.add_sub_cancel_left,vB (by rw[vt];exact h),vv,b];rfl
   have l:=(D.f k _ b).1.js.2;rw[Je e,List.append_assoc,vC (by lia),d,Nat.add_sub_cancel_left,vB (by lia),j0M c h,j4K fun j g=>j0M c (by have:=l j g;lia)];unfold rnP;rw[vv,Je b];rfl
  ·rcases Nat.lt_or_ge (a.length+a.length) i with n | n
   ·rw[List.getElem?_eq_none (by rw[jM,o];lia),List.getElem?_eq_none (by rw[vn,vn,d,m];exact n)]
   ·obtain rfl:i=a.length+a.length:=by lia
    have e:(dbF a)[a.length+a.length]?=some (.row [a.length-1,a.length+(a.length-1)]):=by
     unfold dbF;rw[vC (by rw[vn,vt];lia),vn,vt,uo];rfl
    rw[Je e,vC (by rw[vn,d,m];lia),vn,d,m,uo,j4W c];show some (_,Fm.row [(dbN names a.length).getD (a.length-1) ⟨#[]⟩,(dbN names a.length).getD (a.length+(a.length-1)) ⟨#[]⟩])=_;rw[j0L c (by lia),j0M c (by lia)];rfl
noncomputable def wiD(L:List Str)(ns:List Nat):Fn->Dm
 | .hold n=>.hold n
 | .ring x n=>.ring x n
 | .rise x h n=>.rise (ixOf L x) h n
 | .row is=>.row (is.map fun j=>ns.getD j 0)
 | .side is=>.side (is.map fun j=>ns.getD j 0)
 | .again k j=>.again k (ns.getD j 0)
noncomputable def stepN(L:List Str)(st:List Dm×List Nat)(f:Fn):List Dm×List Nat:=
 if wiD L st.2 f∈st.1 then(st.1,st.2++[st.1.idxOf (wiD L st.2 f)])else(st.1++[wiD L st.2 f],st.2++[st.1.length])
noncomputable def madeN(L:List Str)(fs:List Fn):List Dm×List Nat:=fs.foldl (stepN L) ([],[])
theorem ZG(L:List Str)(a:List Fn)(f:Fn):madeN L (a++[f])=stepN L (madeN L a) f:=by
 unfold madeN;rw[foldl_append];rfl
section
variable{L:List Str}{fs:List Fn}{M:List (List Int)}{gs:List Int}{names:List Str}{ls:List (Str×Int)}
theorem XR(d:fs.length<=names.length)(g:names.Nodup){f:Fn}{b:List Nat}(c:∀j∈f.js,j<fs.length):wiF L (nmsOf (drawnPs names fs)) b (toldF names f)=wiD L b f:=by
 have e:∀a:List Nat,(∀j∈a,j<fs.length)->(a.map fun j=>names.getD j ⟨#[]⟩).map (fun x=>b.getD (ixOf (nmsOf (drawnPs names fs)) x) 0)=a.map fun j=>b.getD j 0:=fun a h=>by
  rw[v8];refine map_congr_left fun j c=>?_
  show b.getD (ixOf _ (names.getD j ⟨#[]⟩)) 0=_;rw[j4 (ZZ d g) (Xy d (h j c))]
 cases f with
 | row a=>exact congrArg Dm.row (e a c)
 | side a=>exact congrArg Dm.side (e a c)
 | again k j=>
  show Dm.again k (b.getD (ixOf _ (names.getD j ⟨#[]⟩)) 0)=_;rw[j4 (ZZ d g) (Xy d (c j vq))];rfl
 | _=>rfl
theorem Y8(D:DOk L fs M gs)(b:fs.length<=names.length)(c:names.Nodup):∀k,k<=fs.length->madeM L (nmsOf (drawnPs names fs)) ((drawnPs names fs).take k)=madeN L (fs.take k)
 | 0,_=>rfl
 | k+1,hk=>by
  have a:fs[k]?=some fs[k]:=vz hk;have e:=(D.f k _ a).1.js.2;rw[take_snoc (Je a),Jg,Y8 D b c k (by lia),take_snoc a,ZG];unfold stepM stepN;dsimp only;rw[XR b c fun j d=>by have:=e j d;lia]
theorem Wv(D:DOk L fs M gs)(a:fs.length<=names.length)(b:names.Nodup):madeM L (nmsOf (drawnPs names fs)) (drawnPs names fs)=madeN L fs:=by
 have:=Y8 D a b fs.length (vb _);rw[v7,take_of_length_le (by rw[jM];lia)]at this;exact this
theorem j4N{d b:List Nat}{n k:Nat}{f:Fn}(g:∀j,j<k->b.getD (n+j) 0=d.getD j 0)(c:∀j∈f.js,j<k):wiD L b (shF n f)=wiD L d f:=by
 have e:∀a:List Nat,(∀j∈a,j<k)->(a.map fun j=>n+j).map (fun j=>b.getD j 0)=a.map fun j=>d.getD j 0:=fun a h=>by
  rw[v8];exact map_congr_left fun j c=>g j (h j c)
 cases f with
 | row a=>exact congrArg Dm.row (e a c)
 | side a=>exact congrArg Dm.side (e a c)
 | again m j=>exact congrArg (Dm.again m) (g j (c j vq))
 | _=>rfl
theorem Kv(D:DOk L fs M gs)(b:(madeN L fs).2.length=fs.length)(c:(madeN L fs).1.Nodup)(e:∀(i:Nat) (f:Fn),fs[i]?=some f->(madeN L fs).1[(madeN L fs).2.getD i 0]?=some (wiD L (madeN L fs).2 f)) :
  ∀k,k<=fs.length->madeN L (fs++(fs.take k).map (shF fs.length))=((madeN L fs).1,(madeN L fs).2++(madeN L fs).2.take k)
 | 0,_=>by
  rw[take_zero,take_zero,map_nil,append_nil,append_nil]
 | k+1,hk=>by
  have a:fs[k]?=some fs[k]:=vz hk;have l:=(D.f k _ a).1.js.2;have p:=e k _ a;have g:∀j,j<k->((madeN L fs).2++(madeN L fs).2.take k).getD (fs.length+j) 0=(madeN L fs).2.getD j 0:=fun j h=>by rw[<-b];exact YY h
  rw[take_snoc a,vj,<-List.append_assoc,uy,map_nil,ZG,Kv D b c e k (by lia)];unfold stepN;dsimp only;rw[j4N g l,vd (vm p),WA c p,y9 (d:=0) (xs:=(madeN L fs).2) (by lia),List.append_assoc]
theorem X0(D:DOk (nmsOf ls) fs M gs)(k:fs.length<=names.length)(m:names.Nodup)(W:WfB ls (drawnPs names fs))(B:1<=fs.length){ys:List Str}(n:DOk (nmsOf ls) (dbF fs) (dbM M) (dbG gs))(z:(dbF fs).length<=ys.length)(y:ys.Nodup) :
  (∀(x:Nat) (d:Dm),(drsM ls (drawnPs names fs))[x]?=some d->(drsM ls (drawnPs ys (dbF fs)))[x]?=some d)/\
  (drsM ls (drawnPs ys (dbF fs)))[topM ls (drawnPs ys (dbF fs))]?=some (.row [topM ls (drawnPs names fs),topM ls (drawnPs names fs)]):=by
 have b:=Wv (names:=names) D k m;have e:=Wv (names:=ys) n z y;have a:=Z7 (nmsOf ls) (nmsOf (drawnPs names fs)) (drawnPs names fs).length (drawnPs names fs) rfl;rw[jM,b]at a;have p:(dbF fs).length=fs.length+fs.length+1:=by unfold dbF;rw[vn,vn,vt];rfl
 have t:∀(i:Nat) (f:Fn),fs[i]?=some f->(madeN (nmsOf ls) fs).1[(madeN (nmsOf ls) fs).2.getD i 0]?=some (wiD (nmsOf ls) (madeN (nmsOf ls) fs).2 f):=fun i f c=>by
  have C:=(vx.mp c).1;have:=KG W (Je (names:=names) c);unfold drsM numOf at this;have r:=(D.f i _ c).1.js.2;rw[b,XR k m fun j q=>by have:=r j q;lia]at this;exact this
 have A:=Kv D a.ln a.nd t fs.length (vb _);rw[v7,take_of_length_le (by rw[a.ln];lia)]at A;have o:madeN (nmsOf ls) (dbF fs)=stepN (nmsOf ls) ((madeN (nmsOf ls) fs).1,(madeN (nmsOf ls) fs).2++(madeN (nmsOf ls) fs).2) (.row [fs.length-1,fs.length+(fs.length-1)]):=by
  unfold dbF;rw[ZG,A]
 have u:topM ls (drawnPs names fs)=(madeN (nmsOf ls) fs).2.getD (fs.length-1) 0:=by
  unfold topM;rw[b,jM]
 have l:=a.ln;have w:wiD (nmsOf ls) ((madeN (nmsOf ls) fs).2++(madeN (nmsOf ls) fs).2) (.row [fs.length-1,fs.length+(fs.length-1)]) = .row [topM ls (drawnPs names fs),topM ls (drawnPs names fs)]:=by
  show Dm.row [((madeN (nmsOf ls) fs).2++(madeN (nmsOf ls) fs).2).getD (fs.length-1) 0,((madeN (nmsOf ls) fs).2++(madeN (nmsOf ls) fs).2).getD (fs.length+(fs.length-1)) 0]=_;rw[u,vy,vB (by lia),<-vy,vy (i:=fs.length+_),vC (by lia),l,Nat.add_sub_cancel_left,<-vy]
 have v:topM ls (drawnPs ys (dbF fs))=(madeN (nmsOf ls) (dbF fs)).2.getD (fs.length+fs.length) 0:=by
  unfold topM;rw[e,jM,p,Nat.add_sub_cancel]
 rw[v];unfold drsM;rw[b,e,o];unfold stepN;dsimp only;rw[w];have s:((madeN (nmsOf ls) fs).2++(madeN (nmsOf ls) fs).2).length=fs.length+fs.length:=by rw[vn,l]
 have g:∀x:Nat,((madeN (nmsOf ls) fs).2++(madeN (nmsOf ls) fs).2++[x]).getD (fs.length+fs.length) 0=x:=fun x=>by rw[<-s];exact jT
 split
 ·rename_i h;refine⟨fun x d h=>h,?_⟩;dsimp only;rw[g,vz (idxOf_lt_length_of_mem h),getElem_idxOf]
 ·refine⟨fun x d h=>?_,?_⟩
  ·dsimp only;rw[vB (vx.mp h).1];exact h
  ·dsimp only;rw[g,vC (vb _),uo];rfl
end
theorem j0N{ls:List (Str×Int)}{ps qs:List (Str×Fm)}{ms mt:List Nat}(O:MadeOk ls ps)(l:MadeOk ls qs)(e:∀(x:Nat) (d:Dm),(drsM ls ps)[x]?=some d->(drsM ls qs)[x]?=some d)
  (j:(drsM ls qs)[topM ls qs]?=some (.row [topM ls ps,topM ls ps])) (K:Kept ls ps ms) (f:Kept ls qs mt):mt=ms++[topM ls qs]:=by
 have p:topM ls ps<topM ls qs:=l.dw.lt _ _ j _ (vq);have i:(drsM ls qs).getD (topM ls qs) (.hold 0) = .row [topM ls ps,topM ls ps]:=by rw[vy,j];rfl
 have g:∀x,x<=topM ls ps->(drsM ls qs).getD x (.hold 0)=(drsM ls ps).getD x (.hold 0):=fun x o=>by
  have:=O.tp;have c:(drsM ls ps)[x]?=some (drsM ls ps)[x]:=vz (by lia);rw[vy,vy,e _ _ c,c]
 refine Yy f.1 (List.pairwise_append.mpr ⟨K.1,pairwise_singleton _ _,fun a m b n=>?_⟩) fun k=>(f.2 k).trans ?_
 ·rw[vo.mp n];have:=K.lt O m;lia
 ·rw[vh,vo,K.2];constructor
  ·intro h
   induction h with
   | top=>exact .inr rfl
   | @sub y x h1 h2 ih=>
    refine .inl ?_;rcases ih with h | rfl
    ·rw[g y (h.le O.dw)]at h2;exact .sub h h2
    ·rw[i]at h2;have:x=topM ls ps:=by
      rcases mem_cons.mp h2 with z | z
      ·exact z
      ·exact vo.mp z
     rw[this];exact .top
  ·rintro(h | rfl)
   ·induction h with
    | top=>exact .sub .top (by rw[i];exact vq)
    | @sub y x h1 h2 ih=>exact .sub ih (by rw[g y (h1.le O.dw)];exact h2)
   ·exact .top
section
variable{ls:List (Str×Int)}{ps qs:List (Str×Fm)}{E F:List (List (Int×Int))}
theorem Xk{c:Nat->Nat}{n:Nat}(D:n<=E.length)(z:EndOk ls ps E)(A:EndOk ls qs F)(h:∀i,i<n->∃(p q:Str×Fm),ps[i]?=some p/\qs[c i]?=some q/\c i<F.length/\(∀x v m,p.2 = .rise x v m↔q.2 = .rise x v m)/\inP qs q.2=(inP ps p.2).map c/\∀j∈inP ps p.2,j<i) :
  ∀i,i<n->F.getD (c i) []=E.getD i []:=by
 intro i
 induction i using Nat.strongRecOn with
 | ind i ih=>
  intro B;obtain⟨p,q,w,y,C,l,f,k⟩:=h i B;have s:E[i]?=some (E.getD i []):=by rw[vy,vz (by lia)];rfl
  have t:F[c i]?=some (F.getD (c i) []):=by rw[vy,vz C];rfl
  obtain⟨a,b⟩:=z i _ _ w s;obtain⟨o,r⟩:=A _ _ _ y t;refine YL o a fun x v=>(r x v).trans (Iff.trans ?_ (b x v).symm)
  unfold EndIs;have u:(inP ps p.2).map ((fun j=>F.getD j [])∘c)=(inP ps p.2).map fun j=>E.getD j []:=map_congr_left fun j d=>ih j (k j d) (by have:=k j d;lia)
  rw[zM,zM,f,v8,u];refine or_congr Iff.rfl ⟨?_,?_⟩
  ·rintro⟨x,n,e,g⟩;exact⟨x,n,(l _ _ _).mpr e,g⟩
  ·rintro⟨x,n,e,g⟩;exact⟨x,n,(l _ _ _).mp e,g⟩
theorem j24{ys zs:List Str}{n:Nat}{f:Fn}{x:Str}{v m:Int}:toldF zs f = .rise x v m↔toldF ys (shF n f) = .rise x v m:=by
 cases f with
 | rise y w l=>exact Iff.rfl
 | _=>exact⟨(fun e=>nomatch e),(fun e=>nomatch e)⟩
theorem j0v{ys zs:List Str}{f:Fn}{x:Str}{v m:Int}:toldF zs f = .rise x v m↔toldF ys f = .rise x v m:=by
 cases f with
 | rise y w l=>exact Iff.rfl
 | _=>exact⟨(fun e=>nomatch e),(fun e=>nomatch e)⟩
theorem j2A{d:List Fn}{M:List (List Int)}{gs:List Int}{names ys:List Str}(D:DOk (nmsOf ls) d M gs)(p:d.length<=names.length)(q:names.Nodup)(P:1<=d.length)(L:DOk (nmsOf ls) (dbF d) (dbM M) (dbG gs))(w:(dbF d).length<=ys.length)(u:ys.Nodup)
  (O:E.length=d.length) (Q:F.length=(dbF d).length) (r:EndOk ls (drawnPs names d) E) (s:EndOk ls (drawnPs ys (dbF d)) F):F.getD (d.length+d.length) []=E.getD (d.length-1) []:=by
 have N:(dbF d).length=d.length+d.length+1:=by unfold dbF;rw[vn,vn,vt];rfl
 have B:∀i,i<d.length->F.getD i []=E.getD i []:=Xk (c:=id) (by lia) r s fun i o=>by
  have l:d[i]?=some d[i]:=vz o;have n:(dbF d)[i]?=some d[i]:=by unfold dbF;rw[List.append_assoc,vB o];exact l
  have g:=(D.f i _ l).1.js.2;refine⟨_,_,Je l,Je n,by show i<_;lia,fun x v m=>j0v,?_,fun j f=>?_⟩
  ·rw[JJ p q fun j f=>by have:=g j f;lia,JJ w u fun j f=>by have:=g j f;lia,map_id]
  ·rw[JJ p q fun j f=>by have:=g j f;lia]at f;exact g j f
 have C:∀i,i<d.length->F.getD (d.length+i) []=E.getD i []:=Xk (c:=fun i=>d.length+i) (by lia) r s fun i o=>by
  have l:d[i]?=some d[i]:=vz o;have n:(dbF d)[d.length+i]?=some (shF d.length d[i]):=by
   unfold dbF;rw[List.append_assoc,vC (by lia),Nat.add_sub_cancel_left,vB (by rw[vt];exact o),vv,l];rfl
  have g:=(D.f i _ l).1.js.2;refine⟨_,_,Je l,Je n,by show d.length+i<_;lia,fun x v m=>j24,?_,fun j f=>?_⟩
  ·rw[JJ p q fun j f=>by have:=g j f;lia,JJ w u fun j f=>?_,xR];rw[xR]at f;obtain⟨k,J,rfl⟩:=vK.mp f;have:=g k J;lia
  ·rw[JJ p q fun j f=>by have:=g j f;lia]at f;exact g j f
 have n:(dbF d)[d.length+d.length]?=some (.row [d.length-1,d.length+(d.length-1)]):=by
  unfold dbF;rw[vC (by rw[vn,vt];lia),vn,vt,uo];rfl
 have t:d.length-1<d.length:=by lia
 have H:F[d.length+d.length]?=some (F.getD (d.length+d.length) []):=by rw[vy,vz (by lia)];rfl
 have G:E[d.length-1]?=some (E.getD (d.length-1) []):=by rw[vy,vz (by lia)];rfl
 obtain⟨a,b⟩:=s _ _ _ (Je n) H;obtain⟨c,_⟩:=r _ _ _ (Je (vz t)) G;refine YL a c fun x v=>(b x v).trans ?_
 unfold EndIs;rw[zM,JJ w u fun j f=>?_]
 ·show(LastL ([d.length-1,d.length+(d.length-1)].map fun j=>F.getD j []) x v\/_)↔_;rw[uy,uy,map_nil,B _ t,C _ t];constructor
  ·rintro(⟨K,e,A,h,y,_⟩ | ⟨_,_,e,_⟩)
   ·have:e∈[E.getD (d.length-1) [],E.getD (d.length-1) []]:=by rw[h];exact mem_append_right _ vq
    rcases mem_cons.mp this with z | z
    ·rw[<-z];exact y
    ·rw[<-vo.mp z];exact y
   ·nomatch e
  ·intro h;exact .inl ⟨[E.getD (d.length-1) []],_,[],rfl,h,fun e I=>nomatch I⟩
 ·rcases mem_cons.mp f with z | z
  ·lia
  ·have:=vo.mp z;lia
end
theorem j2C{ls:List (Str×Int)}{c:List Fn}{M:List (List Int)}{gs:List Int}{names:List Str}(D:DOk (nmsOf ls) c M gs)(s:c.length<=names.length)(B:names.Nodup)(h:(nmsOf ls).Nodup):∃E:List (List (Int×Int)),E.length=(drawnPs names c).length/\EndOk ls (drawnPs names c) E:=by
 obtain⟨E,A,e⟩:=EN.ex D h c.length (vb _);refine⟨E,by rw[jM];exact A,fun i p x t u=>?_⟩;obtain⟨f,g,rfl⟩:=Jl t;have q:=(vx.mp g).1;have z:=(D.f i f g).1.js.2;have o:E.getD i []=x:=by rw[vy,u];rfl
 obtain⟨a,b⟩:=e i f q g;rw[o]at a b;refine⟨a,fun k v=>(b k v).trans ?_⟩;unfold EndIs;rw[JJ s B fun j r=>by have:=z j r;lia];refine or_congr Iff.rfl ⟨?_,?_⟩
 ·rintro⟨x,m,rfl,d⟩;exact⟨x,m,rfl,d⟩
 ·rintro⟨x,m,n,d⟩;cases f with
  | rise y w l=>
   cases n;exact⟨_,_,rfl,d⟩
  | _=>nomatch n
theorem kG{ls:List (Str×Int)}{ps:List (Str×Fm)}{gs:List Int}{E:List (List (Int×Int))}{t:Int}(h:gs.getD (ps.length-1) 0<=t):standH ls ps gs E t=(E.getD (ps.length-1) []).foldl (fun h q=>h.set q.1.toNat q.2) (ls.map (·.2)):=by
 unfold standH;rw[JB (.inl h)];show appH ls ps gs E (ls.map (·.2)) (ps.length-1,t)=_;unfold appH;rw[vd h]
inductive sp_bookP(K:Frg)(vs:List V)(H:Hp)(Q:VK)(xk:XK):Prop
 | mk (a:Addr) (ns:List Int) (start most:Int) (_:vs=[.ref a,.int start,.int most]) (_:SqL K H a (ns.map V.int)) (_:ns.length<=63) (_:0<=start) (_:start<=50) (_:1<=most) (_:most<=10^18) (_:∀(r b pl pp:Addr) (las pas:List Addr) (names:List Str) (ls:List (Str×Int)) (fs:List Fn) (M:List (List Int)) (gs:List Int) (H':Hp),Same H H'->H' r=some (.tup [.ref b,.int (gs.getD (fs.length-1) 0)])->BookAt H' b pl pp las pas ls (drawnPs names fs)->DOk (nmsOf ls) fs M gs->Sn ls (drawnPs names fs) gs M->3<=fs.length->fs.length<=11->names.length=13->names.Nodup->(∀x∈names,Ws.isW x=true)->ZnOk names->2*gs.getD (fs.length-1) 0<=10^60->1<=ls.length->ls.length<=8->(nmsOf ls).Nodup->(∀x∈nmsOf ls,Ws.isW x=true)->pl≠pp->Q (.ref r) H'):sp_bookP K vs H Q xk
inductive sp_isbox(vs:List V)(H:Hp)(Q:VK)(xk:XK):Prop
 | mk (t l f l0:Addr) (las das:List Addr) (ls:List (Str×Int)) (ks:List Dm) (_:vs=[.ref t,.ref l0]) (_:H t=some (.tup [.ref l,.ref f])) (_:H l=some (.lst (las.map V.ref))) (_:All2 (LimbAt H) las ls) (_:H l0=some (.lst (las.map V.ref))) (_:Shp 4 (.list (ls.map limbD))) (_:H f=some (.lst (das.map V.ref))) (_:DrAt H das ks) (_:ks.Nodup) (_:Dwn ks) (_:1<=ks.length) (_:ks.length<=61) (_:(∀j,j+1<ks.length->∃(i:Nat) (d:Dm),ks[i]?=some d/\j∈d.ns)) (_:∀H',Same H H'->Q (.bl true) H'):sp_isbox vs H Q xk
noncomputable def zK(xs:List Str):List (Key×V):=xs.map fun x=>(Sum.inr x,.str (zn x))
theorem j3B(xs:List Str)(x:Str):zK (xs++[x])=zK xs++[(Sum.inr x,.str (zn x))]:=vj
theorem j4S{xs:List Str}{x:Str}(b:xs.Nodup)(h:x∈xs):valV (zK xs) (Sum.inr x)=some (.str (zn x)):=by
 obtain⟨j,a⟩:=List.getElem?_of_mem h;refine kM (j:=j) ?_ (by unfold zK;rw[vv,a];rfl);unfold zK;rw[v8];exact pairwise_map.mpr (b.imp fun h e=>h (Sum.inr.inj e))
theorem j4Q(xs:List Str):(zK xs).length=xs.length:=vt _
theorem j4R{xs:List Str}{x:Str}{j:Nat}(m:xs.Nodup)(h:xs[j]?=some x):(Sum.inr x:Key)∉(zK (xs.take j)).map (·.1):=fun z=>by
 unfold zK at z;rw[v8]at z;obtain⟨y,l,e⟩:=vK.mp z;have b:y=x:=Sum.inr.inj e;subst b;obtain⟨i,a⟩:=List.getElem?_of_mem l;have k:=(vx.mp a).1;rw[vi]at k;rw[List.getElem?_take,vd (by lia)]at a;obtain⟨f,c⟩:=vx.mp a;obtain⟨g,d⟩:=vx.mp h;exact ud (c.trans d.symm) (pairwise_iff_getElem.mp m i j f g (by lia))
theorem j1V{ps:List (Str×Fm)}{i:Nat}{p:Str×Fm}(h:ps[i]?=some p):rnP (ps.take (i+1))=rnP (ps.take i)++[(zn p.1,zF p.2)]:=by
 rw[take_snoc h];exact vj
inductive sp_ren(vs:List V)(H:Hp)(Q:VK)(xk:XK):Prop
 | mk (b pl pp:Addr) (las pas:List Addr) (ls:List (Str×Int)) (ps:List (Str×Fm)) (_:vs=[.ref b]) (_:BookAt H b pl pp las pas ls ps) (_:WfB ls ps) (_:(∀p∈ps,p.1.length<=8)) (_:∀(r:Addr) (mas:List Addr) (H':Hp),Same H H'->H r=none->H' r=some (.lst (mas.map V.ref))->All2 (PartAt H') mas (rnP ps)->Q (.ref r) H'):sp_ren vs H Q xk
inductive sp_plays(vs:List V)(H:Hp)(Q:VK)(xk:XK):Prop
 | mk (b pl pp o ol op:Addr) (las pas oas qas:List Addr) (ls:List (Str×Int)) (ps qs:List (Str×Fm)) (gs gs':List Int) (hs hs':List (List Int)) (t:Int) (_:vs=[.ref b,.ref o,.int t]) (_:BookAt H b pl pp las pas ls ps) (_:BookAt H o ol op oas qas ls qs) (_:Sn ls ps gs hs) (_:Sn ls qs gs' hs') (_:0<=t) (_:t<=gs.getD (ps.length-1) 0) (_:t<=gs'.getD (qs.length-1) 0) (_:(∀E F:List (List (Int×Int)),E.length=ps.length->F.length=qs.length->EndOk ls ps E->EndOk ls qs F->standH ls qs gs' F t=standH ls ps gs E t/\ringsW qs gs' t=ringsW ps gs t)) (_:(∀x∈ringsW ps gs t,Ws.isW x=true)) (_:∀H',Same H H'->Q (.bl true) H'):sp_plays vs H Q xk
theorem XE{ls:List (Str×Int)}{ps:List (Str×Fm)}{gs:List Int}{t:Int}(B:BkOk ls ps):∀x∈ringsW ps gs t,Ws.isW x=true:=fun x b=>by
 unfold ringsW at b;obtain⟨y,_,a⟩:=mem_flatMap.mp b;unfold ringX at a;cases e:ps[y.1]? with
 | none=>rw[e]at a;nomatch a
 | some p=>
  rw[e]at a;have w:=(B.pn p (vm e)).2;obtain⟨c,f⟩:=p;cases f with
  | ring z n=>
   dsimp only at a;split at a
   ·rw[vo.mp a];exact w.1
   ·nomatch a
  | _=>nomatch a
end Rm
namespace L2
inductive IvA2(a0 a1:Prop):Prop | mk:a0->a1->IvA2 a0 a1
inductive IvA3(a0 a1 a2:Prop):Prop | mk:a0->a1->a2->IvA3 a0 a1 a2
inductive IvA4(a0 a1 a2 a3:Prop):Prop | mk:a0->a1->a2->a3->IvA4 a0 a1 a2 a3
inductive IvA5(a0 a1 a2 a3 a4:Prop):Prop | mk:a0->a1->a2->a3->a4->IvA5 a0 a1 a2 a3 a4
inductive IvA6(a0 a1 a2 a3 a4 a5:Prop):Prop | mk:a0->a1->a2->a3->a4->a5->IvA6 a0 a1 a2 a3 a4 a5
inductive IvA7(a0 a1 a2 a3 a4 a5 a6:Prop):Prop | mk:a0->a1->a2->a3->a4->a5->a6->IvA7 a0 a1 a2 a3 a4 a5 a6
inductive IvA8(a0 a1 a2 a3 a4 a5 a6 a7:Prop):Prop | mk:a0->a1->a2->a3->a4->a5->a6->a7->IvA8 a0 a1 a2 a3 a4 a5 a6 a7
inductive IvE1{α0:Type}(p:α0->Prop):Prop | mk (x0) (h:p x0):IvE1 p
inductive IvE2{α0 α1:Type}(p:α0->α1->Prop):Prop | mk (x0 x1) (h:p x0 x1):IvE2 p
inductive IvE3{α0 α1 α2:Type}(p:α0->α1->α2->Prop):Prop | mk (x0 x1 x2) (h:p x0 x1 x2):IvE3 p
inductive IvE4{α0 α1 α2 α3:Type}(p:α0->α1->α2->α3->Prop):Prop | mk (x0 x1 x2 x3) (h:p x0 x1 x2 x3):IvE4 p
inductive IvE5{α0 α1 α2 α3 α4:Type}(p:α0->α1->α2->α3->α4->Prop):Prop | mk (x0 x1 x2 x3 x4) (h:p x0 x1 x2 x3 x4):IvE5 p
inductive IvE6{α0 α1 α2 α3 α4 α5:Type}(p:α0->α1->α2->α3->α4->α5->Prop):Prop | mk (x0 x1 x2 x3 x4 x5) (h:p x0 x1 x2 x3 x4 x5):IvE6 p
inductive IvE7{α0 α1 α2 α3 α4 α5 α6:Type}(p:α0->α1->α2->α3->α4->α5->α6->Prop):Prop | mk (x0 x1 x2 x3 x4 x5 x6) (h:p x0 x1 x2 x3 x4 x5 x6):IvE7 p
inductive IvE8{α0 α1 α2 α3 α4 α5 α6 α7:Type}(p:α0->α1->α2->α3->α4->α5->α6->α7->Prop):Prop | mk (x0 x1 x2 x3 x4 x5 x6 x7) (h:p x0 x1 x2 x3 x4 x5 x6 x7):IvE8 p
end L2
theorem L2.fsc(a:sc.kind = .function:=by rfl)(b:sc.isCoroutine=false:=by rfl)(c:sc.isGenerator=false:=by rfl)(d:N.Nodup:=by decide +kernel)(e:N.take P.length=P:=by rfl)(f:∀x∈P,sc.names.lookup x=some .local\/sc.names.lookup x=some .cell:=by decide +kernel)(g:∀y∈sc.names,y.2≠.free:=by decide +kernel):L2.FnScope N P sc:=⟨a,b,c,d,e,f,g⟩
structure PySem.W.Fast:Prop where
  (tw10165598464319773915 tw6233229997245683651 tw17389645923956608246 tw2343854029835002663 tw367672148729744870 tw6573340215769332559 tw14100700745655452242 tw8401128570763514311 tw18078815174081216230 tw12600393570048590278 tw4971023460527349557 tw16303244324586462412 tw12279600851095306640 tw1241368724792075154 tw8937505220695047676 tw12167927927825371746 tw16395979922395392035 tw15135164486169117020 tw11426249713928533679 tw16705375718950231660 tw16462502648622528872 tw17456349766194692913 tw2922384008683954767 tw6813092437986313554 tw4010260690184579782 tw10562330469476897550 tw8878169356957299439 tw18442777128074219527 tw16989694643580109759 tw10254044469728480783 tw296696292755257627 tw6532862378762637664 tw5276806362723840251 tw5189722024405423602 tw17834767302479533356 tw5640441499622156964 tw14071431015414242331 tw8828488974944307965 tw17231614557025655090 tw17646899100593780554 tw16977083553799389192 tw12948346265520784015 tw10791548540099554875 tw10891283914370096595 tw15487252624947168804 tw14745154090899365719 tw16231693508297450162 tw17318812468773618691 tw4935339926126801503 tw10439753657370934728 tw9635494509560526163 tw15713888383420874320 tw11677271958807363110 tw6887460708489443553 tw8494123471322784010 tw1944192152784828262 tw13729750646505208609 tw9503902072464121385 tw8903763503608269798 tw13014966040658084408 tw18098922061320228758 tw7190644242820891176 tw6645174646091920968 tw6968876476442056313 tw10078300423372309121 tw9362221617398008692 tw465185275899888240 tw1988101020846778651 tw10006767999053356338 tw13378716170131575346 tw1339445675151177973 tw16111772090799735570 tw4706205174203779084 tw4789409782567795097 tw14651873289179551635 tw18213659284325927537 tw11199394272929605570 tw17596325209593621695 tw3564821074541832197 tw11324370804757222521 tw16919665705315239028 tw13346469755015547652 tw1689249390127371511 tw8487871362919448614 tw17485752245854591592 tw11377821088258373650 tw9552597483707589358 tw13174595843777738567 tw10051075072067258773 tw926273268434619698 tw14766282902988080197 tw6269714447824181976 tw8186993328060236703 tw9512919718811181857 tw13019432436603497198 tw15517587083731164759 tw1750527895345883340 tw6430531063734292299 tw12039588914557228867 tw12700193534794165339 tw3272280841219218462 tw7743547130138891373 tw17534465359282704699 tw3536830271781161230 tw13518867888834988387 tw1290728218883716786 tw16999493139148214457 tw4788309156712673791 tw2820707676463182822 tw7752071789203304871 tw14211121242847578382 tw13621620295793054360 tw2849991407428990875 tw5447475425904595997 tw7280868754923911900 tw11587355100339440750 tw4950848606826310986 tw10250690434863974623 tw14537611626076812486 tw10877764611559355698 tw10520922754505726552 tw14916022109179852186 tw7982622707850992775 tw1101844152238233247 tw15835707614481452613 tw9293327231370127698 tw16861983924801887326 tw4953574673791983544 tw4647587273157768967 tw14281733276133669693 tw12374325463205733464 tw7152825128158068264 tw16594806642355762873 tw7115027980183890059 tw3102703654082111041 tw593429355844242416 tw18427981694436982639 tw15806202245416230292 tw3849116661302246508 tw3601495601920609579 tw5470241190001199983 tw2342315368202438534 tw8619834279219458968 tw9217609186446228630 tw14097564738158776115 tw3068951537141805576 tw5816314952574741726 tw9703678607039960013 tw3436974376778787656 tw11648774440208178359 tw18094033410348922261 tw17163522692812373760 tw6740446046725191499 tw2054240403224335861 tw10489000728887893490 tw7441162776496857756 tw4013159817937262440 tw4908554508957912912 tw16832255809106741848 tw14246794998795762311 tw7288486796110946219 tw7006989962493634806 tw3291208935609699116 tw6688079814191272663 tw16742580184748067319 tw15305785690123634986 tw11655653673097266252 tw17475175921749315700 tw2461864225588184430 tw15076287317923254551 tw12177049198112960608 tw7339819617468032603 tw1037750282494357805 tw12044106933362426525 tw9046612288591369286 tw6531422332955796151 tw12839283900331248669 tw7851390703064993537 tw578928620132769104 tw12546448366377658613 tw14544173679664610729 tw17520515221252127492 tw14547900077045675326 tw197003004266205376 tw16311133647498497111 tw16216778090056766064 tw17328170302223941229 tw13004385001415741430 tw1217930608828820261 tw12163948923700526948 tw12624638395520561881 tw11124721484941288748 tw9459405564799610142 tw15357826762079170938 tw1694804240137506095 tw8335622899994402278 tw8436686867052819699 tw18415115586598687676 tw15325354103403714929 tw1401548940617001892 tw11248094873942142884 tw3477139402214993892 tw15904387849028261213 tw17688688410746013933 tw3877323020139614265 tw11261742808687324948 tw17255295790254770580 tw18161607034795716639 tw6091346676547172737 tw16813699717701185283:True)
namespace L2
open PySem PySem.Spec PyProof.Rows
structure Dfn(K:Frg)(mg:Str->Option Value)(x:Str)(st:Stmt)(f:Addr)(d:FuncData)(ps:List Str):Prop where
  F:Fun K x x st f d
  m:mg x=some (.ref f)
  B:Binds K d ps []
theorem jk{X:Cx}{x:Str}{st:Stmt}{f:Addr}{d:FuncData}{ps:List Str}{j k:Nat}{sp:Sp}{e:Expr}{es:List Expr}{p a:Pos}{t:TA}(D:Dfn X.K X.mg x st f d ps)(F:FnOk X.prog X.w X.K X.mg X.base CX0 j f d ps sp)(n:Room k X.A)(g:PA X (e::es) t)(m:j<=k:=by decide)(l:Gl X x:=by rfl)(b:(x==("__debug__" : Str))=false:=by decide)(i:starEach (e::es) X.env=(false,eval e X.env)::starEach es X.env:=by rfl)(c:(backTo a (starEach es X.env)).any (·.1)=false:=by rfl):PE X (.Call (.Name x p) (e::es) [] a) (tCall sp [] E0 t):=j3d (F.mono m) n l D.m D.F.kp D.B .nil pass0 g b i c
end L2
local macro_rules | `(tactic| specialize $e) => do
  let i:=fun(k:String)=>Lean.mkIdent (Lean.Name.mkSimple k)
  `(tactic| (refine $e (fun $(i "vs") $(i "H") $(i "Q") $(i "E") $(i "h")=>?_) (fun $(i "cdv") $(i "A") $(i "outer") $(i "s") $(i "H") $(i "vs") $(i "Q") $(i "E") $(i "hr") $(i "h")=>?_);focus (cases $(i "h"):ident;subst_vars;rfl)))
theorem Rm.iteE0{b:Bool}{A B:Prop}(h:B)(e:b=false:=by decide +kernel):if b=true then A else B:=Rm.iteB0 e h
theorem Rm.iteE1{b:Bool}{A B:Prop}(h:A)(e:b=true:=by decide +kernel):if b=true then A else B:=Rm.iteB1 e h
namespace K55
open PySem L2 Rm
noncomputable def top(i:Nat):Stmt:=PySem.Challenge.pw_camplay_k55_whole_drums_play_alike.main.body.getD i (.Pass ⟨0,0,0,0⟩)
noncomputable abbrev zi:Stmt:=top 8
theorem qH:FnScope ["named","numbers","number","one"] ["named"] (defScope zi):=fsc
noncomputable abbrev ZM:Stmt:=top 9
theorem WN:FnScope ["form"] ["form"] (defScope ZM):=fsc
noncomputable abbrev QE:Stmt:=top 12
theorem wX:FnScope ["form","limbs","parts"] ["form","limbs","parts"] (defScope QE):=fsc
noncomputable abbrev xL:Stmt:=top 13
theorem Zq:FnScope ["book","limbs","numbers","known","name","form"] ["book"] (defScope xL):=fsc
noncomputable abbrev yV:Stmt:=top 14
theorem zj:FnScope ["forms","drum","needed","number","other"] ["forms","drum"] (defScope yV):=fsc
noncomputable abbrev YF:Stmt:=top 15
theorem qK:FnScope ["book","found","forms","kept","limbs","anew","place","number"] ["book"] (defScope YF):=fsc
noncomputable abbrev yX:Stmt:=top 16
theorem zm:FnScope ["number","name"] ["number"] (defScope yX):=fsc
noncomputable abbrev qX:Stmt:=top 17
theorem ZO:FnScope ["box","limbs","names"] ["box"] (defScope qX):=fsc
noncomputable abbrev YG:Stmt:=top 19
theorem Zb:FnScope ["book","numbers","found","name","form"] ["book"] (defScope YG):=fsc
noncomputable abbrev xK:Stmt:=top 20
theorem QG:FnScope ["book","limbs","found","part","inside","form","left","other"] ["book"] (defScope xK):=fsc
noncomputable abbrev YI:Stmt:=top 21
theorem kE:FnScope ["book","found","left"] ["book"] (defScope YI):=fsc
noncomputable abbrev qV:Stmt:=top 22
theorem QS:FnScope ["row","moves","limbs","number","limb"] ["row","moves","limbs"] (defScope qV):=fsc
noncomputable abbrev zY:Stmt:=top 23
theorem wY:FnScope ["form","inside"] ["form","inside"] (defScope zY):=fsc
noncomputable abbrev QZ:Stmt:=top 24
theorem qb:FnScope ["book","moves","found","row","inside","form","length"] ["book"] (defScope QZ):=fsc
noncomputable abbrev xM:Stmt:=top 26
theorem j3q:FnScope ["start","goal","beats","j"] ["start","goal","beats","j"] (defScope xM):=fsc
noncomputable abbrev zZ:Stmt:=top 28
theorem JE:FnScope ["form","inside","sizes","part","later","found","begin"] ["form","inside","sizes"] (defScope zZ):=fsc
noncomputable abbrev QF:Stmt:=top 29
theorem wZ:FnScope ["book","sizes"] ["book","sizes"] (defScope QF):=fsc
noncomputable abbrev ZN:Stmt:=top 30
theorem JM:FnScope ["pieces","sizes","gone","found","part","turns","begin","over","rest"] ["pieces","sizes","gone"] (defScope ZN):=fsc
noncomputable abbrev kC:Stmt:=top 32
theorem qY:FnScope ["pieces","sizes","gone","found","part","begin","over","rest"] ["pieces","sizes","gone"] (defScope kC):=fsc
noncomputable abbrev Jv:Stmt:=(inClass (top 33) 0)
theorem yf:FnScope ["self","book"] ["self","book"] (defScope Jv):=fsc
noncomputable abbrev QP:Stmt:=(inClass (top 33) 1)
theorem Ji:FnScope ["self","beat","starts","playing","todo","now","limb","height"] ["self","beat"] (defScope QP):=fsc
noncomputable abbrev qa:Stmt:=(inClass (top 33) 2)
theorem jL:FnScope ["self","beat","scene","heights","part","gone","form","limb"] ["self","beat"] (defScope qa):=fsc
noncomputable abbrev qA:Stmt:=(inClass (top 33) 3)
theorem Jp:FnScope ["self","beat","words","part","gone","form"] ["self","beat"] (defScope qA):=fsc
noncomputable abbrev wU:Stmt:=top 34
theorem j23:FnScope ["book","beat"] ["book","beat"] (defScope wU):=fsc
noncomputable abbrev wT:Stmt:=top 35
theorem j22:FnScope ["book","beat"] ["book","beat"] (defScope wT):=fsc
noncomputable abbrev zV:Stmt:=top 38
theorem j7:FnScope ["_law_script","_law_k","_law_cell","_law_number_here","_law_found","_law_turn"] ["_law_script","_law_k"] (defScope zV):=fsc
noncomputable abbrev zW:Stmt:=top 39
theorem yg:FnScope ["_law_pool_here","_law_many","_law_found"] ["_law_pool_here","_law_many"] (defScope zW):=fsc
noncomputable abbrev zX:Stmt:=top 40
theorem wV:FnScope ["_law_place","_law_k"] ["_law_place","_law_k"] (defScope zX):=fsc
noncomputable abbrev QR:Stmt:=top 41
theorem Za:FnScope ["_law_pool_here","_law_most","_law_way"] ["_law_pool_here","_law_most"] (defScope QR):=fsc
noncomputable abbrev QD:Stmt:=top 42
theorem qr:FnScope ["_law_moves","_law_at","_law_many","_law_k","_law_one","_law_other"] ["_law_moves","_law_at"] (defScope QD):=fsc
noncomputable abbrev J1:Stmt:=top 43
theorem JL:FnScope ["_law_pool_here","_law_way","_law_names","_law_moves","_law_longs","_law_most","_law_pair_here","_law_at","_law_times"] ["_law_pool_here","_law_way","_law_names","_law_moves","_law_longs","_law_most"] (defScope J1):=fsc
noncomputable abbrev QC:Stmt:=top 44
theorem JD:FnScope ["_law_pool_here","_law_book_here","_law_moves","_law_longs","_law_most","_law_way","_law_names","_law_limb","_law_goal","_law_some","_law_word_here"] ["_law_pool_here","_law_book_here","_law_moves","_law_longs","_law_most"] (defScope QC):=fsc
noncomputable abbrev JC:Stmt:=top 45
theorem Jb:FnScope ["_law_book_here","_law_moves","_law_longs","_law_name","_law_form_here","_law_numbers","_law_limbs","_law_k","_law_long"] ["_law_book_here","_law_moves","_law_longs","_law_name","_law_form_here"] (defScope JC):=fsc
noncomputable abbrev qJ:Stmt:=top 46
theorem jI:FnScope ["_law_script","_law_start","_law_most","_law_pool_here","_law_place","_law_called","_law_order","_law_many","_law_book_here","_law_moves","_law_longs","_law_k","_law_name","_law_last"] ["_law_script","_law_start","_law_most"] (defScope qJ):=fsc
noncomputable abbrev zg:Stmt:=top 47
theorem kW:FnScope ["_law_form_here"] ["_law_form_here"] (defScope zg):=fsc
noncomputable abbrev QQ:Stmt:=top 48
theorem qq:FnScope ["_law_box","_law_limbs","_law_seen","_law_number_here","_law_one"] ["_law_box","_law_limbs"] (defScope QQ):=fsc
noncomputable abbrev qp:Stmt:=top 49
theorem jQ:FnScope ["_law_book_here","_law_new","_law_name","_law_form_here","_law_parts"] ["_law_book_here"] (defScope qp):=fsc
noncomputable abbrev zh:Stmt:=top 50
theorem kY:FnScope ["_law_book_here","_law_other","_law_beat"] ["_law_book_here","_law_other","_law_beat"] (defScope zh):=fsc
noncomputable abbrev j20:Stmt:=top 51
theorem zk:FnScope ["_law_script","_law_book_here","_law_long","_law_box","_law_doubled","_law_twice","_law_back","_law_cell","_law_beat"] ["_law_script"] (defScope j20):=fsc
set_option genInjectivity false in
set_option genSizeOf false in
structure Ad where
 Jx:Addr
 Jz:FuncData
 Qa:Addr
 Qc:FuncData
 qc:Addr
 qd:FuncData
 W0:Addr
 xf:FuncData
 yA:Addr
 yH:FuncData
 KP:Addr
 K7:FuncData
 Zf:Addr
 Zh:FuncData
 yz:Addr
 yG:FuncData
 ZT:Addr
 ZX:FuncData
 KQ:Addr
 K8:FuncData
 KR:Addr
 wb:FuncData
 qP:Addr
 qT:FuncData
 Qr:Addr
 Qy:FuncData
 yB:Addr
 yI:FuncData
 KS:Addr
 wc:FuncData
 Qs:Addr
 Qz:FuncData
 zD:Addr
 zI:FuncData
 Q6:Addr
 za:FuncData
 YQ:Addr
 YW:FuncData
 Jd:Addr
 Jr:FuncData
 JV:Addr
 JY:FuncData
 Jw:Addr
 Jy:FuncData
 JN:Addr
 JP:FuncData
 Yq:Addr
 Yr:FuncData
 KU:Addr
 wd:FuncData
 Qp:Addr
 Qw:FuncData
 JH:Addr
 JI:FuncData
 Qq:Addr
 Qx:FuncData
 JW:Addr
 JZ:FuncData
 Qo:Addr
 Qv:FuncData
 QK:Addr
 QM:FuncData
 zC:Addr
 zH:FuncData
 Q5:Addr
 Q9:FuncData
 zB:Addr
 zG:FuncData
 qO:Addr
 qS:FuncData
 QJ:Addr
 QL:FuncData
 qh:Addr
 qi:FuncData
 Q4:Addr
 Q8:FuncData
 j0B:Addr
 Xb:FuncData
 jH:Addr
 KL:Value
 JS:Addr
structure Txt(K:Frg)(mg:Str->Option Value)(t:Ad):Prop where
 qg:Dfn K mg "numbers_of" zi t.Jx t.Jz ["named"]
 ZC:Dfn K mg "names_in" ZM t.Qa t.Qc ["form"]
 Qk:Dfn K mg "form_with" QE t.qc t.qd ["form","limbs","parts"]
 j0z:Dfn K mg "made" xL t.W0 t.xf ["book"]
 k5:Dfn K mg "come_to" yV t.yA t.yH ["forms","drum"]
 ZR:Dfn K mg "drums" YF t.KP t.K7 ["book"]
 Ka:Dfn K mg "name_of" yX t.Zf t.Zh ["number"]
 QV:Dfn K mg "book_of" qX t.yz t.yG ["box"]
 Yo:Dfn K mg "inner" YG t.ZT t.ZX ["book"]
 WX:Dfn K mg "ends" xK t.KQ t.K8 ["book"]
 xW:Dfn K mg "moved" YI t.KR t.wb ["book"]
 ZQ:Dfn K mg "check_side" qV t.qP t.qT ["row","moves","limbs"]
 Ye:Dfn K mg "length_of" zY t.Qr t.Qy ["form","inside"]
 k7:Dfn K mg "lengths" QZ t.yB t.yI ["book"]
 j0A:Dfn K mg "ramp" xM t.KS t.wc ["start","goal","beats","j"]
 Yf:Dfn K mg "pieces_in" zZ t.Qs t.Qz ["form","inside","sizes"]
 Yg:Dfn K mg "pieces_of" QF t.zD t.zI ["book","sizes"]
 YM:Dfn K mg "progress" ZN t.Q6 t.za ["pieces","sizes","gone"]
 We:Dfn K mg "within" kC t.YQ t.YW ["pieces","sizes","gone"]
 yt:Fun K "__init__" "Stage.__init__" Jv t.Jd t.Jr
 Xv:Meth K t.jH "__init__" t.Jd
 QU:Binds K t.Jr ["self","book"] []
 kO:Fun K "scene" "Stage.scene" QP t.JV t.JY
 zO:Meth K t.jH "scene" t.JV
 Zv:Binds K t.JY ["self","beat"] []
 ZD:Fun K "heights_at" "Stage.heights_at" qa t.Jw t.Jy
 Zt:Meth K t.jH "heights_at" t.Jw
 ZA:Binds K t.Jy ["self","beat"] []
 yu:Fun K "words_at" "Stage.words_at" qA t.JN t.JP
 Z6:Meth K t.jH "words_at" t.JN
 yr:Binds K t.JP ["self","beat"] []
 ZS:Dfn K mg "stand" wU t.Yq t.Yr ["book","beat"]
 KN:Dfn K mg "rings" wT t.KU t.wd ["book","beat"]
 zo:Dfn K mg "_law_pool" zV t.Qp t.Qw ["_law_script","_law_k"]
 jB:Dfn K mg "_law_take" zW t.JH t.JI ["_law_pool_here","_law_many"]
 zq:Dfn K mg "_law_word" zX t.Qq t.Qx ["_law_place","_law_k"]
 j8:Dfn K mg "_law_number" QR t.JW t.JZ ["_law_pool_here","_law_most"]
 Yd:Dfn K mg "_law_pair" QD t.Qo t.Qv ["_law_moves","_law_at"]
 Zw:Dfn K mg "_law_naming" J1 t.QK t.QM ["_law_pool_here","_law_way","_law_names","_law_moves","_law_longs","_law_most"]
 Yb:Dfn K mg "_law_form" QC t.zC t.zH ["_law_pool_here","_law_book_here","_law_moves","_law_longs","_law_most"]
 ZB:Dfn K mg "_law_put" JC t.Q5 t.Q9 ["_law_book_here","_law_moves","_law_longs","_law_name","_law_form_here"]
 Ya:Dfn K mg "_law_book" qJ t.zB t.zG ["_law_script","_law_start","_law_most"]
 ZP:Dfn K mg "_law_below" zg t.qO t.qS ["_law_form_here"]
 QH:Dfn K mg "_law_is_box" QQ t.QJ t.QL ["_law_box","_law_limbs"]
 zp:Dfn K mg "_law_renamed" qp t.qh t.qi ["_law_book_here"]
 Q0:Dfn K mg "_law_plays" zh t.Q4 t.Q8 ["_law_book_here","_law_other","_law_beat"]
 j0y:Dfn K mg "law" j20 t.j0B t.Xb ["_law_script"]
 jN:Cls K t.jH
 xY:Mk K t.jH t.Jd
 Ww:mg "Stage"= some (.ref t.jH)
 qG:NoAttr K t.jH "limbs"
 qF:NoAttr K t.jH "first"
 J0:NoAttr K t.jH "forms"
 j9:NoAttr K t.jH "sizes"
 qU:NoAttr K t.jH "left"
 qk:NoAttr K t.jH "pieces"
 j3T:mg "bool"= none
 j3U:mg "dict"= none
 Qt:mg "enumerate"= none
 j4T:mg "int"= none
 qQ:mg "isinstance"= none
 JT:mg "len"= none
 zE:mg "list"= none
 j3D:mg "max"= none
 j0F:mg "min"= none
 JO:mg "range"= none
 YS:mg "sorted"= none
 j3E:mg "sum"= none
 Zg:mg "tuple"= none
 j0G:mg "zip"= none
 Kj:mg "FIGURES"= some t.KL
 KH:RelV (.str "abcdefghijklmnopqrstuvwxyz") t.KL
 K1:mg "MOST_NAMES"= some (.ref t.JS)
 JQ:TabK K t.JS [("row",.flat (.int 8)),("side",.flat (.int 4))]
section
variable{P:Program}{w:World}{K:Frg}{mg:Str->Option Value}{base:Heap}{t:Ad}
theorem wJ(T:Txt K mg t):FnOk P w K mg base CX0 1 t.qc t.qd ["form","limbs","parts"] (sp_formW):=by
 specialize T.Qk.F.ok wX;obtain⟨a,l,p,g,G,rfl,f,v,q⟩:=h;refine⟨_,(jc (jS (jp Ja (jg ji (pv 0) jd) jx (nomark _))
   (jf (ju (jt j39 (jD (ja (jg ji (pv 0) jd) (ja (jg (xr (K:=K) rfl (qt hr)) (pv 1) (jg ji (pv 0) jd)) jb))) (qm j27 (pv 0) (qo jd) QB))))
   jv)
  (jc (jS (jp Ja (jg ji (pv 0) jd) jx (nomark _))
   (jf (ju (jD (ja (jg ji (pv 0) jd) (ja (jg ji (pv 0) jd) (ja (jg (xr (K:=K) rfl (qt hr)) (pv 2) (jg ji (pv 0) jd)) jb))))))
   jv)
  (jc (jS (jp yR (jg ji (pv 0) jd) (jD (ja jx (ja jx jb))) (by with_unfolding_all rfl))
   (jf (ju (jD (ja (jg ji (pv 0) jd) (ja (Jt JX (by rfl) T.Zg QW (ja (jU (ow:=["other"]) (ci:=[2]) rfl (CompScope.of (defScope QE) ["form","limbs","parts"] rfl rfl (by decide +kernel)) (jY (by decide)) (yT (jg ji (pv 0) jd)) (fun _ _ _ _ _=>⟨(jm (i:=0) (jJ ["form","limbs","parts"] rfl (by decide +kernel)) rfl (.inl rfl)),Ju,(jg (xr (K:=K) rfl (qt hr)) (pv 1) (pv 0))⟩)) jb)) jb)))))
   jv)
  (jf (ju (pv 0)))))),?_⟩
 refine jw (σ':=[some _,some _,some _]) rfl ?_
 try dsimp only[cxOf,Cx.nox]
 have I:(200:Nat)<sizeLine:=by decide
 cases g with
 | smp r vs=>
  cases v;cases r with
  | false=>
   have c:H a=some (.tup (.str "hold"::vs)):=f;exists ixTm (SqT.of c) (at0) ?_;exists iteE0 ?_;exists ixTm (SqT.of c) (at0) ?_;exists iteE0 ?_;exists ixTm (SqT.of c) (at0) ?_;exists⟨ub,?_⟩;walk_at"f 1 t";refine⟨p1,_,rfl,.inr (SqT.of t1),rfl,rfl,_,rfl,?_⟩;refine iteE0 ?_;walk_at"g";exact q a H1 s1 (s1 _ _ c)
  | true=>
   have c:H a=some (.tup (.str "ring"::vs)):=f;exists ixTm (SqT.of c) (at0) ?_;exists iteE0 ?_;exists ixTm (SqT.of c) (at0) ?_;exists iteE0 ?_;exists ixTm (SqT.of c) (at0) ?_;exists⟨ub,?_⟩;walk_at"f 1 t";refine⟨p1,_,rfl,.inr (SqT.of t1),rfl,rfl,_,rfl,?_⟩;refine iteE0 ?_;walk_at"g";exact q a H1 s1 (s1 _ _ c)
 | rise x h n=>
  have c:H a=some (.tup [.str "raise",x,h,n]):=f;obtain⟨y,B,rfl⟩:=v;exists ixTm (SqT.of c) rfl ?_;exists iteE1 ?_;exists ixTm (SqT.of c) rfl ?_;exists ixTm (SqT.of c) rfl ?_;refine wt B ?_;exists⟨ub,?_⟩;walk_at"f 1 t";exists⟨a,_,rfl,SqT.of (s1 _ _ c),(by show¬(HT.sIx 4 0 (some 2)=0/\HT.sIx 4 4 none=4);decide),?_⟩;walk_at"f 2 t";refine⟨p1,p2,_,_,rfl,rfl,SqT.of (s2 _ _ t1),SqT.of t2,(fun z=>by cases z),?_,?_,?_⟩
  ·show 2+2<=sizeLine;lia
  ·intro z;cases z
  intro _;walk_at"f 3 t";exact q p3 H3 (s1.trans (s2.trans s3)) t3
 | again k x=>
  have c:H a=some (.tup [.str "again",k,x]):=f;obtain⟨y,B,rfl⟩:=v;exists ixTm (SqT.of c) rfl ?_;exists iteE0 ?_;exists ixTm (SqT.of c) rfl ?_;exists iteE1 ?_;exists ixTm (SqT.of c) rfl ?_;exists ixTm (SqT.of c) rfl ?_;exists ixTm (SqT.of c) rfl ?_;refine wt B ?_;exists⟨uA,?_⟩;walk_at"f 1 t";exact q p1 H1 s1 t1
 | many s xs=>
  obtain⟨j,D,C,J,rfl⟩:=v;cases s with
  | false=>
   obtain⟨b,c,m⟩:=f;have c:H a=some (.tup [.str "row",.ref b]):=c;exists ixTm (SqT.of c) rfl ?_;exists iteE0 ?_;exists ixTm (SqT.of c) rfl ?_;exists iteE0 ?_;exists ixTm (SqT.of c) rfl ?_;exists⟨ub,?_⟩;walk_at"f 1 t";refine⟨p1,_,rfl,.inr (SqT.of t1),rfl,rfl,_,rfl,?_⟩;refine iteE1 ?_;exists ixTm (SqT.of (s1 _ _ c)) rfl ?_;exists ixTm (SqT.of (s1 _ _ c)) rfl ?_;refine⟨b,rfl,⟨_,SqT.of (s1 _ _ m)⟩,?_⟩;refine Qb (xs:=xs) (fun i e d=>e=j.take i/\H1=d) ⟨rfl,rfl⟩ ?_ ?_ ?_
   ·rintro i e d _ ⟨rfl,rfl⟩;exact SqT.of (s1 _ _ m)
   ·rintro i x e d o ⟨rfl,rfl⟩;have F:=(vx.mp o).1;have u:j[i]?=some j[i]:=vz (by lia);refine jV (σ':=[none,some _]) rfl ?_;exists iteT ?_;exists wt ((C i x _ o u).same s1) ?_;refine⟨by rw[vi];lia,?_,rfl⟩;rw[take_snoc u]
   rintro e d ⟨rfl,rfl⟩;rw[<-D,v7];refine⟨by lia,?_⟩;walk_at"f 2 t";exists⟨p2,_,rfl,.inl ⟨SqL.of t2,?_⟩⟩;walk_at"f 3 t";exists⟨ub,?_⟩;walk_at"f 4 t";exact q p4 H4 (s1.trans (s2.trans (s3.trans s4))) ⟨p3,t4,s4 _ _ t3⟩
  | true=>
   obtain⟨b,c,m⟩:=f;have c:H a=some (.tup [.str "side",.ref b]):=c;exists ixTm (SqT.of c) rfl ?_;exists iteE0 ?_;exists ixTm (SqT.of c) rfl ?_;exists iteE0 ?_;exists ixTm (SqT.of c) rfl ?_;exists⟨ub,?_⟩;walk_at"f 1 t";refine⟨p1,_,rfl,.inr (SqT.of t1),rfl,rfl,_,rfl,?_⟩;refine iteE1 ?_;exists ixTm (SqT.of (s1 _ _ c)) rfl ?_;exists ixTm (SqT.of (s1 _ _ c)) rfl ?_;refine⟨b,rfl,⟨_,SqT.of (s1 _ _ m)⟩,?_⟩;refine Qb (xs:=xs) (fun i e d=>e=j.take i/\H1=d) ⟨rfl,rfl⟩ ?_ ?_ ?_
   ·rintro i e d _ ⟨rfl,rfl⟩;exact SqT.of (s1 _ _ m)
   ·rintro i x e d o ⟨rfl,rfl⟩;have F:=(vx.mp o).1;have u:j[i]?=some j[i]:=vz (by lia);refine jV (σ':=[none,some _]) rfl ?_;exists iteT ?_;exists wt ((C i x _ o u).same s1) ?_;refine⟨by rw[vi];lia,?_,rfl⟩;rw[take_snoc u]
   rintro e d ⟨rfl,rfl⟩;rw[<-D,v7];refine⟨by lia,?_⟩;walk_at"f 2 t";exists⟨p2,_,rfl,.inl ⟨SqL.of t2,?_⟩⟩;walk_at"f 3 t";exists⟨ub,?_⟩;walk_at"f 4 t";exact q p4 H4 (s1.trans (s2.trans (s3.trans s4))) ⟨p3,t4,s4 _ _ t3⟩
theorem kT(T:Txt K mg t):FnOk P w K mg base CX0 1 t.Jx t.Jz ["named"] (sp_numbers_of):=by
 specialize T.qg.F.ok qH;obtain⟨l,M,xs,rfl,B,U,R,X,D,q⟩:=h;refine⟨_,(jc (jo (i:=1) qH.nd rfl (.inl rfl) QY)
  (jc (j2 PassesOwn.never rfl (YD (by rfl) T.Qt (ja (pv 0) jb)) (Jq rfl (jr (jm (i:=2) qH.nd rfl (.inl rfl)) (jr (jm (i:=3) qH.nd rfl (.inl rfl)) jZ)))
   (jf (zf (qt hr) (pv 1) (jg ji (pv 3) jd) (pv 2) rfl)))
  (jf (ju (pv 1))))),?_⟩
 refine jw (σ':=[some _,none,none,none]) rfl ?_
 try dsimp only[cxOf,Cx.nox]
 have sz:(200:Nat)<sizeLine:=by decide
 walk_at"g";walk_at"f d hd H1 s1 t1";exists⟨l,_,rfl,SqL.of (s1 _ _ B),?_⟩;refine Z1 (xs:=M.map V.ref) (fun i p c=>IvE2 fun(m n:Option V)=>IvA2 (p=[some (.ref l),some (.ref d),m,n]) (Same H c/\c d=some (.dK (numK (xs.take i))))) ⟨_,_,rfl,s1,t1⟩ ?_ ?_ ?_
 ·rintro i p c _ ⟨m,n,rfl,g,f⟩;exact SqL.of (g _ _ B)
 ·rintro i v p c P L G ⟨m,n,rfl,g,f⟩ J Y;rw[vv]at G;obtain⟨a,x,rfl⟩:=vg.mp G;have Z:=(vx.mp x).1;have C:xs[i]?=some xs[i]:=vz (by lia);obtain⟨r,O⟩:=R i a _ x C;have I:=g.trans J;have o:(xs.take i).length=i:=by rw[vi];lia
  refine JA (SqT.of Y) ?_;exists ixTm (SqT.of (I _ _ O)) rfl ?_;refine⟨d,_,rfl,DPut.k (k:=Sum.inr xs[i]) (J _ _ f) (by rw[j1s,o];lia),?_⟩;have S:(Sum.inr xs[i]:Key)∉(numK (xs.take i)).map (·.1):=fun z=>by
   rw[KC]at z;obtain⟨y,W,e⟩:=vK.mp z;have N:y=xs[i]:=Sum.inr.inj e;subst N;obtain⟨j,F,e⟩:=mem_iff_getElem.mp W;rw[getElem_take]at e;rw[o]at F;exact ud e (pairwise_iff_getElem.mp X j i (by lia) (by lia) F)
  refine⟨_,_,rfl,fun b u h=>(jh (je h hd)).trans (I _ _ h),?_⟩;rw[jq,zU S,take_snoc C,j0d,o]
 rintro σ' c ⟨m,n,rfl,g,f⟩;rw[vt,U,v7]at f;walk_at"g";exact q d c g hd f
theorem j37(T:Txt K mg t)(jP:FnOk P w K mg base CX0 1 t.Jx t.Jz ["named"] (sp_numbers_of))(Jm:FnOk P w K mg base CX0 1 t.qc t.qd ["form","limbs","parts"] (sp_formW)):FnOk P w K mg base CX0 2 t.W0 t.xf ["book"] (sp_made):=by
 specialize T.j0z.F.ok Zq;obtain⟨b,pl,pp,a1,a2,l,f,rfl,B,W,n1,q⟩:=h;refine⟨_,(jc (jo (i:=1) Zq.nd rfl (.inl rfl) (jk T.qg jP hr (ja (jg ji (pv 0) jd) jb)))
  (jc (jo (i:=2) Zq.nd rfl (.inl rfl) QY)
  (jc (jo (i:=3) Zq.nd rfl (.inl rfl) j1I)
  (jc (j2 PassesOwn.never rfl (jF (jg ji (pv 0) jd)) (Jq rfl (jr (jm (i:=4) Zq.nd rfl (.inl rfl)) (jr (jm (i:=5) Zq.nd rfl (.inl rfl)) jZ)))
   (jf (zf (qt hr) (pv 2) (pv 4) (j3f hr.units (pv 3) (ja (jk T.Qk Jm hr (ja (pv 5) (ja (pv 1) (ja (pv 2) jb)))) (ja (jz XX (by rfl) T.JT Jj (ja (pv 3) jb)) jb))) rfl)))
  (jf (ju (jD (ja (Jt (W8 rfl) (by rfl) T.zE Q7 (ja (pv 3) jb)) (ja (ze (qt hr) (pv 2) (jg ji (jg jA (jg ji (pv 0) jd) (zR Qi jd)) jd)) jb))))))))),?_⟩
 refine jw (σ':=[some _,none,none,none,none,none]) rfl ?_
 try dsimp only[cxOf,Cx.nox]
 have sz:(200:Nat)<sizeLine:=by decide
 have a3:=W.p61;have pa:=B.pa.1;have la:=B.la.1;have l8:=W.l8;have R:(nmsOf f).length=f.length:=vt _;exists ixTm (SqT.of B.t) rfl ?_;exists⟨pl,a1,nmsOf l,rfl,B.l,by rw[nmsOf,vt];exact la,fun i a x ea ex=>?_,W.ln,by rw[nmsOf,vt];lia,fun d H1 U hd ed=>?_⟩
 ·unfold nmsOf at ex;rw[vv]at ex;obtain⟨p,ep,rfl⟩:=vg.mp ex;exact⟨_,B.la.2 i a p ea ep⟩
 walk_at"g";walk_at"f d2 hd2 H2 s2 t2";exists j1S ?_;walk_at"f d3 hd3 H3 s3 t3";have n3:=none_of s2 hd3;have L:=s2.trans s3;have I:d2≠d3:=je t2 hd3;exists ixTm (SqT.of (L _ _ (U _ _ B.t))) rfl ?_;refine⟨pp,rfl,⟨_,SqL.of (L _ _ (U _ _ B.p))⟩,?_⟩;refine Jf (xs:=a2.map V.ref) (fun i σ v=>IvE3 fun(Z o5:Option V) (xs:List NE)=>IvA4 (σ=[some (.ref b),some (.ref d),some (.ref d2),some (.ref d3),Z,o5]) (Same H1 v) (v d2=some (.dK (numV ((nmsOf f).take i) (madeM (nmsOf l) (nmsOf f) (f.take i)).2))) (v d3=some (DNx P w d3 xs)/\EnAt v xs (madeM (nmsOf l) (nmsOf f) (f.take i)).1))
  ⟨_,_,[],rfl,L,s3 _ _ t2,t3,⟨rfl,fun i d h=>by simp[madeM]at h⟩⟩ ?_ ?_ ?_
 ·rintro i σ v _ ⟨Z,o5,xs,rfl,C,_⟩;exact SqL.of (C _ _ (U _ _ B.p))
 ·rintro i x σ v hx ⟨Z,o5,xs,rfl,C,m,D,N⟩;obtain⟨a,p,rfl,Y,fb,G,hf⟩:=B.pa.at_ref hx;have hi:=(vx.mp Y).1;have S:=U.trans C;have M:=Z7 (nmsOf l) (nmsOf f) i (f.take i) (by rw[vi];lia);have mp:=j1a (H:=v) W Y M.ln (C _ _ ed) m;have F:=N.1;have lk:=M.lk;have O:(nmsOf f)[i]?=some p.1:=by unfold nmsOf;rw[vv,Y];rfl
  have hk:(Sum.inr p.1:Key)∉(numV ((nmsOf f).take i) (madeM (nmsOf l) (nmsOf f) (f.take i)).2).map (·.1):=fun z=>by
   rw[KD (by rw[vi,M.ln];lia)]at z;obtain⟨y,hy,e⟩:=vK.mp z;have e':y=p.1:=Sum.inr.inj e;subst e';obtain⟨j,hj,e⟩:=mem_iff_getElem.mp hy;rw[vi]at hj;rw[getElem_take]at e;obtain⟨h2,m⟩:=vx.mp O;exact ud (e.trans m.symm) (pairwise_iff_getElem.mp W.pn j i (by lia) h2 (by lia))
  have nl:(numV ((nmsOf f).take i) (madeM (nmsOf l) (nmsOf f) (f.take i)).2).length<sizeLine:=by
   rw[j1t (by rw[vi,M.ln];lia),vi];lia
  have et:(nmsOf f).take (i+1)=(nmsOf f).take i++[p.1]:=take_snoc O;have em:madeM (nmsOf l) (nmsOf f) (f.take (i+1))=stepM (nmsOf l) (nmsOf f) (madeM (nmsOf l) (nmsOf f) (f.take i)) p:=by rw[take_snoc Y,Jg]
  rw[et,em];have ll:((nmsOf f).take i).length=(madeM (nmsOf l) (nmsOf f) (f.take i)).2.length:=by rw[vi,M.ln];lia
  generalize madeM (nmsOf l) (nmsOf f) (f.take i)=st at *;refine JA (SqT.of (S _ _ G)) ?_;exists j3o ?_;exists⟨d3,xs,rfl,D,?_⟩;exists⟨fb,d,d2,_,_,rfl,Wo.mp (FormAt.same S hf),mp,fun c H4 o gc=>?_⟩;exists⟨d3,xs,rfl,o _ _ D,?_⟩;walk_at"g";have r:=N.tups fun b xs h=>o b (.tup xs) h
  obtain⟨f1,f2⟩:=r.found (d:=wiF (nmsOf l) (nmsOf f) st.2 p.2) M.nd;refine⟨xs,c,_,_,rfl,o _ _ D,r.nat,wC gc,by lia,fun p' a0=>?_,fun hn=>?_⟩
  ·obtain⟨hm,hv⟩:=f1 p' a0;rw[hv];exists⟨d2,_,rfl,DPut.k (k:=Sum.inr p.1) (o _ _ m) nl,?_⟩;unfold stepM;dsimp only;rw[vd hm];refine⟨_,_,xs,rfl,fun c u h=>(jh (je h hd2)).trans ((C.trans o) _ _ h),?_,(jh I.symm).trans (o _ _ D),r.tups fun b xs h=>(jh (Qf h (o _ _ m) (fun z=>by cases z))).trans h⟩;rw[jq,zU hk,KE ll];rfl
  ·have hm:=f2 hn;exists⟨d2,_,rfl,DPut.k (k:=Sum.inr p.1) ((jh I).trans (o _ _ m)) nl,?_⟩;unfold stepM;dsimp only;rw[vc hm];have tk:∀b ys,H4 b=some (.tup ys)->upd (upd H4 d3 (DNx P w d3 (xs++[(kD (wiF (nmsOf l) (nmsOf f) st.2 p.2),c,.int (xs.length:Nat))]))) d2 (.dK (putK (numV ((nmsOf f).take i) st.2) (Sum.inr p.1) (.int (xs.length:Nat)))) b=some (.tup ys):=fun b ys h=>(jh (Qf h (o _ _ m) (fun z=>by cases z))).trans ((jh (Qf h (o _ _ D) (fun z=>by cases z))).trans h)
   refine⟨_,_,xs++[(kD (wiF (nmsOf l) (nmsOf f) st.2 p.2),c,.int (xs.length:Nat))],rfl,fun c u h=>(jh (je h hd2)).trans ((jh (je h n3)).trans ((C.trans o) _ _ h)),?_,(jh I.symm).trans jq,?_⟩
   ·rw[jq,zU hk,KE ll,F];rfl
   ·rw[F];rw[F]at tk;exact(r.tups tk).snoc (GAt.tups tk gc)
 rintro σ' v ⟨Z,o5,xs,rfl,C,m,D,N⟩;rw[vt,pa,v7]at m N;rw[<-R,v7]at m;have S:=U.trans C;exists⟨d3,xs,rfl,D,?_⟩;walk_at"f l5 hl5 H5 s5 t5";walk_at"g";have J:=S.trans s5;obtain⟨a,ha,fb,G,hf⟩:=B.pa.get (i:=f.length-1) (x:=f[f.length-1]) (vz (by lia));refine ixTm (SqT.of (J _ _ B.t)) rfl ?_;exists ixLm (SqL.of (J _ _ B.p)) (j0E (n:=f.length) n1 (by rw[vt];exact pa) (by rw[vv,ha];rfl)) ?_;exists ixTm (SqT.of (J _ _ G)) rfl ?_;have M:=Z7 (nmsOf l) (nmsOf f) f.length f rfl;have g:DGet H5 d2 (.str f[f.length-1].1) (some (vN ((madeM (nmsOf l) (nmsOf f) f).2.getD (f.length-1) 0))):=by
  have g:=DGet.k (k:=Sum.inr f[f.length-1].1) (s5 _ _ m);rw[WC (j:=f.length-1) (R.trans M.ln.symm) W.pn (by unfold nmsOf;rw[vv,vz (by lia)];rfl)]at g;exact g
 refine⟨d2,_,rfl,g,?_⟩;exists⟨ub,?_⟩;walk_at"f 6 t";have X:=s5.trans s6;exact q p6 l5 (xs.map fun q=>q.2.1) H6 (S.trans X) t6 (by rw[v8];exact s6 _ _ t5) (DrAt.of (N.tups fun b xs h=>X _ _ h))
theorem WE(T:Txt K mg t):FnOk P w K mg base CX0 1 t.Qa t.Qc ["form"] (sp_namesG):=by
 specialize T.ZC.F.ok WN;obtain⟨a,g,rfl,d,q⟩:=h;refine⟨_,(jc (jS (jp j4n (jg ji (pv 0) jd) (wP (v:=.ref t.JS) (by rfl) T.K1 rfl) (by with_unfolding_all rfl))
   (jf (ju (jg ji (pv 0) jd)))
   jv)
  (jf (ju (kq (jp Ja (jg ji (pv 0) jd) jx (nomark _)) (qm j27 (pv 0) (qo jd) QB) (jD jb))))),?_⟩
 refine jw (σ':=[some _]) rfl ?_
 try dsimp only[cxOf,Cx.nox]
 have f:(200:Nat)<sizeLine:=by decide
 cases g with
 | smp r vs=>
  cases r with
  | false=>
   have c:H a=some (.tup (.str "hold"::vs)):=d;exists ixTm (SqT.of c) (at0) ?_;exists⟨_,_,_,rfl,rfl,T.JQ,?_⟩;exists iteE0 ?_;exists ixTm (SqT.of c) (at0) ?_;exists iteE0 ?_;exists⟨va _,?_⟩;walk_at"f b hb H1 s1 t1";exact q b H1 s1 t1
  | true=>
   have c:H a=some (.tup (.str "ring"::vs)):=d;exists ixTm (SqT.of c) (at0) ?_;exists⟨_,_,_,rfl,rfl,T.JQ,?_⟩;exists iteE0 ?_;exists ixTm (SqT.of c) (at0) ?_;exists iteE0 ?_;exists⟨va _,?_⟩;walk_at"f b hb H1 s1 t1";exact q b H1 s1 t1
 | rise x h n=>
  have c:H a=some (.tup [.str "raise",x,h,n]):=d;exists ixTm (SqT.of c) rfl ?_;exists⟨_,_,_,rfl,rfl,T.JQ,?_⟩;exists iteE0 ?_;exists ixTm (SqT.of c) rfl ?_;exists iteE0 ?_;exists⟨va _,?_⟩;walk_at"f b hb H1 s1 t1";exact q b H1 s1 t1
 | again k x=>
  have c:H a=some (.tup [.str "again",k,x]):=d;exists ixTm (SqT.of c) rfl ?_;exists⟨_,_,_,rfl,rfl,T.JQ,?_⟩;exists iteE0 ?_;exists ixTm (SqT.of c) rfl ?_;exists iteE1 ?_;exists⟨a,_,rfl,SqT.of c,(by show¬(HT.sIx 3 0 (some 2)=0/\HT.sIx 3 3 none=3);decide),?_⟩;walk_at"f b hb H1 s1 t1";exact q b H1 s1 t1
 | many s xs=>
  obtain⟨b,c,e⟩:=d;cases s with
  | false=>
   have c:H a=some (.tup [.str "row",.ref b]):=c;exists ixTm (SqT.of c) rfl ?_;exists⟨_,_,_,rfl,rfl,T.JQ,?_⟩;exists iteE1 ?_;exists ixTm (SqT.of c) rfl ?_;exact q b H (Same.refl _) e
  | true=>
   have c:H a=some (.tup [.str "side",.ref b]):=c;exists ixTm (SqT.of c) rfl ?_;exists⟨_,_,_,rfl,rfl,T.JQ,?_⟩;exists iteE1 ?_;exists ixTm (SqT.of c) rfl ?_;exact q b H (Same.refl _) e
theorem xD(T:Txt K mg t)(qv:FnOk P w K mg base CX0 1 t.Qa t.Qc ["form"] (sp_namesG)):FnOk P w K mg base CX0 2 t.yA t.yH ["forms","drum"] (sp_come):=by
 specialize T.k5.F.ok zj;obtain⟨f,a0,o,e,rfl,ef,dr,D,tl,a2,q⟩:=h;refine⟨_,(jc (jo (i:=2) zj.nd rfl (.inl rfl) (j3e (j1K (pv 1) zQ j3h) rfl rfl (by simp) (by decide)))
  (jc (j2 PassesOwn.never rfl (j0i (by rfl) T.JO (ja (pv 1) (ja (zR Qi jd) (ja (zR Qi jd) jb)))) (jm (i:=3) zj.nd rfl (.inl rfl))
   (jf (jS (j4v (j4p (qt hr) (pv 3) (pv 2)))
    (jf (j2 PassesOwn.never rfl (yT (jk T.ZC qv hr (ja (jg jA (pv 0) (pv 3)) jb))) (jm (i:=4) zj.nd rfl (.inl rfl))
     (jf (zf (qt hr) (pv 2) (pv 4) zQ rfl))))
    jv)))
  (jf (ju (jz (Zx rfl) (by rfl) T.YS yC (ja (pv 2) jb)))))),?_⟩
 refine jw (σ':=[some _,some _,none,none,none]) rfl ?_
 try dsimp only[cxOf,Cx.nox]
 have sz:(200:Nat)<sizeLine:=by decide
 have fl:=dr.1;exists j3n fun d hd=>?_
 exists⟨jq,[(iK e,.bl true)],rfl,(by show 1<=15;decide),?_⟩;rw[j3y];have O:Same H (upd H d (.dK (mergeK [] [(iK e,.bl true)]))):=YJ hd rfl;have e0:upd H d (.dK (mergeK [] [(iK e,.bl true)])) d=some (.dK [(iK e,.bl true)]):=jq;generalize upd H d (.dK (mergeK [] [(iK e,.bl true)]))=H0 at O e0|-;exists⟨(e:Int),-1,rfl,⟨by lia,by lia,by lia,by lia⟩,?_⟩;have en:((e:Int) - -1).toNat=e+1:=by lia
 rw[en];refine j0V (fun i r R=>IvE4 fun(o3 p:Option V) (m:List (Key×V)) (S:List Nat)=>IvA4 (r=[some (.ref f),some (vN e),some (.ref d),o3,p]) (Same H R) (R d=some (.dK m)) (KySet m S/\CmOk o e i S))
  ⟨_,_,_,[e],rfl,O,e0,⟨rfl,by simp⟩,⟨fun x v=>by rw[vo.mp v];exact .top,vo.mpr rfl,fun y Z hi=>ud hi (by rw[vo.mp Z];lia)⟩⟩ ?_ ?_
 ·rintro i r R hi ⟨o3,p,m,S,rfl,F,J,C,G⟩;obtain⟨y,Z⟩:∃y:Nat,(e:Int)-(i:Int)=(y:Int):=⟨e-i,by lia⟩
  have yi:y+i=e:=by lia
  rw[Z];have yk:o[y]?=some o[y]:=vz (by lia);obtain⟨fa,Y,X⟩:=dr.get yk;walk_at"g";have g:=DGet.k (k:=iK y) J;refine⟨d,_,rfl,g,?_⟩;rw[C.mem];refine⟨_,rfl,?_⟩;refine iteD (fun W=>?_) (fun W=>?_)
  ·exists ixLm (SqL.of (F _ _ ef)) (jG (j:=y) (by rw[vv,Y];rfl)) ?_;exists⟨fa,_,rfl,X.same F,fun b H1 s1 U=>?_⟩;rw[j0X]at U;have eg:o.getD y (.hold 0)=o[y]:=by rw[vy,yk];rfl
   have cy:=G.yes D W yi;rw[eg]at cy;have n8:=D.l8 _ (getElem_mem (by lia):o[y]∈o);refine⟨b,rfl,⟨_,SqT.of U⟩,?_⟩;refine j2F (xs:=o[y].ns.map vN) (fun j r L=>IvE2 fun(p:Option V) (a:List (Key×V))=>IvA3 (r=[some (.ref f),some (vN e),some (.ref d),some (.int (y:Nat)),p]) (∀c u,c≠d->H1 c=some u->L c=some u) (L d=some (.dK a)/\KySet a (addS S (o[y].ns.take j))))
    ⟨_,m,rfl,fun c u _ h=>h,s1 _ _ J,C⟩ ?_ ?_ ?_
   ·rintro j r L _ ⟨p,a,rfl,N,I,B⟩;exact SqT.of (N _ _ (Qf U (s1 _ _ J) (fun z=>by cases z)) U)
   ·rintro j x r L v ⟨p,a,rfl,N,I,B⟩;obtain⟨z,M,rfl,a1⟩:=yp v;have hj:=(vx.mp M).1;have kl:=B.len;have sl:(addS S (o[y].ns.take j)).length<=e+1:=Z8 B.2 fun x v=>by
     rcases qj.mp v with h | h
     ·have:=(G.rc x h).le D;lia
     ·have:=D.lt y _ yk x (uw h);lia
    exists⟨d,_,rfl,DPut.k (k:=iK z) I (by lia),?_⟩;refine⟨_,_,rfl,fun c u n h=>(jh n).trans (N _ _ n h),jq,?_⟩;rw[take_snoc M,Kb];exact B.put z _
   rintro r L ⟨p,a,rfl,N,I,B⟩;rw[vt,v7]at B;exact⟨_,_,a,_,rfl,fun c u h=>N _ _ (je h hd) (s1 _ _ (F _ _ h)),I,B,cy⟩
  ·walk_at"g";exact⟨_,_,m,S,rfl,F,J,C,G.no W yi⟩
 rintro r R ⟨o3,p,m,S,rfl,F,J,C,G⟩;have sl:S.length<=e+1:=Z8 C.2 fun x v=>by have:=(G.rc x v).le D;lia
 exists⟨d,m,S.map (fun n:Nat=>(n:Int)),rfl,J,by rw[C.1,v8];rfl,by rw[vt];lia,fun l ms hl pm od=>?_⟩;obtain⟨ns,e1,I,e3⟩:=Yl pm od C.2;rw[e1];exact q l ns _ (F.trans (YJ hl rfl)) (none_of F hl) jq I fun x=>(e3 x).trans G.all
theorem j1v(T:Txt K mg t)(Jm:FnOk P w K mg base CX0 1 t.qc t.qd ["form","limbs","parts"] (sp_formW))(WY:FnOk P w K mg base CX0 2 t.W0 t.xf ["book"] (sp_made))(yv:FnOk P w K mg base CX0 2 t.yA t.yH ["forms","drum"] (sp_come)):FnOk P w K mg base CX0 3 t.KP t.K7 ["book"] (sp_drums):=by
 specialize T.ZR.F.ok qK;obtain⟨b,pl,pp,a4,a5,r,D,rfl,B,W,n1,q⟩:=h;refine⟨_,(jc (jo (i:=1) qK.nd rfl (.inl rfl) (jk T.j0z WY hr (ja (pv 0) jb)))
  (jc (jo (i:=2) qK.nd rfl (.inr rfl) (jg ji (pv 1) jd))
  (jc (jo (i:=3) qK.nd rfl (.inl rfl) (jk T.k5 yv hr (ja (pv 2) (ja (jg ji (pv 1) jd) jb))))
  (jc (jo (i:=4) qK.nd rfl (.inr rfl) (kr rfl (by rfl) T.zE (by rfl) T.JO (ja (jz jR (by rfl) T.JT Jj (ja (jg ji (pv 0) jd) jb)) jb)))
  (jc (jo (i:=5) qK.nd rfl (.inr rfl) QY)
  (jc (j2 PassesOwn.never rfl (YD (by rfl) T.Qt (ja (pv 3) jb)) (Jq rfl (jr (jm (i:=6) qK.nd rfl (.inl rfl)) (jr (jm (i:=7) qK.nd rfl (.inl rfl)) jZ)))
   (jf (zf (qt hr) (pv 5) (pv 7) (pv 6) rfl)))
  (jf (ju (jD (ja (Jt qR (by rfl) T.zE Q7 (ja (jg ji (pv 0) jd) jb)) (ja (jU (ow:=["number"]) (ci:=[4,5,2]) rfl (CompScope.of (defScope YF) ["book","found","forms","kept","limbs","anew","place","number"] rfl rfl (by decide +kernel)) (jY (by decide)) (jF (pv 3)) (fun _ _ _ _ _=>⟨(jm (i:=0) (jJ ["book","found","forms","kept","limbs","anew","place","number"] rfl (by decide +kernel)) rfl (.inl rfl)),Ju,(jk T.Qk Jm hr (ja (jg (Js (K:=K) rfl) (pv 3) (pv 0)) (ja (pv 1) (ja (pv 2) jb))))⟩)) jb))))))))))),?_⟩
 refine jw (σ':=[some _,none,none,none,none,none,none,none]) rfl ?_
 try dsimp only[cxOf,Cx.nox]
 have sz:(200:Nat)<sizeLine:=by decide
 have O:=Yx W n1;have a3:=O.k61;have tp:=O.tp;have la:=B.la.1;have l8:=W.l8;exists⟨b,pl,pp,a4,a5,r,D,rfl,B,W,n1,fun tt f a0 H1 s1 et ef dr=>?_⟩;exists ixTm (SqT.of et) rfl ?_;exists ixTm (SqT.of et) rfl ?_;exists⟨f,a0,drsM r D,topM r D,rfl,ef,dr,O.dw,tp,a3,fun l2 ms H2 s2 a7 N m1 m2=>?_⟩;have Z:Kept r D ms:=⟨m1,m2⟩
 have a8:=Z.len O;have nd:=j1l m1;have J:=s1.trans s2;exists j3N ?_;exists ixTm (SqT.of (J _ _ B.t)) rfl ?_;refine⟨_,_,rfl,.inl ⟨_,SqL.of (J _ _ B.l),rfl⟩,?_⟩;rw[vt,la];exists⟨r.length,rfl,by lia,?_⟩;walk_at"f 3 t";walk_at"g";walk_at"f d4 hd4 H4 s4 t4";exists⟨l2,_,rfl,SqL.of (s4 _ _ (s3 _ _ N)),?_⟩;refine Z1 (xs:=ms.map vN) (fun i σ F=>IvE2 fun(o6 o7:Option V)=>IvA2 (σ=[some (.ref b),some (.ref tt),some (.ref f),some (.ref l2),some (.ref p3),some (.ref d4),o6,o7]) (Same H3 F/\F d4=some (.dK (numI (ms.take i))))) ⟨_,_,rfl,s4,t4⟩ ?_ ?_ ?_
 ·rintro i σ F _ ⟨o6,o7,rfl,R,S⟩;exact SqL.of (R _ _ (s3 _ _ N))
 ·rintro i v σ F T' a6 hx ⟨o6,o7,rfl,R,S⟩ sP tP;obtain⟨m,C,rfl,I⟩:=yp hx;have hi:=(vx.mp C).1;have tl:(ms.take i).length=i:=by rw[vi];lia
  refine JA (SqT.of tP) ?_;exists⟨d4,_,rfl,DPut.k (k:=iK m) (sP _ _ S) (by rw[j1q,tl];lia),?_⟩;have hk:iK m∉(numI (ms.take i)).map (·.1):=fun z=>by
   rw[KB]at z;obtain⟨y,hy,e⟩:=vK.mp z;have e':=xn e;subst e';obtain⟨j,hj,e⟩:=mem_iff_getElem.mp hy;rw[tl]at hj;rw[getElem_take]at e;obtain⟨h2,N⟩:=vx.mp C;exact ud (e.trans N.symm) (pairwise_iff_getElem.mp nd j i (by lia) h2 hj)
  refine⟨_,_,rfl,fun c u h=>(jh (je h hd4)).trans (sP _ _ (R _ _ h)),?_⟩;rw[jq,zU hk,take_snoc C,j0c,tl];rfl
 rintro σ' H5 ⟨o6,o7,rfl,R,S⟩;rw[vt,v7]at S;have Y:=s3.trans R;have G:=J.trans Y;exists ixTm (SqT.of (G _ _ B.t)) rfl ?_;refine⟨pl,_,rfl,.inl (SqL.of (G _ _ B.l)),?_⟩;walk_at"f 6 t";have L:=Y.trans s6;have X:=G.trans s6;exists⟨l2,rfl,⟨_,SqL.of (L _ _ N)⟩,?_⟩;refine j3 (xs:=ms.map vN) (fun i ys F=>IvE1 fun(o:List Addr)=>IvA2 (ys=o.map V.ref) (Same H6 F/\DrAt F o ((keptD (drsM r D) ms).take i))) ⟨[],rfl,Same.refl _,.nil⟩ ?_ ?_ ?_
 ·rintro i ys F _ ⟨o,rfl,g,p⟩;exact SqL.of (g _ _ (L _ _ N))
 ·rintro i x ys F hx ⟨o,rfl,g,p⟩;obtain⟨m,C,rfl,I⟩:=yp hx;have hi:=(vx.mp C).1;have mt:=Z.lt O I;have mk:(drsM r D)[m]?=some (drsM r D)[m]:=vz (by lia);have eg:(drsM r D).getD m (.hold 0)=(drsM r D)[m]:=by rw[vy,mk];rfl
  obtain⟨fa,a2,a1⟩:=dr.get mk;have sH:=L.trans g;have U:=getElem_mem (by lia) (l:=drsM r D) (n:=m);have gm:=j4B (H:=F) (l:=p3) (an:=d4) (n:=r.length) (ms:=ms) (d:=(drsM r D)[m]) (g _ _ (s6 _ _ (R _ _ t3))) (g _ _ (s6 _ _ S)) nd (O.lm _ U) (fun j hj=>Z.sub I (by rw[eg];exact hj)) (O.dw.l8 _ U);refine jV (σ':=[none,some _,some _,some _]) rfl ?_;exists iteT ?_;exists ixLm (SqL.of (sH _ _ (s2 _ _ ef))) (jG (j:=m) (by rw[vv,a2];rfl)) ?_;exists⟨fa,p3,d4,_,_,rfl,(a1.same s2).same sH,gm,fun c H7 s7 gc=>?_⟩;have dl:=p.1;rw[vi]at dl;refine⟨by rw[vt];lia,o++[c],by rw[vj];rfl,g.trans s7,?_⟩;rw[take_snoc (x:=reD (fun n=>ms.idxOf n) (drsM r D)[m]) (by unfold keptD;rw[vv,C,<-eg];rfl)];exact All2.snoc (All2.mono p fun a d h=>h.same s7) gc
 rintro ys F ⟨o,rfl,g,p⟩;have kl:(keptD (drsM r D) ms).length=(ms.map vN).length:=by unfold keptD;rw[vt,vt]
 rw[<-kl,v7]at p;have dl:=p.1;rw[kl,vt]at dl;refine⟨by rw[vt];lia,?_⟩;walk_at"f 8 t";exists⟨ub,?_⟩;walk_at"f 9 t";have a9:=g.trans s8;have M:=s8.trans s9;exact q p9 p6 p8 o ms H9 (X.trans (g.trans M)) t9 (M _ _ (g _ _ t6)) (s9 _ _ t8) (none_of G hp6) (none_of (X.trans g) hp8) (je (g _ _ t6) hp8) (All2.mono p fun a d h=>h.same M) Z
theorem xF(T:Txt K mg t):FnOk P w K mg base CX0 1 t.Zf t.Zh ["number"] (WQ):=by
 refine T.Ka.F.ok zm (fun l H Q E h=>?_) (fun f A e s H l Q E p h=>?_)
 ·obtain⟨N,rfl,k,q⟩:=h;rfl
 obtain⟨N,rfl,k,q⟩:=h;refine⟨_,(jc (jo (i:=1) zm.nd rfl (.inl rfl) (jg xt (wP (by rfl) T.Kj T.KH) (jt qy (pv 0) jd)))
  (jc (WI PassesOwn.never (jp j1A (pv 0) jd (nomark _))
   (jc (jo (i:=0) zm.nd rfl (.inl rfl) (jt QX (pv 0) jd))
   (jf (jo (i:=1) zm.nd rfl (.inl rfl) (jt qx (jg xt (wP (by rfl) T.Kj T.KH) (jt qy (pv 0) jd)) (pv 1))))))
  (jf (ju (pv 1))))),?_⟩
 refine jw (σ':=[some _,none]) rfl ?_
 try dsimp only[cxOf,Cx.nox]
 have r:(200:Nat)<sizeLine:=by decide
 exists⟨_,_,_,rfl,rfl,(by decide +kernel),j19 (by lia) (by lia),?_⟩;exists⟨fun n σ' d=>IvE2 fun(a:Nat) (b:Str)=>IvA4 (σ'=[some (.int (a:Nat)),some (.str b)]) (d=H) (n=a) ((a<26->b=nmK N)/\(26<=a->a=N/\b=⟨#[97+N%26]⟩)),⟨N,N,_,rfl,rfl,rfl,fun h=>?_,fun h=>⟨rfl,?_⟩⟩,?_⟩
 ·unfold nmK;rw[vd h,show((N:Int)%26).toNat=N by lia]
 ·rw[show((N:Int)%26).toNat=N%26 by lia]
 rintro n σ' d ⟨a,b,rfl,rfl,m,g,j⟩;exists iteD (fun c=>?_) (fun c=>?_)
 ·obtain⟨o,rfl⟩:=j (by lia);refine⟨_,fun σ' d h=>h,?_⟩;exists⟨_,_,_,rfl,rfl,(by decide +kernel),j19 (by lia) (by lia),?_⟩;exists⟨_,_,rfl,rfl,(by show 1+1<=sizeLine;lia),?_⟩;refine⟨a/26,by lia,a/26,_,rfl,rfl,rfl,fun h=>?_,fun h=>ud h (by lia)⟩;unfold nmK;rw[vc (by lia),show((a:Int)/26%26).toNat=N/26 by lia];rfl
 ·rw[g (by lia)];walk_at"g";exact q
theorem xC(T:Txt K mg t)(Jm:FnOk P w K mg base CX0 1 t.qc t.qd ["form","limbs","parts"] (sp_formW))(yy:FnOk P w K mg base CX0 1 t.Zf t.Zh ["number"] (WQ)):FnOk P w K mg base CX0 2 t.yz t.yG ["box"] (sp_bookof):=by
 specialize T.QV.F.ok ZO;obtain⟨bx,l,f,D,N,ls,y,rfl,L,S,la,R,dr,O,q⟩:=h;refine⟨_,(jc (jo (i:=1) ZO.nd rfl (.inr rfl) (jU (ow:=["name","height"]) (ci:=[]) rfl (CompScope.of (defScope qX) ["box","limbs","names"] rfl rfl (by decide +kernel)) (Zm (by decide) (by decide)) (jF (jg ji (pv 0) jd)) (fun _ _ _ _ _=>⟨(Jq rfl (jr (jm (i:=0) (jJ ["box","limbs","names"] rfl (by decide +kernel)) rfl (.inl rfl)) (jr (jm (i:=1) (jJ ["box","limbs","names"] rfl (by decide +kernel)) rfl (.inl rfl)) jZ))),Ju,(pv 0)⟩)))
  (jc (jo (i:=2) ZO.nd rfl (.inr rfl) (jU (ow:=["number"]) (ci:=[]) rfl (CompScope.of (defScope qX) ["box","limbs","names"] rfl rfl (by decide +kernel)) (jY (by decide)) (JG (by rfl) T.JO (ja (jz jR (by rfl) T.JT Jj (ja (jg ji (pv 0) jd) jb)) jb)) (fun _ _ _ _ _=>⟨(jm (i:=0) (jJ ["box","limbs","names"] rfl (by decide +kernel)) rfl (.inl rfl)),Ju,(jk T.Ka yy hr (ja (pv 0) jb))⟩)))
  (jf (ju (jD (ja (Jt qR (by rfl) T.zE Q7 (ja (jg ji (pv 0) jd) jb)) (ja (jU (ow:=["name","form"]) (ci:=[1,2]) rfl (CompScope.of (defScope qX) ["box","limbs","names"] rfl rfl (by decide +kernel)) (Zm (by decide) (by decide)) (xH (by rfl) T.j0G (ja (pv 2) (ja (jg ji (pv 0) jd) jb))) (fun _ _ _ _ _=>⟨(Jq rfl (jr (jm (i:=0) (jJ ["box","limbs","names"] rfl (by decide +kernel)) rfl (.inl rfl)) (jr (jm (i:=1) (jJ ["box","limbs","names"] rfl (by decide +kernel)) rfl (.inl rfl)) jZ))),Ju,(jD (ja (pv 0) (ja (jk T.Qk Jm hr (ja (pv 1) (ja (pv 2) (ja (pv 3) jb)))) jb)))⟩)) jb))))))),?_⟩
 refine jw (σ':=[some _,none,none]) rfl ?_
 try dsimp only[cxOf,Cx.nox]
 have sz:(200:Nat)<sizeLine:=by decide
 have a2:=O.k61;have l8:=O.l8;have a0:=la.1;have dl:=dr.1;have F:(nmsOf ls).length=ls.length:=vt _;exists ixTm (SqT.of L) rfl ?_;refine⟨l,rfl,⟨_,SqL.of S⟩,?_⟩;refine j3 (xs:=D.map V.ref) (fun i m e=>m=((nmsOf ls).take i).map V.str/\H=e) ⟨rfl,rfl⟩ ?_ ?_ ?_
 ·rintro i m e _ ⟨rfl,rfl⟩;exact SqL.of S
 ·rintro i x m e hx ⟨rfl,rfl⟩;obtain⟨a,p,rfl,hp,W⟩:=la.at_ref hx;have Y:=(vx.mp hp).1;refine jV (σ':=[none,none]) rfl ?_;refine JA (SqT.of W) ?_;exists iteT ?_;exists⟨by rw[vt,vi];lia,?_,rfl⟩;rw[take_snoc (x:=p.1) (by unfold nmsOf;rw[vv,hp];rfl),vj];rfl
 rintro m e ⟨rfl,rfl⟩;have U:(D.map V.ref).length=(nmsOf ls).length:=by rw[vt,F];exact a0
 rw[U,v7];refine⟨by rw[vt,F];lia,?_⟩;walk_at"f 1 t";exists ixTm (SqT.of (s1 _ _ L)) rfl ?_;refine⟨_,_,rfl,.inl ⟨_,SqL.of (s1 _ _ R),rfl⟩,?_⟩;rw[vt,dl];exists⟨_,rfl,by lia,by lia,?_⟩;refine qw (fun i m e=>m=(List.range i).map (fun k=>V.str (nmK k))/\H1=e) ⟨rfl,rfl⟩ ?_ ?_
 ·rintro i m e Y ⟨rfl,rfl⟩;rw[show(0:Int)+(i:Nat)=(i:Nat)from uv _];refine jV (σ':=[none]) rfl ?_;exists iteT ?_;exists⟨i,rfl,by lia,?_⟩;refine⟨by rw[vt,length_range];lia,?_,rfl⟩;rw[range_succ,vj];rfl
 rintro m e ⟨rfl,rfl⟩;rw[show((y.length:Nat):Int).toNat=y.length from Int.toNat_natCast _];refine⟨by rw[vt,length_range];lia,?_⟩;walk_at"f 2 t";have o:=s1.trans s2;exists ixTm (SqT.of (o _ _ L)) rfl ?_;refine⟨l,_,rfl,.inl (SqL.of (o _ _ S)),?_⟩;walk_at"f 3 t";have g:=o.trans s3;exists ixTm (SqT.of (g _ _ L)) rfl ?_;walk_at"g";have z:=s3 _ _ t2;refine⟨p2,f,_,_,rfl,SqL.of z,SqL.of (g _ _ R),?_⟩;refine Wj (xs:=(List.range y.length).map fun k=>V.str (nmK k)) (zs:=N.map V.ref) (fun i m e=>IvE1 fun(b:List Addr)=>IvA2 (m=b.map V.ref) (Same H3 e/\All2 (PartAt e) b ((bkP ls y).take i))) (by rw[vt,vt,length_range];exact dl.symm) ⟨[],rfl,Same.refl _,.nil⟩ ?_ ?_ ?_
 ·rintro i m e _ ⟨b,rfl,r,_⟩;exact⟨SqL.of (r _ _ z),SqL.of (r _ _ (g _ _ R))⟩
 ·rintro i u v m e T' M hu hv ⟨b,rfl,r,B⟩ sP tP;rw[vv]at hu;obtain⟨k,Z,rfl⟩:=vg.mp hu;have Y:i<y.length:=by
   have:=(vx.mp Z).1;rw[length_range]at this;exact this
  rw[List.getElem?_range Y]at Z;cases Z;obtain⟨a,d,rfl,X,gd⟩:=dr.at_ref hv;have sA:=r.trans sP;have a1:=g.trans sA;have C:=vm X;have pl:=B.1;rw[vi,qC]at pl;have gm:=j3V (H:=M) (l:=p1) (p:=p2) (ls:=ls) (d:=d) (n:=y.length) (sA _ _ (s3 _ _ (s2 _ _ t1))) (sA _ _ z) (O.lm d C) (fun j hj=>by have:=O.dw.lt i d X j hj;lia) (O.dw.l8 d C);refine jV (σ':=[none,none,some _,some _]) rfl ?_;refine JA (SqT.of tP) ?_;exists iteT ?_;exists⟨a,p1,p2,_,_,rfl,gd.same a1,gm,fun c H4 s4 gc=>?_⟩;exists⟨ub,?_⟩;walk_at"f 5 t";have sB:=sP.trans (s4.trans s5);refine⟨by rw[vt];lia,b++[p5],by rw[vj];rfl,r.trans sB,?_⟩;rw[take_snoc (KZ X)];exact All2.snoc (All2.mono B fun a x h=>PartAt.same sB h) ⟨c,t5,Wo.mpr (gc.same s5)⟩
 rintro m e ⟨b,rfl,r,B⟩;have kl:(bkP ls y).length=((List.range y.length).map fun k=>V.str (nmK k)).length:=by rw[qC,vt,length_range]
 rw[<-kl,v7]at B;have pl:=B.1;rw[qC]at pl;refine⟨by rw[vt];lia,?_⟩;walk_at"f 6 t";exists⟨ub,?_⟩;walk_at"f 7 t";have J:=s6.trans s7;have I:=r.trans J;have G:=g.trans I;exact q p7 p3 p6 b H7 G ⟨t7,I _ _ t3,la.mono fun a x h=>G _ _ h,s7 _ _ t6,B.mono fun a x h=>PartAt.same J h⟩ (none_of o hp3) (none_of (g.trans r) hp6) (je (r _ _ t3) hp6)
theorem j1w(T:Txt K mg t)(jP:FnOk P w K mg base CX0 1 t.Jx t.Jz ["named"] (sp_numbers_of))(qv:FnOk P w K mg base CX0 1 t.Qa t.Qc ["form"] (sp_namesG)):FnOk P w K mg base CX0 2 t.ZT t.ZX ["book"] (sp_inner):=by
 specialize T.Yo.F.ok Zb;obtain⟨b,pl,pp,a1,I,ls,o,rfl,B,W,q⟩:=h;refine⟨_,(jc (jo (i:=1) Zb.nd rfl (.inr rfl) (jk T.qg jP hr (ja (jg ji (pv 0) jd) jb)))
  (jc (jo (i:=2) Zb.nd rfl (.inl rfl) (jK jb))
  (jc (j2 PassesOwn.never rfl (jF (jg ji (pv 0) jd)) (Jq rfl (jr (jm (i:=3) Zb.nd rfl (.inl rfl)) (jr (jm (i:=4) Zb.nd rfl (.inl rfl)) jZ)))
   (jf (j5 (qI PySem.F.plainAttrs_list PySem.F.slot_list_append PySem.F.type_list_append jX (pv 2) (ja (jU (ow:=["other"]) (ci:=[1]) rfl (CompScope.of (defScope YG) ["book","numbers","found","name","form"] rfl rfl (by decide +kernel)) (jY (by decide)) (yT (jk T.ZC qv hr (ja (pv 4) jb))) (fun _ _ _ _ _=>⟨(jm (i:=0) (jJ ["book","numbers","found","name","form"] rfl (by decide +kernel)) rfl (.inl rfl)),Ju,(ze (qt hr) (pv 1) (pv 0))⟩)) jb)))))
  (jf (ju (pv 2)))))),?_⟩
 refine jw (σ':=[some _,none,none,none,none]) rfl ?_
 try dsimp only[cxOf,Cx.nox]
 have sz:(200:Nat)<sizeLine:=by decide
 have a2:=W.p61;have pa:=B.pa.1;exists ixTm (SqT.of B.t) rfl ?_;exists⟨pp,I,nmsOf o,rfl,B.p,by rw[nmsOf,vt];exact pa,fun i a x ea X=>?_,W.pn,by rw[nmsOf,vt];lia,fun d H1 J hd ed=>?_⟩
 ·unfold nmsOf at X;rw[vv]at X;obtain⟨p,ep,rfl⟩:=vg.mp X;obtain⟨fb,hb,_⟩:=B.pa.2 i a p ea ep;exact⟨_,hb⟩
 exists⟨va _,?_⟩;walk_at"f l hl H2 s2 t2";have nl:=none_of J hl;have L:=J.trans s2;exists ixTm (SqT.of (L _ _ B.t)) rfl ?_;refine⟨pp,rfl,⟨_,SqL.of (L _ _ B.p)⟩,?_⟩;refine Jf (xs:=I.map V.ref) (fun i σ f=>IvE3 fun(m:List Addr) (O R:Option V)=>IvA4 (σ=[some (.ref b),some (.ref d),some (.ref l),O,R]) (Same H1 f) (f l=some (.lst (m.map V.ref))) ((∀a∈m,H a=none/\a≠l)/\ListsAt f m ((o.take i).map fun p=>(inP o p.2).map fun j:Nat=>(j:Int))))
  ⟨[],_,_,rfl,s2,t2,(fun a h=>nomatch h),.nil⟩ ?_ ?_ ?_
 ·rintro i σ f _ ⟨m,O,R,rfl,v,z,G,C⟩;exact SqL.of ((J.trans v) _ _ B.p)
 ·rintro i x σ f N ⟨m,O,R,rfl,v,z,G,C⟩;obtain⟨a,p,rfl,hp,fb,Z,hf⟩:=B.pa.at_ref N;have hi:=(vx.mp hp).1;have s0:=J.trans v;obtain⟨wn,w8⟩:=W.f i p hp;have a0:=C.1;rw[vt,vi]at a0;refine JA (SqT.of (s0 _ _ Z)) ?_;exists⟨.inl ⟨rfl,_,SqL.of z⟩,?_⟩;exists⟨fb,gF p.2,rfl,Wo.mp (FormAt.same s0 hf),fun c D S M=>?_⟩;have M:D c=some (.tup (p.2.ns.map V.str)):=by rw[M];cases p.2<;>rfl
  refine⟨c,rfl,⟨_,SqT.of M⟩,?_⟩;refine Qb (xs:=p.2.ns.map V.str) (fun j U f=>U=((p.2.ns.take j).map fun x=>(ixOf (nmsOf o) x:Int)).map V.int/\D=f) ⟨rfl,rfl⟩ ?_ ?_ ?_
  ·rintro j U f _ ⟨rfl,rfl⟩;exact SqT.of M
  ·rintro j x U f N ⟨rfl,rfl⟩;rw[vv]at N;obtain⟨y,Y,rfl⟩:=vg.mp N;have hj:=(vx.mp Y).1;obtain⟨k,hk,ek⟩:=wn y (vm Y);refine jV (σ':=[none,some _]) rfl ?_;exists iteT ?_;walk_at"g";have g:DGet D d (.str y) (some (.int (k:Nat))):=by
    have g:=DGet.k (k:=Sum.inr y) ((v.trans S) _ _ ed);rw[Z9 W.pn ek]at g;exact g
   refine⟨d,_,rfl,g,?_⟩;refine⟨by rw[vt,vt,vi];lia,?_,rfl⟩;rw[take_snoc Y,vj,vj,<-j4 W.pn ek];rfl
  rintro U f ⟨rfl,rfl⟩;rw[show(p.2.ns.map V.str).length=p.2.ns.length from vt _,v7];refine⟨by rw[vt,vt];lia,?_⟩;walk_at"f 4 t";have r:=S.trans s4;exists⟨l,_,_,rfl,rfl,r _ _ z,by rw[vt];lia,?_⟩;have F:p4≠l:=(je (S _ _ z) hp4).symm;have n4:H p4=none:=none_of (s0.trans S) hp4;refine⟨m++[p4],_,_,rfl,fun c u h=>(jh (je h hl)).trans ((v.trans r) _ _ h),?_,fun c n=>?_,?_⟩
  ·rw[jq,vj];rfl
  ·rcases vh.mp n with e | e
   ·exact G c e
   ·rw[vo.mp e];exact⟨n4,F⟩
  ·rw[take_snoc hp,vj];refine All2.snoc (All2.monoM C fun c n ks h=>(jh (G c n).2).trans (r _ _ h)) ?_;have eq:List.map (fun j:Nat=>(j:Int)) (inP o p.2)=p.2.ns.map fun x=>(ixOf (nmsOf o) x:Int):=by
    unfold inP;rw[v8];rfl
   show upd H4 l _ p4=some (.lst (List.map V.int (List.map (fun j:Nat=>(j:Int)) (inP o p.2))));rw[jh F,t4,eq]
 rintro σ' D ⟨m,O,R,rfl,v,z,G,C⟩;rw[vt,pa,v7]at C;walk_at"g";exact q l m D (J.trans v) nl z (fun a ha=>(G a ha).1) C
theorem j36(T:Txt K mg t)(jP:FnOk P w K mg base CX0 1 t.Jx t.Jz ["named"] (sp_numbers_of))(qN:FnOk P w K mg base CX0 2 t.ZT t.ZX ["book"] (sp_inner)):FnOk P w K mg base CX0 3 t.KQ t.K8 ["book"] (sp_ends):=by
 specialize T.WX.F.ok QG;obtain⟨b,pl,pp,an,au,ls,ps,rfl,B,W,q⟩:=h;refine⟨_,(jc (jo (i:=1) QG.nd rfl (.inl rfl) (jk T.qg jP hr (ja (jg ji (pv 0) jd) jb)))
  (jc (jo (i:=2) QG.nd rfl (.inl rfl) (jK jb))
  (jc (j2 PassesOwn.never rfl (xH (by rfl) T.j0G (ja (jg ji (pv 0) jd) (ja (jk T.Yo qN hr (ja (pv 0) jb)) jb))) (Jq rfl (jr (jm (i:=3) QG.nd rfl (.inl rfl)) (jr (jm (i:=4) QG.nd rfl (.inl rfl)) jZ)))
   (jc (jo (i:=5) QG.nd rfl (.inl rfl) (jg ji (pv 3) jd))
   (jc (jo (i:=6) QG.nd rfl (.inl rfl) QY)
   (jc (Qh (jp Ja (jg ji (pv 5) jd) jx (nomark _))
    (jf (zf (qt hr) (pv 6) (ze (qt hr) (pv 1) (jg ji (pv 5) jd)) (jg ji (pv 5) jd) rfl))
    jv)
   (jc (j2 PassesOwn.never rfl (jF (pv 4)) (jm (i:=7) QG.nd rfl (.inl rfl))
    (jf (j5 (qI PySem.F.plainAttrs_dict PySem.F.slot_dict_update PySem.F.type_dict_update j0b (pv 6) (ja (Jt (W7 rfl) (by rfl) T.j3U j2t (ja (jg jA (pv 2) (pv 7)) jb)) jb)))))
   (jf (j5 (qI PySem.F.plainAttrs_list PySem.F.slot_list_append PySem.F.type_list_append jX (pv 2) (ja (jz (K2 rfl) (by rfl) T.YS yC (ja (j1H PySem.F.plainAttrs_dict PySem.F.slot_dict_items PySem.F.type_dict_items j1k (pv 6)) jb)) jb)))))))))
  (jf (ju (pv 2)))))),?_⟩
 refine jw (σ':=[some _,none,none,none,none,none,none,none]) rfl ?_
 try dsimp only[cxOf,Cx.nox]
 have sz:(200:Nat)<sizeLine:=by decide
 have aK:=W.p61;have l8:=W.l8;have pa:=B.pa.1;have la:=B.la.1;exists ixTm (SqT.of B.t) rfl ?_;exists⟨pl,an,nmsOf ls,rfl,B.l,by rw[nmsOf,vt];exact la,fun i a x ea ex=>?_,W.ln,by rw[nmsOf,vt];lia,fun d H1 s1 hd ed=>?_⟩
 ·unfold nmsOf at ex;rw[vv]at ex;obtain⟨p,ep,rfl⟩:=vg.mp ex;exact⟨_,B.la.2 i a p ea ep⟩
 exists⟨va _,?_⟩;walk_at"f l hl H2 s2 t2";have nl:=none_of s1 hl;have ac:=s1.trans s2;have aD:d≠l:=je ed hl;exists ixTm (SqT.of (ac _ _ B.t)) rfl ?_;exists⟨b,pl,pp,an,au,ls,ps,rfl,B.same ac,W,fun li am H3 s3 al af aF lia=>?_⟩;walk_at"g";have F:=ac.trans s3;have ao:=lia.1;rw[vt]at ao;have aG:li≠l:=fun z=>by rw[z,t2]at al;cases al
 refine⟨pp,li,_,_,rfl,SqL.of (F _ _ B.p),SqL.of af,?_⟩;have a9:∀{c u},H c=some u->c≠l:=fun h=>je h nl
 have t3:H3 l=some (.lst []):=s3 _ _ t2;refine j2G (xs:=au.map V.ref) (ys:=am.map V.ref) (fun i σ H'=>IvE7 fun(X:List Addr) (E:List (List (Int×Int))) (o3 o4 o5 o6 O:Option V)=>IvA6 (σ=[some (.ref b),some (.ref d),some (.ref l),o3,o4,o5,o6,O]) (∀c u,c≠l->H3 c=some u->H' c=some u) (H' l=some (.lst (X.map V.ref))) (∀a∈X,H a=none/\a≠l) (E.length=i) (EndsAt H' X E/\EndOk ls ps E))
  (by rw[vt,vt];lia) ⟨[],[],_,_,_,_,_,rfl,fun c u _ h=>h,t3,(fun a h=>nomatch h),rfl,.nil,fun i p e _ h=>by simp at h⟩ ?_ ?_ ?_
 ·rintro i σ H' _ ⟨X,E,o3,o4,o5,o6,O,rfl,sm,e1,na,lE,aE,oE⟩;exact⟨SqL.of (sm _ _ (a9 B.p) (F _ _ B.p)),SqL.of (sm _ _ aG af)⟩
 ·rintro i u v σ H' P U hu hv ⟨X,E,o3,o4,o5,o6,O,rfl,sm,e1,na,lE,aE,oE⟩ sP tP;obtain⟨a,p,rfl,hp,fb,ag,hf⟩:=B.pa.at_ref hu;obtain⟨ia,is,rfl,ak,ay⟩:=lia.at_ref hv;rw[vv,hp]at ak;cases ak;have hi:=(vx.mp hp).1;have aA:ia∈am:=by
   rw[vv]at hv;obtain⟨a',ea,e'⟩:=vg.mp hv;injection e' with e';subst e';exact vm ea
  have aq:ia≠l:=fun z=>by have:=aF ia aA;rw[z,t2]at this;cases this
  have C:∀c u,c≠l->H3 c=some u->U c=some u:=fun c u Y h=>sP _ _ (sm _ _ Y h)
  have ah:U a=_:=C _ _ (a9 ag) (F _ _ ag);have Z:U ia=_:=C _ _ aq ay;have aw:U d=_:=C _ _ aD (s3 _ _ (s2 _ _ ed));have I:=sP _ _ e1;have a3:FormAt U fb p.2:=by
   have J:=FormAt.same F hf;generalize p.2=f at J;have np:∀{c:Addr} {xs:List V},H3 c=some (.tup xs)->c≠l:=fun h=>Qf h t3 (fun z=>by cases z)
   cases f with
   | row ps=>obtain⟨c,y,M⟩:=J;exact⟨c,C _ _ (np y) y,C _ _ (np M) M⟩
   | side ps=>obtain⟨c,y,M⟩:=J;exact⟨c,C _ _ (np y) y,C _ _ (np M) M⟩
   | hold n=>exact C _ _ (np J) J
   | ring x n=>exact C _ _ (np J) J
   | rise x g n=>exact C _ _ (np J) J
   | again x n=>exact C _ _ (np J) J
  have w8:=(W.f i p hp).2;have wr:=fun x h n (e:p.2 = .rise x h n)=>W.r i p.1 x h n (by rw[hp,<-e])
  have aB:=fun j=>W.inP_lt (j:=j) hp
  have ad:=Z0 W (by lia) oE;have ae:∀(j:Nat) (e:List (Int×Int)),E[j]?=some e->e.length<=8:=fun j e h=>Wm W (by lia) oE h
  refine JA (SqT.of tP) ?_;exists ixTm (SqT.of ah) rfl ?_;walk_at"g";walk_at"f dl hdl H5 s5 t5";exists⟨fun σ' H6=>σ'=[some (.ref b),some (.ref d),some (.ref l),some (.ref a),some (.ref ia),some (.ref fb),some (.ref dl),O]/\Same U H6/\H6 dl=some (.dK ((kv0 ls p.2).map iiK)),?_,?_⟩
  rotate_left
  ·by_cases a6:∃x h n,p.2 = .rise x h n
   ·obtain⟨x,h,n,e⟩:=a6;rw[e]at a3;have a4:H5 fb=some (.tup [.str "raise",.str x,.int h,.int n]):=s5 _ _ a3;obtain⟨j,N⟩:=wr x h n e;exists ixTm (SqT.of a4) rfl ?_;exists iteE1 ?_;exists ixTm (SqT.of a4) rfl ?_;exists ixTm (SqT.of a4) rfl ?_;have g:DGet H5 d (.str x) (some (.int (j:Nat))):=by
     have g:=DGet.k (k:=Sum.inr x) (s5 _ _ aw);rw[Z9 W.ln N]at g;exact g
    refine⟨d,_,rfl,g,?_⟩;refine⟨dl,_,rfl,DPut.k (k:=Sum.inl (j:Int)) t5 (by show 0<sizeLine;lia),?_⟩;refine⟨rfl,fun c u h=>(jh (je h hdl)).trans (s5 _ _ h),?_⟩;rw[jq,e];show _=some (HO.dK [iiK ((ixOf (nmsOf ls) x:Nat),h)]);rw[j4 W.ln N];rfl
   ·obtain⟨k,xs,hk,dk⟩:=Wr a3 fun x v n e=>a6 ⟨x,v,n,e⟩
    exists ixTm (SqT.of (s5 _ _ hk)) (at0) ?_;exists iteB0 dk ?_;exists⟨rfl,s5,?_⟩;rw[j2N fun x v n e=>a6 ⟨x,v,n,e⟩];exact t5
  rintro σ' H6 ⟨rfl,s6,t6⟩;walk_at"g";have ai:=s6 _ _ Z;have a8:∀{c u},U c=some u->c≠dl:=fun h=>je h hdl
  refine⟨ia,rfl,⟨_,SqL.of ai⟩,?_⟩;refine Jf (xs:=((inP ps p.2).map fun j:Nat=>(j:Int)).map V.int) (fun t σ H7=>IvE2 fun(m:List (Int×Int)) (O:Option V)=>IvA5 (σ=[some (.ref b),some (.ref d),some (.ref l),some (.ref a),some (.ref ia),some (.ref fb),some (.ref dl),O]) (Same U H7) (H7 dl=some (.dK (m.map iiK))) ((m.map (·.1)).Nodup) (∀k v,(k,v)∈m↔LastIn E ((inP ps p.2).take t) k v\/(k,v)∈kv0 ls p.2))
   ⟨_,_,rfl,s6,t6,j4f _,fun k v=>⟨.inr,fun h=>h.elim (fun⟨ab,j,a1,e,_⟩=>by cases ab<;>simp at e) id⟩⟩ ?_ ?_ ?_
  ·rintro t σ H7 _ ⟨m,O,rfl,G,t7,D,m7⟩;exact SqL.of (G _ _ Z)
  ·rintro t x σ H7 hx ⟨m,O,rfl,G,t7,D,m7⟩;rw[vv,vv]at hx;obtain⟨jj,az,rfl⟩:=vg.mp hx;obtain⟨j,N,rfl⟩:=vg.mp az;have aI:=aB j (vm N);have e0:kv0 ls p.2=[]:=by
    rcases j4e (ps:=ps) (ls:=ls) p.2 with z | z
    ·rw[z]at N;simp at N
    ·exact z
   rw[e0]at m7;have hE:E[j]?=some (E.getD j []):=by rw[vy,vz (by lia)];rfl
   obtain⟨aj,ax,bs,a2,R⟩:=aE.get hE;have ap:((E.getD j []).map (·.1)).Nodup:=((oE j _ _ (vz (by lia)) hE).1).imp fun h=>Int.ne_of_lt h
   have e8:=ae j _ hE;have k8:m.length<=8:=by
    have z:=qf (n:=ls.length) D fun k hk=>by
     obtain⟨L,a5,rfl⟩:=vK.mp hk;rcases(m7 L.1 L.2).mp a5 with⟨ab,i',a1,_,o,_⟩ | o
     ·exact ad i' _ o
     ·exact nomatch o
    rw[vt]at z;lia
   exists⟨.inr (.inr (.inl ⟨rfl,.inl ⟨_,t7⟩⟩)),?_⟩;exists ixLm (SqL.of (G _ _ I)) (J2 (i:=(j:Int)) (by lia) ax) ?_;exists⟨aj,bs,E.getD j [],rfl,G _ _ (sP _ _ a2),R.1,fun i' c L y M=>G _ _ (sP _ _ (R.2 i' c L y M)),?_⟩;walk_at"f d2 hd2 H8 s8 t8";walk_at"g";rw[show([]:List (Key×V))=([]:List (Int×Int)).map iiK from rfl,ZH,xz ap]at t8;have n2:dl≠d2:=je t7 hd2;refine⟨dl,d2,_,_,rfl,rfl,s8 _ _ t7,t8,n2,by rw[vt,vt];lia,?_⟩;rw[ZH];obtain⟨mn,mm⟩:=Ky D ap;refine⟨mergeI m (E.getD j []),_,rfl,fun c u h=>(jh (a8 h)).trans (s8 _ _ (G _ _ h)),jq,mn,fun k v=>?_⟩;rw[mm,m7,e0,take_snoc N,j02];constructor
   ·rintro(h | ⟨y,h | h⟩)
    ·exact .inl (.inl h)
    ·exact .inl (.inr ⟨y,h⟩)
    ·exact nomatch h
   ·rintro((h | ⟨y,h⟩) | h)
    ·exact .inl h
    ·exact .inr ⟨y,.inl h⟩
    ·exact nomatch h
  rintro σ' H7 ⟨m,aJ,rfl,G,t7,D,m7⟩;rw[vt,vt,v7]at m7;have k8:m.length<=8:=by
   have z:=qf (n:=ls.length) D fun k hk=>by
    obtain⟨L,a5,rfl⟩:=vK.mp hk;rcases(m7 L.1 L.2).mp a5 with⟨ab,i',a1,_,o,_⟩ | o
    ·exact ad i' _ o
    ·obtain⟨x,n,e,ek⟩:=wz.mp o;obtain⟨j,N⟩:=wr x _ n e;have h3:=Xp (vm N);have h4:(nmsOf ls).length=ls.length:=vt _;rw[ek];lia
   rw[vt]at z;lia
  exists⟨.inl ⟨rfl,_,SqL.of (G _ _ I)⟩,?_⟩;exists⟨.inr (.inr (.inl ⟨rfl,.inl ⟨_,t7⟩⟩)),dl,_,rfl,rfl,t7,?_⟩;walk_at"f vw hvw H8 s8 t8";exists⟨vw,dl,m,rfl,t8,s8 _ _ t7,by lia,fun r cs ms H9 s9 a7 e9 n9 a0 pw aC av=>?_⟩;walk_at"g";have aH:=aE.1;refine⟨l,_,_,rfl,rfl,s9 _ _ (s8 _ _ (G _ _ I)),by rw[vt];lia,?_⟩;have S:=G.trans (s8.trans s9);have aa:r≠l:=(je (s8 _ _ (G _ _ I)) a7).symm;have nr:H r=none:=by
   cases z:H r with
   | none=>rfl
   | some u=>rw[s8 _ _ (G _ _ (C _ _ aa (F _ _ z)))]at a7;cases a7
  have ar:∀{c:Addr} {xs:List V},H9 c=some (.tup xs)->c≠l:=fun h=>Qf h (S _ _ I) (fun z=>by cases z)
  refine⟨X++[r],E++[ms],_,_,_,_,_,rfl,fun c u Y h=>(jh Y).trans (S _ _ (C _ _ Y h)),?_,fun c Y=>?_,by rw[vn,lE];rfl,?_,?_⟩
  ·rw[jq,vj];rfl
  ·rcases vh.mp Y with z | z
   ·exact na c z
   ·rw[vo.mp z];exact⟨nr,aa⟩
  ·refine All2.snoc (All2.monoM aE fun c Y e h=>?_) ?_
   ·obtain⟨bs,a2,R⟩:=h;refine⟨bs,(jh (na c Y).2).trans (S _ _ (sP _ _ a2)),All2.mono R fun c' L h'=>?_⟩;have h9:=S _ _ (sP _ _ h');exact(jh (ar h9)).trans h9
   ·exact⟨cs,(jh aa).trans e9,aC,fun i' c L y M=>(jh (ar (av i' c L y M))).trans (av i' c L y M)⟩
  ·refine EndOk.snoc W oE (p:=p) (by rw[lE];exact hp) ?_ fun k v=>?_
   ·exact j0t (a0.map _) D pw
   ·rw[a0.mem_iff,m7];exact⟨fun h=>h.imp id wz.mp,fun h=>h.imp id wz.mpr⟩
 rintro σ' H' ⟨X,E,o3,o4,o5,o6,O,rfl,sm,e1,na,lE,aE,oE⟩;rw[vt]at lE;walk_at"g";exact q l X E H' (fun c u h=>sm _ _ (a9 h) (F _ _ h)) nl e1 (fun a ha=>(na a ha).1) (by lia) aE oE
theorem j1x(T:Txt K mg t)(yw:FnOk P w K mg base CX0 3 t.KQ t.K8 ["book"] (sp_ends)):FnOk P w K mg base CX0 4 t.KR t.wb ["book"] (sp_moved):=by
 specialize T.xW.F.ok kE;obtain⟨b,pl,pp,Y,a2,ls,ps,rfl,B,W,q⟩:=h;refine⟨_,(jc (jo (i:=1) kE.nd rfl (.inl rfl) (jK jb))
  (jc (j2 PassesOwn.never rfl (jF (jk T.WX yw hr (ja (pv 0) jb))) (jm (i:=2) kE.nd rfl (.inl rfl))
   (jf (j5 (qI PySem.F.plainAttrs_list PySem.F.slot_list_append PySem.F.type_list_append jX (pv 1) (ja (jU (ow:=["limb","height"]) (ci:=[]) rfl (CompScope.of (defScope YI) ["book","found","left"] rfl rfl (by decide +kernel)) (Zm (by decide) (by decide)) (jF (pv 2)) (fun _ _ _ _ _=>⟨(Jq rfl (jr (jm (i:=0) (jJ ["book","found","left"] rfl (by decide +kernel)) rfl (.inl rfl)) (jr (jm (i:=1) (jJ ["book","found","left"] rfl (by decide +kernel)) rfl (.inl rfl)) jZ))),Ju,(pv 0)⟩)) jb)))))
  (jf (ju (pv 1))))),?_⟩
 refine jw (σ':=[some _,none,none]) rfl ?_
 try dsimp only[cxOf,Cx.nox]
 have sz:(200:Nat)<sizeLine:=by decide
 have a5:=W.p61;exists⟨va _,?_⟩;walk_at"f l hl H1 s1 t1";exists⟨b,pl,pp,Y,a2,ls,ps,rfl,B.same s1,W,fun e as E H2 s2 he ee ne lE aE oE=>?_⟩;have I:=aE.1;have a3:=s1.trans s2;have l2:H2 l=some (.lst []):=s2 _ _ t1;have a1:l≠e:=fun z=>by rw[z,he]at t1;cases t1
 refine⟨e,rfl,⟨_,SqL.of ee⟩,?_⟩;refine Jf (xs:=as.map V.ref) (fun i σ n=>IvE2 fun(g:List Addr) (F:Option V)=>IvA4 (σ=[some (.ref b),some (.ref l),F]) (∀c u,c≠l->H2 c=some u->n c=some u) (n l=some (.lst (g.map V.ref))) ((∀c∈g,H1 c=none/\c≠l)/\ListsAt n g ((E.take i).map fun e=>e.map (·.1))))
  ⟨[],_,rfl,fun c u _ h=>h,l2,(fun c h=>nomatch h),.nil⟩ ?_ ?_ ?_
 ·rintro i σ n _ ⟨g,F,rfl,m,p,C,r⟩;exact SqL.of (m _ _ a1.symm ee)
 ·rintro i x σ n S ⟨g,F,rfl,m,p,C,r⟩;obtain⟨a,M,rfl,f,J,O,D⟩:=aE.at_ref S;have hi:=(vx.mp f).1;have X:=r.1;rw[vt,vi]at X;have am:a∈as:=by
   rw[vv]at S;obtain⟨a',ea,L⟩:=vg.mp S;injection L with L;subst L;exact vm ea
  have Z:a≠l:=fun z=>by have:=ne a am;rw[z,t1]at this;cases this
  have v:n a=some (.lst (J.map V.ref)):=m _ _ Z O;have a4:=(oE i _ M (vz (by lia)) f).1;have N:=Wm W (by lia) oE f;exists⟨.inl ⟨rfl,_,SqL.of p⟩,?_⟩;exists⟨a,rfl,⟨_,SqL.of v⟩,?_⟩;refine j3 (xs:=J.map V.ref) (fun j G d=>G=((M.take j).map (·.1)).map V.int/\n=d) ⟨rfl,rfl⟩ ?_ ?_ ?_
  ·rintro j G d _ ⟨rfl,rfl⟩;exact SqL.of v
  ·rintro j x G d U ⟨rfl,rfl⟩;obtain⟨c,kv,rfl,y,R⟩:=D.at_ref U;have hj:=(vx.mp y).1;have a0:c≠l:=fun z=>by rw[z,l2]at R;cases R
   refine jV (σ':=[none,none]) rfl ?_;refine JA (SqT.of (m _ _ a0 R)) ?_;exists iteT ?_;exists⟨by rw[vt,vt,vi];lia,?_,rfl⟩;rw[take_snoc y,vj,vj];rfl
  rintro G d ⟨rfl,rfl⟩;rw[show(J.map V.ref).length=M.length by rw[vt];exact D.1,v7];refine⟨by rw[vt,vt];lia,?_⟩;walk_at"f 4 t";exists⟨l,_,_,rfl,rfl,s4 _ _ p,by rw[vt];lia,?_⟩;have o:p4≠l:=(je p hp4).symm;have n4:H1 p4=none:=by
   cases z:H1 p4 with
   | none=>rfl
   | some u=>rw[m _ _ o (s2 _ _ z)]at hp4;cases hp4
  refine⟨g++[p4],_,rfl,fun c u k h=>(jh k).trans (s4 _ _ (m _ _ k h)),?_,fun c k=>?_,?_⟩
  ·rw[jq,vj];rfl
  ·rcases vh.mp k with z | z
   ·exact C c z
   ·rw[vo.mp z];exact⟨n4,o⟩
  ·rw[take_snoc f,vj];exact All2.snoc (All2.monoM r fun c k ks h=>(jh (C c k).2).trans (s4 _ _ h)) ((jh o).trans t4)
 rintro σ' H3 ⟨g,F,rfl,m,p,C,r⟩;rw[vt,I,v7]at r;exists q l g (E.map fun e=>e.map (·.1)) H3 (fun c u h=>m _ _ (je h hl) (a3 _ _ h)) hl p (fun c k=>none_of s1 (C c k).1) (by rw[vt];exact lE) r (j1j lE oE)
theorem kS(T:Txt K mg t):FnOk P w K mg base CX0 1 t.qP t.qT ["row","moves","limbs"] (sp_check_side):=by
 specialize T.ZQ.F.ok QS;obtain⟨r,l,L,J,F,M,rfl,B,D,X,O,g,G,q⟩:=h;refine⟨_,(jc (jS (jp (j4l hr.units) (jK jb) (pv 1) (by with_unfolding_all rfl))
   (jf ye)
   jv)
  (jf (j2 PassesOwn.never rfl (YD (by rfl) T.Qt (ja (pv 2) jb)) (Jq rfl (jr (jm (i:=3) QS.nd rfl (.inr rfl)) (jr (jm (i:=4) QS.nd rfl (.inl rfl)) jZ)))
   (jf (jS (jp KF (jz jR (by rfl) T.JT Jj (ja (jU (ow:=["move"]) (ci:=[3]) rfl (CompScope.of (defScope qV) ["row","moves","limbs","number","limb"] rfl rfl (by decide +kernel)) (jY (by decide)) (jF (pv 1)) (fun _ _ _ _ _=>⟨(jm (i:=0) (jJ ["row","moves","limbs","number","limb"] rfl (by decide +kernel)) rfl (.inl rfl)),(ZK (jp (zd (K:=K) rfl) (pv 1) (pv 0) (by with_unfolding_all rfl))),zQ⟩)) jb)) jd (nomark _))
    (jf ye)
    jv))))),?_⟩
 refine jw (σ':=[some _,some _,some _,none,none]) rfl ?_
 try dsimp only[cxOf,Cx.nox]
 have sz:(200:Nat)<sizeLine:=by decide
 have m:=D.1;exists⟨va _,?_⟩;walk_at"f 0 t";exists⟨p0,l,J,M,rfl,rfl,t0,s0 _ _ B,m,fun i b e R S=>s0 _ _ (D.2 i b e R S),?_⟩;exists iteB0 (any_empty X) ?_;exists⟨L,_,rfl,SqL.of (s0 _ _ g),?_⟩;refine Z1 (xs:=F.map V.ref) (fun i I f=>IvE2 fun(p u:Option V)=>I=[some (.int r),some (.ref l),some (.ref L),p,u]/\Same H f) ⟨_,_,rfl,s0⟩ ?_ ?_ ?_
 ·rintro i I f _ ⟨p,u,rfl,n⟩;exact SqL.of (n _ _ g)
 ·rintro i v I f P N hx ⟨p,u,rfl,n⟩ Y Z;have y:=n.trans Y;refine JA (SqT.of Z) ?_;exists⟨l,rfl,⟨_,SqL.of (y _ _ B)⟩,?_⟩;refine j3 (xs:=J.map V.ref) (fun j z c=>z.length=((M.take j).filter fun e=>decide ((i:Int)∈e)).length/\N=c) ⟨rfl,rfl⟩ ?_ ?_ ?_
  ·rintro j z c _ ⟨_,rfl⟩;exact SqL.of (y _ _ B)
  ·rintro j x z c C ⟨o,rfl⟩;obtain⟨a,e,rfl,k,U⟩:=D.at_ref C;refine jV (σ':=[none,some _]) rfl ?_;exists⟨a,_,rfl,.inl (SqL.of (y _ _ U)),rfl,flats e,?_⟩;rw[inI];walk_at"g";have W:((M.take j).filter fun e=>decide ((i:Int)∈e)).length<=8:=vW (length_filter_le _ _) (vW (List.length_take_le' _ _) O);refine iteD (fun d=>?_) (fun d=>?_)
   ·exists⟨by lia,?_,rfl⟩;rw[take_snoc k,filter_append,uz,vd (vG d),vn,vn,o];rfl
   ·refine⟨?_,rfl⟩;rw[take_snoc k,filter_append,uz,vc (by simpa using d),vn,o];rfl
  rintro z c ⟨o,rfl⟩;rw[vt,m,v7]at o;have o1:=G (i:Int);refine⟨by lia,?_⟩;walk_at"f 2 t";exists⟨_,_,rfl,.inl ⟨_,SqL.of t2,rfl⟩,?_⟩;exists iteD (fun d=>?_) (fun d=>?_)
  ·exfalso;lia
  ·walk_at"g";exact⟨_,_,rfl,y.trans s2⟩
 rintro σ' f ⟨p,u,rfl,n⟩;exact q f n
theorem wK(T:Txt K mg t):FnOk P w K mg base CX0 1 t.Qr t.Qy ["form","inside"] (sp_length_of):=by
 specialize T.Ye.F.ok wY;obtain⟨a,l,f,j,rfl,d,i,e,q⟩:=h;refine⟨_,(jc (jS (jp Ja (jg ji (pv 0) jd) jx (nomark _))
   (jf (ju (jz (Km rfl) (by rfl) T.j3E j0I (ja (pv 1) jb))))
   jv)
  (jc (jS (jp Ja (jg ji (pv 0) jd) jx (nomark _))
   (jf (ju (jz (Kl rfl) (by rfl) T.j3D j0H (ja (pv 1) jb))))
   jv)
  (jc (jS (jp Ja (jg ji (pv 0) jd) jx (nomark _))
   (jf (ju (jt JR (jg ji (pv 0) jd) (jg jA (pv 1) jd))))
   jv)
  (jf (ju (jg ji (pv 0) (zR Qi jd))))))),?_⟩
 refine jw (σ':=[some _,some _]) rfl ?_
 try dsimp only[cxOf,Cx.nox]
 have B:(200:Nat)<sizeLine:=by decide
 cases f with
 | hold n=>
  have c:H a=some (.tup _):=d;exists ixTm (SqT.of c) rfl ?_;exists iteE0 ?_;exists ixTm (SqT.of c) rfl ?_;exists iteE0 ?_;exists ixTm (SqT.of c) rfl ?_;exists iteE0 ?_;exists ixTm (SqT.of c) rfl ?_;exact q _ rfl
 | ring x n=>
  have c:H a=some (.tup _):=d;exists ixTm (SqT.of c) rfl ?_;exists iteE0 ?_;exists ixTm (SqT.of c) rfl ?_;exists iteE0 ?_;exists ixTm (SqT.of c) rfl ?_;exists iteE0 ?_;exists ixTm (SqT.of c) rfl ?_;exact q _ rfl
 | rise x v n=>
  have c:H a=some (.tup _):=d;exists ixTm (SqT.of c) rfl ?_;exists iteE0 ?_;exists ixTm (SqT.of c) rfl ?_;exists iteE0 ?_;exists ixTm (SqT.of c) rfl ?_;exists iteE0 ?_;exists ixTm (SqT.of c) rfl ?_;exact q _ rfl
 | row ps=>
  obtain⟨b,c,p⟩:=d;exists ixTm (SqT.of c) rfl ?_;exists iteE1 ?_;exists⟨l,j,rfl,SqL.of i,?_⟩;exact q _ rfl
 | side ps=>
  obtain⟨b,c,p⟩:=d;exists ixTm (SqT.of c) rfl ?_;exists iteE0 ?_;exists ixTm (SqT.of c) rfl ?_;exists iteE1 ?_;exists⟨l,j,rfl,SqL.of i,List.length_pos_iff.mpr e,fun g m o=>?_⟩;exact q g ⟨m,o⟩
 | again k x=>
  have c:H a=some (.tup _):=d;obtain⟨y,r,rfl,u,z,C,D⟩:=e;exists ixTm (SqT.of c) rfl ?_;exists iteE0 ?_;exists ixTm (SqT.of c) rfl ?_;exists iteE0 ?_;exists ixTm (SqT.of c) rfl ?_;exists iteE1 ?_;exists ixTm (SqT.of c) rfl ?_;exists ixLm (SqL.of i) (at0) ?_;walk_at"g";exact q _ ⟨y,rfl,rfl⟩
theorem xE(T:Txt K mg t)(qN:FnOk P w K mg base CX0 2 t.ZT t.ZX ["book"] (sp_inner))(KO:FnOk P w K mg base CX0 4 t.KR t.wb ["book"] (sp_moved))(Q3:FnOk P w K mg base CX0 1 t.qP t.qT ["row","moves","limbs"] (sp_check_side))(zw:FnOk P w K mg base CX0 1 t.Qr t.Qy ["form","inside"] (sp_length_of)):FnOk P w K mg base CX0 5 t.yB t.yI ["book"] (sp_lengths):=by
 specialize T.k7.F.ok qb;obtain⟨b,pl,pp,Z,a7,ls,F,gs,hs,rfl,B,S,q⟩:=h;refine⟨_,(jc (jo (i:=1) qb.nd rfl (.inr rfl) (jk T.xW KO hr (ja (pv 0) jb)))
  (jc (jo (i:=2) qb.nd rfl (.inr rfl) (jK jb))
  (jc (j2 PassesOwn.never rfl (YD (by rfl) T.Qt (ja (jk T.Yo qN hr (ja (pv 0) jb)) jb)) (Jq rfl (jr (jm (i:=3) qb.nd rfl (.inl rfl)) (jr (jm (i:=4) qb.nd rfl (.inl rfl)) jZ)))
   (jc (jo (i:=5) qb.nd rfl (.inl rfl) (jg ji (jg jA (jg ji (pv 0) jd) (pv 3)) jd))
   (jc (Qh (jp Ja (jg ji (pv 5) jd) jx (nomark _))
    (jf (j5 (jk T.ZQ Q3 hr (ja (pv 3) (ja (jU (ow:=["part"]) (ci:=[1]) rfl (CompScope.of (defScope QZ) ["book","moves","found","row","inside","form","length"] rfl rfl (by decide +kernel)) (jY (by decide)) (jF (pv 4)) (fun _ _ _ _ _=>⟨(jm (i:=0) (jJ ["book","moves","found","row","inside","form","length"] rfl (by decide +kernel)) rfl (.inl rfl)),Ju,(jg (Js (K:=K) rfl) (pv 1) (pv 0))⟩)) (ja (jg ji (pv 0) jd) jb))))))
    jv)
   (jc (jo (i:=6) qb.nd rfl (.inl rfl) (jk T.Ye zw hr (ja (pv 5) (ja (jU (ow:=["part"]) (ci:=[2]) rfl (CompScope.of (defScope QZ) ["book","moves","found","row","inside","form","length"] rfl rfl (by decide +kernel)) (jY (by decide)) (jF (pv 4)) (fun _ _ _ _ _=>⟨(jm (i:=0) (jJ ["book","moves","found","row","inside","form","length"] rfl (by decide +kernel)) rfl (.inl rfl)),Ju,(jg (Js (K:=K) rfl) (pv 1) (pv 0))⟩)) jb))))
   (jc (jS (jp KF (pv 6) (jt ko jd jd) (nomark _))
    (jf ye)
    jv)
   (jf (j5 (qI PySem.F.plainAttrs_list PySem.F.slot_list_append PySem.F.type_list_append jX (pv 2) (ja (pv 6) jb)))))))))
  (jf (ju (pv 2)))))),?_⟩
 refine jw (σ':=[some _,none,none,none,none,none,none]) rfl ?_
 try dsimp only[cxOf,Cx.nox]
 have sz:(200:Nat)<sizeLine:=by decide
 have W:=S.w;have pa:=B.pa.1;have gl:=S.gl;have aw:=W.p61;exists⟨b,pl,pp,Z,a7,_,_,rfl,B,W,fun lm ab M H1 s1 ar ae av Ml aM oM=>?_⟩;have mg:=S.mv M Ml oM;have aq:=aM.1;exists⟨va _,?_⟩;walk_at"f l hl H2 s2 t2";have nl:=none_of s1 hl;have a8:=s1.trans s2;exists⟨b,pl,pp,Z,a7,_,_,rfl,B.same a8,W,fun li a3 H3 s3 a2 a1 al lia=>?_⟩;walk_at"g";have a9:=a8.trans s3;have ao:=s2.trans s3;have J:=lia.1;rw[vt]at J;have am:li≠l:=fun z=>by rw[z,t2]at a2;cases a2
 have t3:H3 l=some (.lst []):=s3 _ _ t2;have a6:∀{c u},H c=some u->c≠l:=fun h=>je h nl
 have an:∀{c u},H1 c=some u->c≠l:=fun h=>je h hl
 refine⟨li,_,rfl,SqL.of a1,?_⟩;refine Z1 (xs:=a3.map V.ref) (fun i σ r=>IvE4 fun(o3 o4 o5 o6:Option V)=>IvA2 (σ=[some (.ref b),some (.ref lm),some (.ref l),o3,o4,o5,o6]) ((∀c u,c≠l->H3 c=some u->r c=some u)/\r l=some (.lst ((gs.take i).map V.int))))
  ⟨_,_,_,_,rfl,fun c u _ h=>h,t3⟩ ?_ ?_ ?_
 ·rintro i σ r _ ⟨o3,o4,o5,o6,rfl,sm,e1⟩;exact SqL.of (sm _ _ am a1)
 ·rintro i v σ r P C hv ⟨o3,o4,o5,o6,rfl,sm,e1⟩ sP tP;obtain⟨X,as,rfl,O,ah⟩:=lia.at_ref hv;have hi:i<F.length:=by
   have:=(vx.mp O).1;rw[vt]at this;exact this
  obtain⟨p,hp⟩:∃p,F[i]?=some p:=⟨_,vz hi⟩
  rw[vv,hp]at O;cases O;obtain⟨a,ea,fb,af,hf⟩:=B.pa.get hp;have aj:X∈a3:=by
   rw[vv]at hv;obtain⟨a',ad,e'⟩:=vg.mp hv;injection e' with e';subst e';exact vm ad
  have a5:X≠l:=fun z=>by have:=al X aj;rw[z,t2]at this;cases this
  have k4:∀c u,c≠l->H3 c=some u->C c=some u:=fun c u I h=>sP _ _ (sm _ _ I h)
  have y:∀c u,H c=some u->C c=some u:=fun c u h=>k4 _ _ (a6 h) (a9 _ _ h)
  have a4:∀c u,H1 c=some u->C c=some u:=fun c u h=>k4 _ _ (an h) (ao _ _ h)
  have o:C X=some (.lst (((inP F p.2).map fun j:Nat=>(j:Int)).map V.int)):=k4 _ _ a5 ah;have ac:=sP _ _ e1;have m:FormAt C fb p.2:=FormAt.same y hf;have Y:=fun j=>W.inP_lt (j:=j) hp
  have w8:(inP F p.2).length<=8:=by unfold inP;rw[vt];exact(W.f i p hp).2
  obtain⟨lp,ak⟩:=S.ln i p hp;have au:=S.gb i hi;refine JA (SqT.of tP) ?_;exists ixTm (SqT.of (y _ _ B.t)) rfl ?_;exists ixLm (SqL.of (y _ _ B.p)) (J2 (i:=(i:Int)) (by lia) ea) ?_;exists ixTm (SqT.of (y _ _ af)) rfl ?_;exists⟨fun σ' H5=>σ'=[some (.ref b),some (.ref lm),some (.ref l),some (.int i),some (.ref X),some (.ref fb),o6]/\Same C H5,?_,?_⟩
  rotate_left
  ·by_cases U:∃qs,p.2 = .side qs
   ·obtain⟨qs,e⟩:=U;have ap:=S.sd i p qs hp e;generalize inP F p.2=is at o Y ap w8;rw[e]at m;obtain⟨nb,ag,_⟩:=m;exists ixTm (SqT.of ag) rfl ?_;exists iteE1 ?_;exists⟨X,rfl,⟨_,SqL.of o⟩,?_⟩;have aa:∀j∈is,∃c,ab[j]?=some c/\C c=some (.lst ((hs.getD j []).map V.int)):=fun j D=>by
     have jl:=Y j D;obtain⟨c,I,h1⟩:=aM.get (i:=j) (x:=M.getD j []) (by rw[vy,vz (by lia)];rfl);rw[mg j (by lia)]at h1;exact⟨c,I,a4 _ _ h1⟩
    refine j3 (xs:=(is.map fun j:Nat=>(j:Int)).map V.int) (fun t G r=>IvE1 fun(L:List Addr)=>IvA2 (G=L.map V.ref) (ListsAt C L ((is.take t).map fun j=>hs.getD j [])/\C=r)) ⟨[],rfl,.nil,rfl⟩ ?_ ?_ ?_
    ·rintro t G r _ ⟨L,rfl,lc,rfl⟩;exact SqL.of o
    ·rintro t x G r hx ⟨L,rfl,lc,rfl⟩;rw[vv,vv]at hx;obtain⟨jj,R,rfl⟩:=vg.mp hx;obtain⟨j,D,rfl⟩:=vg.mp R;obtain⟨c,I,h1⟩:=aa j (vm D);have a0:=lc.1;rw[vt,vi]at a0;refine jV (σ':=[none,some _]) rfl ?_;exists iteT ?_;exists ixLm (SqL.of (a4 _ _ ae)) (J2 (i:=(j:Int)) (by lia) I) ?_;refine⟨by rw[vt];lia,L++[c],by rw[vj];rfl,?_,rfl⟩;rw[take_snoc D,vj];exact All2.snoc lc h1
    rintro G r ⟨L,rfl,lc,rfl⟩;rw[vt,vt,v7]at lc;have a0:=lc.1;rw[vt]at a0;refine⟨by rw[vt];lia,?_⟩;walk_at"f 5 t";exists ixTm (SqT.of (s5 _ _ (y _ _ B.t))) rfl ?_;exists⟨_,p5,pl,L,Z,(is.map fun j=>hs.getD j []),rfl,t5,All2.mono lc fun c ks h=>s5 _ _ h,fun ks ai=>?_,by rw[vt];lia,s5 _ _ (y _ _ B.l),ap.2,fun H6 s6=>?_⟩
    ·obtain⟨j,D,rfl⟩:=vK.mp ai;exact ap.1 j D
    walk_at"g";exact⟨rfl,s5.trans s6⟩
   ·have kd:∃k xs,C fb=some (.tup (.str k::xs))/\decide (k=("side" : Str))=false:=by
     generalize p.2=f at m U;cases f with
     | side qs=>exact ud ⟨qs,rfl⟩ U
     | hold n=>exact⟨_,_,m,by decide +kernel⟩
     | ring x n=>exact⟨_,_,m,by decide +kernel⟩
     | rise x v n=>exact⟨_,_,m,by decide +kernel⟩
     | row qs=>obtain⟨_,h1,_⟩:=m;exact⟨_,_,h1,by decide +kernel⟩
     | again k x=>exact⟨_,_,m,by decide +kernel⟩
    obtain⟨k,xs,hk,dk⟩:=kd;exists ixTm (SqT.of hk) (at0) ?_;exists iteB0 dk ?_;walk_at"g";exact⟨rfl,Same.refl _⟩
  rintro σ' H5 ⟨rfl,s5⟩;exists⟨X,rfl,⟨_,SqL.of (s5 _ _ o)⟩,?_⟩;have N:=s5 _ _ ac;refine j3 (xs:=((inP F p.2).map fun j:Nat=>(j:Int)).map V.int) (fun t G r=>G=(((inP F p.2).take t).map fun j=>gs.getD j 0).map V.int/\H5=r) ⟨rfl,rfl⟩ ?_ ?_ ?_
  ·rintro t G r _ ⟨rfl,rfl⟩;exact SqL.of (s5 _ _ o)
  ·rintro t x G r hx ⟨rfl,rfl⟩;rw[vv,vv]at hx;obtain⟨jj,R,rfl⟩:=vg.mp hx;obtain⟨j,D,rfl⟩:=vg.mp R;have jl:=Y j (vm D);refine jV (σ':=[none,some _]) rfl ?_;exists iteT ?_;exists ixLm (SqL.of N) (j0Z (by lia) jl) ?_;refine⟨by rw[vt,vt,vi];lia,?_,rfl⟩;rw[take_snoc D,vj,vj];rfl
  rintro G r ⟨rfl,rfl⟩;rw[show(((inP F p.2).map fun j:Nat=>(j:Int)).map V.int).length=(inP F p.2).length by rw[vt,vt],v7];refine⟨by rw[vt,vt];lia,?_⟩;walk_at"f 6 t";exists⟨fb,p6,p.2,_,rfl,FormAt.same (s5.trans s6) m,t6,lp,fun g hg=>?_⟩;have eg:=ak g hg;subst eg;exists iteD (fun d=>?_) (fun d=>?_)
  ·exfalso;lia
  exists⟨.inl ⟨rfl,_,SqL.of (s6 _ _ N)⟩,?_⟩;exists⟨l,_,_,rfl,rfl,s6 _ _ N,by rw[vt,vi];lia,?_⟩;refine⟨_,_,_,_,rfl,fun c u I h=>(jh I).trans (s6 _ _ (s5 _ _ (k4 _ _ I h))),?_⟩;rw[jq,j2I (by lia),vj];rfl
 rintro σ' r ⟨o3,o4,o5,o6,rfl,sm,e1⟩;rw[vt,J,<-gl,v7]at e1;walk_at"g";exact q l r (fun c u h=>sm _ _ (a6 h) (a9 _ _ h)) nl e1
theorem wL(T:Txt K mg t):FnOk P w K mg base CX0 1 t.Qs t.Qz ["form","inside","sizes"] (sp_pieces_in):=by
 specialize T.Yf.F.ok JE;obtain⟨a,l,s0,f,g,C,rfl,o,el,es,i8,hj,a2,q⟩:=h;refine⟨_,(jc (jS (jp Ja (jg ji (pv 0) jd) jx (nomark _))
   (jc (jo (i:=3) JE.nd rfl (.inl rfl) (jg jA (pv 1) jd))
   (jc (jo (i:=4) JE.nd rfl (.inl rfl) (kq (jp KF (jg ji (pv 0) jd) jd (nomark _)) (jK (ja (jD (ja (pv 3) (ja (jt ZJ (jg ji (pv 0) jd) jd) (ja (jg jA (pv 2) (pv 3)) jb)))) jb)) (jK jb)))
   (jf (ju (jt yQ (jK (ja (jD (ja (pv 3) (ja jd (ja jd jb)))) jb)) (pv 4))))))
   jv)
  (jc (jo (i:=5) JE.nd rfl (.inl rfl) (jK jb))
  (jc (jo (i:=6) JE.nd rfl (.inl rfl) jd)
  (jc (j2 PassesOwn.never rfl (jF (pv 1)) (jm (i:=3) JE.nd rfl (.inl rfl))
   (jc (j5 (qI PySem.F.plainAttrs_list PySem.F.slot_list_append PySem.F.type_list_append jX (pv 5) (ja (jD (ja (pv 3) (ja jd (ja (pv 6) jb)))) jb)))
   (jf (jS (jp Ja (jg ji (pv 0) jd) jx (nomark _))
    (jf (j4u (i:=6) JE.nd rfl (.inl rfl) (jg jA (pv 2) (pv 3)) j48))
    jv))))
  (jf (ju (pv 5))))))),?_⟩
 refine jw (σ':=[some _,some _,some _,none,none,none,none]) rfl ?_
 try dsimp only[cxOf,Cx.nox]
 have sz:(10000:Nat)<sizeLine:=by decide
 have S:∀j,j<C.length->C[j]?=some (C.getD j 0):=fun j h=>by
  rw[vy,vz h];rfl
 by_cases ha:∃k x,f = .again k x
 ·obtain⟨k,x,rfl⟩:=ha;have o:H a=some (.tup [.str "again",.int k,.str x]):=o;obtain⟨j,r,rfl⟩:=List.exists_cons_of_ne_nil (a2 k x rfl);have lj:=hj j vq;exists ixTm (SqT.of o) rfl ?_;exists iteE1 ?_;exists ixLm (SqL.of el) (at0) ?_;exists ixTm (SqT.of o) rfl ?_;exists iteD (fun c=>?_) (fun c=>?_)
  ·exists ixTm (SqT.of o) rfl ?_;exists ixLm (SqL.of es) (jG (j:=j) (by rw[vv,S j lj];rfl)) ?_;exists⟨uA,?_⟩;walk_at"f 1 t";exists⟨uc,?_⟩;walk_at"f 2 t";exists⟨uA,?_⟩;walk_at"f 3 t";exists⟨uc,?_⟩;walk_at"f 4 t";exists⟨p4,p2,_,_,rfl,rfl,t4,s4 _ _ (s3 _ _ t2),ub,?_⟩;walk_at"f 5 t";have O:=s1.trans (s2.trans (s3.trans (s4.trans s5)));refine q p5 [p3,p1] _ O (none_of (s1.trans (s2.trans (s3.trans s4))) hp5) t5 ?_;show PcsAt H5 _ ((j,1,0)::(if 1<k then[(j,k-1,C.getD j 0)]else[]));rw[vd c];exact .cons (s5 _ _ (s4 _ _ t3)) (.cons (s5 _ _ (s4 _ _ (s3 _ _ (s2 _ _ t1)))) .nil)
  ·exists⟨va _,?_⟩;walk_at"f 2 t";exists⟨uA,?_⟩;walk_at"f 3 t";exists⟨uc,?_⟩;walk_at"f 4 t";exists⟨p4,p2,_,_,rfl,rfl,t4,s4 _ _ (s3 _ _ t2),uc,?_⟩;walk_at"f 5 t";have O:=s2.trans (s3.trans (s4.trans s5));refine q p5 [p3] _ O (none_of (s2.trans (s3.trans s4)) hp5) t5 ?_;show PcsAt H5 _ ((j,1,0)::(if 1<k then[(j,k-1,C.getD j 0)]else[]));rw[vc c];exact .cons (s5 _ _ (s4 _ _ t3)) .nil
 have a3:∃W xs,H a=some (.tup (.str W::xs))/\decide (W=("again" : Str))=false/\((decide (W=("row" : Str))=true/\∃xs,f = .row xs)\/(decide (W=("row" : Str))=false/\∀g,pcsI C f g=g.map fun j=>(j,1,0))):=by
  cases f with
  | hold n=>exact⟨_,_,o,by decide +kernel,.inr ⟨by decide +kernel,fun _=>rfl⟩⟩
  | ring x n=>exact⟨_,_,o,by decide +kernel,.inr ⟨by decide +kernel,fun _=>rfl⟩⟩
  | rise x v n=>exact⟨_,_,o,by decide +kernel,.inr ⟨by decide +kernel,fun _=>rfl⟩⟩
  | row ps=>obtain⟨b,F,_⟩:=o;exact⟨_,_,F,by decide +kernel,.inl ⟨by decide +kernel,_,rfl⟩⟩
  | side ps=>obtain⟨b,F,_⟩:=o;exact⟨_,_,F,by decide +kernel,.inr ⟨by decide +kernel,fun _=>rfl⟩⟩
  | again k x=>exact ud ⟨k,x,rfl⟩ ha
 obtain⟨W,xs,Z,dk,y⟩:=a3;exists ixTm (SqT.of Z) (at0) ?_;exists iteB0 dk ?_;exists⟨va _,?_⟩;walk_at"f p hp H1 s1 t1";walk_at"g";have np:∀{c u},H c=some u->c≠p:=fun h=>je h hp
 refine⟨l,rfl,⟨_,SqL.of (s1 _ _ el)⟩,?_⟩;refine Jf (xs:=(g.map fun j:Nat=>(j:Int)).map V.int) (fun i σ I=>IvE4 fun(o3:Option V) (D:Int) (d:List Addr) (B:List Pc)=>IvA6 (σ=[some (.ref a),some (.ref l),some (.ref s0),o3,none,some (.ref p),some (.int D)]) (Same H I) (I p=some (.lst (d.map V.ref))) (d.length=i) (PcsAt I d B) (((∃xs,f = .row xs)->rowPc C g 0=B++rowPc C (g.drop i) D)/\(¬(∃xs,f = .row xs)->D=0/\B=(g.take i).map fun j=>(j,1,0))))
  ⟨_,0,[],[],rfl,s1,t1,rfl,.nil,fun _=>rfl,fun _=>⟨rfl,rfl⟩⟩ ?_ ?_ ?_
 ·rintro i σ I _ ⟨o3,D,d,B,rfl,X,J,la,hq,F,U⟩;exact SqL.of (X _ _ el)
 ·rintro i v σ I hv ⟨o3,D,d,B,rfl,X,J,la,hq,F,U⟩;rw[vv,vv]at hv;obtain⟨jj,a1,rfl⟩:=vg.mp hv;obtain⟨j,G,rfl⟩:=vg.mp a1;have il:=(vx.mp G).1;have ed:g.drop i=j::g.drop (i+1):=by
   obtain⟨h,rfl⟩:=vx.mp G;exact List.drop_eq_getElem_cons h
  have lj:=hj j (vm G);exists⟨.inl ⟨rfl,_,SqL.of J⟩,?_⟩;exists⟨uA,?_⟩;walk_at"f 2 t";exists⟨p,_,_,rfl,rfl,s2 _ _ J,by rw[vt];lia,?_⟩;have n2:p2≠p:=fun z=>by rw[z,s2 _ _ J]at t2;cases t2
  have s3:Same H (upd H2 p (.lst (d.map V.ref++[.ref p2]))):=fun c u h=>(jh (np h)).trans (s2 _ _ (X _ _ h))
  have e3:upd H2 p (.lst (d.map V.ref++[.ref p2])) p=some (.lst ((d++[p2]).map V.ref)):=by rw[jq,vj];rfl
  have M:PcsAt (upd H2 p (.lst (d.map V.ref++[.ref p2]))) (d++[p2]) (B++[(j,1,D)]):=by
   refine All2.snoc (All2.mono hq fun c x h=>?_) ((jh n2).trans t2);exact(jh (fun z=>by rw[z,J]at h;cases h)).trans (s2 _ _ h)
  generalize upd H2 p (.lst (d.map V.ref++[.ref p2]))=H3 at s3 e3 M|-;exists ixTm (SqT.of (s3 _ _ Z)) (at0) ?_;walk_at"g";rcases y with⟨Y,m,R⟩ | ⟨Y,L⟩
  ·refine iteB1 Y ?_;exists ixLm (SqL.of (s3 _ _ es)) (jG (j:=j) (by rw[vv,S j lj];rfl)) ?_;exists⟨_,_,d++[p2],B++[(j,1,D)],rfl,s3,e3,by rw[vn,la];rfl,M,fun h=>?_,fun h=>ud ⟨m,R⟩ h⟩;rw[F h,ed,List.append_assoc];rfl
  ·refine iteB0 Y ?_;exists⟨_,_,d++[p2],B++[(j,1,D)],rfl,s3,e3,by rw[vn,la];rfl,M,fun h=>?_,fun h=>?_⟩
   ·obtain⟨m,R⟩:=h;subst R;have:=L [0,0];obtain⟨bb,a0,_⟩:=o;rw[a0]at Z;cases Z;exact ud Y (by decide +kernel)
   ·obtain⟨b0,eq⟩:=U h;refine⟨b0,?_⟩;rw[take_snoc G,vj,eq,b0];rfl
 rintro σ' I ⟨o3,D,d,B,rfl,X,J,la,hq,F,U⟩;rw[show((g.map fun j:Nat=>(j:Int)).map V.int).length=g.length by rw[vt,vt]]at F U;exists q p d I X hp J ?_;have e:pcsI C f g=B:=by
  by_cases N:∃xs,f = .row xs
  ·obtain⟨m,rfl⟩:=N;show rowPc C g 0=B;rw[F ⟨m,rfl⟩,List.drop_length];exact append_nil _
  ·rcases y with⟨_,m,R⟩ | ⟨_,L⟩
   ·exact ud ⟨m,R⟩ N
   ·rw[L,(U N).2,v7]
 rw[e];exact hq
theorem wM(T:Txt K mg t)(qN:FnOk P w K mg base CX0 2 t.ZT t.ZX ["book"] (sp_inner))(zx:FnOk P w K mg base CX0 1 t.Qs t.Qz ["form","inside","sizes"] (sp_pieces_in)):FnOk P w K mg base CX0 3 t.zD t.zI ["book","sizes"] (sp_pieces_of):=by
 specialize T.Yg.F.ok wZ;obtain⟨b,pl,pp,s0,Z,C,ls,D,gs,rfl,B,W,es,gl,q⟩:=h;refine⟨_,(jf (ju (jU (ow:=["part","inside"]) (ci:=[1]) rfl (CompScope.of (defScope QF) ["book","sizes"] rfl rfl (by decide +kernel)) (Zm (by decide) (by decide)) (xH (by rfl) T.j0G (ja (jg ji (pv 0) jd) (ja (jk T.Yo qN hr (ja (pv 0) jb)) jb))) (fun _ _ _ _ _=>⟨(Jq rfl (jr (jm (i:=0) (jJ ["book","sizes"] rfl (by decide +kernel)) rfl (.inl rfl)) (jr (jm (i:=1) (jJ ["book","sizes"] rfl (by decide +kernel)) rfl (.inl rfl)) jZ))),Ju,(jk T.Yf zx hr (ja (jg (Jo (K:=K) rfl) (pv 0) jd) (ja (pv 1) (ja (pv 2) jb))))⟩)))),?_⟩;refine jw (σ':=[some _,some _]) rfl ?_
 try dsimp only[cxOf,Cx.nox]
 have sz:(10000:Nat)<sizeLine:=by decide
 have a3:=W.p61;have pa:=B.pa.1;exists ixTm (SqT.of B.t) rfl ?_;exists⟨b,pl,pp,Z,C,ls,D,rfl,B,W,fun li Y H3 F a0 n a2 lia=>?_⟩;walk_at"g";have y:=lia.1;rw[vt]at y;refine⟨pp,li,_,_,rfl,SqL.of (F _ _ B.p),SqL.of n,?_⟩;refine Wj (xs:=C.map V.ref) (zs:=Y.map V.ref) (fun i J m=>IvE1 fun(d:List Addr)=>IvA4 (J=d.map V.ref) (d.length=i) (Same H3 m) ((∀a∈d,H a=none)/\PssAt m d ((D.take i).map fun p=>pcsI gs p.2 (inP D p.2)))) (by rw[vt,vt];lia) ⟨[],rfl,rfl,Same.refl _,(fun a h=>nomatch h),.nil⟩ ?_ ?_ ?_
 ·rintro i J m _ ⟨d,rfl,G,g,I,l⟩;exact⟨SqL.of (g _ _ (F _ _ B.p)),SqL.of (g _ _ n)⟩
 ·rintro i u v J m T0 H4 hu hv ⟨d,rfl,G,g,I,l⟩ sP tP;have hi:=(vx.mp hu).1;rw[vt]at hi;obtain⟨a,p,rfl,r,fb,R,hf⟩:=B.pa.at_ref hu;obtain⟨ia,is,rfl,o,S⟩:=lia.at_ref hv;rw[vv,r]at o;cases o;have a1:=(vx.mp r).1;have s4:=g.trans sP;have f:=F.trans s4;have i8:(inP D p.2).length<=8:=by unfold inP;rw[vt];exact(W.f i p r).2
  refine jV (σ':=[none,none,some _]) rfl ?_;refine JA (SqT.of tP) ?_;exists iteT ?_;exists ixTm (SqT.of (f _ _ R)) rfl ?_;exists⟨fb,ia,s0,p.2,inP D p.2,gs,rfl,FormAt.same f hf,s4 _ _ S,f _ _ es,i8,fun j hj=>by have:=W.inP_lt r hj;lia,fun k x e=>by rw[e];exact List.cons_ne_nil _ _,fun p5 L H5 s5 U e5 X=>?_⟩;refine⟨by rw[vt];lia,d++[p5],by rw[vj];rfl,by rw[vn,G];rfl,s4.trans s5,fun c hc=>(vh.mp hc).elim (I c) fun z=>by rw[vo.mp z];exact none_of f U,?_⟩;rw[take_snoc r,vj];refine All2.snoc (All2.mono l fun c x h=>?_) ⟨L,e5,X⟩;obtain⟨M,N,O⟩:=h;exact⟨M,s5 _ _ (sP _ _ N),All2.mono O fun c x h=>s5 _ _ (sP _ _ h)⟩
 rintro J m ⟨d,rfl,G,g,I,l⟩;rw[vt]at G l;refine⟨by rw[vt];lia,?_⟩;walk_at"f 4 t";refine q _ d _ (F.trans (g.trans s4)) (none_of (F.trans g) hp4) t4 ?_ I;rw[pa,v7]at l;refine All2.mono l fun c x h=>?_
 obtain⟨M,N,O⟩:=h;exact⟨M,s4 _ _ N,All2.mono O fun c x h=>s4 _ _ h⟩
theorem ya(T:Txt K mg t)(jP:FnOk P w K mg base CX0 1 t.Jx t.Jz ["named"] (sp_numbers_of))(yw:FnOk P w K mg base CX0 3 t.KQ t.K8 ["book"] (sp_ends))(yx:FnOk P w K mg base CX0 5 t.yB t.yI ["book"] (sp_lengths))(zA:FnOk P w K mg base CX0 3 t.zD t.zI ["book","sizes"] (sp_pieces_of)):FnOk P w K mg base CX0 6 t.Jd t.Jr ["self","book"] (sp_initS t.jH):=by
 specialize T.yt.ok yf;obtain⟨a,m,b,pl,pp,g,C,R,ps,gs,hs,rfl,ha,B,N,q⟩:=h;refine⟨_,(jc (yU (pv 0) (jk T.qg jP hr (ja (jg ji (pv 1) jd) jb)) rfl)
  (jc (yU (pv 0) (jU (ow:=["name","height"]) (ci:=[]) rfl (CompScope.of (defScope Jv) ["self","book"] rfl rfl (by decide +kernel)) (Zm (by decide) (by decide)) (jF (jg ji (pv 1) jd)) (fun _ _ _ _ _=>⟨(Jq rfl (jr (jm (i:=0) (jJ ["self","book"] rfl (by decide +kernel)) rfl (.inl rfl)) (jr (jm (i:=1) (jJ ["self","book"] rfl (by decide +kernel)) rfl (.inl rfl)) jZ))),Ju,(pv 1)⟩)) rfl)
  (jc (yU (pv 0) (jU (ow:=["name","form"]) (ci:=[]) rfl (CompScope.of (defScope Jv) ["self","book"] rfl rfl (by decide +kernel)) (Zm (by decide) (by decide)) (jF (jg ji (pv 1) jd)) (fun _ _ _ _ _=>⟨(Jq rfl (jr (jm (i:=0) (jJ ["self","book"] rfl (by decide +kernel)) rfl (.inl rfl)) (jr (jm (i:=1) (jJ ["self","book"] rfl (by decide +kernel)) rfl (.inl rfl)) jZ))),Ju,(pv 1)⟩)) rfl)
  (jc (yU (pv 0) (jk T.k7 yx hr (ja (pv 1) jb)) rfl)
  (jc (yU (pv 0) (jk T.WX yw hr (ja (pv 1) jb)) rfl)
  (jf (yU (pv 0) (jk T.Yg zA hr (ja (pv 1) (ja (Qg (pv 0) rfl) jb))) rfl))))))),?_⟩
 refine jw (σ':=[some _,some _]) rfl ?_
 try dsimp only[cxOf,Cx.nox]
 have sz:(200:Nat)<sizeLine:=by decide
 have W:=N.s.w;have gl:=N.s.gl;have l8:=W.l8;have ae:=W.p61;have la:=B.la.1;have ac:=B.pa.1;obtain⟨S,I,n0,X⟩:=B.less ha;have z0:Same S H:=I H fun c u _ h=>h
 exists ixTm (SqT.of B.t) rfl ?_;exists⟨pl,g,nmsOf R,rfl,B.l,by rw[nmsOf,vt];exact la,fun i a x ea ex=>?_,W.ln,by rw[nmsOf,vt];lia,fun d H1 s1 hd ed=>?_⟩
 ·unfold nmsOf at ex;rw[vv]at ex;obtain⟨p,ep,rfl⟩:=vg.mp ex;exact⟨_,B.la.2 i a p ea ep⟩
 exists⟨a,_,m,[],rfl,s1 _ _ ha,T.jN,T.qG,(by show 0<1000;decide),?_⟩;have nd:d≠a:=fun z=>by rw[z,ha]at hd;cases hd
 generalize e2:upd H1 a _=H2;have k2:∀c u,c≠a->H1 c=some u->H2 c=some u:=fun c u n h=>e2▸(jh n).trans h
 have a2:=YR e2;clear e2;have z2:Same S H2:=I H2 fun c u n h=>k2 _ _ n (s1 _ _ h)
 have B2:=X.same z2;exists ixTm (SqT.of B2.t) rfl ?_;exists⟨pl,rfl,⟨_,SqL.of B2.l⟩,?_⟩;refine j3 (xs:=g.map V.ref) (fun i F o=>F=((R.map (·.2)).take i).map V.int/\H2=o) ⟨rfl,rfl⟩ ?_ ?_ ?_
 ·rintro i F o _ ⟨rfl,rfl⟩;exact SqL.of B2.l
 ·rintro i v F o hv ⟨rfl,rfl⟩;obtain⟨a,p,rfl,hp,M⟩:=B2.la.at_ref hv;have hi:=(vx.mp hp).1;refine jV (σ':=[none,none]) rfl ?_;refine JA (SqT.of M) ?_;exists iteT ?_;exists⟨by rw[vt,vi,vt];lia,?_,rfl⟩;rw[take_snoc (show(R.map (·.2))[i]?=some p.2 by rw[vv,hp];rfl),vj];rfl
 rintro F o ⟨rfl,rfl⟩;rw[show(g.map V.ref).length=(R.map (·.2)).length by rw[vt,vt];exact la,v7];refine⟨by rw[vt,vt];lia,?_⟩;walk_at"f 3 t";exists⟨a,_,m,_,rfl,s3 _ _ a2,T.jN,T.qF,few (j6 _ _ _) (by decide),?_⟩;have n3:p3≠a:=fun z=>by rw[z,a2]at hp3;cases hp3
 generalize e4:upd H3 a _=H4;have k4:∀c u,c≠a->H3 c=some u->H4 c=some u:=fun c u n h=>e4▸(jh n).trans h
 have a4:=YR e4;clear e4;have z4:Same S H4:=fun c u h=>k4 _ _ (n0 h) (s3 _ _ (z2 _ _ h))
 have B4:=X.same z4;exists ixTm (SqT.of B4.t) rfl ?_;exists⟨pp,rfl,⟨_,SqL.of B4.p⟩,?_⟩;refine j3 (xs:=C.map V.ref) (fun i F o=>IvE1 fun(f:List Addr)=>IvA2 (F=f.map V.ref) (All2 (fun a p=>FormAt H4 a p.2) f (ps.take i)/\H4=o)) ⟨[],rfl,.nil,rfl⟩ ?_ ?_ ?_
 ·rintro i F o _ ⟨f,rfl,J,rfl⟩;exact SqL.of B4.p
 ·rintro i v F o hv ⟨f,rfl,J,rfl⟩;obtain⟨a',p,rfl,hp,fb,M,hf⟩:=B4.pa.at_ref hv;have hi:=(vx.mp hp).1;have a5:=J.1;rw[vi]at a5;refine jV (σ':=[none,none]) rfl ?_;refine JA (SqT.of M) ?_;exists iteT ?_;exists⟨by rw[vt];lia,f++[fb],by rw[vj];rfl,?_,rfl⟩;rw[take_snoc hp];exact All2.snoc J hf
 rintro F o ⟨f,rfl,J,rfl⟩;rw[vt,ac,v7]at J;have fl:=J.1;refine⟨by rw[vt];lia,?_⟩;walk_at"f 5 t";exists⟨a,_,m,_,rfl,s5 _ _ a4,T.jN,T.J0,vD (j6 _ _ _) (vD (Nat.succ_le_succ (j6 _ _ _)) (by decide)),?_⟩;have n5:p5≠a:=fun z=>by rw[z,a4]at hp5;cases hp5
 generalize e6:upd H5 a _=H6;have k6:∀c u,c≠a->H5 c=some u->H6 c=some u:=fun c u n h=>e6▸(jh n).trans h
 have a6:=YR e6;clear e6;have z6:Same S H6:=fun c u h=>k6 _ _ (n0 h) (s5 _ _ (z4 _ _ h))
 exists⟨b,pl,pp,g,C,R,ps,gs,hs,rfl,X.same z6,N.s,fun l7 H7 s7 a1 e7=>?_⟩;exists⟨a,_,m,_,rfl,s7 _ _ a6,T.jN,T.j9,few3,?_⟩;have n7:l7≠a:=fun z=>by rw[z,a6]at a1;cases a1
 generalize e8:upd H7 a _=H8;have k8:∀c u,c≠a->H7 c=some u->H8 c=some u:=fun c u n h=>e8▸(jh n).trans h
 have a8:=YR e8;clear e8;have z8:Same S H8:=fun c u h=>k8 _ _ (n0 h) (s7 _ _ (z6 _ _ h))
 exists⟨b,pl,pp,g,C,R,ps,rfl,X.same z8,W,fun l9 as E Y U a3 e9 na lE aE oE=>?_⟩;exists⟨a,_,m,_,rfl,U _ _ a8,T.jN,T.qU,few4,?_⟩;have n9:l9≠a:=fun z=>by rw[z,a8]at a3;cases a3
 generalize L:upd Y a _=H10;have O:∀c u,c≠a->Y c=some u->H10 c=some u:=fun c u n h=>L▸(jh n).trans h
 have k:=YR L;clear L;have ad:Same S H10:=fun c u h=>O _ _ (n0 h) (U _ _ (z8 _ _ h))
 have w7:∀c u,c≠a->H7 c=some u->H10 c=some u:=fun c u n h=>O _ _ n (U _ _ (k8 _ _ n h))
 exists⟨a,_,m,_,_,rfl,k,T.jN,T.j9,(Jk (by decide +kernel)).trans ZF,?_⟩;exists⟨b,pl,pp,l7,g,C,R,ps,gs,rfl,X.same ad,W,w7 _ _ n7 e7,gl,fun y l j D G a7 a0 _=>?_⟩;exists⟨a,_,m,_,rfl,D _ _ k,T.jN,T.qk,few5,?_⟩;have a9:y≠a:=fun z=>by rw[z,k]at G;cases G
 have r:∀c u,c≠a->j c=some u->upd j a (.ins t.jH m (fldS ⟨d,p3,p5,l7,l9,y,f,as,l⟩)) c=some u:=fun c u n h=>(jh n).trans h
 have u9:∀c u,c≠a->Y c=some u->upd j a (.ins t.jH m (fldS ⟨d,p3,p5,l7,l9,y,f,as,l⟩)) c=some u:=fun c u n h=>r _ _ n (D _ _ (O _ _ n h))
 have u7:∀c u,c≠a->H7 c=some u->_=some u:=fun c u n h=>u9 _ _ n (U _ _ (k8 _ _ n h))
 have u5:∀c u,c≠a->H5 c=some u->_=some u:=fun c u n h=>u7 _ _ n (s7 _ _ (k6 _ _ n h))
 have u3:∀c u,c≠a->H3 c=some u->_=some u:=fun c u n h=>u5 _ _ n (s5 _ _ (k4 _ _ n h))
 have u1:∀c u,c≠a->H1 c=some u->_=some u:=fun c u n h=>u3 _ _ n (s3 _ _ (k2 _ _ n h))
 have nq:∀{c:Addr} {xs:List V},j c=some (.lst xs)->c≠a:=fun h z=>by rw[z,D _ _ k]at h;cases h
 have ab:∀{c:Addr} {xs:List V},j c=some (.tup xs)->c≠a:=fun h z=>by rw[z,D _ _ k]at h;cases h
 have nt:∀{c:Addr} {xs:List V},Y c=some (.tup xs)->c≠a:=fun h z=>by rw[z,U _ _ a8]at h;cases h
 have nl:∀{c:Addr} {xs:List V},Y c=some (.lst xs)->c≠a:=fun h z=>by rw[z,U _ _ a8]at h;cases h
 have aa:∀{c:Addr} {xs:List V},H4 c=some (.tup xs)->c≠a:=fun h z=>by rw[z,a4]at h;cases h
 exact q ⟨d,p3,p5,l7,l9,y,f,as,l⟩ E _ (fun c u n h=>u1 _ _ n (s1 _ _ h)) ⟨⟨m,jq⟩,u1 _ _ nd ed,u3 _ _ n3 t3,u5 _ _ n5 t5,All2.mono J fun c p h=>FormAt.put (fun b xs hb=>u5 _ _ (aa hb) (s5 _ _ hb)) h,u7 _ _ n7 e7,u9 _ _ n9 e9,lE,
  All2.mono aE fun c e ⟨bs,Z,h2⟩=>⟨bs,u9 _ _ (nl Z) Z,All2.mono h2 fun b q h=>u9 _ _ (nt h) h⟩,oE,r _ _ a9 a7,All2.mono a0 fun c e ⟨bs,Z,h2⟩=>⟨bs,r _ _ (nq Z) Z,All2.mono h2 fun b q h=>r _ _ (ab h) h⟩⟩
theorem j38(T:Txt K mg t):FnOk P w K mg base CX0 1 t.KS t.wc ["start","goal","beats","j"] (Pr.XI):=by
 refine T.j0A.F.ok j3q (fun f H Q E h=>?_) (fun d A a s H f Q E i h=>?_)
 ·obtain⟨e,g,b,j,rfl,c,q⟩:=h;rfl
 obtain⟨e,g,b,j,rfl,c,q⟩:=h;refine⟨_,(jf (ju (jt Jh (pv 0) (jt QX (jt JR (jt ZJ (pv 1) (pv 0)) (pv 3)) (pv 2))))),?_⟩;refine jw (σ':=[some _,some _,some _,some _]) rfl ?_
 try dsimp only[cxOf,Cx.nox]
 unfold Pr.B4 at c;walk_at"g";exact q
theorem WF(T:Txt K mg t):FnOk P w K mg base CX0 1 t.Q6 t.za ["pieces","sizes","gone"] (sp_progress):=by
 specialize T.YM.F.ok JM;obtain⟨l,s0,b,bs,O,a,rfl,S,W,U,q8,ok,t1,t2,q⟩:=h;refine⟨_,(jc (jo (i:=3) JM.nd rfl (.inl rfl) (jK jb))
  (jc (j2 PassesOwn.never rfl (jF (pv 0)) (Jq rfl (jr (jm (i:=4) JM.nd rfl (.inl rfl)) (jr (jm (i:=5) JM.nd rfl (.inl rfl)) (jr (jm (i:=6) JM.nd rfl (.inl rfl)) jZ))))
   (jf (jS (jp j1B (pv 6) (pv 2) (nomark _))
    (jc (jo (i:=7) JM.nd rfl (.inl rfl) (jz (yD rfl) (by rfl) T.j0F W6 (ja (jt QX (jt ZJ (pv 2) (pv 6)) (jg jA (pv 1) (pv 4))) (ja (pv 5) jb))))
    (jc (jo (i:=8) JM.nd rfl (.inl rfl) (kq (jp WG (pv 7) (pv 5) (nomark _)) (jt ZJ (jt ZJ (pv 2) (pv 6)) (jt JR (pv 7) (jg jA (pv 1) (pv 4)))) wQ))
    (jf (j5 (qI PySem.F.plainAttrs_list PySem.F.slot_list_append PySem.F.type_list_append jX (pv 3) (ja (jD (ja (pv 4) (ja (pv 6) (ja (pv 7) (ja (pv 8) jb))))) jb))))))
    jv)))
  (jf (ju (pv 3))))),?_⟩
 refine jw (σ':=[some _,some _,some _,none,none,none,none,none,none]) rfl ?_
 try dsimp only[cxOf,Cx.nox]
 have sz:(10000:Nat)<sizeLine:=by decide
 have B:∀j,j<a.length->a[j]?=some (a.getD j 0):=fun j h=>by
  rw[vy,vz h];rfl
 have bl:=W.1;exists⟨va _,?_⟩;walk_at"f p hp H1 s1 e1";have Y:∀{c u},H c=some u->c≠p:=fun h=>je h hp
 exists⟨l,rfl,⟨_,SqL.of (s1 _ _ S)⟩,?_⟩;refine Jf (xs:=bs.map V.ref) (fun i R m=>IvE6 fun(F G I J L:Option V) (d:List Addr)=>IvA4 (R=[some (.ref l),some (.ref s0),some (.int b),some (.ref p),F,G,I,J,L]) (Same H m) (m p=some (.lst (d.map V.ref))) (d.length<=i/\PrgAt m d (prg a b (O.take i))))
  ⟨_,_,_,_,_,[],rfl,s1,e1,vb _,.nil⟩ ?_ ?_ ?_
 ·rintro i R m _ ⟨F,G,I,J,L,d,rfl,k,e,X,n⟩;exact SqL.of (k _ _ S)
 ·rintro i v R m hv ⟨F,G,I,J,L,d,rfl,k,e,X,n⟩;obtain⟨c,x,rfl,N,hc⟩:=W.at_ref hv;have hi:=(vx.mp N).1;have C:=ok x (vm N);have D:=C;obtain⟨Z,g1,g2,n1,n2,b1,b2⟩:=D;have g:prg a b (O.take (i+1))=prg a b (O.take i)++(prg1 a b x).toList:=by
   rw[take_snoc N];unfold prg;rw[List.filterMap_append];congr 1
  refine j4y (SqT.of (k _ _ hc)) ?_;exists iteD (fun r=>?_) (fun r=>?_)
  ·have a1:=j1F C r;exists ixLm (SqL.of (k _ _ U)) (jG (j:=x.1) (by rw[vv,B _ Z];rfl)) ?_;walk_at"g";have eo:(if x.2.1<(b-x.2.2)/a.getD x.1 0 then x.2.1 else(b-x.2.2)/a.getD x.1 0)=ov a b x:=rfl;have a0:(if(b-x.2.2)/a.getD x.1 0>x.2.1 then x.2.1 else(b-x.2.2)/a.getD x.1 0)=ov a b x:=rfl;refine⟨_,_,rfl,?_⟩;rw[eo];exists iteD (fun M=>?_) (fun M=>?_)
   ·exists ixLm (SqL.of (k _ _ U)) (jG (j:=x.1) (by rw[vv,B _ Z];rfl)) ?_;exists⟨.inl ⟨rfl,_,SqL.of e⟩,?_⟩;exists⟨uB,?_⟩;walk_at"f 2 e";exists⟨p,_,_,rfl,rfl,s2 _ _ e,by rw[vt];lia,?_⟩;have o:p2≠p:=fun z=>by rw[z,s2 _ _ e]at e2;cases e2
    refine⟨_,_,_,_,_,d++[p2],rfl,fun c u h=>(jh (Y h)).trans (s2 _ _ (k _ _ h)),by rw[jq,vj];rfl,by rw[vn];show d.length+1<=_;lia,?_⟩;have f:prg1 a b x=some (x.1,x.2.2,ov a b x,some (b-x.2.2-ov a b x*a.getD x.1 0)):=by
     unfold prg1;rw[vd r,vd M]
    rw[g,f];refine All2.snoc (All2.mono n fun c y h=>?_) ((jh o).trans e2);exact(jh (fun z=>by rw[z,e]at h;cases h)).trans (s2 _ _ h)
   ·exists⟨.inl ⟨rfl,_,SqL.of e⟩,?_⟩;exists⟨uB,?_⟩;walk_at"f 2 e";exists⟨p,_,_,rfl,rfl,s2 _ _ e,by rw[vt];lia,?_⟩;have o:p2≠p:=fun z=>by rw[z,s2 _ _ e]at e2;cases e2
    refine⟨_,_,_,_,_,d++[p2],rfl,fun c u h=>(jh (Y h)).trans (s2 _ _ (k _ _ h)),by rw[jq,vj];rfl,by rw[vn];show d.length+1<=_;lia,?_⟩;have f:prg1 a b x=some (x.1,x.2.2,ov a b x,none):=by
     unfold prg1;rw[vd r,vc M]
    rw[g,f];refine All2.snoc (All2.mono n fun c y h=>?_) ((jh o).trans e2);exact(jh (fun z=>by rw[z,e]at h;cases h)).trans (s2 _ _ h)
  ·exists⟨_,_,_,_,_,d,rfl,k,e,by lia,?_⟩;have f:prg1 a b x=none:=by
    unfold prg1;rw[vc r]
   rw[g,f];show PrgAt m d (_++[]);rw[append_nil];exact n
 rintro σ' m ⟨F,G,I,J,L,d,rfl,k,e,X,n⟩;rw[vt,bl,v7]at n;walk_at"g";exact q p d m k hp e n
theorem j0h(T:Txt K mg t)(ZE:FnOk P w K mg base CX0 1 t.Q6 t.za ["pieces","sizes","gone"] (sp_progress)):FnOk P w K mg base CX0 2 t.YQ t.YW ["pieces","sizes","gone"] (sp_within):=by
 specialize T.We.F.ok qY;obtain⟨l,S,n,bs,C,gs,rfl,el,hq,Y,q8,ok,t1,t2,q⟩:=h;refine⟨_,(jc (jo (i:=3) qY.nd rfl (.inl rfl) (jK jb))
  (jc (j2 PassesOwn.never rfl (jF (jk T.YM ZE hr (ja (pv 0) (ja (pv 1) (ja (pv 2) jb))))) (Jq rfl (jr (jm (i:=4) qY.nd rfl (.inl rfl)) (jr (jm (i:=5) qY.nd rfl (.inl rfl)) (jr (jm (i:=6) qY.nd rfl (.inl rfl)) (jr (jm (i:=7) qY.nd rfl (.inl rfl)) jZ)))))
   (jc (Qh (jp KF (pv 6) jd (nomark _))
    (jf (j5 (qI PySem.F.plainAttrs_list PySem.F.slot_list_append PySem.F.type_list_append jX (pv 3) (ja (jD (ja (pv 4) (ja (jg jA (pv 1) (pv 4)) jb))) jb))))
    jv)
   (jf (jS (jp j3a (pv 7) wQ (nomark _))
    (jf (j5 (qI PySem.F.plainAttrs_list PySem.F.slot_list_append PySem.F.type_list_append jX (pv 3) (ja (jD (ja (pv 4) (ja (pv 7) jb))) jb))))
    jv))))
  (jf (ju (pv 3))))),?_⟩
 refine jw (σ':=[some _,some _,some _,none,none,none,none,none]) rfl ?_
 try dsimp only[cxOf,Cx.nox]
 have sz:(10000:Nat)<sizeLine:=by decide
 have a0:∀j,j<gs.length->gs[j]?=some (gs.getD j 0):=fun j h=>by
  rw[vy,vz h];rfl
 exists⟨va _,?_⟩;walk_at"f p hp H1 s1 e1";have np:∀{c u},H c=some u->c≠p:=fun h=>je h hp
 exists⟨l,S,n,bs,C,gs,rfl,s1 _ _ el,All2.mono hq fun c x h=>s1 _ _ h,s1 _ _ Y,q8,ok,t1,t2,fun l2 W H2 s2 J e2 G=>?_⟩;have a4:=Xs (gs:=gs) (t:=n) C;have U:=G.1;have a1:l2≠p:=fun z=>by rw[z,e1]at J;cases J
 have D:=s2 _ _ e1;exists⟨l2,rfl,⟨_,SqL.of e2⟩,?_⟩;refine Jf (xs:=W.map V.ref) (fun i σ f=>IvE5 fun(M N O R:Option V) (e:List Addr)=>IvA4 (σ=[some (.ref l),some (.ref S),some (.int n),some (.ref p),M,N,O,R]) (∀c u,c≠p->H2 c=some u->f c=some u) (f p=some (.lst (e.map V.ref))) (e.length<=2*i/\GonAt f e (((prg gs n C).take i).flatMap (wth1 gs))))
  ⟨_,_,_,_,[],rfl,fun c u _ h=>h,D,vb _,.nil⟩ ?_ ?_ ?_
 ·rintro i σ f _ ⟨M,N,O,R,e,rfl,m,g,la,B⟩;exact SqL.of (m _ _ a1 e2)
 ·rintro i v σ f hv ⟨M,N,O,R,e,rfl,m,g,la,B⟩;obtain⟨c,y,rfl,hy,b⟩:=G.at_ref hv;have hi:=(vx.mp hy).1;have a2:c≠p:=fun z=>by rw[z,D]at b;cases b
  obtain⟨x,hx,ex⟩:=wA (vm hy);have y1:y.1<gs.length:=by rw[ku ex];exact(ok x hx).1
  have k:((prg gs n C).take (i+1)).flatMap (wth1 gs)=((prg gs n C).take i).flatMap (wth1 gs)++wth1 gs y:=by
   rw[take_snoc hy,flatMap_append,flatMap_cons,List.flatMap_nil,append_nil]
  have Z:f S=some (.lst (gs.map V.int)):=m _ _ (np Y) (s2 _ _ (s1 _ _ Y));refine j4z (SqT.of (m _ _ a2 b)) ?_;exists⟨fun σ' H3=>IvE1 fun(a:List Addr)=>IvA4 (σ'=[some (.ref l),some (.ref S),some (.int n),some (.ref p),some (.int (y.1:Nat)),some (.int y.2.1),some (.int y.2.2.1),some (optV y.2.2.2)]) (∀c u,c≠p->f c=some u->H3 c=some u) (H3 p=some (.lst (a.map V.ref))) (a.length<=2*i+1/\GonAt H3 a (((prg gs n C).take i).flatMap (wth1 gs)++(if 0<y.2.2.1 then[(y.1,gs.getD y.1 0)]else[]))),?_,?_⟩
  rotate_left
  ·exists iteD (fun X=>?_) (fun X=>?_)
   ·exists⟨.inl ⟨rfl,_,SqL.of g⟩,?_⟩;exists ixLm (SqL.of Z) (jG (j:=y.1) (by rw[vv,a0 _ y1];rfl)) ?_;exists⟨ub,?_⟩;walk_at"f p2 hp2 H3 s3 e3";exists⟨p,_,_,rfl,rfl,s3 _ _ g,by rw[vt];lia,?_⟩;have o:p2≠p:=fun z=>by rw[z,s3 _ _ g]at e3;cases e3
    refine⟨e++[p2],rfl,fun c u b h=>(jh b).trans (s3 _ _ h),by rw[jq,vj];rfl,by rw[vn];show e.length+1<=_;lia,?_⟩;rw[vd X];refine All2.snoc (All2.mono B fun c y h=>?_) ((jh o).trans e3);exact(jh (fun z=>by rw[z,g]at h;cases h)).trans (s3 _ _ h)
   ·exists⟨e,rfl,fun c u _ h=>h,g,by lia,?_⟩;rw[vc X,append_nil];exact B
  rintro σ' H3 ⟨a,rfl,L,d,a3,I⟩;have F:wth1 gs y=(if 0<y.2.2.1 then[(y.1,gs.getD y.1 0)]else[])++(match y.2.2.2 with | some r=>[(y.1,r)] | none=>[]):=rfl;cases er:y.2.2.2 with
  | none=>
   exists⟨rfl,_,rfl,?_⟩;refine iteB0 (by simp[optV]) ?_;exists⟨_,_,_,_,a,rfl,fun c u b h=>L _ _ b (m _ _ b h),d,by lia,?_⟩;rw[k,F,er,append_nil];exact I
  | some r=>
   exists⟨rfl,_,rfl,?_⟩;refine iteB1 (by simp[optV]) ?_;exists⟨.inl ⟨rfl,_,SqL.of d⟩,?_⟩;exists⟨ub,?_⟩;walk_at"f p2 hp2 H4 s4 e4";exists⟨p,_,_,rfl,rfl,s4 _ _ d,by rw[vt];lia,?_⟩;have o:p2≠p:=fun z=>by rw[z,s4 _ _ d]at e4;cases e4
   refine⟨_,_,_,_,a++[p2],rfl,fun c u b h=>(jh b).trans (s4 _ _ (L _ _ b (m _ _ b h))),by rw[jq,vj];rfl,by rw[vn];show a.length+1<=_;lia,?_⟩;rw[k,F,er,<-List.append_assoc];refine All2.snoc (All2.mono I fun c y h=>?_) ((jh o).trans e4);exact(jh (fun z=>by rw[z,d]at h;cases h)).trans (s4 _ _ h)
 rintro σ' f ⟨M,N,O,R,e,rfl,m,g,la,B⟩;rw[vt,U,v7]at B;walk_at"g";exact q p e f (fun c u h=>m _ _ (np h) (s2 _ _ (s1 _ _ h))) hp g B
theorem kf(T:Txt K mg t)(YO:FnOk P w K mg base CX0 2 t.YQ t.YW ["pieces","sizes","gone"] (sp_within)):FnOk P w K mg base CX0 3 t.JV t.JY ["self","beat"] (sp_sceneS t.jH):=by
 specialize T.kO.ok Ji;obtain⟨a,z,O,ps,gs,hs,E,t0,rfl,A,N,t1,t2,q⟩:=h;refine⟨_,(jc (jS (zS (j1L j1B j1B jd (pv 1) (jg jA (Qg (pv 0) rfl) (zR Qi jd))))
   (jf ye)
   jv)
  (jc (jo (i:=2) Ji.nd rfl (.inl rfl) (Jt qR (by rfl) T.zE Q7 (ja (Qg (pv 0) rfl) jb)))
  (jc (jo (i:=3) Ji.nd rfl (.inl rfl) (jK jb))
  (jc (jo (i:=4) Ji.nd rfl (.inl rfl) (jK (ja (jD (ja (jt ZJ (jz jR (by rfl) T.JT Jj (ja (Qg (pv 0) rfl) jb)) jd) (ja (pv 1) jb))) jb)))
  (jc (WI PassesOwn.never (j4w (pv 4) (fun _=>rfl))
   (jc (jo (i:=5) Ji.nd rfl (.inl rfl) (j1H PySem.F.plainAttrs_list PySem.F.slot_list_pop PySem.F.type_list_pop j4h (pv 4)))
   (jf (jS (jp WG (jg ji (pv 5) jd) (jg jA (Qg (pv 0) rfl) (jg ji (pv 5) jd)) (nomark _))
    (jc (j5 (qI PySem.F.plainAttrs_list PySem.F.slot_list_append PySem.F.type_list_append jX (pv 3) (ja (pv 5) jb)))
    (jf (j5 (qI PySem.F.plainAttrs_list PySem.F.slot_list_extend PySem.F.type_list_extend j0a (pv 4) (ja (j4s (jk T.We YO hr (ja (jg jA (Qg (pv 0) rfl) (jg ji (pv 5) jd)) (ja (Qg (pv 0) rfl) (ja (jg ji (pv 5) jd) jb)))) (qo (zR Qi jd))) jb)))))
    (jf (j2 PassesOwn.never rfl (jF (jg jA (Qg (pv 0) rfl) (jg ji (pv 5) jd))) (Jq rfl (jr (jm (i:=6) Ji.nd rfl (.inl rfl)) (jr (jm (i:=7) Ji.nd rfl (.inl rfl)) jZ)))
     (jf (wS (pv 7) (xG (pv 2) (pv 6) set_list)))))))))
  (jf (ju (jD (ja (pv 2) (ja (pv 3) jb)))))))))),?_⟩
 refine jw (σ':=[some _,some _,none,none,none,none,none,none]) rfl ?_
 try dsimp only[cxOf,Cx.nox]
 have sz:(10000:Nat)<sizeLine:=by decide
 have W:=N.s.w;have gl:=N.s.gl;have ne:=N.ne;have aZ:=W.p61;have lE:=A.el;have M8:∀i,i<ps.length->(hs.getD i []).length<=8:=fun i hi=>j2W W N.hl N.m (Y1 N.s N.hl hi)
 have ab:atI (gs.map V.int) (-1)=some (.int (gs.getD (ps.length-1) 0)):=x9 (by lia) (by rw[gl]);have aP:∀j,j<ps.length->gs[j]?=some (gs.getD j 0):=fun j h=>N.j0Z h
 obtain⟨dx,ob⟩:=A.ob;exists iteD (fun _=>?_) (fun c=>ud t1 c);exists⟨a,_,dx,_,_,rfl,ob,T.jN,T.j9,Zk,?_⟩;exists ixLm (SqL.of A.hs) (ab) ?_;exists iteN (fun z=>ud t2 z) (fun _=>?_);exists⟨a,_,dx,_,_,rfl,ob,T.jN,T.qF,X2,?_⟩;exists⟨z.f,_,rfl,.inl (SqL.of A.hf),?_⟩;walk_at"f 1 e";exists⟨va _,?_⟩;walk_at"f 2 e";have ah:=s1.trans s2;exists⟨a,_,dx,_,_,rfl,ah _ _ ob,T.jN,T.j9,Zk,?_⟩;exists⟨_,_,rfl,.inl ⟨_,SqL.of (ah _ _ A.hs),rfl⟩,?_⟩;rw[vt,gl];exists⟨ub,?_⟩;walk_at"f 3 e";exists⟨uc,?_⟩;walk_at"f 4 e";rw[show((ps.length:Nat):Int)-1=((ps.length-1:Nat):Int) by lia]at e3;have aH:=ah.trans s3;have aV:=aH.trans s4;have ac:p1≠p2:=je e1 hp2;have ad:p1≠p4:=je (s3 _ _ (s2 _ _ e1)) hp4;have af:p2≠p4:=je (s3 _ _ e2) hp4;have m1:∀{c u},H c=some u->c≠p1:=fun h=>je h hp1
 have m2:∀{c u},H c=some u->c≠p2:=fun h=>je (s1 _ _ h) hp2
 have m4:∀{c u},H c=some u->c≠p4:=fun h=>je (aH _ _ h) hp4
 have aG:=N.nodes M8 (i:=ps.length-1) (t:=t0) (by lia) t1;have aJ:∀h∈O.map (·.2),0<=h/\h<=10^18:=fun h hh=>by
  obtain⟨q0,aR,rfl⟩:=vK.mp hh;exact N.l18 q0 aR
 exists⟨fun m σ B=>IvE8 fun(o5 J L:Option V) (d g:List Addr) (D P S:List (Nat×Int))=>IvA2 (σ=[some (.ref a),some (.int t0),some (.ref p1),some (.ref p2),some (.ref p4),o5,J,L]) (ScAt O ps gs E t0 H B p1 p2 p4 d g D P S/\m=(S.map fun x=>nodes ps gs x.1 x.2).sum),
  ⟨_,none,none,none,[],[p3],[],[],[(ps.length-1,t0)],rfl,⟨aV,s4 _ _ (s3 _ _ (s2 _ _ e1)),s4 _ _ (s3 _ _ e2),e4,.nil,All2.snoc (as:=[]) (xs:=[]) .nil (s4 _ _ e3),by simp,fun x hx=>by rw[vo.mp hx];exact⟨by show ps.length-1<_;lia,t1⟩,rfl,(fun x hx=>nomatch hx),by simpa using aG,by show(O.map (·.2)).length=_;rw[vt],aJ⟩,rfl⟩,?_⟩
 rintro m σ B ⟨o5,J,L,d,g,D,P,S,rfl,Sc,rfl⟩;obtain⟨sm,aj,am,eT,gP,gT,G,hS,hP,bP,aL,ll,hb⟩:=Sc;have a5:S.length<=(S.map fun x=>nodes ps gs x.1 x.2).sum:=j2b fun x _=>KA (ps:=ps) (gs:=gs) x.1 x.2
 have pl:=gP.1;have tl:=gT.1;exists⟨_,.inl ⟨_,SqL.of eT,rfl⟩,?_⟩;rcases List.eq_nil_or_concat S with rfl | ⟨S0,x,rfl⟩
 ·have et:g=[]:=List.length_eq_zero_iff.mp tl;subst et;refine iteF ?_;walk_at"g";rw[show([]:List (Nat×Int)).reverse.flatMap (fun x=>reach ps gs x.1 x.2)=[]from rfl,append_nil]at G;subst G;have b0:([].map fun x:Nat×Int=>nodes ps gs x.1 x.2).sum=0:=rfl;refine⟨ub,?_⟩;walk_at"f 5 e";exact q p5 p1 p2 d P H5 (sm.trans s5) hp1 (none_of s1 hp2) e5 (s5 _ _ aj) ll hb (s5 _ _ am) ac (All2.mono gP fun c y h=>s5 _ _ h) (by lia) bP hP
 rw[List.concat_eq_append]at *;obtain⟨b,l,rfl,av,az⟩:=All2.last gT;rw[vj]at eT|-;refine iteB1 (by simp) ?_;obtain⟨x1,x2⟩:=hS x (mem_append_right _ vq);have ay:∀y∈S0,y.1<ps.length/\0<=y.2:=fun y hy=>hS y (mem_append_left _ hy)
 rw[List.reverse_append,flatMap_append,vj,sum_append]at *;have aY:=KA (ps:=ps) (gs:=gs) x.1 x.2;have aq:([x].map fun x:Nat×Int=>nodes ps gs x.1 x.2).sum=nodes ps gs x.1 x.2:=by simp
 have a8:([x].reverse.flatMap fun x=>reach ps gs x.1 x.2)=reach ps gs x.1 x.2:=by simp
 rw[aq]at a5 aL|-;have b1:S0.length<=5000:=by rw[vn]at a5;lia
 have b2:=av.1;rw[a8]at G;refine⟨fun σ B=>IvE8 fun(o5 J L:Option V) (d g:List Addr) (D P S:List (Nat×Int))=>IvA2 (σ=[some (.ref a),some (.int t0),some (.ref p1),some (.ref p2),some (.ref p4),o5,J,L]) (ScAt O ps gs E t0 H B p1 p2 p4 d g D P S/\(S.map fun x=>nodes ps gs x.1 x.2).sum<(S0.map fun x=>nodes ps gs x.1 x.2).sum+nodes ps gs x.1 x.2),
  fun σ' B ⟨o5,J,L,d,g,D,P,S,h1,h2,h3⟩=>⟨_,h3,o5,J,L,d,g,D,P,S,h1,h2,rfl⟩,?_⟩
 exists⟨.inl ⟨rfl,_,SqL.of eT⟩,?_⟩;refine⟨p4,_,.ref l,rfl,rfl,eT,by simp,?_⟩;rw[show((b.map V.ref)++[l].map V.ref).dropLast=b.map V.ref by simp];have a0:∀{c:Addr} {xs:List V},B c=some (.tup xs)->c≠p4:=fun h z=>by rw[z,eT]at h;cases h
 have s5:Same H (upd B p4 (.lst (b.map V.ref))):=fun c u h=>(jh (m4 h)).trans (sm _ _ h)
 have a6:upd B p4 (.lst (b.map V.ref)) p4=some (.lst (b.map V.ref)):=jq;have U:=(jh (o:=HO.lst (b.map V.ref)) ad).trans aj;have C:=(jh (o:=HO.lst (b.map V.ref)) af).trans am;have a9:GonAt (upd B p4 (.lst (b.map V.ref))) d P:=All2.mono gP fun c y h=>(jh (a0 h)).trans h
 have aa:GonAt (upd B p4 (.lst (b.map V.ref))) b S0:=All2.mono av fun c y h=>(jh (a0 h)).trans h
 have n:=(jh (o:=HO.lst (b.map V.ref)) (a0 az)).trans az;generalize upd B p4 (.lst (b.map V.ref))=H5 at s5 a6 U C a9 aa n|-;clear a0;have aO:H5 z.s=some (.lst (gs.map V.int)):=s5 _ _ A.hs;have aD:=s5 _ _ ob;exists ixTm (SqT.of n) rfl ?_;exists⟨a,_,dx,_,_,rfl,aD,T.jN,T.j9,Zk,?_⟩;exists ixTm (SqT.of n) rfl ?_;exists ixLm (SqL.of aO) (jG (j:=x.1) (by rw[vv,aP _ x1];rfl)) ?_;walk_at"g";obtain⟨p,hp⟩:∃p,ps[x.1]?=some p:=⟨_,vz x1⟩
 have ap:pcB ps gs x.1=pcsI gs p.2 (inP ps p.2):=by unfold pcB;rw[hp]
 refine iteD (fun c1=>?_) (fun c1=>?_)
 ·have a1:ovB gs x=false:=vH (by lia);have aQ:(ps.map fun p=>pcsI gs p.2 (inP ps p.2))[x.1]?=some (pcB ps gs x.1):=by rw[vv,hp,ap];rfl
  obtain⟨al,aN,bs,Y,hq⟩:=A.pa.get aQ;have aW:=(N.g x1).2;have aT:(pcB ps gs x.1).length<=8:=by rw[ap];exact j17 (N.i8 hp)
  have wl:=j2P (gs:=gs) (t:=x.2) (pcB ps gs x.1);exists⟨.inl ⟨rfl,_,SqL.of C⟩,?_⟩;exists⟨p2,_,_,rfl,rfl,C,by rw[vt];lia,?_⟩;have ag:∀{c:Addr} {xs:List V},H5 c=some (.tup xs)->c≠p2:=fun h z=>by rw[z,C]at h;cases h
  have s6:Same H (upd H5 p2 (.lst (d.map V.ref++[.ref l]))):=fun c u h=>(jh (m2 h)).trans (s5 _ _ h)
  have an:upd H5 p2 (.lst (d.map V.ref++[.ref l])) p2=some (.lst ((d++[l]).map V.ref)):=by rw[jq,vj];rfl
  have ak:=(jh (o:=HO.lst (d.map V.ref++[.ref l])) ac).trans U;have a7:=(jh (o:=HO.lst (d.map V.ref++[.ref l])) af.symm).trans a6;have R:=(jh (o:=HO.lst (d.map V.ref++[.ref l])) (ag n)).trans n;have ar:GonAt (upd H5 p2 (.lst (d.map V.ref++[.ref l]))) (d++[l]) (P++[x]):=All2.snoc (All2.mono a9 fun c y h=>(jh (ag h)).trans h) R;have aw:GonAt (upd H5 p2 (.lst (d.map V.ref++[.ref l]))) b S0:=All2.mono aa fun c y h=>(jh (ag h)).trans h
  generalize upd H5 p2 (.lst (d.map V.ref++[.ref l]))=H6 at s6 an ak a7 R ar aw|-;exists⟨.inl ⟨rfl,_,SqL.of a7⟩,?_⟩;exists⟨a,_,dx,_,_,rfl,s6 _ _ ob,T.jN,T.qk,xi,?_⟩;exists ixTm (SqT.of R) rfl ?_;exists ixLm (SqL.of (s6 _ _ A.hp)) (J2 (i:=(x.1:Int)) (by lia) aN) ?_;exists⟨a,_,dx,_,_,rfl,s6 _ _ ob,T.jN,T.j9,Zk,?_⟩;exists ixTm (SqT.of R) rfl ?_;exists⟨al,z.s,x.2,bs,pcB ps gs x.1,gs,rfl,s6 _ _ Y,All2.mono hq fun c y h=>s6 _ _ h,s6 _ _ A.hs,aT,fun q hq=>N.pcOk hq,x2,by lia,fun lw aI H7 s7 aX ew hw=>?_⟩;exists⟨rfl,lw,_,rfl,SqL.of ew,?_⟩;walk_at"f lr hlr H8 s8 e8";have r:=s7.trans s8;have ao:=r _ _ a7;have b3:=hw.1;refine⟨p4,lr,_,_,rfl,rfl,ao,e8,by rw[vt,List.length_reverse,vt];lia,?_⟩;have a4:∀{c:Addr} {xs:List V},H8 c=some (.tup xs)->c≠p4:=fun h z=>by rw[z,ao]at h;cases h
  have au:=fun(c:Addr) (y:Nat×Int) (h:H6 c=some (.tup [.int (y.1:Nat),.int y.2]))=>(jh (o:=HO.lst (b.map V.ref++(aI.map V.ref).reverse)) (a4 (r _ _ h))).trans (r _ _ h)
  have aK:∀y∈P++[x],y.1<ps.length/\0<=y.2/\y.2<gs.getD y.1 0:=fun y hy=>by
   rcases vh.mp hy with h | h
   ·exact bP y h
   ·rw[vo.mp h];exact⟨x1,x2,c1⟩
  refine⟨_,_,_,d++[l],b++aI.reverse,if leafB ps gs x=true then D++[x]else D,P++[x],S0++(wth gs x.2 (pcB ps gs x.1)).reverse,rfl,⟨fun c u h=>(jh (m4 h)).trans (r _ _ (s6 _ _ h)),?_,(jh af).trans (r _ _ an),by rw[jq,vj,List.map_reverse],All2.mono ar au,?_,?_,?_,?_,aK,?_,?_,?_⟩,?_⟩
  ·rw[YZ a1];exact(jh ad).trans (r _ _ ak)
  ·exact All2.app (All2.mono aw au) (All2.mono (All2.rev hw) fun c y h=>(jh (a4 (s8 _ _ h))).trans (s8 _ _ h))
  ·rw[List.reverse_append,List.reverse_reverse,flatMap_append,<-G];by_cases Z:leafB ps gs x=true
   ·have c2:pcB ps gs x.1=[]:=List.isEmpty_iff.mp Z;rw[vd Z,c2,JB (.inr c2),List.append_assoc];rfl
   ·have c2:¬(gs.getD x.1 0<=x.2\/pcB ps gs x.1=[]):=fun h=>h.elim (by lia) fun e=>Z (List.isEmpty_iff.mpr e)
    rw[vc Z,qz W c2]
  ·intro y hy;rcases vh.mp hy with h | h
   ·exact ay y h
   ·have h:=List.mem_reverse.mp h;have:=QT W h;exact⟨by lia,kN (fun q hq=>N.pcOk hq) h⟩
  ·rw[filter_append,hP];by_cases Z:leafB ps gs x=true
   ·rw[vd Z,filter_append,filter_cons_of_pos Z,filter_cons_of_pos (by rw[a1];rfl)];rfl
   ·rw[vc Z,filter_cons_of_neg Z];exact append_nil _
  ·have:=Kz W (i:=x.1) (t:=x.2) c1;rw[vj,sum_append,List.map_reverse,List.sum_reverse,vn];show P.length+1+_<=_;lia
  ·rw[YZ a1];exact ll
  ·rw[YZ a1];exact hb
  ·have:=Kz W (i:=x.1) (t:=x.2) c1;rw[vj,sum_append,List.map_reverse,List.sum_reverse];lia
 ·have a2:ovB gs x=true:=vG (by lia);have hE:E[x.1]?=some (E.getD x.1 []):=by rw[vy,vz (by lia)];rfl
  obtain⟨ae,aM,bs,Y,aF⟩:=A.ea.get hE;have ai:=Z0 W (by lia) A.eo x.1;have eb:=j44 N lE A.eo x1;have a3:=s5 _ _ Y;exists⟨a,_,dx,_,_,rfl,aD,T.jN,T.qU,j0U,?_⟩;exists ixTm (SqT.of n) rfl ?_;exists ixLm (SqL.of (s5 _ _ A.hl)) (J2 (i:=(x.1:Int)) (by lia) aM) ?_;refine⟨ae,rfl,⟨_,SqL.of a3⟩,?_⟩;have aU:=aF.1;have aS:ae≠p1:=m1 Y;refine Jf (xs:=bs.map V.ref) (fun k σ H7=>IvE2 fun(J L:Option V)=>IvA4 (σ=[some (.ref a),some (.int t0),some (.ref p1),some (.ref p2),some (.ref p4),some (.ref l),J,L]) (∀c u,c≠p1->H5 c=some u->H7 c=some u) (H7 p1=some (.lst ((setE ((E.getD x.1 []).take k) (hOf O gs E D)).map V.int))) ((setE ((E.getD x.1 []).take k) (hOf O gs E D)).length=O.length/\(∀h∈setE ((E.getD x.1 []).take k) (hOf O gs E D),0<=h/\h<=10^18)))
   ⟨_,_,rfl,fun c u _ h=>h,U,ll,hb⟩ ?_ ?_ ?_
  ·rintro k σ H7 _ ⟨J,L,rfl,f,F,_⟩;exact SqL.of (f _ _ aS a3)
  ·rintro k v σ H7 hv ⟨J,L,rfl,f,F,I,X⟩;obtain⟨c',y,rfl,hy,aA⟩:=aF.at_ref hv;have aB:=vm hy;have yb:=ai y aB;have yh:=eb y aB;refine JA (SqT.of (f _ _ (m1 aA) (s5 _ _ aA))) ?_;walk_at"g";have M:setE ((E.getD x.1 []).take (k+1)) (hOf O gs E D)=(setE ((E.getD x.1 []).take k) (hOf O gs E D)).set y.1.toNat y.2:=by
    unfold setE;rw[take_snoc hy,foldl_append];rfl
   refine⟨p1,_,_,y.1.toNat,rfl,rfl,F,ixZ yb.1 (by rw[vt,I];exact yb.2),?_⟩;refine⟨_,_,rfl,fun c u hc h=>(jh hc).trans (f _ _ hc h),jq.trans ?_,by rw[M,length_set];exact I,fun h hh=>?_⟩
   ·rw[M,List.map_set]
   ·rw[M]at hh;rcases List.mem_or_eq_of_mem_set hh with z | z
    ·exact X h z
    ·rw[z];exact yh
  rintro σ' H7 ⟨J,L,rfl,f,F,I,X⟩;rw[vt,aU,v7]at F I X;have aC:∀{c:Addr} {xs:List V},H5 c=some (.tup xs)->c≠p1:=fun h z=>by rw[z,U]at h;cases h
  have aE:gs.getD x.1 0<=x.2:=by lia
  refine⟨_,_,_,d,b,D++[x],P,S0,rfl,⟨fun c u h=>f _ _ (m1 h) (s5 _ _ h),?_,f _ _ ac.symm C,f _ _ ad.symm a6,All2.mono a9 fun c y h=>f _ _ (aC h) h,All2.mono aa fun c y h=>f _ _ (aC h) h,?_,ay,?_,bP,by lia,?_,?_⟩,by lia⟩
  ·rw[Y0 a2];exact F
  ·rw[<-G,JB (.inl aE),List.append_assoc]
  ·rw[hP,filter_append,filter_cons_of_neg (by rw[a2];decide)];exact(append_nil _).symm
  ·rw[Y0 a2];exact I
  ·rw[Y0 a2];exact X
theorem Zu(T:Txt K mg t)(WZ:FnOk P w K mg base CX0 1 t.KS t.wc ["start","goal","beats","j"] (Pr.XI))(JF:FnOk P w K mg base CX0 3 t.JV t.JY ["self","beat"] (sp_sceneS t.jH)):FnOk P w K mg base CX0 4 t.Jw t.Jy ["self","beat"] (sp_heightsS t.jH):=by
 specialize T.ZD.ok jL;obtain⟨a,z,d,f,F,hs,E,I,rfl,A,N,t1,t2,q⟩:=h;refine⟨_,(jc (jo (i:=2) jL.nd rfl (.inl rfl) (YC (pv 0) T.jN T.zO (JF.mono (by decide)) hr T.Zv .nil pass0 (ja (pv 1) jb)))
  (jc (jo (i:=3) jL.nd rfl (.inl rfl) (jg ji (pv 2) jd))
  (jc (j2 PassesOwn.never rfl (jF (jg ji (pv 2) jd)) (Jq rfl (jr (jm (i:=4) jL.nd rfl (.inl rfl)) (jr (jm (i:=5) jL.nd rfl (.inl rfl)) jZ)))
   (jc (jo (i:=6) jL.nd rfl (.inl rfl) (jg jA (Qg (pv 0) rfl) (pv 4)))
   (jf (jS (jp Ja (jg ji (pv 6) jd) jx (nomark _))
    (jc (jo (i:=7) jL.nd rfl (.inl rfl) (ze (qt hr) (Qg (pv 0) rfl) (jg ji (pv 6) jd)))
    (jf (wS (jk T.j0A WZ hr (ja (jg jA (pv 3) (pv 7)) (ja (jg ji (pv 6) jd) (ja (jg ji (pv 6) jd) (ja (pv 5) jb))))) (xG (pv 3) (pv 7) set_list))))
    jv))))
  (jf (ju (pv 3)))))),?_⟩
 refine jw (σ':=[some _,some _,none,none,none,none,none,none]) rfl ?_
 try dsimp only[cxOf,Cx.nox]
 have sz:(10000:Nat)<sizeLine:=by decide
 have W:=N.s.w;have lE:=A.el;obtain⟨dx,ob⟩:=A.ob;exists⟨a,dx,_,rfl,ob,wk (by decide +kernel) (by decide +kernel) (by decide +kernel) (by decide +kernel) (by decide +kernel) (by decide +kernel),?_⟩;exists⟨a,z,d,f,F,hs,E,I,rfl,A,N,t1,t2,fun r M l2 as P H1 s1 S a4 er h1 C m h2 a3 gP pl bP hP=>?_⟩;have a1:=WT N lE A.eo t1 hP;exists ixTm (SqT.of er) rfl ?_;exists ixTm (SqT.of er) rfl ?_;have m1:∀{c u},H c=some u->c≠M:=fun h=>je h S
 have al:=gP.1;refine⟨l2,rfl,⟨_,SqL.of h2⟩,?_⟩;refine Jf (xs:=as.map V.ref) (fun i σ l=>IvE4 fun(Y Z o6 o7:Option V)=>IvA4 (σ=[some (.ref a),some (.int I),some (.ref r),some (.ref M),Y,Z,o6,o7]) (∀c u,c≠M->H1 c=some u->l c=some u) (l M=some (.lst (((P.take i).foldl (rzH d f) (strH d f F E I)).map V.int))) (((P.take i).foldl (rzH d f) (strH d f F E I)).length=d.length/\(∀h∈((P.take i).foldl (rzH d f) (strH d f F E I)),0<=h/\h<=10^18)))
  ⟨_,_,_,_,rfl,fun c u _ h=>h,h1,C,m⟩ ?_ ?_ ?_
 ·rintro i σ l _ ⟨Y,Z,o6,o7,rfl,G,D,_⟩;exact SqL.of (G _ _ a3.symm h2)
 ·rintro i v σ l hv ⟨Y,Z,o6,o7,rfl,G,D,C,m⟩;obtain⟨c,x,rfl,hx,O⟩:=gP.at_ref hv;obtain⟨x1,x0,x2⟩:=bP x (vm hx);obtain⟨p,hp⟩:∃p,f[x.1]?=some p:=⟨_,vz x1⟩
  obtain⟨fb,a0,hf⟩:=A.fo.get hp;have U:(P.take (i+1)).foldl (rzH d f) (strH d f F E I)=rzH d f ((P.take i).foldl (rzH d f) (strH d f F E I)) x:=by
   rw[take_snoc hx,foldl_append];rfl
  rw[U];generalize(P.take i).foldl (rzH d f) (strH d f F E I)=hts at D C m|-;have X:∀{c u},H c=some u->l c=some u:=fun h=>G _ _ (m1 h) (s1 _ _ h)
  have nc:c≠M:=fun z=>by rw[z,h1]at O;cases O
  have J:FormAt l fb p.2:=FormAt.put (fun b xs m=>X m) hf;refine JA (SqT.of (G _ _ nc O)) ?_;exists⟨a,_,dx,_,_,rfl,X ob,T.jN,T.J0,Kt,?_⟩;exists ixLm (SqL.of (X A.ho)) (J2 (i:=(x.1:Int)) (by lia) a0) ?_;walk_at"g";by_cases L:∃y v n,p.2 = .rise y v n
  ·obtain⟨y,v,n,e⟩:=L;rw[e]at J;have B:f[x.1]?=some (p.1,.rise y v n):=by rw[hp,<-e]
   obtain⟨k,R⟩:=W.r x.1 p.1 y v n B;have ek:=j4 W.ln R;have kl:k<d.length:=by have:=(vx.mp R).1;rw[nmsOf,vt]at this;exact this
   have o:l fb=some (.tup [.str "raise",.str y,.int v,.int n]):=J;have gx:F.getD x.1 0=n:=((N.s.ln x.1 (p.1,.rise y v n) B).2 n (show LenIs (.rise y v n) _ n from rfl)).symm;have eA:rzH d f hts x=hts.set k (Rp.ramp (hts.getD k 0) v n x.2):=by
    unfold rzH;rw[B];show hts.set (ixOf (nmsOf d) y) (Rp.ramp (hts.getD (ixOf (nmsOf d) y) 0) v n x.2)=_;rw[ek]
   refine ixTm (SqT.of o) rfl ?_;exists iteE1 ?_;exists⟨a,_,dx,_,_,rfl,X ob,T.jN,T.qG,X3,?_⟩;exists ixTm (SqT.of o) rfl ?_;have g:DGet l z.d (.str y) (some (.int (k:Nat))):=by
    have g:=DGet.k (k:=Sum.inr y) (X A.hd);rw[Z9 W.ln R]at g;exact g
   refine⟨z.d,_,rfl,g,?_⟩;walk_at"g";have hh:hts[k]?=some (hts.getD k 0):=by rw[vy,vz (by lia)];rfl
   refine ixLm (SqL.of D) (jG (j:=k) (by rw[vv,hh];rfl)) ?_;exists ixTm (SqT.of o) rfl ?_;exists ixTm (SqT.of o) rfl ?_;walk_at"g";have h0:=m _ (vm hh);obtain⟨v0,v1,n1,n2⟩:=N.r18 x.1 p.1 y v n B;refine⟨_,_,_,_,rfl,by unfold Pr.B4;lia,?_⟩;exists⟨M,_,_,k,rfl,rfl,D,by unfold ixN;simp[C,kl],?_⟩;rw[eA];refine⟨_,_,_,_,rfl,fun c u O h=>(jh O).trans (G _ _ O h),jq.trans (by rw[List.map_set]),by rw[length_set];exact C,fun h a2=>?_⟩;rcases List.mem_or_eq_of_mem_set a2 with z | z
   ·exact m h z
   ·rw[z];exact j3k h0 ⟨v0,v1⟩ n1 x0 (by lia)
  ·have eA:rzH d f hts x=hts:=by
    unfold rzH;rw[hp];obtain⟨pn,pf⟩:=p;cases pf with
    | rise y v n=>exact ud ⟨y,v,n,rfl⟩ L
    | _=>rfl
   obtain⟨k,xs,R,dk⟩:=Wr J fun y v n e=>L ⟨y,v,n,e⟩
   refine ixTm (SqT.of R) (at0) ?_;exists iteB0 dk ?_;walk_at"g";rw[eA];exact⟨_,_,_,_,rfl,G,D,C,m⟩
 rintro σ' l ⟨Y,Z,o6,o7,rfl,G,D,C,m⟩;rw[vt,al,v7,a1]at D C;walk_at"g";exact q M l (fun c u h=>G _ _ (m1 h) (s1 _ _ h)) S D C
theorem j1z(T:Txt K mg t)(y:FnOk P w K mg base CX0 6 t.Jd t.Jr ["self","book"] (sp_initS t.jH))(x:FnOk P w K mg base CX0 4 t.Jw t.Jy ["self","beat"] (sp_heightsS t.jH)):FnOk P w K mg base CX0 8 t.Yq t.Yr ["book","beat"] (sp_standG):=by
 specialize T.ZS.F.ok j23;obtain⟨b,L,M,e,f,k,m,g,j,R,rfl,B,N,S,U,q⟩:=h;refine⟨_,(jf (ju (YC (XA T.xY (y.mono (by decide)) hr (by rfl) T.Ww T.QU .nil pass0 (ja (pv 0) jb)) T.jN T.Zt (x.mono (by decide)) hr T.ZA .nil pass0 (ja (pv 1) jb)))),?_⟩;refine jw (σ':=[some _,some _]) rfl ?_
 try dsimp only[cxOf,Cx.nox]
 walk_at"g";intro o a i d W;have n:Same H (upd (upd H a (.own o)) o (.ins t.jH a [])):=fun c u h=>(jh (je h i)).trans ((jh (je h d)).trans h)
 refine⟨o,a,b,L,M,e,f,k,m,g,j,rfl,jq,B.same n,N,fun z E r G A=>⟨rfl,?_⟩⟩;obtain⟨C,J⟩:=A.ob;have p:Same H r:=fun c u h=>G _ _ (je h i) (n _ _ h)
 refine⟨o,C,_,rfl,J,wk (by decide +kernel) (by decide +kernel) (by decide +kernel) (by decide +kernel) (by decide +kernel) (by decide +kernel),?_⟩;exists⟨o,z,k,m,g,j,E,R,rfl,A,N,S,U,fun l v O F D I=>?_⟩;exact q l E v (p.trans O) (none_of p F) A.el A.eo D I
theorem wG(T:Txt K mg t):FnOk P w K mg base CX0 1 t.Qp t.Qw ["_law_script","_law_k"] (sp_poolC K):=by
 specialize T.zo.F.ok j7;obtain⟨a,e,k,rfl,m,C,G,J,q⟩:=h;refine⟨_,(jc (jo (i:=2) j7.nd rfl (.inl rfl) jd)
  (jc (Qh (jp WG (pv 1) (jz jR (by rfl) T.JT Jj (ja (pv 0) jb)) (nomark _))
   (jf (jo (i:=2) j7.nd rfl (.inl rfl) (jg jA (pv 0) (pv 1))))
   jv)
  (jc (jS (jp j1A (pv 2) (jt ko jd jd) (nomark _))
   (jf (ju (jK (ja (jt qy (pv 2) (jt ko jd jd)) jb))))
   jv)
  (jc (jo (i:=3) j7.nd rfl (.inl rfl) (jt Jh (jt Jh (jt qy (pv 2) jd) (jt JR (jt JR jd (pv 1)) (pv 1))) jd))
  (jc (jo (i:=4) j7.nd rfl (.inl rfl) jd)
  (jc (j2 PassesOwn.never rfl (JG (by rfl) T.JO (ja jd jb)) (jm (i:=5) j7.nd rfl (.inl rfl))
   (jc (jo (i:=3) j7.nd rfl (.inl rfl) (jt qy (jt Jh (jt JR (pv 3) jd) (jt JR jd (pv 5))) jd))
   (jc (jo (i:=3) j7.nd rfl (.inl rfl) (jt qy (jt JR (pv 3) (pv 3)) jd))
   (jf (jo (i:=4) j7.nd rfl (.inl rfl) (jt Jh (jt wN (pv 4) jd) (pv 3)))))))
  (jf (ju (jK (ja (pv 4) jb)))))))))),?_⟩
 refine jw (σ':=[some _,some _,none,none,none,none]) rfl ?_
 try dsimp only[cxOf,Cx.nox]
 have M:(200:Nat)<sizeLine:=by decide
 exists⟨fun σ' d=>∃c:Int,σ'=[some (.ref a),some (.int k),some (.int c),none,none,none]/\H=d,?_,?_⟩
 rotate_left
 ·exists⟨_,_,rfl,.inl ⟨_,m,rfl⟩,?_⟩;rw[vt];exists iteD (fun c=>?_) (fun c=>?_)
  ·walk_at"g";have F:e[k.toNat]?=some e[k.toNat]:=vz (by lia);refine⟨a,_,_,_,rfl,rfl,m,(show atI (e.map V.int) k=some (.int e[k.toNat])from ?_),?_⟩
   ·have:=jG (xs:=e.map V.int) (j:=k.toNat) (v:=.int e[k.toNat]) (by rw[vv,F];rfl);rw[Int.toNat_of_nonneg G]at this;exact this
   exact⟨_,rfl,rfl⟩
  ·walk_at"g";exact⟨_,rfl,rfl⟩
 rintro σ' d ⟨c,rfl,rfl⟩;exists iteD (fun _=>?_) (fun _=>?_)
 ·exists⟨uc,?_⟩;walk_at"f p hp H1 s1 t1";exact q _ _ _ s1 hp t1
 have L:=xA (A:=4827100) (B:=100) (show -4827100<=48271*k by lia) (by lia) (show -100<=k by lia) (by lia);walk_at"g";have I:0<=c%2147483647/\c%2147483647<2147483647:=by lia
 have f : -10^12<=c%2147483647+48271*k*k+11/\c%2147483647+48271*k*k+11<=10^12:=by lia
 generalize c%2147483647+48271*k*k+11=sd0 at f|-;refine⟨_,rfl,by lia,by lia,?_⟩;refine Zl (fun i n d=>IvE3 fun(l:Option V) (b g:Int)=>IvA3 (n=[some (.ref a),some (.int k),some (.int c),some (.int b),some (.int g),l]) (H=d) (-10^12<=b/\b<=10^12)) ⟨_,_,_,rfl,rfl,f.1,f.2⟩ ?_ ?_
 ·rintro i n d D ⟨l,b,g,rfl,rfl,o,r⟩;have D:i<7:=by lia
  walk_at"g";have u:=ve (b*69621+7919*(0+(i:Int))) (show(2147483629:Int)≠0 by decide);have x:=vf (b*69621+7919*(0+(i:Int))) (show(0:Int)<2147483629 by decide);generalize(b*69621+7919*(0+(i:Int)))%2147483629=s2 at u x|-;walk_at"g";have y:=ve (s2*s2) (show(2147483587:Int)≠0 by decide);have z:=vf (s2*s2) (show(0:Int)<2147483587 by decide);generalize s2*s2%2147483587=s3 at y z|-;walk_at"g";exact⟨_,_,_,rfl,rfl,by lia,by lia⟩
 rintro σ' d ⟨l,b,g,rfl,rfl,o,r⟩;exists⟨uc,?_⟩;walk_at"f p hp H1 s1 t1";exact q _ _ _ s1 hp t1
theorem wH(T:Txt K mg t):FnOk P w K mg base CX0 1 t.JH t.JI ["_law_pool_here","_law_many"] (sp_takeD):=by
 specialize T.jB.F.ok yg;obtain⟨p,x,m,rfl,a,d,e,q⟩:=h;refine⟨_,(jc (jo (i:=2) yg.nd rfl (.inl rfl) (jt qy (jg jA (pv 0) jd) (pv 1)))
  (jc (wS (jt QX (jg jA (pv 0) jd) (pv 1)) (xG (pv 0) jd set_list))
  (jf (ju (pv 2))))),?_⟩
 refine jw (σ':=[some _,some _,none]) rfl ?_
 try dsimp only[cxOf,Cx.nox]
 exists ixLm (SqL.of a) rfl ?_;exists ixLm (SqL.of a) rfl ?_;exists⟨p,_,_,0,rfl,rfl,a,rfl,?_⟩;walk_at"g";exact q _ _ _ (ve x (by lia)) (vf x d) (fun c u b h=>(jh b).trans h) jq
theorem wI(T:Txt K mg t):FnOk P w K mg base CX0 1 t.Qq t.Qx ["_law_place","_law_k"] (sp_wordC):=by
 specialize T.zq.F.ok wV;obtain⟨p,k,rfl,e,d,q⟩:=h;refine⟨_,(jf (ju (jt qx (jt qx (jt qx (qm j26 jx QB (qo (pv 0))) (jg xt jx (jt qy (pv 1) jd))) (qm j26 jx (qo (pv 0)) QB)) (jg jA (jK (ja jx (ja jx (ja jx jb)))) (jt QX (pv 1) jd))))),?_⟩;refine jw (σ':=[some _,some _]) rfl ?_
 try dsimp only[cxOf,Cx.nox]
 have i:(200:Nat)<sizeLine:=by decide
 have b:(Str.ofString "abcdefghijklnopqrstuvwxyz").cps.toList[((k:Nat):Int).toNat]?=some (abcC.cps.toList.getD k 97):=by
  have l:(Str.ofString "abcdefghijklnopqrstuvwxyz").cps.toList.length=25:=by decide +kernel
  show _=some ((Str.ofString "abcdefghijklnopqrstuvwxyz").cps.toList.getD k 97);rw[Int.toNat_natCast,vy,vz (by lia)];rfl
 have f:(Txt.slice (Str.ofString "mmmm") none (some ((p:Nat):Int))).length<=4:=vW Xa (by decide +kernel);have g:(Txt.slice (Str.ofString "mmm") (some ((p:Nat):Int)) none).length<=4:=vW Xa (by decide +kernel);have a:∀c,(⟨#[c]⟩:Str).length=1:=fun c=>rfl
 exists⟨(by decide +kernel),?_⟩;walk_at"g";rw[show((k:Nat):Int)%25=((k:Nat):Int) by lia];refine⟨_,_,_,rfl,rfl,(by decide +kernel),j0C (by lia) b,?_⟩;refine⟨_,_,rfl,rfl,by rw[a];lia,?_⟩;exists⟨(by decide +kernel),?_⟩;refine⟨_,_,rfl,rfl,by rw[Str.length_append,a];lia,?_⟩;exists⟨uA,?_⟩;walk_at"f 5 t";walk_at"g";rw[show((k:Nat):Int)/25=0 by lia];refine ixLm (SqL.of t5) rfl ?_;refine⟨_,_,rfl,rfl,by rw[Str.length_append,Str.length_append,a,show(Str.ofString "").length=0 by decide +kernel];lia,?_⟩;exact q H5 s5
theorem kj(T:Txt K mg t)(f:FnOk P w K mg base CX0 1 t.JH t.JI ["_law_pool_here","_law_many"] (sp_takeD)):FnOk P w K mg base CX0 2 t.JW t.JZ ["_law_pool_here","_law_most"] (sp_takeD):=by
 specialize T.j8.F.ok Za;obtain⟨p,x,m,rfl,l,n,o,q⟩:=h;refine⟨_,(jc (jo (i:=2) Za.nd rfl (.inl rfl) (jk T.jB f hr (ja (pv 0) (ja jd jb))))
  (jc (jS (jp Ja (pv 2) jd (nomark _))
   (jf (ju (jk T.jB f hr (ja (pv 0) (ja (jz (yD rfl) (by rfl) T.j0F W6 (ja (pv 1) (ja jd jb))) jb)))))
   jv)
  (jc (jS (jp Ja (pv 2) jd (nomark _))
   (jf (ju (jk T.jB f hr (ja (pv 0) (ja (jz (yD rfl) (by rfl) T.j0F W6 (ja (pv 1) (ja jd jb))) jb)))))
   jv)
  (jf (ju (jk T.jB f hr (ja (pv 0) (ja (pv 1) jb)))))))),?_⟩
 refine jw (σ':=[some _,some _,none]) rfl ?_
 try dsimp only[cxOf,Cx.nox]
 exists⟨p,x,3,rfl,l,by lia,by lia,fun w y u v z k g=>?_⟩;exists iteD (fun _=>?_) (fun _=>?_)
 ·exists⟨_,_,rfl,?_⟩;exists⟨p,y,_,rfl,g,by lia,by lia,fun r e a c j d b=>q r e a c (by lia) (k.trans d) b⟩
 exists iteD (fun _=>?_) (fun _=>?_)
 ·exists⟨_,_,rfl,?_⟩;exists⟨p,y,_,rfl,g,by lia,by lia,fun r e a c j d b=>q r e a c (by lia) (k.trans d) b⟩
 walk_at"g";exact⟨p,y,m,rfl,g,n,o,fun r e a c j d b=>q r e a c j (k.trans d) b⟩
theorem wF(T:Txt K mg t):FnOk P w K mg base CX0 1 t.Qo t.Qv ["_law_moves","_law_at"] (sp_pairC):=by
 specialize T.Yd.F.ok qr;obtain⟨m,a,M,d,rfl,l,D,W,n1,a3,a0,a1,q⟩:=h;refine⟨_,(jc (jo (i:=2) qr.nd rfl (.inl rfl) (jz jR (by rfl) T.JT Jj (ja (pv 0) jb)))
  (jc (j2 PassesOwn.never rfl (JG (by rfl) T.JO (ja (jt JR (pv 2) (pv 2)) jb)) (jm (i:=3) qr.nd rfl (.inl rfl))
   (jc (jo (i:=4) qr.nd rfl (.inl rfl) (jt qy (jt QX (jt Jh (pv 1) (pv 3)) (pv 2)) (pv 2)))
   (jc (jo (i:=5) qr.nd rfl (.inr rfl) (jt qy (jt Jh (pv 1) (pv 3)) (pv 2)))
   (jf (jS (PW.pt (ZL (jp (yS hr.units) (jg jA (pv 0) (pv 4)) (jK jb) (nomark _)) (ZL (jp (yS hr.units) (jg jA (pv 0) (pv 5)) (jK jb) (nomark _)) (Zp (jp (km hr.units) (jU (ow:=["_law_limb"]) (ci:=[0,5]) rfl (CompScope.of (defScope QD) ["_law_moves","_law_at","_law_many","_law_k","_law_one","_law_other"] rfl rfl (by decide +kernel)) (jY (by decide)) (jF (jg jA (pv 0) (pv 4))) (fun _ _ _ _ _=>⟨(jm (i:=0) (jJ ["_law_moves","_law_at","_law_many","_law_k","_law_one","_law_other"] rfl (by decide +kernel)) rfl (.inl rfl)),(ZK (jp (zd (K:=K) rfl) (pv 0) (jg (Js (K:=K) rfl) (pv 1) (pv 2)) (by with_unfolding_all rfl))),(pv 0)⟩)) (jK jb) (nomark _))))))
    (jf (ju (jD (ja (pv 4) (ja (pv 5) jb)))))
    jv)))))
  (jf (ju wQ)))),?_⟩
 refine jw (σ':=[some _,some _,none,none,none,none]) rfl ?_
 try dsimp only[cxOf,Cx.nox]
 have sz:(200:Nat)<sizeLine:=by decide
 have Y:=D.1;have nn:=xA (A:=60) (B:=60) (show -60<=(a.length:Int) by lia) (by lia) (show -60<=(a.length:Int) by lia) (by lia);have v:∀{u:Nat},u<M.length->M[u]?=some (M.getD u []):=fun {u} hu=>by rw[vy,vz hu];rfl
 exists⟨_,_,rfl,.inl ⟨_,SqL.of l,rfl⟩,?_⟩;rw[vt];exists⟨_,rfl,by lia,by lia,?_⟩;refine Zl (fun i X f=>IvE3 fun(I J L:Option V)=>X=[some (.ref m),some (.int d),some (.int (a.length:Nat)),I,J,L]/\Same H f) ⟨_,_,_,rfl,Same.refl _⟩ ?_ ?_
 ·rintro i X f hi ⟨I,J,L,rfl,z⟩;have Z:(i:Int)<=3600:=by lia
  walk_at"g";have u0:=ve ((d+(0+(i:Int)))/(a.length:Nat)) (show((a.length:Nat):Int)≠0 by lia);have u1:=vf ((d+(0+(i:Int)))/(a.length:Nat)) (show(0:Int)<((a.length:Nat):Int) by lia);have w0:=ve (d+(0+(i:Int))) (show((a.length:Nat):Int)≠0 by lia);have w1:=vf (d+(0+(i:Int))) (show(0:Int)<((a.length:Nat):Int) by lia);generalize(d+(0+(i:Int)))/(a.length:Nat)%(a.length:Nat)=uu at u0 u1|-;generalize(d+(0+(i:Int)))%(a.length:Nat)=ww at w0 w1|-;obtain⟨u,rfl⟩:∃u:Nat,uu=(u:Int):=⟨uu.toNat,by lia⟩
  obtain⟨e,rfl⟩:∃e:Nat,ww=(e:Int):=⟨ww.toNat,by lia⟩
  have N:u<M.length:=by lia
  have O:e<M.length:=by lia
  obtain⟨ua,n,j⟩:=D.get (v N);obtain⟨wa,o,p⟩:=D.get (v O);have k8:=W _ (vm (v N));have a2:=W _ (vm (v O));refine ixLm (SqL.of (z _ _ l)) (J2 (i:=(u:Int)) (by lia) n) ?_;exists⟨va _,?_⟩;walk_at"f 3 t";have g:=z.trans s3;refine⟨_,_,j0Q (g _ _ j),j2B t3,shp _,shp0,?_⟩;rw[j0T];exists iteN (fun R=>?_) (fun R=>?_)
  ·exists ixLm (SqL.of (g _ _ l)) (J2 (i:=(e:Int)) (by lia) o) ?_;exists⟨va _,?_⟩;walk_at"f 4 t";have b:=g.trans s4;refine⟨_,_,j0Q (b _ _ p),j2B t4,shp _,shp0,?_⟩;rw[j0T];exists iteN (fun S=>?_) (fun S=>?_)
   ·exists ixLm (SqL.of (b _ _ l)) (J2 (i:=(u:Int)) (by lia) n) ?_;refine⟨ua,rfl,⟨_,SqL.of (b _ _ j)⟩,?_⟩;refine j3 (xs:=(M.getD u []).map V.int) (fun i C f=>C=(((M.getD u []).take i).filter fun k=>decide (k∈M.getD e [])).map V.int/\H4=f) ⟨rfl,rfl⟩ ?_ ?_ ?_
    ·rintro i C f _ ⟨rfl,rfl⟩;exact SqL.of (b _ _ j)
    ·rintro i x C f U ⟨rfl,rfl⟩;rw[vv]at U;obtain⟨k,y,rfl⟩:=vg.mp U;have ik:=(vx.mp y).1;refine jV (σ':=[none,some _,some _]) rfl ?_;exists ixLm (SqL.of (b _ _ l)) (J2 (i:=(e:Int)) (by lia) o) ?_;refine⟨wa,_,rfl,.inl (SqL.of (b _ _ p)),rfl,flats _,?_⟩;rw[inI];walk_at"g";rw[take_snoc y,filter_append];have lf:(((M.getD u []).take i).filter fun k=>decide (k∈M.getD e [])).length<=8:=vW (length_filter_le _ _) (by rw[vi];lia);refine iteD (fun c=>?_) (fun c=>?_)
     ·exists⟨by rw[vt];lia,?_,rfl⟩;rw[vj,uz,vd (vG c),filter_nil];rfl
     ·refine⟨?_,rfl⟩;rw[uz,vc (by rw[vH c];exact vF),filter_nil,append_nil]
    rintro C f ⟨rfl,rfl⟩;rw[show((M.getD u []).map V.int).length=(M.getD u []).length from vt _,v7];have lf:((M.getD u []).filter fun k=>decide (k∈M.getD e [])).length<=8:=vW (length_filter_le _ _) k8;refine⟨by rw[vt];lia,?_⟩;walk_at"f 5 t";exists⟨va _,?_⟩;walk_at"f 6 t";have r:=b.trans (s5.trans s6);refine⟨_,_,j0Q (s6 _ _ t5),j2B t6,shp _,shp0,?_⟩;rw[j0T];exists iteD (fun c=>?_) (fun c=>?_)
    ·have G:∀k∈M.getD u [],¬k∈M.getD e []:=fun k y F=>by
      have:k∈(M.getD u []).filter fun k=>decide (k∈M.getD e []):=vP.mpr ⟨y,vG F⟩
      rw[c]at this;exact nomatch this
     exists⟨ub,?_⟩;walk_at"f 7 t";exact q _ H7 (r.trans s7) (.inr ⟨p7,u,e,rfl,t7,N,O,R,S,G⟩)
    ·walk_at"g";exact⟨_,_,_,rfl,r⟩
   ·walk_at"g";exact⟨_,_,_,rfl,b⟩
  ·walk_at"g";exact⟨_,_,_,rfl,g⟩
 rintro σ' f ⟨I,J,L,rfl,z⟩;walk_at"g";exact q _ f z (.inl rfl)
theorem kh(T:Txt K mg t)(jy:FnOk P w K mg base CX0 1 t.JH t.JI ["_law_pool_here","_law_many"] (sp_takeD))(jE:FnOk P w K mg base CX0 2 t.JW t.JZ ["_law_pool_here","_law_most"] (sp_takeD))(zu:FnOk P w K mg base CX0 1 t.Qo t.Qv ["_law_moves","_law_at"] (sp_pairC)):FnOk P w K mg base CX0 3 t.QK t.QM ["_law_pool_here","_law_way","_law_names","_law_moves","_law_longs","_law_most"] (sp_namingC):=by
 specialize T.Zw.F.ok JL;obtain⟨p,nl,m,g,x,a9,o,a,n,a6,Mv,gs,rfl,ep,C,m1,m2,q⟩:=h;refine⟨_,(jc (jS (jp Ja (pv 1) jd (nomark _))
   (jf (ju (jD (ja jx (ja (Jt JX (by rfl) T.Zg QW (ja (jU (ow:=["_law_k"]) (ci:=[2,0]) rfl (CompScope.of (defScope J1) ["_law_pool_here","_law_way","_law_names","_law_moves","_law_longs","_law_most","_law_pair_here","_law_at","_law_times"] rfl rfl (by decide +kernel)) (jY (by decide)) (JG (by rfl) T.JO (ja (jt Jh jd (jk T.jB jy hr (ja (pv 0) (ja jd jb)))) jb)) (fun _ _ _ _ _=>⟨(jm (i:=0) (jJ ["_law_pool_here","_law_way","_law_names","_law_moves","_law_longs","_law_most","_law_pair_here","_law_at","_law_times"] rfl (by decide +kernel)) rfl (.inl rfl)),Ju,(jg (Js (K:=K) rfl) (pv 1) (jk T.jB jy hr (ja (pv 2) (ja (jz (Kk (K:=K) rfl) (by rfl) T.JT Jj (ja (pv 1) jb)) jb))))⟩)) jb)) jb)))))
   jv)
  (jc (jS (jp Ja (pv 1) jd (nomark _))
   (jc (jo (i:=6) JL.nd rfl (.inl rfl) (jk T.Yd zu hr (ja (pv 3) (ja (jk T.jB jy hr (ja (pv 0) (ja (jt JR (jz jR (by rfl) T.JT Jj (ja (pv 2) jb)) (jz jR (by rfl) T.JT Jj (ja (pv 2) jb))) jb))) jb))))
   (jc (jS (jp j4o (pv 6) wQ (nomark _))
    (jf (ju (jD (ja jx (ja (jt Jh jd (jk T.j8 jE hr (ja (pv 0) (ja (pv 5) jb)))) jb)))))
    jv)
   (jf (ju (jD (ja jx (ja (Jt JX (by rfl) T.Zg QW (ja (jU (ow:=["_law_one"]) (ci:=[2]) rfl (CompScope.of (defScope J1) ["_law_pool_here","_law_way","_law_names","_law_moves","_law_longs","_law_most","_law_pair_here","_law_at","_law_times"] rfl rfl (by decide +kernel)) (jY (by decide)) (yT (pv 6)) (fun _ _ _ _ _=>⟨(jm (i:=0) (jJ ["_law_pool_here","_law_way","_law_names","_law_moves","_law_longs","_law_most","_law_pair_here","_law_at","_law_times"] rfl (by decide +kernel)) rfl (.inl rfl)),Ju,(jg (Js (K:=K) rfl) (pv 1) (pv 0))⟩)) jb)) jb)))))))
   jv)
  (jc (jo (i:=7) JL.nd rfl (.inl rfl) (jk T.jB jy hr (ja (pv 0) (ja (jz jR (by rfl) T.JT Jj (ja (pv 2) jb)) jb))))
  (jc (jo (i:=8) JL.nd rfl (.inl rfl) (jt Jh jd (jk T.j8 jE hr (ja (pv 0) (ja (pv 5) jb)))))
  (jc (Qh (jp KF (jt JR (pv 8) (jg jA (pv 4) (pv 7))) (jt ko jd jd) (nomark _))
   (jf (jo (i:=8) JL.nd rfl (.inl rfl) (jt Jh jd (jt qy (pv 8) jd))))
   jv)
  (jf (ju (jD (ja jx (ja (pv 8) (ja (jg jA (pv 2) (pv 7)) jb))))))))))),?_⟩
 refine jw (σ':=[some _,some _,some _,some _,some _,some _,none,none,none]) rfl ?_
 try dsimp only[cxOf,Cx.nox]
 have sz:(200:Nat)<sizeLine:=by decide
 have n1:=C.n1;have aa:=C.n60;have nn:=C.nn;have F:((a.take n).map V.str).length=n:=by rw[vt,vi];lia
 exists iteD (fun c5=>?_) (fun c5=>?_)
 ·exists⟨p,x,4,rfl,ep,by lia,by lia,fun r R H1 r0 r1 L f=>?_⟩;have C1:=C.ex L;exists⟨_,rfl,by lia,by lia,?_⟩;refine qw (fun i G d=>IvE2 fun(J:List Nat) (y:Int)=>IvA4 (G=J.map (fun j=>V.str (a.getD j ⟨#[]⟩))) (J.length=i) (∀j∈J,j<n) (Ex p H1 d/\d p=some (.lst [.int y]))) ⟨[],R,rfl,rfl,(fun j h=>nomatch h),.refl _,f⟩ ?_ ?_
  ·rintro i G d hi ⟨J,y,rfl,M,X,xx,a3⟩;have I:=C1.ex xx;refine jV (σ':=[none,some _,some _]) rfl ?_;exists iteT ?_;exists⟨_,_,rfl,.inl ⟨_,SqL.of I.en,rfl⟩,?_⟩;rw[F];exists⟨p,y,_,rfl,a3,by lia,by lia,fun r' y3 H3 ad ae O l=>?_⟩;obtain⟨j,hj⟩:∃j:Nat,r'=(j:Int):=⟨r'.toNat,by lia⟩
   subst hj;have N:j<n:=by lia
   refine ixLm (SqL.of (I.ex O).en) (C.at' N) ?_;refine⟨by rw[vt];lia,J++[j],y3,by rw[vj];rfl,by rw[vn,M];rfl,fun j' a4=>?_,xx.trans O,l⟩;rcases vh.mp a4 with z | z
   ·exact X j' z
   ·rw[vo.mp z];exact N
  rintro G H3 ⟨J,y3,rfl,M,X,O,l⟩;refine⟨by rw[vt];lia,?_⟩;walk_at"f b hb H4 s4 t4";exists⟨b,_,rfl,.inl ⟨SqL.of t4,?_⟩⟩;walk_at"f b5 hb5 H5 s5 t5";exists⟨ub,?_⟩;walk_at"f b6 hb6 H6 s6 t6";have a2:=s6 _ _ (s5 _ _ (s4 _ _ l));refine q b6 (.row J) y3 H6 (L.trans (O.trans (.of (s4.trans (s5.trans s6))))) a2 ⟨b5,t6,?_⟩ (fun Ls=>⟨fun z=>?_,by lia,X⟩) (fun k j e=>by cases e)
  ·rw[s6 _ _ t5,v8];rfl
  ·rw[z]at M;have:(0:Nat)=_:=M;lia
 exists iteD (fun c6=>?_) (fun c6=>?_)
 ·walk_at"g";have ab:0<(n:Int)*(n:Int):=Int.mul_pos (by lia) (by lia);have ac:=xA (A:=60) (B:=60) (show -60<=(n:Int) by lia) (by lia) (show -60<=(n:Int) by lia) (by lia);refine⟨_,_,rfl,.inl ⟨_,SqL.of C.en,rfl⟩,?_⟩;rw[F];exists⟨_,_,rfl,.inl ⟨_,SqL.of C.en,rfl⟩,?_⟩;rw[F];exists⟨p,x,_,rfl,ep,by lia,by lia,fun r R H1 r0 r1 L f=>?_⟩;have C1:=C.ex L;exists⟨m,a6,Mv,r,rfl,C1.em,C1.am,C.m8,by rw[C.ml];lia,by rw[C.ml];lia,r0,by lia,fun v H2 s2 pr=>?_⟩;have x2:=L.trans (.of s2);have D:=s2 _ _ f;have I:=C.ex x2;exists⟨rfl,?_⟩;refine⟨_,rfl,?_⟩;rcases pr with rfl | ⟨pa,i,j,rfl,S,M,X,d1,d2,a0⟩
  ·rw[vG (show V.non=V.non from rfl)];refine iteT ?_;exists⟨p,R,o,rfl,D,by lia,by lia,fun r2 y2 H3 a7 a8 O l=>?_⟩;exists⟨ub,?_⟩;walk_at"f b6 hb6 H6 s6 t6";exact q b6 (.hold (1+r2)) y2 H6 (x2.trans (O.trans (.of s6))) (s6 _ _ l) t6 (fun Ls=>⟨by lia,by lia⟩) (fun k j e=>by cases e)
  ·rw[vH (show¬V.ref pa=V.non from fun z=>by cases z)];refine iteF ?_;exists⟨pa,rfl,⟨_,SqT.of S⟩,?_⟩;have W:i<n:=by rw[<-C.ml];exact M
   have Y:j<n:=by rw[<-C.ml];exact X
   refine Qb (xs:=[V.int (i:Nat),V.int (j:Nat)]) (fun t G d=>G=(([i,j]:List Nat).take t).map (fun j=>V.str (a.getD j ⟨#[]⟩))/\H2=d) ⟨rfl,rfl⟩ ?_ ?_ ?_
   ·rintro t G d _ ⟨rfl,rfl⟩;exact SqT.of S
   ·rintro t v G d U ⟨rfl,rfl⟩;obtain⟨k,u,rfl,kn⟩:∃k:Nat,([i,j]:List Nat)[t]?=some k/\v = .int (k:Nat)/\k<n:=by
     match t,U with
     | 0,U=>exact⟨i,rfl,(vL U).symm,W⟩
     | 1,U=>exact⟨j,rfl,(vL U).symm,Y⟩
    have t2:t<2:=(vx.mp u).1;refine jV (σ':=[none,some _]) rfl ?_;exists iteT ?_;exists ixLm (SqL.of I.en) (C.at' kn) ?_;refine⟨by rw[vt,vi];exact vD (Nat.min_le_left _ _) (by lia),?_,rfl⟩;rw[take_snoc u,vj];rfl
   rintro G d ⟨rfl,rfl⟩;refine⟨ub,?_⟩;walk_at"f b4 hb4 H4 s4 t4";exists⟨b4,_,rfl,.inl ⟨SqL.of t4,?_⟩⟩;walk_at"f b5 hb5 H5 s5 t5";exists⟨ub,?_⟩;walk_at"f b6 hb6 H6 s6 t6";refine q b6 (.side [i,j]) R H6 (x2.trans (.of (s4.trans (s5.trans s6)))) (s6 _ _ (s5 _ _ (s4 _ _ D))) ⟨b5,t6,s6 _ _ t5⟩ (fun Ls=>⟨by show 2<=2;lia,by show 2<=8;lia,fun k u=>?_,fun k u=>?_,?_⟩) (fun k j e=>by cases e)
   ·rcases mem_cons.mp u with rfl | u
    ·exact W
    ·rw[vo.mp u];exact Y
   ·rcases mem_cons.mp u with rfl | u
    ·exact d1
    ·rw[vo.mp u];exact d2
   ·refine vV.mpr ⟨fun b hb=>?_,pairwise_singleton ..⟩;rw[vo.mp hb];exact a0
 exists⟨_,_,rfl,.inl ⟨_,SqL.of C.en,rfl⟩,?_⟩;rw[F];exists⟨p,x,_,rfl,ep,by lia,by lia,fun r R H1 r0 r1 L f=>?_⟩;obtain⟨j,hj⟩:∃j:Nat,r=(j:Int):=⟨r.toNat,by lia⟩
 subst hj;have N:j<n:=by lia
 have g0:=C.g0 j N;have a1:gs[j]?=some (gs.getD j 0):=by
  have:=C.gl;rw[vy,vz (by lia)];rfl
 exists⟨p,R,o,rfl,f,by lia,by lia,fun r2 y2 H2 a7 a8 x2 D=>?_⟩;have Z:=L.trans x2;have I:=C.ex Z;exists⟨fun σ' d=>IvE1 fun(k:Int)=>IvA4 (σ'=[some (.ref p),some (.int a9),some (.ref nl),some (.ref m),some (.ref g),some (.int o),none,some (.int (j:Nat)),some (.int k)]) (H2=d) (1<=k) (k<=10^18/\(k*gs.getD j 0<=10^40\/k<=3)),?_,?_⟩
 rotate_left
 ·exists ixLm (SqL.of I.eg) (jG (j:=j) (by rw[vv,a1];rfl)) ?_;exists iteD (fun c=>?_) (fun c=>?_)
  ·walk_at"g";exact⟨_,rfl,rfl,by lia,by lia,.inr (by lia)⟩
  ·walk_at"g";exact⟨_,rfl,rfl,by lia,by lia,.inl (by lia)⟩
 rintro σ' d ⟨k,rfl,rfl,k1,a5,kb⟩;exists ixLm (SqL.of I.en) (C.at' N) ?_;exists⟨uA,?_⟩;walk_at"f b6 hb6 H6 s6 t6";exact q b6 (.again k j) y2 H6 (Z.trans (.of s6)) (s6 _ _ D) t6 (fun Ls=>⟨k1,a5,N⟩) (fun k' j' e=>by cases e;exact kb)
theorem wE(T:Txt K mg t)(jy:FnOk P w K mg base CX0 1 t.JH t.JI ["_law_pool_here","_law_many"] (sp_takeD))(jE:FnOk P w K mg base CX0 2 t.JW t.JZ ["_law_pool_here","_law_most"] (sp_takeD))(QI:FnOk P w K mg base CX0 3 t.QK t.QM ["_law_pool_here","_law_way","_law_names","_law_moves","_law_longs","_law_most"] (sp_namingC)):FnOk P w K mg base CX0 4 t.zC t.zH ["_law_pool_here","_law_book_here","_law_moves","_law_longs","_law_most"] (sp_formC):=by
 specialize T.Yb.F.ok JD;obtain⟨p,b,pl,pp,m,g,x,u,a9,J,aa,ls,l,F,Mv,gs,rfl,ep,C,nb,a0,a1,Z,Y,X,m1,m2,hW,q⟩:=h;refine⟨_,(jc (jo (i:=5) JD.nd rfl (.inl rfl) (jk T.jB jy hr (ja (pv 0) (ja jd jb))))
  (jc (YE (i:=6) (ow:=["_law_part"]) (ci:=[]) rfl (CompScope.of (defScope QC) ["_law_pool_here","_law_book_here","_law_moves","_law_longs","_law_most","_law_way","_law_names","_law_limb","_law_goal","_law_some","_law_word_here"] rfl rfl (by decide +kernel)) (jY (by decide)) JD.nd rfl (.inl rfl) (jF (jg ji (pv 1) jd)) (fun _ _ _ _ _=>⟨(jm (i:=0) (jJ ["_law_pool_here","_law_book_here","_law_moves","_law_longs","_law_most","_law_way","_law_names","_law_limb","_law_goal","_law_some","_law_word_here"] rfl (by decide +kernel)) rfl (.inl rfl)),Ju,(jg (Jo (K:=K) rfl) (pv 0) jd)⟩))
  (jc (jS (PW.pt (ZL (jp KF (pv 5) jd (nomark _)) (Zp (jp (yS hr.units) (pv 6) (jK jb) (nomark _)))))
   (jf (ju (jk T.Zw QI hr (ja (pv 0) (ja (pv 5) (ja (pv 6) (ja (pv 2) (ja (pv 3) (ja (pv 4) jb)))))))))
   jv)
  (jc (jS (jp WG (pv 5) jd (nomark _))
   (jc (jo (i:=7) JD.nd rfl (.inl rfl) (jg ji (jg jA (jg ji (pv 1) jd) (jk T.jB jy hr (ja (pv 0) (ja (jz jR (by rfl) T.JT Jj (ja (jg ji (pv 1) jd) jb)) jb)))) jd))
   (jc (jo (i:=8) JD.nd rfl (.inl rfl) (jk T.j8 jE hr (ja (pv 0) (ja (jt Jh (pv 4) jd) jb))))
   (jf (ju (jD (ja jx (ja (pv 7) (ja (pv 8) (ja (jt Jh jd (jk T.j8 jE hr (ja (pv 0) (ja (pv 4) jb)))) jb)))))))))
   jv)
  (jc (jS (jp Ja (pv 5) jd (nomark _))
   (jc (jo (i:=9) JD.nd rfl (.inl rfl) (jt yQ (jK (ja jx (ja jx (ja jx jb)))) (qm yo (pv 6) QB (qo jd))))
   (jc (jo (i:=10) JD.nd rfl (.inl rfl) (jg jA (pv 9) (jk T.jB jy hr (ja (pv 0) (ja (jz jR (by rfl) T.JT Jj (ja (pv 9) jb)) jb)))))
   (jf (ju (jD (ja jx (ja (pv 10) (ja (jt Jh jd (jk T.j8 jE hr (ja (pv 0) (ja (pv 4) jb)))) jb))))))))
   jv)
  (jf (ju (jD (ja jx (ja (jt Jh jd (jk T.j8 jE hr (ja (pv 0) (ja (pv 4) jb)))) jb)))))))))),?_⟩
 refine jw (σ':=[some _,some _,some _,some _,some _,none,none,none,none,none,none]) rfl ?_
 try dsimp only[cxOf,Cx.nox]
 have sz:(200:Nat)<sizeLine:=by decide
 have B:=C.bk;have ae:J.length=F.length:=B.pa.1.trans jM;have a8:=B.la.1;have ab:=C.n60;have nn:=C.nn;have l1:=C.l1;have l8:=C.l8;exists⟨p,x,8,rfl,ep,by lia,by lia,fun ak y1 H1 w0 w1 x1 S=>?_⟩;have nt:∀{c:Addr} {xs:List V},H c=some (.tup xs)->c≠p:=fun h=>Qf h ep (fun z=>by cases z)
 exists ixTm (SqT.of (x1 _ _ nb B.t)) rfl ?_;exists⟨pp,rfl,⟨_,SqL.of (x1 _ _ a1 B.p)⟩,?_⟩;refine j3 (xs:=J.map V.ref) (fun i ys O=>ys=(l.take i).map V.str/\H1=O) ⟨rfl,rfl⟩ ?_ ?_ ?_
 ·rintro i ys O _ ⟨rfl,rfl⟩;exact SqL.of (x1 _ _ a1 B.p)
 ·rintro i v ys O hv ⟨rfl,rfl⟩;obtain⟨c,pt,rfl,a6,fb,W,hf⟩:=B.pa.at_ref hv;obtain⟨f,a4,rfl⟩:=Jl a6;have il:=(vx.mp a4).1;refine jV (σ':=[none]) rfl ?_;exists iteT ?_;exists ixTm (SqT.of (x1 _ _ (nt W) W)) rfl ?_;refine⟨by rw[vt,vi];lia,?_,rfl⟩;rw[take_snoc (show l[i]?=some (l.getD i ⟨#[]⟩) by rw[vy,vz (by lia)];rfl),vj];rfl
 rintro ys O ⟨rfl,rfl⟩;rw[show(J.map V.ref).length=F.length by rw[vt];exact ae];refine⟨by rw[vt,vi];lia,?_⟩;walk_at"f nl hnl H2 s2 t2";have M:=x1.trans (.of s2);have n:=s2 _ _ S;have ad:nl≠p:=(je S hnl).symm;have U:∀w∈l.take F.length,Ws.isW w=true:=fun w hw=>hW w (uw hw)
 exists iteD (fun c4=>?_) (fun c4=>?_)
 ·exists⟨va _,?_⟩;walk_at"f e3 he3 H3 s3 t3";have N:=M.trans (.of s3);have D:=s3 _ _ n;refine⟨_,_,.lst (s3 _ _ t2) (Yt _),j2B t3,j57 U,shp0,?_⟩;rw[j51];exists iteN (fun d=>?_) (fun d=>?_)
  ·have n1:1<=F.length:=by
    rcases Nat.eq_zero_or_pos F.length with z | z
    ·rw[z]at d;exact ud rfl d
    ·exact z
   walk_at"g";exact⟨p,nl,m,g,y1,ak,u,l,F.length,aa,Mv,gs,rfl,D,⟨s3 _ _ t2,N _ _ Z C.em,All2.monoM C.am fun a ha ks h=>N _ _ (X a ha) h,N _ _ Y C.eg,nn,C.ml,C.gl,n1,ab,C.m8,C.g0,ad,Z,Y,X⟩,m1,m2,fun a f y O x' e' hf af ag=>q a f y O (N.trans x') e' hf (af _) ag⟩
  ·exists iteD (fun c=>?_) (fun _=>?_)
   ·exact ud c (by lia)
   exists iteD (fun c=>?_) (fun _=>?_)
   ·exact ud c (by lia)
   exists⟨p,y1,u,rfl,D,by lia,by lia,fun r2 y2 H4 ah ai x4 o=>?_⟩;exists⟨ub,?_⟩;walk_at"f b6 hb6 H6 s6 t6";exact q b6 (.hold (1+r2)) y2 H6 (N.trans (x4.trans (.of s6))) (s6 _ _ o) t6 ⟨by lia,by lia⟩ (fun k j e=>by cases e)
 refine iteF ?_;exists iteD (fun c3=>?_) (fun c3=>?_)
 ·exists ixTm (SqT.of (M _ _ nb B.t)) rfl ?_;exists ixTm (SqT.of (M _ _ nb B.t)) rfl ?_;refine⟨_,_,rfl,.inl ⟨_,SqL.of (M _ _ a0 B.l),rfl⟩,?_⟩;rw[show(a9.map V.ref).length=ls.length by rw[vt];exact a8];exists⟨p,y1,_,rfl,n,by lia,by lia,fun r y3 H3 r0 r1 N D=>?_⟩;obtain⟨j,hj⟩:∃j:Nat,r=(j:Int):=⟨r.toNat,by lia⟩
  subst hj;have L:=M.trans N;obtain⟨lk,a5,R⟩:=B.la.get (vz (show j<ls.length by lia));refine ixLm (SqL.of (L _ _ a0 B.l)) (jG (j:=j) (by rw[vv,a5];rfl)) ?_;exists ixTm (SqT.of (L _ _ (nt R) R)) rfl ?_;exists⟨p,y3,_,rfl,D,by lia,by lia,fun r4 y4 H4 aj al x4 o=>?_⟩;exists⟨p,y4,_,rfl,o,by lia,by lia,fun r5 y5 H5 am an x5 G=>?_⟩;exists⟨uB,?_⟩;walk_at"f b6 hb6 H6 s6 t6";refine q b6 (.rise ls[j].1 r4 (1+r5)) y5 H6 (L.trans (x4.trans (x5.trans (.of s6)))) (s6 _ _ G) t6 ⟨⟨j,?_⟩,aj,by lia,by lia,by lia⟩ (fun k j e=>by cases e);unfold nmsOf;rw[vv,vz (show j<ls.length by lia)];rfl
 exists iteD (fun c=>?_) (fun c=>?_)
 ·exists⟨uA,?_⟩;walk_at"f b3 hb3 H3 s3 t3";exists⟨nl,_,rfl,SqL.of (s3 _ _ t2),?_⟩;walk_at"f b4 hb4 H4 s4 t4";have cl:=Qu ((l.take F.length).map V.str) none (some 2);rw[vt,vi]at cl;refine⟨b3,b4,_,_,rfl,rfl,s4 _ _ t3,t4,by show 3+_<=sizeLine;lia,?_⟩;walk_at"f b5 hb5 H5 s5 t5";have x5:=M.trans (.of (s3.trans (s4.trans s5)));have G:=s5 _ _ (s4 _ _ (s3 _ _ n));exists⟨_,_,rfl,.inl ⟨_,SqL.of t5,rfl⟩,?_⟩;exists⟨p,y1,_,rfl,G,by rw[vn];show 0<(((3+_:Nat)):Int);lia,by rw[vn];show(((3+_:Nat)):Int)<=_;lia,fun r y6 H6 r0 r1 x6 a2=>?_⟩;have ac:b5≠p:=(je (s4 _ _ (s3 _ _ n)) hb5).symm;have a7:∀v∈[V.str "bell",V.str "bells",V.str "gong"]++cutV ((l.take F.length).map V.str) none (some 2),∃w:Str,v = .str w/\Ws.isW w=true:=fun v hv=>by
   rcases vh.mp hv with z | z
   ·rcases mem_cons.mp z with rfl | z
    ·exact⟨_,rfl,by decide +kernel⟩
    ·rcases mem_cons.mp z with rfl | z
     ·exact⟨_,rfl,by decide +kernel⟩
     ·rw[vo.mp z];exact⟨_,rfl,by decide +kernel⟩
   ·obtain⟨w',I,rfl⟩:=vK.mp (j3Z z);exact⟨w',rfl,U w' I⟩
  obtain⟨w',I,ww⟩:=j2q a7 r0 r1;refine ixLm (SqL.of (x6 _ _ ac t5)) (I) ?_;exists⟨p,y6,_,rfl,a2,by lia,by lia,fun r7 y7 H7 ao ap x7 a3=>?_⟩;exists⟨uA,?_⟩;walk_at"f b8 hb8 H8 s8 t8";exact q b8 (.ring w' (1+r7)) y7 H8 (x5.trans (x6.trans (x7.trans (.of s8)))) (s8 _ _ a3) t8 ⟨by lia,by lia,ww⟩ (fun k j e=>by cases e)
 exists⟨p,y1,u,rfl,n,by lia,by lia,fun r2 y2 H4 ah ai x4 o=>?_⟩;exists⟨ub,?_⟩;walk_at"f b6 hb6 H6 s6 t6";exact q b6 (.hold (1+r2)) y2 H6 (M.trans (x4.trans (.of s6))) (s6 _ _ o) t6 ⟨by lia,by lia⟩ (fun k j e=>by cases e)
theorem WD(T:Txt K mg t):FnOk P w K mg base CX0 1 t.Q5 t.Q9 ["_law_book_here","_law_moves","_law_longs","_law_name","_law_form_here"] (sp_putC):=by
 specialize T.ZB.F.ok Jb;obtain⟨b,pl,pp,m,g,a,au,N,a6,J,names,l,Mv,gs,f,B,rfl,C,S,mo,hf,ab,ag,nl,aM,nd,B0,B1,gB,q⟩:=h;refine⟨_,(jc (YE (i:=5) (ow:=["_law_k"]) (ci:=[4,0]) rfl (CompScope.of (defScope JC) ["_law_book_here","_law_moves","_law_longs","_law_name","_law_form_here","_law_numbers","_law_limbs","_law_k","_law_long"] rfl rfl (by decide +kernel)) (jY (by decide)) Jb.nd rfl (.inl rfl) (JG (by rfl) T.JO (ja (jz jR (by rfl) T.JT Jj (ja (jg ji (pv 0) jd) jb)) jb)) (fun _ _ _ _ _=>⟨(jm (i:=0) (jJ ["_law_book_here","_law_moves","_law_longs","_law_name","_law_form_here","_law_numbers","_law_limbs","_law_k","_law_long"] rfl (by decide +kernel)) rfl (.inl rfl)),(ZK (PW.pt (ZL (jp (zd (K:=K) rfl) (jg (Jo (K:=K) rfl) (pv 1) jd) (jD (ja jx (ja jx jb))) (by with_unfolding_all rfl)) (Zp (jp (zd (K:=K) rfl) (jg (Jo (K:=K) rfl) (jg (Js (K:=K) rfl) (jg (Jo (K:=K) rfl) (pv 2) jd) (pv 0)) jd) (jg (Jo (K:=K) rfl) (pv 1) jd) (by with_unfolding_all rfl)))))),(pv 0)⟩))
  (jc (Qh (jp Ja (jg ji (pv 4) jd) jx (nomark _))
   (jf (YE (i:=5) (ow:=["_law_k"]) (ci:=[4,0]) rfl (CompScope.of (defScope JC) ["_law_book_here","_law_moves","_law_longs","_law_name","_law_form_here","_law_numbers","_law_limbs","_law_k","_law_long"] rfl rfl (by decide +kernel)) (jY (by decide)) Jb.nd rfl (.inl rfl) (JG (by rfl) T.JO (ja (jz jR (by rfl) T.JT Jj (ja (jg ji (pv 0) jd) jb)) jb)) (fun _ _ _ _ _=>⟨(jm (i:=0) (jJ ["_law_book_here","_law_moves","_law_longs","_law_name","_law_form_here","_law_numbers","_law_limbs","_law_k","_law_long"] rfl (by decide +kernel)) rfl (.inl rfl)),(ZK (jp Ja (jg (Jo (K:=K) rfl) (jg (Js (K:=K) rfl) (jg (Jo (K:=K) rfl) (pv 2) jd) (pv 0)) jd) (jg (Jo (K:=K) rfl) (pv 1) jd) (nomark _))),(pv 0)⟩)))
   jv)
  (jc (jo (i:=6) Jb.nd rfl (.inr rfl) (jU (ow:=["_law_k"]) (ci:=[4,0]) rfl (CompScope.of (defScope JC) ["_law_book_here","_law_moves","_law_longs","_law_name","_law_form_here","_law_numbers","_law_limbs","_law_k","_law_long"] rfl rfl (by decide +kernel)) (jY (by decide)) (JG (by rfl) T.JO (ja (jz jR (by rfl) T.JT Jj (ja (jg ji (pv 0) jd) jb)) jb)) (fun _ _ _ _ _=>⟨(jm (i:=0) (jJ ["_law_book_here","_law_moves","_law_longs","_law_name","_law_form_here","_law_numbers","_law_limbs","_law_k","_law_long"] rfl (by decide +kernel)) rfl (.inl rfl)),(ZK (PW.pt (ZL (jp Ja (jg (Jo (K:=K) rfl) (pv 1) jd) jx (nomark _)) (Zp (jp Ja (jg (Jo (K:=K) rfl) (jg (Js (K:=K) rfl) (jg (Jo (K:=K) rfl) (pv 2) jd) (pv 0)) jd) (jg (Jo (K:=K) rfl) (pv 1) jd) (nomark _)))))),(pv 0)⟩)))
  (jc (j2 PassesOwn.never rfl (jF (pv 5)) (jm (i:=7) Jb.nd rfl (.inl rfl))
   (jf (jo (i:=6) Jb.nd rfl (.inr rfl) (jt yQ (pv 6) (jU (ow:=["_law_limb"]) (ci:=[6]) rfl (CompScope.of (defScope JC) ["_law_book_here","_law_moves","_law_longs","_law_name","_law_form_here","_law_numbers","_law_limbs","_law_k","_law_long"] rfl rfl (by decide +kernel)) (jY (by decide)) (jF (jg jA (pv 1) (pv 7))) (fun _ _ _ _ _=>⟨(jm (i:=0) (jJ ["_law_book_here","_law_moves","_law_longs","_law_name","_law_form_here","_law_numbers","_law_limbs","_law_k","_law_long"] rfl (by decide +kernel)) rfl (.inl rfl)),(ZK (jp (kU (K:=K) rfl) (pv 0) (pv 1) (by with_unfolding_all rfl))),(pv 0)⟩))))))
  (jc (jo (i:=8) Jb.nd rfl (.inl rfl) (jg ji (pv 4) (zR Qi jd)))
  (jc (Qh (jp Ja (jg ji (pv 4) jd) jx (nomark _))
   (jf (jo (i:=8) Jb.nd rfl (.inl rfl) (jz (Km rfl) (by rfl) T.j3E j0I (ja (jU (ow:=["_law_k"]) (ci:=[2,4,0]) rfl (CompScope.of (defScope JC) ["_law_book_here","_law_moves","_law_longs","_law_name","_law_form_here","_law_numbers","_law_limbs","_law_k","_law_long"] rfl rfl (by decide +kernel)) (jY (by decide)) (jF (pv 5)) (fun _ _ _ _ _=>⟨(jm (i:=0) (jJ ["_law_book_here","_law_moves","_law_longs","_law_name","_law_form_here","_law_numbers","_law_limbs","_law_k","_law_long"] rfl (by decide +kernel)) rfl (.inr rfl)),Ju,(jt JR (jg (Js (K:=K) rfl) (pv 1) (pv 0)) (jz (Kk (K:=K) rfl) (by rfl) T.JT Jj (ja (jU (ow:=["_law_one"]) (ci:=[0,3]) rfl (CompScope.ofB ["_law_k","_law_longs","_law_form_here","_law_book_here"] rfl (by decide +kernel)) (jY (by decide)) (j3g (K:=K) rfl (jg (Jo (K:=K) rfl) (pv 2) jd)) (fun _ _ _ _ _=>⟨(jm (i:=0) (jJ ["_law_k","_law_longs","_law_form_here","_law_book_here"] rfl (by decide +kernel)) rfl (.inl rfl)),(ZK (jp Ja (pv 0) (jg (Jo (K:=K) rfl) (jg (Js (K:=K) rfl) (jg (Jo (K:=K) rfl) (pv 2) jd) (pv 1)) jd) (nomark _))),(pv 0)⟩)) jb)))⟩)) jb))))
   jv)
  (jc (Qh (jp Ja (jg ji (pv 4) jd) jx (nomark _))
   (jf (jo (i:=8) Jb.nd rfl (.inl rfl) (jz (Kl rfl) (by rfl) T.j3D j0H (ja (jU (ow:=["_law_k"]) (ci:=[2]) rfl (CompScope.of (defScope JC) ["_law_book_here","_law_moves","_law_longs","_law_name","_law_form_here","_law_numbers","_law_limbs","_law_k","_law_long"] rfl rfl (by decide +kernel)) (jY (by decide)) (jF (pv 5)) (fun _ _ _ _ _=>⟨(jm (i:=0) (jJ ["_law_book_here","_law_moves","_law_longs","_law_name","_law_form_here","_law_numbers","_law_limbs","_law_k","_law_long"] rfl (by decide +kernel)) rfl (.inl rfl)),Ju,(jg (Js (K:=K) rfl) (pv 1) (pv 0))⟩)) jb))))
   jv)
  (jc (Qh (jp Ja (jg ji (pv 4) jd) jx (nomark _))
   (jf (jo (i:=8) Jb.nd rfl (.inl rfl) (jt JR (jg ji (pv 4) jd) (jg jA (pv 2) (jg jA (pv 5) jd)))))
   jv)
  (jc (j5 (qI PySem.F.plainAttrs_list PySem.F.slot_list_append PySem.F.type_list_append jX (jg ji (pv 0) jd) (ja (jD (ja (pv 3) (ja (pv 4) jb))) jb)))
  (jc (j5 (qI PySem.F.plainAttrs_list PySem.F.slot_list_append PySem.F.type_list_append jX (pv 1) (ja (pv 6) jb)))
  (jf (j5 (qI PySem.F.plainAttrs_list PySem.F.slot_list_append PySem.F.type_list_append jX (pv 2) (ja (pv 8) jb)))))))))))))),?_⟩
 refine jw (σ':=[some _,some _,some _,some _,some _,none,none,none,none]) rfl ?_
 try dsimp only[cxOf,Cx.nox]
 have sz:(200:Nat)<sizeLine:=by decide
 have r:=C.bk;have ax:N.length=l.length:=r.pa.1.trans jM;have aF:=r.la.1;have aN:=C.n60;have nn:=C.nn;have l1:=C.l1;have l8:=C.l8;obtain⟨fb,D,ae⟩:=j0W hf;have js:=ab.js;have hn:∀{k:Nat},k<l.length->k<names.length:=fun h=>by lia
 have ao:∀j∈f.js,j<names.length:=fun j hj=>hn (js.2 j hj)
 have ad:∀j,j<l.length->gs[j]?=some (gs.getD j 0):=fun j h=>by
  rw[vy,vz (by rw[C.gl];exact h)];rfl
 have a2:=C.g0;have ak:∀{k:Nat},k<l.length->∃c fc,atI (N.map V.ref) (0+(k:Int))=some (.ref c)/\H c=some (.tup [.str (names.getD k ⟨#[]⟩),.ref fc]):=fun {k} hk=>by
  have ap:k<(drawnPs names l).length:=by rw[jM];exact hk
  obtain⟨c,ec,fc,hc,_⟩:=r.pa.get (vz ap);obtain⟨f',_,e'⟩:=Jl (vz ap);rw[e']at hc;exact⟨c,fc,by rw[uv];exact jG (by rw[vv,ec];rfl),hc⟩
 exists ixTm (SqT.of r.t) rfl ?_;refine⟨_,_,rfl,.inl ⟨_,SqL.of r.p,rfl⟩,?_⟩;rw[show(N.map V.ref).length=l.length by rw[vt];exact ax];refine⟨_,rfl,by lia,by lia,?_⟩;rw[show((l.length:Nat):Int).toNat=l.length from Int.toNat_natCast _];refine qw (fun i p o=>p=((List.range i).filter fun k=>f.rs&&decide (k∈f.js)).map vN/\Same H o) ⟨rfl,Same.refl _⟩ ?_ ?_
 ·rintro i p o hi ⟨rfl,sm⟩;obtain⟨c,fc,ec,hc⟩:=ak hi;refine jV (σ':=[none,some _,some _]) rfl ?_;exists ixTm (SqT.of (sm _ _ D)) (Zr) ?_;exists⟨ub,?_⟩;walk_at"f 1 t";have G:=sm.trans s1;refine⟨p1,_,rfl,.inr (SqT.of t1),rfl,flatS ["row","side"],?_⟩;rw[inRS];walk_at"g";have lf:((List.range i).filter fun k=>f.rs&&decide (k∈f.js)).length<=30:=vW (length_filter_le _ _) (by rw[length_range];lia);refine iteBl (fun c=>?_) (fun c=>?_)
  ·exists ixTm (SqT.of (G _ _ r.t)) rfl ?_;exists ixLm (SqL.of (G _ _ r.p)) (ec) ?_;exists ixTm (SqT.of (G _ _ hc)) rfl ?_;exists ixTm (SqT.of (G _ _ D)) (j3w c) ?_;refine⟨fb,_,rfl,.inr (SqT.of (G _ _ (ae c))),rfl,flatS _,?_⟩;rw[inS];exists iteD (fun d=>?_) (fun d=>?_)
   ·have d':=(Wz nd (hn hi) ao).mp d;exists⟨by rw[vt];lia,?_,G⟩;rw[JK,vd (by rw[c,vG d'];rfl),vj,uv];rfl
   ·have d':=fun z=>d ((Wz nd (hn hi) ao).mpr z)
    refine⟨?_,G⟩;rw[JK,vc (by rw[vH d',Bool.and_false];exact vF)]
  ·refine iteF ?_;refine⟨?_,G⟩;rw[JK,vc (by rw[c,Bool.false_and];exact vF)]
 rintro p H1 ⟨rfl,G⟩;have lf:((List.range l.length).filter fun k=>f.rs&&decide (k∈f.js)).length<=30:=vW (length_filter_le _ _) (by rw[length_range];lia);refine⟨by rw[vt];lia,?_⟩;walk_at"f nu1 hnu1 H2 s2 t2";have O:=G.trans s2;clear lf;exists⟨fun σ o=>IvE1 fun nu=>IvA2 (σ=[some (.ref b),some (.ref m),some (.ref g),some (.str (names.getD l.length ⟨#[]⟩)),some (.ref a),some (.ref nu),none,none,none]) (Same H o/\o nu=some (.lst ((numsC l.length f).map vN))),?_,?_⟩
 rotate_left
 ·exists ixTm (SqT.of (O _ _ D)) (Zr) ?_;walk_at"g";rw[j2g];refine iteBl (fun c=>?_) (fun c=>?_)
  ·obtain⟨k0,j0,rfl⟩:=j3I c;have a7:=js.2 j0 vq;exists ixTm (SqT.of (O _ _ r.t)) rfl ?_;refine⟨_,_,rfl,.inl ⟨_,SqL.of (O _ _ r.p),rfl⟩,?_⟩;rw[show(N.map V.ref).length=l.length by rw[vt];exact ax];refine⟨_,rfl,by lia,by lia,?_⟩;rw[show((l.length:Nat):Int).toNat=l.length from Int.toNat_natCast _];refine qw (fun i p o=>p=((List.range i).filter fun k=>decide (k∈[j0])).map vN/\H2=o) ⟨rfl,rfl⟩ ?_ ?_
   ·rintro i p o hi ⟨rfl,rfl⟩;obtain⟨c',fc,ec,hc⟩:=ak hi;have lf:((List.range i).filter fun k=>decide (k∈[j0])).length<=30:=vW (length_filter_le _ _) (by rw[length_range];lia);refine jV (σ':=[none,some _,some _]) rfl ?_;exists ixTm (SqT.of (O _ _ r.t)) rfl ?_;exists ixLm (SqL.of (O _ _ r.p)) (ec) ?_;exists ixTm (SqT.of (O _ _ hc)) rfl ?_;exists ixTm (SqT.of (O _ _ D)) rfl ?_;exists iteD (fun d=>?_) (fun d=>?_)
    ·have d':i∈[j0]:=vo.mpr (getD_inj nd (hn hi) (hn a7) d);exists⟨by rw[vt];lia,?_,rfl⟩;rw[JK,vd (vG d'),vj,uv];rfl
    ·have d':¬i∈[j0]:=fun z=>d (by rw[vo.mp z])
     refine⟨?_,rfl⟩;rw[JK,vc (by rw[vH d'];exact vF)]
   rintro p o ⟨rfl,rfl⟩;have lf:((List.range l.length).filter fun k=>decide (k∈[j0])).length<=30:=vW (length_filter_le _ _) (by rw[length_range];lia);refine⟨by rw[vt];lia,?_⟩;walk_at"f nu2 hnu2 H3 s3 t3";walk_at"g";exact⟨nu2,rfl,O.trans s3,t3⟩
  ·exact⟨nu1,rfl,O,by rw[t2,j34 c]⟩
 clear t2 s2 hnu1 O G;rintro σ' H3 ⟨nu,rfl,I,aC⟩;clear H2 H1 nu1;have aG:∀{k:Nat},k<J.length->∃c v,atI (au.map V.ref) (0+(k:Int))=some (.ref c)/\H c=some (.tup [.str ((nmsOf J).getD k ⟨#[]⟩),.int v]):=fun {k} hk=>by
  obtain⟨c,ec,hc⟩:=r.la.get (vz hk);refine⟨c,J[k].2,by rw[uv];exact jG (by rw[vv,ec];rfl),?_⟩;have e:(nmsOf J).getD k ⟨#[]⟩=J[k].1:=by
   unfold nmsOf;rw[vy,vv,vz hk];rfl
  rw[e];exact hc
 have Ll:(nmsOf J).length=J.length:=vt _;exists ixTm (SqT.of (I _ _ r.t)) rfl ?_;refine⟨_,_,rfl,.inl ⟨_,SqL.of (I _ _ r.l),rfl⟩,?_⟩;rw[show(au.map V.ref).length=J.length by rw[vt];exact aF];refine⟨_,rfl,by lia,by lia,?_⟩;rw[show((J.length:Nat):Int).toNat=J.length from Int.toNat_natCast _];refine qw (fun i p o=>p=((List.range i).filter fun k=>f.rz&&decide ((nmsOf J).getD k ⟨#[]⟩=f.x)).map vN/\H3=o) ⟨rfl,rfl⟩ ?_ ?_
 ·rintro i p o hi ⟨rfl,rfl⟩;obtain⟨c',v',ec,hc⟩:=aG hi;have lf:((List.range i).filter fun k=>f.rz&&decide ((nmsOf J).getD k ⟨#[]⟩=f.x)).length<=30:=vW (length_filter_le _ _) (by rw[length_range];lia);refine jV (σ':=[none,some _,some _]) rfl ?_;exists ixTm (SqT.of (I _ _ D)) (Zr) ?_;walk_at"g";rw[j4H];refine iteBl (fun c=>?_) (fun c=>?_)
  ·exists ixTm (SqT.of (I _ _ r.t)) rfl ?_;exists ixLm (SqL.of (I _ _ r.l)) (ec) ?_;exists ixTm (SqT.of (I _ _ hc)) rfl ?_;exists ixTm (SqT.of (I _ _ D)) (j2h c) ?_;exists iteD (fun d=>?_) (fun d=>?_)
   ·exists⟨by rw[vt];lia,?_,rfl⟩;rw[JK,vd (by rw[c,vG d];rfl),vj,uv];rfl
   ·refine⟨?_,rfl⟩;rw[JK,vc (by rw[vH d,Bool.and_false];exact vF)]
  ·refine iteF ?_;refine⟨?_,rfl⟩;rw[JK,vc (by rw[c,Bool.false_and];exact vF)]
 rintro p o ⟨rfl,rfl⟩;rw[show((List.range J.length).filter fun k=>f.rz&&decide ((nmsOf J).getD k ⟨#[]⟩=f.x))=limC (nmsOf J) f by unfold limC;rw[Ll]];rw[show(limC (nmsOf J) f).map vN=((limC (nmsOf J) f).map fun i:Nat=>(i:Int)).map V.int by rw[v8];rfl];have aa:=j2R (L:=nmsOf J) (f:=f);have lr:=j2Q (L:=nmsOf J) (f:=f);have ai:=fun ks=>j2U (L:=nmsOf J) (M:=Mv) (f:=f) (ks:=ks) js.2
 generalize(limC (nmsOf J) f).map (fun i:Nat=>(i:Int))=h0 at aa lr ai|-;rw[Ll]at lr;have aB:=qf aa lr;refine⟨by rw[vt];lia,?_⟩;walk_at"f lb0 hlb0 H4 s4 t4";have al:=I.trans s4;have a3:=s4 _ _ aC;have aK:=j0e (n:=l.length) (f:=f);exists⟨nu,rfl,⟨_,SqL.of a3⟩,?_⟩;refine Jf (xs:=(numsC l.length f).map vN) (fun i σ o=>IvE3 fun(o7:Option V) (R:Addr) (hs:List Int)=>IvA8 (σ=[some (.ref b),some (.ref m),some (.ref g),some (.str (names.getD l.length ⟨#[]⟩)),some (.ref a),some (.ref nu),some (.ref R),o7,none]) (Same H4 o) (o R=some (.lst (hs.map V.int))) (R≠pp) (R≠m) (R≠g) hs.Nodup (∀k,k∈hs↔k∈h0\/∃x∈(numsC l.length f).take i,k∈Mv.getD x []))
  ⟨_,lb0,h0,rfl,Same.refl _,t4,(je (I _ _ r.p) hlb0).symm,(je (I _ _ C.em) hlb0).symm,(je (I _ _ C.eg) hlb0).symm,aa,fun k=>⟨.inl,fun z=>z.elim id fun⟨x,hx,_⟩=>by simp at hx⟩⟩ ?_ ?_ ?_
 ·rintro i σ o _ ⟨o7,R,hs,rfl,sm,et,z1,z2,z3,tn,tm⟩;exact SqL.of (sm _ _ a3)
 ·rintro i v σ o hv ⟨o7,R,hs,rfl,sm,et,z1,z2,z3,tn,tm⟩;obtain⟨j,hj,rfl,aA⟩:=yp hv;have a4:=ke aA;have W:=al.trans sm;obtain⟨aj,ay,am⟩:=C.am.get (show Mv[j]?=some (Mv.getD j []) by rw[vy,vz (by rw[C.ml];exact a4)];rfl);have mj:=Xw mo j;have k8:=qf mj.1 mj.2;have as:=qf (n:=J.length) tn fun k hk=>by
   rcases(tm k).mp hk with z | ⟨x,_,z⟩
   ·exact lr k z
   ·exact(Xw mo x).2 k z
  exists ixLm (SqL.of (W _ _ C.em)) (J2 (i:=(j:Int)) (by lia) ay) ?_;refine⟨aj,rfl,⟨_,SqL.of (W _ _ am)⟩,?_⟩;refine j3 (xs:=(Mv.getD j []).map V.int) (fun i p U=>p=(((Mv.getD j []).take i).filter fun k=>!decide (k∈hs)).map V.int/\o=U) ⟨rfl,rfl⟩ ?_ ?_ ?_
  ·rintro i p U _ ⟨rfl,rfl⟩;exact SqL.of (W _ _ am)
  ·rintro i x p U hx ⟨rfl,rfl⟩;rw[vv]at hx;obtain⟨k,hk,rfl⟩:=vg.mp hx;have ik:=(vx.mp hk).1;refine jV (σ':=[none,some _]) rfl ?_;exists⟨R,_,rfl,.inl (SqL.of et),rfl,flats _,?_⟩;rw[notInI];walk_at"g";rw[take_snoc hk,filter_append];have lf:(((Mv.getD j []).take i).filter fun k=>!decide (k∈hs)).length<=8:=vW (length_filter_le _ _) (by rw[vi];lia);refine iteN (fun c=>?_) (fun c=>?_)
   ·exists⟨by rw[vt];lia,?_,rfl⟩;rw[vj];simp[c]
   ·refine⟨?_,rfl⟩;simp[c]
  rintro p U ⟨rfl,rfl⟩;rw[show((Mv.getD j []).map V.int).length=(Mv.getD j []).length from vt _,v7];have lf:((Mv.getD j []).filter fun k=>!decide (k∈hs)).length<=8:=vW (length_filter_le _ _) (by lia);refine⟨by rw[vt];lia,?_⟩;walk_at"f 5 t";refine⟨R,p5,_,_,rfl,rfl,s5 _ _ et,t5,by rw[vt,vt];lia,?_⟩;walk_at"f 6 t";have a1:=W.trans s5;obtain⟨n1,n2⟩:=j09 hj tm tn mj.1;walk_at"g";exact⟨_,p6,hs++((Mv.getD j []).filter fun k=>!decide (k∈hs)),rfl,sm.trans (s5.trans s6),by rw[t6,vj],(je (a1 _ _ r.p) hp6).symm,(je (a1 _ _ C.em) hp6).symm,(je (a1 _ _ C.eg) hp6).symm,n1,n2⟩
 rintro σ' H5 ⟨o7,R,hs,rfl,s5,et,z1,z2,z3,tn,tm⟩;rw[show((numsC l.length f).map vN).length=(numsC l.length f).length from vt _,v7]at tm;have ar:=ai hs tn tm;have W:=al.trans s5;have a8:=s5 _ _ a3;clear tm tn ai lr aa aB t4 hlb0 s4 s5 a3 al;exists ixTm (SqT.of (W _ _ D)) (j3x) ?_;walk_at"g";have ll:=j14 (names:=names) (b:=fb) (f:=f) (gs:=gs);generalize lastF names fb f=v0 at ll|-;refine⟨fun σ o=>IvE1 fun v1=>IvA2 (σ=[some (.ref b),some (.ref m),some (.ref g),some (.str (names.getD l.length ⟨#[]⟩)),some (.ref a),some (.ref nu),some (.ref R),o7,some v1]) (Same H5 o/\((∃Z,v1 = .int Z/\LenN gs f Z)\/f.ag=true\/f.sd=true)),?_,?_⟩
 rotate_left
 ·exists ixTm (SqT.of (W _ _ D)) (Zr) ?_;walk_at"g";rw[j4G];refine iteBl (fun c=>?_) (fun c=>?_)
  ·obtain⟨F,rfl⟩:=j53 c;have i8:F.length<=8:=js.1;have a4:∀j∈F,j<l.length:=js.2;exists⟨nu,rfl,⟨_,SqL.of a8⟩,?_⟩;refine j3 (xs:=(numsC l.length (.row F)).map vN) (fun i p o=>p=(((numsC l.length (.row F)).take i).map fun k=>gs.getD k 0*((F.filter fun j=>decide (j=k)).length:Nat)).map V.int/\Same H5 o) ⟨rfl,Same.refl _⟩ ?_ ?_ ?_
   ·rintro i p o _ ⟨rfl,sm⟩;exact SqL.of (sm _ _ a8)
   ·rintro i x p o hx ⟨rfl,sm⟩;obtain⟨k,hk,rfl,af⟩:=yp hx;have il:=(vx.mp hk).1;have a5:=ke af;have a0:=W.trans sm;obtain⟨c',fc,ec,hc⟩:=ak a5;rw[uv]at ec;refine jV (σ':=[none,some _,some _,some _]) rfl ?_;exists iteT ?_;exists ixLm (SqL.of (a0 _ _ C.eg)) (jG (j:=k) (by rw[vv,ad k a5];rfl)) ?_;exists ixTm (SqT.of (a0 _ _ D)) rfl ?_;refine⟨fb,rfl,⟨_,SqT.of (a0 _ _ (ae rfl))⟩,?_⟩;refine Qb (xs:=(F.map fun j=>names.getD j ⟨#[]⟩).map V.str) (fun i p U=>p=(((F.take i).filter fun j=>decide (j=k)).map fun j=>V.str (names.getD j ⟨#[]⟩))/\o=U) ⟨rfl,rfl⟩ ?_ ?_ ?_
    ·rintro i p U _ ⟨rfl,rfl⟩;exact SqT.of (a0 _ _ (ae rfl))
    ·rintro i x p U hx ⟨rfl,rfl⟩;rw[vv,vv]at hx;obtain⟨y,hy,rfl⟩:=vg.mp hx;obtain⟨j,hj,rfl⟩:=vg.mp hy;have ij:=(vx.mp hj).1;have lf:((F.take i).filter fun j=>decide (j=k)).length<=8:=vW (length_filter_le _ _) (by rw[vi];lia);refine jV (σ':=[none,some _,some _]) rfl ?_;exists ixTm (SqT.of (a0 _ _ r.t)) rfl ?_;exists ixLm (SqL.of (a0 _ _ r.p)) (ec) ?_;exists ixTm (SqT.of (a0 _ _ hc)) rfl ?_;walk_at"g";rw[take_snoc hj,filter_append];refine iteD (fun d=>?_) (fun d=>?_)
     ·have d':j=k:=getD_inj nd (hn (a4 j (vm hj))) (hn a5) d;exists⟨by rw[vt];lia,?_,rfl⟩;rw[vj,uz,vd (vG d'),filter_nil];rfl
     ·have d':¬j=k:=fun z=>d (by rw[z])
      refine⟨?_,rfl⟩;rw[uz,vc (by rw[vH d'];exact vF),filter_nil,append_nil]
    rintro p U ⟨rfl,rfl⟩;rw[show((F.map fun j=>names.getD j ⟨#[]⟩).map V.str).length=F.length by rw[vt,vt],v7];have lf:(F.filter fun j=>decide (j=k)).length<=8:=vW (length_filter_le _ _) i8;refine⟨by rw[vt];lia,?_⟩;walk_at"f 6 t";exists⟨_,_,rfl,.inl ⟨_,SqL.of t6,rfl⟩,?_⟩;rw[show(List.map (fun j=>V.str (names.getD j ⟨#[]⟩)) (F.filter fun j=>decide (j=k))).length=(F.filter fun j=>decide (j=k)).length from vt _];have gk:=a2 k a5;exists⟨by rw[vt,vt,vi];lia,?_,sm.trans s6⟩;rw[take_snoc hk,vj,vj];rfl
   rintro p o ⟨rfl,sm⟩;rw[show((numsC l.length (.row F)).map vN).length=(numsC l.length (.row F)).length from vt _,v7];refine⟨by rw[vt,vt];lia,?_⟩;walk_at"f 7 t";exists⟨p7,_,rfl,SqL.of t7,?_⟩;walk_at"g";exact⟨_,rfl,sm.trans s7,.inl ⟨_,rfl,j3p (gs:=gs) a4⟩⟩
  ·refine⟨v0,rfl,Same.refl _,?_⟩;rcases ll with z | z | z | z
   ·exact .inl z
   ·exact .inr (.inl z)
   ·exact .inr (.inr z)
   ·rw[c]at z;cases z
 rintro σ' H6 ⟨v1,rfl,s6,aD⟩;have a1:=W.trans s6;have a9:=s6 _ _ a8;exists⟨fun σ o=>IvE1 fun v2=>IvA2 (σ=[some (.ref b),some (.ref m),some (.ref g),some (.str (names.getD l.length ⟨#[]⟩)),some (.ref a),some (.ref nu),some (.ref R),o7,some v2]) (Same H6 o/\((∃Z,v2 = .int Z/\LenN gs f Z)\/f.ag=true)),?_,?_⟩
 rotate_left
 ·exists ixTm (SqT.of (a1 _ _ D)) (Zr) ?_;walk_at"g";rw[j4I];refine iteBl (fun c=>?_) (fun c=>?_)
  ·obtain⟨F,rfl⟩:=j54 c;have a4:∀j∈F,j<l.length:=js.2;have ne:F≠[]:=fun z=>by have:=ab.1;rw[z]at this;exact ud this (by decide)
   exists⟨nu,rfl,⟨_,SqL.of a9⟩,?_⟩;refine j3 (xs:=(numsC l.length (.side F)).map vN) (fun i p o=>p=(((numsC l.length (.side F)).take i).map fun k=>gs.getD k 0).map V.int/\H6=o) ⟨rfl,rfl⟩ ?_ ?_ ?_
   ·rintro i p o _ ⟨rfl,rfl⟩;exact SqL.of a9
   ·rintro i x p o hx ⟨rfl,rfl⟩;obtain⟨k,hk,rfl,af⟩:=yp hx;have il:=(vx.mp hk).1;have a5:=ke af;refine jV (σ':=[none,some _]) rfl ?_;exists iteT ?_;exists ixLm (SqL.of (a1 _ _ C.eg)) (jG (j:=k) (by rw[vv,ad k a5];rfl)) ?_;refine⟨by rw[vt,vt,vi];lia,?_,rfl⟩;rw[take_snoc hk,vj,vj];rfl
   rintro p o ⟨rfl,rfl⟩;rw[show((numsC l.length (.side F)).map vN).length=(numsC l.length (.side F)).length from vt _,v7];refine⟨by rw[vt,vt];lia,?_⟩;walk_at"f 7 t";have nm:=Zn (f:=.side F) a4;exists⟨p7,_,rfl,SqL.of t7,?_,fun mx hm aq=>?_⟩
   ·rw[vt];obtain⟨j,hj⟩:=List.exists_mem_of_ne_nil F ne;exact length_pos_of_mem ((nm j).mpr hj)
   obtain⟨j,hj,rfl⟩:=vK.mp hm;walk_at"g";exact⟨_,rfl,s7,.inl ⟨_,rfl,⟨j,(nm j).mp hj,rfl⟩,fun j' an=>aq _ (vK.mpr ⟨j',(nm j').mpr an,rfl⟩)⟩⟩
  ·refine⟨v1,rfl,Same.refl _,?_⟩;rcases aD with z | z | z
   ·exact .inl z
   ·exact .inr z
   ·rw[c]at z;cases z
 rintro σ' H7 ⟨v2,rfl,s7,aE⟩;have X:=a1.trans s7;have ac:=s7 _ _ a9;exists⟨fun σ o=>IvE1 fun Z=>IvA2 (σ=[some (.ref b),some (.ref m),some (.ref g),some (.str (names.getD l.length ⟨#[]⟩)),some (.ref a),some (.ref nu),some (.ref R),o7,some (.int Z)]) (H7=o/\LenN gs f Z),?_,?_⟩
 rotate_left
 ·exists ixTm (SqT.of (X _ _ D)) (Zr) ?_;walk_at"g";rw[j2g];refine iteBl (fun c=>?_) (fun c=>?_)
  ·obtain⟨k0,j0,rfl⟩:=j3I c;have a7:=js.2 j0 vq;obtain⟨k1,k2,_⟩:=ab;have gk:=a2 j0 a7;rw[j0f a7]at ac;exists ixTm (SqT.of (X _ _ D)) rfl ?_;exists ixLm (SqL.of ac) rfl ?_;refine ixLm (SqL.of (X _ _ C.eg)) (jG (j:=j0) (by rw[vv,ad j0 a7];rfl)) ?_;walk_at"g";exact⟨_,rfl,rfl,rfl⟩
  ·rcases aE with⟨Z,rfl,z⟩ | z
   ·exact⟨Z,rfl,rfl,z⟩
   ·rw[c]at z;cases z
 rintro σ' H8 ⟨Z,rfl,rfl,aw⟩;have av:=j2O ab ag aw B0 fun j hj=>⟨(a2 j hj).1,gB j hj⟩
 have ah:=ar.ok (by rw[Ll];exact mo);have as:=qf ah.1 ah.2;rw[Ll]at as ah;have ml:=C.ml;have gl:=C.gl;have aL:=C.am.1;have az:=(s6.trans s7) _ _ et;exists ixTm (SqT.of (X _ _ r.t)) rfl ?_;refine⟨.inl ⟨rfl,_,SqL.of (X _ _ r.p)⟩,?_⟩;exists⟨ub,?_⟩;walk_at"f pc hpc H9 s9 t9";have Y:=X.trans s9;have nt:∀{c:Addr} {xs:List V},H c=some (.tup xs)->c≠pp/\c≠m/\c≠g:=fun h=>⟨Qf h r.p (fun z=>by cases z),Qf h C.em (fun z=>by cases z),Qf h C.eg (fun z=>by cases z)⟩
 have aJ:pc≠pp:=(je (X _ _ r.p) hpc).symm;have aI:pc≠m:=(je (X _ _ C.em) hpc).symm;have aH:pc≠g:=(je (X _ _ C.eg) hpc).symm;refine⟨pp,_,_,rfl,rfl,Y _ _ r.p,by rw[vt];lia,?_⟩;exists⟨.inl ⟨rfl,_,SqL.of ((jh S.pm.symm).trans (Y _ _ C.em))⟩,?_⟩;exists⟨m,_,_,rfl,rfl,(jh S.pm.symm).trans (Y _ _ C.em),by rw[vt];lia,?_⟩;exists⟨.inl ⟨rfl,_,SqL.of ((jh S.mg.symm).trans ((jh S.pg.symm).trans (Y _ _ C.eg)))⟩,?_⟩;exists⟨g,_,_,rfl,rfl,(jh S.mg.symm).trans ((jh S.pg.symm).trans (Y _ _ C.eg)),by rw[vt];lia,?_⟩;walk_at"g";show Q V.non _;have k9:∀x u,x≠pp->x≠m->x≠g->H9 x=some u->upd (upd (upd H9 pp (.lst (N.map V.ref++[.ref pc]))) m (.lst (a6.map V.ref++[.ref R]))) g (.lst (gs.map V.int++[.int Z])) x=some u:=fun x u h1 h2 h3 h=>(jh h3).trans ((jh h2).trans ((jh h1).trans h))
 have ep:upd (upd (upd H9 pp (.lst (N.map V.ref++[.ref pc]))) m (.lst (a6.map V.ref++[.ref R]))) g (.lst (gs.map V.int++[.int Z])) pp=some (.lst ((N++[pc]).map V.ref)):=(jh S.pg).trans ((jh S.pm).trans (by rw[jq,vj];rfl));have em:upd (upd (upd H9 pp (.lst (N.map V.ref++[.ref pc]))) m (.lst (a6.map V.ref++[.ref R]))) g (.lst (gs.map V.int++[.int Z])) m=some (.lst ((a6++[R]).map V.ref)):=(jh S.mg).trans (by rw[jq,vj];rfl);have eg:upd (upd (upd H9 pp (.lst (N.map V.ref++[.ref pc]))) m (.lst (a6.map V.ref++[.ref R]))) g (.lst (gs.map V.int++[.int Z])) g=some (.lst ((gs++[Z]).map V.int)):=by rw[jq,vj];rfl
 generalize upd (upd (upd H9 pp (.lst (N.map V.ref++[.ref pc]))) m (.lst (a6.map V.ref++[.ref R]))) g (.lst (gs.map V.int++[.int Z]))=Hf at k9 ep em eg|-;have kt:∀c xs,H c=some (.tup xs)->Hf c=some (.tup xs):=fun c xs h=>k9 _ _ (nt h).1 (nt h).2.1 (nt h).2.2 (Y _ _ h)
 refine q pc R hs Z Hf (fun x u h1 h2 h3 h=>k9 x u h1 h2 h3 (Y _ _ h)) ⟨⟨kt _ _ r.t,k9 _ _ S.lp S.lm S.lg (Y _ _ r.l),r.la.mono fun c x h=>kt _ _ h,ep,?_⟩,em,?_,eg,by rw[vn];exact nl,by rw[vn,vn,ml];rfl,by rw[vn,vn,gl];rfl,by rw[vn];show l.length+1<=60;lia,fun ks hk=>?_,fun j hj=>?_,l1,l8⟩ ⟨S.lp,S.lm,S.lg,S.pm,S.pg,S.mg,fun x hx=>?_⟩ ar aw av.2
 ·rw[xg];exact(r.pa.mono fun c x h=>PartAt.keep kt h).snoc ⟨a,k9 _ _ aJ aI aH t9,FormAt.keep kt hf⟩
 ·exact(All2.monoM C.am fun c hc ks h=>k9 _ _ (S.ma c hc).1 (S.ma c hc).2.1 (S.ma c hc).2.2 (Y _ _ h)).snoc (k9 _ _ z1 z2 z3 (s9 _ _ az))
 ·rcases vh.mp hk with z | z
  ·exact C.m8 ks z
  ·rw[vo.mp z];lia
 ·rw[vn]at hj;have an:j<l.length+1:=hj;by_cases c:j<l.length
  ·rw[Jn (by lia)];exact a2 j c
  ·rw[show j=gs.length by lia,jT];exact⟨av.1,by lia⟩
 ·rcases vh.mp hx with z | z
  ·exact S.ma x z
  ·rw[vo.mp z];exact⟨z1,z2,z3⟩
theorem wD(T:Txt K mg t)(Ql:FnOk P w K mg base CX0 1 t.Qp t.Qw ["_law_script","_law_k"] (sp_poolC K))(jy:FnOk P w K mg base CX0 1 t.JH t.JI ["_law_pool_here","_law_many"] (sp_takeD))(Qm:FnOk P w K mg base CX0 1 t.Qq t.Qx ["_law_place","_law_k"] (sp_wordC))(jE:FnOk P w K mg base CX0 2 t.JW t.JZ ["_law_pool_here","_law_most"] (sp_takeD))(zt:FnOk P w K mg base CX0 4 t.zC t.zH ["_law_pool_here","_law_book_here","_law_moves","_law_longs","_law_most"] (sp_formC))(Q2:FnOk P w K mg base CX0 1 t.Q5 t.Q9 ["_law_book_here","_law_moves","_law_longs","_law_name","_law_form_here"] (sp_putC)):FnOk P w K mg base CX0 5 t.zB t.zG ["_law_script","_law_start","_law_most"] (sp_bookP K):=by
 specialize T.Ya.F.ok jI;obtain⟨a,ns,start,R,rfl,hS,aD,bc,br,b7,b8,q⟩:=h;refine⟨_,(jc (jo (i:=3) jI.nd rfl (.inr rfl) (jk T.zo Ql hr (ja (pv 0) (ja (pv 1) jb))))
  (jc (jo (i:=4) jI.nd rfl (.inl rfl) (jk T.jB jy hr (ja (pv 3) (ja jd jb))))
  (jc (jo (i:=5) jI.nd rfl (.inl rfl) (jk T.jB jy hr (ja (pv 3) (ja jd jb))))
  (jc (jo (i:=6) jI.nd rfl (.inr rfl) (jg jA (jK (ja (jK (ja jx (ja jx (ja jx jb)))) (ja (jK (ja jx (ja jx (ja jx jb)))) (ja (jK (ja jx (ja jx (ja jx jb)))) jb)))) (jk T.jB jy hr (ja (pv 3) (ja jd jb)))))
  (jc (jo (i:=7) jI.nd rfl (.inl rfl) (jt Jh jd (jk T.jB jy hr (ja (pv 3) (ja jd jb)))))
  (jc (jo (i:=8) jI.nd rfl (.inl rfl) (jD (ja (jU (ow:=["_law_k"]) (ci:=[6,3,2]) rfl (CompScope.of (defScope qJ) ["_law_script","_law_start","_law_most","_law_pool_here","_law_place","_law_called","_law_order","_law_many","_law_book_here","_law_moves","_law_longs","_law_k","_law_name","_law_last"] rfl rfl (by decide +kernel)) (jY (by decide)) (JG (by rfl) T.JO (ja (jt Jh jd (jk T.jB jy hr (ja (pv 3) (ja jd jb)))) jb)) (fun _ _ _ _ _=>⟨(jm (i:=0) (jJ ["_law_script","_law_start","_law_most","_law_pool_here","_law_place","_law_called","_law_order","_law_many","_law_book_here","_law_moves","_law_longs","_law_k","_law_name","_law_last"] rfl (by decide +kernel)) rfl (.inl rfl)),Ju,(jD (ja (jg (Js (K:=K) rfl) (pv 1) (pv 0)) (ja (jk T.j8 jE hr (ja (pv 2) (ja (jt Jh (pv 3) jd) jb))) jb)))⟩)) (ja (jK jb) jb))))
  (jc (jo (i:=9) jI.nd rfl (.inl rfl) (jK jb))
  (jc (jo (i:=10) jI.nd rfl (.inl rfl) (jK jb))
  (jc (j2 PassesOwn.never rfl (JG (by rfl) T.JO (ja (pv 7) jb)) (jm (i:=11) jI.nd rfl (.inl rfl))
   (jc (jo (i:=12) jI.nd rfl (.inl rfl) (jk T.zq Qm hr (ja (pv 4) (ja (pv 11) jb))))
   (jc (Qh (PW.pt (ZL (jp Ja (pv 5) jd (nomark _)) (Zp (jp Ja (pv 11) jd (nomark _)))))
    (jf (jo (i:=12) jI.nd rfl (.inl rfl) (jg ji (jg jA (jg ji (pv 8) jd) jd) jd)))
    jv)
   (jf (j5 (jk T.ZB Q2 hr (ja (pv 8) (ja (pv 9) (ja (pv 10) (ja (pv 12) (ja (jk T.Yb zt hr (ja (jk T.zo Ql hr (ja (pv 0) (ja (jt Jh (jt Jh (pv 1) jd) (pv 11)) jb))) (ja (pv 8) (ja (pv 9) (ja (pv 10) (ja (pv 2) jb)))))) jb)))))))))))
  (jc (YE (i:=13) (ow:=["_law_part"]) (ci:=[]) rfl (CompScope.of (defScope qJ) ["_law_script","_law_start","_law_most","_law_pool_here","_law_place","_law_called","_law_order","_law_many","_law_book_here","_law_moves","_law_longs","_law_k","_law_name","_law_last"] rfl rfl (by decide +kernel)) (jY (by decide)) jI.nd rfl (.inl rfl) (jF (qm yo (jg ji (pv 8) jd) (qo (zR Qi jd)) QB)) (fun _ _ _ _ _=>⟨(jm (i:=0) (jJ ["_law_script","_law_start","_law_most","_law_pool_here","_law_place","_law_called","_law_order","_law_many","_law_book_here","_law_moves","_law_longs","_law_k","_law_name","_law_last"] rfl (by decide +kernel)) rfl (.inl rfl)),Ju,(jg (Jo (K:=K) rfl) (pv 0) jd)⟩))
  (jc (j5 (jk T.ZB Q2 hr (ja (pv 8) (ja (pv 9) (ja (pv 10) (ja (jk T.zq Qm hr (ja (pv 4) (ja (pv 7) jb))) (ja (jD (ja jx (ja (Jt JX (by rfl) T.Zg QW (ja (jt yQ (pv 13) (qm yo (pv 13) QB (qo jd))) jb)) jb))) jb)))))))
  (jf (ju (jD (ja (pv 8) (ja (jg jA (pv 10) (zR Qi jd)) jb)))))))))))))))),?_⟩
 refine jw (σ':=[some _,some _,some _,none,none,none,none,none,none,none,none,none,none,none]) rfl ?_
 try dsimp only[cxOf,Cx.nox]
 have sz:(200:Nat)<sizeLine:=by decide
 exists⟨a,ns,start,rfl,hS,aD,bc,by lia,fun p y0 H1 s1 hp e1=>?_⟩;exists⟨p,y0,4,rfl,e1,by lia,by lia,fun aJ y1 H2 l0 l1 x2 e2=>?_⟩;exists⟨p,y1,2,rfl,e2,by lia,by lia,fun cl y2 H3 c0 c1 x3 e3=>?_⟩;obtain⟨U,rfl,a3⟩:∃U:Nat,aJ=(U:Int)/\U<4:=⟨aJ.toNat,by lia,by lia⟩
 obtain⟨C2,rfl,aE⟩:∃C2:Nat,cl=(C2:Int)/\C2<2:=⟨cl.toNat,by lia,by lia⟩
 have sp:∀{G G':Hp},Same H G->Ex p G G'->Same H G':=fun s x c u h=>x _ _ (je h hp) (s _ _ h)
 have s3:Same H H3:=sp (sp s1 x2) x3;clear x2 x3 e1 e2 s1;clear H1 H2;exists⟨uA,?_⟩;walk_at"f o0 ho0 H4 s4 t4";exists⟨uA,?_⟩;walk_at"f o1 ho1 H5 s5 t5";exists⟨uA,?_⟩;walk_at"f o2 ho2 H6 s6 t6";exists⟨uA,?_⟩;walk_at"f oo hoo H7 s7 t7";have an:=s4.trans (s5.trans (s6.trans s7));exists⟨p,y2,3,rfl,an _ _ e3,by lia,by lia,fun tt y3 H8 t0 t1 x8 e8=>?_⟩;obtain⟨I,rfl,ae⟩:∃I:Nat,tt=(I:Int)/\I<3:=⟨tt.toNat,by lia,by lia⟩
 have s8:=sp (s3.trans an) x8;have np:∀{c u} {G:Hp},G p=some u->G c=none->c≠p:=fun h1 h2=>(je h1 h2).symm
 have z0:o0≠p:=np e3 ho0;have z1:o1≠p:=np (s4 _ _ e3) ho1;have z2:o2≠p:=np (s5 _ _ (s4 _ _ e3)) ho2;have z3:oo≠p:=np (s6 _ _ (s5 _ _ (s4 _ _ e3))) hoo;have a4:∃oi,atI [V.ref o0,V.ref o1,V.ref o2] (I:Int)=some (.ref oi)/\H8 oi=some (.lst ((ordB I).map V.str))/\oi≠p:=by
  have h:I=0\/I=1\/I=2:=by lia
  rcases h with rfl | rfl | rfl
  ·exact⟨o0,rfl,x8 _ _ z0 (s7 _ _ (s6 _ _ (s5 _ _ t4))),z0⟩
  ·exact⟨o1,rfl,x8 _ _ z1 (s7 _ _ (s6 _ _ t5)),z1⟩
  ·exact⟨o2,rfl,x8 _ _ z2 (s7 _ _ t6),z2⟩
 obtain⟨oi,aB,a4,aO⟩:=a4;refine ixLm (SqL.of (x8 _ _ z3 t7)) (aB) ?_;clear z0 z1 z2 z3 hoo ho2 ho1 ho0 t4 t5 t6 t7 aB;have aa:=s8;have ay:=e8;have ar:oi≠p:=aO;have a5:=a4;clear a4 aO e8 e3 s8 an s3;exists⟨p,y3,9,rfl,ay,by lia,by lia,fun mn y4 bd bp bq ap az=>?_⟩;have aK:=sp aa ap;have a6:=ap _ _ ar a5;clear aa ay ap a5;obtain⟨o,rfl,m2,bo⟩:∃o:Nat,mn=(o:Int)-2/\2<=o/\o<=10:=⟨(mn+2).toNat,by lia,by lia,by lia⟩
 exists⟨p,y4,3,rfl,az,by lia,by lia,fun lm y5 aR bl bm aq aA=>?_⟩;have aL:=sp aK aq;have a7:=aq _ _ ar a6;clear aK a6 az aq;obtain⟨LL,aW,L1,L8⟩:∃LL:Nat,1+lm=(LL:Int)/\1<=LL/\LL<=3:=⟨(1+lm).toNat,by lia,by lia,by lia⟩
 have o8:=j1E (t:=I);have ad:∀{k:Nat},k<8->(ordC I)[k]?=some ((ordC I).getD k ⟨#[]⟩):=fun {k} hk=>by
  rw[vy,vz (by lia)];rfl
 have aw:∀{k:Nat},k<3->(ordB I)[k]?=some ((ordC I).getD k ⟨#[]⟩):=fun {k} hk=>by
  have h3:(ordB I).length=3:=by
   have:=o8;unfold ordC at this;rw[vn]at this;have:([("leg" : Str),"wing","tail","eye","paw"]:List Str).length=5:=rfl;lia
  rw[<-ad (show k<8 by lia)];unfold ordC;rw[vB (by lia)]
 walk_at"g";rw[aW];refine⟨_,rfl,by lia,by lia,?_⟩;rw[Int.toNat_natCast];refine qw (fun i ys O=>IvE3 fun(F:List Addr) (B:List (Str×Int)) (y:Int)=>IvA7 (ys=F.map V.ref) (F.length=i) (All2 (LimbAt O) F B) (nmsOf B=(ordC I).take i) (∀q∈B,0<=q.2/\q.2<=10^18) (Same H O) (O oi=some (.lst ((ordB I).map V.str))/\O p=some (.lst [.int y]))) ⟨[],[],y5,rfl,rfl,.nil,rfl,(fun q hq=>nomatch hq),aL,a7,aA⟩ ?_ ?_
 ·rintro i ys O hi ⟨F,B,y,rfl,ll,al,nm,lh,sm,eo,ep⟩;have i8:i<8:=by lia
  have i3:i<3:=by lia
  refine jV (σ':=[none,some _,some _,some _]) rfl ?_;exists iteT ?_;exists ixLm (SqL.of eo) (by rw[uv];exact jG (by rw[vv,aw i3];rfl)) ?_;exists⟨p,y,R+1,rfl,ep,by lia,by lia,fun v y' av v0 v1 x' aU=>?_⟩;exists⟨ub,?_⟩;walk_at"f pc hpc H3 s3 t3";have kt:∀c xs,O c=some (.tup xs)->H3 c=some (.tup xs):=fun c xs h=>s3 _ _ (x' _ _ (Qf h ep fun z=>by cases z) h)
  refine⟨by rw[vt];lia,F++[pc],B++[((ordC I).getD i ⟨#[]⟩,v)],y',by rw[vj];rfl,by rw[vn,ll];rfl,(al.mono fun c x h=>kt _ _ h).snoc t3,?_,fun q hq=>?_,(sp sm x').trans s3,s3 _ _ (x' _ _ ar eo),s3 _ _ aU⟩
  ·rw[take_snoc (ad i8),<-nm];unfold nmsOf;rw[vj];rfl
  ·rcases vh.mp hq with z | z
   ·exact lh q z
   ·rw[vo.mp z];exact⟨v0,by show v<=10^18;lia⟩
 rintro ys be ⟨F,B,y6,rfl,ll,al,nm,lh,sm,eo,ep⟩;clear aL a7 aA aR;have bn:B.length=LL:=by rw[<-al.1];exact ll
 refine⟨by rw[vt];lia,?_⟩;walk_at"f pl hpl H14 s14 t14";exists⟨va _,?_⟩;walk_at"f pp hpp H15 s15 t15";exists⟨ub,?_⟩;walk_at"f b hb H16 s16 t16";exists⟨va _,?_⟩;walk_at"f m hm H17 s17 t17";exists⟨va _,?_⟩;walk_at"f g hg H18 s18 t18";obtain⟨nd,nW⟩:=j4j a3 aE ae;have nz:=j55 a3 aE ae;obtain⟨b5,lW⟩:=j3b ae;have ng:∀{k:Nat},k<13->(nmC U C2 ((ordC I).getD 0 ⟨#[]⟩)).getD k ⟨#[]⟩=if C2=1/\k=1 then(ordC I).getD 0 ⟨#[]⟩else wdC U k:=fun h=>j30 h
 have nl:=j31 (p:=U) (c:=C2) (x:=(ordC I).getD 0 ⟨#[]⟩);generalize nmC U C2 ((ordC I).getD 0 ⟨#[]⟩)=names at nd nW ng nl nz;have a9:(nmsOf B).Nodup:=by rw[nm];exact b5.sublist (take_sublist _ _)
 have b3:∀x∈nmsOf B,Ws.isW x=true:=fun x hx=>lW x (by rw[nm]at hx;exact uw hx)
 have f0:∃v0,B[0]?=some ((ordC I).getD 0 ⟨#[]⟩,v0):=by
  have e:(nmsOf B)[0]?=some ((ordC I).getD 0 ⟨#[]⟩):=by rw[nm,List.getElem?_take_of_lt (by lia),ad (by lia)]
  unfold nmsOf at e;rw[vv]at e;obtain⟨z,hz,ez⟩:=vg.mp e;exact⟨z.2,by rw[hz,<-ez]⟩
 obtain⟨v0,f0⟩:=f0;have ab:=sm.trans (s14.trans (s15.trans (s16.trans (s17.trans s18))));have BC:BkC b pl pp m g F [] [] B names [] [] [] H18:=⟨⟨s18 _ _ (s17 _ _ t16),s18 _ _ (s17 _ _ (s16 _ _ (s15 _ _ t14))),al.mono fun c x h=>s18 _ _ (s17 _ _ (s16 _ _ (s15 _ _ (s14 _ _ h)))),s18 _ _ (s17 _ _ (s16 _ _ t15)),.nil⟩,s18 _ _ t17,.nil,t18,va _,rfl,rfl,va _,(fun ks hk=>nomatch hk),fun j hj=>ud hj (Nat.not_lt_zero j),by lia,by lia⟩
 have SP:Sep pl pp m g []:=⟨je t14 hpp,je (s16 _ _ (s15 _ _ t14)) hm,je (s17 _ _ (s16 _ _ (s15 _ _ t14))) hg,je (s16 _ _ t15) hm,je (s17 _ _ (s16 _ _ t15)) hg,je t17 hg,fun x hx=>by cases hx⟩
 have a8:H pp=none:=by
  cases e:H pp with
  | none=>rfl
  | some u=>rw[s14 _ _ (sm _ _ e)]at hpp;cases hpp
 have aG:H m=none:=by
  cases e:H m with
  | none=>rfl
  | some u=>rw[s16 _ _ (s15 _ _ (s14 _ _ (sm _ _ e)))]at hm;cases hm
 have aF:H g=none:=by
  cases e:H g with
  | none=>rfl
  | some u=>rw[s17 _ _ (s16 _ _ (s15 _ _ (s14 _ _ (sm _ _ e))))]at hg;cases hg
 clear sm eo ep hpl hpp hb hm hg t14 t15 t16 t17 t18 s14 s15 s16 s17 s18 al ll;exists⟨_,rfl,by lia,by lia,?_⟩;refine Zl (fun i σ O=>IvE7 fun(aj ak:Option V) (J L:List Addr) (l:List Fn) (W:List (List Int)) (gs:List Int)=>IvA6 (σ=[some (.ref a),some (.int start),some (.int R),some (.ref p),some (.int (U:Nat)),some (.int (C2:Nat)),some (.ref oi),some (.int (2+((o:Nat)-2))),some (.ref b),some (.ref m),some (.ref g),aj,ak,none]) (Same H O) (BkC b pl pp m g F J L B names l W gs O) (Sep pl pp m g L) (MvOk B.length W) (DUk (nmsOf B) l W gs/\l.length=i))
  ⟨_,_,[],[],[],[],[],rfl,ab,BC,SP,(fun ks hk=>nomatch hk),.nil,rfl⟩ ?_ ?_
 ·rintro i σ O hi ⟨aj,ak,J,L,l,W,gs,rfl,sm,C,S,mo,D,fl⟩;have bk:i<10:=by lia
  exists⟨U,i,by rw[uv];rfl,a3,by lia,fun H1 s1=>?_⟩;have N:=C.same s1;exists⟨fun σ av=>σ=[some (.ref a),some (.int start),some (.int R),some (.ref p),some (.int (U:Nat)),some (.int (C2:Nat)),some (.ref oi),some (.int (2+((o:Nat)-2))),some (.ref b),some (.ref m),some (.ref g),some (.int (0+(i:Int))),some (.str (names.getD i ⟨#[]⟩)),none]/\H1=av,?_,?_⟩
  rotate_left
  ·exists iteD (fun c=>?_) (fun c=>?_)
   ·exists iteD (fun d=>?_) (fun d=>?_)
    ·exists ixTm (SqT.of N.bk.t) rfl ?_;walk_at"g";obtain⟨c0,aT,af⟩:=N.bk.la.get f0
     replace af:H1 c0=some (.tup [.str ((ordC I).getD 0 ⟨#[]⟩),.int v0]):=af
     refine ixLm (SqL.of N.bk.l) (jG (j:=0) (by rw[vv,aT];rfl)) ?_;exists ixTm (SqT.of af) rfl ?_;exists⟨?_,rfl⟩;rw[ng (by lia),vd ⟨by lia,by lia⟩]
    ·refine⟨?_,rfl⟩;rw[ng (by lia),vc (by lia)]
   ·refine iteF ?_;refine⟨?_,rfl⟩;rw[ng (by lia),vc (by lia)]
  rintro σ' H2 ⟨rfl,rfl⟩;have ao:=sm.trans s1;have Y:(10:Int)^40*8^l.length>=10^40:=vX (by decide) (pow8 (va l.length));have ah:8*((10:Int)^40*8^l.length)=10^40*8^(l.length+1):=by
   have e:(8:Int)^(l.length+1)=8^l.length*8:=Int.pow_succ _ _;rw[e];lia
  have ai:=wR (n:=l.length+1) (by lia);exists⟨a,ns,_,rfl,ao.seq hS,aD,by lia,by lia,fun p' y2 H2 s2 b0 e2=>?_⟩;have as:=N.same s2;have Z:∀{c u},H1 c=some u->c≠p':=fun h=>je h b0
  have aI:∀c∈L,c≠p':=fun c hc=>by
   obtain⟨j,hj⟩:=List.mem_iff_getElem?.mp hc;have jl:=(vx.mp hj).1;have bi:=N.am.1;exact Z (N.am.2 j c (W.getD j []) hj (by rw[vy,vz (by lia)];rfl))
  exists⟨p',b,pl,pp,m,g,y2,R,F,J,L,B,names,l,W,gs,rfl,e2,as,Z N.bk.t,Z N.bk.l,Z N.bk.p,Z N.em,Z N.eg,aI,b7,b8,nW,fun fa f y3 H3 x3 e3 hf a0 ag=>?_⟩;have C3:=as.ex x3 e2 (Z N.bk.l) (Z N.bk.p) (Z N.em) (Z N.eg) aI;have bb:Same H H3:=fun c u h=>x3 _ _ (Z (ao _ _ h)) (s2 _ _ (ao _ _ h))
  exists⟨b,pl,pp,m,g,fa,F,J,L,B,names,l,W,gs,f,10^40*8^l.length,by rw[fl];rfl,C3,S,mo,hf,a0,ag,by lia,by lia,nd,Y,by lia,D.bnd,fun c a1 ks gg H4 k4 C4 S4 mv lg gb=>?_⟩;have X:=C4.g0 l.length (by rw[vn];exact Nat.lt_succ_self _);rw[<-D.gl,jT]at X;refine⟨_,_,J++[c],L++[a1],l++[f],W++[ks],gs++[gg],rfl,fun x u h=>k4 x u (je h a8) (je h aG) (je h aF) (bb _ _ h),C4,S4,mo.snoc (by have:=mv.ok (by rw[show(nmsOf B).length=B.length from vt _];exact mo);rw[show(nmsOf B).length=B.length from vt _]at this;exact this),D.add a0 mv lg ⟨X.1,by lia⟩,by rw[vn,fl];rfl⟩
 rintro σ' bf ⟨aj,ak,J,L,l,W,gs,rfl,sm,C,S,mo,D,fl⟩
 replace fl:l.length=o:=by lia
 clear BC SP ab;have ba:J.length=l.length:=C.bk.pa.1.trans jM;exists ixTm (SqT.of C.bk.t) rfl ?_;exists⟨pp,_,rfl,SqL.of C.bk.p,?_⟩;walk_at"f pc hpc H20 s20 t20";rw[j4U]at t20;rw[vt,ba,fl]at t20;have au:=C.same s20;have lc:=j01 m2;have b4:((J.map V.ref).drop (o-3)).length=(lastC o).length:=by
  unfold lastC;rw[length_drop,length_drop,vt,length_range];lia
 exists⟨pc,rfl,⟨_,SqL.of t20⟩,?_⟩;refine j3 (xs:=(J.map V.ref).drop (o-3)) (fun i ys O=>ys=(((lastC o).take i).map fun j=>names.getD j ⟨#[]⟩).map V.str/\H20=O) ⟨rfl,rfl⟩ ?_ ?_ ?_
 ·rintro i ys O _ ⟨rfl,rfl⟩;exact SqL.of t20
 ·rintro i v ys O hv ⟨rfl,rfl⟩;have il:=(vx.mp hv).1;rw[List.getElem?_drop]at hv;obtain⟨c,pt,rfl,b1,fb,aX,hf⟩:=au.bk.pa.at_ref hv;obtain⟨f,aY,rfl⟩:=Jl b1;have bj:=(vx.mp aY).1;refine jV (σ':=[none]) rfl ?_;exists iteT ?_;exists ixTm (SqT.of aX) rfl ?_;refine⟨by rw[vt,vt,vi];lia,?_,rfl⟩;rw[take_snoc (show(lastC o)[i]?=some (o-3+i) by unfold lastC;rw[List.getElem?_drop,List.getElem?_range (by lia)]),vj,vj];rfl
 rintro ys O ⟨rfl,rfl⟩;rw[b4,v7];refine⟨by rw[vt,vt];lia,?_⟩;walk_at"f la hla H21 s21 t21";have aP:=au.same s21;exists⟨U,o,by rw[show(2+((o:Int)-2))=o by lia];rfl,a3,by lia,fun bg am=>?_⟩;exists⟨la,_,rfl,SqL.of (am _ _ t21),?_⟩;walk_at"f l1 hl1 H23 s23 t23";rw[show(some 1:Option Int)=some ((1:Nat):Int)from rfl,j40]at t23;refine⟨la,l1,_,_,rfl,rfl,s23 _ _ (am _ _ t21),t23,by rw[vi,vt,vt];lia,?_⟩;walk_at"f l2 hl2 H24 s24 t24";exists⟨l2,_,rfl,.inl ⟨SqL.of t24,?_⟩⟩;walk_at"f tp htp H25 s25 t25";exists⟨ub,?_⟩;walk_at"f fa hfa H26 s26 t26";have a2:=am.trans (s23.trans (s24.trans (s25.trans s26)));have aQ:=aP.same a2;have aM:=sm.trans (s20.trans (s21.trans a2));have hf:FormAt H26 fa (toldF names (.row (lastC o++(lastC o).take 1))):=by
  refine⟨tp,t26,?_⟩;rw[s26 _ _ t25,vj,vj,map_take,map_take]
 have Y:(10:Int)^40*8^l.length>=10^40:=vX (by decide) (pow8 (va l.length));have ah:8*((10:Int)^40*8^l.length)=10^40*8^(l.length+1):=by
  have e:(8:Int)^(l.length+1)=8^l.length*8:=Int.pow_succ _ _;rw[e];lia
 have ai:=wR (n:=l.length+1) (by lia);have a0:PreN (nmsOf B) W l.length (.row (lastC o++(lastC o).take 1)):=by
  refine⟨fun z=>?_,?_,fun j hj=>?_⟩
  ·have:(lastC o++(lastC o).take 1).length=0:=by rw[z];rfl
   rw[vn]at this;lia
  ·rw[vn,vi];lia
  ·rw[fl];rcases vh.mp hj with z | z
   ·exact Wu z
   ·exact Wu (uw z)
 have b9:names.getD l.length ⟨#[]⟩=wdC U o:=by rw[fl,ng (by lia),vc (by lia)]
 exists⟨b,pl,pp,m,g,fa,F,J,L,B,names,l,W,gs,_,10^40*8^l.length,by rw[b9];rfl,aQ,S,mo,hf,a0,(fun k j z=>by cases z),by lia,by lia,nd,Y,by lia,D.bnd,fun c a1 ks gg aS b2 ac bh mv lg gb=>?_⟩;have X:=ac.g0 l.length (by rw[vn];exact Nat.lt_succ_self _);rw[<-D.gl,jT]at X;have Ll:(nmsOf B).length=B.length:=vt _;have aH:=mv.ok (by rw[Ll];exact mo);rw[Ll]at aH;have b6:=mo.snoc aH;have D':=D.add a0 mv lg ⟨X.1,by lia⟩;have aN:Same H aS:=fun x u h=>b2 x u (je h a8) (je h aG) (je h aF) (aM _ _ h)
 have M:(l++[Fn.row (lastC o++(lastC o).take 1)]).length=o+1:=by rw[vn,fl];rfl
 have aV:(gs++[gg]).length=o+1:=by rw[D'.gl];exact M
 have aC:(gs++[gg]).getD ((l++[Fn.row (lastC o++(lastC o).take 1)]).length-1) 0=gg:=by
  rw[M,Nat.add_sub_cancel,<-fl,<-D.gl,jT]
 have aZ:atI ((gs++[gg]).map V.int) (-1)=some (.int gg):=by
  rw[x9 (gs:=gs++[gg]) (n:=o+1) (by lia) aV,Nat.add_sub_cancel,<-fl,<-D.gl,jT]
 have ax:=D'.sorted (by rw[Ll];exact b6) (by rw[Ll];lia) (by rw[M];lia);exists ixLm (SqL.of ac.eg) (aZ) ?_;exists⟨ub,?_⟩;walk_at"f r hr' H28 s28 t28";exact q r b pl pp F _ names B _ _ _ H28 (aN.trans s28) (by rw[aC];exact t28) (ac.bk.same s28) ax (ax.sn (by rw[M];lia) nd a9 (by lia) (by rw[M];lia) (by rw[M];lia) lh) (by rw[M];lia) (by rw[M];lia) nl nd nW nz (by rw[aC];have:=pow8 (show l.length+1<=12 by lia);have e:(10:Int)^40*8^12*2<=10^60:=(by decide);lia) (by lia) (by lia) a9 b3 S.lp
theorem kQ(T:Txt K mg t):FnOk P w K mg base CX0 1 t.qO t.qS ["_law_form_here"] (sp_below):=by
 specialize T.ZP.F.ok kW;obtain⟨a,g,rfl,d,f,q⟩:=h;refine⟨_,(jc (jS (jp Ja (jg ji (pv 0) jd) jx (nomark _))
   (jf (ju (jK (ja (jg ji (pv 0) jd) jb))))
   jv)
  (jc (jS (jp yR (jg ji (pv 0) jd) (jD (ja jx (ja jx jb))) (by with_unfolding_all rfl))
   (jf (ju (Jt qR (by rfl) T.zE Q7 (ja (jg ji (pv 0) jd) jb))))
   jv)
  (jf (ju (jK jb))))),?_⟩
 refine jw (σ':=[some _]) rfl ?_
 try dsimp only[cxOf,Cx.nox]
 have i:(200:Nat)<sizeLine:=by decide
 cases g with
 | smp r vs=>
  cases r with
  | false=>
   have c:H a=some (.tup (.str "hold"::vs)):=d;exists ixTm (SqT.of c) (at0) ?_;exists iteE0 ?_;exists ixTm (SqT.of c) (at0) ?_;exists⟨ub,?_⟩;walk_at"f 1 t";refine⟨p1,_,rfl,.inr (SqT.of t1),rfl,rfl,_,rfl,?_⟩;refine iteE0 ?_;exists⟨va _,?_⟩;walk_at"f b hb H2 s2 t2";exact q b H2 (s1.trans s2) (none_of s1 hb) t2
  | true=>
   have c:H a=some (.tup (.str "ring"::vs)):=d;exists ixTm (SqT.of c) (at0) ?_;exists iteE0 ?_;exists ixTm (SqT.of c) (at0) ?_;exists⟨ub,?_⟩;walk_at"f 1 t";refine⟨p1,_,rfl,.inr (SqT.of t1),rfl,rfl,_,rfl,?_⟩;refine iteE0 ?_;exists⟨va _,?_⟩;walk_at"f b hb H2 s2 t2";exact q b H2 (s1.trans s2) (none_of s1 hb) t2
 | rise x h n=>
  have c:H a=some (.tup [.str "raise",x,h,n]):=d;exists ixTm (SqT.of c) rfl ?_;exists iteE0 ?_;exists ixTm (SqT.of c) rfl ?_;exists⟨ub,?_⟩;walk_at"f 1 t";refine⟨p1,_,rfl,.inr (SqT.of t1),rfl,rfl,_,rfl,?_⟩;refine iteE0 ?_;exists⟨va _,?_⟩;walk_at"f b hb H2 s2 t2";exact q b H2 (s1.trans s2) (none_of s1 hb) t2
 | again k x=>
  have c:H a=some (.tup [.str "again",k,x]):=d;exists ixTm (SqT.of c) rfl ?_;exists iteE1 ?_;exists ixTm (SqT.of c) rfl ?_;exists⟨uc,?_⟩;walk_at"f b hb H1 s1 t1";exact q b H1 s1 hb t1
 | many s xs=>
  obtain⟨b,c,e⟩:=d;cases s with
  | false=>
   have c:H a=some (.tup [.str "row",.ref b]):=c;exists ixTm (SqT.of c) rfl ?_;exists iteE0 ?_;exists ixTm (SqT.of c) rfl ?_;exists⟨ub,?_⟩;walk_at"f 1 t";refine⟨p1,_,rfl,.inr (SqT.of t1),rfl,rfl,_,rfl,?_⟩;refine iteE1 ?_;exists ixTm (SqT.of (s1 _ _ c)) rfl ?_;refine⟨b,_,rfl,.inr (SqT.of (s1 _ _ e)),?_⟩;walk_at"f l hl H2 s2 t2";exact q l H2 (s1.trans s2) (none_of s1 hl) t2
  | true=>
   have c:H a=some (.tup [.str "side",.ref b]):=c;exists ixTm (SqT.of c) rfl ?_;exists iteE0 ?_;exists ixTm (SqT.of c) rfl ?_;exists⟨ub,?_⟩;walk_at"f 1 t";refine⟨p1,_,rfl,.inr (SqT.of t1),rfl,rfl,_,rfl,?_⟩;refine iteE1 ?_;exists ixTm (SqT.of (s1 _ _ c)) rfl ?_;refine⟨b,_,rfl,.inr (SqT.of (s1 _ _ e)),?_⟩;walk_at"f l hl H2 s2 t2";exact q l H2 (s1.trans s2) (none_of s1 hl) t2
theorem kg(T:Txt K mg t)(Q1:FnOk P w K mg base CX0 1 t.qO t.qS ["_law_form_here"] (sp_below)):FnOk P w K mg base CX0 2 t.QJ t.QL ["_law_box","_law_limbs"] (sp_isbox):=by
 specialize T.QH.F.ok qq;obtain⟨t0,l,f,l0,ad,L,ls,g,rfl,y,el,la,a5,sh,R,dr,nd,D,k1,ac,nm,q⟩:=h;refine⟨_,(jc (jS (PW.pt (Zy (zS (zT (jz ZV (by rfl) T.qQ qD (ja (pv 0) (ja (Yz (v:=.ty "tuple") (by rfl) T.Zg QW rfl) jb))))) (Zy (jp j3M (jz jR (by rfl) T.JT Jj (ja (pv 0) jb)) jd (nomark _)) (Zy (jp (yS hr.units) (jg ji (pv 0) jd) (pv 1) (nomark _)) (kx (zS (zT (jz ZV (by rfl) T.qQ qD (ja (jg ji (pv 0) jd) (ja (Yz (v:=.ty "list") (by rfl) T.zE Q7 rfl) jb))))))))))
   (jf (ju zQ))
   jv)
  (jc (jo (i:=2) qq.nd rfl (.inl rfl) QY)
  (jc (j2 PassesOwn.never rfl (JG (by rfl) T.JO (ja (jz jR (by rfl) T.JT Jj (ja (jg ji (pv 0) jd) jb)) jb)) (jm (i:=3) qq.nd rfl (.inl rfl))
   (jc (jS (jp (j4m hr.units) (jg jA (jg ji (pv 0) jd) (pv 3)) (qm yo (jg ji (pv 0) jd) QB (qo (pv 3))) (by with_unfolding_all rfl))
    (jf (ju zQ))
    jv)
   (jf (j2 PassesOwn.never rfl (jF (jk T.ZP Q1 hr (ja (jg jA (jg ji (pv 0) jd) (pv 3)) jb))) (jm (i:=4) qq.nd rfl (.inl rfl))
    (jc (jS (PW.pt (Zy (zS (zT (jz ZV (by rfl) T.qQ qD (ja (pv 4) (ja (Yz (v:=.ty "int") (by rfl) T.j4T j3X rfl) jb))))) (Zy (zT (jz ZV (by rfl) T.qQ qD (ja (pv 4) (ja (Yz (v:=.ty "bool") (by rfl) T.j3T j2s rfl) jb)))) (Zy (jp WG (pv 4) jd (nomark _)) (kx (jp j1A (pv 4) (pv 3) (nomark _)))))))
     (jf (ju zQ))
     jv)
    (jf (zf (qt hr) (pv 2) (pv 4) zQ rfl)))))))
  (jf (ju (YB (km hr.units) (jz (Zx rfl) (by rfl) T.YS yC (ja (pv 2) jb)) (kr rfl (by rfl) T.zE (by rfl) T.JO (ja (jt ZJ (jz jR (by rfl) T.JT Jj (ja (jg ji (pv 0) jd) jb)) jd) jb)) (nomark _))))))),?_⟩
 refine jw (σ':=[some _,some _,none,none,none]) rfl ?_
 try dsimp only[cxOf,Cx.nox]
 have sz:(200:Nat)<sizeLine:=by decide
 have dl:=dr.1;exists⟨_,_,_,_,rfl,.tup y,kP,?_⟩;exists iteF ?_;exists⟨_,_,rfl,.inr ⟨_,SqT.of y,rfl⟩,?_⟩;exists iteF ?_;exists ixTm (SqT.of y) rfl ?_;exists⟨_,_,DV.lst el (zL (fun _ _ h=>wj h) la),DV.lst a5 (zL (fun _ _ h=>wj h) la),sh.ok (by decide),sh.ok (by decide),?_⟩;rw[SeqAt.eqv_refl _ sh.1];exists iteF ?_;exists ixTm (SqT.of y) rfl ?_;exists⟨_,_,_,_,rfl,.lst R,Wp,?_⟩;exists iteF ?_;walk_at"g";walk_at"f d1 hd1 H1 s1 t1";exists ixTm (SqT.of (s1 _ _ y)) rfl ?_;exists⟨_,_,rfl,.inl ⟨_,SqL.of (s1 _ _ R),rfl⟩,?_⟩;rw[vt,dl];exists⟨_,rfl,by lia,by lia,?_⟩;refine Zl (fun i I J=>IvE4 fun(o2 G:Option V) (p:List (Key×V)) (S:List Nat)=>IvA5 (I=[some (.ref t0),some (.ref l0),some (.ref d1),o2,G]) (Same H J) (J d1=some (.dK p)) (KySet p S) (∀x,x∈S↔∃(j:Nat) (d:Dm),j<i/\g[j]?=some d/\x∈d.ns))
  ⟨_,_,[],[],rfl,s1,t1,⟨rfl,nodup_nil⟩,fun x=>⟨(fun h=>nomatch h),fun⟨j,d,h,_⟩=>ud h (Nat.not_lt_zero _)⟩⟩ ?_ ?_
 ·rintro i I J hi ⟨o2,G,p,S,rfl,B,ed,ky,U⟩;have hi:i<g.length:=by lia
  rw[show(0:Int)+(i:Nat)=(i:Nat)from uv _];have o:g[i]?=some g[i]:=vz hi;obtain⟨a,ha,ga⟩:=dr.get o;have a6:=ga.same B;have a7:=vm o;have n8:=D.l8 _ a7;have F:atI (L.map V.ref) (i:Nat)=some (.ref a):=jG (j:=i) (by rw[vv,ha];rfl);exists ixTm (SqT.of (B _ _ y)) rfl ?_;exists ixLm (SqL.of (B _ _ R)) (F) ?_;exists ixTm (SqT.of (B _ _ y)) rfl ?_;exists⟨f,_,rfl,SqL.of (B _ _ R),?_⟩;rw[j2y,<-map_take];walk_at"f 2 t";have C:=B.trans s2;have Y:DrAt H2 (L.take i) (g.take i):=by
   refine⟨by rw[vi,vi,dl],fun j b d hb o=>?_⟩;rw[List.getElem?_take]at hb o;split at hb
   ·rename_i W;rw[vd W]at o;exact(dr.2 j b d hb o).same C
   ·cases hb
  refine⟨a,p2,_,L.take i,(g.take i).map kD,rfl,rfl,t2,Y.key.1,Y.key.2,wC (a6.same s2),_,rfl,?_⟩;have ab:¬g[i]∈g.take i:=fun h=>by
   obtain⟨j,W,e⟩:=mem_iff_getElem.mp h;rw[vi]at W;rw[getElem_take]at e;have:=(List.getElem_inj nd).mp e;lia
  rw[j2S,vH ab];refine iteF ?_;exists ixTm (SqT.of (C _ _ y)) rfl ?_;exists ixLm (SqL.of (C _ _ R)) (F) ?_;exists⟨a,_,rfl,ga.same C,by rw[j0X,vt];exact n8,fun l5 H5 s5 a1 e5=>?_⟩;rw[j0X]at e5;have a3:=s2.trans s5;have a4:=a3 _ _ ed;have n5:l5≠d1:=fun z=>by rw[z,s2 _ _ ed]at a1;cases a1
  refine⟨l5,rfl,⟨_,SqL.of e5⟩,?_⟩;refine Jf (xs:=g[i].ns.map vN) (fun j I X=>IvE2 fun(G:Option V) (m:List (Key×V))=>IvA3 (I=[some (.ref t0),some (.ref l0),some (.ref d1),some (.int (i:Nat)),G]) (∀c u,c≠d1->H5 c=some u->X c=some u) (X d1=some (.dK m)/\KySet m (addS S (g[i].ns.take j))))
   ⟨_,p,rfl,fun c u _ h=>h,a4,ky⟩ ?_ ?_ ?_
  ·rintro j I X _ ⟨G,m,rfl,s6,e6,M⟩;exact SqL.of (s6 _ _ n5 e5)
  ·rintro j x I X r ⟨G,m,rfl,s6,e6,M⟩;obtain⟨z,a2,rfl,aa⟩:=yp r;have W:=(vx.mp a2).1;have zl:=D.lt i _ o z aa;have kl:=M.len;have sl:(addS S (g[i].ns.take j)).length<=g.length:=Z8 M.2 fun x r=>by
    rcases qj.mp r with h | h
    ·obtain⟨j',d',_,a0,a9⟩:=(U x).mp h;have:=D.lt j' d' a0 x a9;have:=(vx.mp a0).1;lia
    ·have:=D.lt i _ o x (uw h);lia
   exists⟨_,_,_,_,rfl,.int _,X6,?_⟩;exists iteF ?_;exists⟨_,_,_,_,rfl,.int _,xo,?_⟩;exists iteF ?_;exists iteD (fun c=>ud c (by lia)) (fun _=>?_);exists iteD (fun c=>ud c (by lia)) (fun _=>?_);exists⟨d1,_,rfl,DPut.k (k:=iK z) e6 (by lia),?_⟩;refine⟨_,_,rfl,fun c u n h=>(jh n).trans (s6 _ _ n h),jq,?_⟩;rw[take_snoc a2,Kb];exact M.put z _
  rintro I X ⟨G,m,rfl,s6,e6,M⟩;rw[vt,v7]at M;refine⟨_,_,m,_,rfl,fun c u h=>s6 _ _ (je h hd1) (a3 _ _ (B _ _ h)),e6,M,fun x=>?_⟩;rw[qj,U x];constructor
  ·rintro(⟨j,d,h1,Z,h3⟩ | h)
   ·exact⟨j,d,by lia,Z,h3⟩
   ·exact⟨i,_,by lia,o,h⟩
  ·rintro⟨j,d,h1,Z,h3⟩;rcases Nat.lt_or_ge j i with z | z
   ·exact .inl ⟨j,d,z,Z,h3⟩
   ·have:j=i:=by lia
    subst this;rw[o]at Z;cases Z;exact .inr h3
 rintro I J ⟨o2,G,p,S,rfl,B,ed,ky,U⟩;rw[show((g.length:Nat):Int).toNat=g.length from Int.toNat_natCast _]at U;have sl:S.length<=g.length:=Z8 ky.2 fun x r=>by
  obtain⟨j,d,W,o,r⟩:=(U x).mp r;have:=D.lt j d o x r;lia
 exists⟨d1,p,S.map (fun n:Nat=>(n:Int)),rfl,ed,by rw[ky.1,v8];rfl,by rw[vt];lia,fun l9 ms a8 pm od=>?_⟩;obtain⟨ns,e1,e2,e3⟩:=Yl pm od ky.2;have en:ns=List.range (g.length-1):=Yy e2 List.pairwise_lt_range fun x=>by
  rw[e3,U,v6];constructor
  ·rintro⟨j,d,W,o,r⟩;have:=D.lt j d o x r;lia
  ·intro r;obtain⟨i,d,o,hm⟩:=nm x (by lia);exact⟨i,d,(vx.mp o).1,o,hm⟩
 rw[e1,en];have s9:Same J (upd J l9 (.lst ((List.range (g.length-1)).map vN))):=YJ a8 rfl;generalize eH:upd J l9 (.lst ((List.range (g.length-1)).map vN))=H9 at s9|-;have t9:=YR eH;have N:=B.trans s9;exists j3N ?_;exists ixTm (SqT.of (N _ _ y)) rfl ?_;exists⟨_,_,rfl,.inl ⟨_,SqL.of (N _ _ R),rfl⟩,?_⟩;rw[vt,dl];exists⟨g.length-1,(by rw[show((g.length:Nat):Int)-1=((g.length-1:Nat):Int) by lia]),by lia,?_⟩;walk_at"f p9 hp9 HA sA tA";have O:Shp 1 (.list ((List.range (g.length-1)).map natD)):=Shp.lst (n:=0) fun d o=>by
  obtain⟨n,_,rfl⟩:=vK.mp o;exact Shp.int
 refine⟨_,_,DV.lst (sA _ _ t9) (zJ _),DV.lst tA (zJ _),O.ok (by decide),O.ok (by decide),?_⟩;rw[SeqAt.eqv_refl _ O.1];exact q _ (N.trans sA)
theorem Yn(T:Txt K mg t):FnOk P w K mg base CX0 1 t.qh t.qi ["_law_book_here"] (sp_ren):=by
 specialize T.zp.F.ok jQ;obtain⟨b,pl,pp,a6,a0,ls,U,rfl,B,W,p8,q⟩:=h;refine⟨_,(jc (jo (i:=1) jQ.nd rfl (.inr rfl) QY)
  (jc (j2 PassesOwn.never rfl (jF (jg ji (pv 0) jd)) (Jq rfl (jr (jm (i:=2) jQ.nd rfl (.inl rfl)) (jr (jm (i:=3) jQ.nd rfl (.inl rfl)) jZ)))
   (jf (zf (qt hr) (pv 1) (pv 2) (jt qx jx (pv 2)) rfl)))
  (jc (jo (i:=4) jQ.nd rfl (.inl rfl) (jK jb))
  (jc (j2 PassesOwn.never rfl (jF (jg ji (pv 0) jd)) (Jq rfl (jr (jm (i:=2) jQ.nd rfl (.inl rfl)) (jr (jm (i:=3) jQ.nd rfl (.inl rfl)) jZ)))
   (jc (Qh (PW.pt (Zy (jp Ja (jg ji (pv 3) jd) jx (nomark _)) (kx (jp Ja (jg ji (pv 3) jd) jx (nomark _)))))
    (jf (jo (i:=3) jQ.nd rfl (.inl rfl) (jD (ja (jg ji (pv 3) jd) (ja (Jt JX (by rfl) T.Zg QW (ja (jU (ow:=["_law_one"]) (ci:=[1]) rfl (CompScope.of (defScope qp) ["_law_book_here","_law_new","_law_name","_law_form_here","_law_parts"] rfl rfl (by decide +kernel)) (jY (by decide)) (yT (jg ji (pv 3) jd)) (fun _ _ _ _ _=>⟨(jm (i:=0) (jJ ["_law_book_here","_law_new","_law_name","_law_form_here","_law_parts"] rfl (by decide +kernel)) rfl (.inl rfl)),Ju,(ze (qt hr) (pv 1) (pv 0))⟩)) jb)) jb)))))
    (jf (jS (jp Ja (jg ji (pv 3) jd) jx (nomark _))
     (jf (jo (i:=3) jQ.nd rfl (.inl rfl) (jD (ja jx (ja (jg ji (pv 3) jd) (ja (ze (qt hr) (pv 1) (jg ji (pv 3) jd)) jb))))))
     jv)))
   (jf (j5 (qI PySem.F.plainAttrs_list PySem.F.slot_list_append PySem.F.type_list_append jX (pv 4) (ja (jD (ja (ze (qt hr) (pv 1) (pv 2)) (ja (pv 3) jb))) jb))))))
  (jf (ju (pv 4))))))),?_⟩
 refine jw (σ':=[some _,none,none,none,none]) rfl ?_
 try dsimp only[cxOf,Cx.nox]
 have sz:(200:Nat)<sizeLine:=by decide
 have a7:=W.p61;have pa:=B.pa.1;have a5:(nmsOf U).length=U.length:=vt _;walk_at"g";walk_at"f d hd H1 s1 t1";exists ixTm (SqT.of (s1 _ _ B.t)) rfl ?_;refine⟨pp,rfl,⟨_,SqL.of (s1 _ _ B.p)⟩,?_⟩;refine Jf (xs:=a0.map V.ref) (fun i M f=>IvE2 fun(I J:Option V)=>IvA2 (M=[some (.ref b),some (.ref d),I,J,none]) (Same H f/\f d=some (.dK (zK ((nmsOf U).take i)))))
  ⟨_,_,rfl,s1,t1⟩ ?_ ?_ ?_
 ·rintro i M f _ ⟨I,J,rfl,z,_⟩;exact SqL.of (z _ _ B.p)
 ·rintro i x M f C ⟨I,J,rfl,z,X⟩;obtain⟨a,p,rfl,O,N,S,hf⟩:=B.pa.at_ref C;have hi:=(vx.mp O).1;have F:(nmsOf U)[i]?=some p.1:=by unfold nmsOf;rw[vv,O];rfl
  have l8:=p8 p (vm O);refine JA (SqT.of (z _ _ S)) ?_;exists⟨_,_,rfl,rfl,(by show 1+p.1.length<=sizeLine;lia),?_⟩;exists⟨d,_,rfl,DPut.k (k:=Sum.inr p.1) X (by rw[j4Q,vi];lia),?_⟩;rw[zU (j4R W.pn F)];refine⟨_,_,rfl,Ws.j21 z hd,?_⟩;rw[jq,take_snoc F,j3B];rfl
 rintro M H2 ⟨I,J,rfl,D,X⟩;rw[vt,pa,<-a5,v7]at X;exists⟨va _,?_⟩;walk_at"f r hr3 H3 s3 t3";have a4:=D.trans s3;have e3:=s3 _ _ X;exists ixTm (SqT.of (a4 _ _ B.t)) rfl ?_;refine⟨pp,rfl,⟨_,SqL.of (a4 _ _ B.p)⟩,?_⟩;refine Jf (xs:=a0.map V.ref) (fun i M f=>IvE3 fun(I J:Option V) (l:List Addr)=>IvA3 (M=[some (.ref b),some (.ref d),I,J,some (.ref r)]) (Same H2 f) (f r=some (.lst (l.map V.ref))/\All2 (PartAt f) l (rnP (U.take i))))
  ⟨_,_,[],rfl,s3,t3,.nil⟩ ?_ ?_ ?_
 ·rintro i M f _ ⟨I,J,l,rfl,z,_⟩;exact SqL.of (z _ _ (D _ _ B.p))
 ·rintro i x M f C ⟨I,J,l,rfl,z,er,ma⟩;obtain⟨a,p,rfl,O,N,S,hf⟩:=B.pa.at_ref C;have hi:=(vx.mp O).1;have F:(nmsOf U)[i]?=some p.1:=by unfold nmsOf;rw[vv,O];rfl
  have s0:=D.trans z;have ed:=z _ _ X;have ml:l.length=i:=by rw[ma.1];unfold rnP;rw[vt,vi];lia
  obtain⟨wf,w8⟩:=W.f i p O;have gk:∀{G:Hp} {x:Str},Same f G->x∈nmsOf U->DGet G d (.str x) (some (.str (zn x))):=fun {G x} s h=>by
   have g:=DGet.k (k:=Sum.inr x) (s _ _ ed);rw[j4S W.pn h]at g;exact g
  have o:=FormAt.same s0 hf;rw[j1V O];refine JA (SqT.of (s0 _ _ S)) ?_;exists⟨fun σ' G=>∃(c:Addr),σ'=[some (.ref b),some (.ref d),some (.str p.1),some (.ref c),some (.ref r)]/\Same f G/\FormAt G c (zF p.2),?_,?_⟩
  ·rintro σ' G ⟨c,rfl,sG,hc⟩;have R:=sG _ _ er;exists⟨.inl ⟨rfl,_,SqL.of R⟩,?_⟩;exists⟨d,_,rfl,gk sG (vm F),?_⟩;exists⟨ub,?_⟩;walk_at"f 5 t";exists⟨r,_,_,rfl,rfl,s5 _ _ R,by rw[vt];lia,?_⟩;have pt:PartAt H5 p5 (zn p.1,zF p.2):=⟨c,t5,FormAt.same s5 hc⟩
   obtain⟨a1,a2,a3⟩:=WJ (s5 _ _ R) (ma.mono fun b x h=>PartAt.same (sG.trans s5) h) pt;exact⟨_,_,l++[p5],rfl,fun c u h=>a3 _ _ (je h hr3) (s5 _ _ (sG _ _ (z _ _ h))),a1,a2⟩
  obtain⟨nm,fm⟩:=p;dsimp only at o wf w8|-;cases fm with
  | hold n=>
   have e:f N=some (.tup [.str "hold",.int n]):=o;exists ixTm (SqT.of e) rfl ?_;exists iteE0 ?_;exists ixTm (SqT.of e) rfl ?_;exists iteE0 ?_;exists ixTm (SqT.of e) rfl ?_;exists iteE0 ?_;walk_at"g";exact⟨N,rfl,Same.refl _,e⟩
  | ring x n=>
   have e:f N=some (.tup [.str "ring",.str x,.int n]):=o;exists ixTm (SqT.of e) rfl ?_;exists iteE0 ?_;exists ixTm (SqT.of e) rfl ?_;exists iteE0 ?_;exists ixTm (SqT.of e) rfl ?_;exists iteE0 ?_;walk_at"g";exact⟨N,rfl,Same.refl _,e⟩
  | rise x v n=>
   have e:f N=some (.tup [.str "raise",.str x,.int v,.int n]):=o;exists ixTm (SqT.of e) rfl ?_;exists iteE0 ?_;exists ixTm (SqT.of e) rfl ?_;exists iteE0 ?_;exists ixTm (SqT.of e) rfl ?_;exists iteE0 ?_;walk_at"g";exact⟨N,rfl,Same.refl _,e⟩
  | again k x=>
   have e:f N=some (.tup [.str "again",.int k,.str x]):=o;obtain⟨j,_,hj⟩:=wf x vq;exists ixTm (SqT.of e) rfl ?_;exists iteE0 ?_;exists ixTm (SqT.of e) rfl ?_;exists iteE0 ?_;exists ixTm (SqT.of e) rfl ?_;exists iteE1 ?_;exists ixTm (SqT.of e) rfl ?_;exists ixTm (SqT.of e) rfl ?_;refine⟨d,_,rfl,gk (Same.refl _) (vm hj),?_⟩;exists⟨uA,?_⟩;walk_at"f 5 t";exact⟨p5,rfl,s5,t5⟩
  | row xs=>
   obtain⟨c,e,Y⟩:=o;have xl:xs.length<=8:=w8;exists ixTm (SqT.of e) rfl ?_;exists iteE1 ?_;refine iteT ?_;exists ixTm (SqT.of e) rfl ?_;exists ixTm (SqT.of e) rfl ?_;refine⟨c,rfl,⟨_,SqT.of Y⟩,?_⟩;refine Qb (xs:=xs.map V.str) (fun j L G=>L=((xs.take j).map zn).map V.str/\f=G) ⟨rfl,rfl⟩ ?_ ?_ ?_
   ·rintro j L G _ ⟨rfl,rfl⟩;exact SqT.of Y
   ·rintro j y L G Z ⟨rfl,rfl⟩;rw[vv]at Z;obtain⟨y,C,rfl⟩:=vg.mp Z;obtain⟨m,_,hm⟩:=wf y (vm C);have hj:=(vx.mp C).1;refine jV (σ':=[none,some (.ref d)]) rfl ?_;exists iteT ?_;exists⟨d,_,rfl,gk (Same.refl _) (vm hm),?_⟩;refine⟨by rw[vt,vt,vi];lia,?_,rfl⟩;rw[take_snoc C,vj,vj];rfl
   rintro L G ⟨rfl,rfl⟩;rw[show(xs.map V.str).length=xs.length from vt _,v7];refine⟨by rw[vt,vt];lia,?_⟩;walk_at"f p3 hp3 H4 s4 t4";exists⟨p3,_,rfl,.inl ⟨SqL.of t4,?_⟩⟩;walk_at"f 6 t";exists⟨ub,?_⟩;walk_at"f 7 t";exact⟨p7,rfl,s4.trans (s6.trans s7),p6,t7,s7 _ _ t6⟩
  | side xs=>
   obtain⟨c,e,Y⟩:=o;have xl:xs.length<=8:=w8;exists ixTm (SqT.of e) rfl ?_;exists iteE0 ?_;exists ixTm (SqT.of e) rfl ?_;exists iteE1 ?_;exists ixTm (SqT.of e) rfl ?_;exists ixTm (SqT.of e) rfl ?_;refine⟨c,rfl,⟨_,SqT.of Y⟩,?_⟩;refine Qb (xs:=xs.map V.str) (fun j L G=>L=((xs.take j).map zn).map V.str/\f=G) ⟨rfl,rfl⟩ ?_ ?_ ?_
   ·rintro j L G _ ⟨rfl,rfl⟩;exact SqT.of Y
   ·rintro j y L G Z ⟨rfl,rfl⟩;rw[vv]at Z;obtain⟨y,C,rfl⟩:=vg.mp Z;obtain⟨m,_,hm⟩:=wf y (vm C);have hj:=(vx.mp C).1;refine jV (σ':=[none,some (.ref d)]) rfl ?_;exists iteT ?_;exists⟨d,_,rfl,gk (Same.refl _) (vm hm),?_⟩;refine⟨by rw[vt,vt,vi];lia,?_,rfl⟩;rw[take_snoc C,vj,vj];rfl
   rintro L G ⟨rfl,rfl⟩;rw[show(xs.map V.str).length=xs.length from vt _,v7];refine⟨by rw[vt,vt];lia,?_⟩;walk_at"f p3 hp3 H4 s4 t4";exists⟨p3,_,rfl,.inl ⟨SqL.of t4,?_⟩⟩;walk_at"f 6 t";exists⟨ub,?_⟩;walk_at"f 7 t";exact⟨p7,rfl,s4.trans (s6.trans s7),p6,t7,s7 _ _ t6⟩
 rintro M f ⟨I,J,l,rfl,z,er,ma⟩;rw[vt,pa,v7]at ma;walk_at"g";exact q r l f (D.trans z) (none_of D hr3) er ma
theorem yc(T:Txt K mg t)(JF:FnOk P w K mg base CX0 3 t.JV t.JY ["self","beat"] (sp_sceneS t.jH)):FnOk P w K mg base CX0 4 t.JN t.JP ["self","beat"] (sp_wordsS t.jH):=by
 specialize T.yu.ok Jp;obtain⟨a,z,ls,j,gs,hs,E,t0,rfl,A,N,t1,t2,q⟩:=h;refine⟨_,(jc (jo (i:=2) Jp.nd rfl (.inl rfl) (jK jb))
  (jc (j2 PassesOwn.never rfl (jF (jg ji (YC (pv 0) T.jN T.zO (JF.mono (by decide)) hr T.Zv .nil pass0 (ja (pv 1) jb)) jd)) (Jq rfl (jr (jm (i:=3) Jp.nd rfl (.inl rfl)) (jr (jm (i:=4) Jp.nd rfl (.inl rfl)) jZ)))
   (jc (jo (i:=5) Jp.nd rfl (.inl rfl) (jg jA (Qg (pv 0) rfl) (pv 3)))
   (jf (jS (PW.pt (ZL (jp Ja (jg ji (pv 5) jd) jx (nomark _)) (Zp (jp Ja (pv 4) jd (nomark _)))))
    (jf (j5 (qI PySem.F.plainAttrs_list PySem.F.slot_list_append PySem.F.type_list_append jX (pv 2) (ja (jg ji (pv 5) jd) jb))))
    jv))))
  (jf (ju (pv 2))))),?_⟩
 refine jw (σ':=[some _,some _,none,none,none,none]) rfl ?_
 try dsimp only[cxOf,Cx.nox]
 have sz:(10000:Nat)<sizeLine:=by decide
 obtain⟨dx,ob⟩:=A.ob;exists⟨va _,?_⟩;walk_at"f p1 hp1 H0 s0 e0";exists⟨a,dx,_,rfl,s0 _ _ ob,wk (by decide +kernel) (by decide +kernel) (by decide +kernel) (by decide +kernel) (by decide +kernel) (by decide +kernel),?_⟩;exists⟨a,z,ls,j,gs,hs,E,t0,rfl,A.same s0,N,t1,t2,fun r l1 l2 as P H1 s1 a0 I C M ll hb h2 a1 gP pl bP hP=>?_⟩;have F:=WS N hP;have J:=s0.trans s1;have e1:=s1 _ _ e0;have m1:∀{c u},H c=some u->c≠p1:=fun h=>je h hp1
 have n2:l2≠p1:=fun e=>by rw[e,e0]at I;cases I
 have al:=gP.1;have wl:∀xs:List (Nat×Int),(xs.flatMap (ringX j)).length<=xs.length:=fun xs=>by
  induction xs with
  | nil=>exact vb _
  | cons x r ih=>
   rw[flatMap_cons,vn,vQ];have:(ringX j x).length<=1:=by
    unfold ringX;split
    ·split<;>simp
    ·exact va _
   lia
 exists ixTm (SqT.of C) rfl ?_;refine⟨l2,rfl,⟨_,SqL.of h2⟩,?_⟩;refine Jf (xs:=as.map V.ref) (fun i σ m=>IvE3 fun(O R S:Option V)=>IvA2 (σ=[some (.ref a),some (.int t0),some (.ref p1),O,R,S]) ((∀c u,c≠p1->H1 c=some u->m c=some u)/\m p1=some (.lst (((P.take i).flatMap (ringX j)).map V.str))))
  ⟨_,_,_,rfl,fun c u _ h=>h,e1⟩ ?_ ?_ ?_
 ·rintro i σ m _ ⟨O,R,S,rfl,o,B⟩;exact SqL.of (o _ _ n2 h2)
 ·rintro i v σ m hv ⟨O,R,S,rfl,o,B⟩;obtain⟨c,x,rfl,Y,D⟩:=gP.at_ref hv;have hi:=(vx.mp Y).1;obtain⟨x1,x0,x2⟩:=bP x (vm Y);obtain⟨p,X⟩:∃p,j[x.1]?=some p:=⟨_,vz x1⟩
  obtain⟨W,U,hf⟩:=A.fo.get X;have l:(P.take (i+1)).flatMap (ringX j)=(P.take i).flatMap (ringX j)++ringX j x:=by
   rw[take_snoc Y,flatMap_append,flatMap_cons,List.flatMap_nil,append_nil]
  have n3:∀{c u},H c=some u->m c=some u:=fun h=>o _ _ (m1 h) (J _ _ h)
  have nc:c≠p1:=fun z=>by rw[z,e1]at D;cases D
  have g:FormAt m W p.2:=FormAt.put (fun b xs hb=>n3 hb) hf;refine JA (SqT.of (o _ _ nc D)) ?_;exists⟨a,_,dx,_,_,rfl,n3 ob,T.jN,T.J0,Kt,?_⟩;exists ixLm (SqL.of (n3 A.ho)) (J2 (i:=(x.1:Int)) (by lia) U) ?_;walk_at"g";by_cases d:∃y n,p.2 = .ring y n
  ·obtain⟨y,n,C⟩:=d;rw[C]at g;have G:m W=some (.tup [.str "ring",.str y,.int n]):=g;have L:ringX j x=if x.2=0 then[y]else[]:=by
    unfold ringX;rw[X];obtain⟨pn,pf⟩:=p;have C:pf = .ring y n:=C;subst C;rfl
   refine ixTm (SqT.of G) rfl ?_;exists iteE1 ?_;exists iteD (fun c=>?_) (fun c=>?_)
   ·exists⟨.inl ⟨rfl,_,SqL.of B⟩,?_⟩;exists ixTm (SqT.of G) rfl ?_;have:=wl (P.take i);rw[vi]at this;refine⟨p1,_,_,rfl,rfl,B,by rw[vt];lia,?_⟩;refine⟨_,_,_,rfl,fun c u D h=>(jh D).trans (o _ _ D h),jq.trans ?_⟩;rw[l,L,vd c,vj];rfl
   ·exists⟨_,_,_,rfl,o,?_⟩;rw[l,L,vc c,append_nil];exact B
  ·have L:ringX j x=[]:=by
    unfold ringX;rw[X];obtain⟨pn,pf⟩:=p;cases pf with
    | ring y n=>exact ud ⟨y,n,rfl⟩ d
    | _=>rfl
   have Z:∃k xs,m W=some (.tup (.str k::xs))/\decide (k=("ring" : Str))=false:=by
    generalize p.2=f at g d;cases f with
    | hold n=>exact⟨_,_,g,by decide +kernel⟩
    | ring y n=>exact ud ⟨y,n,rfl⟩ d
    | rise y v n=>exact⟨_,_,g,by decide +kernel⟩
    | row j=>obtain⟨b',M,_⟩:=g;exact⟨_,_,M,by decide +kernel⟩
    | side j=>obtain⟨b',M,_⟩:=g;exact⟨_,_,M,by decide +kernel⟩
    | again k y=>exact⟨_,_,g,by decide +kernel⟩
   obtain⟨k,xs,hk,dk⟩:=Z;refine ixTm (SqT.of hk) (at0) ?_;exists iteB0 dk ?_;exists⟨_,_,_,rfl,o,?_⟩;rw[l,L,append_nil];exact B
 rintro σ' m ⟨O,R,S,rfl,o,B⟩;rw[vt,al,v7,F]at B;walk_at"g";have w1:=wl P;rw[F]at w1;exact q p1 m (fun c u h=>o _ _ (m1 h) (J _ _ h)) hp1 B (by lia)
theorem j1y(T:Txt K mg t)(x:FnOk P w K mg base CX0 6 t.Jd t.Jr ["self","book"] (sp_initS t.jH))(M:FnOk P w K mg base CX0 4 t.JN t.JP ["self","beat"] (sp_wordsS t.jH)):FnOk P w K mg base CX0 8 t.KU t.wd ["book","beat"] (sp_ringsG):=by
 specialize T.KN.F.ok j22;obtain⟨b,J,L,e,f,k,m,g,j,R,rfl,B,N,S,U,q⟩:=h;refine⟨_,(jf (ju (YC (XA T.xY (x.mono (by decide)) hr (by rfl) T.Ww T.QU .nil pass0 (ja (pv 0) jb)) T.jN T.Z6 (M.mono (by decide)) hr T.yr .nil pass0 (ja (pv 1) jb)))),?_⟩;refine jw (σ':=[some _,some _]) rfl ?_
 try dsimp only[cxOf,Cx.nox]
 walk_at"g";intro o a i d W;have n:Same H (upd (upd H a (.own o)) o (.ins t.jH a [])):=fun c u h=>(jh (je h i)).trans ((jh (je h d)).trans h)
 refine⟨o,a,b,J,L,e,f,k,m,g,j,rfl,jq,B.same n,N,fun z E r F A=>⟨rfl,?_⟩⟩;obtain⟨y,I⟩:=A.ob;have p:Same H r:=fun c u h=>F _ _ (je h i) (n _ _ h)
 refine⟨o,y,_,rfl,I,wk (by decide +kernel) (by decide +kernel) (by decide +kernel) (by decide +kernel) (by decide +kernel) (by decide +kernel),?_⟩;exists⟨o,z,k,m,g,j,E,R,rfl,A,N,S,U,fun l v O D C G=>?_⟩;exact q l v (p.trans O) (none_of p D) C G
theorem kR(T:Txt K mg t)(D:FnOk P w K mg base CX0 8 t.Yq t.Yr ["book","beat"] (sp_standG))(G:FnOk P w K mg base CX0 8 t.KU t.wd ["book","beat"] (sp_ringsG)):FnOk P w K mg base CX0 9 t.Q4 t.Q8 ["_law_book_here","_law_other","_law_beat"] (sp_plays):=by
 specialize T.Q0.F.ok kY;obtain⟨b,U,W,o,R,S,i,k,j,l,p,z,X,u,f,L,g,m,rfl,B,O,N,C,r,t1,t2,x,wW,q⟩:=h;refine⟨_,(jf (ju (j4q (YB (km hr.units) (jk T.ZS D hr (ja (pv 1) (ja (pv 2) jb))) (jk T.ZS D hr (ja (pv 0) (ja (pv 2) jb))) (nomark _)) (j4r (YB (km hr.units) (jk T.KN G hr (ja (pv 1) (ja (pv 2) jb))) (jk T.KN G hr (ja (pv 0) (ja (pv 2) jb))) (nomark _)))))),?_⟩;refine jw (σ':=[some _,some _,some _]) rfl ?_
 try dsimp only[cxOf,Cx.nox]
 have sz:(200:Nat)<sizeLine:=by decide
 exists⟨o,R,S,j,l,p,X,f,g,m,rfl,O,C,r,t2,fun l1 F H1 Y a0 fl oF I _=>?_⟩;exists⟨b,U,W,i,k,p,z,u,L,m,rfl,B.same Y,N,r,t1,fun l2 E H2 Z a1 le oE e2 _=>?_⟩;obtain⟨x1,x2⟩:=x E F le fl oE oF;rw[x1]at I;have a:∀M:List Int,Shp 1 (.list (M.map PyData.int)):=fun M=>Shp.lst (n:=0) fun d v=>by
  obtain⟨n,_,rfl⟩:=vK.mp v;exact Shp.int
 exists⟨_,_,DV.lst (Z _ _ I) (Zi _),DV.lst e2 (Zi _),(a _).ok (by decide),(a _).ok (by decide),?_⟩;rw[SeqAt.eqv_refl _ (a _).1];exists iteT ?_;have c:=Y.trans Z;exists⟨o,R,S,j,l,p,X,f,g,m,rfl,O.same c,C,r,t2,fun l3 H3 s3 a2 J _=>?_⟩;exists⟨b,U,W,i,k,p,z,u,L,m,rfl,(B.same c).same s3,N,r,t1,fun l4 H4 s4 a3 e4 _=>?_⟩;rw[x2]at J;have e:Shp 2 (.list ((ringsW z u m).map PyData.str)):=Shp.lst (n:=1) fun d v=>by
  obtain⟨n,hn,rfl⟩:=vK.mp v;exact kF (xs:=[_]) (fun y hy=>by rw[vo.mp hy];exact wW n hn) _ (vo.mpr rfl)
 refine⟨_,_,DV.lst (s4 _ _ J) (Yt _),DV.lst e4 (Yt _),e.ok (by decide),e.ok (by decide),?_⟩;rw[SeqAt.eqv_refl _ e.1];exact q _ (c.trans (s3.trans s4))
theorem j4k(T:Txt K mg t)(Ze:FnOk P w K mg base CX0 3 t.KP t.K7 ["book"] (sp_drums))(qW:FnOk P w K mg base CX0 2 t.yz t.yG ["box"] (sp_bookof))(Qn:FnOk P w K mg base CX0 8 t.Yq t.Yr ["book","beat"] (sp_standG))(zr:FnOk P w K mg base CX0 5 t.zB t.zG ["_law_script","_law_start","_law_most"] (sp_bookP K))(qB:FnOk P w K mg base CX0 2 t.QJ t.QL ["_law_box","_law_limbs"] (sp_isbox))(qZ:FnOk P w K mg base CX0 1 t.qh t.qi ["_law_book_here"] (sp_ren))(qM:FnOk P w K mg base CX0 9 t.Q4 t.Q8 ["_law_book_here","_law_other","_law_beat"] (sp_plays)):FnOk P w K mg base CX0 10 t.j0B t.Xb ["_law_script"] (Pr.sp_law K):=by
 specialize T.j0y.F.ok zk;obtain⟨a,ns,rfl,hS,b8,hB,q⟩:=h;refine⟨_,(jc (wS (jk T.Ya zr hr (ja (pv 0) (ja jd (ja (jt ko jd jd) jb)))) (Jq rfl (jr (jm (i:=1) zk.nd rfl (.inl rfl)) (jr (jm (i:=2) zk.nd rfl (.inl rfl)) jZ))))
  (jc (jo (i:=3) zk.nd rfl (.inl rfl) (jk T.ZR Ze hr (ja (pv 1) jb)))
  (jc (jo (i:=4) zk.nd rfl (.inl rfl) (jD (ja (jg ji (pv 1) jd) (ja (jt yQ (jg ji (pv 1) jd) (jk T.zp qZ hr (ja (pv 1) jb))) jb))))
  (jc (j5 (qI PySem.F.plainAttrs_list PySem.F.slot_list_append PySem.F.type_list_append jX (jg ji (pv 4) jd) (ja (jD (ja jx (ja (jD (ja jx (ja (jD (ja (jg ji (jg jA (jg ji (pv 1) jd) (zR Qi jd)) jd) (ja (jt qx jx (jg ji (jg jA (jg ji (pv 1) jd) (zR Qi jd)) jd)) jb))) jb))) jb))) jb)))
  (jc (jo (i:=5) zk.nd rfl (.inl rfl) (jk T.ZR Ze hr (ja (pv 4) jb)))
  (jc (jS (PW.pt (Zy (zS (zT (jk T.QH qB hr (ja (pv 3) (ja (jg ji (pv 1) jd) jb))))) (Zy (zS (zT (jk T.QH qB hr (ja (pv 5) (ja (jg ji (pv 1) jd) jb))))) (kx (jp j3M (jz jR (by rfl) T.JT Jj (ja (jg ji (pv 5) jd) jb)) (jt Jh (jz jR (by rfl) T.JT Jj (ja (jg ji (pv 3) jd) jb)) jd) (nomark _))))))
   (jf (ju zQ))
   jv)
  (jc (jo (i:=6) zk.nd rfl (.inl rfl) (jk T.QV qW hr (ja (pv 3) jb)))
  (jc (jS (PW.pt (Zy (jp (yS hr.units) (jk T.ZR Ze hr (ja (pv 6) jb)) (pv 3) (nomark _)) (kx (jp (yS hr.units) (jk T.ZR Ze hr (ja (jk T.QV qW hr (ja (pv 5) jb)) jb)) (pv 5) (nomark _)))))
   (jf (ju zQ))
   jv)
  (jc (j2 PassesOwn.never rfl (jF (jt yQ (jK (ja jd (ja jd jb))) (qm yo (pv 0) (qo jd) (qo jd)))) (jm (i:=7) zk.nd rfl (.inl rfl))
   (jc (jo (i:=8) zk.nd rfl (.inl rfl) (jt qy (jt wN (pv 7) jd) (jt Jh (pv 2) jd)))
   (jc (jS (zS (zT (jk T.Q0 qM hr (ja (pv 1) (ja (pv 6) (ja (pv 8) jb))))))
    (jf (ju zQ))
    jv)
   (jf (jS (zS (zT (jk T.Q0 qM hr (ja (pv 4) (ja (jk T.QV qW hr (ja (pv 5) jb)) (ja (jt qy (jt wN (pv 7) jd) (jt Jh (jt j1C jd (pv 2)) jd)) jb))))))
    (jf (ju zQ))
    jv)))))
  (jf (ju (YB (km hr.units) (jk T.ZS Qn hr (ja (jk T.QV qW hr (ja (pv 5) jb)) (ja (jt j1C jd (pv 2)) jb))) (jk T.ZS Qn hr (ja (pv 1) (ja (pv 2) jb))) (nomark _))))))))))))),?_⟩
 refine jw (σ':=[some _,none,none,none,none,none,none,none,none]) rfl ?_
 try dsimp only[cxOf,Cx.nox]
 have sz:(200:Nat)<sizeLine:=by decide
 exists⟨a,ns,0,10^18,rfl,hS,b8,by lia,by lia,by lia,by lia,fun r b pl pp g m names ls f M gs H1 s1 ba Bk D N f3 br nl nd nW nz g2 l1 l8 aI lW bz=>?_⟩;have dl:(drawnPs names f).length=f.length:=jM;have D2:=D.twice (by lia) g2;have b6:(dbF f).length=f.length+f.length+1:=by unfold dbF;rw[vn,vn,vt];rfl
 have yl:=j2z (names:=names) (n:=f.length) (by lia);have yd:=j41 (n:=f.length) nz;have yW:=j4V (n:=f.length) nz nW;have N2:=D2.sn (names:=dbN names f.length) (by lia) yd aI l8 (by lia) (by lia) N.l18;have W:=N.s.w;have W2:=N2.s.w;have dp:=X1 (names:=names) D (by lia) (by lia);have bo:=D.bkok l8 N.l18 lW nW (by lia) (by lia);have ay:=D2.bkok l8 N.l18 lW yW (by lia) (by lia);have aB:(drawnPs (dbN names f.length) (dbF f)).length=f.length+f.length+1:=by rw[jM,b6]
 have O:=Yx W (by lia);have O2:=Yx W2 (by lia);have bh:m.length=f.length:=by rw[Bk.pa.1,dl]
 have gl:=D.gl;have gp:=D.g (f.length-1) (by lia);have aa:(dbG gs).getD ((drawnPs (dbN names f.length) (dbF f)).length-1) 0=2*gs.getD (f.length-1) 0:=by
  rw[aB,Nat.add_sub_cancel];unfold dbG;rw[show f.length+f.length=(gs++gs).length by rw[vn,gl],jT,gl]
 exists JA (SqT.of ba) ?_;exists⟨b,pl,pp,g,m,ls,_,rfl,Bk,W,by lia,fun tb lb fb a7 ms H2 s2 et el ef _ _ _ dr Kd=>?_⟩;have B:=Bk.same s2;exists ixTm (SqT.of B.t) rfl ?_;exists ixTm (SqT.of B.t) rfl ?_;exists⟨b,pl,pp,g,m,ls,_,rfl,B,W,fun p hp=>j3J (bo.pn p hp).1,fun r3 aq H3 s3 bv e3 ma=>?_⟩;have bx:aq.length=f.length:=by rw[ma.1];unfold rnP;rw[vt,dl]
 refine⟨pp,r3,_,_,rfl,rfl,s3 _ _ B.p,e3,by rw[vt,vt];lia,?_⟩;walk_at"f c4 hc4 H4 s4 t4";exists⟨ub,?_⟩;walk_at"f dd hdd H5 s5 t5";have bk:=s3.trans (s4.trans s5);have C:=B.same bk;have bd:=ma.mono fun b x h=>PartAt.same (s4.trans s5) h
 have al:=s5 _ _ t4;have hl:(drawnPs names f)[f.length-1]?=some (names.getD (f.length-1) ⟨#[]⟩,toldF names f[f.length-1]):=Je (vz (by lia));obtain⟨pz,b3,fz,aF,bw⟩:=C.pa.get hl;have hW:Ws.isW (names.getD (f.length-1) ⟨#[]⟩)=true:=nW _ (getD_in (by lia));have bu:=j3J hW;have Z:atI (m.map V.ref) (-1)=some (.ref pz):=j0E (n:=f.length) (by lia) (by rw[vt];exact bh) (by rw[vv,b3];rfl);exists ixTm (SqT.of t5) rfl ?_;refine⟨.inl ⟨rfl,_,SqL.of al⟩,?_⟩;exists ixTm (SqT.of C.t) rfl ?_;exists ixLm (SqL.of C.p) (Z) ?_;exists ixTm (SqT.of aF) rfl ?_;exists ixTm (SqT.of C.t) rfl ?_;exists ixLm (SqL.of C.p) (Z) ?_;exists ixTm (SqT.of aF) rfl ?_;refine⟨_,_,rfl,rfl,(by show 1+(names.getD (f.length-1) ⟨#[]⟩).length<=sizeLine;lia),?_⟩;exists⟨ub,?_⟩;walk_at"f 6 t";exists⟨ub,?_⟩;walk_at"f 7 t";exists⟨ub,?_⟩;walk_at"f 8 t";have a6:=s6.trans (s7.trans s8);have pt:PartAt H8 p8 (("both" : Str),.row [names.getD (f.length-1) ⟨#[]⟩,zn (names.getD (f.length-1) ⟨#[]⟩)]):=⟨p7,t8,p6,s8 _ _ t7,s8 _ _ (s7 _ _ t6)⟩
 have aC:H8 c4=some (.lst ((m++aq).map V.ref)):=by rw[vj];exact a6 _ _ al
 have aT:=C.same a6;obtain⟨a1,a2,a3⟩:=WJ (qs:=drawnPs names f++rnP (drawnPs names f)) aC (All2.app aT.pa (bd.mono fun b x h=>PartAt.same a6 h)) pt;refine⟨c4,_,_,rfl,rfl,aC,by rw[vt,vn];lia,?_⟩;generalize eH:upd H8 c4 _=H9 at a1 a2 a3|-;clear eH;have aU:Same H3 H9:=fun x u h=>a3 _ _ (je h hc4) (a6 _ _ (s5 _ _ (s4 _ _ h)))
 have aw:=s3.trans aU;have ag:=B.same aw;have BD:BookAt H9 dd pl c4 g (m++aq++[p8]) ls (drawnPs (dbN names f.length) (dbF f)):=⟨a3 _ _ (Qf t5 al (fun z=>by cases z)) (a6 _ _ t5),ag.l,ag.la,a1,by rw[dp];exact a2⟩
 exists⟨dd,pl,c4,g,_,ls,_,rfl,BD,W2,by lia,fun tw lw fw X mt HA sA J Y I _ _ _ G Kw=>?_⟩;obtain⟨az,aA⟩:=X0 (names:=names) (ys:=dbN names f.length) D (by lia) nd W (by lia) D2 (by lia) yd;have aJ:=j0N O O2 az aA Kd Kw;have bg:mt.length=ms.length+1:=by rw[aJ,vn];rfl
 clear az aA;have Bx:=wv O l8 Kd;have o:=wv O2 l8 Kw;have aG:=Kd.nd O;have ae:=Kw.nd O2;have sh:=XH (ms:=ms) bo;have ab:=XH (ms:=mt) ay;have kl:(keptD (drsM ls (drawnPs names f)) ms).length=ms.length:=Z3 _ _;have ao:(keptD (drsM ls (drawnPs (dbN names f.length) (dbF f))) mt).length=mt.length:=Z3 _ _;obtain⟨⟨c,bs,bt⟩,ap⟩:=Kd.named O;obtain⟨⟨c',bp,bq⟩,a0⟩:=Kw.named O2;rw[<-kl]at ap;rw[<-ao]at a0;have Wq:=j3Q Bx W.ln;have ax:=j3Q o W2.ln;have Cr:=j0J W (by lia) Kd;have ai:=j0J W2 (by lia) Kw;have ac:=fun mt=>Wg (mt:=mt) Bx W.ln aG (by lia) ap
 have U:=fun mt=>Wg (mt:=mt) o W2.ln ae (by lia) a0
 have S:=aw.trans sA;have j:=ag.same sA;have au:=BD.same sA;have a9:=S _ _ et;have am:=S _ _ el;have a8:=S _ _ ef;have ak:DrAt HA a7 (keptD (drsM ls (drawnPs names f)) ms):=All2.mono dr fun a d h=>h.same S
 have aV:=dr.1;have aY:=G.1;have qe:(bkP ls (keptD (drsM ls (drawnPs names f)) ms)).length=ms.length:=(qC _ _).trans kl;have bA:(bkP ls (keptD (drsM ls (drawnPs (dbN names f.length) (dbF f))) mt)).length=mt.length:=(qC _ _).trans ao;obtain⟨gq,hq,Nq,b7⟩:=j0K N Cr (by lia) Wq;obtain⟨aD,aE,aj,ad⟩:=j0K N2 ai (by lia) ax;have aN:=fun(E F:List (List (Int×Int))) (h1:E.length=_) (h2:F.length=_) hE hF (t0:Int)=>Wk N Nq Cr (E:=E) (F:=F) h1 h2 hE hF t0
 have a5:=fun(E F:List (List (Int×Int))) (h1:E.length=_) (h2:F.length=_) hE hF (t0:Int)=>Wk N2 aj ai (E:=E) (F:=F) h1 h2 hE hF t0
 have v1:=wg a9 am j.la a8 ak;have v2:=wg J Y au.la I G;clear Cr ai aJ Kd Kw dr;generalize keptD (drsM ls (drawnPs names f)) ms=kk at *;generalize keptD (drsM ls (drawnPs (dbN names f.length) (dbF f))) mt=kk2 at *;exists ixTm (SqT.of j.t) rfl ?_;exists⟨tb,lb,fb,pl,g,a7,ls,kk,rfl,a9,am,j.la,j.l,yZ bo,a8,ak,aG,Bx.dw,by lia,Bx.k61,ap,fun HB sB=>?_⟩;exists iteF ?_;have ah:=j.same sB;exists ixTm (SqT.of ah.t) rfl ?_;exists⟨tw,lw,fw,pl,g,X,ls,kk2,rfl,sB _ _ J,sB _ _ Y,ah.la,ah.l,yZ bo,sB _ _ I,All2.mono G fun a d h=>h.same sB,ae,o.dw,by lia,o.k61,a0,fun HC sC=>?_⟩;have l:=sB.trans sC;exists iteF ?_;exists ixTm (SqT.of (l _ _ J)) rfl ?_;exists⟨_,_,rfl,.inl ⟨_,SqL.of (l _ _ I),rfl⟩,?_⟩;exists ixTm (SqT.of (l _ _ a9)) rfl ?_;exists⟨_,_,rfl,.inl ⟨_,SqL.of (l _ _ a8),rfl⟩,?_⟩;walk_at"g";have bm:(a7.map V.ref).length=ms.length:=(vt _).trans (aV.trans kl);have bn:(X.map V.ref).length=ms.length+1:=(vt _).trans (aY.trans (ao.trans bg));rw[bm,bn];refine iteN (fun z=>ud (by lia) z) (fun _=>?_);have la:=j.la;exists⟨tb,lb,fb,g,a7,ls,kk,rfl,l _ _ a9,l _ _ am,j.la.mono fun b x h=>l _ _ h,l _ _ a8,All2.mono ak fun a d h=>h.same l,Bx,fun bb aM aO af HD sD Bb _ _ _=>?_⟩;have bl:=l.trans sD;exists⟨bb,aM,aO,g,af,ls,_,rfl,Bb,Wq,by lia,fun tg lg fg dg bf HE sE b4 b1 aZ _ _ _ aW Kg=>?_⟩;have v3:=wg b4 b1 (Bb.same sE).la aZ aW;rw[ac bf Kg]at v3;have y:=bl.trans sE;exists⟨_,_,v3,v1.mono y,sh.ok (by decide),sh.ok (by decide),?_⟩;rw[SeqAt.eqv_refl _ sh.1];exists iteF ?_;exists⟨tw,lw,fw,g,X,ls,kk2,rfl,y _ _ J,y _ _ Y,j.la.mono fun b x h=>y _ _ h,y _ _ I,All2.mono G fun a d h=>h.same y,o,fun bc bi bj aL HF sF Bc _ _ _=>?_⟩;exists⟨bc,bi,bj,g,aL,ls,_,rfl,Bc,ax,by lia,fun th lh fh dh mh HG sG b5 b2 b0 _ _ _ aX Kh=>?_⟩;have v4:=wg b5 b2 (Bc.same sG).la b0 aX;rw[U mh Kh]at v4;have L:=y.trans (sF.trans sG);exists⟨_,_,v4,v2.mono L,ab.ok (by decide),ab.ok (by decide),?_⟩;rw[SeqAt.eqv_refl _ ab.1];exists iteF ?_;have aS:=Bb.same (sE.trans (sF.trans sG));have av:=j.same L;have aR:=au.same L;clear v1 v2 v3 v4 sh ab ac U Kg Kh;have b9:=(s1.trans (s2.trans (S.trans L))).seq hS;exists⟨ub,?_⟩;walk_at"f p10 hp10 HI sI eI";exists⟨a,_,rfl,sI.seq b9,?_⟩;walk_at"f p11 hp11 HJ sJ eJ";have cl:=Qu (ns.map V.int) (some 15) (some 25);rw[vt]at cl;refine⟨p10,p11,_,_,rfl,rfl,sJ _ _ eI,eJ,by show 2+_<=sizeLine;lia,?_⟩;walk_at"f p12 hp12 HK sK eK";have aP:=sI.trans (sJ.trans sK);refine⟨p12,rfl,⟨_,SqL.of eK⟩,?_⟩;refine Jf (xs:=[V.int 0,V.int 1]++cutV (ns.map V.int) (some 15) (some 25)) (fun i σ H'=>IvE2 fun(o1 o2:Option V)=>σ=[some (.ref a),some (.ref b),some (.int (gs.getD (f.length-1) 0)),some (.ref tb),some (.ref dd),some (.ref tw),some (.ref bb),o1,o2]/\Same HK H')
  ⟨_,_,rfl,Same.refl _⟩ ?_ ?_ ?_
 ·rintro i σ H' _ ⟨o1,o2,rfl,sm⟩;exact SqL.of (sm _ _ eK)
 ·rintro i v σ H' hv ⟨o1,o2,rfl,sm⟩;obtain⟨c,rfl⟩:∃c:Int,v = .int c:=by
   rcases vh.mp (vm hv)with z | z
   ·rcases mem_cons.mp z with z | z
    ·exact⟨0,z⟩
    ·exact⟨1,vo.mp z⟩
   ·obtain⟨c,hc,e⟩:=Pr.j2T z;exact⟨c,e⟩
  have R:=aP.trans sm;have m0:=ve (c*982451653) (show gs.getD (f.length-1) 0+1≠0 by lia);have m1:=vf (c*982451653) (show 0<gs.getD (f.length-1) 0+1 by lia);have n0:=ve (c*982451653) (show 2*gs.getD (f.length-1) 0+1≠0 by lia);have n1:=vf (c*982451653) (show 0<2*gs.getD (f.length-1) 0+1 by lia);exists⟨b,pl,pp,bb,aM,aO,g,m,g,af,ls,_,_,gs,gq,M,hq,_,rfl,av.same R,aS.same R,N,Nq,m0,by rw[dl];lia,by rw[b7,dl];lia,fun E F h1 h2 hE hF=>aN E F h1 h2 hE hF _,XE bo,fun HL sL=>?_⟩;have aQ:=R.trans sL;have k:=L.trans aQ;exists iteF ?_;exists⟨tw,lw,fw,g,X,ls,kk2,rfl,k _ _ J,k _ _ Y,j.la.mono fun b x h=>k _ _ h,k _ _ I,All2.mono G fun a d h=>h.same k,o,fun be ar as a4 HM sM Be _ _ _=>?_⟩;exists⟨_,_,rfl,rfl,.inl ⟨by lia,by lia⟩,?_⟩;exists⟨dd,pl,c4,be,ar,as,g,_,g,a4,ls,_,_,dbG gs,aD,dbM M,aE,_,rfl,(aR.same aQ).same sM,Be,N2,aj,n0,by rw[aa];lia,by rw[ad,aa];lia,fun E F h1 h2 hE hF=>a5 E F h1 h2 hE hF _,XE ay,fun HN sN=>?_⟩;exists iteF ?_;walk_at"g";exact⟨_,_,rfl,sm.trans (sL.trans (sM.trans sN))⟩
 rintro σ H' ⟨o1,o2,rfl,sm⟩;have R:=aP.trans sm;have k:=L.trans R;exists⟨tw,lw,fw,g,X,ls,kk2,rfl,k _ _ J,k _ _ Y,j.la.mono fun b x h=>k _ _ h,k _ _ I,All2.mono G fun a d h=>h.same k,o,fun be ar as a4 HM sM Be _ _ _=>?_⟩;exists⟨_,_,rfl,rfl,.inl ⟨by lia,by lia⟩,?_⟩;exists⟨be,ar,as,g,a4,ls,_,aD,aE,_,rfl,Be,aj,by lia,by rw[ad,aa];lia,fun l9 F HN sN _ lF oF e9 _=>?_⟩;exists⟨b,pl,pp,g,m,ls,_,gs,M,_,rfl,((av.same R).same sM).same sN,N,by lia,by rw[dl];lia,fun l8 E HO sO _ lE oE e8 _=>?_⟩;obtain⟨E2,aH,aK⟩:=j2C (names:=dbN names f.length) D2 (by lia) yd aI;have x1:=(a5 E2 F aH lF aK oF (2*gs.getD (f.length-1) 0)).1;rw[kG (E:=E2) (by rw[aa];lia),aB,Nat.add_sub_cancel,j2A D (by lia) nd (by lia) D2 (by lia) yd (by rw[lE,dl]) (by rw[aH,jM]) oE aK]at x1;have x2:=kG (ls:=ls) (E:=E) (ps:=drawnPs names f) (gs:=gs) (t:=gs.getD (f.length-1) 0) (by rw[dl];lia);rw[dl]at x2;rw[x1,<-x2]at e9;have an:Shp 1 (.list ((standH ls (drawnPs names f) gs E (gs.getD (f.length-1) 0)).map PyData.int)):=Shp.lst (n:=0) fun d hd=>by
  obtain⟨n,_,rfl⟩:=vK.mp hd;exact Shp.int
 refine⟨_,_,DV.lst (sO _ _ e9) (Zi _),DV.lst e8 (Zi _),an.ok (by decide),an.ok (by decide),?_⟩;rw[SeqAt.eqv_refl _ an.1];exact q _
theorem j2o(T:Txt K mg t):FnOk P w K mg base CX0 10 t.j0B t.Xb ["_law_script"] (Pr.sp_law K):=by
 have c:FnOk P w K mg base CX0 1 t.qc t.qd _ _:=wJ T;have a:FnOk P w K mg base CX0 1 t.Jx t.Jz _ _:=kT T;have v:=j37 T a c;have j:FnOk P w K mg base CX0 1 t.Qa t.Qc _ _:=WE T;have L:=xD T j;have C:=j1v T c v L;have N:FnOk P w K mg base CX0 1 t.Zf t.Zh _ _:=xF T;have G:=xC T c N;have e:=j1w T a j;have k:=j36 T a e;have m:=j1x T k;have p:FnOk P w K mg base CX0 1 t.qP t.qT _ _:=kS T;have W:FnOk P w K mg base CX0 1 t.Qr t.Qy _ _:=wK T;have M:=xE T e m p W;have X:FnOk P w K mg base CX0 1 t.Qs t.Qz _ _:=wL T;have O:=wM T e X;have g:=ya T a k M O;have x:FnOk P w K mg base CX0 1 t.KS t.wc _ _:=j38 T;have B:FnOk P w K mg base CX0 1 t.Q6 t.za _ _:=WF T;have y:=j0h T B;have f:=kf T y;have l:=Zu T x f;have i:=j1z T g l;have r:FnOk P w K mg base CX0 1 t.Qp t.Qw _ _:=wG T;have b:FnOk P w K mg base CX0 1 t.JH t.JI _ _:=wH T;have u:FnOk P w K mg base CX0 1 t.Qq t.Qx _ _:=wI T;have d:=kj T b;have U:FnOk P w K mg base CX0 1 t.Qo t.Qv _ _:=wF T;have q:=kh T b d U;have S:=wE T b d q;have o:FnOk P w K mg base CX0 1 t.Q5 t.Q9 _ _:=WD T;have R:=wD T r b u d S o;have n:FnOk P w K mg base CX0 1 t.qO t.qS _ _:=kQ T;have D:=kg T n;have I:FnOk P w K mg base CX0 1 t.qh t.qi _ _:=Yn T;have J:=yc T f;have z:=j1y T g J;have F:=kR T i z;exact j4k T C G i R D I F
end
@[elab_as_elim] theorem uu1{P:List Value->Prop}(us:List Value)(hl:us.length=1)(h:∀a0,P [a0]):P us:=match us,hl with | [a0],_=>h a0
theorem bb1{K:Frg}{x q:Str}{st:Stmt}{f:Addr}{l:FuncData}{m:Str}(F:Fun K x q st f l)(h:∀(kV j p:Value) (an:Option Addr) (i n:Value) (k:Value),bindArgs (W.fnOf x q (defArgs st) (defBody st) (defScope st) .none kV j p an i n) ⟨[k],[]⟩=pure ([m].zip [k]):=by intros;rfl):Binds K l [m] []:=F.binds fun a b c d e g r o=>uu1 r o (h a b c d e g)
@[elab_as_elim] theorem uu2{P:List Value->Prop}(us:List Value)(hl:us.length=2)(h:∀a0 a1,P [a0,a1]):P us:=match us,hl with | [a0,a1],_=>h a0 a1
theorem bb2{K:Frg}{x q:Str}{st:Stmt}{f:Addr}{m:FuncData}{n o:Str}(F:Fun K x q st f m)(h:∀(kV j s:Value) (an:Option Addr) (i p:Value) (k l:Value),bindArgs (W.fnOf x q (defArgs st) (defBody st) (defScope st) .none kV j s an i p) ⟨[k,l],[]⟩=pure ([n,o].zip [k,l]):=by intros;rfl):Binds K m [n,o] []:=F.binds fun a b c d e g t r=>uu2 t r (h a b c d e g)
@[elab_as_elim] theorem uu3{P:List Value->Prop}(us:List Value)(hl:us.length=3)(h:∀a0 a1 a2,P [a0,a1,a2]):P us:=match us,hl with | [a0,a1,a2],_=>h a0 a1 a2
theorem bb3{K:Frg}{x q:Str}{st:Stmt}{f:Addr}{n:FuncData}{o p r:Str}(F:Fun K x q st f n)(h:∀(kV j u:Value) (an:Option Addr) (i s:Value) (k l m:Value),bindArgs (W.fnOf x q (defArgs st) (defBody st) (defScope st) .none kV j u an i s) ⟨[k,l,m],[]⟩=pure ([o,p,r].zip [k,l,m]):=by intros;rfl):Binds K n [o,p,r] []:=F.binds fun a b c d e g v t=>uu3 v t (h a b c d e g)
@[elab_as_elim] theorem uu4{P:List Value->Prop}(us:List Value)(hl:us.length=4)(h:∀a0 a1 a2 a3,P [a0,a1,a2,a3]):P us:=match us,hl with | [a0,a1,a2,a3],_=>h a0 a1 a2 a3
theorem bb4{K:Frg}{x q:Str}{st:Stmt}{f:Addr}{o:FuncData}{p r s t:Str}(F:Fun K x q st f o)(h:∀(kV j w:Value) (an:Option Addr) (i u:Value) (k l m n:Value),bindArgs (W.fnOf x q (defArgs st) (defBody st) (defScope st) .none kV j w an i u) ⟨[k,l,m,n],[]⟩=pure ([p,r,s,t].zip [k,l,m,n]):=by intros;rfl):Binds K o [p,r,s,t] []:=F.binds fun a b c d e g y v=>uu4 y v (h a b c d e g)
@[elab_as_elim] theorem uu5{P:List Value->Prop}(us:List Value)(hl:us.length=5)(h:∀a0 a1 a2 a3 a4,P [a0,a1,a2,a3,a4]):P us:=match us,hl with | [a0,a1,a2,a3,a4],_=>h a0 a1 a2 a3 a4
theorem bb5{K:Frg}{x q:Str}{st:Stmt}{f:Addr}{p:FuncData}{r s t u v:Str}(F:Fun K x q st f p)(h:∀(kV j z:Value) (an:Option Addr) (i w:Value) (k l m n o:Value),bindArgs (W.fnOf x q (defArgs st) (defBody st) (defScope st) .none kV j z an i w) ⟨[k,l,m,n,o],[]⟩=pure ([r,s,t,u,v].zip [k,l,m,n,o]):=by intros;rfl):Binds K p [r,s,t,u,v] []:=F.binds fun a b c d e g A y=>uu5 A y (h a b c d e g)
@[elab_as_elim] theorem uu6{P:List Value->Prop}(us:List Value)(hl:us.length=6)(h:∀a0 a1 a2 a3 a4 a5,P [a0,a1,a2,a3,a4,a5]):P us:=match us,hl with | [a0,a1,a2,a3,a4,a5],_=>h a0 a1 a2 a3 a4 a5
theorem bb6{K:Frg}{x q:Str}{st:Stmt}{f:Addr}{r:FuncData}{s t u v w y:Str}(F:Fun K x q st f r)(h:∀(kV j B:Value) (an:Option Addr) (i z:Value) (k l m n o p:Value),bindArgs (W.fnOf x q (defArgs st) (defBody st) (defScope st) .none kV j B an i z) ⟨[k,l,m,n,o,p],[]⟩=pure ([s,t,u,v,w,y].zip [k,l,m,n,o,p]):=by intros;rfl):Binds K r [s,t,u,v,w,y] []:=F.binds fun a b c d e g C A=>uu6 C A (h a b c d e g)
abbrev Ng(K:Frg)(x:Str)(f:Addr):Prop:=W.nsIn K mainGlobals x=some (some (.ref f))
abbrev N0(K:Frg)(x:Str):Prop:=W.nsIn K mainGlobals x=some none
abbrev Nn(K:Frg)(C:Addr)(x:Str):Prop:=W.findIn K (.ref C) x=some none
abbrev Nx(K:Frg)(C:Addr)(x:Str)(f:Addr):Prop:=W.findIn K (.ref C) x=some (some (.ref f))
abbrev Fn1(K:Frg)(x:Str)(st:Stmt)(f:Addr)(d:FuncData):Prop:=Fun K x x st f d
set_option autoImplicit true in
theorem j4M{K:Frg}{h:Heap}{mg:Str->Option Value}(X:K.In h)(G:h.Ns mainGlobals mg)
  {a:Addr}
  (f:Ng K "Stage" a) (k:W.plainGet K a Str.empty=true) (g:W.hasDictIn K a=true) (l:W.plainOver K a=true) (m:W.findIn K (.ref a) "__setattr__"= some (some (.builtin "object.__setattr__"))) (j:W.makesIn K a=true) (i:W.keepIn K (.ref a)=true) (qG:Nn K a "limbs") (qF:Nn K a "first") (J0:Nn K a "forms") (j9:Nn K a "sizes") (qU:Nn K a "left") (qk:Nn K a "pieces")
  (a1:Ng K "numbers_of" f1) (F1:Fn1 K "numbers_of" zi f1 d1)
  (a2:Ng K "names_in" f2) (F2:Fn1 K "names_in" ZM f2 d2)
  (a3:Ng K "form_with" f3) (F3:Fn1 K "form_with" QE f3 d3)
  (a4:Ng K "made" f4) (F4:Fn1 K "made" xL f4 d4)
  (a5:Ng K "come_to" f5) (F5:Fn1 K "come_to" yV f5 d5)
  (a6:Ng K "drums" f6) (F6:Fn1 K "drums" YF f6 d6)
  (a7:Ng K "name_of" f7) (F7:Fn1 K "name_of" yX f7 d7)
  (a8:Ng K "book_of" f8) (F8:Fn1 K "book_of" qX f8 d8)
  (a9:Ng K "inner" f9) (F9:Fn1 K "inner" YG f9 d9)
  (ac:Ng K "ends" f10) (r:Fn1 K "ends" xK f10 d10)
  (ad:Ng K "moved" f11) (s:Fn1 K "moved" YI f11 d11)
  (ae:Ng K "check_side" f12) (u:Fn1 K "check_side" qV f12 d12)
  (af:Ng K "length_of" f13) (w:Fn1 K "length_of" zY f13 d13)
  (ag:Ng K "lengths" f14) (y:Fn1 K "lengths" QZ f14 d14)
  (ah:Ng K "ramp" f15) (z:Fn1 K "ramp" xM f15 d15)
  (ai:Ng K "pieces_in" f16) (A:Fn1 K "pieces_in" zZ f16 d16)
  (aj:Ng K "pieces_of" f17) (B:Fn1 K "pieces_of" QF f17 d17)
  (ak:Ng K "progress" f18) (C:Fn1 K "progress" ZN f18 d18)
  (al:Ng K "within" f19) (D:Fn1 K "within" kC f19 d19)
  (aa:Nx K a "__init__" f20) (ab:W.isFn K (.ref f20)=true) (n:Fun K "__init__" "Stage.__init__" Jv f20 d20)
  (am:Nx K a "scene" f21) (aG:W.isFn K (.ref f21)=true) (o:Fun K "scene" "Stage.scene" QP f21 d21)
  (an:Nx K a "heights_at" f22) (aH:W.isFn K (.ref f22)=true) (p:Fun K "heights_at" "Stage.heights_at" qa f22 d22)
  (ao:Nx K a "words_at" f23) (aI:W.isFn K (.ref f23)=true) (q:Fun K "words_at" "Stage.words_at" qA f23 d23)
  (ap:Ng K "stand" f24) (E:Fn1 K "stand" wU f24 d24)
  (aq:Ng K "rings" f25) (F:Fn1 K "rings" wT f25 d25)
  (ar:Ng K "_law_pool" f26) (H:Fn1 K "_law_pool" zV f26 d26)
  (as:Ng K "_law_take" f27) (I:Fn1 K "_law_take" zW f27 d27)
  (au:Ng K "_law_word" f28) (J:Fn1 K "_law_word" zX f28 d28)
  (av:Ng K "_law_number" f29) (L:Fn1 K "_law_number" QR f29 d29)
  (aw:Ng K "_law_pair" f30) (N:Fn1 K "_law_pair" QD f30 d30)
  (ax:Ng K "_law_naming" f31) (P:Fn1 K "_law_naming" J1 f31 d31)
  (ay:Ng K "_law_form" f32) (Q:Fn1 K "_law_form" QC f32 d32)
  (az:Ng K "_law_put" f33) (R:Fn1 K "_law_put" JC f33 d33)
  (aA:Ng K "_law_book" f34) (S:Fn1 K "_law_book" qJ f34 d34)
  (aB:Ng K "_law_below" f35) (T:Fn1 K "_law_below" zg f35 d35)
  (aC:Ng K "_law_is_box" f36) (U:Fn1 K "_law_is_box" QQ f36 d36)
  (aD:Ng K "_law_renamed" f37) (Y:Fn1 K "_law_renamed" qp f37 d37)
  (aE:Ng K "_law_plays" f38) (Z:Fn1 K "_law_plays" zh f38 d38)
  (aF:Ng K "law" f39) (a0:Fn1 K "law" j20 f39 d39)
  {c:Tok}
  (d:W.nsIn K mainGlobals "FIGURES"= some (some (.str "abcdefghijklmnopqrstuvwxyz" c)))
  {JS:Addr}
  (b:Ng K "MOST_NAMES" JS) (kk_MOST_NAMES:TabK K JS [("row",.flat (.int 8)),("side",.flat (.int 4))])
  (z0:N0 K "bool") (z1:N0 K "dict") (z2:N0 K "enumerate") (z3:N0 K "int") (z4:N0 K "isinstance") (z5:N0 K "len") (z6:N0 K "list") (z7:N0 K "max") (z8:N0 K "min") (z9:N0 K "range") (aJ:N0 K "sorted") (aK:N0 K "sum") (aL:N0 K "tuple") (aM:N0 K "zip") :
  ∃t:Ad,Txt K mg t:=by
 have M:∀{x v},W.nsIn K mainGlobals x=some (some v)->mg x=some v:=fun e=>W.mg_of X G e
 have O:∀{x},N0 K x->mg x=none:=fun e=>W.mg_none_of X G e
 exact⟨⟨f1,_,f2,_,f3,_,f4,_,f5,_,f6,_,f7,_,f8,_,f9,_,f10,_,f11,_,f12,_,f13,_,f14,_,f15,_,f16,_,f17,_,f18,_,f19,_,f20,_,f21,_,f22,_,f23,_,f24,_,f25,_,f26,_,f27,_,f28,_,f29,_,f30,_,f31,_,f32,_,f33,_,f34,_,f35,_,f36,_,f37,_,f38,_,f39,_,a,_,_⟩,⟨⟨F1,M a1,bb1 F1⟩,⟨F2,M a2,bb1 F2⟩,⟨F3,M a3,bb3 F3⟩,⟨F4,M a4,bb1 F4⟩,⟨F5,M a5,bb2 F5⟩,⟨F6,M a6,bb1 F6⟩,⟨F7,M a7,bb1 F7⟩,⟨F8,M a8,bb1 F8⟩,⟨F9,M a9,bb1 F9⟩,⟨r,M ac,bb1 r⟩,⟨s,M ad,bb1 s⟩,⟨u,M ae,bb3 u⟩,⟨w,M af,bb2 w⟩,⟨y,M ag,bb1 y⟩,⟨z,M ah,bb4 z⟩,⟨A,M ai,bb3 A⟩,⟨B,M aj,bb2 B⟩,⟨C,M ak,bb3 C⟩,⟨D,M al,bb3 D⟩,n,⟨aa,ab,n.kp⟩,bb2 n,o,⟨am,aG,o.kp⟩,bb2 o,p,⟨an,aH,p.kp⟩,bb2 p,q,⟨ao,aI,q.kp⟩,bb2 q,⟨E,M ap,bb2 E⟩,⟨F,M aq,bb2 F⟩,⟨H,M ar,bb2 H⟩,⟨I,M as,bb2 I⟩,⟨J,M au,bb2 J⟩,⟨L,M av,bb2 L⟩,⟨N,M aw,bb2 N⟩,⟨P,M ax,bb6 P⟩,⟨Q,M ay,bb5 Q⟩,⟨R,M az,bb5 R⟩,⟨S,M aA,bb3 S⟩,⟨T,M aB,bb1 T⟩,⟨U,M aC,bb2 U⟩,⟨Y,M aD,bb1 Y⟩,⟨Z,M aE,bb3 Z⟩,⟨a0,M aF,bb1 a0⟩,⟨k,g,l,m⟩,⟨j,aa,ab,i⟩,M f,qG,qF,J0,j9,qU,qk,O z0,O z1,O z2,O z3,O z4,O z5,O z6,O z7,O z8,O z9,O aJ,O aK,O aL,O aM,M d,⟨_,rfl⟩,M b,kk_MOST_NAMES⟩⟩
end K55
open PySem PySem.W PyProof.Rows
set_option maxRecDepth 100000 in
set_option maxHeartbeats 0 in
theorem PySem.Challenge.cw_camplay_k55_whole_drums_play_alike_holds : PySem.Challenge.rw_camplay_k55_whole_drums_play_alike.Holds := by
 w_on;o_law;k_head;(case hw=>w_witness2)
 k_fill
 refine L2.j2n (l:=PySem.Challenge.rw_camplay_k55_whole_drums_play_alike) (n:=63) (k:=10) (x:="_law_script") (CX:=L2.CX0) (sp:=Pr.sp_law) rfl (by decide) rfl ⟨rfl,by decide,by decide⟩ (fun w h Y=>PySem.W.kIn_of Y) ?F (fun K H a ns hl hb hO hS=>⟨a,ns,rfl,hS,hl,hb,fun _=>rfl⟩) (fun _ _ _ _ z=>z)
 case F=>
  intro w mg fa h KX G hmg;have TT:∃t:K55.Ad,K55.Txt (L2.KOf KX) mg t:=by
   dsimp only[L2.KOf];refine' K55.j4M KX G ?_ ?_ ?_ ?_ ?_ ?_ ?_ ?_ ?_ ?_ ?_ ?_ ?_ ?_ (L2.jC ?_ ?_ ?_) ?_ (L2.jC ?_ ?_ ?_) ?_ (L2.jC ?_ ?_ ?_) ?_ (L2.jC ?_ ?_ ?_) ?_ (L2.jC ?_ ?_ ?_) ?_ (L2.jC ?_ ?_ ?_) ?_ (L2.jC ?_ ?_ ?_) ?_ (L2.jC ?_ ?_ ?_) ?_ (L2.jC ?_ ?_ ?_) ?_ (L2.jC ?_ ?_ ?_) ?_ (L2.jC ?_ ?_ ?_) ?_ (L2.jC ?_ ?_ ?_) ?_ (L2.jC ?_ ?_ ?_) ?_ (L2.jC ?_ ?_ ?_) ?_ (L2.jC ?_ ?_ ?_) ?_ (L2.jC ?_ ?_ ?_) ?_ (L2.jC ?_ ?_ ?_) ?_ (L2.jC ?_ ?_ ?_) ?_ (L2.jC ?_ ?_ ?_) ?_ ?_ (L2.jC ?_ ?_ ?_) ?_ ?_ (L2.jC ?_ ?_ ?_) ?_ ?_ (L2.jC ?_ ?_ ?_) ?_ ?_ (L2.jC ?_ ?_ ?_) ?_ (L2.jC ?_ ?_ ?_) ?_ (L2.jC ?_ ?_ ?_) ?_ (L2.jC ?_ ?_ ?_) ?_ (L2.jC ?_ ?_ ?_) ?_ (L2.jC ?_ ?_ ?_) ?_ (L2.jC ?_ ?_ ?_) ?_ (L2.jC ?_ ?_ ?_) ?_ (L2.jC ?_ ?_ ?_) ?_ (L2.jC ?_ ?_ ?_) ?_ (L2.jC ?_ ?_ ?_) ?_ (L2.jC ?_ ?_ ?_) ?_ (L2.jC ?_ ?_ ?_) ?_ (L2.jC ?_ ?_ ?_) ?_ (L2.jC ?_ ?_ ?_) ?_ (L2.jC ?_ ?_ ?_) ?_ (L2.jC ?_ ?_ ?_) ?_ ?_ ?kk_MOST_NAMES ?_ ?_ ?_ ?_ ?_ ?_ ?_ ?_ ?_ ?_ ?_ ?_ ?_ ?_
   any_goals first | (show PySem.W.nsIn _ _ _=_;k_is) | (show PySem.W.findIn _ _ _=_;k_is) | k_is
   (case kk_MOST_NAMES=>(show PyProof.Rows.KTD.tabLook _ _ _ _=true);kernel_rfl)
  obtain⟨t,T⟩:=TT;obtain⟨_,_,kV,dc,pm,an,cd,ct,_,e,_⟩:=T.j0y.F.ex;have e0:=hmg.symm.trans T.j0y.m;cases e0;refine⟨t.Xb,fun s v=>?_,fun base _ _=>K55.j2o T⟩;rw[e];exact .of_eq rfl
#print axioms PySem.Challenge.cw_camplay_k55_whole_drums_play_alike_holds
