import PyProof.Rows.All
import Wide.All
import OpenK.AllK
import Wide.FinOn
import Lean
import PyProof.EqAt
import PyProof.EqKinds
import PyProof.TupleCall
import PySem.Challenge.RW_camplay_k39_pins
set_option Elab.async false
set_option linter.all false
set_option maxRecDepth 100000
set_option maxHeartbeats 4000000
open List (all_cons all_eq_true any_cons any_eq_true append_nil cons_append drop_eq_getElem_cons ext_getElem filterMap_cons filter_append filter_cons filter_nil flatMap_append flatMap_cons flatten_cons foldl_append foldl_cons forall_mem_cons getD_eq_getElem?_getD getElem_idxOf getElem_map getElem_mem getElem_range getElem_take idxOf_lt_length_of_mem length_cons length_filter_le length_map length_nil length_pos_iff length_pos_of_mem length_range length_replicate length_reverse length_set length_singleton length_take length_zip lookup_cons map_append map_congr_left map_cons map_nil map_reverse mem_append mem_append_left mem_append_right mem_cons mem_cons_of_mem mem_cons_self mem_filter mem_flatMap mem_iff_getElem mem_map mem_of_mem_take mem_range mem_reverse mem_singleton nil_append nodup_append nodup_cons nodup_nil of_mem_zip pairwise_cons pairwise_iff_getElem pairwise_map pairwise_singleton range_succ replicate_succ reverse_cons size_toArray sum_append sum_cons take_length take_of_length_le take_sublist)
local macro_rules | `(⋯) => `(by lia)
local macro_rules | `(nofun) => `(by decide)
abbrev vz:=@List.getElem?_eq_getElem
abbrev vy:=@List.getD_eq_getElem?_getD
abbrev vx:=@List.getElem?_eq_some_iff
abbrev vv:=@List.getElem?_map
abbrev vt:=@List.length_map
abbrev vq:=@List.mem_cons_self
abbrev vp:=@List.mem_cons_of_mem
abbrev vo:=@List.mem_singleton
abbrev vn:=@List.length_append
abbrev vm:=@List.mem_of_getElem?
abbrev vj:=@List.map_append
abbrev vi:=@List.length_take
abbrev vh:=@List.mem_append
abbrev vg:=@Option.map_eq_some_iff
abbrev vf:=@Int.emod_lt_of_pos
abbrev ve:=@Int.emod_nonneg
abbrev vd:=@if_pos
abbrev vc:=@if_neg
abbrev vb:=@Nat.le_refl
abbrev va:=@Nat.zero_le
abbrev vA:=@Int.le_refl
abbrev vB:=@List.getElem?_append_left
abbrev vC:=@List.getElem?_append_right
abbrev vD:=@Nat.lt_of_le_of_lt
abbrev vE:=@Nat.ne_of_lt
abbrev vF:=@Bool.false_ne_true
abbrev vG:=@decide_eq_true
abbrev vH:=@decide_eq_false
abbrev vI:=@PySem.Heap.lt_size
abbrev vJ:=@PySem.Heap.get?_push_of_some
abbrev vK:=@List.mem_map
abbrev vL:=@Option.some.inj
abbrev vP:=@List.mem_filter
abbrev vQ:=@List.length_cons
abbrev vS:=@List.length_singleton
abbrev vT:=@List.getElem?_eq_none
abbrev vW:=@Nat.le_trans
abbrev vY:=@Nat.le_of_lt
abbrev v4:=@List.mem_range
abbrev v7:=@List.take_length
abbrev v8:=@List.map_map
abbrev v9:=@List.foldl_cons
abbrev uz:=@List.filter_cons
abbrev uy:=@List.map_cons
abbrev uv:=@Int.zero_add
abbrev uo:=@List.getElem?_take_of_lt
abbrev um:=@List.nodup_cons
abbrev ug:=@PySem.wpAny_bind
abbrev uf:=@PySem.wpAny_pure
abbrev ue:=@absurd
def ud:1<=PySem.sizeLine:=by decide
def uc:2<=PySem.sizeLine:=by decide
def ub:3<=PySem.sizeLine:=by decide
def ua:4<=PySem.sizeLine:=by decide
abbrev Frg := PySem.W.Frag
abbrev L0:=List (List (Int×Int))
abbrev L1:=List (List Int)
abbrev L3:=List (Nat×Int)
abbrev L4:=List (PySem.Str×Int)
abbrev L5:=List Int
abbrev L6:=List Nat
abbrev L7:=List PySem.Addr
abbrev L8:=List PySem.Str
abbrev L9:=List PySem.Value
abbrev q3:=@PySem.F.plainAttrs_list
abbrev q4:=@PySem.F.slot_list_append
abbrev q5:=@PySem.F.type_list_append
abbrev q7:=@PySem.F.plainAttrs_dict
namespace L2
open PySem PySem.Spec PyProof.Rows
noncomputable abbrev Key:=Sum Int Str
noncomputable def keyIs:Key->Value->Bool
 | .inl k,v=>Value.isInt k v
 | .inr x,v=>Value.isStrOf x v
noncomputable def keyH(w:World):Key->Int
 | .inl k=>hashInt k
 | .inr x=>hashStr w x
def Ja:∀{k:Key} {v:Value},keyIs k v=true->(∃i t,k=Sum.inl i/\v=Value.int i t)\/(∃x t,k=Sum.inr x/\v=Value.str x t)
 | .inl i,v,h=>by
  obtain⟨t,e⟩:=Value.isInt_shape (k:=i) (v:=v) h;exact .inl ⟨i,t,rfl,e⟩
 | .inr x,v,h=>by
  obtain⟨t,e⟩:=Value.isStrOf_shape (x:=x) (v:=v) h;exact .inr ⟨x,t,rfl,e⟩
def WD(i:Int)(t:Tok):keyIs (.inl i) (.int i t)=true:=by simp[keyIs,Value.isInt]
def j2j(x:Str)(t:Tok):keyIs (.inr x) (.str x t)=true:=by simp[keyIs,Value.isStrOf]
def j6i(a b:Int):decide ((Sum.inl a:Key)=Sum.inl b)=(a==b):=by
 by_cases e:a=b
 .subst e;simp
 .have h:¬(Sum.inl a:Key)=Sum.inl b:=λq=>e (Sum.inl.inj q)
  rw[vH h];exact(beq_eq_false_iff_ne.mpr e).symm
def j6l(a b:Str):decide ((Sum.inr a:Key)=Sum.inr b)=decide (a=b):=by
 by_cases e:a=b
 .subst e;simp
 .have h:¬(Sum.inr a:Key)=Sum.inr b:=λq=>e (Sum.inr.inj q)
  rw[vH h,vH e]
def j6j(a:Int)(b:Str):decide ((Sum.inl a:Key)=Sum.inr b)=false:=vH (λq=>nomatch q)
def j6k(a:Str)(b:Int):decide ((Sum.inr a:Key)=Sum.inl b)=false:=vH (λq=>nomatch q)
noncomputable def mixKind(prog:Program)(w:World):PySem.KeyKind prog w Key where
 is:=keyIs
 hash:=keyH w
 inj:=λv a b ha hb=>by
  rcases Ja ha with⟨i,t,rfl,rfl⟩ | ⟨x,t,rfl,rfl⟩
  .rcases Ja hb with⟨j,u,rfl,e⟩ | ⟨y,u,rfl,e⟩
   .injection e with e1 _;rw[e1]
   .exact nomatch e
  .rcases Ja hb with⟨j,u,rfl,e⟩ | ⟨y,u,rfl,e⟩
   .exact nomatch e
   .injection e with e1 _;rw[e1]
 byValue:=λk v h=>by
  rcases Ja h with⟨i,t,rfl,rfl⟩ | ⟨x,t,rfl,rfl⟩<;>rfl
 pyHash:=λhv h=>by
  rcases Ja hv with⟨i,t,rfl,rfl⟩ | ⟨x,t,rfl,rfl⟩
  .exact wpAny_pyHash_int h
  .exact wpAny_pyHash_str h
 eqBool:=λhu hv h=>by
  rcases Ja hu with⟨i,t,rfl,rfl⟩ | ⟨x,t,rfl,rfl⟩
  .rcases Ja hv with⟨j,u,rfl,rfl⟩ | ⟨y,u,rfl,rfl⟩
   .rw[j6i]at h;exact wpAny_eqBool_int h
   .rw[j6j]at h;exact SeqAt.EqAt.int_str i t y u _ _ _ _ h
  .rcases Ja hv with⟨j,u,rfl,rfl⟩ | ⟨y,u,rfl,rfl⟩
   .rw[j6k]at h;exact SeqAt.EqAt.str_int x t j u _ _ _ _ h
   .rw[j6l]at h;exact wpAny_eqBool_str h
 «strs»:=λk x t v h=>by
  rcases Ja h with⟨i,u,rfl,e⟩ | ⟨y,u,rfl,e⟩
  .exact nomatch e
  .injection e with e1 _;subst e1;cases v<;>rfl
def XJ(prog:Program)(w:World)(i:Int)(t:Tok):(mixKind prog w).is (.inl i) (.int i t)=true:=WD i t
def XL(prog:Program)(w:World)(x:Str)(t:Tok):(mixKind prog w).is (.inr x) (.str x t)=true:=j2j x t
inductive V where
 | non | bl (b:Bool) | int (i:Int) | str (x:Str) | byt (b:Array UInt8) | flt (b:UInt64) | ref (a:Addr) | ty (n:String)
 deriving DecidableEq
abbrev N3:=Option V
abbrev N2:=List V
noncomputable def RelV:V->Value->Prop
 | .non,u=>u=Value.none
 | .bl b,u=>u=Value.bool b
 | .int i,u=>∃t,u=Value.int i t
 | .str x,u=>∃t,u=Value.str x t
 | .byt b,u=>∃t,u=Value.bytes b t
 | .flt b,u=>∃t,u=Value.float b t
 | .ref a,u=>u=Value.ref a
 | .ty n,u=>u=Value.type n
noncomputable abbrev Vals:N2->L9->Prop:=Paired RelV
def Vals.length(r:Vals xs us):xs.length=us.length:=Paired.length r
theorem Vals.get:∀{xs:N2} {us:L9} {i:Nat} {x:V},Vals xs us->xs[i]?=some x->∃u,us[i]?=some u/\RelV x u
 | _,_,_,_,.nil,e=>by simp at e
 | _,_,0,_,.cons r _,e=>by simp at e;subst e;exact⟨_,rfl,r⟩
 | _,_,i+1,x,.cons _ t,e=>by
  obtain⟨u,a,b⟩:=Vals.get (i:=i) (x:=x) t (by simpa using e);exact⟨u,by simpa using a,b⟩
theorem Vals.set(r:RelV x u):∀{xs:N2} {us:L9} (i:Nat),Vals xs us->Vals (xs.set i x) (us.set i u)
 | _,_,_,.nil=>.nil
 | _,_,0,.cons _ t=>.cons r t
 | _,_,i+1,.cons q t=>.cons q (Vals.set r i t)
theorem Vals.append:∀{xs ys:N2} {us a:L9},Vals xs us->Vals ys a->Vals (xs++ys) (us++a)
 | _,_,_,_,.nil,s=>s
 | _,_,_,_,.cons r t,s=>.cons r (Vals.append t s)
theorem Vals.take:∀{xs:N2} {us:L9} (n:Nat),Vals xs us->Vals (xs.take n) (us.take n)
 | _,_,0,_=>.nil
 | _,_,_+1,.nil=>.nil
 | _,_,n+1,.cons r t=>.cons r (Vals.take n t)
theorem Vals.drop:∀{xs:N2} {us:L9} (n:Nat),Vals xs us->Vals (xs.drop n) (us.drop n)
 | _,_,0,r=>r
 | _,_,_+1,.nil=>.nil
 | _,_,n+1,.cons _ t=>Vals.drop n t
noncomputable def RelO:N3->Option Value->Prop
 | some v,some u=>RelV v u
 | none,none=>True
 | _,_=>False
noncomputable def KV{κ:Type}:List (κ×V)->List (κ×Value)->Prop:=Paired λ(p:κ×V) (q:κ×Value)=>p.1=q.1/\RelV p.2 q.2
noncomputable def kV:Key->V
 | .inl i=>.int i
 | .inr x=>.str x
inductive HO where
 | lst (xs:N2)
 | tup (xs:N2)
 | dK (kvs:List (Key×V)) | dT (kvs:List (List Key×V))
 | set (S:Int->Bool) (n:Nat)
 | ins (C dx:Addr) (fs:List (Str×V))
 | own (x:Addr)
 | xd (fs:List (Str×V))
 | met (f x:Addr)
 | rng (lo hi:Int)
 | frz (o:Obj) (u:HO)
 | tbl (ps:Array Value)
 | ext (φ:Heap->Prop)
noncomputable abbrev Hp:=Addr->Option HO
noncomputable def upd(H:Hp)(a:Addr)(o:HO):Hp:=λb=>if b=a then some o else H b
def jz{H:Hp}:upd H a o a=some o:=by unfold upd;rw[vd rfl]
def jo{H:Hp}(h:b≠a):upd H a o b=H b:=by unfold upd;rw[vc h]
def j5I{H:Hp}{a:Addr}{o u:HO}:upd (upd H a o) a u=upd H a u:=by
 funext b;unfold upd;split<;>rfl
def jZ{H:Hp}(h:H a=some o)(h':H b=some u)(d:o≠u):a≠b:=by
 intro e;subst e;rw[h]at h';exact d (vL h')
def je{H:Hp}(h:H a=some o)(h':H b=none):a≠b:=by
 intro e;subst e;rw[h]at h';cases h'
section
variable(P:Program)(w:World)
noncomputable def ObjOk(H:Hp)(h:Heap)(a:Addr):HO->Prop
 | .lst xs=>xs.length<=sizeLine/\∃(its:L9) (n:Nat),Vals xs its/\h.get? a=some {cls:=.type "list",data:=.seq its.toArray n}
 | .tup xs=>xs.length<=sizeLine/\∃its:L9,Vals xs its/\IsTup h a its.toArray
 | .dK kvs=>kvs.length<=sizeLine/\(a==sysModules)=false/\∃vs,KV kvs vs/\h.DictOf (mixKind P w) a vs
 | .dT kvs=>kvs.length<=sizeLine/\(a==sysModules)=false/\∃xs:List (List Key×Addr×Value),
   Paired (λ(p:List Key×V) (q:List Key×Addr×Value)=>p.1=q.1/\H q.2.1=some (.tup (p.1.map kV))/\RelV p.2 q.2.2) kvs xs/\
   ∃o es ep,h.get? a=some o/\o.ExactDict/\o.data = .dict es ep/\es.toList=xs.map (entryOfKey (tupleKind (mixKind P w)))/\(xs.map (·.1)).Nodup
 | .set S n=>h.SetOf (intKind P w) a S n
 | .ins C dx fs=>H dx=some (.own a)/\fs.length<=1000/\dx≠a/\h.get? a=some (PySem.W.instObj C dx)/\
   ∃mA,h.Ns1 dx mA/\(∀f,RelO (fs.lookup f) (mA f))/\PySem.Within mA (fs.map (·.1))
 | .own _=>∃o,h.get? a=some o
 | .xd fs=>∃mA,h.Ns1 a mA/\∀f,RelO (fs.lookup f) (mA f)
 | .rng lo hi=>∃t u v,h.get? a=some {cls:=.type "range",data:=.fields #[.int lo t,.int hi u,.int 1 v]}
 | .frz o u=>h.get? a=some o/\ObjOk H h a u
 | .tbl ps=>h.get? a=some {cls:=.none,data:=.fields ps}
 | .met f x=>h.get? a=some (PySem.W.methodObj (.ref f) (.ref x))
 | .ext φ=>φ h/\(∃o,h.get? a=some o)/\∀h1 h2:Heap,φ h1->(∀o,h1.get? a=some o->h2.get? a=some o)->φ h2
def HOk(H:Hp)(h:Heap):Prop:=∀a o,H a=some o->ObjOk P w H h a o
end
section
variable{P:Program}{w:World}{H H':Hp}{h h':Heap}{a:Addr}{o:HO}
def ObjOk.lt(x:ObjOk P w H h a o):a<h.objs.size:=by
 cases o with
 | lst xs=>obtain⟨_,_,_,_,e⟩:=x;exact vI e
 | tup xs=>obtain⟨_,_,_,p⟩:=x;exact p.lt
 | dK kvs=>obtain⟨_,_,_,_,o,_,_,e,_⟩:=x;exact vI e
 | dT kvs=>obtain⟨_,_,_,_,o,_,_,e,_⟩:=x;exact vI e
 | set S n=>obtain⟨o,_,_,_,e,_⟩:=x;exact vI e
 | ins C dx fs=>obtain⟨_,_,_,e,_⟩:=x;exact vI e
 | own y=>obtain⟨_,e⟩:=x;exact vI e
 | xd fs=>obtain⟨_,⟨_,_,_,e,_⟩,_⟩:=x;exact vI e
 | rng lo hi=>obtain⟨_,_,_,e⟩:=x;exact vI e
 | frz ob u=>obtain⟨e,_⟩:=x;exact vI e
 | tbl ps=>exact vI (show h.get? a=some _ from x)
 | met f y=>exact vI (show h.get? a=some _ from x)
 | ext φ=>obtain⟨_,⟨_,e⟩,_⟩:=x;exact vI e
theorem Paired.mapP{c d:Type}{F G:c->d->Prop}:∀{l₁:List c} {l₂:List d},Paired F l₁ l₂->(∀a b,F a b->G a b)->Paired G l₁ l₂
 | _,_,.nil,_=>.nil
 | _,_,.cons r t,f=>.cons (f _ _ r) (Paired.mapP t f)
def ObjOk.stay(x:ObjOk P w H h a o)(k:∀b u,(b=a\/H b=some (.own a))->h.get? b=some u->h'.get? b=some u)
  (D:∀b,H b=some (.own a)->H' b=some (.own a)) (E:∀b xs,H b=some (.tup xs)->H' b=some (.tup xs)):ObjOk P w H' h' a o:=by
 induction o with
 | lst xs=>obtain⟨z,l,n,r,e⟩:=x;exact⟨z,l,n,r,k _ _ (.inl rfl) e⟩
 | tup xs=>obtain⟨z,l,r,g,e,c⟩:=x;exact⟨z,l,r,g,k _ _ (.inl rfl) e,c⟩
 | dK kvs=>obtain⟨z,y,G,r,g,j,i,e,c⟩:=x;exact⟨z,y,G,r,g,j,i,k _ _ (.inl rfl) e,c⟩
 | dT kvs=>
  obtain⟨z,y,xs,r,g,j,i,e,c⟩:=x;exact⟨z,y,xs,Paired.mapP r λp q z=>⟨z.1,E _ _ z.2.1,z.2.2⟩,g,j,i,k _ _ (.inl rfl) e,c⟩
 | set S n=>obtain⟨g,j,i,t,e,c⟩:=x;exact⟨g,j,i,t,k _ _ (.inl rfl) e,c⟩
 | ins C dx fs=>
  obtain⟨d,z,F,e,m,⟨s,j,i,B,c⟩,r⟩:=x;exact⟨D _ d,z,F,k _ _ (.inl rfl) e,m,⟨s,j,i,k _ _ (.inr d) B,c⟩,r⟩
 | own y=>obtain⟨g,e⟩:=x;exact⟨g,k _ _ (.inl rfl) e⟩
 | xd fs=>obtain⟨m,⟨s,j,i,e,c⟩,r⟩:=x;exact⟨m,⟨s,j,i,k _ _ (.inl rfl) e,c⟩,r⟩
 | rng lo hi=>obtain⟨t,u,v,e⟩:=x;exact⟨t,u,v,k _ _ (.inl rfl) e⟩
 | frz g u ih=>obtain⟨e,q⟩:=x;exact⟨k _ _ (.inl rfl) e,ih q⟩
 | tbl ps=>
  have e:h.get? a=some {cls:=.none,data:=.fields ps}:=x;show h'.get? a=some {cls:=.none,data:=.fields ps};exact k a _ (.inl rfl) e
 | met f y=>
  have e:h.get? a=some (PySem.W.methodObj (.ref f) (.ref y)):=x;show h'.get? a=some (PySem.W.methodObj (.ref f) (.ref y));exact k a _ (.inl rfl) e
 | ext φ=>obtain⟨p,⟨o,e⟩,A⟩:=x;exact⟨A _ _ p λo q=>k _ _ (.inl rfl) q,⟨o,k _ _ (.inl rfl) e⟩,A⟩
def HOk.lt(x:HOk P w H h)(e:H a=some o):a<h.objs.size:=(x a o e).lt
def HOk.fresh(x:HOk P w H h)(e:h.objs.size<=a):H a=none:=by
 cases q:H a with
 | none=>rfl
 | some u=>exact ue (Nat.lt_of_lt_of_le (x.lt q) e) (Nat.lt_irrefl _)
def HOk.kept(x:HOk P w H h)(k:∀b u,h.get? b=some u->h'.get? b=some u):HOk P w H h':=λa o e=>
 (x a o e).stay (λb u _ q=>k b u q) (λ_ q=>q) λ_ _ q=>q
def HOk.laid(x:HOk P w H h)(k:∀b u,h.get? b=some u->h'.get? b=some u)(i:h.objs.size<=a)(d:ObjOk P w (upd H a o) h' a o):HOk P w (upd H a o) h':=λb u e=>by
 have g:=x.fresh i;by_cases f:b=a
 .subst f;rw[jz]at e;cases e;exact d
 .rw[jo f]at e;exact(x b u e).stay (λc v _ q=>k c v q) (λc q=>by rw[jo (je q g)];exact q) λc j q=>by rw[jo (je q g)];exact q
end
def Rd(H:Hp)(a:Addr)(u:HO):Prop:=H a=some u\/∃o,H a=some (.frz o u)
def Rd.ok{H:Hp}(r:Rd H a u)(x:HOk P w H h):ObjOk P w H h a u:=by
 rcases r with r | ⟨o,r⟩
 .exact x a u r
 .obtain⟨_,q⟩:=x a _ r;exact q
noncomputable def Mut:Option HO->Prop
 | some (.lst _)=>True
 | some (.dK _)=>True
 | some (.dT _)=>True
 | some (.set _ _)=>True
 | some (.ins _ _ _)=>True
 | some (.ext _)=>True
 | _=>False
section
variable{P:Program}{w:World}{H:Hp}{h h':Heap}{x e:Addr}{o':HO}
def HOk.write(t:HOk P w H h)(j:Mut (H x))(o:e=x\/H e=some (.own x))(k:∀b u,b≠e->h.get? b=some u->h'.get? b=some u)(m:∃u,h'.get? e=some u)
  (n:ObjOk P w (upd H x o') h' x o'):HOk P w (upd H x o') h':=λb u q=>by
 have d:∀c y,H c=some (.own y)->c≠x:=λc y r z=>by subst z;rw[r]at j;exact j
 have f:∀c l,H c=some (.tup l)->c≠x:=λc l r z=>by subst z;rw[r]at j;exact j
 by_cases g:b=x
 .subst g;rw[jz]at q;cases q;exact n
 .rw[jo g]at q;by_cases a:b=e
  .have p:H b=some (.own x):=by
    rcases o with z | z
    .exact ue (a.trans z) g
    .rw[a];exact z
   rw[q]at p;cases p;obtain⟨v,s⟩:=m;exact⟨v,by rw[a];exact s⟩
  .refine(t b u q).stay (λc v i r=>k c v ?_ r) (λc r=>by rw[jo (d c b r)];exact r) λc l r=>by rw[jo (f c l r)];exact r
   rcases i with rfl | i
   .exact a
   .rintro rfl;rcases o with z | z
    .exact d c b i z
    .rw[i]at z;cases z;exact g rfl
end
structure Un(fs ex:L7)(H H':Hp)(h h':Heap):Prop where
 keep:∀b o,h.get? b=some o->H b=none->b∉fs->b∉ex->h'.get? b=some o
 slot:∀b o,h.get? b=some o->H b=none->b∈fs->b∉ex->∃sl,h'.get? b=some {o with slots:=sl}
 free:∀b o,h.get? b=some o->H b=none->b∉ex->H' b=none
 there:∀b o,h.get? b=some o->b∉ex->∃o',h'.get? b=some o'
 tups:∀b xs,H b=some (.tup xs)->H' b=some (.tup xs)
 frzs:∀b o u,H b=some (.frz o u)->H' b=some (.frz o u)
 tbls:∀b ps,H b=some (.tbl ps)->∃more,H' b=some (.tbl (ps++more))
section
variable{fs fs' ex ex':L7}{H H1 H2:Hp}{h h1 h2 h':Heap}{a x e:Addr}{o:HO}
def Un.any(u:Un fs ex H H1 h h1)(q:h.get? b=some ob)(n:H b=none)(c:b∉ex):∃d,h1.get? b=some {ob with slots:=d}:=by
 by_cases a:b∈fs
 .exact u.slot b ob q n a c
 .exact⟨ob.slots,u.keep b ob q n a c⟩
def Un.kept(k:∀b u,h.get? b=some u->h'.get? b=some u):Un fs ex H H h h':=
 ⟨λb a q _ _ _=>k b a q,λb a q _ _ _=>⟨a.slots,k b a q⟩,λ_ _ _ n _=>n,λb a q _=>⟨a,k b a q⟩,λ_ _ q=>q,λ_ _ _ q=>q,λ_ c q=>⟨#[],by rw[q];simp⟩⟩
def Un.refl:Un fs ex H H h h:=Un.kept λ_ _ q=>q
def Un.laid(k:∀b u,h.get? b=some u->h'.get? b=some u)(d:h.objs.size<=a)(c:H a=none):Un fs ex H (upd H a o) h h' where
 keep:=λb u q _ _ _=>k b u q
 slot:=λb u q _ _ _=>⟨u.slots,k b u q⟩
 free:=λb u q n _=>by rw[jo (vE (Nat.lt_of_lt_of_le (vI q) d))];exact n
 there:=λb u q _=>⟨u,k b u q⟩
 tups:=λb e q=>by rw[jo (je q c)];exact q
 frzs:=λb u e q=>by rw[jo (je q c)];exact q
 tbls:=λb f q=>⟨#[],by rw[jo (je q c),q];simp⟩
def Un.write(c:Mut (H x))(j:e=x\/H e=some (.own x))(k:∀b u,b≠e->h.get? b=some u->h'.get? b=some u)(d:∃u,h'.get? e=some u):Un fs ex H (upd H x o) h h':=by
 have i:∀b,H b=none->b≠x:=λb n z=>by subst z;rw[n]at c;exact c
 have g:∀b,H b=none->b≠e:=λb n z=>by
  subst z;rcases j with r | r
  .exact i b n r
  .rw[n]at r;cases r
 have f:∀b u,H b=some u->¬Mut (some u)->b≠x:=λb u q l z=>by subst z;rw[q]at c;exact l c
 refine⟨λb u q n _ _=>k b u (g b n) q,λb u q n _ _=>⟨u.slots,k b u (g b n) q⟩,λb u q n _=>by rw[jo (i b n)];exact n,λb u q _=>?_,
  λb m q=>by rw[jo (f b _ q λz=>z)];exact q,λb u m q=>by rw[jo (f b _ q λz=>z)];exact q,λb p q=>⟨#[],by rw[jo (f b _ q λz=>z),q];simp⟩⟩
 by_cases a:b=e
 .subst a;exact d
 .exact⟨u,k b u a q⟩
end
noncomputable def trk(h:Heap)(H:Hp):L7:=(List.range h.objs.size).filter λa=>(H a).isSome
noncomputable def hidT(h:Heap)(H:Hp):Heap:=PySem.W.hideAll h (trk h H)
def j2f(h:Heap)(H:Hp):(hidT h H).objs.size=h.objs.size:=PySem.W.hideAll_size _ _
def j3i{H:Hp}(e:h.get? b=some o)(n:H b=none):(hidT h H).get? b=some o:=
 PySem.W.hideAll_get _ e λa=>by
  have q:(H b).isSome=true:=(vP.mp a).2;rw[n]at q;simp at q
def j5h{H:Hp}(e:(hidT h H).get? b=some o):h.get? b=some o/\H b=none:=by
 have a:h.get? b=some o:=PySem.W.of_hideAll (trk h H) e;refine⟨a,?_⟩;cases q:H b with
 | none=>rfl
 | some x=>
  have c:b∈trk h H:=vP.mpr ⟨v4.mpr (vI a),by simp[q]⟩;have z:(hidT h H).get? b=none:=PySem.W.hideAll_none (trk h H) c;rw[z]at e;cases e
structure Mod(K:Frg)(mg:Str->Option Value)(base:Heap):Prop where
 kin:K.In base
 glob:base.Ns mainGlobals mg
 blt:∃mb,base.Ns builtinsNs mb/\∀x:Str,x≠"__name__"->mb x=bootBuiltins x
 nolimit:base.NoLimit
structure Cx where
 prog:Program
 w:World
 K:Frg
 mg:Str->Option Value
 base:Heap
 A:Around
 N:L8
 s₀:Shared
 H₀:Hp
 env:Env
 outer:List Env
 stack:List Env
 ex:L7
 fn:Str->Bool
 calm:Bool
 pn:List (Addr×Obj)
 xe:Value->Shared->Prop
noncomputable def frs(l:List Env):L7:=l.filterMap (·.frame)
noncomputable abbrev Cx.fs(X:Cx):L7:=frs X.outer
def Vis(sc:Scope)(x:Str):Prop:=sc.names.lookup x=some .local\/sc.names.lookup x=some .cell\/sc.names.lookup x=some .free
def Loc(sc:Scope)(x:Str):Prop:=sc.names.lookup x=some .local\/sc.names.lookup x=some .cell
def Look(env:Env)(h:Heap)(m:Str->Option Value)(x:Str)(u:Value):Prop:=
 (env.kindOf x=some .local/\m x=some u)\/((env.kindOf x=some .cell\/env.kindOf x=some .free)/\∃c,env.cells.lookup x=some c/\h.IsCell c (some u))
structure Cx.Ok(X:Cx):Prop where
 mod:Mod X.K X.mg X.base
 kind:X.env.scope.kind = .function
 glob:X.env.globals=mainGlobals
 blt:X.env.builtins=builtinsNs
 above:X.s₀.heap.objs.size<=X.env.locals
 inj:∀x y c,X.env.cells.lookup x=some c->X.env.cells.lookup y=some c->x=y
 has:∀x,(X.env.kindOf x=some .cell\/X.env.kindOf x=some .free)->∃c,X.env.cells.lookup x=some c
 cab:∀x c,X.fn x=true->X.env.cells.lookup x=some c->X.s₀.heap.objs.size<=c
 hd:X.calm=true->X.A.handled=none
 frames:X.A.frames=some X.stack
 stk:X.stack=X.outer\/(X.stack=X.env::X.outer/\X.env.frame=some X.env.locals)
 exf:∀b∈X.ex,b≠X.env.locals/\∀x c,X.env.cells.lookup x=some c->c≠b
 bs:∀b o,X.base.get? b=some o->X.s₀.heap.get? b=some o/\X.H₀ b=none
 bsz:X.base.objs.size<=X.s₀.heap.objs.size
 noex:∀b o,X.base.get? b=some o->b∉X.ex
 exfs:∀b∈X.ex,b∉X.fs
 funs:X.s₀.heap.FunFrames X.base X.outer
 frf:∀b∈X.fs,X.H₀ b=none
structure Inv(X:Cx)(pins:List (Addr×Obj))(σ:List N3)(H:Hp)(s:Shared):Prop where
 ok:X.Ok
 os:s.os=X.s₀.os
 bare:AllBare s.gens
 base:Un X.fs X.ex X.H₀ H X.s₀.heap s.heap
 loc:∃m,s.heap.Ns X.env.locals m/\∀(i:Nat) (x:Str) (v:V),X.N[i]?=some x->σ[i]?=some (some v)->Vis X.env.scope x->∃u,RelV v u/\Look X.env s.heap m x u
 cell:∀x c,X.env.cells.lookup x=some c->∃v,s.heap.IsCell c v
 free:H X.env.locals=none
 freeC:∀x c,X.env.cells.lookup x=some c->H c=none
 pin:∀p∈X.pn++pins,s.heap.get? p.1=some p.2/\H p.1=none/\p.1≠X.env.locals/\p.1∉X.fs/\∀v,p.2.data≠.cell v
 hok:HOk X.prog X.w H s.heap
 len:σ.length=X.N.length
section
variable{X:Cx}{pins:List (Addr×Obj)}{σ:List N3}{H H':Hp}{s:Shared}{h':Heap}
def Cx.Ok.nofr(c:X.Ok)(e:X.base.get? b=some o):b∉X.fs:=λa=>by
 have:=(c.funs.mem a).1;rw[e]at this;cases this
def Inv.bs(I:Inv X pins σ H s):∀b o,X.base.get? b=some o->s.heap.get? b=some o/\H b=none:=λb o e=>
 ⟨I.base.keep b o (I.ok.bs b o e).1 (I.ok.bs b o e).2 (I.ok.nofr e) (I.ok.noex b o e),I.base.free b o (I.ok.bs b o e).1 (I.ok.bs b o e).2 (I.ok.noex b o e)⟩
def Inv.bk(I:Inv X pins σ H s):∀b o,X.base.get? b=some o->s.heap.get? b=some o:=λb o e=>(I.bs b o e).1
def Inv.mod(I:Inv X pins σ H s):Mod X.K X.mg X.base:=I.ok.mod
def Inv.kIn(I:Inv X pins σ H s):X.K.In s.heap:=I.ok.mod.kin.keeps I.bk
def Inv.lt(I:Inv X pins σ H s):X.env.locals<s.heap.objs.size:=let ⟨_,hn,_⟩:=I.loc;hn.lt
def Inv.sz(I:Inv X pins σ H s):X.s₀.heap.objs.size<=s.heap.objs.size:=vW I.ok.above (vY I.lt)
def Inv.nofs(I:Inv X pins σ H s)(h:s.heap.objs.size<=a):a∉X.fs:=λb=>by
 obtain⟨_,o,c,_⟩:=I.ok.funs.mem b;exact ue (Nat.lt_of_lt_of_le (vI c) (vW I.sz h)) (Nat.lt_irrefl _)
def Inv.cne(I:Inv X pins σ H s):∀x c,X.env.cells.lookup x=some c->c≠X.env.locals:=λx c e z=>by
 obtain⟨v,o,f,d⟩:=I.cell x c e;obtain⟨m,⟨i,h,g,b,a,_⟩,_⟩:=I.loc;rw[z,b]at f;cases f;rw[a]at d;cases d
def Inv.funs(I:Inv X pins σ H s):s.heap.FunFrames X.base X.outer:=by
 have a:∀(l:List Env),(∀b∈frs l,b∈X.fs)->X.s₀.heap.FunFrames X.base l->s.heap.FunFrames X.base l:=by
  intro l
  induction l with
  | nil=>intro _ _;trivial
  | cons env r ih=>
   intro g j;obtain⟨i,⟨L,o,f,k,m,h⟩,n⟩:=j;have c:L∈X.fs:=g L (by unfold frs;rw[filterMap_cons,f];exact vq);obtain⟨p,e⟩:=I.base.slot L o m (I.ok.frf L c) c λz=>I.ok.exfs L z c
   exact⟨i,⟨L,_,f,k,e,h⟩,ih (λb d=>g b (by unfold frs;rw[filterMap_cons,f];exact vp _ d)) n⟩
 exact a X.outer (λ_ d=>d) I.ok.funs
def Inv.stack(I:Inv X pins σ H s):s.heap.FunFrames X.base X.stack:=by
 rcases I.ok.stk with e | ⟨e,a⟩
 .rw[e];exact I.funs
 .rw[e];obtain⟨m,b,_⟩:=I.loc;refine .cons (by rw[I.ok.kind];decide) a b ?_ I.funs;exact Heap.get?_none_of_le (vW I.ok.bsz I.ok.above)
def Inv.stkSub(I:Inv X pins σ H s):∀b∈frs X.stack,b∈X.env.locals::X.fs:=λb a=>by
 rcases I.ok.stk with e | ⟨e,c⟩
 .rw[e]at a;exact vp _ a
 .rw[e]at a;unfold frs at a;rw[filterMap_cons,c]at a;exact a
def Inv.stkFree(I:Inv X pins σ H s):∀b∈frs X.stack,H b=none:=λb a=>by
 rcases mem_cons.mp (I.stkSub b a)with e | a
 .rw[e];exact I.free
 .obtain⟨_,o,c,_⟩:=I.ok.funs.mem a;exact I.base.free b o c (I.ok.frf b a) λz=>I.ok.exfs b z a
def Inv.step{g':Array GenState}{t':Nat}{d':Drawn}{ch:L7}(I:Inv X pins σ H s)
  (h:∀b∈ch,(b∈X.ex\/X.s₀.heap.objs.size<=b)/\b≠X.env.locals/\(∀x c,X.env.cells.lookup x=some c->c≠b)/\∀p∈X.pn++pins,p.1≠b)
  (j:∀b o,b≠X.env.locals->b∉X.fs->b∉ch->s.heap.get? b=some o->H b=none->h'.get? b=some o)
  (A:∀b o,b≠X.env.locals->b∈X.fs->b∉ch->s.heap.get? b=some o->H b=none->∃N,h'.get? b=some {o with slots:=N}) (f:∀b o,b∉ch->s.heap.get? b=some o->H b=none->H' b=none)
  (C:∀b o,b∉ch->s.heap.get? b=some o->∃o',h'.get? b=some o')
  (K:∀b xs,H b=some (.tup xs)->H' b=some (.tup xs)) (F:∀b o u,H b=some (.frz o u)->H' b=some (.frz o u)) (J:∀b ps,H b=some (.tbl ps)->∃more,H' b=some (.tbl (ps++more)))
  (ns:∀m,s.heap.Ns X.env.locals m->h'.Ns X.env.locals m) (M:HOk X.prog X.w H' h') (U:AllBare g') :
  Inv X pins σ H' {s with heap:=h',gens:=g',drawn:=d',toks:=t'}:=by
 have G:∀b o,X.s₀.heap.get? b=some o->b≠X.env.locals:=λb o e=>vE (Nat.lt_of_lt_of_le (vI e) I.ok.above)
 have y:∀b o,X.s₀.heap.get? b=some o->b∉X.ex->b∉ch:=λb o e a B=>by
  rcases(h b B).1 with z | z
  .exact a z
  .exact ue (Nat.lt_of_lt_of_le (vI e) z) (Nat.lt_irrefl _)
 have g:∀x c,X.env.cells.lookup x=some c->∀v,s.heap.IsCell c v->h'.IsCell c v:=λx c e v ⟨o,D,L⟩=>by
  have t:c∉ch:=λz=>(h c z).2.2.1 x c e rfl
  by_cases P:c∈X.fs
  .obtain⟨N,q⟩:=A c o (I.cne x c e) P t D (I.freeC x c e);exact⟨_,q,L⟩
  .exact⟨o,j c o (I.cne x c e) P t D (I.freeC x c e),L⟩
 refine⟨I.ok,I.os,U,⟨λb o e n B a=>?_,λb o e n B a=>?_,λb o e n a=>?_,λb o e a=>?_,λb xs e=>K b xs (I.base.tups b xs e),λb o xs e=>F b o xs (I.base.frzs b o xs e),λb ps e=>?_⟩,?_,λx c e=>?_,?_,λx c e=>?_,λp Q=>?_,M,I.len⟩
 .exact j b o (G b o e) B (y b o e a) (I.base.keep b o e n B a) (I.base.free b o e n a)
 .obtain⟨N,w⟩:=I.base.slot b o e n B a;obtain⟨O,E⟩:=A b _ (G b o e) B (y b o e a) w (I.base.free b o e n a);exact⟨O,E⟩
 .obtain⟨o',w⟩:=I.base.there b o e a;exact f b o' (y b o e a) w (I.base.free b o e n a)
 .obtain⟨o',w⟩:=I.base.there b o e a;exact C b o' (y b o e a) w
 .obtain⟨Z,w⟩:=I.base.tbls b ps e;obtain⟨m2,E⟩:=J b _ w;exact⟨Z++m2,by rw[E,Array.append_assoc]⟩
 .obtain⟨m,Y,W⟩:=I.loc;refine⟨m,ns m Y,λi x v w E T=>?_⟩;obtain⟨u,r,l⟩:=W i x v w E T;refine⟨u,r,?_⟩;rcases l with l | ⟨k,c,e,z⟩
  .exact .inl l
  .exact .inr ⟨k,c,e,g x c e _ z⟩
 .obtain⟨v,z⟩:=I.cell x c e;exact⟨v,g x c e v z⟩
 .obtain⟨m,⟨o,_,_,D,_⟩,_⟩:=I.loc;exact f _ o (λz=>(h _ z).2.1 rfl) D I.free
 .obtain⟨v,o,D,L⟩:=I.cell x c e;exact f c o (λz=>(h c z).2.2.1 x c e rfl) D (I.freeC x c e)
 .obtain⟨e,n,R,S,d⟩:=I.pin p Q;have t:p.1∉ch:=λz=>(h p.1 z).2.2.2 p Q rfl
  exact⟨j p.1 p.2 R S t e n,f p.1 p.2 t e n,R,S,d⟩
def Inv.un{t':Nat}(I:Inv X pins σ H s)(u:Un X.fs [] H H' s.heap h')(g:HOk X.prog X.w H' h'):Inv X pins σ H' {s with heap:=h',toks:=t'}:=by
 obtain⟨m,⟨o,p,l,h,r⟩,_⟩:=id I.loc;obtain⟨v,i⟩:=u.any h I.free (by simp);exact I.step (g':=s.gens) (d':=s.drawn) (ch:=[]) (λ_ z=>nomatch z) (λb o _ f _ e n=>u.keep b o e n f (by simp)) (λb o _ f _ e n=>u.slot b o e n f (by simp)) (λb o _ e n=>u.free b o e n (by simp)) (λb o _ e=>u.there b o e (by simp)) u.tups u.frzs u.tbls (λq j=>by
  obtain⟨t,d,c,a,k⟩:=j;rw[h]at a;cases a;exact⟨_,d,c,i,k⟩) g I.bare
def Inv.call{g':Array GenState}{t':Nat}{d':Drawn}{ch:L7}(I:Inv X pins σ H s)(u:Un (frs X.stack) ch H H' s.heap h')(j:HOk X.prog X.w H' h')(q:AllBare g')
  (d:∀b∈ch,(b∈X.ex\/X.s₀.heap.objs.size<=b)/\b≠X.env.locals/\(∀x c,X.env.cells.lookup x=some c->c≠b)/\∀p∈X.pn++pins,p.1≠b) :
  Inv X pins σ H' {s with heap:=h',gens:=g',drawn:=d',toks:=t'}:=by
 obtain⟨m,⟨o,y,w,k,r⟩,_⟩:=id I.loc;obtain⟨C,i⟩:=u.any k I.free λz=>(d _ z).2.1 rfl
 exact I.step (ch:=ch) d (λb o i l a e n=>u.keep b o e n (λz=>(mem_cons.mp (I.stkSub b z)).elim i l) a) (λb o _ _ a e n=>u.any e n a) (λb o a e n=>u.free b o e n a) (λb o a e=>u.there b o e a) u.tups u.frzs u.tbls (λA t=>by
  obtain⟨B,h,g,f,v⟩:=t;rw[k]at f;cases f;exact⟨_,h,g,i,v⟩) j q
def Inv.turned{t':Nat}{it:Addr}(I:Inv X pins σ H s)(k:∀b o,b≠it->s.heap.get? b=some o->h'.get? b=some o)(y:H it=none)(f:it≠X.env.locals)
  (i:it∈X.ex\/X.s₀.heap.objs.size<=it) (j:∀x c,X.env.cells.lookup x=some c->c≠it) (l:∀p∈X.pn++pins,p.1≠it):Inv X pins σ H {s with heap:=h',toks:=t'}:=by
 have d:∀b u,H b=some u->b≠it:=λb u e z=>by rw[z,y]at e;cases e
 refine I.step (g':=s.gens) (d':=s.drawn) (ch:=[it]) (λb t=>?_) (λb o _ _ a e _=>k b o (λz=>a (by simp[z])) e) (λb o _ _ a e _=>⟨o.slots,k b o (λz=>a (by simp[z])) e⟩) (λ_ _ _ _ n=>n)
  (λb o a e=>⟨o,k b o (λz=>a (by simp[z])) e⟩) (λ_ _ e=>e) (λ_ _ _ e=>e) (λb B e=>⟨#[],by rw[e];simp⟩) (λm w=>?_) (λb u e=>?_) I.bare
 .have e:b=it:=by simpa using t
  subst e;exact⟨i,f,j,l⟩
 .obtain⟨o,h,g,A,r⟩:=w;exact⟨o,h,g,k _ o (Ne.symm f) A,r⟩
 .refine(I.hok b u e).stay (λc v a q=>k c v ?_ q) (λ_ q=>q) λ_ _ q=>q
  rcases a with z | z
  .rw[z];exact d b u e
  .exact d c _ z
def Inv.tok(I:Inv X pins σ H s)(t:Nat):Inv X pins σ H {s with toks:=t}:=I.un (h':=s.heap) (t':=t) Un.refl I.hok
def Inv.kept(I:Inv X pins σ H s)(k:∀b u,s.heap.get? b=some u->h'.get? b=some u):Inv X pins σ H {s with heap:=h',toks:=t'}:=I.un (Un.kept k) (I.hok.kept k)
def Inv.laid(I:Inv X pins σ H s)(k:∀b u,s.heap.get? b=some u->h'.get? b=some u)(c:s.heap.objs.size<=a)(d:ObjOk X.prog X.w (upd H a o) h' a o) :
  Inv X pins σ (upd H a o) {s with heap:=h',toks:=t'}:=I.un (Un.laid k c (I.hok.fresh c)) (I.hok.laid k c d)
def Inv.write(I:Inv X pins σ H s)(f:Mut (H x))(d:e=x\/H e=some (.own x))(k:∀b u,b≠e->s.heap.get? b=some u->h'.get? b=some u)(a:∃u,h'.get? e=some u)
  (c:ObjOk X.prog X.w (upd H x o) h' x o):Inv X pins σ (upd H x o) {s with heap:=h',toks:=t'}:=I.un (Un.write f d k a) (I.hok.write f d k a c)
def Inv.weak(I:Inv X pins σ H s)(d:S'.length=σ.length)(w:∀(i:Nat) v,S'[i]?=some (some v)->σ[i]?=some (some v)):Inv X pins S' H s:=
 ⟨I.ok,I.os,I.bare,I.base,let ⟨m,hn,hl'⟩:=I.loc;⟨m,hn,λi x v a b c=>hl' i x v a (w i v b) c⟩,I.cell,I.free,I.freeC,I.pin,I.hok,d.trans I.len⟩
def Inv.pins_of(I:Inv X pins σ H s)(h:∀p∈pins',s.heap.get? p.1=some p.2/\H p.1=none/\p.1≠X.env.locals/\p.1∉X.fs/\∀v,p.2.data≠.cell v):Inv X pins' σ H s:=
 ⟨I.ok,I.os,I.bare,I.base,I.loc,I.cell,I.free,I.freeC,λp a=>(vh.mp a).elim (λz=>I.pin p (mem_append_left _ z)) (h p),I.hok,I.len⟩
def XN{N:L8}(e:N.Nodup){i j:Nat}{x:Str}(a:N[i]?=some x)(b:N[j]?=some x):i=j:=by
 obtain⟨f,c⟩:=vx.mp a;obtain⟨g,d⟩:=vx.mp b;exact(List.getElem_inj e).mp (c.trans d.symm)
def WS{M:Model}{A:Around}{E:Value->Shared->Prop}{i:Nat}{x:Str}{v:V}{u:Value}{Q:Unit->Shared->Prop}(I:Inv X pins σ H s)(hN:X.N.Nodup)(hi:X.N[i]?=some x)(w:Loc X.env.scope x)(r:RelV v u)
  (h:∀s',Inv X pins (σ.set i (some v)) H s'->(∃a,Heap.SameBut a s.heap s'.heap/\(a=X.env.locals\/X.env.cells.lookup x=some a))->Q () s') (hf:X.fn x=true\/X.env.scope.names.lookup x=some .local:=by first | exact .inl rfl | exact .inr rfl | assumption):wpAny M A (storeName X.env x u) Q E s:=by
 obtain⟨m,hn,hl⟩:=id I.loc;have R:(X.env.scope.kind == .class||(X.env.scope.kind == .module&&X.env.locals != X.env.globals))=false:=by rw[I.ok.kind];rfl
 have D:i<σ.length:=by rw[I.len];exact(vx.mp hi).1
 have G:=I.cne;have l:∀{a:Addr} {N:Heap},(∃o,s.heap.get? a=some o/\H a=none)->Heap.SameBut a s.heap N->HOk X.prog X.w H N:=λ{a N} ha f b ob e=>by
  obtain⟨_,_,B⟩:=ha;refine(I.hok b ob e).stay (λc Y t q=>(f.2 c ?_).trans q) (λ_ q=>q) λ_ _ q=>q
  rintro rfl;rcases t with rfl | t
  .rw[B]at e;cases e
  .rw[B]at t;cases t
 rcases w with F | F
 .refine wpAny_storeName_local F hn (λN a0 f=>?_) R;obtain⟨oL,_,_,a1,_⟩:=id hn;refine h _ ⟨I.ok,I.os,I.bare,⟨λb o e n J w=>?_,λb o e n J w=>?_,I.base.free,λb o e w=>?_,I.base.tups,I.base.frzs,I.base.tbls⟩,⟨_,a0,λj y v' g C Z=>?_⟩,λy c e=>?_,I.free,I.freeC,λp hp=>?_,l ⟨oL,a1,I.free⟩ f,by simpa using I.len⟩ ⟨_,f,.inl rfl⟩
  .exact(f.2 b (vE (Nat.lt_of_lt_of_le (vI e) I.ok.above))).trans (I.base.keep b o e n J w)
  .obtain⟨sl,g⟩:=I.base.slot b o e n J w;exact⟨sl,(f.2 b (vE (Nat.lt_of_lt_of_le (vI e) I.ok.above))).trans g⟩
  .obtain⟨o',g⟩:=I.base.there b o e w;exact⟨o',(f.2 b (vE (Nat.lt_of_lt_of_le (vI e) I.ok.above))).trans g⟩
  .by_cases L:j=i
   .subst L;rw[hi]at g;cases g;rw[List.getElem?_set_self D]at C;cases C;exact⟨u,r,.inl ⟨F,by simp⟩⟩
   .rw[List.getElem?_set_ne (Ne.symm L)]at C;obtain⟨u',r',q⟩:=hl j y v' g C Z;refine⟨u',r',?_⟩;rcases q with⟨k,e⟩ | ⟨k,c,e,z⟩
    .refine .inl ⟨k,?_⟩;have:y≠x:=λe=>L (XN hN g (e▸hi))
     simp[this,e]
    .exact .inr ⟨k,c,e,z.sameBut f (G y c e)⟩
  .obtain⟨Y,z⟩:=I.cell y c e;exact⟨Y,z.sameBut f (G y c e)⟩
  .obtain⟨e,n,W,nf,d⟩:=I.pin p hp;exact⟨(f.2 p.1 W).trans e,n,W,nf,d⟩
 .have K:X.fn x=true:=by
   rcases hf with z | z
   .exact z
   .rw[z]at F;cases F
  obtain⟨c,t⟩:=I.ok.has x (.inl F);obtain⟨Y,z⟩:=I.cell x c t;refine wpAny_storeName_cell I.ok.kind F t z (λN O f=>?_);obtain⟨oc,S,T⟩:=id z;refine h {s with heap:=N} ⟨I.ok,I.os,I.bare,⟨λb o e n J w=>?_,λb o e n J w=>?_,I.base.free,λb o e w=>?_,I.base.tups,I.base.frzs,I.base.tbls⟩,⟨m,hn.sameBut f (Ne.symm (G x c t)),λj y v' g C Z=>?_⟩,λy U e=>?_,I.free,I.freeC,λp hp=>?_,l ⟨oc,S,I.freeC x c t⟩ f,by simpa using I.len⟩ ⟨c,f,.inr t⟩
  .exact(f.2 b (vE (Nat.lt_of_lt_of_le (vI e) (I.ok.cab x c K t)))).trans (I.base.keep b o e n J w)
  .obtain⟨sl,g⟩:=I.base.slot b o e n J w;exact⟨sl,(f.2 b (vE (Nat.lt_of_lt_of_le (vI e) (I.ok.cab x c K t)))).trans g⟩
  .obtain⟨o',g⟩:=I.base.there b o e w;exact⟨o',(f.2 b (vE (Nat.lt_of_lt_of_le (vI e) (I.ok.cab x c K t)))).trans g⟩
  .by_cases L:j=i
   .subst L;rw[hi]at g;cases g;rw[List.getElem?_set_self D]at C;cases C;exact⟨u,r,.inr ⟨.inl F,c,t,O⟩⟩
   .rw[List.getElem?_set_ne (Ne.symm L)]at C;obtain⟨u',r',q⟩:=hl j y v' g C Z;refine⟨u',r',?_⟩;rcases q with q | ⟨k,U,e,z'⟩
    .exact .inl q
    .refine .inr ⟨k,U,e,z'.sameBut f ?_⟩;rintro rfl;exact L (XN hN g (I.ok.inj _ _ _ e t▸hi))
  .by_cases P:U=c
   .subst P;exact⟨_,O⟩
   .obtain⟨w2,z2⟩:=I.cell y U e;exact⟨w2,z2.sameBut f P⟩
  .obtain⟨e,n,W,nf,d⟩:=I.pin p hp;refine⟨(f.2 p.1 ?_).trans e,n,W,nf,d⟩;intro q;rw[q,S]at e;have q':oc=p.2:=vL e;exact d Y (by rw[<-q'];exact T)
def wK{E:Value->Shared->Prop}{Q:Unit->Shared->Prop}(I:Inv X pins σ H s)(b:X.N.Nodup)(hi:X.N[i]?=some x)(d:Loc X.env.scope x)(r:RelV v u)
  (h:∀s',Inv X pins (σ.set i (some v)) H s'->Q () s') (c:X.fn x=true\/X.env.scope.names.lookup x=some .local:=by first | exact .inl rfl | exact .inr rfl | assumption):wpAny M A (storeName X.env x u) Q E s:=
 WS I b hi d r (λs' a _=>h s' a) c
def Inv.call'(I:Inv X pins σ H s)(g:s'.os=s.os)(u:Un (frs X.stack) ch H H' s.heap s'.heap)(d:HOk X.prog X.w H' s'.heap)(f:AllBare s'.gens)
  (a:∀b∈ch,(b∈X.ex\/X.s₀.heap.objs.size<=b)/\b≠X.env.locals/\(∀x c,X.env.cells.lookup x=some c->c≠b)/\∀p∈X.pn++pins,p.1≠b):Inv X pins σ H' s':=by
 obtain⟨i,g',d',t',h⟩:=s';have e:h=s.os:=g;subst e;exact I.call (g':=g') (t':=t') (d':=d') u d f a
end
noncomputable abbrev XK:=Value->Option Addr->Hp->Prop
noncomputable abbrev St:=List N3
noncomputable abbrev VK:=V->Hp->Prop
noncomputable abbrev TE:=St->Hp->VK->Prop
noncomputable abbrev TT:=St->Hp->(Bool->Hp->Prop)->Prop
noncomputable abbrev TA:=St->Hp->(N2->Hp->Prop)->Prop
structure Ends where
 nx:St->Hp->Prop
 rt:VK
 bk:St->Hp->Prop:=λ_ _=>False
 ct:St->Hp->Prop:=λ_ _=>False
noncomputable abbrev TS:=Ends->St->Hp->Prop
def EP(X:Cx)(pins:List (Addr×Obj))(σ:St)(Q:VK)(u:Value)(s':Shared):Prop:=∃v H',Inv X pins σ H' s'/\RelV v u/\Q v H'
def TP(X:Cx)(pins:List (Addr×Obj))(σ:St)(Q:Bool->Hp->Prop)(b:Bool)(s':Shared):Prop:=∃H',Inv X pins σ H' s'/\Q b H'
def AP(X:Cx)(pins:List (Addr×Obj))(σ:St)(Q:N2->Hp->Prop)(us:L9)(s':Shared):Prop:=∃vs H',Inv X pins σ H' s'/\Vals vs us/\Q vs H'
def SP(X:Cx)(pins:List (Addr×Obj))(D:Ends)(f:Flow)(s':Shared):Prop:=
 match f with
 | .next=>∃S' H',Inv X pins S' H' s'/\D.nx S' H'
 | .brk=>∃S' H',Inv X pins S' H' s'/\D.bk S' H'
 | .cont=>∃S' H',Inv X pins S' H' s'/\D.ct S' H'
 | .ret u=>∃v S' H',Inv X pins S' H' s'/\RelV v u/\D.rt v H'
def PE(X:Cx)(e:Expr)(t:TE):Prop:=
 ∀(pins:List (Addr×Obj)) (s:Shared) (σ:St) (H:Hp) (Q:VK),Inv X pins σ H s->t σ H Q->wpAny (model X.prog X.w) X.A (eval e X.env) (EP X pins σ Q) X.xe s
def PT(X:Cx)(e:Expr)(t:TT):Prop:=
 ∀(pins:List (Addr×Obj)) (s:Shared) (σ:St) (H:Hp) (Q:Bool->Hp->Prop),Inv X pins σ H s->t σ H Q->wpAny (model X.prog X.w) X.A (isTrue e X.env (eval e X.env)) (TP X pins σ Q) X.xe s
def PW(X:Cx)(e:Expr)(t:TT):Prop:=
 ∀(whole:Sem Value) (pins:List (Addr×Obj)) (s:Shared) (σ:St) (H:Hp) (Q:Bool->Hp->Prop),Inv X pins σ H s->t σ H Q->wpAny (model X.prog X.w) X.A (isTrue e X.env whole) (TP X pins σ Q) X.xe s
def PW.pt(h:PW X e t):PT X e t:=h _
def PA(X:Cx)(es:List Expr)(t:TA):Prop:=
 ∀(pos:Pos) (pins:List (Addr×Obj)) (s:Shared) (σ:St) (H:Hp) (Q:N2->Hp->Prop),Inv X pins σ H s->t σ H Q->wpAny (model X.prog X.w) X.A (spliced (backTo pos (starEach es X.env))) (AP X pins σ Q) X.xe s
def PS(X:Cx)(st:Stmt)(t:TS):Prop:=
 ∀(pins:List (Addr×Obj)) (s:Shared) (σ:St) (H:Hp) (D:Ends),Inv X pins σ H s->t D σ H->wpAny (model X.prog X.w) X.A (exec st X.env) (SP X pins D) X.xe s
def PSs(X:Cx)(st:List Stmt)(t:TS):Prop:=
 ∀(pins:List (Addr×Obj)) (s:Shared) (σ:St) (H:Hp) (D:Ends),Inv X pins σ H s->t D σ H->wpAny (model X.prog X.w) X.A (execs st X.env) (SP X pins D) X.xe s
def thn{c:Type}{t:Sem c}{Q b:c->Shared->Prop}{M:Model}{A:Around}{E:Value->Shared->Prop}{s:Shared}(h:wpAny M A t Q E s)(d:∀a s,Q a s->b a s):wpAny M A t b E s:=wpAny_mono h d λ_ _ x=>x
section
variable{X:Cx}
def tVar(i:Nat):TE:=λσ H Q=>∃v,σ[i]?=some (some v)/\Q v H
def tC(v:V):TE:=λ_ H Q=>Q v H
def j6y(n:X.N[i]?=some x)(t:Vis X.env.scope x)(j:(x==("__debug__" : Str))=false:=by decide)(g:(x==("__classdict__" : Str))=false:=by decide):PE X (.Name x pos) (tVar i):=by
 intro f s w H Q I h;obtain⟨v,e,h⟩:=h;obtain⟨m,q,o⟩:=I.loc;obtain⟨u,r,l⟩:=o i x v n e t;have b:EP X f w Q u s:=⟨v,H,I,r,h⟩
 rcases l with⟨d,p⟩ | ⟨d,c,k,a⟩
 .exact wpAny_Name (wpAny_loadName_local I.ok.kind d q p b) j
 .rcases d with d | d
  .exact wpAny_Name (wpAny_loadName_cell I.ok.kind d k a b) j
  .exact wpAny_Name (wpAny_loadName_free I.ok.kind d k a b g) j
def jd{i j pos}:PE X (.Constant (.int i) j pos) (tC (.int i)):=λ_ _ _ H _ I h=>wpAny_Constant_int ⟨.int i,H,I.tok _,⟨_,rfl⟩,h⟩
def XU{b j pos}:PE X (.Constant (.bool b) j pos) (tC (.bl b)):=λ_ _ _ H _ I h=>Constant_bool ⟨.bl b,H,I,rfl,h⟩
def wx{j pos}:PE X (.Constant .none j pos) (tC .non):=λ_ _ _ H _ I h=>Constant_none ⟨.non,H,I,rfl,h⟩
def jE{x j pos}:PE X (.Constant (.str x) j pos) (tC (.str x)):=λ_ _ _ H _ I h=>Calls.Constant_str ⟨.str x,H,I.tok _,⟨_,rfl⟩,h⟩
def Gl(X:Cx)(x:Str):Prop:=X.env.kindOf x=some .globalImplicit
def xv{E:Value->Shared->Prop}{d:St}{H:Hp}{Q:Value->Shared->Prop}(I:Inv X pins d H s)(b:Gl X x)(c:X.mg x=some u)(h:Q u s)
  (a:(x==("__debug__" : Str))=false:=by decide):wpAny (model X.prog X.w) X.A (eval (.Name x pos) X.env) Q E s:=
 Calls.Name_function_global I.ok.kind b (Calls.loadGlobal_global (by rw[I.ok.glob];exact I.mod.glob.keeps I.bk) c h) a
def Zf{E:Value->Shared->Prop}{i:St}{H:Hp}{Q:Value->Shared->Prop}(I:Inv X pins i H s)(d:Gl X x)(e:X.mg x=none)(g:bootBuiltins x=some u)(h:Q u s)
  (f:x≠"__name__":=by decide) (c:(x==("__debug__" : Str))=false:=by decide):wpAny (model X.prog X.w) X.A (eval (.Name x pos) X.env) Q E s:=by
 obtain⟨j,a,b⟩:=I.mod.blt;exact Calls.Name_function_global I.ok.kind d (Calls.loadGlobal_builtin (by rw[I.ok.glob];exact I.mod.glob.keeps I.bk) e (by rw[I.ok.blt];exact a.keeps I.bk) ((b x f).trans g) h) c
def xR(b:Gl X x)(c:X.mg x=some u)(r:RelV v u)(a:(x==("__debug__" : Str))=false:=by decide):PE X (.Name x pos) (tC v):=
 λ_ _ _ H _ I h=>xv I b c ⟨v,H,I,r,h⟩ a
def xO(b:Gl X x)(c:X.mg x=none)(e:bootBuiltins x=some u)(r:RelV v u)(d:x≠"__name__":=by decide)(a:(x==("__debug__" : Str))=false:=by decide):PE X (.Name x pos) (tC v):=
 λ_ _ _ H _ I h=>Zf I b c e ⟨v,H,I,r,h⟩ d a
variable{a b:Expr}{ta tb:TE}{pos:Pos}
def PC(X:Cx)(op:CmpOp)(a b:Expr)(t:TE):Prop:=
 ∀(pins:List (Addr×Obj)) (s:Shared) (σ:St) (H:Hp) (Q:VK),Inv X pins σ H s->t σ H Q->
  wpAny (model X.prog X.w) X.A (eval a X.env) (λv s₁=>wpAny (model X.prog X.w) X.A (eval b X.env) (λu s₂=>wpAny (model X.prog X.w) X.A (compareOp op v u) (EP X pins σ Q) X.xe s₂) X.xe s₁) X.xe s
def tB(t:TE):TT:=λσ H Q=>t σ H λx H1=>∃c,x = .bl c/\Q c H1
def j6E{op:CmpOp}{t:TE}(h:PC X op a b t)(f:behindInMarks op b=false:=by first | exact nobehind _ nofun nofun | rfl):PT X (.Compare a [op] [b] pos) (tB t):=by
 intro e s n H Q I k;refine wpAny_isTrue_Compare1 (thn (h e s n H _ I k) λv o f=>thn f λu p j=>thn j λc r ⟨x,g,i,m,l⟩=>?_) f;obtain⟨d,rfl,q⟩:=l;cases m;exact wpAny_truthy_bool ⟨g,i,q⟩
def j4d{e:Expr}{t:TE}(h:PE X e t)(g:∀a,isTrue e X.env a=(do let v <-a;standAt e.pos;holding [v] (truthy v)):=by intro _;rfl):PT X e (tB t):=by
 intro b s l H Q I i;refine isTrue_plain (thn (h b s l H _ I i) λv m z_=>?_) (g _);obtain⟨x,c,f,k,j⟩:=z_;obtain⟨d,rfl,q⟩:=j;cases k;exact wpAny_truthy_bool ⟨c,f,q⟩
variable{tA tB':TT}{rest:List Expr}
def tAnd(t u:TT):TT:=λσ H Q=>t σ H λc H1=>if c=true then u σ H1 Q else Q false H1
def tOr(t u:TT):TT:=λσ H Q=>t σ H λc H1=>if c=true then Q true H1 else u σ H1 Q
def tNot(t:TT):TT:=λσ H Q=>t σ H λc H1=>Q (!c) H1
def qJ(d:PT X a tA):PW X (.BoolOp .And [a] pos) tA:=by
 intro i b s f H Q I h;refine isTrue_and (thn (d b s f H Q I h) λc g e=>?_);cases c with
 | true=>exact isTrue_and_nil e
 | false=>exact e
def wD(d:PT X a tA):PW X (.BoolOp .Or [a] pos) tA:=by
 intro i b s f H Q I h;refine isTrue_or (thn (d b s f H Q I h) λc g e=>?_);cases c with
 | false=>exact isTrue_or_nil e
 | true=>exact e
def Qf(j:PT X a tA)(k:PW X (.BoolOp .And (b::rest) pos) tB'):PW X (.BoolOp .And (a::b::rest) pos) (tAnd tA tB'):=by
 intro m d s i H Q I h;refine isTrue_and (thn (j d s i H _ I h) λc l z_=>?_);obtain⟨e,f,g⟩:=z_;cases c with
 | true=>exact k m d l i e Q f g
 | false=>exact⟨e,f,g⟩
def wC(j:PT X a tA)(k:PW X (.BoolOp .Or (b::rest) pos) tB'):PW X (.BoolOp .Or (a::b::rest) pos) (tOr tA tB'):=by
 intro m d s i H Q I h;refine isTrue_or (thn (j d s i H _ I h) λc l z_=>?_);obtain⟨e,f,g⟩:=z_;cases c with
 | true=>exact⟨e,f,g⟩
 | false=>exact k m d l i e Q f g
def j0S(e:PT X a tA):PT X (.UnaryOp .Not a pos) (tNot tA):=by
 intro b s f H Q I h;exact isTrue_not (e b s f H (λc d=>Q (!c) d) I h)
def tAndV(ta tb:TE):TE:=λσ H Q=>ta σ H λx H1=>∃c,x = .bl c/\if c=true then tb σ H1 Q else Q (.bl false) H1
def tNotV(ta:TE):TE:=λσ H Q=>ta σ H λx H1=>∃c,x = .bl c/\Q (.bl (!c)) H1
def j44{op}(h:PE X a t):PE X (.BoolOp op [a] pos) t:=λb s d H Q I c=>BoolOp_one (h b s d H Q I c)
def j3Z(j:PE X a ta)(k:PE X (.BoolOp .And (b::rest) pos) tb):PE X (.BoolOp .And (a::b::rest) pos) (tAndV ta tb):=by
 intro d s i H Q I h;refine BoolOp_and (thn (j d s i H _ I h) λv m z_=>?_);obtain⟨x,f,g,l,e⟩:=z_;obtain⟨c,rfl,e⟩:=e;cases l;refine wpAny_truthy_bool ?_;cases c with
 | true=>exact k d m i f Q g e
 | false=>exact⟨.bl false,f,g,rfl,e⟩
def j6x(g:PE X a ta):PE X (.UnaryOp .Not a pos) (tNotV ta):=by
 intro b s j H Q I h;refine UnaryOp_ (thn (g b s j H _ I h) λv k z_=>?_);obtain⟨x,e,f,i,d⟩:=z_;obtain⟨c,rfl,d⟩:=d;cases i;exact not_of (wpAny_truthy_bool ⟨.bl (!c),e,f,rfl,d⟩)
def tIf(t:TT)(ta tb:TE):TE:=λσ H Q=>t σ H λc H1=>if c=true then ta σ H1 Q else tb σ H1 Q
def wv{c:Expr}(n:PT X c tA)(l:PE X a ta)(m:PE X b tb):PE X (.IfExp c a b pos) (tIf tA ta tb):=by
 intro e s f H Q I h;refine wpAny_IfExp (thn (n e s f H _ I h) λd k z_=>?_);obtain⟨g,i,j⟩:=z_;cases d with
 | true=>exact l e k f g Q i j
 | false=>exact m e k f g Q i j
end
def SqL(K:Frg)(H:Hp)(a:Addr)(xs:N2):Prop:=
 Rd H a (.lst xs)\/
  ∃(o:Obj) (its:Array Value) (n:Nat),K.lookup a=some o/\o.cls = .type "list"/\o.dict=none/\o.data = .seq its n/\its.size<=sizeLine/\Vals xs its.toList
def SqT(K:Frg)(H:Hp)(a:Addr)(xs:N2):Prop:=
 Rd H a (.tup xs)\/
  ∃(o:Obj) (its:Array Value) (n:Nat),K.lookup a=some o/\o.cls = .type "tuple"/\o.data = .seq its n/\its.size<=sizeLine/\Vals xs its.toList
noncomputable def absV:Value->N3
 | .none=>some .non
 | .bool b=>some (.bl b)
 | .int i _=>some (.int i)
 | .str x _=>some (.str x)
 | .bytes b _=>some (.byt b)
 | .float b _=>some (.flt b)
 | .ref a=>some (.ref a)
 | .type n=>some (.ty n)
 | _=>none
def RelV.abs(r:RelV x u):absV u=some x:=by
 cases x with
 | non=>cases r;rfl
 | bl _=>cases r;rfl
 | int _=>obtain⟨t,rfl⟩:=r;rfl
 | str _=>obtain⟨t,rfl⟩:=r;rfl
 | byt _=>obtain⟨t,rfl⟩:=r;rfl
 | flt _=>obtain⟨t,rfl⟩:=r;rfl
 | ref _=>cases r;rfl
 | ty _=>cases r;rfl
def RelV.inj(r:RelV x u)(q:RelV y u):x=y:=vL (r.abs.symm.trans q.abs)
theorem Vals.inj:∀{xs ys:N2} {us:L9},Vals xs us->Vals ys us->xs=ys
 | _,_,_,.nil,.nil=>rfl
 | _,_,_,.cons r t,.cons r' t'=>by rw[r.inj r',Vals.inj t t']
section
variable{X:Cx}{pins:List (Addr×Obj)}{σ:St}{H:Hp}{s:Shared}{a:Addr}{xs ys:N2}
def SqL.of{K:Frg}(h:H a=some (.lst xs)):SqL K H a xs:=.inl (.inl h)
def SqT.of{K:Frg}(h:H a=some (.tup xs)):SqT K H a xs:=.inl (.inl h)
def Inv.list(I:Inv X pins σ H s)(h:SqL X.K H a xs):∃b:L9,Vals xs b/\PlainL s.heap a b.toArray/\xs.length<=sizeLine:=by
 rcases h with h | ⟨o,b,n,f,c,d,g,i,r⟩
 .obtain⟨z,b,n,r,e⟩:=h.ok I.hok;exact⟨b,r,⟨_,n,e,rfl,rfl,rfl⟩,z⟩
 .refine⟨b.toList,r,⟨o,n,I.kIn a o f,c,d,by simpa using g⟩,?_⟩;have e:=r.length;simp only[Array.length_toList]at e;lia
def Inv.tuple(I:Inv X pins σ H s)(h:SqT X.K H a xs):∃b:L9,Vals xs b/\IsTup s.heap a b.toArray/\xs.length<=sizeLine:=by
 rcases h with h | ⟨o,b,n,d,c,f,g,r⟩
 .obtain⟨z,b,r,p⟩:=h.ok I.hok;exact⟨b,r,p,z⟩
 .refine⟨b.toList,r,⟨o,I.kIn a o d,c,n,by simpa using f⟩,?_⟩;have e:=r.length;simp only[Array.length_toList]at e;lia
def Inv.list_inj(I:Inv X pins σ H s)(h:SqL X.K H a xs)(h':SqL X.K H a ys):xs=ys:=by
 obtain⟨c,r,⟨o,n,e,_,_,d⟩,_⟩:=I.list h;obtain⟨b,i,⟨k,j,g,_,_,f⟩,_⟩:=I.list h';rw[e]at g;cases g;rw[d]at f;injection f with d1 _;have:c=b:=by simpa using congrArg Array.toList d1
 subst this;exact r.inj i
def Inv.tuple_inj(I:Inv X pins σ H s)(h:SqT X.K H a xs)(h':SqT X.K H a ys):xs=ys:=by
 obtain⟨c,r,⟨o,e,_,n,d⟩,_⟩:=I.tuple h;obtain⟨b,i,⟨k,g,_,j,f⟩,_⟩:=I.tuple h';rw[e]at g;cases g;rw[d]at f;injection f with d1 _;have:c=b:=by simpa using congrArg Array.toList d1
 subst this;exact r.inj i
end
noncomputable abbrev Cx.wish(X:Cx)(E:Value->Shared->Prop):Cx:={X with xe:=E}
noncomputable abbrev Cx.nox(X:Cx):Cx:=X.wish λ_ _=>False
def Cx.Ok.wish{X:Cx}(a:X.Ok)(E:Value->Shared->Prop):(X.wish E).Ok:=
 ⟨a.mod,a.kind,a.glob,a.blt,a.above,a.inj,a.has,a.cab,a.hd,a.frames,a.stk,a.exf,a.bs,a.bsz,a.noex,a.exfs,a.funs,a.frf⟩
def Cx.Ok.unwish{X:Cx}{E:Value->Shared->Prop}(a:(X.wish E).Ok):X.Ok:=
 ⟨a.mod,a.kind,a.glob,a.blt,a.above,a.inj,a.has,a.cab,a.hd,a.frames,a.stk,a.exf,a.bs,a.bsz,a.noex,a.exfs,a.funs,a.frf⟩
section
variable{X:Cx}{pins:List (Addr×Obj)}{σ:St}{H:Hp}{s:Shared}{E:Value->Shared->Prop}
def Inv.wish(I:Inv X pins σ H s)(E:Value->Shared->Prop):Inv (X.wish E) pins σ H s:=⟨I.ok.wish E,I.os,I.bare,I.base,I.loc,I.cell,I.free,I.freeC,I.pin,I.hok,I.len⟩
def Inv.unwish(I:Inv (X.wish E) pins σ H s):Inv X pins σ H s:=⟨I.ok.unwish,I.os,I.bare,I.base,I.loc,I.cell,I.free,I.freeC,I.pin,I.hok,I.len⟩
def SP.unwish(h:SP (X.wish E) pins D f s'):SP X pins D f s':=by
 cases f with
 | next=>obtain⟨a,b,I,q⟩:=h;exact⟨a,b,I.unwish,q⟩
 | brk=>obtain⟨a,b,I,q⟩:=h;exact⟨a,b,I.unwish,q⟩
 | cont=>obtain⟨a,b,I,q⟩:=h;exact⟨a,b,I.unwish,q⟩
 | ret u=>obtain⟨v,a,b,I,r,q⟩:=h;exact⟨v,a,b,I.unwish,r,q⟩
def PSs.nox{st:List Stmt}{t:TS}(h:PSs X.nox st t):PSs X st t:=λa s c H D I b=>
 wpAny_mono (h a s c H D (I.wish _) b) (λ_ _ q=>q.unwish) λ_ _ z=>False.elim z
end
section
variable{X:Cx}{st:Stmt}{rest:List Stmt}{t u:TS}{e:Expr}{te:TE}{pos:Pos}
def tNext:TS:=λD σ H=>D.nx σ H
def tSeq(t u:TS):TS:=λD σ H=>t {D with nx:=u D} σ H
def jx:PSs X [] tNext:=λ_ _ a H _ I h=>wpAny_execs_nil ⟨a,H,I,h⟩
def jb(e:PS X st t)(g:PSs X rest u):PSs X (st::rest) (tSeq t u):=by
 intro a s j H D I h;refine wpAny_execs_cons (thn (e a s j H {D with nx:=u D} I h) λf i q=>?_);cases f with
 | next=>
  obtain⟨b,c,d,q⟩:=q;exact g a i b c D d q
 | ret v=>exact q
 | brk=>exact q
 | cont=>exact q
def jf(b:PS X st t):PSs X [st] t:=by
 intro a s c H D I h;refine wpAny_execs_cons (thn (b a s c H D I h) λf d q=>?_);cases f with
 | next=>exact wpAny_execs_nil q
 | ret v=>exact q
 | brk=>exact q
 | cont=>exact q
def Inv.quiet{a:St}{H:Hp}(I:Inv X pins a H s):interactive X.env=false:=by simp[interactive,I.ok.kind]
def tDrop(te:TE):TS:=λD σ H=>te σ H λ_ H1=>D.nx σ H1
def jO(f:PE X e te)(g:swapsWith e none pos.line X.env=pure false:=by rfl):PS X (.Expr e pos) (tDrop te):=by
 intro a s b H D I h;exact wpAny_Expr_any (thn (f a s b H _ I h) λv k ⟨x,c,d,j,i⟩=>⟨b,c,d,i⟩) I.quiet g
def tRet(te:TE):TS:=λD σ H=>te σ H D.rt
def jy(f:PE X e te):PS X (.Return (some e) pos) (tRet te):=by
 intro a s b H D I h;exact wpAny_Return_some (thn (f a s b H _ I h) λv j ⟨x,c,d,i,g⟩=>⟨x,b,c,d,i,g⟩)
def tIfS(c:TT)(t u:TS):TS:=λD σ H=>c σ H λb H1=>if b=true then t D σ H1 else u D σ H1
def jP{c:Expr}{a b:List Stmt}{l:TT}(o:PT X c l)(m:PSs X a t)(n:PSs X b u):PS X (.If c a b pos) (tIfS l t u):=by
 intro e s f H D I h;refine wpAny_If (thn (o e s f H _ I h) λd k z_=>?_);obtain⟨g,i,j⟩:=z_;cases d with
 | true=>exact m e k f g D i j
 | false=>exact n e k f g D i j
def tNever:TS:=λ_ _ _=>False
def ZA:PS X st tNever:=λ_ _ _ _ _ _ h=>h.elim
end
noncomputable abbrev TG:=V->St->Hp->(St->Hp->Prop)->Prop
noncomputable abbrev TGs:=N2->St->Hp->(St->Hp->Prop)->Prop
def PG(X:Cx)(target:Expr)(t:TG):Prop:=
 ∀(pins:List (Addr×Obj)) (s:Shared) (σ:St) (H:Hp) (v:V) (u:Value) (Q:St->Hp->Prop),Inv X pins σ H s->RelV v u->t v σ H Q->
  wpAny (model X.prog X.w) X.A (assign target X.env u) (λ_ s'=>∃S' H',Inv X pins S' H' s'/\Q S' H') X.xe s
def PGs(X:Cx)(ts:List Expr)(t:TGs):Prop:=
 ∀(pins:List (Addr×Obj)) (s:Shared) (σ:St) (H:Hp) (vs:N2) (us:L9) (Q:St->Hp->Prop),Inv X pins σ H s->Vals vs us->t vs σ H Q->
  wpAny (model X.prog X.w) X.A (assignInOrder ((assignEach ts X.env).map (·.2)) us) (λ_ s'=>∃S' H',Inv X pins S' H' s'/\Q S' H') X.xe s
noncomputable abbrev TSet:=V->V->V->Hp->(Hp->Prop)->Prop
def PSet(X:Cx)(t:TSet):Prop:=
 ∀(pins:List (Addr×Obj)) (s:Shared) (σ:St) (H:Hp) (o i v:V) (ov iv u:Value) (Q:Hp->Prop),Inv X pins σ H s->RelV o ov->RelV i iv->RelV v u->t o i v H Q->
  wpAny (model X.prog X.w) X.A (setItem ov iv u) (λ_ s'=>∃H',Inv X pins σ H' s'/\Q H') X.xe s
noncomputable abbrev TIp:=V->V->Hp->VK->Prop
def PIp(X:Cx)(op:Operator)(t:TIp):Prop:=
 ∀(pins:List (Addr×Obj)) (s:Shared) (σ:St) (H:Hp) (x y:V) (v u:Value) (Q:VK),Inv X pins σ H s->RelV x v->RelV y u->t x y H Q->
  wpAny (model X.prog X.w) X.A (inplaceOp op v u) (EP X pins σ Q) X.xe s
section
variable{X:Cx}{pos:Pos}
def gName(i:Nat):TG:=λv σ H Q=>Q (σ.set i (some v)) H
def ju(c:X.N.Nodup)(hi:X.N[i]?=some x)(e:Loc X.env.scope x)(d:X.fn x=true\/X.env.scope.names.lookup x=some .local:=by first | exact .inl rfl | exact .inr rfl | assumption):PG X (.Name x pos) (gName i):=by
 intro a s g H v u Q I r h;exact wpAny_assign_Name (wK I c hi e r (λf b=>⟨_,H,b,h⟩) d)
def ju'(i:Nat)(c:X.N.Nodup)(hi:X.N[i]?=some x:=by exact rfl)(e:Loc X.env.scope x:=by exact .inl rfl)(d:X.fn x=true\/X.env.scope.names.lookup x=some .local:=by first | exact .inl rfl | exact .inr rfl | assumption):PG X (.Name x pos) (gName i):=ju (i:=i) c hi e d
def gNil:TGs:=λvs σ H Q=>vs=[]/\Q σ H
def gCons(t:TG)(u:TGs):TGs:=λvs σ H Q=>∃v r,vs=v::r/\t v σ H λS' H'=>u r S' H' Q
def Jg:PGs X [] gNil:=by
 intro a s b H d c Q I r h;obtain⟨e,h⟩:=h;subst e;cases r;exact assignInOrder_nil ⟨b,H,I,h⟩
def jA{e:Expr}{es:List Expr}{t:TG}{u:TGs}(g:PG X e t)(i:PGs X es u)
  (j:(assignEach (e::es) X.env).map (·.2)=assign e X.env::(assignEach es X.env).map (·.2):=by rfl):PGs X (e::es) (gCons t u):=by
 intro a s m H p n Q I r h;obtain⟨v,o,f,h⟩:=h;subst f;cases r with
 | cons r rr=>
  rw[j];refine assignInOrder_cons (thn (g a s m H _ _ _ I r h) λ_ l z_=>?_);obtain⟨b,c,d,k⟩:=z_;exact i a l b c _ _ Q d rr k
def gTup(K:Frg)(n:Nat)(t:TGs):TG:=λv σ H Q=>∃a xs,v = .ref a/\SqT K H a xs/\xs.length=n/\t xs σ H Q
def JG(p:X.calm=true)(h:PGs X es t)
  (w:(assignEach es X.env).length=n:=by rfl) (d:(assignEach es X.env).findIdx? (·.1)=none:=by rfl):PG X (.Tuple es k pos) (gTup X.K n t):=by
 intro c s i H v u Q I r f;obtain⟨a,B,l,x,q,f⟩:=f;subst l;cases r;obtain⟨A,g,y,C⟩:=I.tuple x;refine assign_Tuple_tuple (I.ok.hd p) y (by simp[w,<-q,g.length]) d λm z=>?_
 have j:Inv X c i H {s with heap:=m}:=I.kept (t':=s.toks) λb o e=>z b o (vE (vI e)) e
 exact h c _ i H B _ Q j (by simpa using g) f
def gSub(to ti:TE)(t:TSet):TG:=λv σ H Q=>to σ H λo H1=>ti σ H1 λi H2=>t o i v H2 λH3=>Q σ H3
def Yk{o i:Expr}{e d:TE}{t:TSet}(p:PE X o e)(hi:PE X i d)(q:PSet X t)
  (n:∀v,assign (.Subscript o i pos) X.env v=(do
   let ov <-holding [v] (eval o X.env)
   let b <-holding [v,ov] (eval i X.env)
   standAt pos
   holding [v,ov,b] (setItem ov b v)
   release [v,ov,b] []):=by intro _;rfl):PG X (.Subscript o i pos) (gSub e d t):=by
 intro a s c H v u Q I r h;rw[n];refine ug (wpAny_holding (thn (p a s c H _ I h) λov D z_=>?_));obtain⟨x,f,k,B,w⟩:=z_;refine ug (wpAny_holding (thn (hi a D c f _ k w) λb E z_=>?_));obtain⟨y,g,l,C,z⟩:=z_;refine ug (wpAny_standAt (ug (wpAny_holding (thn (q a E c g x y v ov b u _ l B C r z) λ_ F z_=>?_))));obtain⟨j,m,A⟩:=z_;exact wpAny_release ⟨c,j,m,A⟩
def tAsg(te:TE)(g:TG):TS:=λD σ H=>te σ H λx H1=>g x σ H1 D.nx
def yu{b e:Expr}{c:TE}{g:TG}(k:PE X e c)(l:PG X b g)(m:swapsWithSole [b] e pos.line X.env=pure false:=by rfl)(hw:swappedStores [b] e X.env=pure none:=by rfl)
  (j:(assignEach [b] X.env).map (·.2)=[assign b X.env]:=by rfl):PS X (.Assign [b] e pos) (tAsg c g):=by
 intro a s d H D I h;refine wpAny_Assign_stores (thn (k a s d H _ I h) λv p z_=>?_) m hw;obtain⟨x,f,i,o,n⟩:=z_;rw[j];exact thn (l a p d f x v _ i o n) λ_ r q=>q
def jq{i:Nat}{x:Str}{e:Expr}{c:TE}{a:Pos}(j:X.N.Nodup)(hi:X.N[i]?=some x)(n:Loc X.env.scope x)(k:PE X e c)(m:swapsWith e (some (.Name x a)) pos.line X.env=pure false:=by rfl)(l:X.fn x=true\/X.env.scope.names.lookup x=some .local:=by first | exact .inl rfl | exact .inr rfl | assumption) :
  PS X (.Assign [.Name x a] e pos) (tAsg c (gName i)):=by
 intro b s q H D I h;refine wpAny_Assign_Name (thn (k b s q H _ I h) λv r z_=>?_) m;obtain⟨y,d,f,p,o⟩:=z_;exact wK f j hi n p (λt g=>⟨_,d,g,o⟩) l
def jq'(i:Nat){x:Str}{e:Expr}{c:TE}{a:Pos}(j:X.N.Nodup)(k:PE X e c)(hi:X.N[i]?=some x:=by exact rfl)(n:Loc X.env.scope x:=by exact .inl rfl)(m:swapsWith e (some (.Name x a)) pos.line X.env=pure false:=by rfl)(l:X.fn x=true\/X.env.scope.names.lookup x=some .local:=by first | exact .inl rfl | exact .inr rfl | assumption) : PS X (.Assign [.Name x a] e pos) (tAsg c (gName i)):=jq (i:=i) j hi n k m l
def tAug(i:Nat)(te:TE)(ti:TIp):TS:=λD σ H=>∃x,σ[i]?=some (some x)/\te σ H λy H1=>ti x y H1 λz H2=>D.nx (σ.set i (some z)) H2
def j6D{i:Nat}{x:Str}{e:Expr}{q:TE}{op:Operator}{t:TIp}{f:Pos}(K:X.N.Nodup)(hi:X.N[i]?=some x)(n:Loc X.env.scope x)(M:PE X e q)(R:PIp X op t)(N:X.fn x=true\/X.env.scope.names.lookup x=some .local:=by first | exact .inl rfl | exact .inr rfl | assumption) :
  PS X (.AugAssign (.Name x f) op e pos) (tAug i q t):=by
 intro a s A H D I h;obtain⟨v,J,h⟩:=h;obtain⟨m,Q,O⟩:=I.loc;have o:Vis X.env.scope x:=by rcases n with k | k;exact .inl k;exact .inr (.inl k)
 obtain⟨u,r,l⟩:=O i x v hi J o;refine wpAny_AugAssign_Name ?_;have p:wpAny (model X.prog X.w) X.A (eval e X.env) (λw g=>wpAny (model X.prog X.w) X.A (inplaceOp op u w) (λr j=>wpAny (model X.prog X.w) X.A (storeName X.env x r) (λ_=>SP X a D .next) X.xe j) X.xe g) X.xe s:=by
  refine thn (M a s A H _ I h) λw Y z_=>?_;obtain⟨y,B,E,U,S⟩:=z_
  refine thn (R a Y A B v y u w _ E r U S) λz Z z_=>?_;obtain⟨zv,C,F,W,T⟩:=z_
  exact wK F K hi n W (λs3 G=>⟨_,C,G,T⟩) N
 rcases l with⟨b,P⟩ | ⟨b,c,L,d⟩
 .exact wpAny_loadName_local I.ok.kind b Q P p
 .rcases b with b | b
  .exact wpAny_loadName_cell I.ok.kind b L d p
  .rcases n with k | k
   .have:X.env.scope.names.lookup x=some .free:=b;rw[k]at this;cases this
   .have:X.env.scope.names.lookup x=some .free:=b;rw[k]at this;cases this
noncomputable def ipI(f:Int->Int->Int):TIp:=λx y H Q=>∃i j,x = .int i/\y = .int j/\Q (.int (f i j)) H
def j6g:PIp X .Add (ipI λi j=>i+j):=by
 intro a s g H x y v u Q I d e h;obtain⟨i,j,b,c,q⟩:=h;subst b;subst c;obtain⟨t,rfl⟩:=d;obtain⟨f,rfl⟩:=e;exact iadd_int ⟨.int _,H,I.tok _,⟨_,rfl⟩,q⟩
end
section
variable{X:Cx}{pos:Pos}
def tWhile(c:TT)(tb:TS):TS:=λD σ H=>∃W:Nat->St->Hp->Prop,(∃m,W m σ H)/\∀m σ H,W m σ H->
 c σ H λb H1=>if b=true then∃N:St->Hp->Prop,(∀S' H',N S' H'->∃m',m'<m/\W m' S' H')/\tb {D with nx:=N,ct:=N,bk:=D.nx} σ H1 else D.nx σ H1
def wB{c:Expr}{g:List Stmt}{C:TT}{B:TS}(A:PassesOwn (model X.prog X.w) X.A X.env X.xe)(G:PT X c C)(F:PSs X g B):PS X (.While c g [] pos) (tWhile C B):=by
 intro a s Q H D I h;obtain⟨W,⟨J,O⟩,j⟩:=h;refine wpAny_While (codeAny_whileLoop (λn K=>∃k u,Inv X a k u K/\W n k u) ?_ J ⟨Q,H,I,O⟩);rintro n L ⟨e,w,E,P⟩;refine wpAny_passesOwn A (thn (G a L e w _ E (j n e w P)) λb M z_=>?_);obtain⟨x,y,l⟩:=z_;cases b with
 | true=>
  obtain⟨N,z,l⟩:=l;rw[vd rfl];refine wpAny_passesOwn A (thn (F a M e x _ y l) λf R m=>?_);cases f with
  | next=>
   obtain⟨d,i,o,r⟩:=m;obtain⟨q,p,t⟩:=z d i r;exact⟨q,p,d,i,o,t⟩
  | cont=>
   obtain⟨d,i,o,r⟩:=m;obtain⟨q,p,t⟩:=z d i r;exact⟨q,p,d,i,o,t⟩
  | brk=>exact m
  | ret v=>exact m
 | false=>
  rw[vc vF];exact wpAny_execs_nil ⟨e,x,y,l⟩
end
structure It where
 go:Nat->Hp->Prop
 yld:Nat->Hp->V->Hp->Prop
 stop:Nat->Hp->Prop
def FpOk(X:Cx)(pins:List (Addr×Obj))(H:Hp)(b:Addr):Prop:=
 H b=none/\b≠X.env.locals/\b∉X.fs/\(b∈X.ex\/X.s₀.heap.objs.size<=b)/\(∀x c,X.env.cells.lookup x=some c->c≠b)/\∀p∈X.pn++pins,p.1≠b
def Inv.fpOk{g:St}{H H':Hp}(I:Inv X pins g H s)(a:s.heap.objs.size<=b)(d:H' b=none):FpOk X pins H' b:=by
 refine⟨d,Nat.ne_of_gt (Nat.lt_of_lt_of_le I.lt a),I.nofs a,.inr (vW I.sz a),λx c e z=>?_,λp f z=>?_⟩
 .obtain⟨v,q⟩:=I.cell x c e;exact ue (Nat.lt_of_lt_of_le q.lt (by rw[z];exact a)) (Nat.lt_irrefl _)
 .exact ue (Nat.lt_of_lt_of_le (vI (I.pin p f).1) (by rw[z];exact a)) (Nat.lt_irrefl _)
structure Turn(P:Program)(w:World)(K:Frg)(tg:Expr)(J:It)(fp:L7)(it:Addr)(tn:Nat->Heap->Prop):Prop where
 mem:it∈fp
 obj:∀i h,tn i h->∀b∈fp,∃o,h.get? b=some o/\∀v,o.data≠.cell v
 keep:∀i h h',tn i h->(∀b∈fp,∀o,h.get? b=some o->h'.get? b=some o)->tn i h'
 item:∀(X:Cx),X.prog=P->X.w=w->X.K=K->X.calm=true->∀(i:Nat) (pins:List (Addr×Obj)) (s:Shared) (σ:St) (H:Hp) (E:Value->Shared->Prop),Inv X pins σ H s->(∀b∈fp,FpOk X pins H b)->tn i s.heap->J.go i H->
  wpAny (model P w) X.A (pyNext (.ref it)) (λr s1=>∃u,r=some u/\
   wpAny (model P w) X.A (letOwnedTupleGo tg (.ref it) u) (λ_ s2=>∃x H',Inv X pins σ H' s2/\RelV x u/\J.yld i H x H'/\tn (i+1) s2.heap/\∀b∈fp,H' b=none) E s1) E s
 done:∀(X:Cx),X.prog=P->X.w=w->X.K=K->X.calm=true->∀(i:Nat) (pins:List (Addr×Obj)) (s:Shared) (σ:St) (H:Hp) (E:Value->Shared->Prop),Inv X pins σ H s->(∀b∈fp,FpOk X pins H b)->tn i s.heap->J.stop i H->
  wpAny (model P w) X.A (pyNext (.ref it)) (λr s1=>r=none/\Inv X pins σ H s1) E s
 self:∀(A:Around) (i:Nat) (s:Shared) (Q:Value->Shared->Prop) (E:Value->Shared->Prop),tn i s.heap->Q (.ref it) s->wpAny (model P w) A (pyIter (.ref it)) Q E s
noncomputable abbrev TI:=St->Hp->(It->Hp->Prop)->Prop
def PIE(X:Cx)(pins:List (Addr×Obj))(σ:St)(tg:Expr)(R:It->Hp->Prop)(itv:Value)(s2:Shared):Prop:=
 ∃(it:Addr) (fp:L7) (tn:Nat->Heap->Prop) (J:It) (H':Hp),itv = .ref it/\Inv X pins σ H' s2/\Turn X.prog X.w X.K tg J fp it tn/\tn 0 s2.heap/\(∀b∈fp,FpOk X pins H' b)/\R J H'
def PI(X:Cx)(tg iter:Expr)(wi:TI):Prop:=
 ∀(pins:List (Addr×Obj)) (s:Shared) (σ:St) (H:Hp) (R:It->Hp->Prop),Inv X pins σ H s->wi σ H R->
  wpAny (model X.prog X.w) X.A (eval iter X.env) (λv s1=>wpAny (model X.prog X.w) X.A (pyIter v) (PIE X pins σ tg R) X.xe s1) X.xe s
def Xz{E:Value->Shared->Prop}{Q:Unit->Shared->Prop}(e:s.heap.get? it=some o)(b:o.cls = .type n)(c:o.data = .fields vs)
    (d:["enumerate","zip","dict_itemiterator","dict_reverseitemiterator","odict_iterator","itertools.zip_longest","itertools.pairwise"].contains n=false) (a:Q () s):wpAny M A (letOwnedTupleGo tg (.ref it) u) Q E s:=by
  unfold letOwnedTupleGo;cases tg<;>first
    | exact uf a
    | (cases u<;>first
        | exact uf a
        | (refine ug (wpAny_load e ?_)
           rw[b,c];show wpAny M A (if(["enumerate","zip","dict_itemiterator","dict_reverseitemiterator","odict_iterator","itertools.zip_longest","itertools.pairwise"].contains n&&vs[0]?==some (rawInt _))=true then _ else _) Q E s;rw[vc (by intro h;rw[d,Bool.false_and]at h;cases h)];exact uf a))
def Itl(K:Frg)(a:Addr):It:=
 ⟨λi H=>∃xs x,SqL K H a xs/\xs[i]?=some x,λi H x H'=>H'=H/\∀xs,SqL K H a xs->xs[i]?=some x,λi H=>∃xs,SqL K H a xs/\xs.length<=i⟩
def Itt(K:Frg)(a:Addr):It:=
 ⟨λi H=>∃xs x,SqT K H a xs/\xs[i]?=some x,λi H x H'=>H'=H/\∀xs,SqT K H a xs->xs[i]?=some x,λi H=>∃xs,SqT K H a xs/\xs.length<=i⟩
def Itr(lo:Int)(n:Nat):It:=⟨λi _=>i<n,λi H x H'=>H'=H/\x = .int (lo+i),λi _=>n<=i⟩
def WV{P:Program}{w:World}{K:Frg}{tg:Expr}(a it:Addr):Turn P w K tg (Itl K a) [it] it (λi h=>h.IsListIter it a i) where
 mem:=by simp
 obj:=λi h f b j=>by
  have e:b=it:=by simpa using j
  subst e;obtain⟨o,e,c,d⟩:=f;exact⟨o,e,λv z=>by rw[d]at z;cases z⟩
 keep:=λi h m f k=>f.at λo e=>k it (by simp) o e
 item:=by
  intro X D G C N i g s O H E I n f F;subst D G C;obtain⟨xs,x,q,J⟩:=F;obtain⟨L,M,p,W⟩:=I.list q;obtain⟨u,T,Y⟩:=M.get J;obtain⟨r,t,S,y,A,B⟩:=n it (by simp);refine wpAny_pyNext_list_item f p.isList (x:=u) (by simpa using T) λm l Z=>?_
  have Q:Inv X g O H {s with heap:=m}:=I.turned (t':=s.toks) (λb o j e=>(Z.2 b j).trans e) r t y A B;obtain⟨o,e,c,d⟩:=id l;exact⟨u,rfl,Xz (s:={s with heap:=m}) e c d nofun ⟨x,H,Q,Y,⟨rfl,λys U=>by rw[I.list_inj U q];exact J⟩,l,λb j=>(n b j).1⟩⟩
 done:=by
  intro X D G C N i g s O H E I n f F;subst D G C;obtain⟨xs,q,J⟩:=F;obtain⟨L,M,p,W⟩:=I.list q;obtain⟨r,t,S,y,A,B⟩:=n it (by simp);have hl:=M.length;exact wpAny_pyNext_list_end (I.ok.hd N) f p.isList (by simp;lia) λm R=>⟨rfl,I.turned (t':=s.toks) (λb o j e=>R b o j e) r t y A B⟩
 self:=λ_ _ _ _ _ f h=>wpAny_pyIter_listiter f h
def wM{P:Program}{w:World}{K:Frg}{tg:Expr}(a it:Addr):Turn P w K tg (Itt K a) [it] it (λi h=>h.IsTupleIter it a i) where
 mem:=by simp
 obj:=λi h f b j=>by
  have e:b=it:=by simpa using j
  subst e;obtain⟨o,e,c,d⟩:=f;exact⟨o,e,λv z=>by rw[d]at z;cases z⟩
 keep:=λi h n f k=>f.at λo e=>k it (by simp) o e
 item:=by
  intro X F J D N i g s O H E I q f G;subst F J D;obtain⟨xs,x,r,L⟩:=G;obtain⟨l,M,p,W⟩:=I.tuple r;obtain⟨u,T,Y⟩:=M.get L;obtain⟨t,y,S,A,B,C⟩:=q it (by simp);refine wpAny_pyNext_tuple_item f (show s.heap.IsTuple a l.toArray from p) (x:=u) (by simpa using T) λn m Z=>?_
  have Q:Inv X g O H {s with heap:=n}:=I.turned (t':=s.toks) (λb o j e=>(Z.2 b j).trans e) t y A B C;obtain⟨o,e,c,d⟩:=id m;exact⟨u,rfl,Xz (s:={s with heap:=n}) e c d nofun ⟨x,H,Q,Y,⟨rfl,λys U=>by rw[I.tuple_inj U r];exact L⟩,m,λb j=>(q b j).1⟩⟩
 done:=by
  intro X F J D N i g s O H E I q f G;subst F J D;obtain⟨xs,r,L⟩:=G;obtain⟨l,M,p,W⟩:=I.tuple r;obtain⟨t,y,S,A,B,C⟩:=q it (by simp);have hl:=M.length;exact wpAny_pyNext_tuple_end (I.ok.hd N) f (show s.heap.IsTuple a l.toArray from p) (by simp;lia) λn R=>⟨rfl,I.turned (t':=s.toks) (λb o j e=>R b o j e) t y A B C⟩
 self:=λ_ _ _ _ _ f h=>wpAny_pyIter_tupleiter f h
def j11{P:Program}{w:World}{K:Frg}{N:Expr}(it:Addr)(lo:Int)(n:Nat):Turn P w K N (Itr lo n) [it] it (λi h=>IsRangeIter h it (lo+(i:Nat)*1) ((n:Int)-(i:Nat)) 1) where
 mem:=by simp
 obj:=λi h a b d=>by
  have e:b=it:=by simpa using d
  subst e;exact⟨_,a,λv z=>by
   have O:Data.fields _=Data.cell v:=z;cases O⟩
 keep:=λi h g a k=>k it (by simp) _ a
 item:=by
  intro X x B u y i c s D H E I j a A;subst x B u;obtain⟨l,m,J,p,q,r⟩:=j it (by simp);have W:=Walks.range (prog:=X.prog) (w:=X.w) (I.ok.hd y) it lo 1 n;refine W.item i s _ _ A a λv g C L f M=>?_
  obtain⟨t,rfl⟩:=L;have F:Inv X c D H {s with heap:=g,toks:=C}:=I.turned (λb o d e=>M b o (by simpa using d) e) l m p q r;refine⟨_,rfl,Xz (s:={s with heap:=g,toks:=C}) (n:="range_iterator") f rfl rfl nofun ⟨.int (lo+i),H,F,⟨t,?_⟩,⟨rfl,rfl⟩,f,λb d=>(j b d).1⟩⟩;rw[Int.mul_one]
 done:=by
  intro X x B u y i c s D H E I j a A;subst x B u;obtain⟨l,m,J,p,q,r⟩:=j it (by simp);exact wpAny_pyNext_range_end (I.ok.hd y) a (by have:n<=i:=A;lia) λg G=>⟨rfl,I.turned (t':=s.toks) (λb o d e=>G b o d e) l m p q r⟩
 self:=λ_ _ _ _ _ a h=>wpAny_pyIter_rangeiter a h
section
variable{X:Cx}{tg:Expr}
def iList(K:Frg)(tl:TE):TI:=λσ H R=>tl σ H λx H1=>∃a,x = .ref a/\(∃xs,SqL K H1 a xs)/\R (Itl K a) H1
def iTup(K:Frg)(tl:TE):TI:=λσ H R=>tl σ H λx H1=>∃a,x = .ref a/\(∃xs,SqT K H1 a xs)/\R (Itt K a) H1
def jX{l:Expr}{g:TE}(k:PE X l g):PI X tg l (iList X.K g):=by
 intro c s u H R I h;refine thn (k c s u H _ I h) λv f z_=>?_;obtain⟨x,i,d,t,r⟩:=z_
 obtain⟨a,e,⟨z,m⟩,q⟩:=r;subst e;cases t;obtain⟨n,y,p,w⟩:=d.list m;refine wpAny_pyIter_list p.isList ?_;refine⟨f.heap.objs.size,[f.heap.objs.size],_,_,i,rfl,d.kept (t':=f.toks) λb o e=>vJ _ e,WV a _,⟨_,Heap.get?_push_size _ rfl,rfl,rfl⟩,λb j=>?_,q⟩;have e:b=f.heap.objs.size:=by simpa using j
 subst e;exact d.fpOk (vb _) (d.hok.fresh (vb _))
def ZM{l:Expr}{i:TE}(m:PE X l i):PI X tg l (iTup X.K i):=by
 intro c s u H R I h;refine thn (m c s u H _ I h) λv d z_=>?_;obtain⟨x,j,f,t,r⟩:=z_
 obtain⟨a,e,⟨z,n⟩,q⟩:=r;subst e;cases t;obtain⟨g,y,p,w⟩:=f.tuple n;refine wpAny_pyIter_tuple (show d.heap.IsTuple a g.toArray from p) ?_;refine⟨d.heap.objs.size,[d.heap.objs.size],_,_,j,rfl,f.kept (t':=d.toks) λb o e=>vJ _ e,wM a _,⟨_,Heap.get?_push_size _ rfl,rfl,rfl⟩,λb k=>?_,q⟩;have e:b=d.heap.objs.size:=by simpa using k
 subst e;exact f.fpOk (vb _) (f.hok.fresh (vb _))
def j4h{a:List (Addr×Obj)}{f:St}{H:Hp}{s:Shared}{R:It->Hp->Prop}{E:Value->Shared->Prop}{lo hi:Int}{t u v:Tok}{d:Nat}(I:Inv X a f H s)(i : -(2^62)<=lo)(j:lo<2^62)(k : -(2^62)<=hi)(l:hi<2^62)
  (q:R (Itr lo (hi-lo).toNat) H):wpAny (model X.prog X.w) X.A (pyIter (.ref s.heap.objs.size)) (PIE X a f tg R) E {s with heap:=s.heap.push {cls:=.type "range",data:=.fields #[.int lo t,.int hi u,.int 1 v]},toks:=d}:=by
 refine wpAny_pyIter_range (IsRange.new ..) (small_one i j k l) ?_;have c:Inv X a f H {s with heap:=s.heap.push {cls:=.type "range",data:=.fields #[.int lo t,.int hi u,.int 1 v]},toks:=d}:=I.kept λb o e=>vJ _ e
 refine⟨(s.heap.push {cls:=.type "range",data:=.fields #[.int lo t,.int hi u,.int 1 v]}).objs.size,[(s.heap.push {cls:=.type "range",data:=.fields #[.int lo t,.int hi u,.int 1 v]}).objs.size],_,_,H,rfl,
  c.kept (t':=d) λb o e=>vJ _ e,j11 _ lo (hi-lo).toNat,?_,λb m=>?_,q⟩
 .have g:lo+((0:Nat):Int)*1=lo:=by simp
  have h:(((hi-lo).toNat:Nat):Int)-((0:Nat):Int)=Builtin.Range.rangeSize lo hi 1:=by rw[rangeSize_one];split<;>lia
  show IsRangeIter _ _ (lo+((0:Nat):Int)*1) ((((hi-lo).toNat:Nat):Int)-((0:Nat):Int)) 1;rw[g,h];exact Heap.get?_push_size _ rfl
 .have e:b=(s.heap.push {cls:=.type "range",data:=.fields #[.int lo t,.int hi u,.int 1 v]}).objs.size:=by simpa using m
  subst e;exact c.fpOk (vb _) (c.hok.fresh (vb _))
def iRng1(ta:TA):TI:=λσ H R=>ta σ H λvs H1=>∃j:Int,vs=[.int j]/\-(2^62)<=j/\j<2^62/\R (Itr 0 j.toNat) H1
def qA{a:Expr}{f:TA}{p c:Pos}(k:Gl X "range")(l:X.mg "range"= none)(i:PA X [a] f)(m:starEach [a] X.env=[(false,eval a X.env)]:=by rfl):PI X tg (.Call (.Name "range" p) [a] [] c) (iRng1 f):=by
 intro b s u H R I h;refine Call_ (Zf I k l boot_range (PyProof.Rows.callWith_type1 (thn (i c b s u H _ I h) λx w z_=>?_) m rfl));obtain⟨y,v,g,o,d⟩:=z_;obtain⟨j,e,d,n,q⟩:=d;subst e;cases o with
 | cons r rr=>
  cases rr;obtain⟨t,rfl⟩:=r;exact call_range_1 (j4h g ⋯ ⋯ d n (by simpa using q))
def tFor(wi:TI)(g:TG)(tb:TS):TS:=λD σ H=>wi σ H λJ H1=>∃W:Nat->Nat->St->Hp->Prop,(∃m,W 0 m σ H1)/\∀i m σ H,W i m σ H->
 (J.stop i H/\D.nx σ H)\/(J.go i H/\∃N:St->Hp->Prop,(∀S' H',N S' H'->∃m',m'<m/\W (i+1) m' S' H')/\∀x H',J.yld i H x H'->g x σ H' λσ2 H2=>tb {D with nx:=N,ct:=N,bk:=D.nx} σ2 H2)
noncomputable def pinsAt(fp:L7)(h:Heap):List (Addr×Obj):=fp.filterMap λb=>(h.get? b).map λo=>(b,o)
def ZK(a:b∈fp)(e:h.get? b=some o):(b,o)∈pinsAt fp h:=List.mem_filterMap.mpr ⟨b,a,by rw[e];rfl⟩
def j2u(d:p∈pinsAt fp h):p.1∈fp/\h.get? p.1=some p.2:=by
 obtain⟨b,c,e⟩:=List.mem_filterMap.mp d;cases q:h.get? b with
 | none=>rw[q]at e;cases e
 | some o=>
  rw[q]at e;have a:(b,o)=p:=vL e;subst a;exact⟨c,q⟩
def Inv.pinned{f:St}{H:Hp}(I:Inv X pins f H s)(j:∀b∈fp,FpOk X pins H b)(k:∀b∈fp,∃o,s.heap.get? b=some o/\∀v,o.data≠.cell v):Inv X (pins++pinsAt fp s.heap) f H s:=
 I.pins_of λp l=>(vh.mp l).elim (λz=>I.pin p (mem_append_right _ z)) λz=>by
  obtain⟨c,e⟩:=j2u z;obtain⟨g,h,i,_⟩:=j p.1 c;obtain⟨o,a,d⟩:=k p.1 c;rw[e]at a;cases a;exact⟨e,g,h,i,d⟩
def Inv.unpinned{a:St}{H:Hp}(I:Inv X (pins++pl) a H s):Inv X pins a H s:=I.pins_of λp b=>I.pin p (mem_append_right _ (mem_append_left _ b))
def j7{q:Expr}{A:List Stmt}{wi:TI}{g:TG}{tb:TS}{Y:Pos}(G:PassesOwn (model X.prog X.w) X.A X.env X.xe)(hc:X.calm=true)(hi:PI X tg q wi)(hg:PG X tg g)(p:PSs X A tb)
  (hs:∀x,foldedSetIterable q X.env x=pure x:=by intro _;rfl):PS X (.For tg q A [] Y) (tFor wi g tb):=by
 intro a s σ H D I h;refine wpAny_For (thn (hi a s σ H _ I h) λv s1 h1=>thn h1 λa2 s2 h2=>?_) hs;obtain⟨it,E,tn,J,H2,e,I2,T,a0,f2,W,⟨m0,w0⟩,P⟩:=h2;subst e;have t:∀{z:Hp},(∀b∈E,z b=none)->∀b∈E,FpOk X a z b:=λhn b p=>⟨hn b p,(f2 b p).2⟩
 refine codeAny_forLoop_any (λn s'=>∃i w z,Inv X a w z s'/\tn i s'.heap/\(∀b∈E,z b=none)/\W i n w z) ?_ m0 ⟨0,σ,H2,I2,a0,λb p=>(f2 b p).1,w0⟩;rintro n s3 ⟨i,y,Q,I3,L,F,w3⟩;rcases P i n y Q w3 with⟨O,qn⟩ | ⟨go,N,hN,M⟩
 .refine wpAny_passesOwn G (thn (T.done X rfl rfl rfl hc i a s3 y Q X.xe I3 (t F) L O) λr s4 ⟨U,I4⟩=>?_);subst U;exact wpAny_execs_nil ⟨y,Q,I4,qn⟩
 .refine wpAny_passesOwn G (thn (T.item X rfl rfl rfl hc i a s3 y Q X.xe I3 (t F) L go) λr s4 ⟨u,U,h4⟩=>?_);subst U;refine wpAny_passesOwn G (thn h4 λ_ s5 z_=>?_);obtain⟨x,H5,I5,r5,y5,C,S⟩:=z_;have R:=I5.pinned (t S) (T.obj _ _ C);refine wpAny_passesOwn G (thn (hg _ s5 y H5 x u _ R r5 (M x H5 y5)) λ_ s6 z_=>?_);obtain⟨a1,H6,I6,q6⟩:=z_;refine wpAny_passesOwn G (thn (p _ s6 a1 H6 _ I6 q6) λf Z B=>?_);have l:∀{c:St} {j:Hp},Inv X (a++pinsAt E s5.heap) c j Z->N c j->∃m,m<n/\∃i w z,Inv X a w z Z/\tn i Z.heap/\(∀b∈E,z b=none)/\W i m w z:=λ{c j} k K=>by
   obtain⟨m',hm,w7⟩:=hN c j K;refine⟨m',hm,i+1,c,j,k.unpinned,T.keep _ _ _ C λb p o e=>(k.pin (b,o) (mem_append_right _ (mem_append_right _ (ZK p e)))).1,λb p=>?_,w7⟩;obtain⟨o,e,d⟩:=T.obj _ _ C b p;exact(k.pin (b,o) (mem_append_right _ (mem_append_right _ (ZK p e)))).2.1
  cases f with
  | next=>obtain⟨c,j,k,K⟩:=B;exact l k K
  | cont=>obtain⟨c,j,k,K⟩:=B;exact l k K
  | brk=>obtain⟨c,j,k,B⟩:=B;exact⟨c,j,k.unpinned,B⟩
  | ret v=>obtain⟨x7,c,j,k,r7,B⟩:=B;exact⟨x7,c,j,k.unpinned,r7,B⟩
end
def Jx{K:Frg}{a:Addr}{xs:N2}{g:TG}{j:TS}{D:Ends}{b:St}{H:Hp}(c:Nat->St->Hp->Prop)(k:c 0 b H)(o:∀i b H,i<=xs.length->c i b H->SqL K H a xs)
  (r:∀i x b H,xs[i]?=some x->c i b H->g x b H λd H2=>j {D with nx:=c (i+1),ct:=c (i+1),bk:=D.nx} d H2) (l:∀b H,c xs.length b H->D.nx b H) :
  ∃W:Nat->Nat->St->Hp->Prop,(∃m,W 0 m b H)/\∀i m b H,W i m b H->
   ((Itl K a).stop i H/\D.nx b H)\/((Itl K a).go i H/\∃N:St->Hp->Prop,(∀S' H',N S' H'->∃h,h<m/\W (i+1) h S' H')/\∀x H',(Itl K a).yld i H x H'->g x b H' λd H2=>j {D with nx:=N,ct:=N,bk:=D.nx} d H2):=by
 refine⟨λi m b H=>m=xs.length-i/\i<=xs.length/\c i b H,⟨xs.length,by simp,va _,k⟩,?_⟩;rintro i m b H ⟨rfl,n,p⟩;have q:=o i b H n p;by_cases f:i<xs.length
 .refine .inr ⟨⟨xs,xs[i],q,by simp[f]⟩,c (i+1),λS' H' s=>⟨xs.length-(i+1),⋯,rfl,f,s⟩,λx H' y=>?_⟩;obtain⟨e,y⟩:=y;subst e;exact r i x b _ (y xs q) p
 .have e:i=xs.length:=⋯
  subst e;exact .inl ⟨⟨xs,q,vb _⟩,l b H p⟩
def j1n{K:Frg}{a:Addr}{xs:N2}{g:TG}{j:TS}{D:Ends}{b:St}{H:Hp}(c:Nat->St->Hp->Prop)(k:c 0 b H)(o:∀i b H,i<=xs.length->c i b H->SqT K H a xs)
  (r:∀i x b H,xs[i]?=some x->c i b H->g x b H λd H2=>j {D with nx:=c (i+1),ct:=c (i+1),bk:=D.nx} d H2) (l:∀b H,c xs.length b H->D.nx b H) :
  ∃W:Nat->Nat->St->Hp->Prop,(∃m,W 0 m b H)/\∀i m b H,W i m b H->
   ((Itt K a).stop i H/\D.nx b H)\/((Itt K a).go i H/\∃N:St->Hp->Prop,(∀S' H',N S' H'->∃h,h<m/\W (i+1) h S' H')/\∀x H',(Itt K a).yld i H x H'->g x b H' λd H2=>j {D with nx:=N,ct:=N,bk:=D.nx} d H2):=by
 refine⟨λi m b H=>m=xs.length-i/\i<=xs.length/\c i b H,⟨xs.length,by simp,va _,k⟩,?_⟩;rintro i m b H ⟨rfl,n,p⟩;have q:=o i b H n p;by_cases f:i<xs.length
 .refine .inr ⟨⟨xs,xs[i],q,by simp[f]⟩,c (i+1),λS' H' s=>⟨xs.length-(i+1),⋯,rfl,f,s⟩,λx H' y=>?_⟩;obtain⟨e,y⟩:=y;subst e;exact r i x b _ (y xs q) p
 .have e:i=xs.length:=⋯
  subst e;exact .inl ⟨⟨xs,q,vb _⟩,l b H p⟩
def Qu{lo:Int}{n:Nat}{g:TG}{h:TS}{D:Ends}{a:St}{H:Hp}(b:Nat->St->Hp->Prop)(j:b 0 a H)
  (l:∀i a H,i<n->b i a H->g (.int (lo+i)) a H λd H2=>h {D with nx:=b (i+1),ct:=b (i+1),bk:=D.nx} d H2) (k:∀a H,b n a H->D.nx a H) :
  ∃W:Nat->Nat->St->Hp->Prop,(∃m,W 0 m a H)/\∀i m a H,W i m a H->
   ((Itr lo n).stop i H/\D.nx a H)\/((Itr lo n).go i H/\∃N:St->Hp->Prop,(∀S' H',N S' H'->∃f,f<m/\W (i+1) f S' H')/\∀x H',(Itr lo n).yld i H x H'->g x a H' λd H2=>h {D with nx:=N,ct:=N,bk:=D.nx} d H2):=by
 refine⟨λi m a H=>m=n-i/\i<=n/\b i a H,⟨n,by simp,va _,j⟩,?_⟩;rintro i m a H ⟨rfl,q,p⟩;by_cases c:i<n
 .refine .inr ⟨c,b (i+1),λS' H' o=>⟨n-(i+1),⋯,rfl,c,o⟩,λx H' y=>?_⟩;obtain⟨e,y⟩:=y;subst e y;exact l i a _ c p
 .have e:i=n:=⋯
  subst e;exact .inl ⟨vb _,k a H p⟩
noncomputable abbrev R2:=V->V->Hp->VK->Prop
def OpR(X:Cx)(f:Value->Value->Sem Value)(r:R2):Prop:=
 ∀(pins:List (Addr×Obj)) (s:Shared) (σ:St) (H:Hp) (x y:V) (v u:Value) (Q:VK),Inv X pins σ H s->RelV x v->RelV y u->r x y H Q->
  wpAny (model X.prog X.w) X.A (f v u) (EP X pins σ Q) X.xe s
def UnR(X:Cx)(f:Value->Sem Value)(r:V->Hp->VK->Prop):Prop:=
 ∀(pins:List (Addr×Obj)) (s:Shared) (σ:St) (H:Hp) (x:V) (v:Value) (Q:VK),Inv X pins σ H s->RelV x v->r x H Q->
  wpAny (model X.prog X.w) X.A (f v) (EP X pins σ Q) X.xe s
def CallR(X:Cx)(f:Value)(r:N2->Hp->VK->Prop):Prop:=
 ∀(pins:List (Addr×Obj)) (s:Shared) (σ:St) (H:Hp) (xs:N2) (us:L9) (Q:VK),Inv X pins σ H s->Vals xs us->r xs H Q->
  wpAny (model X.prog X.w) X.A (call f us) (EP X pins σ Q) X.xe s
def TruR(X:Cx)(r:V->Hp->(Bool->Hp->Prop)->Prop):Prop:=
 ∀(pins:List (Addr×Obj)) (s:Shared) (σ:St) (H:Hp) (x:V) (v:Value) (Q:Bool->Hp->Prop),Inv X pins σ H s->RelV x v->r x H Q->
  wpAny (model X.prog X.w) X.A (truthy v) (TP X pins σ Q) X.xe s
def tOp(r:R2)(ta tb:TE):TE:=λσ H Q=>ta σ H λx H1=>tb σ H1 λy H2=>r x y H2 Q
def tUn(r:V->Hp->VK->Prop)(ta:TE):TE:=λσ H Q=>ta σ H λx H1=>r x H1 Q
def rI(C:Int->Int->Prop)(g:Int->Int->V):R2:=λx y H Q=>∃i j,x = .int i/\y = .int j/\C i j/\Q (g i j) H
def rI0(g:Int->Int->V):R2:=λx y H Q=>∃i j,x = .int i/\y = .int j/\Q (g i j) H
noncomputable def rU(g:Int->V):V->Hp->VK->Prop:=λx H Q=>∃i,x = .int i/\Q (g i) H
section
variable{X:Cx}{a b c:Expr}{ta tb tc:TE}{pos:Pos}
def binT(k:PE X a ta)(l:PE X b tb){c:St}{H:Hp}{R:V->V->Hp->Prop}(I:Inv X pins c H s)
  (h:ta c H λx H1=>tb c H1 λy H2=>R x y H2) {Q:Value->Shared->Prop} {f:Value->Value->Sem Value}
  (m:∀v u g x y H2,Inv X pins c H2 g->RelV x v->RelV y u->R x y H2->wpAny (model X.prog X.w) X.A (f v u) Q X.xe g) :
  wpAny (model X.prog X.w) X.A (eval a X.env) (λv d=>wpAny (model X.prog X.w) X.A (eval b X.env) (λu e=>wpAny (model X.prog X.w) X.A (f v u) Q X.xe e) X.xe d) X.xe s:=by
 refine thn (k pins s c H _ I h) λv r z_=>?_;obtain⟨x,H1,i,p,n⟩:=z_
 refine thn (l pins r c H1 _ i n) λu g z_=>?_;obtain⟨y,H2,j,q,o⟩:=z_
 exact m v u g x y H2 j p q o
def jw(i:OpR X (binaryOp op) r)(f:PE X a ta)(g:PE X b tb):PE X (.BinOp a op b pos) (tOp r ta tb):=by
 intro c s m H Q I h;exact wpAny_BinOp (binT f g I h λv u l x y d e j k q=>i c l m d x y v u Q e j k q)
def yr{r:V->Hp->VK->Prop}(g:UnR X (unaryOp op) r)(f:PE X a ta):PE X (.UnaryOp op a pos) (tUn r ta):=by
 intro b s c H Q I h;exact UnaryOp_ (thn (f b s c H _ I h) λv k ⟨x,d,e,j,i⟩=>g b k c d x v Q e j i)
def opI{f:Value->Value->Sem Value}{C:Int->Int->Prop}{g:Int->Int->Int}
  (a:∀(i j:Int) (t u:Tok) (s:Shared) (Q:Value->Shared->Prop) (E:Value->Shared->Prop),C i j->Q (.int (g i j) s.toks) {s with toks:=s.toks+1}->wpAny (model X.prog X.w) X.A (f (.int i t) (.int j u)) Q E s) :
  OpR X f (rI C λi j=>.int (g i j)):=by
 intro b s l H x y v u Q I d e h;obtain⟨i,j,rfl,rfl,c,q⟩:=h;obtain⟨t,rfl⟩:=d;obtain⟨k,rfl⟩:=e;exact a i j t k s _ _ c ⟨.int (g i j),H,I.tok _,⟨_,rfl⟩,q⟩
def opI0{f:Value->Value->Sem Value}{g:Int->Int->Int}
  (a:∀(i j:Int) (t u:Tok) (s:Shared) (Q:Value->Shared->Prop) (E:Value->Shared->Prop),Q (.int (g i j) s.toks) {s with toks:=s.toks+1}->wpAny (model X.prog X.w) X.A (f (.int i t) (.int j u)) Q E s) :
  OpR X f (rI0 λi j=>.int (g i j)):=by
 intro b s k H x y v u Q I c d h;obtain⟨i,j,rfl,rfl,q⟩:=h;obtain⟨t,rfl⟩:=c;obtain⟨e,rfl⟩:=d;exact a i j t e s _ _ ⟨.int (g i j),H,I.tok _,⟨_,rfl⟩,q⟩
def opB0{f:Value->Value->Sem Value}{g:Int->Int->Bool}
  (a:∀(i j:Int) (t u:Tok) (s:Shared) (Q:Value->Shared->Prop) (E:Value->Shared->Prop),Q (.bool (g i j)) s->wpAny (model X.prog X.w) X.A (f (.int i t) (.int j u)) Q E s) :
  OpR X f (rI0 λi j=>.bl (g i j)):=by
 intro b s k H x y v u Q I c d h;obtain⟨i,j,rfl,rfl,q⟩:=h;obtain⟨t,rfl⟩:=c;obtain⟨e,rfl⟩:=d;exact a i j t e s _ _ ⟨.bl (g i j),H,I,rfl,q⟩
def CPow(i j:Int):Prop:=0<=j/\j<=1000000/\i.natAbs<2^64
def j2:OpR X (binaryOp .Add) (rI0 λi j=>.int (i+j)):=opI0 λ_ _ _ _ _ _ _ q=>add_int q
def qK:OpR X (binaryOp .Sub) (rI0 λi j=>.int (i-j)):=opI0 λ_ _ _ _ _ _ _ q=>sub_int q
def j3:OpR X (binaryOp .Mod) (rI (λ_ j=>0<j) λi j=>.int (i%j)):=opI λi j _ _ _ _ _ a q=>by
 have b:(0:Int)<j:=a;exact mod_int' ⋯ (by rw[Int.fmod_eq_emod_of_nonneg i ⋯];exact q)
def yq:OpR X (binaryOp .Pow) (rI CPow λi j=>.int (i^j.toNat)):=opI λ_ _ _ _ _ _ _ a q=>pow_int_small a.1 a.2.1 a.2.2 q
def unI{f:Value->Sem Value}{g:Int->Int}
  (a:∀(i:Int) (t:Tok) (s:Shared) (Q:Value->Shared->Prop) (E:Value->Shared->Prop),Q (.int (g i) s.toks) {s with toks:=s.toks+1}->wpAny (model X.prog X.w) X.A (f (.int i t)) Q E s) :
  UnR X f (rU λi=>.int (g i)):=by
 intro b s d H x v Q I c h;obtain⟨i,rfl,q⟩:=h;obtain⟨t,rfl⟩:=c;exact a i t s _ _ ⟨.int (g i),H,I.tok _,⟨_,rfl⟩,q⟩
def zF:UnR X (unaryOp .USub) (rU λi=>.int (-i)):=unI λ_ _ _ _ _ q=>neg_int q
end
noncomputable def scal:V->V->Bool
 | .non,.non=>true | .non,.int _=>true | .int _,.non=>true | .non,.bl _=>true | .bl _,.non=>true | .non,.str _=>true | .str _,.non=>true
 | .int _,.int _=>true | .bl _,.bl _=>true | .str _,.str _=>true | .byt _,.byt _=>true
 | .int _,.str _=>true | .str _,.int _=>true | .bl _,.str _=>true | .str _,.bl _=>true
 | _,_=>false
def rEq:R2:=λx y H Q=>scal x y=true/\Q (.bl (decide (x=y))) H
def rNe:R2:=λx y H Q=>scal x y=true/\Q (.bl (!decide (x=y))) H
def j1e:decide (V.int i=V.int j)=(i==j):=by
 rw[Bool.eq_iff_iff];simp
def j36:decide (V.bl i=V.bl j)=(i==j):=by
 rw[Bool.eq_iff_iff];simp
def j1f:decide (V.str i=V.str j)=(i==j):=by
 rw[Bool.eq_iff_iff];simp
def j1d:decide (V.byt i=V.byt j)=(i.toList==j.toList):=by
 rw[Bool.eq_iff_iff];cases i;cases j;simp
section
variable{X:Cx}{a b c:Expr}{ta tb tc:TE}{pos:Pos}
def jY{a:St}{H:Hp}(I:Inv X pins a H s)(q:Q (.bl k) H)(e:k=k'):EP X pins a Q (.bool k') s:=by
 subst e;exact⟨.bl k,H,I,rfl,q⟩
def jS:OpR X (compareOp .Eq) rEq:=by
 intro e s f H x y v u Q I d a h;obtain⟨c,q⟩:=h;cases x with
 | non=>
  cases d;cases y with
  | non=>cases a;exact PySem.EqNone.eq_none_none (jY I q (by simp))
  | bl j=>cases a;exact PySem.EqNone.eq_none_bool (jY I q (by simp))
  | int j=>obtain⟨b,rfl⟩:=a;exact PySem.EqNone.eq_none_int (jY I q (by simp))
  | str j=>obtain⟨b,rfl⟩:=a;exact PySem.EqNone.eq_none_str (jY I q (by simp))
  | _=>exact ue (show false=true from c) vF
 | bl i=>
  cases d;cases y with
  | non=>cases a;exact PySem.EqNone.eq_bool_none (jY I q (by simp))
  | bl j=>cases a;exact eq_bool (jY I q j36)
  | str j=>obtain⟨b,rfl⟩:=a;exact PySem.EqMixed.eq_bool_str (jY I q (by simp))
  | _=>exact ue (show false=true from c) vF
 | int i=>
  obtain⟨t,rfl⟩:=d;cases y with
  | non=>cases a;exact PySem.EqNone.eq_int_none (jY I q (by simp))
  | int j=>obtain⟨b,rfl⟩:=a;exact eq_int (jY I q j1e)
  | str j=>obtain⟨b,rfl⟩:=a;exact PySem.EqMixed.eq_int_str (jY I q (by simp))
  | _=>exact ue (show false=true from c) vF
 | str i=>
  obtain⟨t,rfl⟩:=d;cases y with
  | non=>cases a;exact PySem.EqNone.eq_str_none (jY I q (by simp))
  | bl j=>cases a;exact PySem.EqMixed.eq_str_bool (jY I q (by simp))
  | int j=>obtain⟨b,rfl⟩:=a;exact PySem.EqMixed.eq_str_int (jY I q (by simp))
  | str j=>obtain⟨b,rfl⟩:=a;exact eq_str (jY I q j1f)
  | _=>exact ue (show false=true from c) vF
 | byt i=>
  obtain⟨t,rfl⟩:=d;cases y with
  | byt j=>obtain⟨b,rfl⟩:=a;exact PySem.W.eq_bytes (jY I q j1d)
  | _=>exact ue (show false=true from c) vF
 | _=>cases y<;>exact ue (show false=true from c) vF
def j5Q:OpR X (compareOp .NotEq) rNe:=by
 intro e s f H x y v u Q I d a h;obtain⟨c,q⟩:=h;cases x with
 | non=>
  cases d;cases y with
  | non=>cases a;exact PySem.EqNone.ne_none_none (jY I q (by simp))
  | bl j=>cases a;exact PySem.EqNone.ne_none_bool (jY I q (by simp))
  | int j=>obtain⟨b,rfl⟩:=a;exact PySem.EqNone.ne_none_int (jY I q (by simp))
  | str j=>obtain⟨b,rfl⟩:=a;exact PySem.EqNone.ne_none_str (jY I q (by simp))
  | _=>exact ue (show false=true from c) vF
 | bl i=>
  cases d;cases y with
  | non=>cases a;exact PySem.EqNone.ne_bool_none (jY I q (by simp))
  | bl j=>cases a;exact ne_bool (jY I q (congrArg not j36))
  | str j=>obtain⟨b,rfl⟩:=a;exact PySem.EqMixed.ne_bool_str (jY I q (by simp))
  | _=>exact ue (show false=true from c) vF
 | int i=>
  obtain⟨t,rfl⟩:=d;cases y with
  | non=>cases a;exact PySem.EqNone.ne_int_none (jY I q (by simp))
  | int j=>obtain⟨b,rfl⟩:=a;exact ne_int (jY I q (congrArg not j1e))
  | str j=>obtain⟨b,rfl⟩:=a;exact PySem.EqMixed.ne_int_str (jY I q (by simp))
  | _=>exact ue (show false=true from c) vF
 | str i=>
  obtain⟨t,rfl⟩:=d;cases y with
  | non=>cases a;exact PySem.EqNone.ne_str_none (jY I q (by simp))
  | bl j=>cases a;exact PySem.EqMixed.ne_str_bool (jY I q (by simp))
  | int j=>obtain⟨b,rfl⟩:=a;exact PySem.EqMixed.ne_str_int (jY I q (by simp))
  | str j=>obtain⟨b,rfl⟩:=a;exact ne_str (jY I q (congrArg not j1f))
  | _=>exact ue (show false=true from c) vF
 | byt i=>
  obtain⟨t,rfl⟩:=d;cases y with
  | byt j=>obtain⟨b,rfl⟩:=a;exact PySem.W.ne_bytes (jY I q (congrArg not j1d))
  | _=>exact ue (show false=true from c) vF
 | _=>cases y<;>exact ue (show false=true from c) vF
def ZX:OpR X (compareOp .Lt) (rI0 λi j=>.bl (decide (i<j))):=opB0 λ_ _ _ _ _ _ _ q=>lt_int q
def WP:OpR X (compareOp .LtE) (rI0 λi j=>.bl (decide (i<=j))):=opB0 λ_ _ _ _ _ _ _ q=>le_int q
def y6:OpR X (compareOp .Gt) (rI0 λi j=>.bl (decide (j<i))):=opB0 λ_ _ _ _ _ _ _ q=>gt_int q
def j1F:OpR X (compareOp .GtE) (rI0 λi j=>.bl (decide (j<=i))):=opB0 λ_ _ _ _ _ _ _ q=>ge_int q
def j6u:OpR X (compareOp .Is) (λx y H Q=>y = .non/\Q (.bl (decide (x = .non))) H):=by
 intro a s d H x y v u Q I b c h;obtain⟨rfl,q⟩:=h;cases c;refine is_none_gen (jY I q ?_);cases x<;>first
  | (cases b;rfl)
  | (obtain⟨t,rfl⟩:=b;rfl)
def j5l:OpR X (compareOp .IsNot) (λx y H Q=>y = .non/\Q (.bl (!decide (x = .non))) H):=by
 intro a s d H x y v u Q I b c h;obtain⟨rfl,q⟩:=h;cases c;refine isnot_none_gen (jY I q ?_);cases x<;>first
  | (cases b;rfl)
  | (obtain⟨t,rfl⟩:=b;rfl)
def nomark(b:Expr)(h:op≠.In:=by decide)(d:op≠.NotIn:=by decide):behindInMarks op b=false:=by
 have a:(op==CmpOp.In)=false:=by cases op<;>first | rfl | exact ue rfl h
 have c:(op==CmpOp.NotIn)=false:=by cases op<;>first | rfl | exact ue rfl d
 cases b<;>simp[behindInMarks,a,c]
def j5n(j:OpR X (compareOp op) r)(f:PE X a ta)(g:PE X b tb)(i:behindInMarks op b=false):PE X (.Compare a [op] [b] pos) (tOp r ta tb):=by
 intro c s n H Q I h;exact wpAny_Compare1 (binT f g I h λv u m x y d e k l q=>j c m n d x y v u Q e k l q) i
def tTest(t:TE):TT:=λσ H Q=>t σ H λx H'=>∃k,x = .bl k/\Q k H'
def jp(t:OpR X (compareOp op) r)(o:PE X a ta)(p:PE X b tb)(q:behindInMarks op b=false):PT X (.Compare a [op] [b] pos) (tTest (tOp r ta tb)):=by
 intro d s f H Q I h;refine wpAny_isTrue_Compare1 (thn (o d s f H _ I h) λv F ⟨x,g,l,C,w⟩=>thn (p d F f g _ l w) λu G ⟨y,i,m,D,A⟩=>
  thn (t d G f i x y v u _ m C D A) λc J ⟨z,j,n,E,k,e,B⟩=>?_) q
 subst e;cases E;exact wpAny_truthy_bool ⟨j,n,B⟩
def tChain(r r':R2)(ta tb tc:TE):TE:=λσ H Q=>ta σ H λx H1=>tb σ H1 λy H2=>r x y H2 λz H3=>∃k,z = .bl k/\
 (if k=true then tc σ H3 λw' H4=>r' y w' H4 Q else Q (.bl false) H3)
def XX(L:OpR X (compareOp op) r)(i:OpR X (compareOp op') r')(F:PE X a ta)(G:PE X b tb)(J:PE X c tc)
  (K:lastMarks [op,op'] [b,c]=false:=by with_unfolding_all rfl):PT X (.Compare a [op,op'] [b,c] pos) (tTest (tChain r r' ta tb tc)):=by
 intro f s g H Q I h;refine isTrue_chain (thn (F f s g H _ I h) λv Y ⟨x,o,w,S,N⟩=>test_link (thn (G f Y g o _ w N) λu Z ⟨y,p,A,n,O⟩=>
  thn (L f Z g p x y v u _ A S n O) λd s3 ⟨z,j,l,T,k,e,m⟩=>?_)) K
 subst e;cases T;refine wpAny_truthy_bool ?_;cases k with
 | false=>
  obtain⟨k',D,M⟩:=m;cases D;exact ite_ff ⟨j,l,M⟩
 | true=>
  refine ite_tt (test_last (thn (J f s3 g j _ l m) λw' s4 ⟨z',q,B,U,P⟩=>thn (i f s4 g q y z' u w' _ B n U P) λd' s5 ⟨z2,t,C,W,k2,E,R⟩=>?_));subst E;cases W;exact wpAny_truthy_bool ⟨t,C,R⟩
def TruV(K:Frg)(x:V)(H:Hp)(k:Bool):Prop:=
 match x with
 | .non=>k=false
 | .bl b=>k=b
 | .int i=>k=(i != 0)
 | .str y=>y.length<=sizeLine/\k=((y.length:Int) != 0)
 | .byt y=>y.size<=sizeLine/\k=((y.size:Int) != 0)
 | .ref p=>(∃xs,SqL K H p xs/\k = !xs.isEmpty)\/(∃xs,SqT K H p xs/\k = !xs.isEmpty)\/∃kvs,H p=some (.dK kvs)/\k = !kvs.isEmpty
 | _=>False
def j0t{κ:Type}{kvs:List (κ×V)}{vs:List (κ×Value)}(r:KV kvs vs):(!vs.isEmpty) = !kvs.isEmpty:=by
 cases r<;>rfl
def wb{xs:N2}{a:L9}(r:Vals xs a):(!a.toArray.isEmpty) = !xs.isEmpty:=by
 cases r<;>simp
def line63:(sizeLine:Nat)<2^63:=by rw[sizeLine_eq];decide
def j6L:TruR X (λx H Q=>∃k,TruV X.K x H k/\Q k H):=by
 intro w s D H x v Q I g h;obtain⟨k,e,q⟩:=h;have B:=line63;have C:sizeLine=16777216:=sizeLine_eq;cases x with
 | non=>
  cases g;have a:k=false:=e;subst a;exact truthy_none ⟨H,I,q⟩
 | bl b=>
  cases g;have a:k=b:=e;subst a;exact wpAny_truthy_bool ⟨H,I,q⟩
 | int i=>
  obtain⟨t,rfl⟩:=g;have a:k=(i != 0):=e;subst a;exact PySem.P.truthy_int ⟨H,I,q⟩
 | str y=>
  obtain⟨t,rfl⟩:=g;obtain⟨A,a⟩:y.length<=sizeLine/\k=((y.length:Int) != 0):=e;subst a;exact PySem.P.truthy_str ⋯ ⟨H,I.tok _,q⟩
 | byt y=>
  obtain⟨t,rfl⟩:=g;obtain⟨A,a⟩:y.size<=sizeLine/\k=((y.size:Int) != 0):=e;subst a;exact PySem.W.truthy_bytes ⋯ ⟨H,I.tok _,q⟩
 | ref p=>
  cases g;have a:(∃f,SqL X.K H p f/\k = !f.isEmpty)\/(∃f,SqT X.K H p f/\k = !f.isEmpty)\/∃c,H p=some (.dK c)/\k = !c.isEmpty:=e;rcases a with⟨f,j,a⟩ | ⟨f,j,a⟩ | ⟨c,j,a⟩
  .subst a;obtain⟨n,r,o,u⟩:=I.list j;have d:=r.length;exact wpAny_truthy_list o.isList (by simp only[size_toArray];lia) ⟨H,I.tok _,by rw[wb r];exact q⟩
  .subst a;obtain⟨n,r,o,u⟩:=I.tuple j;have d:=r.length;exact truthy_tuple o (by simp only[size_toArray];lia) ⟨H,I.tok _,by rw[wb r];exact q⟩
  .subst a;obtain⟨u,z,l,r,m⟩:c.length<=sizeLine/\(p==sysModules)=false/\∃l,KV c l/\s.heap.DictOf (mixKind X.prog X.w) p l:=I.hok p _ j;have d:c.length=l.length:=Paired.length r;exact wpAny_truthy_dict z m ⋯ ⟨H,I.tok _,by rw[j0t r];exact q⟩
 | _=>exact(show False from e).elim
def j4c(f:PE X a ta)(g:∀b,isTrue a X.env b=(do let v <-b;standAt a.pos;holding [v] (truthy v))) :
  PT X a (λσ H Q=>ta σ H λx H'=>∃k,TruV X.K x H' k/\Q k H'):=by
 intro c s σ H Q I h;exact isTrue_plain (thn (f c s σ H _ I h) λv l ⟨x,d,e,j,i⟩=>j6L c l σ d x v Q e j i) (g _)
def ZL:OpR X (binaryOp .Add) (λx y H Q=>∃i j,x = .str i/\y = .str j/\i.length+j.length<=sizeLine/\Q (.str (i++j)) H):=by
 intro a s g H x y v u Q I c d h;obtain⟨i,j,rfl,rfl,b,q⟩:=h;obtain⟨t,rfl⟩:=c;obtain⟨e,rfl⟩:=d;exact add_str (λe f=>⟨.str (i++j),H,I.tok _,⟨_,rfl⟩,q⟩) b
def vals1(r:Vals [x] us):∃u,us=[u]/\RelV x u:=by
 cases r with
 | cons r1 r2=>cases r2;exact⟨_,rfl,r1⟩
def vals2(r:Vals [x,y] us):∃u a,us=[u,a]/\RelV x u/\RelV y a:=by
 cases r with
 | cons r1 r2=>
  cases r2 with
  | cons r3 r4=>cases r4;exact⟨_,_,rfl,r1,r3⟩
def KQ:CallR X (.builtin "abs") (λxs H Q=>∃i,xs=[.int i]/\Q (.int (if i<0 then -i else i)) H):=by
 intro a s d H xs c Q I r h;obtain⟨i,rfl,q⟩:=h;obtain⟨u,rfl,t,rfl⟩:=vals1 r;exact call_abs_int λu b=>⟨.int (if i<0 then -i else i),H,I.tok _,⟨_,rfl⟩,q⟩
def j27(c:X.calm=true):CallR X (.builtin "max") (λxs H Q=>∃i j,xs=[.int i,.int j]/\Q (.int (if j>i then j else i)) H):=by
 intro b s m H xs g Q I r h;obtain⟨i,j,rfl,q⟩:=h;obtain⟨u,l,rfl,⟨t,rfl⟩,⟨e,rfl⟩⟩:=vals2 r;refine max_two_ints (I.ok.hd c) λd f k=>⟨_,H,I.kept k,?_,q⟩
 by_cases a:j>i
 .rw[vd a,vd a];exact⟨_,rfl⟩
 .rw[vc a,vc a];exact⟨_,rfl⟩
def ko(c:X.calm=true):CallR X (.builtin "min") (λxs H Q=>∃i j,xs=[.int i,.int j]/\Q (.int (if j<i then j else i)) H):=by
 intro b s m H xs g Q I r h;obtain⟨i,j,rfl,q⟩:=h;obtain⟨u,l,rfl,⟨t,rfl⟩,⟨e,rfl⟩⟩:=vals2 r;refine min_two_ints (I.ok.hd c) λd f k=>⟨_,H,I.kept k,?_,q⟩
 by_cases a:j<i
 .rw[vd a,vd a];exact⟨_,rfl⟩
 .rw[vc a,vc a];exact⟨_,rfl⟩
def LenV(K:Frg)(x:V)(H:Hp)(n:Nat):Prop:=
 match x with
 | .str y=>y.length<=sizeLine/\n=y.length
 | .byt y=>y.size<=sizeLine/\n=y.size
 | .ref p=>(∃xs,SqL K H p xs/\n=xs.length)\/∃xs,SqT K H p xs/\n=xs.length
 | _=>False
def jR:CallR X (.builtin "len") (λxs H Q=>∃x n,xs=[x]/\LenV X.K x H n/\Q (.int n) H):=by
 intro j s w H xs v Q I r h;obtain⟨x,n,rfl,e,q⟩:=h;obtain⟨u,rfl,i⟩:=vals1 r;have m:=line63;have o:sizeLine=16777216:=sizeLine_eq;cases x with
 | str y=>
  obtain⟨t,rfl⟩:=i;obtain⟨k,b⟩:y.length<=sizeLine/\n=y.length:=e;subst b;exact len_str ⋯ ⟨.int _,H,I.tok _,⟨_,rfl⟩,q⟩
 | byt y=>
  obtain⟨t,rfl⟩:=i;obtain⟨k,b⟩:y.size<=sizeLine/\n=y.size:=e;subst b;exact PySem.W.len_bytes ⋯ ⟨.int _,H,I.tok _,⟨_,rfl⟩,q⟩
 | ref p=>
  cases i;have b:(∃xs,SqL X.K H p xs/\n=xs.length)\/∃xs,SqT X.K H p xs/\n=xs.length:=e;rcases b with⟨xs,c,b⟩ | ⟨xs,c,b⟩
  .subst b;obtain⟨d,g,f,l⟩:=I.list c;have a:=g.length;exact Calls.call_len_list f.isList (by simp only[size_toArray];lia) ⟨.int xs.length,H,I.tok _,⟨_,by simp only[size_toArray];rw[a]⟩,q⟩
  .subst b;obtain⟨d,g,f,l⟩:=I.tuple c;have a:=g.length;exact len_tuple f (by simp only[size_toArray];lia) ⟨.int xs.length,H,I.tok _,⟨_,by simp only[size_toArray];rw[a]⟩,q⟩
 | _=>exact(show False from e).elim
end
structure ObjM(h:Heap)(x dx C:Addr)(mA:Str->Option Value):Prop where
 obj:h.get? x=some (PySem.W.instObj C dx)
 ns:h.Ns1 dx mA
 ne:dx≠x
def j2n{h:Heap}{c:Addr}{f:Str->Option Value}(n:h.Ns1 c f):∃g,h.get? c=some g/\∀name,PySem.W.lookIn name g=some (f name):=by
 obtain⟨o,d,r,m,j,k,_,l⟩:=n;refine⟨o,m,λname=>?_⟩;have e:=l name;unfold nsFind findBy at e;rw[<-Array.find?_toList]at e;unfold PySem.W.lookIn;rw[j];dsimp only;split
 .rename_i y q;rw[q]at e;exact congrArg some e
 .rename_i q;rw[q]at e;have a:d.toList.any (·.refKey)=false:=by
   rw[List.any_eq_false];intro y p;obtain⟨z,t,b⟩:=k y (Array.mem_toList_iff.mp p);simp[DictEntry.refKey,b]
  have i:¬d.toList.any (·.refKey)=true:=by rw[a];exact vF
  rw[vc i];exact congrArg some e
def ObjM.look{b:Str->Option Value}(I:ObjM h x dx C b):∃a,PySem.W.InstAt h x (PySem.W.instObj C dx) C (some a)/\∀name,PySem.W.lookIn name a=some (b name):=
 let ⟨a,ho,hl⟩:=j2n I.ns
 ⟨a,⟨I.obj,rfl,rfl,ho⟩,hl⟩
section
variable{prog:Program}{w:World}{A:Around}{E:Value->Shared->Prop}{s:Shared}{K:Frg}{x dx C f:Addr}{mA:Str->Option Value}{name:Str}{v:Value}
def j52{Q:Value->Shared->Prop}(X:K.In s.heap)(I:ObjM s.heap x dx C mA)(c:PySem.W.plainGet K C name=true)(d:PySem.W.hasDictIn K C=true)
  (b:PySem.W.findIn K (.ref C) name=some none) (f:mA name=some v) (a:PySem.W.handedIn v=true) (h:Q v {s with toks:=s.toks+1}) :
  wpAny (model prog w) A (getAttr (.ref x) name expr) Q E s:=by
 obtain⟨g,J,e⟩:=I.look;exact PySem.W.get_value X J (PySem.W.plainGet_of c).1 (PySem.W.findObj_own d b rfl (by rw[e,f])) a h
def j3g{Q:Value×L9->Shared->Prop}(X:K.In s.heap)(I:ObjM s.heap x dx C mA)(a:PySem.W.plainGet K C name=true)
  (b:PySem.W.findIn K (.ref C) name=some (some (.ref f))) (d:PySem.W.isFn K (.ref f)=true) (e:mA name=none) (h:Q (.ref f,[.ref x]) s) :
  wpAny (model prog w) A (getMethod (.ref x) name pl) Q E s:=by
 obtain⟨g,J,c⟩:=I.look;exact PySem.W.method_fn X J (PySem.W.plainGet_of a).1 (PySem.W.plainGet_of a).2 b (beq_iff_eq.mp d) (by show(PySem.W.lookIn name g).map (·.isSome)=some false;rw[c,e];rfl) h
def j5C{Q:Unit->Shared->Prop}(X:K.In s.heap)(I:ObjM s.heap x dx C mA)
  (o:PySem.W.findIn K (.ref C) "__setattr__"= some (some (.builtin "object.__setattr__"))) (n:PySem.W.plainOver K C=true) (p:PySem.W.takerIn K C name=some none) (m:PySem.W.hasDictIn K C=true)
  (hw:PySem.Within mA ns) (hsz:ns.length<=sizeLine)
  (h:∀h',ObjM h' x dx C (λy=>if y=name then some v else mA y)->Heap.SameBut dx s.heap h'->Q () {s with heap:=h',toks:=s.toks+2}) :
  wpAny (model prog w) A (setAttr (.ref x) name v) Q E s:=by
 obtain⟨B,J,u⟩:=I.look;refine PySem.W.set_plain X J o (PySem.W.osa_open (s:={s with toks:=s.toks+1}) (r:=none) X J n p λb=>?_);obtain⟨t,l,f⟩:=PySem.W.any_some m;have q:s.heap.get? x=some ⟨.ref C,some dx,.plain,#[]⟩:=I.obj;refine ug (uf (ug (ug (wpAny_loadPart q (ug (PySem.W.Looks.here (s:={s with toks:=s.toks+1}) (PySem.W.looks_clsIn X l) ?_))))));rw[f];refine uf (a:=some dx) (ug (uf (ug ?_)));refine wpAny_nsSet1 (s:={s with toks:=s.toks+1}) I.ns λh' c d=>?_
 obtain⟨z,k,j,i,g,e⟩:=c.count (PySem.Within.cons name v hw);refine ug (wpAny_lookBehind i (by rw[g];exact pastItsLine_dict (vW e (by rw[vQ];lia))) ?_);exact uf (h _ ⟨(d.2 _ (Ne.symm I.ne)).trans I.obj,c,I.ne⟩ d)
def j3w{R:Result->Shared->Prop}(X:K.In s.heap)(c:PySem.W.makesIn K C=true)
  (hi:PySem.W.findIn K (.ref C) "__init__"= some (some (.ref f))) (b:PySem.W.typeIn K (.ref f)=some (.type "function"))
  (h:codeAny (model prog w) (A.under (.builtin "type.__call__" ⟨.ref C::vs,kw⟩)) (.call (.ref f) ⟨.ref (s.heap.objs.size+1)::vs,kw⟩) (PySem.W.InitBack (s.heap.objs.size+1) R)
   {s with heap:=(s.heap.push PySem.W.emptyDict).push (PySem.W.instObj C s.heap.objs.size)}) :
  codeAny (model prog w) A (.call (.ref C) ⟨vs,kw⟩) R s:=by
 obtain⟨e,g,d,t,i⟩:=s;exact PySem.W.make_core (PySem.W.makes_of X c) (PySem.W.looks_findIn X hi) (λa=>PySem.W.bind_fn X a b) (.inl rfl) h
end
noncomputable def putF(f:Str)(v:V):List (Str×V)->List (Str×V)
 | []=>[(f,v)]
 | (g,x)::r=>if g=f then(g,v)::r else(g,x)::putF f v r
theorem zS(f g:Str)(v:V):∀fs:List (Str×V),(putF f v fs).lookup g=if g=f then some v else fs.lookup g
 | []=>by
  show List.lookup g [(f,v)]=_;by_cases h:g=f
  .have a:(g==f)=true:=beq_iff_eq.mpr h;simp only[List.lookup,a,if_pos h]
  .have a:(g==f)=false:=beq_eq_false_iff_ne.mpr h;simp only[List.lookup,a,if_neg h]
 | (k,x)::r=>by
  have c:=zS f g v r;rw[show putF f v ((k,x)::r)=(if k=f then(k,v)::r else(k,x)::putF f v r)from rfl];by_cases b:k=f
  .rw[vd b];by_cases h:g=k
   .have a:(g==k)=true:=beq_iff_eq.mpr h;simp only[List.lookup,a,if_pos (h.trans b)]
   .have a:(g==k)=false:=beq_eq_false_iff_ne.mpr h;simp only[List.lookup,a,if_neg (λe:g=f=>h (e.trans b.symm))]
  .rw[vc b];by_cases h:g=k
   .have a:(g==k)=true:=beq_iff_eq.mpr h;simp only[List.lookup,a,if_neg (λe:g=f=>b (h.symm.trans e))]
   .have a:(g==k)=false:=beq_eq_false_iff_ne.mpr h;simp only[List.lookup,a];exact c
theorem kF(f:Str)(v:V):∀fs:List (Str×V),f∈(putF f v fs).map (·.1)/\∀g,g∈fs.map (·.1)->g∈(putF f v fs).map (·.1)
 | []=>⟨by simp[putF],λg h=>by simp at h⟩
 | (k,x)::r=>by
  obtain⟨b,c⟩:=kF f v r;rw[show putF f v ((k,x)::r)=(if k=f then(k,v)::r else(k,x)::putF f v r)from rfl];by_cases a:k=f
  .rw[vd a];subst a;exact⟨by simp,λg h=>by simpa using h⟩
  .rw[vc a];refine⟨?_,λg h=>?_⟩
   .rw[uy];exact vp _ b
   .rw[uy]at h|-;rcases mem_cons.mp h with e | e
    .exact mem_cons.mpr (.inl e)
    .exact vp _ (c g e)
theorem Ke(f:Str)(v:V):∀fs:List (Str×V),(putF f v fs).length<=fs.length+1
 | []=>by simp[putF]
 | (k,x)::r=>by
  have b:=Ke f v r;rw[show putF f v ((k,x)::r)=(if k=f then(k,v)::r else(k,x)::putF f v r)from rfl];by_cases a:k=f
  .rw[vd a,vQ,vQ];lia
  .rw[vc a,vQ,vQ];lia
def RelO.some_of(r:RelO (some v) o):∃u,o=some u/\RelV v u:=by
 cases o with
 | none=>exact(show False from r).elim
 | some u=>exact⟨u,rfl,r⟩
def RelO.none_of(r:RelO none o):o=none:=by
 cases o with
 | none=>rfl
 | some u=>exact(show False from r).elim
def j2d(r:RelV v u):PySem.W.handedIn u=true:=by
 cases v with
 | non=>cases(show u=Value.none from r);rfl
 | bl b=>cases(show u=Value.bool b from r);rfl
 | int i=>obtain⟨t,e⟩:=(show∃t,u=Value.int i t from r);cases e;rfl
 | str x=>obtain⟨t,e⟩:=(show∃t,u=Value.str x t from r);cases e;rfl
 | byt b=>obtain⟨t,e⟩:=(show∃t,u=Value.bytes b t from r);cases e;rfl
 | flt b=>obtain⟨t,e⟩:=(show∃t,u=Value.float b t from r);cases e;rfl
 | ref a=>cases(show u=Value.ref a from r);rfl
 | ty n=>cases(show u=Value.type n from r);rfl
section
variable{P:Program}{w:World}{H H':Hp}{h h':Heap}{a C dx:Addr}{fs fs':List (Str×V)}
def Kv(b:HOk P w H h)(e:H a=some (.ins C dx fs)):∃mA,ObjM h a dx C mA/\(∀f,RelO (fs.lookup f) (mA f))/\PySem.Within mA (fs.map (·.1))/\fs.length<=1000/\H dx=some (.own a):=by
 obtain⟨d,z,c,g,mA,n,r,q⟩:=(show ObjOk P w H h a (.ins C dx fs)from b a _ e)
 exact⟨mA,⟨g,n,c⟩,r,q,z,d⟩
end
structure Cls(K:Frg)(C:Addr):Prop where
 pg:PySem.W.plainGet K C Str.empty=true
 hd:PySem.W.hasDictIn K C=true
 po:PySem.W.plainOver K C=true
 sa:PySem.W.findIn K (.ref C) "__setattr__"= some (some (.builtin "object.__setattr__"))
def Cls.get{K:Frg}{C:Addr}(c:Cls K C)(f:Str):PySem.W.plainGet K C f=true:=c.pg
def NoAttr(K:Frg)(C:Addr)(f:Str):Prop:=PySem.W.findIn K (.ref C) f=some none
def NoAttr.taker{K:Frg}{C:Addr}{f:Str}(n:NoAttr K C f):PySem.W.takerIn K C f=some none:=by
 unfold PySem.W.takerIn;rw[show PySem.W.findIn K (.ref C) f=some none from n];rfl
structure Meth(K:Frg)(C:Addr)(m:Str)(f:Addr):Prop where
 at_:PySem.W.findIn K (.ref C) m=some (some (.ref f))
 fn:PySem.W.isFn K (.ref f)=true
 kp:PySem.W.keepIn K (.ref f)=true
section
variable{X:Cx}{pins:List (Addr×Obj)}{σ:St}{H:Hp}{s:Shared}{a C dx:Addr}{fs:List (Str×V)}{f:Str}{v:V}{A:Around}{E:Value->Shared->Prop}
def K6{Q:Value->Shared->Prop}(I:Inv X pins σ H s)(e:H a=some (.ins C dx fs))(c:Cls X.K C)(n:NoAttr X.K C f)(l:fs.lookup f=some v)
  (h:∀u s',Inv X pins σ H s'->RelV v u->Q u s'):wpAny (model X.prog X.w) A (getAttr (.ref a) f b) Q E s:=by
 obtain⟨i,O,r,_,_,_⟩:=Kv I.hok e;obtain⟨u,g,d⟩:=RelO.some_of (v:=v) (o:=i f) (by rw[<-l];exact r f);exact j52 I.kIn O (c.get f) c.hd n g (j2d d) (h u _ (I.tok _) d)
def K7{Q:Value×L9->Shared->Prop}(I:Inv X pins σ H s)(e:H a=some (.ins C dx fs))(c:Cls X.K C)(k:Meth X.K C m g)(l:fs.lookup m=none)
  (h:Q (.ref g,[.ref a]) s):wpAny (model X.prog X.w) A (getMethod (.ref a) m pl) Q E s:=by
 obtain⟨d,O,r,_,_,_⟩:=Kv I.hok e;have b:d m=none:=RelO.none_of (by rw[<-l];exact r m);exact j3g I.kIn O (c.get m) k.at_ k.fn b h
def wI{Q:Unit->Shared->Prop}(I:Inv X pins σ H s)(e:H a=some (.ins C dx fs))(c:Cls X.K C)(n:NoAttr X.K C f)(D:fs.length<1000)(w:RelV y u)
  (h:∀s',Inv X pins σ (upd H a (.ins C dx (putF f y fs))) s'->Q () s'):wpAny (model X.prog X.w) A (setAttr (.ref a) f u) Q E s:=by
 obtain⟨j,O,r,k,_,i⟩:=Kv I.hok e;have v:(fs.map (·.1)).length<=sizeLine:=by rw[vt,sizeLine_eq];lia
 refine j5C I.kIn O c.sa c.po n.taker c.hd k v λl d B=>h _ ?_
 have p:∃o,l.get? dx=some o:=let ⟨o,_,_,e',_⟩:=d.ns;⟨o,e'⟩;refine I.write (x:=a) (e:=dx) (by rw[e];exact True.intro) (.inr i) (λb q m z=>(B.2 b m).trans z) p ?_;refine⟨by rw[jo O.ne];exact i,?_,O.ne,d.obj,_,d.ns,λg=>?_,λg t=>?_⟩
 .have:=Ke f y fs;lia
 .show RelO ((putF f y fs).lookup g) (if g=f then some u else j g);rw[zS];by_cases q:g=f
  .rw[vd q,vd q];exact w
  .rw[vc q,vc q];exact r g
 .by_cases q:g=f
  .rw[q];exact(kF f y fs).1
  .refine(kF f y fs).2 g (k g λz=>t ?_);show(if g=f then some u else j g)=none;rw[vc q];exact z
def Inv.made(I:Inv X pins σ H s):Inv X pins σ (upd (upd H s.heap.objs.size (.own (s.heap.objs.size+1))) (s.heap.objs.size+1) (.ins C s.heap.objs.size []))
  {s with heap:=(s.heap.push PySem.W.emptyDict).push (PySem.W.instObj C s.heap.objs.size)}:=by
 have c:(s.heap.push PySem.W.emptyDict).get? s.heap.objs.size=some PySem.W.emptyDict:=Heap.get?_push_size s.heap rfl;have g:((s.heap.push PySem.W.emptyDict).push (PySem.W.instObj C s.heap.objs.size)).get? (s.heap.objs.size+1)=some (PySem.W.instObj C s.heap.objs.size):=by
  have:=Heap.get?_push_size (s.heap.push PySem.W.emptyDict) (o:=PySem.W.instObj C s.heap.objs.size) rfl
  rwa [Heap.size_push]at this
 have h:(s.heap.push PySem.W.emptyDict).Ns s.heap.objs.size (λ_=>none):=⟨PySem.W.emptyDict,#[],_,c,rfl,(λe i=>ue i (by simp)),λ_=>rfl⟩
 have f:=I.laid (a:=s.heap.objs.size) (o:=.own (s.heap.objs.size+1)) (h':=s.heap.push PySem.W.emptyDict) (t':=s.toks) (λb u q=>vJ _ q) (vb _) ⟨_,c⟩;refine f.laid (a:=s.heap.objs.size+1) (o:=.ins C s.heap.objs.size []) (t':=s.toks) (λb u q=>vJ _ q) (Nat.le_of_eq (Heap.size_push _ _)) ?_;have d:s.heap.objs.size≠s.heap.objs.size+1:=vE (Nat.lt_succ_self _);refine⟨by rw[jo d,jz],va _,d,g,λ_=>none,(Heap.Ns1.of_empty h).at λo q=>vJ _ q,λ_=>True.intro,λy j=>ue rfl j⟩
def j4R{f:Str}{s:Shared}{Q:Value->Shared->Prop}(b:attributeBase e f env (eval e env)=eval e env)
  (h:wpAny (model prog w) A (eval e env) (λo a=>wpAny (model prog w) A (getAttr o f true) Q E a) E s):wpAny (model prog w) A (eval (.Attribute e f pos) env) Q E s:=
 Attribute_any_ h (by rw[arm_eval_Attribute,b])
end
def tFld(K:Frg)(ta:TE)(f:Str):TE:=λσ H Q=>ta σ H λx H1=>∃a C dx fs v,x = .ref a/\H1 a=some (.ins C dx fs)/\Cls K C/\NoAttr K C f/\fs.lookup f=some v/\Q v H1
def sFld(K:Frg)(ta tv:TE)(f:Str):TS:=λD σ H=>tv σ H λy H1=>ta σ H1 λx H2=>∃a C dx fs,x = .ref a/\H2 a=some (.ins C dx fs)/\Cls K C/\NoAttr K C f/\fs.length<1000/\
 D.nx σ (upd H2 a (.ins C dx (putF f y fs)))
def InOp(X:Cx)(op:Operator)(rd:V->V->Hp->VK->Prop):Prop:=
 ∀(pins:List (Addr×Obj)) (s:Shared) (σ:St) (H:Hp) (x y:V) (u v:Value) (Q:VK),Inv X pins σ H s->RelV x u->RelV y v->rd x y H Q->wpAny (model X.prog X.w) X.A (inplaceOp op u v) (EP X pins σ Q) X.xe s
def sFldAug(K:Frg)(ta tv:TE)(rd:V->V->Hp->VK->Prop)(f:Str):TS:=λD σ H=>ta σ H λx H1=>∃a C dx fs v,x = .ref a/\H1 a=some (.ins C dx fs)/\Cls K C/\NoAttr K C f/\fs.lookup f=some v/\
 tv σ H1 λy H2=>rd v y H2 λz H3=>∃dx' fs',H3 a=some (.ins C dx' fs')/\fs'.length<1000/\D.nx σ (upd H3 a (.ins C dx' (putF f z fs')))
section
variable{X:Cx}{o e value:Expr}{f:Str}{pos pos' tpos:Pos}{ta tv:TE}
def Jp(o:PE X e ta)(m:attributeBase e f X.env (eval e X.env)=eval e X.env):PE X (.Attribute e f pos) (tFld X.K ta f):=by
 intro b s t H Q I h;refine j4R m (thn (o b s t H _ I h) λu z z_=>?_);obtain⟨x,d,g,r,a,C,w,y,v,k,j,c,n,l,q⟩:=z_;subst k;obtain rfl:u=Value.ref a:=r;exact K6 g j c n l λB A i p=>⟨v,d,i,p,q⟩
def Zh(p:PE X o ta)(t:PE X value tv)(r:swapsWith value (some (.Attribute o f pos')) pos.line X.env=pure false):PS X (.Assign [.Attribute o f pos'] value pos) (sFld X.K ta tv f):=by
 intro b s d H D I h;refine plainObj_wpAny_Assign_Attribute (thn (t b s d H _ I h) λu A ⟨y,e,g,z,q⟩=>thn (p b A d e _ g q) λov G ⟨x,B,i,w,a,C,E,F,m,k,c,n,l,v⟩=>?_) r;subst m;obtain rfl:ov=Value.ref a:=w;exact wI i k c n l z λJ j=>⟨d,_,j,v⟩
def j2A{op:Operator}{i:V->V->Hp->VK->Prop}(G:PE X o ta)(J:PE X value tv)(g:InOp X op i):PS X (.AugAssign (.Attribute o f tpos) op value pos) (sFldAug X.K ta tv i f):=by
 intro b s d H D I h;refine wpAny_AugAssign_AttributeAny (thn (G b s d H _ I h) λov Z z_=>?_);obtain⟨x,j,m,O,a,C,W,Y,v,E,B,c,n,l,q⟩:=z_;subst E;obtain rfl:ov=Value.ref a:=O;refine K6 m B c n l λu R p N=>thn (J b R d j _ p q) λT S ⟨y,k,r,P,L⟩=>thn (g b S d k v y u T _ r N P L) λw4 s4 ⟨z,U,t,Q,A,F,e,K,M⟩=>?_
 exact wI t e c n K Q λs5 w=>⟨d,_,w,M⟩
noncomputable def rAdd:V->V->Hp->VK->Prop:=λx y H Q=>∃i j,x = .int i/\y = .int j/\Q (.int (i+j)) H
def j6f:InOp X .Add rAdd:=by
 rintro a s e H x y u v Q I c d ⟨i,j,rfl,rfl,q⟩;obtain⟨t,rfl⟩:=(show∃t,u=Value.int i t from c)
 obtain⟨b,rfl⟩:=(show∃b,v=Value.int j b from d)
 exact PyProof.Rows.iadd_int ⟨.int (i+j),H,I.tok _,⟨_,rfl⟩,q⟩
end
section
variable{X:Cx}{pins:List (Addr×Obj)}{σ:St}{H:Hp}{s:Shared}{A:Around}{E:Value->Shared->Prop}{Q:Value->Shared->Prop}{c:Value}{b:Bool}
inductive TyOf(K:Frg)(H:Hp):V->Value->Prop where
 | non:TyOf K H .non (.type "NoneType")
 | bl (x:Bool):TyOf K H (.bl x) (.type "bool")
 | int (i:Int):TyOf K H (.int i) (.type "int")
 | str (x:Str):TyOf K H (.str x) (.type "str")
 | flt (x:UInt64):TyOf K H (.flt x) (.type "float")
 | lst {a:Addr} {xs:N2} (e:H a=some (.lst xs)):TyOf K H (.ref a) (.type "list")
 | frz {a:Addr} {o:Obj} {xs:N2} (e:H a=some (.frz o (.lst xs))):TyOf K H (.ref a) (.type "list")
 | tup {a:Addr} {xs:N2} (e:H a=some (.tup xs)):TyOf K H (.ref a) (.type "tuple")
 | dK {a:Addr} {kvs:List (Key×V)} (e:H a=some (.dK kvs)):TyOf K H (.ref a) (.type "dict")
 | dT {a:Addr} {kvs:List (List Key×V)} (e:H a=some (.dT kvs)):TyOf K H (.ref a) (.type "dict")
 | ins {a C dx:Addr} {fs:List (Str×V)} (e:H a=some (.ins C dx fs)) (cl:Cls K C) (ha:PySem.W.findIn K (.ref C) "__class__"= some (some (.builtin "object.__class__")))
   (hn:PySem.W.specialIn K (.builtin "object.__class__") "__get__"= some (some (.builtin "getset_descriptor.__get__"))) (htk:PySem.W.takesIn K (.builtin "object.__class__")=some true)
   (hm:PySem.W.mroIn K C (.type "object")=some true):TyOf K H (.ref a) (.ref C)
def j2i(I:Inv X pins σ H s)(d:RelV x u)(m:TyOf X.K H x t)(e:PySem.W.kitOne X.K t c=some b)(h:∀tk,Q (.bool b) {s with toks:=tk}) :
  wpAny (model X.prog X.w) A (call (.builtin "isinstance") [u,c]) Q E s:=by
 cases m with
 | non=>cases(show u=Value.none from d);exact PySem.W.kia_one PySem.W.kitx_none I.kIn True.intro e (λz=>nomatch z) h
 | bl y=>cases(show u=Value.bool y from d);exact PySem.W.kia_one PySem.W.kitx_bool I.kIn True.intro e (λz=>nomatch z) h
 | int i=>obtain⟨t,q⟩:=(show∃t,u=Value.int i t from d);cases q;exact PySem.W.kia_one PySem.W.kitx_int I.kIn True.intro e (λz=>nomatch z) h
 | str y=>obtain⟨t,q⟩:=(show∃t,u=Value.str y t from d);cases q;exact PySem.W.kia_one PySem.W.kitx_str I.kIn True.intro e (λz=>nomatch z) h
 | flt y=>obtain⟨t,q⟩:=(show∃t,u=Value.float y t from d);cases q;exact PySem.W.kia_one PySem.W.kitx_float I.kIn True.intro e (λz=>nomatch z) h
 | @lst a g ea=>
  cases(show u=Value.ref a from d);obtain⟨_,_,n,_,f⟩:=(show ObjOk X.prog X.w H s.heap a (.lst g)from I.hok a _ ea)
  exact PySem.W.kia_one PySem.W.kitx_list I.kIn ⟨_,f,rfl⟩ e (λz=>nomatch z) h
 | @frz a ob g ea=>
  cases(show u=Value.ref a from d);obtain⟨_,_,_,n,_,f⟩:=(show ObjOk X.prog X.w H s.heap a (.frz ob (.lst g))from I.hok a _ ea)
  exact PySem.W.kia_one PySem.W.kitx_list I.kIn ⟨_,f,rfl⟩ e (λz=>nomatch z) h
 | @tup a g ea=>
  cases(show u=Value.ref a from d);obtain⟨_,_,_,p⟩:=(show ObjOk X.prog X.w H s.heap a (.tup g)from I.hok a _ ea)
  obtain⟨o,f,j,_⟩:=p;exact PySem.W.kia_one PySem.W.kitx_tuple I.kIn ⟨o,f,j⟩ e (λz=>nomatch z) h
 | @dK a kvs ea=>
  cases(show u=Value.ref a from d);obtain⟨_,_,w,_,p⟩:=(show ObjOk X.prog X.w H s.heap a (.dK kvs)from I.hok a _ ea)
  obtain⟨o,l,k,f,j,_⟩:=p;exact PySem.W.kia_one PySem.W.kitx_dict I.kIn ⟨o,f,j.1⟩ e (λz=>nomatch z) h
 | @dT a kvs ea=>
  cases(show u=Value.ref a from d);obtain⟨_,_,g,_,o,l,k,f,j,_⟩:=(show ObjOk X.prog X.w H s.heap a (.dT kvs)from I.hok a _ ea)
  exact PySem.W.kia_one PySem.W.kitx_dict I.kIn ⟨o,f,j.1⟩ e (λz=>nomatch z) h
 | @ins a C dx fs ea cl ha hn htk hm=>
  cases(show u=Value.ref a from d);obtain⟨r,O,_⟩:=Kv I.hok ea;obtain⟨v,J,_⟩:=O.look;exact PySem.W.kia_one (PySem.W.kitx_own (cl.get _) cl.hd ha hn htk hm) I.kIn J e (λz=>nomatch z) h
end
structure Room(k:Nat)(A:Around):Prop where
 hd:A.handled=none
 dp:A.depth+3*k+5<recursionLimit
 un:A.units+16*k+200<cLine
def Room.mono(r:Room k A)(h:j<=k):Room j A:=⟨r.hd,by have:=r.dp;lia,by have:=r.un;lia⟩
def Room.deeper(r:Room (k+1) A)(env:Env):Room k (A.deeper env):=
 ⟨r.hd,by have:=r.dp;show A.depth+1+3*k+5<_;lia,by have:=r.un;show A.units+3+16*k+200<_;lia⟩
def j0x{A:Around}{C:Addr}{us:L9}{a:List (Str×Value)}:(A.under (.builtin "type.__call__" ⟨.ref C::us,a⟩)).depth=A.depth+1:=by
 first | rfl | simp[Around.under,Code.weight,Code.isCreation,Code.isGuard,Code.isCaller,Code.frames,Code.isFrame,guardIds]
def j0y{A:Around}{C:Addr}{us:L9}{a:List (Str×Value)}:(A.under (.builtin "type.__call__" ⟨.ref C::us,a⟩)).units=A.units+1:=by
 first | rfl | simp[Around.under,Code.cUnits,Code.frames,Code.isFrame]
def Room.make(r:Room (k+1) A)(C:Addr)(us:L9)(a:List (Str×Value)):Room k (A.under (.builtin "type.__call__" ⟨.ref C::us,a⟩)):=
 ⟨r.hd,by have:=r.dp;rw[j0x];lia,by have:=r.un;rw[j0y];lia⟩
def Room.depth(r:Room k A):A.depth<recursionLimit:=by have:=r.dp;lia
def Room.units(r:Room k A):A.units+64<cLine:=by have:=r.un;lia
def tNil:TA:=λ_ H Q=>Q [] H
def tCons(ta:TE)(tr:TA):TA:=λσ H Q=>ta σ H λx H1=>tr σ H1 λxs H2=>Q (x::xs) H2
section
variable{X:Cx}{e:Expr}{es:List Expr}{te:TE}{t:TA}{pos:Pos}
def jc:PA X [] tNil:=λ_ _ _ _ H Q I h=>Calls.spliced_nil ⟨[],H,I,.nil,h⟩
def ja(j:PE X e te)(k:PA X es t)(l:starEach (e::es) X.env=(false,eval e X.env)::starEach es X.env:=by rfl):PA X (e::es) (tCons te t):=by
 intro b a s c H Q I h;rw[l];show wpAny _ _ (spliced ((false,eval e X.env)::backTo b (starEach es X.env))) _ _ s;refine Calls.spliced_cons (thn (j a s c H _ I h) λu q z_=>?_);obtain⟨x,d,g,o,m⟩:=z_;exact thn (k b a q c d _ g m) λw v ⟨r,f,i,p,n⟩=>⟨x::r,f,i,.cons o p,n⟩
def tTup(t:TA):TE:=λσ H Q=>t σ H λxs H1=>xs.length<=sizeLine/\∀p,H1 p=none->Q (.ref p) (upd H1 p (.tup xs))
def tLst(t:TA):TE:=λσ H Q=>t σ H λxs H1=>xs.length<=sizeLine/\∀p,H1 p=none->Q (.ref p) (upd H1 p (.lst xs))
def jI{x1}(h:PA X es t):PE X (.Tuple es x1 pos) (tTup t):=by
 intro a s l H Q I i;refine wpAny_Tuple_spliced (thn (h pos a s l H _ I i) λj c ⟨k,d,f,r,z,q⟩=>⟨by rw[<-r.length];exact z,?_⟩);have g:d c.heap.objs.size=none:=f.hok.fresh (vb _);refine⟨.ref c.heap.objs.size,upd d c.heap.objs.size (.tup k),f.laid (t':=c.toks) (λb u e=>vJ _ e) (vb _) ?_,rfl,q _ g⟩;exact⟨z,j,r,⟨_,Heap.get?_push_size _ rfl,rfl,_,rfl⟩⟩
def jL(h:PA X es t):PE X (.List es pos) (tLst t):=by
 intro a s l H Q I i;refine wpAny_List_spliced (thn (h pos a s l H _ I i) λj c ⟨k,d,f,r,z,q⟩=>⟨by rw[<-r.length];exact z,?_⟩);have g:d c.heap.objs.size=none:=f.hok.fresh (vb _);refine⟨.ref c.heap.objs.size,upd d c.heap.objs.size (.lst k),f.laid (t':=c.toks) (λb u e=>vJ _ e) (vb _) ?_,rfl,q _ g⟩;exact⟨z,j,0,r,Heap.get?_push_size _ rfl⟩
end
noncomputable abbrev Sp:=N2->Hp->VK->XK->Prop
noncomputable abbrev CXT:=List Env->Hp->Shared->XK->Value->Shared->Prop
structure Env0(P:Program)(w:World)(K:Frg)(mg:Str->Option Value)(base:Heap)(A:Around)(outer:List Env)(s:Shared)(H:Hp):Prop where
 frames:A.frames=some outer
 mod:Mod K mg base
 bs:∀b o,base.get? b=some o->s.heap.get? b=some o/\H b=none
 bsz:base.objs.size<=s.heap.objs.size
 funs:s.heap.FunFrames base outer
 frf:∀b∈frs outer,H b=none
 hok:HOk P w H s.heap
 bare:AllBare s.gens
def CE(outer:List Env)(P:Program)(w:World)(H:Hp)(s:Shared)(Q:VK)(u:Value)(s':Shared):Prop:=
 ∃v H',s'.os=s.os/\AllBare s'.gens/\Un (frs outer) [] H H' s.heap s'.heap/\HOk P w H' s'.heap/\RelV v u/\Q v H'
def CR(CX:CXT)(outer:List Env)(P:Program)(w:World)(H:Hp)(s:Shared)(Q:VK)(E:XK)(r:Result)(s':Shared):Prop:=
 match r with
 | .ok (.ret u)=>CE outer P w H s Q u s'
 | .ok _=>False
 | .error e=>CX outer H s E e s'
structure FnOk(P:Program)(w:World)(K:Frg)(mg:Str->Option Value)(base:Heap)(CX:CXT)(k:Nat)(f:Addr)(fd:FuncData)(ps:L8)(sp:Sp):Prop where
 len:∀vs H Q E,sp vs H Q E->vs.length=ps.length
 run:∀(A:Around) (outer:List Env) (s:Shared) (H:Hp) (args:Args) (us:L9) (vs:N2) (Q:VK) (E:XK),Room k A->Env0 P w K mg base A outer s H->BindsTo s fd args (ps.zip us)->Vals vs us->sp vs H Q E->
  codeAny (model P w) A (.call (.ref f) args) (CR CX outer P w H s Q E) s
def FnOk.mono{P:Program}{w:World}{K:Frg}{e:Str->Option Value}{a:Heap}{CX:CXT}{j k:Nat}{f:Addr}{d:FuncData}{ps:L8}{sp:Sp}(F:FnOk P w K e a CX j f d ps sp)(h:j<=k) :
  FnOk P w K e a CX k f d ps sp:=⟨F.len,λA b s H c i l Q E g=>F.run A b s H c i l Q E (g.mono h)⟩
def Env0.make{P:Program}{w:World}{K:Frg}{c:Str->Option Value}{b:Heap}{A:Around}{a:List Env}{s:Shared}{H:Hp}(e:Env0 P w K c b A a s H)(C:Addr)(us:L9)(d:List (Str×Value)) :
  Env0 P w K c b (A.under (.builtin "type.__call__" ⟨.ref C::us,d⟩)) a s H:=⟨by first | exact e.frames | (simpa [Around.under,Code.envs,Code.isFrame,pushEnvs]using e.frames),e.mod,e.bs,e.bsz,e.funs,e.frf,e.hok,e.bare⟩
section
variable{X:Cx}{pins:List (Addr×Obj)}{σ:St}{H:Hp}{s s':Shared}
def Inv.env0(I:Inv X pins σ H s):Env0 X.prog X.w X.K X.mg X.base X.A X.stack s H:=
 ⟨I.ok.frames,I.ok.mod,I.bs,vW I.ok.bsz I.sz,I.stack,I.stkFree,I.hok,I.bare⟩
def Inv.after(I:Inv X pins σ H s)(h:CE X.stack X.prog X.w H s Q u s'):EP X pins σ Q u s':=by
 obtain⟨v,f,j,a,k,c,r,q⟩:=h;obtain⟨i,g,d,t,e⟩:=s';obtain rfl:e=s.os:=j;exact⟨v,f,I.call (h':=i) (g':=g) (d':=d) (t':=t) (ch:=[]) k c a (λb z=>ue z (by simp)),r,q⟩
end
def tCall(sp:Sp)(dvs:N2)(E:XK)(t:TA):TE:=λσ H Q=>t σ H λvs H1=>sp (vs++dvs) H1 Q E
def tMeth(C:Addr)(m:Str)(sp:Sp)(dvs:N2)(E:XK)(ta:TE)(t:TA):TE:=λσ H Q=>ta σ H λx H1=>∃a dx fs,x = .ref a/\H1 a=some (.ins C dx fs)/\fs.lookup m=none/\
 t σ H1 λvs H2=>sp (x::(vs++dvs)) H2 Q E
def tMake(C:Addr)(sp:Sp)(dvs:N2)(E:XK)(t:TA):TE:=λσ H Q=>t σ H λvs H1=>∀x dx,H1 x=none->H1 dx=none->dx≠x->
 sp (.ref x::(vs++dvs)) (upd (upd H1 dx (.own x)) x (.ins C dx [])) (λv H2=>v = .non/\Q (.ref x) H2) E
def Binds(K:Frg)(fd:FuncData)(ps:L8)(ds:L9):Prop:=
 ∀(s:Shared) (us:L9),K.In s.heap->(us++ds).length=ps.length->BindsTo s fd ⟨us,[]⟩ (ps.zip (us++ds))
def Binds.all{K:Frg}{a:FuncData}{ps:L8}(h:∀us:L9,us.length=ps.length->bindArgs a ⟨us,[]⟩=pure (ps.zip us)):Binds K a ps []:=λs us _ b=>by
 rw[append_nil]at b|-;exact .of_eq (h us b)
def Passes(CX:CXT)(X:Cx)(E:XK):Prop:=∀(pins:List (Addr×Obj)) (σ:St) (H:Hp) (s:Shared) (e:Value) (s':Shared),Inv X pins σ H s->CX X.stack H s E e s'->X.xe e s'
section
variable{X:Cx}{CX:CXT}{k:Nat}{f C:Addr}{fd:FuncData}{ps:L8}{sp:Sp}{dvs:N2}{ds:L9}{E:XK}{x m:Str}{p pos apos:Pos}{e o:Expr}{es:List Expr}{ta:TE}{t:TA}
def j0U{b:St}{H:Hp}(F:FnOk X.prog X.w X.K X.mg X.base CX k f fd ps sp)(j:Room k X.A)(d:Binds X.K fd ps ds)(g:Vals dvs ds)(l:Passes CX X E)
  (I:Inv X pins b H s) (r:Vals vs us) (h:sp (vs++dvs) H Q E):wpAny (model X.prog X.w) X.A (call (.ref f) us) (EP X pins b Q) X.xe s:=by
 have c:Vals (vs++dvs) (us++ds):=r.append g;have i:(us++ds).length=ps.length:=by rw[<-c.length];exact F.len _ _ _ _ h
 refine wpAny_call (codeAny_mono (F.run X.A X.stack s H ⟨us,[]⟩ (us++ds) (vs++dvs) Q E j I.env0 (d s us I.kIn i) c h) λr m a=>?_);cases r with
 | error e=>exact l pins b H s e m I a
 | ok fl=>
  cases fl with
  | ret u=>exact I.after a
  | next=>exact False.elim a
  | brk=>exact False.elim a
  | cont=>exact False.elim a
def zT(F:FnOk X.prog X.w X.K X.mg X.base CX k f fd ps sp)(u:Room k X.A)(m:Gl X x)(o:X.mg x=some (.ref f))(n:PySem.W.keepIn X.K (.ref f)=true)(i:Binds X.K fd ps ds)(j:Vals dvs ds)(v:Passes CX X E)
  (g:PA X (e::es) t) (b:(x==("__debug__" : Str))=false:=by decide) (l:starEach (e::es) X.env=(false,eval e X.env)::starEach es X.env:=by rfl) (c:(backTo pos (starEach es X.env)).any (·.1)=false:=by rfl) :
  PE X (.Call (.Name x p) (e::es) [] pos) (tCall sp dvs E t):=by
 intro a s w H Q I h;refine wpAny_Call_Name_kw (xv I m o ?_ b);refine PySem.W.callWith_K (h₀:=X.base) I.ok.mod.kin n (thn (g pos a s w H _ I h) λB z ⟨C,y,d,r,q⟩=>⟨d.kIn,?_⟩) l c;exact j0U F u i j v d r q
def Kz(G:PE X o ta)(c:Cls X.K C)(n:Meth X.K C m f)(F:FnOk X.prog X.w X.K X.mg X.base CX k f fd ps sp)(J:Room k X.A)(B:Binds X.K fd ps ds)(D:Vals dvs ds)(L:Passes CX X E)(z:PA X (e::es) t)
  (g:starEach (e::es) X.env=(false,eval e X.env)::starEach es X.env:=by rfl) (d:(backTo pos (starEach es X.env)).any (·.1)=false:=by rfl)
  (K:eval (.Call (.Attribute o m apos) (e::es) [] pos) X.env=(do
   let ov <-eval o X.env
   standAt apos.atName
   let (f,first) <-holding [ov] (getMethod ov m pl)
   callWith pos f first (backTo pos (starEach (e::es) X.env)) (backToKw pos (keywordEach [] X.env))):=by rfl) :
  PE X (.Call (.Attribute o m apos) (e::es) [] pos) (tMeth C m sp dvs E ta t):=by
 intro b s p H Q I h;refine PySem.W.methodCall_KW (pl:=pl) (thn (G b s p H _ I h) λu O z_=>?_) K;obtain⟨x,v,i,N,a,R,S,y,w,l,q⟩:=z_;subst y;obtain rfl:u=Value.ref a:=N;refine K7 i w c n l ?_;refine PySem.W.callWith_K (first:=[.ref a]) (h₀:=X.base) I.ok.mod.kin n.kp (thn (z pos b O p v _ i q) λus T ⟨vs,P,j,r,M⟩=>⟨j.kIn,?_⟩) g d;exact j0U (us:=.ref a::us) (vs:=.ref a::vs) F J B D L j (.cons rfl r) M
def YQ{pl:Sem Bool}(p:PE X o ta)(c:Cls X.K C)(e:Meth X.K C m f)(F:FnOk X.prog X.w X.K X.mg X.base CX k f fd ps sp)(r:Room k X.A)(j:Binds X.K fd ps ds)(n:Vals dvs ds)(v:Passes CX X E)
  (t:eval (.Call (.Attribute o m apos) [] [] pos) X.env=(do
   let ov <-eval o X.env
   standAt apos.atName
   let (f,first) <-holding [ov] (getMethod ov m pl)
   callWith pos f first (backTo pos (starEach [] X.env)) (backToKw pos (keywordEach [] X.env))):=by rfl) :
  PE X (.Call (.Attribute o m apos) [] [] pos) (tMeth C m sp dvs E ta tNil):=by
 intro b s y H Q I h;refine PySem.W.methodCall_KW (pl:=pl) (thn (p b s y H _ I h) λu G z_=>?_) t;obtain⟨x,z,d,w,a,B,D,i,g,l,q⟩:=z_;subst i;obtain rfl:u=Value.ref a:=w;refine K7 d g c e l ?_;exact PySem.W.callWith_K0 (first:=[.ref a]) d.kIn e.kp (j0U (us:=[.ref a]) (vs:=[.ref a]) F r j n v d (.cons rfl .nil) q)
structure Mk(K:Frg)(C f:Addr):Prop where
 makes:PySem.W.makesIn K C=true
 init:PySem.W.findIn K (.ref C) "__init__"= some (some (.ref f))
 fn:PySem.W.isFn K (.ref f)=true
 kp:PySem.W.keepIn K (.ref C)=true
def j4o{c:St}{H:Hp}(M:Mk X.K C f)(F:FnOk X.prog X.w X.K X.mg X.base CX k f fd ps sp)(p:Room (k+1) X.A)(m:Binds X.K fd ps ds)(n:Vals dvs ds)
  (q:Passes CX X E) (I:Inv X pins c H s) (r:Vals vs us)
  (h:∀x dx,H x=none->H dx=none->dx≠x->sp (.ref x::(vs++dvs)) (upd (upd H dx (.own x)) x (.ins C dx [])) (λv H2=>v = .non/\Q (.ref x) H2) E) :
  wpAny (model X.prog X.w) X.A (call (.ref C) us) (EP X pins c Q) X.xe s:=by
 have d:=h (s.heap.objs.size+1) s.heap.objs.size (I.hok.fresh (Nat.le_succ _)) (I.hok.fresh (vb _)) (vE (Nat.lt_succ_self _));have b:=Inv.made (C:=C) I;have g:Vals (V.ref (s.heap.objs.size+1)::(vs++dvs)) (Value.ref (s.heap.objs.size+1)::(us++ds)):=.cons rfl (r.append n);have o:(Value.ref (s.heap.objs.size+1)::us++ds).length=ps.length:=by
  have e:=g.length;rw[F.len _ _ _ _ d]at e;exact e.symm
 refine wpAny_call (j3w (f:=f) I.kIn M.makes M.init (beq_iff_eq.mp M.fn) (codeAny_mono (F.run _ X.stack _ _ ⟨Value.ref (s.heap.objs.size+1)::us,[]⟩ (Value.ref (s.heap.objs.size+1)::(us++ds)) _ _ E (p.make C us [])
  (b.env0.make C us []) (m _ (Value.ref (s.heap.objs.size+1)::us) b.kIn o) g d) λr y a=>?_))
 cases r with
 | error e=>exact q pins c _ _ e y b a
 | ok fl=>
  cases fl with
  | ret u=>
   obtain⟨v,i,j,w,l,t⟩:=b.after a;subst l;exact⟨w,⟨V.ref (s.heap.objs.size+1),i,j,rfl,t⟩⟩
  | next=>exact False.elim a
  | brk=>exact False.elim a
  | cont=>exact False.elim a
def xS(M:Mk X.K C f)(F:FnOk X.prog X.w X.K X.mg X.base CX k f fd ps sp)(o:Room (k+1) X.A)(m:Gl X x)(n:X.mg x=some (.ref C))(i:Binds X.K fd ps ds)(j:Vals dvs ds)(u:Passes CX X E)
  (g:PA X (e::es) t) (b:(x==("__debug__" : Str))=false:=by decide) (l:starEach (e::es) X.env=(false,eval e X.env)::starEach es X.env:=by rfl) (c:(backTo pos (starEach es X.env)).any (·.1)=false:=by rfl) :
  PE X (.Call (.Name x p) (e::es) [] pos) (tMake C sp dvs E t):=by
 intro a s v H Q I h;refine wpAny_Call_Name_kw (xv I m n ?_ b);refine PySem.W.callWith_K (h₀:=X.base) I.ok.mod.kin M.kp (thn (g pos a s v H _ I h) λz y ⟨B,w,d,r,q⟩=>⟨d.kIn,?_⟩) l c;exact j4o M F o i j u d r q
end
section
variable{X:Cx}{CX:CXT}{k:Nat}{f C:Addr}{fd:FuncData}{ps ks:L8}{sp:Sp}{E:XK}{x m:Str}{p pos apos kpos:Pos}{e o:Expr}{es:List Expr}{kws:List Keyword}{te ta:TE}{t tk:TA}{nm:Option Str}
variable{g:L9->L9->L9}{gV:N2->N2->N2}
end
structure FnScope(N P:L8)(sc:Scope):Prop where
 kind:sc.kind = .function
 co:sc.isCoroutine=false
 gen:sc.isGenerator=false
 nd:N.Nodup
 pre:N.take P.length=P
 par:∀x∈P,sc.names.lookup x=some .local\/sc.names.lookup x=some .cell
 nofree:∀y∈sc.names,y.2≠.free
theorem Wo{b:Str->Option NameKind}:∀{a:List (Str×Value)} {m:Str->Option Value},(∀v,(x,v)∉a)->bindL b a m x=m x
 | [],_,_=>rfl
 | (n,v)::r,m,h=>by
  unfold bindL;rw[Wo λw c=>h w (vp _ c)];split
  .have:x≠n:=by rintro rfl;exact h v vq
   simp[this]
  .rfl
theorem Wm{b:Str->Option NameKind}:∀{a:List (Str×Value)} {m:Str->Option Value},(∀v,(x,v)∉a)->bindC b a m x=m x
 | [],_,_=>rfl
 | (n,v)::r,m,h=>by
  unfold bindC;rw[Wm λw c=>h w (vp _ c)];split
  .rfl
  .have:x≠n:=by rintro rfl;exact h v vq
   simp[this]
theorem Wn{a:Str->Option NameKind}:∀{P:L8} {vs:L9} {i:Nat} {m:Str->Option Value},P.Nodup->P[i]?=some x->vs[i]?=some v->a x=some .local->
  bindL a (P.zip vs) m x=some v
 | [],_,_,_,_,h,_,_=>by simp at h
 | _::_,[],_,_,_,_,h,_=>by simp at h
 | p::P,w::vs,0,m,nd,h1,h2,hk=>by
  simp at h1 h2;subst h1;subst h2;show bindL a ((p,w)::P.zip vs) m p=_;unfold bindL;rw[Wo λv b=>(um.mp nd).1 (of_mem_zip b).1,vd hk];simp
 | p::P,w::vs,i+1,m,nd,h1,h2,hk=>by
  show bindL a ((p,w)::P.zip vs) m x=_;unfold bindL;exact Wn (i:=i) (um.mp nd).2 (by simpa using h1) (by simpa using h2) hk
theorem Wl{a:Str->Option NameKind}:∀{P:L8} {vs:L9} {i:Nat} {m:Str->Option Value},P.Nodup->P[i]?=some x->vs[i]?=some v->a x≠some .local->
  bindC a (P.zip vs) m x=some v
 | [],_,_,_,_,h,_,_=>by simp at h
 | _::_,[],_,_,_,_,h,_=>by simp at h
 | p::P,w::vs,0,m,nd,h1,h2,hk=>by
  simp at h1 h2;subst h1;subst h2;show bindC a ((p,w)::P.zip vs) m p=_;unfold bindC;rw[Wm λv b=>(um.mp nd).1 (of_mem_zip b).1,vc hk];simp
 | p::P,w::vs,i+1,m,nd,h1,h2,hk=>by
  show bindC a ((p,w)::P.zip vs) m x=_;unfold bindC;exact Wl (i:=i) (um.mp nd).2 (by simpa using h1) (by simpa using h2) hk
noncomputable def start(N:L8)(vs:N2):St:=vs.map some++List.replicate (N.length-vs.length) none
noncomputable def cxOf(CX:CXT)(P:Program)(w:World)(K:Frg)(mg:Str->Option Value)(base:Heap)(N:L8)(qual:Str)(scope:Scope)(f:Addr)(cd:Value)(A:Around)(outer:List Env)(s:Shared)(H:Hp)(E:XK):Cx where
 prog:=P
 w:=w
 K:=K
 mg:=mg
 base:=base
 A:=A.deeper (envOfC qual scope s.heap.objs.size f cd)
 N:=N
 s₀:=s
 H₀:=H
 env:=envOfC qual scope s.heap.objs.size f cd
 outer:=outer
 stack:=envOfC qual scope s.heap.objs.size f cd::outer
 ex:=[]
 calm:=true
 fn:=λ_=>true
 pn:=[]
 xe:=λe s'=>wpAny (model P w) (A.deeper (envOfC qual scope s.heap.objs.size f cd)) (leaving (envOfC qual scope s.heap.objs.size f cd) e) (λ_ s''=>CX outer H s E e s'') (λe' s''=>CX outer H s E e' s'') s'
def Xn{a:Scope}{n:Nat}{x:Str}(h:a.names.lookup x=some .cell):∃c,(cellsFrom n a.names []).lookup x=some c:=by
 have q:=PySem.W.cellsFrom_some a.names n [] (.inl h);exact Option.isSome_iff_exists.mp q
def j2h{CX:CXT}{P:Program}{w:World}{K:Frg}{J:Str->Option Value}{m:Heap}{N ps:L8}{j:Str}{d:Scope}{f:Addr}{F:Value}{A:Around}{g:List Env}{s O:Shared}{H:Hp}{E:XK}{us:L9}{vs:N2}
  (S:FnScope N ps d) (R:A.handled=none) (o:Env0 P w K J m A g s H) (X:vs.length=ps.length) (r:Vals vs us)
  (x:InCallC s s.heap.objs.size (bindL (envOfC j d s.heap.objs.size f F).kindOf (ps.zip us) λ_=>none) (cellsFrom (s.heap.objs.size+1) d.names []) (bindC (envOfC j d s.heap.objs.size f F).kindOf (ps.zip us) λ_=>none) O) :
  Inv (cxOf CX P w K J m N j d f F A g s H E) [] (start N vs) H O:=by
 have T:ps.length<=N.length:=by have:=congrArg List.length S.pre;rw[vi]at this;lia
 obtain⟨G,Y,rfl,L⟩:=x.done;have B:∀b:Addr,b∉(cxOf CX P w K J m N j d f F A g s H E).ex:=λb z=>ue (show b∈([]:L7)from z) (by simp)
 refine⟨⟨o.mod,S.kind,rfl,rfl,vb _,λy z c G l=>?_,λy t=>?_,λy c _ h=>?_,λ_=>R,Around.frames_deeper o.frames,.inr ⟨rfl,rfl⟩,λb z=>ue z (B b),o.bs,o.bsz,λb _ _=>B b,λb z=>ue z (B b),o.funs,o.frf⟩,
  rfl,o.bare,Un.kept L,⟨_,x.toInCall.ns,λi y v G l W=>?_⟩,λy c h=>⟨_,x.cell y c h⟩,o.hok.fresh (vb _),λy c h=>?_,λp C=>ue (show p∈([]:List (Addr×Obj))from C) (by simp),o.hok.kept L,?_⟩
 .exact name_of_addr x.apart (PySem.mem_of_lookup G) (PySem.mem_of_lookup l)
 .have t:d.names.lookup y=some .cell\/d.names.lookup y=some .free:=t;rcases t with t | t
  .exact Xn t
  .exact ue rfl (S.nofree _ (PySem.mem_of_lookup t))
 .exact vY (x.above y c (PySem.mem_of_lookup h))
 .have I:i<vs.length:=by
   unfold start at l;by_cases I:i<vs.length
   .exact I
   .rw[vC (by simpa using I)]at l;rw[List.getElem?_replicate]at l;split at l<;>cases l
  have Q:vs[i]?=some v:=by
   unfold start at l;rw[vB (by simpa using I),vv]at l;cases e:vs[i]? with
   | none=>rw[e]at l;cases l
   | some a=>rw[e]at l;cases l;rfl
  obtain⟨u,M,U⟩:=r.get Q;have C:ps[i]?=some y:=by
   rw[<-S.pre,uo ⋯];exact G
  have D:ps.Nodup:=by rw[<-S.pre];exact S.nd.sublist (take_sublist _ _)
  refine⟨u,U,?_⟩;rcases S.par y (vm C)with k | k
  .exact .inl ⟨k,Wn D C M k⟩
  .obtain⟨c,e⟩:=Xn (n:=s.heap.objs.size+1) k;refine .inr ⟨.inl k,c,e,?_⟩;have q:=x.cell y c e;rw[Wl D C M (by show d.names.lookup y≠_;rw[k];decide)]at q;exact q
 .exact o.hok.fresh (vY (x.above y c (PySem.mem_of_lookup h)))
 .unfold start;show _=N.length;rw[vn,vt,length_replicate];lia
def j6T{CX:CXT}{P:Program}{w:World}{K:Frg}{L:Str->Option Value}{i:Heap}{k:Nat}{f:Addr}{name d:Str}{j:Arguments}{l:List Stmt}{a:Scope}{dV kV C pm g Z oc:Value}{an od:Option Addr}
  {T:Array (Option Value)} {N ps:L8} {sp:Sp} (lk:K.lookup f=some ⟨oc,od,.func (PySem.W.fnOf name d j l a dV kV C pm an g Z),T⟩) (M:PySem.W.codeIn K g d=true) (S:FnScope N ps a)
  (len:∀vs H Q E,sp vs H Q E->vs.length=ps.length)
  (p:∀(A:Around) (c:List Env) (s:Shared) (H:Hp) (vs:N2) (Q:VK) (E:XK),Room k (A.deeper (envOfC d a s.heap.objs.size f g))->sp vs H Q E->
   ∃t,PSs (cxOf CX P w K L i N d a f g A c s H E) l t/\t {nx:=λ_ H'=>Q .non H',rt:=Q} (start N vs) H) :
  FnOk P w K L i CX (k+1) f (PySem.W.fnOf name d j l a dV kV C pm an g Z) ps sp:=by
 refine⟨len,λA c s H Y us vs Q E O D hb r G=>?_⟩;have hl:=len _ _ _ _ G;have X:K.In s.heap:=D.mod.kin.keeps λb o e=>(D.bs b o e).1
 have R:s.heap.NoLimit:=D.mod.nolimit.keeps λb o e=>(D.bs b o e).1
 have z:∀y∈ps.zip us,a.names.lookup y.1=some .local\/(a.names.lookup y.1=some .cell/\((cellsFrom (s.heap.objs.size+1) a.names []).lookup y.1).isSome=true):=λ⟨n,v⟩ hy=>by
  rcases S.par n (of_mem_zip hy).1 with q | q
  .exact .inl q
  .exact .inr ⟨q,PySem.W.cellsFrom_some _ _ _ (.inl q)⟩
 refine codeAny_call_function O.depth (X _ _ lk) rfl S.co S.gen rfl (PySem.W.codeRec_of X M) (hb _ _ _ _ ?_);refine wpAny_newFunctionEnv_cells S.kind z λa0 he s1 x=>?_
 subst he;refine⟨R.keeps x.toInCall.keep,codeAny_func ?_⟩;obtain⟨t,ht,hq⟩:=p A c s H vs Q E (O.deeper _) G;have I:Inv (cxOf CX P w K L i N d a f g A c s H E) [] (start N vs) H s1:=j2h S O.hd D hl r x;refine wpAny_mono (ht [] s1 (start N vs) H _ I hq) (λfl W B=>?_) λe W B=>B
 have F:∀{m:St} {H':Hp} {v:V} {u:Value},Inv (cxOf CX P w K L i N d a f g A c s H E) [] m H' W->RelV v u->Q v H'->CE c P w H s Q u W:=
  λ{m H' v u} J U q=>⟨v,H',J.os,J.bare,J.base,J.hok,U,q⟩
 cases fl with
 | ret u=>
  obtain⟨v,m,H',J,U,q⟩:=B;exact F J U q
 | next=>
  obtain⟨m,H',J,q⟩:=B;exact F (v:=V.non) (u:=Value.none) J rfl q
 | brk=>
  obtain⟨_,_,_,q⟩:=B;exact False.elim q
 | cont=>
  obtain⟨_,_,_,q⟩:=B;exact False.elim q
section
variable{X:Cx}{x:Str}{p pos:Pos}{e:Expr}{es:List Expr}{t:TA}{id T:String}{r:N2->Hp->VK->Prop}
def tCB(r:N2->Hp->VK->Prop)(t:TA):TE:=λσ H Q=>t σ H λvs H1=>r vs H1 Q
def jC(j:CallR X (.builtin id) r)(l:Gl X x)(m:X.mg x=none)(o:bootBuiltins x=some (.builtin id))(i:PA X (e::es) t)(n:x≠"__name__":=by decide)(b:(x==("__debug__" : Str))=false:=by decide)
  (k:starEach (e::es) X.env=(false,eval e X.env)::starEach es X.env:=by rfl) (c:(backTo pos (starEach es X.env)).any (·.1)=false:=by rfl):PE X (.Call (.Name x p) (e::es) [] pos) (tCB r t):=by
 intro a s d H Q I h;refine wpAny_Call_Name_kw (Zf I l m o ?_ n b);exact PyProof.Rows.callWith_builtin1 (thn (i pos a s d H _ I h) λw v ⟨y,f,g,u,q⟩=>j a v d f y w Q g u q) k c
def Jn(j:CallR X (.type T) r)(l:Gl X x)(m:X.mg x=none)(o:bootBuiltins x=some (.type T))(i:PA X (e::es) t)(n:x≠"__name__":=by decide)(b:(x==("__debug__" : Str))=false:=by decide)
  (k:starEach (e::es) X.env=(false,eval e X.env)::starEach es X.env:=by rfl) (c:(backTo pos (starEach es X.env)).any (·.1)=false:=by rfl):PE X (.Call (.Name x p) (e::es) [] pos) (tCB r t):=by
 intro a s d H Q I h;refine wpAny_Call_Name_kw (Zf I l m o ?_ n b);exact PyProof.Rows.callWith_type1 (thn (i pos a s d H _ I h) λw v ⟨y,f,g,u,q⟩=>j a v d f y w Q g u q) k c
end
end L2
namespace HT
open PySem PyProof.Rows
section
open PySem.SeqAt
open PySem.AutoSeq1 (wpAny_loadPart')
open PySem.MeetsSeq PySem.MeetsSeq2 PySem.MeetsSeq3
end
section
variable{prog:Program}{w:World}{A:Around}{E:Value->Shared->Prop}{s:Shared}
def j4U{t b:Addr}{vs a:L9}{Q:Value->Shared->Prop}(z:IsTup s.heap t vs.toArray)(y:IsTup s.heap b a.toArray)(q:vs≠[])
  (v:a=[]->Q (.ref t) s) (x:a≠[]->Q (.ref s.heap.objs.size) {s with heap:=s.heap.push {cls:=.type "tuple",data:=.seq (vs++a).toArray}})
  (hsz:vs.length+a.length<=sizeLine):wpAny (model prog w) A (binaryOp .Add (.ref t) (.ref b)) Q E s:=by
 obtain⟨⟨cls,m,data,u⟩,i,o,n,p⟩:=id z;obtain⟨⟨l,d,k,h⟩,c,f,r,g⟩:=id y;simp only at o p f g;subst o p f g;have e:vs.toArray++a.toArray=(vs++a).toArray:=by simp
 by_cases j:a=[]
 .exact concat_meets ⟨_,i,rfl⟩ ⟨_,c,rfl⟩ noFill_tuple_add seq_tuple_add PySem.F.slot_tuple_add PySem.F.entry_tuple_add (PySem.F.args_tuple_add_2 _ _)
   (tuple_addW1 t b vs.toArray a.toArray n r m d u h (by simpa using q) (by simp[j])) ⟨i,c,v j⟩
 .refine concat_meets ⟨_,i,rfl⟩ ⟨_,c,rfl⟩ noFill_tuple_add seq_tuple_add PySem.F.slot_tuple_add PySem.F.entry_tuple_add (PySem.F.args_tuple_add_2 _ _)
   (tuple_addW2 t b vs.toArray a.toArray n r m d u h (by simpa using q) (by simpa using j) (by rw[size_toArray,size_toArray];exact hsz)) ⟨i,c,?_⟩
  rw[e];exact x j
noncomputable def sIx(n d:Nat):Option Int->Nat
 | none=>d
 | some v=>if v<0 then(v+(n:Int)).toNat else min v.toNat n
def j6I(n d:Nat)(b:d<=n)(o:Option Int):sIx n d o<=n:=by
 cases o with
 | none=>exact b
 | some v=>
  show(if v<0 then(v+(n:Int)).toNat else min v.toNat n)<=n;by_cases a:v<0
  .rw[vd a];lia
  .rw[vc a];exact Nat.min_le_right _ _
def j1a(v:Int)(n d:Nat):(if v<0 then max (v+(n:Int)) 0 else min v (n:Int))=((sIx n d (some v):Nat):Int):=by
 show(if v<0 then max (v+(n:Int)) 0 else min v (n:Int))=(((if v<0 then(v+(n:Int)).toNat else min v.toNat n):Nat):Int)
 by_cases a:v<0
 .simp only[if_pos a];lia
 .simp only[if_neg a];lia
def j09(lo hi:Option Int)(n:Nat):Builtin.Slice.sliceAdjust lo hi 1 (n:Int)=(((sIx n 0 lo:Nat):Int),((sIx n n hi:Nat):Int)):=by
 have a:¬((1:Int)<0):=⋯
 unfold Builtin.Slice.sliceAdjust;simp only[a,if_false];refine Prod.ext ?_ ?_
 .cases lo with
  | none=>rfl
  | some v=>exact j1a v n 0
 .cases hi with
  | none=>rfl
  | some v=>exact j1a v n n
def j0R(i j:Nat):Builtin.Slice.slicePlaces (i:Int) (j:Int) 1=j-i:=by
 unfold Builtin.Slice.slicePlaces;have a:(1:Int)>0:=⋯
 simp only[a,if_true,Int.ediv_one];split<;>lia
def slicePart_{Q:Option Int->Shared->Prop}(p:IsPart v o)(h:Q o s):wpAny (model prog w) A (Builtin.Slice.slicePartIndex v) Q E s:=by
 cases p with
 | none=>exact slicePart_none h
 | int i t=>exact slicePart_int h
def kQ{e:Addr}{c d:Value}{lo hi:Option Int}{n:Nat}{Q:Int×Int×Nat->Shared->Prop}(g:s.heap.IsSliceOf e c d .none)(pl:IsPart c lo)(i:IsPart d hi)
  (h:Q (((sIx n 0 lo:Nat):Int),1,sIx n n hi-sIx n 0 lo) s):wpAny (model prog w) A (Builtin.Slice.sliceApplied (.ref e) (pure (n:Int))) Q E s:=by
 obtain⟨j,b,f,a⟩:=id g;unfold Builtin.Slice.sliceApplied Builtin.Slice.sliceFields;refine ug (ug (wpAny_field b a (x:=c) rfl (ug (wpAny_field b a (x:=d) rfl (ug (wpAny_field b a (x:=.none) rfl (uf ?_)))))));refine ug (slicePart_none ?_);show wpAny _ _ (if((1:Int)==0)=true then _ else _) _ _ s;rw[vc nofun];refine ug (slicePart_ pl (ug (slicePart_ i (ug (uf ?_)))));show wpAny _ _ (match Builtin.Slice.sliceAdjust lo hi 1 (n:Int)with | (lo,hi)=>pure (lo,(1:Int),Builtin.Slice.slicePlaces lo hi 1)) _ _ s;rw[j09 lo hi n];show wpAny _ _ (pure (((sIx n 0 lo:Nat):Int),(1:Int),Builtin.Slice.slicePlaces ((sIx n 0 lo:Nat):Int) ((sIx n n hi:Nat):Int) 1)) _ _ s;rw[j0R];exact uf h
def j46(xs:Array Value)(i k:Nat):((List.range k).filterMap λ(m:Nat)=>xs[((i:Int)+(m:Int)*1).toNat]?).toArray=((xs.toList.drop i).take k).toArray:=by
 have e:(λ(m:Nat)=>xs[((i:Int)+(m:Int)*1).toNat]?)=λm=>xs[i+m]?:=by
  funext m;have:((i:Int)+(m:Int)*1).toNat=i+m:=⋯
  rw[this]
 rw[e];have:=pick_run xs i k;rw[List.filterMap_map]at this;have a:((λx=>xs[x]?)∘λx=>i+x)=λm=>xs[i+m]?:=rfl
 rw[a]at this;rw[this]
def YB{t g:Addr}{items:Array Value}{j k:Value}{lo hi:Option Int}{Q:Value->Shared->Prop}(b:IsTup s.heap t items)(i:s.heap.IsSliceOf g j k .none)(pl:IsPart j lo)(o:IsPart k hi)
  (hw:¬(sIx items.size 0 lo=0/\sIx items.size items.size hi=items.size))
  (h:Q (.ref s.heap.objs.size) {s with heap:=s.heap.push {cls:=.type "tuple",data:=.seq ((items.toList.drop (sIx items.size 0 lo)).take (sIx items.size items.size hi-sIx items.size 0 lo)).toArray}})
  (hsz:items.size<=sizeLine):wpAny (model prog w) A (getItem (.ref t) (.ref g)) Q E s:=by
 have a:sizeOk (.seq ((items.toList.drop (sIx items.size 0 lo)).take (sIx items.size items.size hi-sIx items.size 0 lo)).toArray):=by
  show((items.toList.drop (sIx items.size 0 lo)).take (sIx items.size items.size hi-sIx items.size 0 lo)).toArray.size<=sizeLine;rw[size_toArray,vi,List.length_drop,Array.length_toList];lia
 have p:sIx items.size items.size hi<=items.size:=j6I _ _ (vb _) hi;obtain⟨n,f,d,l⟩:=id i;have c:s.TypeIs (.ref g) "slice":=⟨n,f,d⟩
 unfold getItem
 try with_reducible refine wpAny_holding ?_
 first | refine ug (uf ?_) | skip
 refine ug (wpAny_sequenceKey b.typeIs nofun ?_);refine ug (wpAny_callSpecial?_slot (name:=Str.ofString "__getitem__") b.typeIs PyProof.Rows.slot_tuple_getitem
  (wpAny_call_entry PyProof.Rows.slot_tuple_getitem b.typeIs entry_tuple_getitem ?_ (args_tuple_getitem _ _)))
 show wpAny _ _ (Builtin.Tuple.tupleItemsOf (.ref t) >>= _) _ _ s;refine ug (tupleItemsOf_ b ?_);refine ug (wpAny_typeOf c ?_);rw[vd nofun];refine ug (kQ i pl o ?_);have e:¬((((sIx items.size 0 lo:Nat):Int)==0&&(1:Int)==1&&(sIx items.size items.size hi-sIx items.size 0 lo)==items.size)=true):=by
  intro q;rw[Bool.and_eq_true,Bool.and_eq_true]at q;have r:((sIx items.size 0 lo:Nat):Int)=0:=eq_of_beq q.1.1;have u:sIx items.size items.size hi-sIx items.size 0 lo=items.size:=eq_of_beq q.2;exact hw ⟨⋯,⋯⟩
 show wpAny _ _ (if(((sIx items.size 0 lo:Nat):Int)==0&&(1:Int)==1&&(sIx items.size items.size hi-sIx items.size 0 lo)==items.size)=true then _ else _) _ _ s;rw[vc e,j46]
 first
  | exact ug (m:=Builtin.Tuple.tupleExact _) (wpAny_newObj_type (uf ⟨_,rfl,uf h⟩) a)
  | exact ug (m:=Builtin.Tuple.tupleExact _) (wpAny_newObj_type (ug (uf (uf ⟨_,rfl,uf h⟩))) a)
  | exact ug (ug (m:=Builtin.Tuple.tupleExact _) (wpAny_newObj_type (uf (uf ⟨_,rfl,uf h⟩)) a))
  | exact ug (ug (m:=Builtin.Tuple.tupleExact _) (wpAny_newObj_type (uf ⟨_,rfl,uf h⟩) a))
end
end HT
namespace L2
open PySem PySem.Spec PyProof.Rows
noncomputable abbrev TO:=St->Hp->(Option Int->Hp->Prop)->Prop
def PO(X:Cx)(e:Option Expr)(t:TO):Prop:=
 ∀(pins:List (Addr×Obj)) (s:Shared) (σ:St) (H:Hp) (Q:Option Int->Hp->Prop),Inv X pins σ H s->t σ H Q->
  wpAny (model X.prog X.w) X.A (evalPart e X.env) (λu s'=>∃o H',Inv X pins σ H' s'/\IsPart u o/\Q o H') X.xe s
def tNoPart:TO:=λ_ H Q=>Q none H
def tPart(t:TE):TO:=λσ H Q=>t σ H λx H1=>∃i,x = .int i/\Q (some i) H1
def intsAre_of:∀{us:L9},Vals (ns.map V.int) us->IntsAre us ns:=by
 induction ns with
 | nil=>intro us r;rw[map_nil]at r;cases r;exact .nil
 | cons n ns ih=>
  intro us r;rw[uy]at r;cases r with
  | cons r1 r2=>
   obtain⟨t,e⟩:=r1;subst e;exact .cons n t (ih r2)
section
variable{X:Cx}{e:Expr}{te:TE}{lo hi:Option Expr}{tl th:TO}{pos p2:Pos}
def yS:PO X none tNoPart:=by
 intro a s b H Q I h;rw[evalPart_none];exact uf ⟨none,H,I,.none,h⟩
def zU(h:PE X e te):PO X (some e) (tPart te):=by
 intro a s j H Q I d;rw[evalPart_some];refine thn (h a s j H _ I d) λu k z_=>?_;obtain⟨x,b,c,g,f⟩:=z_
 obtain⟨i,rfl,q⟩:=f;obtain⟨t,rfl⟩:=g;exact⟨some i,b,c,.int i t,q⟩
def SlR(X:Cx)(r:V->Option Int->Option Int->Hp->VK->Prop):Prop:=
 ∀(pins:List (Addr×Obj)) (s:Shared) (σ:St) (H:Hp) (x:V) (v vl vu:Value) (lo hi:Option Int) (sl:Addr) (Q:VK),Inv X pins σ H s->RelV x v->s.heap.IsSliceOf sl vl vu .none->IsPart vl lo->IsPart vu hi->r x lo hi H Q->
  ∃T id,typeLookup (.type T) "__getitem__"= pure (some (.builtin id))/\s.TypeIs v T/\wpAny (model X.prog X.w) X.A (getItem v (.ref sl)) (EP X pins σ Q) X.xe s
def tSl(r:V->Option Int->Option Int->Hp->VK->Prop)(te:TE)(tl th:TO):TE:=λσ H Q=>te σ H λx H1=>tl σ H1 λl H2=>th σ H2 λu H3=>r x l u H3 Q
def Zv{r:V->Option Int->Option Int->Hp->VK->Prop}(A:SlR X r)(w:PE X e te)(z:PO X lo tl)(C:PO X hi th):PE X (.Subscript e (.Slice lo hi none p2) pos) (tSl r te tl th):=by
 intro a s d H Q I h;refine Subscript_ (thn (w a s d H _ I h) λv L z_=>?_);obtain⟨x,j,m,K,F⟩:=z_;refine wpAny_Slice (thn (z a L d j _ m F) λf M ⟨l,k,n,D,G⟩=>thn (C a M d k _ n G) λg c ⟨u,i,o,E,J⟩=>?_);rw[evalPart_none];refine uf ?_;have p:Inv X a d i {c with heap:=c.heap.push {cls:=.type "slice",data:=.fields #[f,g,.none]}}:=o.kept (t':=c.toks) λb O q=>vJ _ q
 obtain⟨T,N,t,B,y⟩:=A a {c with heap:=c.heap.push {cls:=.type "slice",data:=.fields #[f,g,.none]}} d i x v f g l u c.heap.objs.size Q p K (Heap.IsSliceOf.new ..) D E J;show wpAny (model X.prog X.w) X.A (subscriptTail e (.Slice lo hi none p2) v (.ref c.heap.objs.size)) (EP X a d Q) X.xe {c with heap:=c.heap.push {cls:=.type "slice",data:=.fields #[f,g,.none]}};exact tail_any (ops:=[.ref c.heap.objs.size,v]) B t y (by with_unfolding_all rfl)
noncomputable def cutV(xs:N2)(lo hi:Option Int):N2:=(xs.drop (HT.sIx xs.length 0 lo)).take (HT.sIx xs.length xs.length hi-HT.sIx xs.length 0 lo)
def zO(xs:N2)(lo hi:Option Int):(cutV xs lo hi).length<=xs.length:=by
 unfold cutV;rw[vi,List.length_drop];lia
noncomputable def rSlT(K:Frg):V->Option Int->Option Int->Hp->VK->Prop:=λx lo hi H Q=>∃a xs,x = .ref a/\SqT K H a xs/\
 ¬(HT.sIx xs.length 0 lo=0/\HT.sIx xs.length xs.length hi=xs.length)/\∀p,H p=none->Q (.ref p) (upd H p (.tup (cutV xs lo hi)))
def j4u:SlR X (rSlT X.K):=by
 intro k s B H x v z A e f y Q I u l p t h;obtain⟨a,d,rfl,n,m,q⟩:=h;cases u;obtain⟨g,r,i,j⟩:=I.tuple n;have c:g.toArray.size=d.length:=by rw[size_toArray];exact r.length.symm
 refine⟨"tuple",_,PyProof.Rows.slot_tuple_getitem.lookup,i.typeIs,?_⟩;refine HT.YB i l p t (by rw[c];exact m) ?_ (by rw[c];exact j);rw[c];refine⟨.ref s.heap.objs.size,_,I.laid (t':=s.toks) (o:=.tup (cutV d e f)) (λb w q=>vJ _ q) (vb _) ?_,rfl,q _ (I.hok.fresh (vb _))⟩;exact⟨vW (zO d e f) j,_,(r.drop (HT.sIx d.length 0 e)).take (HT.sIx d.length d.length f-HT.sIx d.length 0 e),IsTup.new _ _⟩
def rCatT(K:Frg):R2:=λx y H Q=>∃a b xs ys,x = .ref a/\y = .ref b/\SqT K H a xs/\SqT K H b ys/\xs≠[]/\xs.length+ys.length<=sizeLine/\
 (ys=[]->Q (.ref a) H)/\(ys≠[]->∀p,H p=none->Q (.ref p) (upd H p (.tup (xs++ys))))
def Vals.nil_iff{xs:N2}{us:L9}(r:Vals xs us):us=[]↔xs=[]:=by
 cases r with
 | nil=>simp
 | cons _ _=>simp
def j5k:OpR X (binaryOp .Add) (rCatT X.K):=by
 intro g s E H x y v u Q I t A h;obtain⟨a,b,B,C,rfl,rfl,i,j,k,e,p,r⟩:=h;cases t;cases A;obtain⟨l,d,m,_⟩:=I.tuple i;obtain⟨f,c,n,_⟩:=I.tuple j;refine HT.j4U m n (λz=>k (d.nil_iff.mp z)) (λz=>⟨.ref a,H,I,rfl,p (c.nil_iff.mp z)⟩) (λz=>?_) (by rw[<-d.length,<-c.length];exact e);refine⟨.ref s.heap.objs.size,_,I.laid (t':=s.toks) (o:=.tup (B++C)) (λb D q=>vJ _ q) (vb _) ?_,rfl,r (λw=>z (c.nil_iff.mpr w)) _ (I.hok.fresh (vb _))⟩;exact⟨by rw[vn];exact e,_,d.append c,IsTup.new _ _⟩
end
noncomputable def ixN(n:Nat)(i:Int):Option Nat:=if 0<=i then(if i<n then some i.toNat else none)else if -(n:Int)<=i then some (i+n).toNat else none
noncomputable def atI{α:Type}(xs:List α)(i:Int):Option α:=(ixN xs.length i).bind λj=>xs[j]?
def j1q(h:ixN n i=some j):seqIndex? i n=some j/\j<n/\-(n:Int)<=i/\i<n:=by
 unfold ixN at h;by_cases b:0<=i
 .rw[vd b]at h;by_cases a:i<n
  .rw[vd a]at h;have e:i.toNat=j:=vL h;exact⟨by rw[seqIndex_of b a,e],⋯,⋯,a⟩
  .rw[vc a]at h;cases h
 .rw[vc b]at h;by_cases a : -(n:Int)<=i
  .rw[vd a]at h;have e:(i+n).toNat=j:=vL h;exact⟨by rw[seqIndex_neg ⋯ a,e],⋯,a,⋯⟩
  .rw[vc a]at h;cases h
def W3{a:Type}{xs:List a}{i:Int}{v:a}(h:atI xs i=some v):∃j,seqIndex? i xs.length=some j/\xs[j]?=some v/\j<xs.length/\-(xs.length:Int)<=i/\i<xs.length:=by
 unfold atI at h;cases e:ixN xs.length i with
 | none=>rw[e]at h;cases h
 | some j=>
  rw[e]at h;obtain⟨b,c,d,f⟩:=j1q e;exact⟨j,b,h,c,d,f⟩
def jN{a:Type}{xs:List a}{j:Nat}{v:a}(h:xs[j]?=some v):atI xs (j:Int)=some v:=by
 have b:j<xs.length:=(vx.mp h).1;have e:ixN xs.length (j:Int)=some j:=by
  unfold ixN;rw[vd ⋯,vd ⋯];simp
 unfold atI;rw[e];exact h
def j30{a:Type}(xs:List a)(v:a):atI (xs++[v]) (-1)=some v:=by
 have b:(xs++[v]).length=xs.length+1:=by simp
 have e:ixN (xs++[v]).length (-1)=some xs.length:=by
  unfold ixN;rw[b,vc nofun,vd ⋯];congr 1;lia
 unfold atI;rw[e];show(xs++[v])[xs.length]?=some v;simp
def PlainIx(b:Expr):Prop:=∀o i,subscripted b false o i=operate [o,i] (getItem o i)
def IxR(X:Cx)(r:R2):Prop:=
 ∀(value slice:Expr) (pins:List (Addr×Obj)) (s:Shared) (σ:St) (H:Hp) (x y:V) (v u:Value) (Q:VK),Inv X pins σ H s->RelV x v->RelV y u->r x y H Q->
  subscripted slice false v u=operate [v,u] (getItem v u)->wpAny (model X.prog X.w) X.A (subscriptTail value slice v u) (EP X pins σ Q) X.xe s
def MtR(X:Cx)(id:String)(r:V->N2->Hp->VK->Prop):Prop:=
 ∀(pins:List (Addr×Obj)) (s:Shared) (σ:St) (H:Hp) (x:V) (xs:N2) (v:Value) (us:L9) (Q:VK),Inv X pins σ H s->RelV x v->Vals xs us->r x xs H Q->
  wpAny (model X.prog X.w) X.A (call (.builtin id) (v::us)) (EP X pins σ Q) X.xe s
section
variable{X:Cx}{a b:Expr}{ta tb:TE}{pos:Pos}
def jk(i:IxR X r)(f:PE X a ta)(g:PE X b tb)(j:PlainIx b:=by exact λ_ _=>rfl):PE X (.Subscript a b pos) (tOp r ta tb):=by
 intro c s n H Q I h;exact Subscript_ (binT f g I h λv u m x y d e k l q=>i a b c m n d x y v u Q e k l q (j _ _))
def rIxL(K:Frg):R2:=λx y H Q=>∃p xs i v,x = .ref p/\y = .int i/\SqL K H p xs/\atI xs i=some v/\Q v H
def rIxT(K:Frg):R2:=λx y H Q=>∃p xs i v,x = .ref p/\y = .int i/\SqT K H p xs/\atI xs i=some v/\Q v H
def rIxS:R2:=λx y H Q=>∃z i c,x = .str z/\y = .int i/\z.length<=sizeLine/\atI z.cps.toList i=some c/\Q (.str ⟨#[c]⟩) H
def jv:IxR X (rIxL X.K):=by
 intro l k a s A H x y v u Q I J K h o;obtain⟨p,P,i,z,rfl,rfl,G,E,q⟩:=h;cases J;obtain⟨t,rfl⟩:=K;obtain⟨e,r,f,O⟩:=I.list G;obtain⟨j,c,B,M,C,D⟩:=W3 E;obtain⟨w,m,g⟩:=r.get B;have F:=r.length;have N:=line63;have b:EP X a A Q w s:=⟨z,H,I,g,q⟩
 by_cases n:0<=i
 .have d:i.toNat=j:=by
   rw[seqIndex_of n D]at c;exact vL c
  exact item_listR f.isList n ⋯ (by rw[d];simpa using m) b o
 .have d:(i+(e.toArray.size:Int)).toNat=j:=by
   rw[seqIndex_neg ⋯ C]at c;rw[size_toArray,<-F];exact vL c
  exact subscriptTail_builtinR (x:=w) f.isList.typeIs slot_list_getitem.lookup
   (wpAny_getItem_list_neg (Q:=λr L=>r=w/\EP X a A Q r L) f.isList ⋯ (by rw[size_toArray]<;>lia) ⋯ (by rw[d];simpa using m) ⟨rfl,b⟩) o
def jr:IxR X (rIxT X.K):=by
 intro e d a s g H x y v u Q I D E h B;obtain⟨p,N,i,z,rfl,rfl,A,n,q⟩:=h;cases D;obtain⟨t,rfl⟩:=E;obtain⟨C,r,f,M⟩:=I.tuple A;obtain⟨j,l,m,G,J,K⟩:=W3 n;obtain⟨w,k,c⟩:=r.get m;have o:=r.length;have L:=line63;have b:EP X a g Q w s:=⟨z,H,I,c,q⟩
 exact subscriptTail_builtinR (x:=w) f.typeIs slot_tuple_getitem.lookup
  (getItem_tuple (j:=j) (Q:=λr F=>r=w/\EP X a g Q r F) f ⋯ ⋯ (by rw[size_toArray,<-o];exact l) (by simpa using k) ⟨rfl,b⟩) B
def xr:IxR X rIxS:=by
 intro b a e s E H x y v u Q I r w h p;obtain⟨z,i,c,rfl,rfl,C,n,q⟩:=h;obtain⟨t,rfl⟩:=r;obtain⟨D,rfl⟩:=w;obtain⟨j,d,k,A,l,m⟩:=W3 n;have o:z.cps.toList.length=z.length:=by simp[Str.length]
 rw[o]at d l m;have B:=line63;exact tail_any (typeIs_str s z t) slot_str_getitem.lookup (getItem_str (c:=c) (by
  have f:decide (i < -(2^63:Int))=false:=vH ⋯;have g:decide (i>=2^63)=false:=vH ⋯;rw[f,g,Bool.or_false]) (by rw[d];simpa using k) ⟨.str ⟨#[c]⟩,H,I.tok _,⟨_,rfl⟩,q⟩) p
def j0z(a:L9)(n j:Nat)(u:Value):Obj.mapSeq (·.setIfInBounds j u) {cls:=.type "list",data:=.seq a.toArray n}={cls:=.type "list",data:=.seq (a.set j u).toArray n}:=by
 simp[Obj.mapSeq]
def Inv.lst{b:St}{H:Hp}(I:Inv X pins b H s)(h:H p=some (.lst xs)) :
  ∃(a:L9) (n:Nat),Vals xs a/\s.heap.get? p=some {cls:=.type "list",data:=.seq a.toArray n}/\xs.length<=sizeLine:=by
 obtain⟨z,a,n,r,e⟩:=I.hok p _ h;exact⟨a,n,r,e,z⟩
def Inv.lstUpd{a:List (Addr×Obj)}{i:St}{H:Hp}{s:Shared}{p:Addr}{xs ys:N2}{c its':L9}{n d:Nat}{f:Obj->Obj}(I:Inv X a i H s)(h:H p=some (.lst xs))
  (k:s.heap.get? p=some {cls:=.type "list",data:=.seq c.toArray n}) (g:f {cls:=.type "list",data:=.seq c.toArray n}={cls:=.type "list",data:=.seq its'.toArray d}) (r:Vals ys its') (hz:ys.length<=sizeLine) (t:Nat) :
  Inv X a i (upd H p (.lst ys)) {s with heap:=s.heap.update p f,toks:=t}:=by
 have e:(s.heap.update p f).get? p=some {cls:=.type "list",data:=.seq its'.toArray d}:=by
  rw[Heap.get?_update_self f k (by rw[g]<;>rfl),g]
 refine I.write (x:=p) (e:=p) (by rw[h];trivial) (.inl rfl) (λb u j q=>(Heap.get?_update_other _ _ (Ne.symm j)).trans q) ⟨_,e⟩ ?_;exact⟨hz,its',d,r,e⟩
noncomputable def rSetL:V->V->V->Hp->(Hp->Prop)->Prop:=λo i v H Q=>∃p xs k j,o = .ref p/\i = .int k/\H p=some (.lst xs)/\ixN xs.length k=some j/\Q (upd H p (.lst (xs.set j v)))
def set_list:PSet X rSetL:=by
 intro b s E H o i v ov J u Q I B A C h;obtain⟨p,D,k,j,rfl,rfl,x,y,q⟩:=h;cases B;obtain⟨t,rfl⟩:=A;obtain⟨a,n,r,f,z⟩:=I.lst x;obtain⟨c,F,m,w⟩:=j1q y;have e:=r.length;have G:=line63;have g:Inv X b E (upd H p (.lst (D.set j v))) {s with heap:=s.heap.update p (Obj.mapSeq (·.setIfInBounds j u))}:=
  I.lstUpd x f (j0z a n j u) (r.set C j) (by rw[length_set];exact z) s.toks
 by_cases l:0<=k
 .have d:k.toNat=j:=by
   rw[seqIndex_of l w]at c;exact vL c
  exact PySem.W.ki_setAt f l ⋯ (by rw[size_toArray,<-e];exact w) (by rw[d];exact⟨_,g,q⟩)
 .have d:(k+(a.toArray.size:Int)).toNat=j:=by
   rw[seqIndex_neg ⋯ m]at c;rw[size_toArray,<-e];exact vL c
  exact PySem.W.ki_setBack f ⋯ (by rw[size_toArray,<-e];exact m) ⋯ (by rw[d];exact⟨_,g,q⟩)
def Xc(lo hi:Option Int)(n:Nat):(sliceBounds lo hi none n).1=((HT.sIx n 0 lo:Nat):Int)/\(sliceBounds lo hi none n).2.1=((HT.sIx n n hi:Nat):Int)/\(sliceBounds lo hi none n).2.2=1:=by
 refine⟨?_,?_,rfl⟩
 .cases lo with
  | none=>simp[sliceBounds,HT.sIx]
  | some i=>
   simp only[sliceBounds,HT.sIx,Option.getD_none,show(1:Int)>0 by decide,if_true];by_cases h:i<0
   .simp only[h,if_true]<;>lia
   .simp only[h,if_false]<;>lia
 .cases hi with
  | none=>simp[sliceBounds,HT.sIx]
  | some i=>
   simp only[sliceBounds,HT.sIx,Option.getD_none,show(1:Int)>0 by decide,if_true];by_cases h:i<0
   .simp only[h,if_true]<;>lia
   .simp only[h,if_false]<;>lia
def Wc(a:L9)(lo hi:Option Int):slicePick a.toArray lo hi none=((a.drop (HT.sIx a.length 0 lo)).take (HT.sIx a.length a.length hi-HT.sIx a.length 0 lo)).toArray:=by
 obtain⟨b,c,d⟩:=Xc lo hi a.toArray.size;unfold slicePick;rw[b,c,d];simp only[sliceRange_one,pick_run,size_toArray]<;>rfl
noncomputable def rSlL(K:Frg):V->Option Int->Option Int->Hp->VK->Prop:=λx lo hi H Q=>∃a xs,x = .ref a/\SqL K H a xs/\∀p,H p=none->Q (.ref p) (upd H p (.lst (cutV xs lo hi)))
def j1R:SlR X (rSlL X.K):=by
 intro i s A H x v y z e f w Q I t j n p h;obtain⟨a,c,rfl,k,q⟩:=h;cases t;obtain⟨m,r,g,l⟩:=I.list k;have d:=r.length;refine⟨"list",_,slot_list_getitem.lookup,g.isList.typeIs,?_⟩;refine wpAny_getItem_list_slice g.isList j n p .none (by simp) ?_ (by rw[size_toArray]<;>lia);rw[Wc,<-d];refine⟨.ref s.heap.objs.size,_,I.laid (t':=s.toks) (o:=.lst (cutV c e f)) (λb u q=>vJ _ q) (vb _) ?_,rfl,q _ (I.hok.fresh (vb _))⟩;exact⟨vW (zO c e f) l,_,0,(r.drop (HT.sIx c.length 0 e)).take (HT.sIx c.length c.length f-HT.sIx c.length 0 e),Heap.get?_push_size _ rfl⟩
noncomputable def flatV:V->Bool
 | .non=>true
 | .bl _=>true
 | .int _=>true
 | .str _=>true
 | _=>false
noncomputable def eqV:V->V->Bool
 | .non,.non=>true
 | .bl a,.bl b=>a==b
 | .bl a,.int b=>(if a then 1 else 0)==b
 | .int a,.bl b=>a==(if b then 1 else 0)
 | .int a,.int b=>a==b
 | .str a,.str b=>a==b
 | _,_=>false
def j6c(f:RelV y u)(c:RelV x v)(g:flatV y=true)(e:flatV x=true):SeqAt.EqAt A s u v (eqV y x):=by
 cases y with
 | non=>
  cases f;cases x with
  | non=>cases c;exact SeqAt.EqAt.same _
  | bl b=>cases c;exact SeqAt.EqAt.none_bool b
  | int b=>obtain⟨t,rfl⟩:=c;exact SeqAt.EqAt.none_int b t
  | str b=>obtain⟨t,rfl⟩:=c;exact SeqAt.EqAt.none_str b t
  | _=>exact ue (show false=true from e) vF
 | bl a=>
  cases f;cases x with
  | non=>cases c;exact SeqAt.EqAt.bool_none a
  | bl b=>cases c;exact SeqAt.EqAt.bool_bool a b
  | int b=>obtain⟨t,rfl⟩:=c;exact SeqAt.EqAt.bool_int a b t
  | str b=>obtain⟨t,rfl⟩:=c;exact SeqAt.EqAt.bool_str a b t
  | _=>exact ue (show false=true from e) vF
 | int a=>
  obtain⟨d,rfl⟩:=f;cases x with
  | non=>cases c;exact SeqAt.EqAt.int_none a d
  | bl b=>cases c;exact SeqAt.EqAt.int_bool a d b
  | int b=>obtain⟨t,rfl⟩:=c;exact SeqAt.EqAt.int_int a d b t
  | str b=>obtain⟨t,rfl⟩:=c;exact SeqAt.EqAt.int_str a d b t
  | _=>exact ue (show false=true from e) vF
 | str a=>
  obtain⟨d,rfl⟩:=f;cases x with
  | non=>cases c;exact SeqAt.EqAt.str_none a d
  | bl b=>cases c;exact SeqAt.EqAt.str_bool a d b
  | int b=>obtain⟨t,rfl⟩:=c;exact SeqAt.EqAt.str_int a d b t
  | str b=>obtain⟨t,rfl⟩:=c;exact SeqAt.EqAt.str_str a d b t
  | _=>exact ue (show false=true from e) vF
 | _=>exact ue (show false=true from g) vF
noncomputable def eqU(x:V)(u:Value):Bool:=match u with
 | .none=>eqV .non x
 | .bool b=>eqV (.bl b) x
 | .int i _=>eqV (.int i) x
 | .str z _=>eqV (.str z) x
 | _=>false
def xj(r:RelV y u)(f:flatV y=true):eqU x u=eqV y x:=by
 cases y with
 | non=>cases r;rfl
 | bl b=>cases r;rfl
 | int i=>obtain⟨t,rfl⟩:=r;rfl
 | str z=>obtain⟨t,rfl⟩:=r;rfl
 | _=>exact ue (show false=true from f) vF
theorem Yr:∀{xs:N2} {us:L9},Vals xs us->xs.all flatV=true->us.any (eqU x)=xs.any λy=>eqV y x
 | _,_,.nil,_=>rfl
 | y::xs,u::us,.cons r t,f=>by
  rw[all_cons,Bool.and_eq_true]at f;rw[any_cons,any_cons,xj r f.1,Yr t f.2]
theorem Zt(c:RelV x v)(b:flatV x=true):∀{xs:N2} {us:L9},Vals xs us->xs.all flatV=true->∀u∈us,SeqAt.EqAt A s u v (eqU x u)
 | _,_,.nil,_=>λu a=>by cases a
 | y::xs,u::us,.cons r t,f=>λd a=>by
  rw[all_cons,Bool.and_eq_true]at f;rcases mem_cons.mp a with rfl | a
  .rw[xj r f.1];exact j6c r c f.1 b
  .exact Zt c b t f.2 d a
noncomputable def inV(x:V)(xs:N2):Bool:=xs.any λy=>eqV y x
def rIn(K:Frg)(neg:Bool):R2:=λx y H Q=>∃p xs,y = .ref p/\(SqL K H p xs\/SqT K H p xs)/\flatV x=true/\xs.all flatV=true/\Q (.bl (if neg then !inV x xs else inV x xs)) H
def kK:OpR X (compareOp .In) (rIn X.K false):=by
 intro g s m H x y v u Q I i k h;obtain⟨p,l,rfl,b,f,c,q⟩:=h;cases k;rcases b with b | b
 .obtain⟨a,r,e,j⟩:=I.list b;refine SeqAt.in_listAt (eqU x) e.isList (λw d=>Zt i f r c w (by simpa using d)) ⟨.bl _,H,I,rfl,?_⟩;rw[show a.toArray.any (eqU x)=a.any (eqU x) by simp,Yr r c];exact q
 .obtain⟨a,r,e,j⟩:=I.tuple b;refine SeqAt.in_tupleAt (eqU x) e (λw d=>Zt i f r c w (by simpa using d)) ⟨.bl _,H,I,rfl,?_⟩;rw[show a.toArray.any (eqU x)=a.any (eqU x) by simp,Yr r c];exact q
def xN:OpR X (compareOp .NotIn) (rIn X.K true):=by
 intro g s m H x y v u Q I i k h;obtain⟨p,l,rfl,b,f,c,q⟩:=h;cases k;rcases b with b | b
 .obtain⟨a,r,e,j⟩:=I.list b;refine SeqAt.notIn_listAt (eqU x) e.isList (λw d=>Zt i f r c w (by simpa using d)) ⟨.bl _,H,I,rfl,?_⟩;rw[show a.toArray.any (eqU x)=a.any (eqU x) by simp,Yr r c];exact q
 .obtain⟨a,r,e,j⟩:=I.tuple b;refine SeqAt.notIn_tupleAt (eqU x) e (λw d=>Zt i f r c w (by simpa using d)) ⟨.bl _,H,I,rfl,?_⟩;rw[show a.toArray.any (eqU x)=a.any (eqU x) by simp,Yr r c];exact q
def Q0:CallR X (.type "list") (λxs H Q=>∃p ys,xs=[.ref p]/\(SqL X.K H p ys\/SqT X.K H p ys)/\∀l,H l=none->Q (.ref l) (upd H l (.lst ys))):=by
 intro t s B H xs C Q I r h;obtain⟨p,ys,rfl,j,q⟩:=h;obtain⟨u,rfl,A⟩:=vals1 r;cases A;have g:∀(a:L9),Vals ys a->ys.length<=sizeLine->∀(c:Heap) (d:Nat),(∀b z,s.heap.get? b=some z->c.get? b=some z)->
   c.get? s.heap.objs.size=some {cls:=.type "list",dict:=none,data:=.seq a.toArray d,slots:=#[]}->EP X t B Q (.ref s.heap.objs.size) {s with heap:=c}:=λa f k c d m e=>
  ⟨.ref s.heap.objs.size,_,I.laid (t':=s.toks) m (vb _) (show ObjOk X.prog X.w _ c _ (.lst ys)from⟨k,a,d,f,e⟩),rfl,q _ (I.hok.fresh (vb _))⟩
 rcases j with j | j
 .obtain⟨a,f,y,k⟩:=I.list j;have i:=f.length;obtain⟨o,x,v,n,w⟩:=y.isList;exact call_list_seq p (.inl rfl) x v w (λc d m e=>g a f k c d m e) (by simp only[size_toArray]<;>lia)
 .obtain⟨a,f,y,k⟩:=I.tuple j;have i:=f.length;obtain⟨o,x,v,n,w⟩:=y;exact call_list_seq p (.inr rfl) x v w (λc d m e=>g a f k c d m e) (by simp only[size_toArray]<;>lia)
def JE:CallR X (.type "tuple") (λxs H Q=>∃p ys,xs=[.ref p]/\((SqL X.K H p ys/\∀l,H l=none->Q (.ref l) (upd H l (.tup ys)))\/(SqT X.K H p ys/\Q (.ref p) H))):=by
 intro a s n H xs x Q I r h;obtain⟨p,ys,rfl,h⟩:=h;obtain⟨u,rfl,w⟩:=vals1 r;cases w;rcases h with⟨f,q⟩ | ⟨f,q⟩
 .obtain⟨c,i,g,m⟩:=I.list f;have k:=i.length;refine call_tuple_list g.isList (λd v=>?_) (by simp only[size_toArray]<;>lia);have j:Inv X a n H {s with heap:=d}:=I.kept (t':=s.toks) v;have t:Inv X a n (upd H d.objs.size (.tup ys)) {s with heap:=d.push {cls:=.type "tuple",data:=.seq c.toArray}}:=
   j.laid (t':=s.toks) (λb o e=>vJ _ e) (vb _) (show ObjOk X.prog X.w _ _ _ (.tup ys)from⟨m,c,i,IsTup.new _ _⟩)
  exact⟨.ref d.objs.size,_,t,rfl,q _ (j.hok.fresh (vb _))⟩
 .obtain⟨c,i,g,m⟩:=I.tuple f;exact call_tuple_same g ⟨.ref p,H,I,rfl,q⟩
def tyV(K:Frg)(T:String)(x:V)(H:Hp):Prop:=match x with
 | .str _=>T = "str"
 | .int _=>T = "int"
 | .ref p=>(T = "list"/\∃xs,SqL K H p xs)\/(T = "tuple"/\∃o,K.lookup p=some o/\o.cls = .type "tuple"/\o.dict=none)\/
   (T = "dict"/\((∃kvs,H p=some (.dK kvs))\/∃kvs,H p=some (.dT kvs)))\/(T = "set"/\∃S n,H p=some (.set S n))
 | _=>False
def j4I{w:St}{H:Hp}(I:Inv X pins w H s)(r:RelV x v)(f:tyV X.K T x H) :
  s.TypeIs v T/\∀a,v = .ref a->∃k,s.heap.get? a=some k/\k.dict=none:=by
 cases x with
 | str z=>
  obtain⟨t,rfl⟩:=r;cases(show T = "str" from f);exact⟨typeIs_str s z t,λ_ e=>nomatch e⟩
 | int i=>
  obtain⟨t,rfl⟩:=r;cases(show T = "int" from f);exact⟨typeIs_int s i t,λ_ e=>nomatch e⟩
 | ref p=>
  cases r;rcases f with⟨rfl,y,q⟩ | ⟨rfl,o,b,m,h⟩ | ⟨rfl,b⟩ | ⟨rfl,S,n,b⟩
  .obtain⟨u,_,l,_⟩:=I.list q;refine⟨l.isList.typeIs,λa e=>?_⟩;cases e;obtain⟨o,n,e,c,h,_⟩:=l;exact⟨o,e,h⟩
  .refine⟨⟨o,I.kIn p o b,m⟩,λa e=>?_⟩;cases e;exact⟨o,I.kIn _ o b,h⟩
  .have z:∃o,s.heap.get? p=some o/\o.ExactDict:=by
    rcases b with⟨j,b⟩ | ⟨j,b⟩
    .obtain⟨_,_,_,_,o,_,_,e,d,_⟩:=I.hok p _ b;exact⟨o,e,d⟩
    .obtain⟨_,_,_,_,o,_,_,e,d,_⟩:=I.hok p _ b;exact⟨o,e,d⟩
   obtain⟨o,e,d⟩:=z;refine⟨⟨o,e,d.1⟩,λa g=>?_⟩;cases g;exact⟨o,e,d.2.1⟩
  .obtain⟨o,_,_,_,e,d,_⟩:=I.hok p _ b;refine⟨⟨o,e,d.1⟩,λa g=>?_⟩;cases g;exact⟨o,e,d.2.1⟩
 | _=>exact False.elim f
def tBM0(K:Frg)(T:String)(r:V->N2->Hp->VK->Prop)(to:TE):TE:=λσ H Q=>to σ H λx H1=>tyV K T x H1/\r x [] H1 Q
def tBM(K:Frg)(T:String)(r:V->N2->Hp->VK->Prop)(to:TE)(t:TA):TE:=λσ H Q=>to σ H λx H1=>tyV K T x H1/\t σ H1 λxs H2=>r x xs H2 Q
variable{o e:Expr}{es:List Expr}{to:TE}{t:TA}{name:Str}{apos cpos:Pos}{T id:String}{r:V->N2->Hp->VK->Prop}
def j40(p:PlainAttrs T)(d:Slot T name id)(e:typeOf (.builtin id)=pure (.type "method_descriptor"))(m:MtR X id r)(n:PE X o to)
  (b:attributeBase o name X.env (eval o X.env)=eval o X.env:=by rfl) (c:(apos.endLine==cpos.line)=true:=by rfl):PE X (.Call (.Attribute o name apos) [] [] cpos) (tBM0 X.K T r to):=by
 intro a s i H Q I h;refine wpAny_Call_method0_late b c (thn (n a s i H _ I h) λv t z_=>?_);obtain⟨x,j,f,g,u,q⟩:=z_;obtain⟨k,l⟩:=j4I f g u;exact⟨T,id,p,d,e,k,l,Calls.callWith_builtin rfl (PySem.evalArgs_none (m a t i j x [] v [] Q f g .nil q))⟩
def Js(C:PlainAttrs T)(g:Slot T name id)(i:typeOf (.builtin id)=pure (.type "method_descriptor"))(z:MtR X id r)(A:PE X o to)(y:PA X (e::es) t)
  (c:attributeBase o name X.env (eval o X.env)=eval o X.env:=by rfl)
  (f:((backTo cpos (starEach (e::es) X.env)).all (λx=>!x.1)&&(backToKw cpos (keywordEach [] X.env)).all (λx=>x.1.isSome)
   && decide ((e::es).length+([]:List Keyword).length+(if([]:List Keyword).isEmpty then 0 else 1)<30))=true:=by rfl)
  (d:(apos.endLine==cpos.line)=true:=by rfl) (B:starEach (e::es) X.env=(false,eval e X.env)::starEach es X.env:=by rfl) (b:(backTo cpos (starEach es X.env)).any (·.1)=false:=by rfl) :
  PE X (.Call (.Attribute o name apos) (e::es) [] cpos) (tBM X.K T r to t):=by
 intro a s j H Q I h;refine wpAny_Call_method_late c f d rfl (thn (A a s j H _ I h) λv G z_=>?_);obtain⟨x,n,k,m,K,D⟩:=z_;obtain⟨u,w⟩:=j4I k m K;refine⟨T,id,C,g,i,u,w,?_⟩;have l:=y cpos a G j n _ k D;rw[B]at l|-;refine Calls.callWith_builtin (by show(false||(backTo cpos (starEach es X.env)).any (·.1))=false;rw[b]<;>rfl) (Calls.evalArgs_plain ?_);exact thn l λL J ⟨M,p,q,F,E⟩=>z a J j p x M v L Q q m F E
end
def MtM(X:Cx)(id:String)(r:V->N2->Hp->VK->Prop):Prop:=
 ∀(pins:List (Addr×Obj)) (s:Shared) (σ:St) (H:Hp) (x:V) (xs:N2) (v:Value) (us:L9) (Q:VK),Inv X pins σ H s->RelV x v->Vals xs us->r x xs H Q->
  wpAny (model X.prog X.w) X.A (call (.builtin id) (v::us)) (EP X pins σ Q) X.xe s
def Vals.one:∀{x:V} {us:L9},Vals [x] us->∃u,us=[u]/\RelV x u
 | _,_,.cons r .nil=>⟨_,rfl,r⟩
def Vals.zero:∀{us:L9},Vals [] us->us=[]
 | _,.nil=>rfl
def Vals.dropLast{xs:N2}{us:L9}(h:Vals xs us):Vals xs.dropLast us.dropLast:=by
 induction h with
 | nil=>exact .nil
 | cons r t ih=>
  cases t with
  | nil=>exact .nil
  | cons q t'=>exact .cons r ih
theorem Vals.rep(h:Vals xs us):∀k:Nat,Vals (List.replicate k xs).flatten (List.replicate k us).flatten
 | 0=>.nil
 | k+1=>by
  rw[replicate_succ,replicate_succ,flatten_cons,flatten_cons];exact Vals.append h (Vals.rep h k)
def j0n{c:Type}(l:List c):l.eraseIdx (l.length-1)=l.dropLast:=by
 induction l with
 | nil=>rfl
 | cons a r ih=>
  cases r with
  | nil=>rfl
  | cons b r=>
   have e:(a::b::r).length-1=((b::r).length-1)+1:=by
    have d:(a::b::r).length=r.length+2:=rfl;have f:(b::r).length=r.length+1:=rfl;lia
   rw[e,List.eraseIdx_cons_succ,ih]
   all_goals rfl
theorem WA(b:L9):∀(k:Nat) (a:L9),
  List.foldl (λd f=>d++f) a.toArray (List.replicate k b.toArray)=(a++(List.replicate k b).flatten).toArray
 | 0,a=>by simp
 | k+1,a=>by
  have e:a.toArray++b.toArray=(a++b).toArray:=by simp
  have c:(a++b)++(List.replicate k b).flatten=a++(List.replicate (k+1) b).flatten:=by
   rw[replicate_succ,flatten_cons,List.append_assoc]
  rw[<-c,<-WA b k (a++b),<-e,replicate_succ,v9]
section
variable{X:Cx}{pins:List (Addr×Obj)}{σ:St}{H:Hp}{s:Shared}{l b:Addr}{xs ys zs:N2}
def Inv.lset{a its':L9}{n:Nat}{f:Array Value->Array Value}{t':Nat}(I:Inv X pins σ H s)(b:H l=some (.lst xs))
  (e:s.heap.get? l=some {cls:=.type "list",data:=.seq a.toArray n}) (d:f a.toArray=its'.toArray) (h:Vals ys its') (hz:ys.length<=sizeLine) :
  Inv X pins σ (upd H l (.lst ys)) {s with heap:=s.heap.update l (Obj.mapSeq f),toks:=t'}:=by
 have q:=PySem.IsL.update e f;rw[d]at q;refine I.write (x:=l) (e:=l) (by rw[b];exact trivial) (.inl rfl) (λi u c g=>(Heap.get?_update_other s.heap (Obj.mapSeq f) (Ne.symm c)).trans g) ⟨_,q⟩ ?_;exact⟨hz,its',_,h,q⟩
def Inv.lnew(I:Inv X pins σ H s)(a:Vals ys its)(hz:ys.length<=sizeLine) :
  Inv X pins σ (upd H s.heap.objs.size (.lst ys)) {s with heap:=s.heap.push {cls:=.type "list",data:=.seq its.toArray},toks:=t'}:=
 I.laid (λ_ _ q=>vJ _ q) (vb _) ⟨hz,its,0,a,Heap.get?_push_size _ rfl⟩
def Inv.fresh(I:Inv X pins σ H s):H s.heap.objs.size=none:=I.hok.fresh (vb _)
def Inv.lstM(I:Inv X pins σ H s)(b:H l=some (.lst xs)):xs.length<=sizeLine/\∃(a:L9) (n:Nat),Vals xs a/\xs.length=a.length/\s.heap.get? l=some {cls:=.type "list",data:=.seq a.toArray n}:=by
 obtain⟨z,a,n,r,e⟩:=I.hok l _ b;exact⟨z,a,n,r,r.length,e⟩
def notLongL(h:n<=sizeLine):Builtin.List.listTooLong n=false:=by
 unfold Builtin.List.listTooLong;exact vH ⋯
end
section
variable{X:Cx}
noncomputable def rAppend:V->N2->Hp->VK->Prop:=λx vs H Q=>∃l xs y,x = .ref l/\vs=[y]/\H l=some (.lst xs)/\xs.length<sizeLine/\Q .non (upd H l (.lst (xs++[y])))
def jK:MtM X "list.append" rAppend:=by
 intro c s p H x m v k Q I g f h;obtain⟨l,o,y,rfl,rfl,b,j,q⟩:=h;cases g;obtain⟨u,rfl,d⟩:=f.one;obtain⟨z,a,n,r,i,e⟩:=I.lstM b;refine call_meets F.slot_list_append ⟨_,e,rfl⟩ F.entry_list_append (F.args_list_append_2 _ _) (PySem.list_append l a.toArray n u (by rw[size_toArray];lia)) ⟨e,?_⟩;refine⟨.non,_,I.lset (its':=a++[u]) b e (by simp) (r.append (.cons d .nil)) ?_,rfl,q⟩;rw[vn,vS];lia
noncomputable def rExtend:V->N2->Hp->VK->Prop:=λx vs H Q=>∃l b xs zs,x = .ref l/\vs=[.ref b]/\H l=some (.lst xs)/\H b=some (.lst zs)/\xs.length+zs.length<=sizeLine/\Q .non (upd H l (.lst (xs++zs)))
def j2p:MtM X "list.extend" rExtend:=by
 intro i s K H x D v C Q I y w h;obtain⟨l,b,E,J,rfl,rfl,g,k,B,q⟩:=h;cases y;obtain⟨u,rfl,t⟩:=w.one;cases t;obtain⟨z,c,n,r,A,e⟩:=I.lstM g;obtain⟨G,a,o,p,m,j⟩:=I.lstM k;have f:c.toArray.size+a.toArray.size<=sizeLine:=by rw[size_toArray,size_toArray];lia
 have d:¬(!c.toArray.isEmpty&&Builtin.List.listTooLong (c.toArray.size+a.toArray.size))=true:=by
  rw[notLongL f,Bool.and_false];exact vF
 refine call_meets F.slot_list_extend ⟨_,e,rfl⟩ F.entry_list_extend (F.args_list_extend_2 _ _)
  (AutoSeq1.list_extend_list_list_0 l c.toArray n b a.toArray o d (by rw[size_toArray];lia) ⋯) ⟨e,j,?_⟩
 refine⟨.non,_,I.lset (its':=c++a) g e (by simp) (r.append p) ?_,rfl,q⟩;rw[vn];lia
noncomputable def rPop:V->N2->Hp->VK->Prop:=λx vs H Q=>∃l xs y,x = .ref l/\vs=[]/\H l=some (.lst xs)/\xs[xs.length-1]?=some y/\Q y (upd H l (.lst xs.dropLast))
def j6p:MtM X "list.pop" rPop:=by
 intro f s A H x t v p Q I o m h;obtain⟨l,w,y,rfl,rfl,d,j,q⟩:=h;cases o;have b:=m.zero;subst b;obtain⟨z,a,n,r,g,e⟩:=I.lstM d;obtain⟨u,i,k⟩:=r.get j;have c:a.toArray[a.toArray.size-1]?=some u:=by
  show a.toArray[a.length-1]?=some u;rw[<-Array.getElem?_toList,<-g];exact i
 refine call_meets F.slot_list_pop ⟨_,e,rfl⟩ F.entry_list_pop (F.args_list_pop_1 _) (MeetsSeq.list_pop_last l a.toArray n u c (by rw[size_toArray];lia)) ⟨e,?_⟩;refine⟨y,_,I.lset (its':=a.dropLast) d e ?_ r.dropLast ?_,k,q⟩
 .show a.toArray.eraseIdxIfInBounds (a.toArray.size-1)=a.dropLast.toArray;rw[size_toArray,List.eraseIdxIfInBounds_toArray,j0n]
 .rw[List.length_dropLast];lia
def rCat:R2:=λx y H Q=>∃l b xs zs,x = .ref l/\y = .ref b/\H l=some (.lst xs)/\H b=some (.lst zs)/\xs.length+zs.length<=sizeLine/\∀p,H p=none->Q (.ref p) (upd H p (.lst (xs++zs)))
def kJ:OpR X (binaryOp .Add) rCat:=by
 intro d s E H x y v u Q I o p h;obtain⟨l,b,B,D,rfl,rfl,j,i,w,q⟩:=h;cases o;cases p;obtain⟨z,c,n,r,t,e⟩:=I.lstM j;obtain⟨C,a,A,m,k,f⟩:=I.lstM i;refine PySem.P.add_list e f ?_ (by rw[size_toArray,size_toArray];lia);have g:c.toArray++a.toArray=(c++a).toArray:=by simp
 rw[g];exact⟨.ref _,_,I.lnew (t':=s.toks) (r.append m) (by rw[vn];lia),rfl,q _ I.fresh⟩
def rRep:R2:=λx y H Q=>∃l k xs,x = .ref l/\y = .int k/\H l=some (.lst xs)/\-(2^63)<=k/\k<2^63/\xs.length*k.toNat<=sizeLine/\
 ∀p,H p=none->Q (.ref p) (upd H p (.lst (List.replicate k.toNat xs).flatten))
def j58{a:Type}(xs:List a)(k:Nat):(List.replicate k xs).flatten.length=k*xs.length:=by
 induction k with
 | zero=>simp
 | succ k ih=>rw[replicate_succ,flatten_cons,vn,ih,Nat.succ_mul,Nat.add_comm]
def j6v:OpR X (binaryOp .Mult) rRep:=by
 intro w s M H x y v u Q I G J h;obtain⟨l,k,L,rfl,rfl,D,B,C,p,q⟩:=h;cases G;obtain⟨t,rfl⟩:=J;obtain⟨z,b,n,r,E,e⟩:=I.lstM D;have g:b.toArray.size*k.toNat<=sizeLine:=by rw[size_toArray,<-E];exact p
 have d:¬b.toArray.size*k.toNat>(2^63-1)/8:=by
  have:(sizeLine:Nat)<=(2^63-1)/8:=by decide
  lia
 have f:¬(!Builtin.List.listFitsIndex k)=true:=by
  rw[fitsIndex_both B C];exact vF
 have c:¬Builtin.List.listTooLong (b.toArray.size*k.toNat)=true:=by
  rw[notLongL g];exact vF
 have i:List.foldl (λj o=>j++o) #[] (List.replicate (if b.toArray.isEmpty=true then 0 else k.toNat) b.toArray)=(List.replicate k.toNat b).flatten.toArray:=by
  have A:∀m:Nat,List.foldl (λj o=>j++o) #[] (List.replicate m b.toArray)=(List.replicate m b).flatten.toArray:=λm=>by
   have:=WA b m [];rw[nil_append]at this;exact this
  rw[A];cases b with
  | nil=>simp
  | cons a r'=>rw[vc (by simp)]
 refine wpAny_binaryOp_repeat_ref (T:="list") (U:="int") nofun ⟨_,e,rfl⟩ (λK=>typeIs_int K k t) noFill_list_mul F.fills_int_mul F.slot_int_rmul repeat_list F.slot_int_index.lookup
  (call_meets F.slot_int_rmul (typeIs_int s k t) F.entry_int_rmul (F.args_int_rmul_2 _ _) (int___rmul___int_list k t l b.toArray n)
   ⟨e,rfl,⟨_,e,rfl⟩,call_meets F.slot_list_mul ⟨_,e,rfl⟩ F.entry_list_mul (F.args_list_mul_2 _ _) (AutoListH.list___mul___list_int_3 l b.toArray n k t f d c) ⟨e,?_⟩⟩)
 rw[i];exact⟨.ref _,_,I.lnew (t':=s.toks) (r.rep k.toNat) (by rw[j58,Nat.mul_comm];exact p),rfl,q _ I.fresh⟩
end
section
variable{prog:Program}{w:World}{A:Around}{E:Value->Shared->Prop}{s:Shared}
end
section
variable{X:Cx}
end
end L2
namespace Att
open PySem PySem.W PySem.Calls PyProof.Rows
def Kh:∀(c:L5) (vs:L9),WellAll P h vs (c.map WData.int)->IntsAre vs c:=by
 intro c
 induction c with
 | nil=>
  intro vs w;rw[map_nil]at w;cases w;exact .nil
 | cons n c ih=>
  intro vs w;rw[uy]at w;cases w with
  | cons a b=>
   cases a;exact .cons _ _ (ih _ b)
def j2H{l:OpenLaw}{n:Nat}(t:l.most=some n){P:Params}{h:Heap}{args:List WData}{e:L9}
  (c:l.row.toRowW.claim.pre args=true) (k:WellAll P h e args) :
  ∃a vs b,e=[Value.ref a]/\args=[WData.list (b.map WData.int)]/\h.get? a=some {cls:=.type "list",data:=.seq vs.toArray}/\IntsAre vs b/\b.length<=n:=by
 have j:WShape.hasAll [] args [.list .int]=true:=(pre_splitW c).1;have m:l.pre.holds [] {args:=args}=true:=(pre_splitW c).2;obtain⟨d,r,rfl,o,p⟩:=hasAllW_cons j;obtain rfl:=hasAllW_nil p;obtain⟨v,rfl,s⟩:=hasW_list o;obtain⟨b,rfl⟩:=items_int s;have f:b.length<=n:=by
  unfold OpenLaw.pre at m;have g:(WTm.not (.lt (.lit (.int (n:Int))) (.len (.arg 0)))).holds [] {args:=[.list (b.map .int)]}=true:=by
   have g:=(holds_andW m).1;rw[t]at g;exact g
  have i:=condW_of g (w_not (w_lt w_lit (w_len_list (w_arg rfl))));rw[vt]at i;refine Nat.le_of_not_lt λq=>?_
  have u:(n:Int)<((b.length:Nat):Int):=⋯
  first
   | (rw[vG u]at i;exact ue i nofun)
   | (simp at i;lia)
 cases k with
 | cons w1 w2=>
  cases w2;cases w1 with
  | list ho hall=>exact⟨_,_,b,rfl,rfl,ho,Kh b _ hall,f⟩
def j2z(l:OpenLaw)(args:List WData):l.row.toRowW.claim.post args (.bool true) args=true:=
 postW_of (r:=l.row.toRowW) (X:=(true==true))
  (show WShape.has [] (.bool true) .bool=true by first | rfl | decide | simp[WShape.has,WShape.arms,WShape.armsAll])
  (show(WTm.eq .res (.lit (.bool true))).value [] {args:=args,res:=some (.bool true),after:=args}=some (.bool (true==true))from w_eq_bool (w_res rfl) w_lit) rfl
section
variable{prog:Program}{w:World}{A:Around}{E:Value->Shared->Prop}{s:Shared}{K:Frag}
end
end Att
namespace L2
open PySem PySem.Spec PyProof.Rows
theorem WX:∀{vs:L9} {a:L5},IntsAre vs a->Vals (a.map V.int) vs
 | _,_,.nil=>.nil
 | _,_,.cons n t h=>.cons ⟨t,rfl⟩ (WX h)
def Only(H:Hp):Prop:=∀b,H b=none\/∃o xs,H b=some (.frz o (.lst xs))
def j3o{P:Program}{w:World}{K:Frg}{L W:Str->Option Value}{CX:CXT}{k:Nat}{fa a:Addr}{fd:FuncData}{x:Str}{sp:Sp}{c:Shared}{vs:L9}{M:L5}
  (Y:K.In c.heap) (D:c.heap.Ns mainGlobals L) (g:c.heap.Ns builtinsNs W) (T:∀x:Str,x≠"__name__"->W x=bootBuiltins x) (C:c.heap.NoLimit) (hg:c.gens = #[])
  (O:c.heap.get? a=some {cls:=.type "list",data:=.seq vs.toArray}) (hi:IntsAre vs M) (hl:M.length<=sizeLine) (hr:Room k callerA)
  (F:∀base:Heap,K.In base->base.Ns mainGlobals L->FnOk P w K L base CX k fa fd [x] sp) (l:∀(s:Shared) (u:Value),BindsTo s fd ⟨[u],[]⟩ [(x,u)])
  (U:∀H:Hp,Only H->SqL K H a (M.map V.int)->sp [.ref a] H (λv _=>v = .bl true) λ_ _ _=>False)
  (S:∀H e s',CX [] H c (λ_ _ _=>False) e s'->False) :
  codeAny (model P w) callerA (.call (.ref fa) ⟨[.ref a],[]⟩) (λr s'=>r = .ok (.ret (.bool true))/\OldK c.heap s'.heap/\s'.os=c.os/\AllBare s'.gens) c:=by
 have rv:=WX hi;have J:=hi.length;have j:∀H:Hp,Only H->SqL K H a (M.map V.int)->HOk P w H c.heap->(∀b,H b≠none->b=a)->(H a≠none->K.lookup a=none)->
   codeAny (model P w) callerA (.call (.ref fa) ⟨[.ref a],[]⟩) (λr s'=>r = .ok (.ret (.bool true))/\OldK c.heap s'.heap/\s'.os=c.os/\AllBare s'.gens) c:=by
  intro H hO hS G hA hK;have f:∀{b:Addr} {o:Obj},c.heap.get? b=some o->H b=none->(hidT c.heap H).get? b=some o:=λe n=>j3i e n
  have X:∀{b:Addr} {o:Obj} {y:Array DictEntry} {t:Nat},c.heap.get? b=some o->o.data = .dict y t->H b=none:=λ{b o y t} e d=>by
   cases q:H b with
   | none=>rfl
   | some u=>
    have R:b=a:=hA b (by rw[q];simp);subst R;rw[O]at e;cases e;have d':Data.seq vs.toArray _=Data.dict y t:=d;cases d'
  have i:∀{b:Addr} {m:Str->Option Value},c.heap.Ns b m->(hidT c.heap H).Ns b m:=λ{b m} ⟨o,y,t,e,d,r⟩=>⟨o,y,t,f e (X e d),d,r⟩
  have B:K.In (hidT c.heap H):=λb o e=>f (Y b o e) (by
   cases q:H b with
   | none=>rfl
   | some u=>
    have R:b=a:=hA b (by rw[q];simp);subst R;rw[hK (by rw[q];simp)]at e;cases e)
  have hM:Mod K L (hidT c.heap H):=⟨B,i D,⟨W,i g,T⟩,let ⟨mc,h1,h2⟩:=C;⟨mc,i h1,h2⟩⟩
  have e0:Env0 P w K L (hidT c.heap H) callerA [] c H:=⟨rfl,hM,λb o e=>j5h e,Nat.le_of_eq (j2f _ _),trivial,λb g=>ue (show b∈([]:L7)from g) (by simp),G,.of_eq hg⟩
  refine codeAny_mono ((F _ B (i D)).run callerA [] c H ⟨[.ref a],[]⟩ [.ref a] [.ref a] _ _ hr e0 (l c (.ref a)) (.cons rfl .nil) (U H hO hS)) λr s' h=>?_
  cases r with
  | error e=>exact(S H e s' h).elim
  | ok fl=>
   cases fl with
   | next=>exact False.elim h
   | brk=>exact False.elim h
   | cont=>exact False.elim h
   | ret u=>
    obtain⟨v,H',os,p,un,I,r',q⟩:=h;have q':v = .bl true:=q;subst q';obtain rfl:u=Value.bool true:=r';refine⟨rfl,OldK.of_keep λb o e=>?_,os,p⟩;cases q:H b with
    | none=>exact un.keep b o e q (by intro z;exact ue (show b∈([]:L7)from z) (by simp)) (by simp)
    | some u=>
     rcases hO b with z | ⟨ob,xs,z⟩
     .rw[q]at z;cases z
     .have z2:=un.frzs b ob _ z;obtain⟨Z,_⟩:=G b _ z;obtain⟨e2,_⟩:=I b _ z2;rw[e]at Z;cases Z;exact e2
 cases hk:K.lookup a with
 | some o=>
  have e:=Y a o hk;rw[O]at e;cases e;refine j (λ_=>none) (λ_=>.inl rfl) (.inr ⟨_,vs.toArray,_,hk,rfl,rfl,rfl,by rw[size_toArray,J];exact hl,by simpa using rv⟩) (λb u z=>by have N:(none:Option HO)=some u:=z;cases N) (λb z=>ue rfl z) λz=>ue rfl z
 | none=>
  refine j (λb=>if b=a then some (.frz {cls:=.type "list",data:=.seq vs.toArray} (.lst (M.map V.int)))else none) (λb=>?_) (.inl (.inr ⟨{cls:=.type "list",data:=.seq vs.toArray},vd rfl⟩)) (λb u z=>?_) (λb z=>?_) λ_=>hk
  .by_cases g:b=a
   .exact .inr ⟨_,_,vd g⟩
   .exact .inl (vc g)
  .by_cases g:b=a
   .have N:=(vd g).symm.trans z;cases N;subst g;exact⟨O,by rw[vt];exact hl,vs,_,rv,O⟩
   .have N:=(vc g).symm.trans z;cases N
  .by_cases g:b=a
   .exact g
   .exact ue (vc g) z
noncomputable abbrev KOf{K:Frg}{h:Heap}(_:K.In h):Frg:=K
noncomputable def inClass(s:Stmt)(j:Nat):Stmt:=match s with
 | .ClassDef _ _ _ body _ _ _ _ _ _ _=>body.getD j (.Pass ⟨0,0,0,0⟩)
 | _=>.Pass ⟨0,0,0,0⟩
noncomputable def defArgs(s:Stmt):Arguments:=match s with
 | .FunctionDef _ a _ _ _ _ _ _ _ _=>a
 | _=>{posonlyargs:=[],args:=[],vararg:=none,kwonlyargs:=[],kw_defaults:=[],kwarg:=none,defaults:=[]}
noncomputable def defBody(s:Stmt):List Stmt:=match s with
 | .FunctionDef _ _ b _ _ _ _ _ _ _=>b
 | _=>[]
noncomputable def defScope(s:Stmt):Scope:=match s with
 | .FunctionDef _ _ _ _ _ _ sc _ _ _=>sc
 | _=>{kind:=.function,names:=[],isGenerator:=false,isCoroutine:=false}
noncomputable abbrev CX0:CXT:=λ_ _ _ _ _ _=>False
noncomputable abbrev E0:XK:=λ_ _ _=>False
def pass0:Passes CX0 X E0:=λ_ _ _ _ _ _ _ h=>h.elim
structure Fun(K:Frg)(x qual:Str)(st:Stmt)(f:Addr)(fd:FuncData):Prop where
 ex:∃(oc:Value) (od:Option Addr) (kV doc pm:Value) (an:Option Addr) (cdv ct:Value) (osl:Array (Option Value)),
  fd=PySem.W.fnOf x qual (defArgs st) (defBody st) (defScope st) .none kV doc pm an cdv ct/\K.lookup f=some ⟨oc,od,.func fd,osl⟩/\PySem.W.codeIn K cdv qual=true
 kp:PySem.W.keepIn K (.ref f)=true
section
variable{P:Program}{w:World}{K:Frg}{mg:Str->Option Value}{base:Heap}
def Fun.ok{x b:Str}{st:Stmt}{f:Addr}{i:FuncData}{N ps:L8}{k:Nat}{sp:Sp}(F:Fun K x b st f i)(S:FnScope N ps (defScope st))(len:∀vs H Q E,sp vs H Q E->vs.length=ps.length)
  (d:∀(c:Value) (A:Around) (a:List Env) (s:Shared) (H:Hp) (vs:N2) (Q:VK) (E:XK),Room k (A.deeper (envOfC b (defScope st) s.heap.objs.size f c))->sp vs H Q E->
   ∃t,PSs (cxOf CX0 P w K mg base N b (defScope st) f c A a s H E).nox (defBody st) t/\t {nx:=λ_ H'=>Q .non H',rt:=Q} (start N vs) H):FnOk P w K mg base CX0 (k+1) f i ps sp:=by
 obtain⟨r,u,kV,j,v,o,c,p,n,rfl,m,e⟩:=F.ex;refine j6T m e S len λA a s H vs Q E l g=>?_
 obtain⟨t,h,q⟩:=d c A a s H vs Q E l g;exact⟨t,h.nox,q⟩
def Fun.binds{x a:Str}{st:Stmt}{f:Addr}{g:FuncData}{ps:L8}(F:Fun K x a st f g)
  (h:∀(kV c e:Value) (an:Option Addr) (b d:Value) (us:L9),us.length=ps.length->bindArgs (PySem.W.fnOf x a (defArgs st) (defBody st) (defScope st) .none kV c e an b d) ⟨us,[]⟩=pure (ps.zip us)):Binds K g ps []:=by
 obtain⟨l,m,kV,c,e,an,b,d,j,rfl,k,i⟩:=F.ex;exact .all (h kV c e an b d)
def jH{x a:Str}{st:Stmt}{f:Addr}{i:Value}{j an:Option Addr}{e:Array (Option Value)}{kV d h b g:Value}(l:K.lookup f=some ⟨i,j,.func (PySem.W.fnOf x a (defArgs st) (defBody st) (defScope st) .none kV d h an b g),e⟩)
  (c:PySem.W.codeIn K b a=true) (k:PySem.W.keepIn K (.ref f)=true):Fun K x a st f (PySem.W.fnOf x a (defArgs st) (defBody st) (defScope st) .none kV d h an b g):=⟨⟨i,j,kV,d,h,an,b,g,e,rfl,l,c⟩,k⟩
end
def JZ(a:Room k A):A.units+1<cLine:=vD (Nat.add_le_add_left (by decide:1<=64) _) a.units
section
variable{X:Cx}
def pv(i:Nat)(b:X.N[i]?=some x:=by rfl)(d:Vis X.env.scope x:=by first | exact Or.inl rfl | exact Or.inr (Or.inl rfl) | exact Or.inr (Or.inr rfl))(c:(x==("__debug__" : Str))=false:=by decide)
  (a:(x==("__classdict__" : Str))=false:=by decide):PE X (.Name x pos) (tVar i):=j6y b d c a
end
def iteF{A B:Prop}(h:B):if false=true then A else B:=by
 rw[vc vF];exact h
def iteT{A B:Prop}(h:A):if true=true then A else B:=by
 rw[vd rfl];exact h
def Same(H H':Hp):Prop:=∀b o,H b=some o->H' b=some o
def Same.refl(H:Hp):Same H H:=λ_ _ h=>h
def Same.trans{H d e:Hp}(a:Same H d)(b:Same d e):Same H e:=λc o h=>b c o (a c o h)
def Same.seq{K:Frg}{H H':Hp}{a:Addr}{xs:N2}(e:Same H H')(h:SqL K H a xs):SqL K H' a xs:=by
 rcases h with(h | ⟨o,h⟩) | h
 .exact .inl (.inl (e _ _ h))
 .exact .inl (.inr ⟨o,e _ _ h⟩)
 .exact .inr h
section
variable{κ:Type}[DecidableEq κ]
noncomputable def valV(kvs:List (κ×V))(k:κ):N3:=(kvs.find? λkv=>decide (kv.1=k)).map (·.2)
noncomputable def putK(kvs:List (κ×V))(k:κ)(v:V):List (κ×V):=
 if(kvs.any λkv=>decide (kv.1=k))=true then kvs.map (λkv=>if kv.1=k then(kv.1,v)else kv)else kvs++[(k,v)]
def wO{p:κ×V}{r:List (κ×V)}{k:κ}(e:p.1=k):valV (p::r) k=some p.2:=by simp[valV,List.find?_cons,e]
def wN{p:κ×V}{r:List (κ×V)}{k:κ}(e:¬p.1=k):valV (p::r) k=valV r k:=by simp[valV,List.find?_cons,e]
theorem yG(k:κ):∀kvs:List (κ×V),(kvs.any λkv=>decide (kv.1=k))=(valV kvs k).isSome
 | []=>rfl
 | p::r=>by
  rw[any_cons];by_cases e:p.1=k
  .simp only[wO e,decide_eq_true e,Bool.true_or,Option.isSome_some]
  .rw[wN e,vH e,Bool.false_or];exact yG k r
def yj(kvs:List (κ×V))(k:κ)(v:V):(putK kvs k v).length<=kvs.length+1:=by
 unfold putK;split
 .rw[vt];lia
 .rw[vn,vQ,length_nil];lia
def RelO.isSome_eq(r:RelO o u):o.isSome=u.isSome:=by
 cases o with
 | none=>cases u with
  | none=>rfl
  | some _=>exact(show False from r).elim
 | some _=>cases u with
  | none=>exact(show False from r).elim
  | some _=>rfl
def KV.val{kvs:List (κ×V)}{vs:List (κ×Value)}(r:KV kvs vs)(k:κ):RelO (valV kvs k) (valueAt vs k):=by
 unfold KV at r
 induction r with
 | nil=>exact True.intro
 | @cons p q ps qs h t ih=>
  obtain⟨c,d⟩:=h;by_cases e:p.1=k
  .have a:q.1=k:=c.symm.trans e;have b:valueAt (q::qs) k=some q.2:=by simp[valueAt,List.find?_cons,a]
   rw[wO e,b];exact d
  .have a:¬q.1=k:=λz=>e (c.trans z)
   have b:valueAt (q::qs) k=valueAt qs k:=by simp[valueAt,List.find?_cons,a]
   rw[wN e,b];exact ih
def KV.any(r:KV kvs vs)(k:κ):(kvs.any λkv=>decide (kv.1=k))=vs.any λkv=>decide (kv.1=k):=by
 unfold KV at r
 induction r with
 | nil=>rfl
 | cons h t ih=>rw[any_cons,any_cons,ih,h.1]
def KV.repl(r:KV kvs vs)(k:κ)(c:RelV y u) :
  KV (kvs.map λkv=>if kv.1=k then(kv.1,y)else kv) (vs.map λkv=>if kv.1=k then(kv.1,u)else kv):=by
 unfold KV at r|-
 induction r with
 | nil=>exact .nil
 | @cons p q ps qs h t ih=>
  rw[uy,uy];refine .cons ?_ ih;obtain⟨a,b⟩:=h;by_cases e:p.1=k
  .rw[vd e,vd (a.symm.trans e)];exact⟨a,c⟩
  .rw[vc e,vc (λz=>e (a.trans z))];exact⟨a,b⟩
def KV.put(r:KV kvs vs)(k:κ)(a:RelV y u):KV (putK kvs k y) (stored vs k u):=by
 unfold putK stored;rw[r.any k];by_cases e:(vs.any λkv=>decide (kv.1=k))=true
 .rw[vd e,vd e];exact r.repl k a
 .rw[vc e,vc e];exact Paired.snoc r ⟨rfl,a⟩
def KV.keys{kvs:List (κ×V)}{vs:List (κ×Value)}(r:KV kvs vs):kvs.map (·.1)=vs.map (·.1):=by
 unfold KV at r
 induction r with
 | nil=>rfl
 | cons h t ih=>rw[uy,uy,ih,h.1]
def KV.length(r:KV kvs vs):kvs.length=vs.length:=Paired.length r
end
def WC(r:RelV (kV k) u):(mixKind P w).is k u=true:=by
 cases k with
 | inl i=>obtain⟨t,e⟩:=(show∃t,u=Value.int i t from r);subst e;exact XJ P w i t
 | inr x=>obtain⟨t,e⟩:=(show∃t,u=Value.str x t from r);subst e;exact XL P w x t
theorem WB:∀{ks:List Key} {us:L9},Vals (ks.map kV) us->ItemsAre (mixKind P w) ks us
 | [],_,r=>by rw[map_nil]at r;cases r;exact .nil
 | k::ks,_,r=>by
  rw[uy]at r;cases r with
  | cons h t=>exact .cons (WC h) (WB t)
noncomputable abbrev KT(H:Hp):List (List Key×V)->List (List Key×Addr×Value)->Prop:=Paired λp q=>p.1=q.1/\H q.2.1=some (.tup (p.1.map kV))/\RelV p.2 q.2.2
def KT.val{H:Hp}{kvs:List (List Key×V)}{xs:List (List Key×Addr×Value)}(r:KT H kvs xs)(k:List Key):RelO (valV kvs k) ((atKey xs k).map (·.2)):=by
 induction r with
 | nil=>exact True.intro
 | @cons p q ps qs h t ih=>
  obtain⟨c,_,d⟩:=h;by_cases e:p.1=k
  .have a:q.1=k:=c.symm.trans e;have b:atKey (q::qs) k=some q.2:=by simp[atKey,List.find?_cons,a]
   rw[wO e,b];exact d
  .have a:¬q.1=k:=λz=>e (c.trans z)
   have b:atKey (q::qs) k=atKey qs k:=by simp[atKey,List.find?_cons,a]
   rw[wN e,b];exact ih
def KT.repl{H:Hp}(r:KT H kvs xs)(k:List Key)(d:RelV y u) :
  KT H (kvs.map λkv=>if kv.1=k then(kv.1,y)else kv) (xs.map (putAt k u)):=by
 induction r with
 | nil=>exact .nil
 | @cons p q ps qs h t ih=>
  rw[uy,uy];refine .cons ?_ ih;obtain⟨a,b,c⟩:=h;unfold putAt;by_cases e:p.1=k
  .rw[vd e,vd (a.symm.trans e)];exact⟨a,b,d⟩
  .rw[vc e,vc (λz=>e (a.trans z))];exact⟨a,b,c⟩
def KT.put{H:Hp}(r:KT H kvs xs)(k:List Key)(c:H b=some (.tup (k.map kV)))(a:RelV y u) :
  KT H (putK kvs k y) (storedH xs k b u):=by
 have e:(kvs.any λkv=>decide (kv.1=k))=(atKey xs k).isSome:=by
  rw[yG,(r.val k).isSome_eq,Option.isSome_map]
 unfold putK storedH;rw[e];by_cases q:(atKey xs k).isSome=true
 .rw[vd q,vd q];exact r.repl k a
 .rw[vc q,vc q];exact Paired.snoc r ⟨rfl,c,a⟩
def KT.keeps{H H':Hp}(r:KT H kvs xs)(a:∀b ys,H b=some (.tup ys)->H' b=some (.tup ys)):KT H' kvs xs:=
 Paired.mapP r λ_ _ z=>⟨z.1,a _ _ z.2.1,z.2.2⟩
section
variable{P:Program}{w:World}{H:Hp}{h:Heap}{a:Addr}
def j5R(b:HOk P w H h)(e:Rd H a u):ObjOk P w H h a u:=e.ok b
def j1g(b:HOk P w H h)(e:Rd H a (.dK kvs)):kvs.length<=sizeLine/\(a==sysModules)=false/\∃vs,KV kvs vs/\h.DictOf (mixKind P w) a vs:=
 show ObjOk P w H h a (.dK kvs)from j5R b e
def K0(b:HOk P w H h)(e:H a=some (.dK kvs)):kvs.length<=sizeLine/\(a==sysModules)=false/\∃vs,KV kvs vs/\h.DictOf (mixKind P w) a vs:=j1g b (.inl e)
def wd(g:HOk P w H h)(e:H a=some (.tup (ks.map kV))):(tupleKind (mixKind P w)).is h ks a:=by
 obtain⟨_,b,r,o,c,d,n,f⟩:=(show ObjOk P w H h a (.tup (ks.map kV))from g a _ e)
 exact⟨o,b.toArray,n,c,d,f,by simpa using WB r⟩
def j1j(d:HOk P w H h)(e:Rd H a (.dT kvs)):kvs.length<=sizeLine/\(a==sysModules)=false/\
  ∃xs,KT H kvs xs/\h.DictOfH (tupleKind (mixKind P w)) a xs:=by
 obtain⟨z,y,xs,r,o,g,f,i,j,k,n,s⟩:=(show ObjOk P w H h a (.dT kvs)from j5R d e)
 refine⟨z,y,xs,r,o,g,f,i,j,k,n,λx b=>?_,s⟩;have c:∀{l:List (List Key×V)} {m:List (List Key×Addr×Value)},KT H l m->∀x∈m,(tupleKind (mixKind P w)).is h x.1 x.2.1:=by
  intro l m q
  induction q with
  | nil=>intro x b;exact nomatch b
  | @cons p q ps qs hq t ih=>
   intro x b;rcases mem_cons.mp b with e | b
   .subst e;exact wd d (by rw[<-hq.1];exact hq.2.1)
   .exact ih x b
 exact c r x b
def j6R(b:HOk P w H h)(e:H a=some (.dT kvs)):kvs.length<=sizeLine/\(a==sysModules)=false/\
  ∃xs,KT H kvs xs/\h.DictOfH (tupleKind (mixKind P w)) a xs:=j1j b (.inl e)
end
def DGet(H:Hp)(a:Addr)(y:V)(r:N3):Prop:=
 (∃kvs k,Rd H a (.dK kvs)/\y=kV k/\r=valV kvs k)\/∃kvs k b,Rd H a (.dT kvs)/\y = .ref b/\H b=some (.tup (k.map kV))/\r=valV kvs k
def DPut(H:Hp)(a:Addr)(y v:V)(H':Hp):Prop:=
 (∃kvs k,H a=some (.dK kvs)/\y=kV k/\kvs.length<sizeLine/\H'=upd H a (.dK (putK kvs k v)))\/
 ∃kvs k b,H a=some (.dT kvs)/\y = .ref b/\H b=some (.tup (k.map kV))/\kvs.length<sizeLine/\H'=upd H a (.dT (putK kvs k v))
def DGet.k{H:Hp}{a:Addr}{kvs:List (Key×V)}{k:Key}(e:H a=some (.dK kvs)):DGet H a (kV k) (valV kvs k):=.inl ⟨kvs,k,.inl e,rfl,rfl⟩
def DPut.k{H:Hp}{a:Addr}{kvs:List (Key×V)}{k:Key}{v:V}(e:H a=some (.dK kvs))(b:kvs.length<sizeLine):DPut H a (kV k) v (upd H a (.dK (putK kvs k v))):=.inl ⟨kvs,k,e,rfl,b,rfl⟩
section
variable{X:Cx}{pins:List (Addr×Obj)}{σ:St}{H:Hp}{s:Shared}{a:Addr}{y v:V}{u r:Value}{o:N3}{A:Around}{E:Value->Shared->Prop}
def Inv.big(I:Inv X pins σ H s):sysModules<s.heap.objs.size:=by
 have h:mainGlobals<s.heap.objs.size:=(I.mod.glob.keeps I.bk).lt;exact Nat.lt_trans nofun h
def Wv{Q:Value->Shared->Prop}(B:A.units+1<cLine)(I:Inv X pins σ H s)(g:DGet H a y (some v))(r:RelV y u)(h:∀f s',Inv X pins σ H s'->RelV v f->Q f s') :
  wpAny (model X.prog X.w) A (getItem (.ref a) u) Q E s:=by
 rcases g with⟨q,k,e,j,l⟩ | ⟨q,k,b,e,j,t,l⟩
 .subst j;obtain⟨z,w,C,c,i⟩:=j1g I.hok e;obtain⟨f,n,d⟩:=RelO.some_of (v:=v) (o:=valueAt C k) (by rw[l];exact c.val k);exact wpAny_getItem_of (WC r) i.mapOf n (h f _ (I.tok _) d)
 .subst j;cases(show u=Value.ref b from r);obtain⟨z,w,D,c,i⟩:=j1j I.hok e;obtain⟨f,n,d⟩:=RelO.some_of (v:=v) (o:=(atKey D k).map (·.2)) (by rw[l];exact c.val k);obtain⟨p,x,m⟩:=vg.mp n;refine wpAny_getItem_heap (tupleKind_room_in1 B) (wd I.hok t) i x ?_;rw[m];exact h f _ (I.tok _) d
def j72{Q:Value->Shared->Prop}(p:A.units+1<cLine)(I:Inv X pins σ H s)(g:DGet H a y o)(m:RelV y u)(h:∀s',Inv X pins σ H s'->Q (.bool o.isSome) s') :
  wpAny (model X.prog X.w) A (compareOp .In u (.ref a)) Q E s:=by
 rcases g with⟨j,k,e,f,l⟩ | ⟨j,k,b,e,f,n,l⟩
 .subst f;obtain⟨z,i,r,c,d⟩:=j1g I.hok e;refine wpAny_in_of (WC m) i d.mapOf ?_;rw[<-(c.val k).isSome_eq,<-l];exact h _ (I.tok _)
 .subst f;cases(show u=Value.ref b from m);obtain⟨z,i,t,c,d⟩:=j1j I.hok e;refine wpAny_in_heap (tupleKind_room_in1 p) (wd I.hok n) i d ?_;have q:=(c.val k).isSome_eq;rw[Option.isSome_map]at q;rw[<-q,<-l];exact h _ (I.tok _)
def yL(I:Inv X pins σ H s)(h:Mut (H a))(g:Heap.SameBut a s.heap h')(f:∃q,h'.get? a=some q)(c:ObjOk X.prog X.w (upd H a ob) h' a ob) :
  Inv X pins σ (upd H a ob) {s with heap:=h',toks:=t'}:=
 I.write (x:=a) (e:=a) h (.inl rfl) (λb q d z=>(g.2 b d).trans z) f c
def xh{H':Hp}(z:kvs.length<=sizeLine)(d:(a==sysModules)=false)(b:KV kvs vs)(c:h'.DictOf (mixKind P w) a vs) :
  ObjOk P w H' h' a (.dK kvs):=⟨z,d,vs,b,c⟩
def j29{H':Hp}{Q:Unit->Shared->Prop}(R:A.units+1<cLine)(I:Inv X pins σ H s)(g:DPut H a y v H')(G:RelV y u)(F:RelV v r)(h:∀s',Inv X pins σ H' s'->Q () s') :
  wpAny (model X.prog X.w) A (setItem (.ref a) u r) Q E s:=by
 rcases g with⟨d,k,e,o,l,n⟩ | ⟨d,k,b,e,o,B,l,n⟩
 .subst o n;obtain⟨z,p,S,f,m⟩:=K0 I.hok e;have x:S.length<=sizeLine:=by rw[<-f.length];exact z
  have t:(putK d k v).length<=sizeLine:=by have:=yj d k v;lia
  refine wpAny_setItem_pairs (hsz:=x) (WC G) m λD i w=>h _ ?_
  have P:∃q,D.get? a=some q:=let ⟨q,_,_,j,_⟩:=i;⟨q,j⟩;exact yL I (by rw[e];exact True.intro) w P (xh t p (f.put k F) i)
 .subst o n;cases(show u=Value.ref b from G);obtain⟨z,p,T,f,m⟩:=j6R I.hok e;have x:T.length<=sizeLine:=by rw[<-Paired.length f];exact z
  have t:(putK d k v).length<=sizeLine:=by have:=yj d k v;lia
  refine wpAny_setItem_heap (hsz:=x) (tupleKind_room_in1 R) (wd I.hok B) m λD i w=>h _ ?_
  obtain⟨q,K,J,j,L,M,N,_,O⟩:=i;refine yL I (by rw[e];exact True.intro) w ⟨q,j⟩ ⟨t,p,_,(f.put k B F).keeps λc U C=>?_,q,K,J,j,L,M,N,O⟩;rw[jo (jZ C e (λz=>nomatch z))];exact C
end
section
variable{X:Cx}{pins:List (Addr×Obj)}{σ:St}{H:Hp}{s:Shared}{a:Addr}{kvs:List (Key×V)}{k:Key}{u:Value}{A:Around}{E:Value->Shared->Prop}
end
def NoSl(i:Expr):Prop:=∀ov iv,subscripted i false ov iv=operate [ov,iv] (getItem ov iv)
def j5G{prog:Program}{w:World}{A:Around}{E:Value->Shared->Prop}{s:Shared}{env:Env}{b a:Expr}{l:Pos}{T q:String}{Q:Value->Shared->Prop}
  (n:typeLookup (.type T) "__getitem__"= pure (some (.builtin q))) (p:NoSl a)
  (h:wpAny (model prog w) A (eval b env) (λo e=>wpAny (model prog w) A (eval a env) (λi c=>c.TypeIs o T/\wpAny (model prog w) A (getItem o i) Q E c) E e) E s) :
  wpAny (model prog w) A (eval (.Subscript b a l) env) Q E s:=by
 refine Subscript_ (wpAny_mono h (λo e j=>wpAny_mono j (λi c d=>?_) λ_ _ x=>x) λ_ _ x=>x);obtain⟨m,d⟩:=d;unfold subscriptTail;refine ug ?_;rw[getitemInPython_of_ne m.not_modules];refine ug (wpAny_specialOf m n ?_);have g:wpAny (model prog w) A (subscripted a false o i) (λr f=>wpAny (model prog w) A (letTemporaryGo b o r >>= λ_=>pure r) Q E f) E c:=by
  rw[p o i];exact wpAny_operating (wpAny_mono d (λr f k=>ug (wpAny_letTemporaryGo (uf k))) λ_ _ x=>x)
 first
  | exact uf (ug g)
  | exact ug (uf (ug g))
  | exact ug g
def Kc{f:St}{H:Hp}(I:Inv X pins f H s)(g:DGet H a y o):s.TypeIs (.ref a) "dict":=by
 rcases g with⟨d,k,e,_,_⟩ | ⟨d,k,b,e,_,_,_⟩
 .obtain⟨_,_,h,_,c⟩:=j1g I.hok e;exact c.typeIs
 .obtain⟨_,_,i,_,c⟩:=j1j I.hok e;exact c.typeIs
def tDGet(td ty:TE):TE:=λσ H Q=>td σ H λx H1=>ty σ H1 λy H2=>∃a v,x = .ref a/\DGet H2 a y (some v)/\Q v H2
def tDIn(ty td:TE):TE:=λσ H Q=>ty σ H λy H1=>td σ H1 λx H2=>∃a o,x = .ref a/\DGet H2 a y o/\Q (.bl o.isSome) H2
def sDPut(td ty tv:TE):TS:=λD σ H=>tv σ H λv H1=>td σ H1 λx H2=>ty σ H2 λy H3=>∃a H4,x = .ref a/\DPut H3 a y v H4/\D.nx σ H4
section
variable{X:Cx}{o i e value:Expr}{pos pos' tpos:Pos}{td ty tv:TE}
def Qe(q:X.A.units+1<cLine)(n:PE X o td)(hi:PE X i ty)(p:NoSl i:=by exact λ_ _=>rfl):PE X (.Subscript o i pos) (tDGet td ty):=by
 intro b s e H Q I h;refine j5G PySem.F.slot_dict_getitem.lookup p (thn (n b s e H _ I h) λu A ⟨x,f,k,w,r⟩=>thn (hi b A e f _ k r) λB C ⟨y,j,d,z,a,v,m,g,t⟩=>?_);subst m;obtain rfl:u=Value.ref a:=w;exact⟨Kc d g,Wv q d g z λE D l c=>⟨v,j,l,c,t⟩⟩
def j6w(n:X.A.units+1<cLine)(hi:PE X i ty)(m:PE X o td):PC X .In i o (tDIn ty td):=by
 intro b s c H Q I h;refine thn (hi b s c H _ I h) λw v ⟨y,d,f,t,p⟩=>thn (m b v c d _ f p) λu z ⟨x,e,j,r,a,ov,l,g,q⟩=>?_
 subst l;obtain rfl:u=Value.ref a:=r;exact j72 n j g t λA k=>⟨.bl ov.isSome,e,k,rfl,q⟩
def ZO(t:X.A.units+1<cLine)(p:PE X o td)(hi:PE X i ty)(w:PE X value tv)(q:swapsWith value (some (.Subscript o i pos')) pos.line X.env=pure false) :
  PS X (.Assign [.Subscript o i pos'] value pos) (sDPut td ty tv):=by
 intro b s c H D I h;refine wpAny_Assign_Subscript (thn (w b s c H _ I h) λr G ⟨v,d,j,C,z⟩=>thn (p b G c d _ j z) λu J ⟨x,e,k,E,A⟩=>thn (hi b J c e _ k A) λL M ⟨y,K,l,F,a,f,n,g,B⟩=>?_) q;subst n;obtain rfl:u=Value.ref a:=E;exact j29 t l g F C λN m=>⟨c,f,m,B⟩
end
def Xq{H:Hp}(h:Heap)(a:sysModules<h.objs.size):ObjOk P w H (h.push {cls:=.type "dict",data:=.dict #[]}) h.objs.size (.dK []):=
 ⟨va _,beq_eq_false_iff_ne.mpr (Ne.symm (vE a)),[],.nil,Heap.DictOf.new h⟩
def tDNewK:TE:=λ_ H Q=>∀p,H p=none->Q (.ref p) (upd H p (.dK []))
section
variable{X:Cx}{pos:Pos}
def Zu:PE X (.Dict [] [] pos) tDNewK:=λb s c H Q I h=>
 wpAny_Dict_empty ⟨.ref s.heap.objs.size,_,I.laid (a:=s.heap.objs.size) (o:=.dK []) (t':=s.toks) (λ_ _ q=>vJ _ q) (vb _) (Xq s.heap I.big),rfl,h _ (I.hok.fresh (vb _))⟩
end
noncomputable def tPairs:List (TE×TE)->St->Hp->(List (V×V)->Hp->Prop)->Prop
 | [],_,H,Q=>Q [] H
 | (tk,tv)::r,σ,H,Q=>tk σ H λx H1=>tv σ H1 λy H2=>tPairs r σ H2 λps H3=>Q ((x,y)::ps) H3
noncomputable abbrev VV:List (V×V)->List (Value×Value)->Prop:=Paired λp q=>RelV p.1 q.1/\RelV p.2 q.2
def PPs(X:Cx)(pos:Pos)(keys:List (Option Expr))(values:List Expr)(trs:List (TE×TE)):Prop:=
 ∀(pins:List (Addr×Obj)) (s:Shared) (σ:St) (H:Hp) (Q:List (V×V)->Hp->Prop),Inv X pins σ H s->tPairs trs σ H Q->
  wpAny (model X.prog X.w) X.A (evalPairs (pairTrees keys values X.env pos)) (λvs s'=>∃ps H',Inv X pins σ H' s'/\VV ps vs/\Q ps H') X.xe s
def j5u{X:Cx}{a:Pos}:PPs X a [] [] []:=λb s c H Q I h=>pairTrees_nil_walk ⟨[],H,I,.nil,h⟩
def j4a{X:Cx}{b:Pos}{k v:Expr}{ks:List (Option Expr)}{vs:List Expr}{f g:TE}{c:List (TE×TE)}(p:PE X k f)(r:PE X v g)(q:PPs X b ks vs c) :
  PPs X b (some k::ks) (v::vs) ((f,g)::c):=λa s e H Q I h=>
 pairTrees_cons_walk (thn (p a s e H _ I h) λu D ⟨x,i,m,B,w⟩=>thn (r a D e i _ m w) λG E ⟨y,j,n,C,z⟩=>
  thn (q a E e j _ n z) λJ F ⟨t,l,o,d,A⟩=>⟨(x,y)::t,l,o,.cons ⟨B,C⟩ d,A⟩)
noncomputable def mergeK(kvs more:List (Key×V)):List (Key×V):=more.foldl (λacc kv=>putK acc kv.1 kv.2) kvs
def KV.merge:∀{more:List (Key×V)} {a:List (Key×Value)} {kvs:List (Key×V)} {vs:List (Key×Value)},KV more a->KV kvs vs->KV (mergeK kvs more) (merged vs a):=by
 intro more a kvs vs r;unfold KV at r
 induction r generalizing kvs vs with
 | nil=>intro q;exact q
 | @cons p q ps qs h t ih=>
  intro b;have e:KV (putK kvs p.1 p.2) (stored vs q.1 q.2):=by
   have:=b.put p.1 h.2;rw[<-h.1];exact this
  exact ih e
theorem QA:∀(more kvs:List (Key×V)),(mergeK kvs more).length<=kvs.length+more.length
 | [],kvs=>by show kvs.length<=kvs.length+0;lia
 | p::r,kvs=>by
  have a:=QA r (putK kvs p.1 p.2);have b:=yj kvs p.1 p.2;show(mergeK (putK kvs p.1 p.2) r).length<=_;rw[vQ];lia
theorem KS{P:Program}{w:World}:∀{kvs:List (Key×V)} {e:List (Value×Value)},VV (kvs.map λkv=>(kV kv.1,kv.2)) e->∃d,Carries (mixKind P w) e d/\KV kvs d
 | [],_,r=>by rw[map_nil]at r;cases r;exact⟨[],True.intro,.nil⟩
 | p::kvs,_,r=>by
  rw[uy]at r;cases r with
  | @cons a b as bs h t=>
   obtain⟨d,c,q⟩:=KS (P:=P) (w:=w) t;obtain⟨g,f⟩:=b;exact⟨(p.1,f)::d,⟨WC h.1,rfl,c⟩,.cons ⟨rfl,h.2⟩ q⟩
def tDisp(trs:List (TE×TE)):TE:=λσ H Q=>∀p,H p=none->tPairs trs σ (upd H p (.dK [])) λps H2=>H2 p=some (.dK [])/\∃kvs:List (Key×V),ps=kvs.map (λkv=>(kV kv.1,kv.2))/\kvs.length<=15/\Q (.ref p) (upd H2 p (.dK (mergeK [] kvs)))
def j5o{X:Cx}{k:Pos}{b:List (Option Expr)}{d:List Expr}{l:List (TE×TE)}(h:PPs X k b d l)(g:b.all (·.isSome)=true)(B:b.length=d.length)(v:b≠[])
  (m:b.length<=15):PE X (.Dict b d k) (tDisp l):=by
 intro j s M H Q I q;have C:=I.hok.fresh (vb s.heap.objs.size);have r:=I.laid (a:=s.heap.objs.size) (o:=.dK []) (h':=s.heap.push {cls:=.type "dict",data:=.dict #[]}) (t':=s.toks) (λ_ _ q=>vJ _ q) (vb _) (Xq s.heap I.big);refine wpAny_Dict_walk (knd:=mixKind X.prog X.w) g B v m (thn (h j _ M _ _ r (q _ C)) λT S z_=>?_);obtain⟨R,N,p,n,e,i,u,O,F⟩:=z_;subst u;obtain⟨K,c,J⟩:=KS (P:=X.prog) (w:=X.w) n;obtain⟨z,y,L,G,t⟩:=K0 p.hok e;cases G;refine⟨K,c,t,λh' f D=>⟨.ref s.heap.objs.size,_,?_,rfl,F⟩⟩;have E:(mergeK [] i).length<=sizeLine:=by
  have x:=QA i [];rw[length_nil]at x;rw[sizeLine_eq];lia
 have A:∃q,h'.get? s.heap.objs.size=some q:=let ⟨q,_,_,hq,_⟩:=f;⟨q,hq⟩;exact yL p (by rw[e];exact True.intro) D A (xh E y (J.merge .nil) f)
structure M1(X:Cx)(o:Expr)(m:Str)(apos:Pos)(e:Expr)(cpos:Pos):Prop where
 base:attributeBase o m X.env (eval o X.env)=eval o X.env
 few:((backTo cpos (starEach [e] X.env)).all (λx=>!x.1)&&(backToKw cpos (keywordEach [] X.env)).all (λx=>x.1.isSome)
  && decide (([e]:List Expr).length+([]:List Keyword).length+(if([]:List Keyword).isEmpty then 0 else 1)<30))=true
 line:(apos.endLine==cpos.line)=true
 trees:backTo cpos (starEach [e] X.env)=[(false,eval e X.env)]
section
variable{X:Cx}{pins:List (Addr×Obj)}{σ:St}{H:Hp}{s:Shared}{a:Addr}{y d:V}{u r:Value}{o:N3}{A:Around}{E:Value->Shared->Prop}
end
section
variable{X:Cx}{o e f:Expr}{apos cpos:Pos}{td ty tx:TE}
end
section
variable{X:Cx}{pins:List (Addr×Obj)}{σ:St}{H:Hp}{s:Shared}{a:Addr}{kvs:List (Key×V)}{A:Around}{E:Value->Shared->Prop}
end
section
variable{X:Cx}{pins:List (Addr×Obj)}{σ:St}{H:Hp}{s:Shared}{a:Addr}{y:V}{u:Value}{A:Around}{E:Value->Shared->Prop}
end
section
variable{X:Cx}
end
section
variable{κ:Type}[DecidableEq κ]
def j4J{kvs:List (κ×V)}{k:κ}(h:valV kvs k=none):¬k∈kvs.map (·.1):=by
 intro m;obtain⟨p,a,e⟩:=vK.mp m;have q:(kvs.any λkv=>decide (kv.1=k))=true:=any_eq_true.mpr ⟨p,a,vG e⟩;rw[yG,h]at q;exact ue q (by simp)
def j5J{kvs:List (κ×V)}{k:κ}{v:V}(h:valV kvs k=some v):k∈kvs.map (·.1):=by
 have q:(kvs.any λkv=>decide (kv.1=k))=true:=by
  rw[yG,h]
  all_goals rfl
 obtain⟨p,a,e⟩:=any_eq_true.mp q;exact vK.mpr ⟨p,a,of_decide_eq_true e⟩
end
def compLoopT{R:Result->Shared->Prop}(I:Nat->Shared->Prop)
  (u:∀n s,I n s->wpAny (model prog w) A (pyNext it) (λr b=>match r with
   | none=>R (.ok .next) b
   | some v=>wpAny (model prog w) A (letOwnedTupleGo target it v) (λ_ g=>wpAny (model prog w) A (assign target env v) (λ_ i=>
     wpAny (model prog w) A (forIn ifs true λc r=>if r=true then do let t <-isTrue c env (eval c env);pure (ForInStep.yield t)else pure (ForInStep.yield r)) (λt d=>
      if t=true then wpAny (model prog w) A (eval elt env) (λx j=>
       wpAny (model prog w) A (call (.builtin "list.append") [acc,x]) (λ_ k=>∃m,m<n/\I m k) (λ_ _=>False) j) (λ_ _=>False) d
      else∃m,m<n/\I m d) (λ_ _=>False) i) (λ_ _=>False) g) (λ_ _=>False) b) (λ_ _=>False) s)
  (n:Nat) (h:I n s) :
  codeAny (model prog w) A (.compLoop (.ListComp elt [⟨target,iter,ifs,0⟩] scope pos) 0 it acc env) R s:=by
 refine codeAny_loop rfl I (λn s y=>?_) n h;show wpAny _ A ((compTurn (.ListComp elt [⟨target,iter,ifs,0⟩] scope pos) 0 it acc env).onRaise (λx=>do noteFrame x env;theTreesLotGoes x)) _ _ s;refine wpAny_noted ?_;rw[compTurn_list];refine ug (wpAny_standAt (ug (wpAny_mono (u n s y) (λr b e=>?_) λ_ _ a=>a.elim)));cases r with
 | none=>exact uf e
 | some v=>
  refine ug (wpAny_mono e (λ_ g l=>?_) λ_ _ a=>a.elim);refine ug (wpAny_mono l (λ_ i o=>ug (wpAny_mono o (λt d f=>?_) λ_ _ a=>a.elim)) λ_ _ a=>a.elim);cases t with
  | false=>exact uf ⟨rfl,f⟩
  | true=>
   exact ug (ug (wpAny_mono f (λx j p=>ug (wpAny_mono p (λ_ k q=>uf (uf ⟨rfl,q⟩)) λ_ _ a=>a.elim)) λ_ _ a=>a.elim))
def PF(X:Cx)(ifs:List Expr)(t:TT):Prop:=
 ∀(pins:List (Addr×Obj)) (s:Shared) (σ:St) (H:Hp) (Q:Bool->Hp->Prop),Inv X pins σ H s->t σ H Q->
  wpAny (model X.prog X.w) X.A (forIn ifs true λc r=>if r=true then do let ok <-isTrue c X.env (eval c X.env);pure (ForInStep.yield ok)else pure (ForInStep.yield r)) (TP X pins σ Q) X.xe s
def tYes:TT:=λ_ H Q=>Q true H
def Jt:PF X [] tYes:=λ_ _ _ H _ I h=>wpAny_tests_nil ⟨H,I,h⟩
def j0O(b:PT X c t):PF X [c] t:=λa s d H Q I h=>wpAny_tests_one (b a s d H Q I h)
noncomputable def closL(env:Env):List (Str×NameKind)->List (Str×Addr)->List (Str×Addr)
 | [],acc=>acc
 | (n,k)::r,acc=>closL env r (if k == .free then(n,(env.cells.lookup n).getD 0)::acc else acc)
def Yt(h:∀y∈scope.names,y.2 = .free->∃c,env.cells.lookup y.1=some c):closureFor scope env=pure (closL env scope.names []):=by
 have l:∀(names:List (Str×NameKind)) (b:List (Str×Addr)),(∀y∈names,y.2 = .free->∃c,env.cells.lookup y.1=some c)->
   (forIn (m:=Sem) names b λx r=>(match x with | (name,kind)=>if(kind == .free)=true then do let a <-cellOf env name;pure (ForInStep.yield ((name,a)::r))else pure (ForInStep.yield r)))=pure (closL env names b):=by
  intro names
  induction names with
  | nil=>intro b _;rfl
  | cons y r ih=>
   obtain⟨n,k⟩:=y;intro b d;rw[List.forIn_cons];cases hk:(k==NameKind.free)with
   | true=>
    have e:k = .free:=by simpa using hk
    obtain⟨c,i⟩:=d (n,k) vq e;have j:cellOf env n=pure c:=by unfold cellOf;rw[i]
    simp only[hk,if_true,j,pure_bind,closL,i,Option.getD_some];exact ih _ λy f=>d y (vp _ f)
   | false=>
    simp only[hk,Bool.false_eq_true,if_false,pure_bind,closL];exact ih _ λy f=>d y (vp _ f)
 have g:=l scope.names [] h;unfold closureFor;simp only[g,pure_bind]
theorem Wu:∀(names:List (Str×NameKind)) (a:List (Str×Addr)),(∀y∈names,y.2 = .free->∃c,env.cells.lookup y.1=some c)->(∀x c,a.lookup x=some c->env.cells.lookup x=some c)->
  ∀x c,(closL env names a).lookup x=some c->env.cells.lookup x=some c
 | [],_,_,ha,x,c,h=>ha x c h
 | (n,k)::r,a,hh,ha,x,c,h=>by
  refine Wu r _ (λy f=>hh y (vp _ f)) (λx c e=>?_) x c h;cases hk:(k==NameKind.free)with
  | false=>rw[hk]at e;exact ha x c e
  | true=>
   rw[hk]at e;have b:k = .free:=by simpa using hk
   obtain⟨g,d⟩:=hh (n,k) vq b;simp only[if_true,d,Option.getD_some]at e;rw[lookup_cons]at e;cases hx:(x==n)with
   | true=>
    rw[hx]at e;have:x=n:=by simpa using hx
    rw[this,d];exact e
   | false=>rw[hx]at e;exact ha x c e
theorem Wt:∀(names:List (Str×NameKind)) (a:List (Str×Addr)) (x:Str),(∃c,a.lookup x=some c)->∃c,(closL env names a).lookup x=some c
 | [],_,_,h=>h
 | (n,k)::r,a,x,h=>by
  refine Wt r _ x ?_;cases hk:(k==NameKind.free)with
  | false=>exact h
  | true=>
   simp only[if_true];rw[lookup_cons];cases hx:(x==n)with
   | true=>exact⟨_,rfl⟩
   | false=>exact h
theorem kr:∀(names:List (Str×NameKind)) (a:List (Str×Addr)) (x:Str),(x,NameKind.free)∈names->∃c,(closL env names a).lookup x=some c
 | [],_,_,h=>by simp at h
 | (n,k)::r,a,x,h=>by
  rcases mem_cons.mp h with e | h
  .cases e;refine Wt r _ _ ?_;simp
  .exact kr r _ x h
theorem zt{env:Env}:∀{names:List (Str×NameKind)} {x:Str} {k:NameKind},(names.map λ(n,k)=>if(k==NameKind.free&&env.scope.kind == .function&&env.kindOf n==some .cell)then(n,NameKind.cell)else(n,k)).lookup x=some k->
  ∃b,(x,b)∈names/\names.lookup x=some b/\(b=k\/(b = .free/\k = .cell))
 | [],_,_,h=>by simp at h
 | (n,k₀)::r,x,k,h=>by
  have i:=@zt env r x k;rw[uy]at h;dsimp only at h;cases hx:x==n with
  | true=>
   have e:x=n:=by simpa using hx
   subst e;refine⟨k₀,vq,by simp,?_⟩;by_cases a:(k₀==NameKind.free&&env.scope.kind == .function&&env.kindOf x==some .cell)=true
   .rw[vd a]at h;simp only[lookup_cons,beq_self_eq_true]at h;simp only[Bool.and_eq_true,beq_iff_eq]at a;exact .inr ⟨a.1.1,(vL h).symm⟩
   .rw[vc a]at h;simp only[lookup_cons,beq_self_eq_true]at h;exact .inl (vL h)
  | false=>
   have c:(r.map λ(n,k)=>if(k==NameKind.free&&env.scope.kind == .function&&env.kindOf n==some .cell)then(n,NameKind.cell)else(n,k)).lookup x=some k:=by
    by_cases a:(k₀==NameKind.free&&env.scope.kind == .function&&env.kindOf n==some .cell)=true
    .rw[vd a]at h;simpa only[lookup_cons,hx]using h
    .rw[vc a]at h;simpa only[lookup_cons,hx]using h
   obtain⟨b,d,f,g⟩:=i c;exact⟨b,vp _ d,by simpa only[lookup_cons,hx]using f,g⟩
theorem kq:∀(names:List (Str×NameKind)) (n:Nat) (a:List (Str×Addr)) (x:Str) (c:Addr),(cellsFrom n names a).lookup x=some c->n<=c\/a.lookup x=some c
 | [],_,_,_,_,h=>.inr h
 | (y,k)::r,n,a,x,c,h=>by
  unfold cellsFrom at h;split at h
  .rcases kq r (n+1) _ x c h with q | q
   .exact .inl ⋯
   .rw[lookup_cons]at q;cases hx:x==y with
    | true=>rw[hx]at q;cases q;exact .inl (vb _)
    | false=>rw[hx]at q;exact .inr q
  .exact kq r n a x c h
theorem j0i:∀(names:List (Str×NameKind)) (n:Nat) (a:List (Str×Addr)),(∀x c,a.lookup x=some c->c<n)->(∀x y c,a.lookup x=some c->a.lookup y=some c->x=y)->
  ∀x y c,(cellsFrom n names a).lookup x=some c->(cellsFrom n names a).lookup y=some c->x=y
 | [],_,_,_,hi,x,y,c,h1,h2=>hi x y c h1 h2
 | (z,k)::r,n,a,hb,hi,x,y,c,h1,h2=>by
  unfold cellsFrom at h1 h2;split at h1
  .rename_i hk;rw[vd hk]at h2;refine j0i r (n+1) _ (λx c e=>?_) (λx y c d b=>?_) x y c h1 h2
   .rw[lookup_cons]at e;cases hx:x==z with
    | true=>rw[hx]at e;cases e;exact Nat.lt_succ_self _
    | false=>rw[hx]at e;exact Nat.lt_succ_of_lt (hb x c e)
   .rw[lookup_cons]at d b;cases hx:x==z with
    | true=>
     rw[hx]at d;cases d;cases hy:y==z with
     | true=>rw[beq_iff_eq.mp hx,beq_iff_eq.mp hy]
     | false=>rw[hy]at b;exact ue (hb y n b) (Nat.lt_irrefl _)
    | false=>
     rw[hx]at d;cases hy:y==z with
     | true=>rw[hy]at b;cases b;exact ue (hb x n d) (Nat.lt_irrefl _)
     | false=>rw[hy]at b;exact hi x y c d b
  .rename_i hk;rw[vc hk]at h2;exact j0i r n a hb hi x y c h1 h2
theorem xa:∀(names:List (Str×NameKind)) (n:Nat) (a:List (Str×Addr)) (x:Str),(∃c,a.lookup x=some c)->∃c,(cellsFrom n names a).lookup x=some c
 | [],_,_,_,h=>h
 | (y,k)::r,n,a,x,h=>by
  unfold cellsFrom;split
  .refine xa r (n+1) _ x ?_;rw[lookup_cons];cases hx:x==y with
   | true=>exact⟨_,rfl⟩
   | false=>exact h
  .exact xa r n a x h
theorem j0h:∀(names:List (Str×NameKind)) (n:Nat) (a:List (Str×Addr)) (x:Str),(x,NameKind.cell)∈names->∃c,(cellsFrom n names a).lookup x=some c
 | [],_,_,_,h=>by simp at h
 | (y,k)::r,n,a,x,h=>by
  unfold cellsFrom;rcases mem_cons.mp h with e | h
  .cases e;simp only[beq_self_eq_true,if_true];exact xa r _ _ _ (by simp)
  .split
   .exact j0h r _ _ x h
   .exact j0h r _ _ x h
theorem j0k:∀(names:List (Str×NameKind)) (n:Nat) (a:List (Str×Addr)) (x:Str),(x,NameKind.cell)∉names->(cellsFrom n names a).lookup x=a.lookup x
 | [],_,_,_,_=>rfl
 | (y,k)::r,n,a,x,h=>by
  have b:(x,NameKind.cell)∉r:=λq=>h (vp _ q)
  unfold cellsFrom;split
  .rename_i hk;rw[j0k r _ _ x b,lookup_cons];cases hx:x==y with
   | true=>rw[beq_iff_eq.mp hx,beq_iff_eq.mp hk]at h;exact ue vq h
   | false=>rfl
  .exact j0k r n a x b
theorem j0j:∀(names:List (Str×NameKind)) (a n:Nat) (b:List (Str×Addr)) (x:Str) (c:Addr),a<=n->((x,NameKind.cell)∈names\/∀c,b.lookup x=some c->a<=c)->(cellsFrom n names b).lookup x=some c->a<=c
 | [],_,_,_,_,c,_,h,e=>h.elim (λz=>by simp at z) λz=>z c e
 | (y,k)::r,a,n,b,x,c,hn,h,e=>by
  unfold cellsFrom at e;split at e
  .refine j0j r a (n+1) _ x c ⋯ ?_ e;rcases h with h | h
   .rcases mem_cons.mp h with q | q
    .cases q;exact .inr λc q=>by rw[lookup_cons,beq_self_eq_true]at q;cases q;exact hn
    .exact .inl q
   .refine .inr λc q=>?_
    rw[lookup_cons]at q;cases hx:x==y with
    | true=>rw[hx]at q;cases q;exact hn
    | false=>rw[hx]at q;exact h c q
  .rename_i hk;refine j0j r a n b x c hn ?_ e;rcases h with h | h
   .rcases mem_cons.mp h with q | q
    .cases q;exact ue rfl hk
    .exact .inl q
   .exact .inr h
theorem KU:∀(names:List (Str×NameKind)) (h:Heap) (a:List (Str×Addr)) (x:Str) (c:Addr),(cellsFrom h.objs.size names a).lookup x=some c->a.lookup x=some c\/(pushCells h names).IsCell c none
 | [],_,_,_,_,e=>.inl e
 | (y,k)::r,h,a,x,c,e=>by
  unfold cellsFrom at e;unfold pushCells;split
  .rename_i hk;rw[vd hk]at e;rw[<-Heap.size_push h {cls:=.type "cell",data:=.cell none}]at e;rcases KU r _ _ x c e with q | q
   .rw[lookup_cons]at q;cases hx:x==y with
    | true=>
     rw[hx]at q;cases q;exact .inr ⟨_,pushCells_keeps _ _ _ _ (Heap.get?_push_size _ rfl),rfl⟩
    | false=>rw[hx]at q;exact .inl q
   .exact .inr q
  .rename_i hk;rw[vc hk]at e;exact KU r h a x c e
def envC{E:Value->Shared->Prop}{Q:Env->Shared->Prop}
  (h:Q (newEnv scope s.heap.objs.size globals (cellsFrom (s.heap.objs.size+1) scope.names cl) qual none .none (some env) builtinsNs) {s with heap:=pushCells (s.heap.push {cls:=.type "dict",data:=.dict #[]}) scope.names}) :
  wpAny M A (newFunctionEnv scope globals cl [] qual none .none (some env)) Q E s:=by
 simp only[newFunctionEnv,Option.isSome_some,if_true];refine ug (wpAny_alloc ?_);refine ug (wpAny_layCells _ (λc a b=>by cases hkc:a==NameKind.cell<;>simp[hkc]) _ _ _ _ ?_);rw[show({s with heap:=s.heap.push {cls:=.type "dict",data:=.dict #[]}}:Shared).heap.objs.size=s.heap.objs.size+1 from Heap.size_push ..];rw[List.forIn_nil];exact ug (uf (uf h))
noncomputable def blk(X:Cx)(scope:Scope)(ow:L8)(ci:L6)(C:Addr)(s₀:Shared)(H₀:Hp)(ex:L7)(pn:List (Addr×Obj)):Cx:=
 {X with N:=ow++ci.map λj=>X.N.getD j "",s₀:=s₀,H₀:=H₀,env:=compEnvC scope (cellsFrom (C+1) scope.names (closL X.env scope.names [])) C X.env,outer:=X.stack,stack:=X.stack,ex:=ex,fn:=λx=>scope.names.lookup x==some .cell,pn:=pn,xe:=λ_ _=>False}
structure CompScope(X:Cx)(scope:Scope)(ow:L8)(ci:L6):Prop where
 kind:scope.kind = .function
 cell:∀y∈scope.names,y.2 = .cell->scope.names.lookup y.1=some .cell
 names:∀y∈scope.names,y.2 = .local->scope.names.lookup y.1=some .local
 free:∀y∈scope.names,y.2 = .free->X.env.kindOf y.1=some .cell\/X.env.kindOf y.1=some .free
 ix:∀j∈ci,j<X.N.length/\scope.names.lookup (X.N.getD j "")=some .free
noncomputable def compOk(fsc:Scope)(N:L8)(scope:Scope)(ci:L6):Bool:=
 scope.kind == .function&&scope.names.all (λy=>y.2 != .cell||scope.names.lookup y.1==some .cell)&&scope.names.all (λy=>y.2 != .local||scope.names.lookup y.1==some .local) &&
 scope.names.all (λy=>y.2 != .free||fsc.names.lookup y.1==some .cell||fsc.names.lookup y.1==some .free)&&ci.all (λj=>decide (j<N.length)&&scope.names.lookup (N.getD j "")==some .free)
def CompScope.of(a:Scope)(N:L8)(c:X.env.scope=a)(d:X.N=N)(h:compOk a N scope ci=true):CompScope X scope ow ci:=by
 subst c d;unfold compOk at h;simp only[Bool.and_eq_true,all_eq_true,Bool.or_eq_true,bne_iff_ne,ne_eq,beq_iff_eq,decide_eq_true_eq]at h;obtain⟨⟨⟨⟨f,g⟩,i⟩,k⟩,l⟩:=h;refine⟨f,λy b e=>(g y b).resolve_left λz=>z e,λy b e=>?_,λy b e=>?_,λj m=>l j m⟩
 .rcases i y b with z | z
  .exact ue e z
  .exact z
 .rcases k y b with(z | z) | z
  .exact ue e z
  .exact .inl z
  .exact .inr z
def jT{a:Hp}(N:L8)(e:X.N=N)(h:(ow++ci.map λj=>N.getD j "").Nodup):(blk X scope ow ci C s₀ a ex pn).N.Nodup:=by
 subst e;exact h
noncomputable def capAt(σ:St)(j:Nat):N3:=match σ[j]? with | some o=>o | none=>none
noncomputable def capS(n:Nat)(ci:L6)(σ:St):St:=List.replicate n none++ci.map (capAt σ)
def tComp(wi:TI)(n:Nat)(ci:L6)(g:TG)(tf:TT)(te:TE):TE:=λσ H Q=>wi σ H λJ H1=>∃W:Nat->Nat->N2->Hp->Prop,(∃m,W 0 m [] H1)/\∀i m ys H,W i m ys H->
 (J.stop i H/\ys.length<=sizeLine/\∀p,H p=none->Q (.ref p) (upd H p (.lst ys)))\/
 (J.go i H/\∃N:N2->Hp->Prop,(∀ys' H',N ys' H'->∃m',m'<m/\W (i+1) m' ys' H')/\∀x H',J.yld i H x H'->g x (capS n ci σ) H' λσ2 H2=>tf σ2 H2 λb H3=>
  if b=true then te σ2 H3 λv H4=>ys.length<sizeLine/\N (ys++[v]) H4 else N ys H3)
section
variable{X:Cx}{pins:List (Addr×Obj)}{σ:St}{H:Hp}{s:Shared}{elt iter tg:Expr}{ifs:List Expr}{scope:Scope}{pos:Pos}{ow:L8}{ci:L6}{g:TG}{tf:TT}{te:TE}
def CompScope.cells(S:CompScope X scope ow ci)(b:X.Ok):∀y∈scope.names,y.2 = .free->∃c,X.env.cells.lookup y.1=some c:=λy a e=>b.has y.1 (S.free y a e)
def CompScope.sub(S:CompScope X scope ow ci)(a:X.Ok):∀x c,(closL X.env scope.names []).lookup x=some c->X.env.cells.lookup x=some c:=
 Wu scope.names [] (S.cells a) λ_ _ e=>by simp at e
def CompScope.cel(S:CompScope X scope ow ci)(a:X.Ok)(h:(cellsFrom (C+1) scope.names (closL X.env scope.names [])).lookup x=some c):C+1<=c\/X.env.cells.lookup x=some c:=
 (kq _ _ _ _ _ h).imp id (S.sub a x c)
def j63(S:CompScope X scope ow ci)(I:Inv X pins σ H s)(f:s.heap.objs.size<=C)
  (a:∀b∈ex,b<s.heap.objs.size/\FpOk X pins H b):(blk X scope ow ci C s H ex pn).Ok where
 mod:=I.ok.mod
 kind:=S.kind
 glob:=I.ok.glob
 blt:=I.ok.blt
 above:=f
 inj:=j0i scope.names (C+1) _ (λx c e=>by
   obtain⟨v,q⟩:=I.cell x c (S.sub I.ok x c e);exact Nat.lt_succ_of_le (vY (Nat.lt_of_lt_of_le q.lt f))) λx y c i j=>I.ok.inj x y c (S.sub I.ok x c i) (S.sub I.ok y c j)
 has:=λx h=>by
  have n:∃k,(relabel scope X.env).names.lookup x=some k/\(k = .cell\/k = .free):=by
   rcases h with h | h
   .exact⟨_,h,.inl rfl⟩
   .exact⟨_,h,.inr rfl⟩
  obtain⟨k,t,r⟩:=n;obtain⟨m,l,_,e⟩:=zt (env:=X.env) t;have g:m = .cell\/m = .free:=by
   rcases e with e | ⟨e,_⟩
   .subst e;exact r
   .exact .inr e
  rcases g with g | g
  .subst g;exact j0h scope.names _ _ x l
  .subst g;exact xa scope.names _ _ x (kr scope.names [] x l)
 cab:=λx c h e=>vW (vW f (Nat.le_succ _)) (j0j scope.names (C+1) (C+1) _ x c (vb _) (.inl (PySem.mem_of_lookup (beq_iff_eq.mp h))) e)
 hd:=I.ok.hd
 frames:=I.ok.frames
 stk:=.inl rfl
 exf:=λb d=>⟨vE (Nat.lt_of_lt_of_le (a b d).1 f),λx c e=>(S.cel I.ok e).elim (λq z=>Nat.lt_irrefl _ (Nat.lt_of_lt_of_le (z▸(a b d).1) (vW f (vW (Nat.le_succ _) q)))) λq=>(a b d).2.2.2.2.2.1 x c q⟩
 bs:=I.bs
 bsz:=vW I.ok.bsz I.sz
 noex:=λb o e d=>by
  obtain⟨_,_,_,p,_⟩:=(a b d).2;rcases p with z | z
  .exact I.ok.noex b o e z
  .exact ue (Nat.lt_of_lt_of_le (vI e) (vW I.ok.bsz z)) (Nat.lt_irrefl _)
 exfs:=λb d z=>by
  obtain⟨_,i,j,_⟩:=(a b d).2;rcases mem_cons.mp (I.stkSub b z)with e | e
  .exact i e
  .exact j e
 funs:=I.stack
 frf:=I.stkFree
def j23(S:CompScope X scope ow ci)(I:Inv X pins σ H s){h:Str->Option Value}(D:s.heap.objs.size<=C)
  (F:∀b∈ex,b<s.heap.objs.size/\FpOk X pins H b) (Z:h₁.Ns C h) (k:∀b o,s.heap.get? b=some o->h₁.get? b=some o)
  (A:∀x c,(cellsFrom (C+1) scope.names (closL X.env scope.names [])).lookup x=some c->(closL X.env scope.names []).lookup x=some c\/h₁.IsCell c none) :
  Inv (blk X scope ow ci C s H ex (X.pn++pins)) [] (capS ow.length ci σ) H {s with heap:=h₁,toks:=t₁}:=by
 have ok:=j63 (pn:=X.pn++pins) S I D F;refine⟨ok,rfl,I.bare,Un.kept k,⟨h,Z,λi x v Q f R=>?_⟩,λx c e=>?_,I.hok.fresh D,λx c e=>(S.cel I.ok e).elim (λq=>I.hok.fresh (vW D (vW (Nat.le_succ _) q))) (I.freeC x c),λp hp=>?_,I.hok.kept k,?_⟩
 .have l:(ow++ci.map λj=>X.N.getD j "")[i]?=some x:=Q;unfold capS at f;by_cases G:i<ow.length
  .rw[vB (by simpa using G),List.getElem?_replicate,vd G]at f;cases f
  .rw[vC (by simpa using G),vv,length_replicate]at f;rw[vC ⋯,vv]at l;cases hj:ci[i-ow.length]? with
   | none=>rw[hj]at f;cases f
   | some j=>
    rw[hj]at l f;obtain⟨Y,E⟩:=S.ix j (vm hj);have w:X.N.getD j ""= x:=vL l;have T:X.N[j]?=some x:=by
     rw[<-w,vy,vz Y];rfl
    have U:σ[j]?=some (some v):=by
     have a:capAt σ j=some v:=vL f;unfold capAt at a;cases q:σ[j]? with
     | none=>rw[q]at a;cases a
     | some o=>rw[q]at a;rw[show o=some v from a]
    rw[w]at E;have g:(x,NameKind.free)∈scope.names:=PySem.mem_of_lookup E;have N:=S.free _ g rfl;obtain⟨m,_,J⟩:=I.loc;have L:Vis X.env.scope x:=by
     rcases N with q | q
     .exact .inr (.inl q)
     .exact .inr (.inr q)
    obtain⟨u,r,lk⟩:=J j x v T U L;refine⟨u,r,.inr ⟨?_,?_⟩⟩
    .rcases R with q | q | q
     .obtain⟨k',_,M,B⟩:=zt (env:=X.env) q;rw[E]at M;cases M;rcases B with B | ⟨_,B⟩<;>cases B
     .exact .inl q
     .exact .inr q
    .rcases lk with⟨q,_⟩ | ⟨_,c,W,t⟩
     .have O:X.env.kindOf x=some .local:=q;rcases N with z | z<;>(rw[z]at O;cases O)
     .obtain⟨P,y⟩:=kr (env:=X.env) scope.names [] x g;have e:=S.sub I.ok x P y;rw[W]at e;cases e;refine⟨c,?_,t.keeps k⟩;show(cellsFrom (C+1) scope.names (closL X.env scope.names [])).lookup x=some c;rw[j0k scope.names _ _ x λz=>?_]
      .exact y
      .have:=S.cell _ z rfl;rw[E]at this;cases this
 .rcases A x c e with q | q
  .obtain⟨v,q⟩:=I.cell x c (S.sub I.ok x c q);exact⟨v,q.keeps k⟩
  .exact⟨_,q⟩
 .have K:p∈X.pn++pins:=by
   rcases vh.mp hp with z | z
   .exact z
   .cases z
  obtain⟨e,n,ne,nf,d⟩:=I.pin p K;refine⟨k _ _ e,n,vE (Nat.lt_of_lt_of_le (vI e) D),λz=>?_,d⟩;rcases mem_cons.mp (I.stkSub p.1 z)with q | q
  .exact ne q
  .exact nf q
 .show(capS ow.length ci σ).length=(ow++ci.map λj=>X.N.getD j "").length;simp[capS]
def Inv.forget{S':St}(I:Inv X pins S' H s)(n:Nat)(ci:L6)(a:St)(c:(capS n ci a).length=X.N.length)(h:∀i v,n<=i->(capS n ci a)[i]?=some (some v)->S'[i]?=some (some v)):Inv X pins (capS n ci a) H s:=
 I.weak (by rw[c,I.len]) λi v e=>by
  by_cases b:n<=i
  .exact h i v b e
  .unfold capS at e;rw[vB (by simpa using b),List.getElem?_replicate,vd ⋯]at e;cases e
def GKeeps(n:Nat)(g:TG):Prop:=∀x σ H (Q:St->Hp->Prop),g x σ H Q->g x σ H λσ2 H2=>(∀(i:Nat) v,n<=i->σ[i]?=some (some v)->σ2[i]?=some (some v))/\Q σ2 H2
def Jy(h:i<n):GKeeps n (gName i):=λx b H Q q=>⟨λj v a e=>by rw[List.getElem?_set_ne ⋯];exact e,q⟩
def yN{K:Frg}{n i j:Nat}(hi:i<n)(p:j<n):GKeeps n (gTup K 2 (gCons (gName i) (gCons (gName j) gNil))):=λx t H Q q=>by
 obtain⟨a,o,b,c,d,v,r,f,m,l,g,h,q⟩:=q;refine⟨a,o,b,c,d,v,r,f,m,l,g,h,λk u s e=>?_,q⟩;rw[List.getElem?_set_ne ⋯,List.getElem?_set_ne ⋯];exact e
def KW{E:Value->Shared->Prop}{tn:Nat->Heap->Prop}{RR:Value->Addr->Result->Shared->Prop}(hc:X.calm=true)(S:CompScope X scope ow ci)(hk:GKeeps ow.length g)
  (a:∀C F y ex pn,PG (blk X scope ow ci C F y ex pn) tg g/\PF (blk X scope ow ci C F y ex pn) ifs tf/\PE (blk X scope ow ci C F y ex pn) elt te)
  (I:Inv X pins σ H s) (T:Turn X.prog X.w X.K tg J fp it tn) (st:tn 0 s.heap) (hf:∀b∈fp,FpOk X pins H b) (Z:N2->Hp->Prop)
  (W:Nat->Nat->N2->Hp->Prop) (w0:∃m,W 0 m [] H)
  (aO:∀i m ys H,W i m ys H->(J.stop i H/\ys.length<=sizeLine/\Z ys H)\/
   (J.go i H/\∃N:N2->Hp->Prop,(∀aP H',N aP H'->∃m',m'<m/\W (i+1) m' aP H')/\∀x H',J.yld i H x H'->g x (capS ow.length ci σ) H' λaQ H2=>tf aQ H2 λb H3=>
    if b=true then te aQ H3 λv H4=>ys.length<sizeLine/\N (ys++[v]) H4 else N ys H3))
  (aX:∀D C s' H' m ys,Inv X pins σ (upd H' D (.lst ys)) s'->H' D=none->Z ys H'->s'.heap.Ns C m->s.heap.objs.size<=C->C≠D->H' C=none->RR (.ref D) C (.ok .next) s') :
  wpAny (model X.prog X.w) X.A (newList []) (λan aM=>wpAny (model X.prog X.w) X.A (newFunctionEnv scope X.env.globals (closL X.env scope.names []) [] X.env.qual none .none (some X.env)) (λa6 aN=>
   codeAny (model X.prog X.w) X.A (.compStart (.ListComp elt [⟨tg,iter,ifs,0⟩] scope pos) 0 (.ref it) an {a6 with scope:=relabel scope X.env}) (RR an a6.locals) aN) E aM) E s:=by
 refine wpAny_newObj_type (envC ?_);dsimp only;generalize O:({s with heap:=s.heap.push {cls:=.type "list",dict:=none,data:=.seq ([]:L9).toArray}}:Shared)=s3;have e3:s3.heap=s.heap.push {cls:=.type "list",dict:=none,data:=.seq ([]:L9).toArray}:=by rw[<-O]
 rw[<-e3];generalize ad:pushCells (s3.heap.push {cls:=.type "dict",data:=.dict #[]}) scope.names=h₁;have k3:∀b o,s.heap.get? b=some o->s3.heap.get? b=some o:=λb o e=>by rw[e3];exact vJ _ e
 have hsz:s3.heap.objs.size=s.heap.objs.size+1:=by rw[e3,Heap.size_push]
 have I3:Inv X pins σ H s3:=by rw[<-O];exact I.kept (t':=s.toks) λb o e=>vJ _ e
 have b3:s3.heap.get? s.heap.objs.size=some {cls:=.type "list",dict:=none,data:=.seq ([]:L9).toArray}:=by rw[e3];exact Heap.get?_push_size _ rfl
 generalize ac:s.heap.objs.size=D at *;generalize l:s3.heap.objs.size=C at *;have A:D<C:=⋯
 have ar:H D=none:=I.hok.fresh (Nat.le_of_eq ac);have aY:FpOk X pins H D:=I.fpOk (Nat.le_of_eq ac) ar;have ae:∀(b:Addr) o,s.heap.get? b=some o->b<D:=λb o e=>by rw[<-ac];exact vI e
 have bc:∀(b:Addr) o,s3.heap.get? b=some o->b<C:=λb o e=>by rw[<-l];exact vI e
 have a8:∀b∈fp,b<D:=λb a=>by
  obtain⟨o,e,_⟩:=T.obj 0 _ st b a;exact ae b o e
 have G:∀b∈D::fp,b<s3.heap.objs.size/\FpOk X pins H b:=λb a=>by
  rw[l];rcases mem_cons.mp a with rfl | a
  .exact⟨A,aY⟩
  .exact⟨Nat.lt_trans (a8 b a) A,hf b a⟩
 have kk:∀b o,s3.heap.get? b=some o->h₁.get? b=some o:=λb o e=>by rw[<-ad];exact pushCells_keeps _ _ b o (vJ _ e)
 have M:h₁.Ns C λ_=>none:=by rw[<-ad,<-l];exact(Heap.Ns.new s3.heap (.type "dict")).keeps (pushCells_keeps _ _)
 have ay:∀x c,(cellsFrom (C+1) scope.names (closL X.env scope.names [])).lookup x=some c->(closL X.env scope.names []).lookup x=some c\/h₁.IsCell c none:=λx c e=>by
  rw[<-ad];refine KU scope.names _ _ x c ?_;rw[Heap.size_push,l];exact e
 obtain⟨hg,av,he⟩:=a C s3 H (D::fp) (X.pn++pins);generalize w:blk X scope ow ci C s3 H (D::fp) (X.pn++pins)=Y at hg av he;have f:Y.prog=X.prog:=by rw[<-w];rfl
 have Yw:Y.w=X.w:=by rw[<-w];rfl
 have YK:Y.K=X.K:=by rw[<-w];rfl
 have YA:Y.A=X.A:=by rw[<-w];rfl
 have Yc:Y.calm=true:=by rw[<-w];exact hc
 have h:Y.env=compEnvC scope (cellsFrom (C+1) scope.names (closL X.env scope.names [])) C X.env:=by rw[<-w];rfl
 have aa:Y.xe=λ_ _=>False:=by rw[<-w];rfl
 have am:Y.fs=frs X.stack:=by rw[<-w];rfl
 have al:Y.ex=D::fp:=by rw[<-w];rfl
 have aV:Y.pn=X.pn++pins:=by rw[<-w];rfl
 have Ys:Y.s₀=s3:=by rw[<-w];rfl
 have YH:Y.H₀=H:=by rw[<-w];rfl
 have YN:(capS ow.length ci σ).length=Y.N.length:=by rw[<-w];show(capS ow.length ci σ).length=(ow++ci.map λj=>X.N.getD j "").length;simp[capS]
 have af:∀b∈D::fp,b≠Y.env.locals/\b∉Y.fs/\b∈Y.ex/\(∀x c,Y.env.cells.lookup x=some c->c≠b)/\∀p∈Y.pn,p.1≠b:=λb a=>by
  obtain⟨h0,h1,h2,h3,h4,h5⟩:=(G b a).2;refine⟨by rw[h];exact vE (l▸(G b a).1),λz=>?_,by rw[al];exact a,λx c e=>?_,by rw[aV];exact h5⟩
  .rw[am]at z;rcases mem_cons.mp (I.stkSub b z)with q | q
   .exact h1 q
   .exact h2 q
  .rw[h]at e;rcases S.cel I.ok e with q | q
   .exact λz=>Nat.lt_irrefl _ (Nat.lt_of_lt_of_le (l▸(G b a).1) (vW (Nat.le_succ _) (z▸q)))
   .exact h4 x c q
 have aE:D∉fp:=λz=>Nat.lt_irrefl _ (a8 D z)
 have aC:∀s4:Shared,Inv Y [] (capS ow.length ci σ) H s4->tn 0 s4.heap->s4.heap.PlainList D #[]->
   codeAny (model X.prog X.w) X.A (.compLoop (.ListComp elt [⟨tg,iter,ifs,0⟩] scope pos) 0 (.ref it) (.ref D) (compEnvC scope (cellsFrom (C+1) scope.names (closL X.env scope.names [])) C X.env)) (RR (.ref D) C) s4:=by
  intro s4 J4 Q ag;obtain⟨m0,w0⟩:=w0;refine compLoopT (λn s'=>∃i ys k H',Inv Y [] (capS ow.length ci σ) H' s'/\tn i s'.heap/\(∀b∈fp,H' b=none)/\H' D=none/\s'.heap.PlainList D k/\Vals ys k.toList/\W i n ys H') ?_ m0
   ⟨0,[],#[],H,J4,Q,λb a=>(hf b a).1,ar,ag,.nil,w0⟩
  rintro n s5 ⟨i,ys,k,U,J5,aJ,ap,t,⟨aG,b8⟩,R,w5⟩;have vl:ys.length=k.size:=by have:=R.length;simpa using this
  have pinD:∀{H':Hp} {s':Shared} {ai:St},Inv Y [] ai H' s'->H' D=none->∀{o:Obj},s'.heap.get? D=some o->(∀v,o.data≠.cell v)->Inv Y [(D,o)] ai H' s':=λ{H' s' ai} K hD o e d=>
   K.pins_of λp hp=>by
    have ep:p=(D,o):=by simpa using hp
    subst ep;obtain⟨a1,a2,_⟩:=af D vq;exact⟨e,hD,a1,a2,d⟩
  have P5:=pinD J5 t b8 (λv z=>by cases z);have ab:∀{H':Hp},(∀b∈fp,H' b=none)->∀{o:Obj},∀b∈fp,FpOk Y [(D,o)] H' b:=λ{H'} hn {o} b a=>by
   obtain⟨a1,a2,a3,a4,a5⟩:=af b (vp _ a);refine⟨hn b a,a1,a2,.inl a3,a4,λp hp=>?_⟩;rcases vh.mp hp with q | q
   .exact a5 p q
   .have ep:p=(D,o):=by simpa using q
    subst ep;exact λz=>aE (by have z':D=b:=z;rw[z'];exact a)
  rcases aO i n ys U w5 with⟨aL,aB,z5⟩ | ⟨go,NN,as,aK⟩
  .have d:=T.done Y f Yw YK Yc i [(D,_)] s5 _ U (λ_ _=>False) P5 (ab ap) aJ aL;rw[YA]at d;refine thn d λr s6 z_=>?_;obtain⟨hr,J6⟩:=z_
   subst hr;have D6:=(J6.pin (D,_) (mem_append_right _ vq)).1;obtain⟨mC,aw,_⟩:=J6.loc;rw[h]at aw;have ax:s6.heap.Ns C mC:=aw;have b2:U C=none:=by have:=J6.free;rw[h]at this;exact this
   refine aX D C s6 U mC ys ?_ t z5 ax (vY A) (Nat.ne_of_gt A) b2;have B:=J6.base;rw[am,al,YH,Ys]at B;have aD:∀b o,s.heap.get? b=some o->b≠D/\b≠C:=λb o e=>⟨vE (ae b o e),vE (Nat.lt_trans (ae b o e) A)⟩
   have P:∀b o,s.heap.get? b=some o->b∉fp->b∉D::fp:=λb o e a z=>by
    rcases mem_cons.mp z with q | q
    .exact(aD b o e).1 q
    .exact a q
   have uN:Un (frs X.stack) fp H (upd U D (.lst ys)) s.heap s6.heap:=by
    refine⟨λb o e n a hx=>B.keep b o (k3 b o e) n a (P b o e hx),λb o e n a hx=>B.slot b o (k3 b o e) n a (P b o e hx),λb o e n hx=>?_,λb o e hx=>B.there b o (k3 b o e) (P b o e hx),λb xs q=>?_,λb o u q=>?_,λb ps q=>?_⟩
    .rw[jo (aD b o e).1];exact B.free b o (k3 b o e) n (P b o e hx)
    .rw[jo (je (B.tups b xs q) t)];exact B.tups b xs q
    .rw[jo (je (B.frzs b o u q) t)];exact B.frzs b o u q
    .obtain⟨mo,q'⟩:=B.tbls b ps q;exact⟨mo,by rw[jo (je q' t)];exact q'⟩
   have az:HOk X.prog X.w U s6.heap:=by rw[<-f,<-Yw];exact J6.hok
   have aA:HOk X.prog X.w (upd U D (.lst ys)) s6.heap:=λb u e=>by
    by_cases au:b=D
    .subst au;rw[jz]at e;cases e;exact⟨aB,k.toList,_,R,by simpa using D6⟩
    .rw[jo au]at e;exact(az b u e).stay (λc v _ q=>q) (λc q=>by rw[jo (je q t)];exact q) λc xs q=>by rw[jo (je q t)];exact q
   refine I.call' (by rw[J6.os,Ys,<-O]) uN aA J6.bare λb a=>?_
   obtain⟨h0,h1,h2,h3,h4,h5⟩:=hf b a;exact⟨h3,h1,h4,h5⟩
  .have d:=T.item Y f Yw YK Yc i [(D,_)] s5 _ U (λ_ _=>False) P5 (ab ap) aJ go;rw[YA]at d;refine thn d λr s6 z_=>?_;obtain⟨u,hr,h6⟩:=z_
   subst hr;refine thn h6 λ_ s7 z_=>?_;obtain⟨x,H7,J7,r7,y7,ah,aZ⟩:=z_
   have aS:=J7.pinned (ab aZ) (T.obj _ _ ah);have h8:=hg _ s7 _ H7 x u _ aS r7 (hk _ _ _ _ (aK x H7 y7));rw[f,Yw,YA,h,aa]at h8;refine thn h8 λ_ s8 z_=>?_;obtain⟨aj,H8,J8,b6,q8⟩:=z_
   have h9:=av _ s8 aj H8 _ J8 q8;rw[f,Yw,YA,h,aa]at h9;refine thn h9 λb s9 z_=>?_;obtain⟨H9,J9,q9⟩:=z_
   have a0:∀{H':Hp} {s':Shared},Inv Y ([(D,({cls:=.type "list",data:=.seq k aG}:Obj))]++pinsAt fp s7.heap) aj H' s'->Inv Y [] (capS ow.length ci σ) H' s'/\tn (i+1) s'.heap/\(∀b∈fp,H' b=none)/\H' D=none/\s'.heap.get? D=some {cls:=.type "list",data:=.seq k aG}:=λ{H' s'} K=>by
    have pD:=K.pin (D,_) (mem_append_right _ (mem_append_left _ vq));refine⟨(K.pins_of (pins':=[]) (by simp)).forget _ _ _ YN (λj v hj e=>b6 j v hj e),T.keep _ _ _ ah λb a o e=>(K.pin (b,o) (mem_append_right _ (mem_append_right _ (ZK a e)))).1,λb a=>?_,pD.2.1,pD.1⟩;obtain⟨o,e,_⟩:=T.obj _ _ ah b a;exact(K.pin (b,o) (mem_append_right _ (mem_append_right _ (ZK a e)))).2.1
   cases b with
   | false=>
    rw[vc vF]at q9|-;obtain⟨m',hm,w9⟩:=as _ _ q9;obtain⟨K9,ba,b0,b4,e9⟩:=a0 J9;exact⟨m',hm,i+1,ys,k,H9,K9,ba,b0,b4,⟨_,e9⟩,R,w9⟩
   | true=>
    rw[vd rfl]at q9|-;have aq:=he _ s9 aj H9 _ J9 q9;rw[f,Yw,YA,h,aa]at aq;refine thn aq λz aH z_=>?_;obtain⟨v,ak,aR,b9,b5,b7⟩:=z_
    obtain⟨m',hm,bb⟩:=as _ _ b7;obtain⟨aT,aI,ao,a7,aW⟩:=a0 aR;refine wpAny_list_append_plain (hsz:=by rw[<-vl];exact vY b5) ⟨_,aW⟩ λb1 aF a9=>?_
    obtain⟨a1,a2,a3,a4,a5⟩:=af D vq;have aU:Inv Y [] (capS ow.length ci σ) ak {aH with heap:=b1}:=aT.turned (t':=aH.toks) (λb o a e=>(a9.2 b a).trans e) a7 a1 (.inl a3) a4 (λp hp=>a5 p (by simpa using hp));refine⟨m',hm,i+1,ys++[v],k.push z,ak,aU,T.keep _ _ _ aI λb a o e=>(a9.2 b (λq=>aE (q▸a))).trans e,ao,a7,aF,?_,bb⟩;rw[Array.toList_push];exact R.append (.cons b9 .nil)
 have J4:Inv Y [] (capS ow.length ci σ) H {s3 with heap:=h₁}:=by
  rw[<-w];exact j23 (t₁:=s3.toks) S I3 (Nat.le_of_eq l) G M kk ay
 have Q:tn 0 h₁:=T.keep _ _ _ st λb _ o e=>kk b o (k3 b o e)
 have ag:h₁.PlainList D #[]:=⟨_,kk _ _ b3⟩
 have L:=aC _ J4 Q ag;subst O;exact codeAny_compStart_list L (T.self _ 0 _ _ _ Q L)
variable{wi:TI}
def Jd(P:X.calm=true)(S:CompScope X scope ow ci)(R:GKeeps ow.length g)(hi:PI X tg iter wi)
  (n:∀C c a ex pn,PG (blk X scope ow ci C c a ex pn) tg g/\PF (blk X scope ow ci C c a ex pn) ifs tf/\PE (blk X scope ow ci C c a ex pn) elt te)
  (Y:∀x,foldedSetIterable iter X.env x=pure x:=by intro _;rfl):PE X (.ListComp elt [⟨tg,iter,ifs,0⟩] scope pos) (tComp wi ow.length ci g tf te):=by
 intro d s u H Q I h;rw[eval_ListComp];refine wpAny_comprehension_free (use:=none) rfl Y (Yt (S.cells I.ok)) S.kind S.names (thn (hi d s u H _ I h) λv s1 L=>thn L λZ s2 M=>?_);obtain⟨it,fp,tn,J,H2,e,t,T,r,A,W,w0,f⟩:=M;subst e;refine KW (RR:=λj C=>compPost (model X.prog X.w) X.A X.xe none (EP X d u Q) j C) P S R n t T r A (λi H=>∀p,H p=none->Q (.ref p) (upd H p (.lst i))) W w0 f λD C s' H' m i K O z U N l k=>?_
 refine⟨m,U,λh' q=>⟨.ref D,upd H' D (.lst i),?_,rfl,z D O⟩⟩;obtain⟨w,y,B,E,F,G⟩:=t.fpOk (H':=upd H' D (.lst i)) N (by rw[jo l];exact k);exact K.turned (t':=s'.toks) (λb o n e=>(q.2 b n).trans e) w y E F G
def xV(hc:X.calm=true)(S:CompScope X scope ow ci)(hk:GKeeps ow.length g)(hN:X.N.Nodup)(A:X.N[i]?=some x)(hx:Loc X.env.scope x)(hi:PI X tg iter wi)
  (t:∀C f c ex pn,PG (blk X scope ow ci C f c ex pn) tg g/\PF (blk X scope ow ci C f c ex pn) ifs tf/\PE (blk X scope ow ci C f c ex pn) elt te)
  (y:swapsWith (.ListComp elt [⟨tg,iter,ifs,0⟩] scope pos) (some (.Name x px)) spos.line X.env=pure true:=by rfl)
  (hf:X.fn x=true\/X.env.scope.names.lookup x=some .local:=by first | exact .inl rfl | exact .inr rfl | assumption)
  (hs:∀x,foldedSetIterable iter X.env x=pure x:=by intro _;rfl):PS X (.Assign [.Name x px] (.ListComp elt [⟨tg,iter,ifs,0⟩] scope pos) spos) (tAsg (tComp wi ow.length ci g tf te) (gName i)):=by
 intro d s M H D I h;rw[exec_Assign_Name_used _ _ _ _ y];refine ug (wpAny_standAt (ug ?_));show wpAny _ X.A (do let _ <-comprehension (.ListComp elt [⟨tg,iter,ifs,0⟩] scope pos) scope X.env _ (newList []) false (eval iter X.env) (some (assign (.Name x px) X.env))) _ _ s;refine ug (wpAny_mono (wpAny_comprehension_free (use:=some (assign (.Name x px) X.env)) (Q:=λ_ j=>SP X d D .next j) rfl hs (Yt (S.cells I.ok)) S.kind S.names
  (thn (hi d s M H _ I h) λv s1 h1=>thn h1 λa0 s2 h2=>?_)) (λ_ j hq=>uf (uf hq)) λ_ _ e=>e)
 obtain⟨it,fp,tn,J,H2,e,F,T,B,R,W,w0,k⟩:=h2;subst e;refine KW (RR:=λl C=>compPost (model X.prog X.w) X.A X.xe (some (assign (.Name x px) X.env)) (λ_ j=>SP X d D .next j) l C) hc S hk t F T B R
  (λE H=>∀p,H p=none->gName i (.ref p) M (upd H p (.lst E)) D.nx) W w0 k λP C j H' m E K hD z hn hC r n=>?_
 obtain⟨O,G,U,Y,L,Z⟩:=F.fpOk (H':=upd H' P (.lst E)) hC (by rw[jo r];exact n);show wpAny _ X.A (assign (.Name x px) X.env (.ref P)) _ _ j;refine wpAny_assign_Name (WS K hN A hx (v:=.ref P) rfl (λs3 N ⟨a,w,ha⟩=>⟨m,hn.sameBut w ?_,λh' u=>?_⟩) hf)
 .rcases ha with q | q
  .rw[q];exact G
  .exact λz=>L x a q z.symm
 .exact⟨_,_,N.turned (t':=s3.toks) (λb o t e=>(u.2 b t).trans e) O G Y L Z,z P hD⟩
def KY{lo:Int}{n k:Nat}{ci:L6}{g:TG}{q:TT}{o:TE}{r:St}{H:Hp}{Z:Addr->N2->Hp->Prop}(c:Nat->N2->Hp->Prop)(s:c 0 [] H)
  (u:∀i ys H,i<n->c i ys H->g (.int (lo+i)) (capS k ci r) H λa H2=>q a H2 λb h=>if b=true then o a h λv j=>ys.length<sizeLine/\c (i+1) (ys++[v]) j else c (i+1) ys h)
  (t:∀ys H,c n ys H->ys.length<=sizeLine/\∀p,H p=none->Z p ys H) :
  ∃W:Nat->Nat->N2->Hp->Prop,(∃m,W 0 m [] H)/\∀i m ys H,W i m ys H->
   ((Itr lo n).stop i H/\ys.length<=sizeLine/\∀p,H p=none->Z p ys H)\/
   ((Itr lo n).go i H/\∃N:N2->Hp->Prop,(∀f H',N f H'->∃l,l<m/\W (i+1) l f H')/\∀x H',(Itr lo n).yld i H x H'->g x (capS k ci r) H' λa H2=>q a H2 λb h=>
    if b=true then o a h λv j=>ys.length<sizeLine/\N (ys++[v]) j else N ys h):=by
 refine⟨λi m ys H=>m=n-i/\i<=n/\c i ys H,⟨n,by simp,va _,s⟩,?_⟩;rintro i m ys H ⟨rfl,z,p⟩;by_cases d:i<n
 .refine .inr ⟨d,c (i+1),λf H' w=>⟨n-(i+1),⋯,rfl,d,w⟩,λx H' y=>?_⟩;obtain⟨e,y⟩:=y;subst e y;exact u i ys _ d p
 .have e:i=n:=⋯
  subst e;exact .inl ⟨vb _,t ys H p⟩
def Jm{K:Frg}{a:Addr}{xs:N2}{k:Nat}{ci:L6}{g:TG}{r:TT}{o:TE}{s:St}{H:Hp}{Z:Addr->N2->Hp->Prop}(d:Nat->N2->Hp->Prop)(t:d 0 [] H)(z:∀i ys H,i<=xs.length->d i ys H->SqL K H a xs)
  (A:∀i x ys H,xs[i]?=some x->d i ys H->g x (capS k ci s) H λc H2=>r c H2 λb h=>if b=true then o c h λv l=>ys.length<sizeLine/\d (i+1) (ys++[v]) l else d (i+1) ys h)
  (u:∀ys H,d xs.length ys H->ys.length<=sizeLine/\∀p,H p=none->Z p ys H) :
  ∃W:Nat->Nat->N2->Hp->Prop,(∃m,W 0 m [] H)/\∀i m ys H,W i m ys H->
   ((Itl K a).stop i H/\ys.length<=sizeLine/\∀p,H p=none->Z p ys H)\/
   ((Itl K a).go i H/\∃N:N2->Hp->Prop,(∀f H',N f H'->∃n,n<m/\W (i+1) n f H')/\∀x H',(Itl K a).yld i H x H'->g x (capS k ci s) H' λc H2=>r c H2 λb h=>
    if b=true then o c h λv l=>ys.length<sizeLine/\N (ys++[v]) l else N ys h):=by
 refine⟨λi m ys H=>m=xs.length-i/\i<=xs.length/\d i ys H,⟨xs.length,by simp,va _,t⟩,?_⟩;rintro i m ys H ⟨rfl,w,p⟩;have q:=z i ys H w p;by_cases j:i<xs.length
 .refine .inr ⟨⟨xs,xs[i],q,by simp[j]⟩,d (i+1),λf H' B=>⟨xs.length-(i+1),⋯,rfl,j,B⟩,λx H' y=>?_⟩;obtain⟨e,y⟩:=y;subst e;exact A i x ys _ (y xs q) p
 .have e:i=xs.length:=⋯
  subst e;exact .inl ⟨⟨xs,q,vb _⟩,u ys H p⟩
end
def j1I:(10:Nat)^250<2^831:=by decide +kernel
def Xl(a : -10^250<=x)(b:x<=10^250):Builtin.Int.intBits x<=1048576:=by
 refine vW (PySem.intBits_le_iff.mpr ?_:Builtin.Int.intBits x<=831) nofun;have:x.natAbs<=10^250:=⋯
 exact vD this j1I
def mulOk(a : -10^250<=x)(b:x<=10^250)(c : -10^250<=y)(d:y<=10^250):IntMulOk x y:=.of_bits (Xl a b) (Xl c d)
section
variable{X:Cx}
def Q6:OpR X (binaryOp .Mult) (rI IntMulOk λi j=>.int (i*j)):=opI λ_ _ _ _ _ _ _ a q=>mul_int q a
def CDivB(_ j:Int):Prop:=0<j/\j<=10^250
def cdivB(a:0<j)(b:j<=10^250):CDivB i j:=⟨a,b⟩
def Je:OpR X (binaryOp .FloorDiv) (rI CDivB λi j=>.int (i/j)):=opI λi j _ _ _ _ _ a q=>by
 have b:(0:Int)<j:=a.1;have c:j<=10^250:=a.2;refine floordiv_int ⋯ ?_ (.inl (PyProof.noPylong_of_log2 ?_))
 .rw[Int.fdiv_eq_ediv_of_nonneg _ ⋯];exact q
 .have e:j.natAbs<=10^250:=⋯
  have g:j.natAbs.log2<831:=(Nat.log2_lt ⋯).mpr (vD e j1I);lia
def KR:CallR X (.builtin "isinstance") (λxs H Q=>∃x T t b,xs=[x,.ty T]/\TyOf X.K H x t/\PySem.W.kitOne X.K t (.type T)=some b/\Q (.bl b) H):=by
 intro a s j H xs i Q I r h;obtain⟨x,T,t,b,rfl,ty,e,q⟩:=h;obtain⟨u,f,rfl,d,c⟩:=vals2 r;cases(show f=Value.type T from c);exact j2i I d ty e λg=>⟨.bl b,H,I.tok _,rfl,q⟩
def j2M{E:Value->Shared->Prop}{Q:Value->Shared->Prop}(y:A.handled=none)(d:s.heap.IsList l (intItems xs))
  (h:∀h' tk t',(∀b o,s.heap.get? b=some o->h'.get? b=some o)->Q (.int (preSum (numAt xs) xs.size) t') {s with heap:=h',toks:=tk}) :
  wpAny (model prog w) A (call (.builtin "sum") [.ref l]) Q E s:=by
 obtain⟨o,m,B,n,C⟩:=id d;have f:l≠s.heap.objs.size:=vE (vI m);have g:(intItems xs).size=xs.size:=by simp[intItems]
 have W:=(Walks.list (prog:=prog) (w:=w) (A:=A.in1) y s.heap.objs.size l f (intItems xs)).toS;rw[g]at W;refine call_sum_walkAnyS (wpAny_pyIter_list d ?_);refine⟨s.heap.objs.size,_,_,_,_,_,_,numAt xs,rfl,W,⟨⟨_,Heap.get?_push_size _ rfl,rfl,rfl⟩,d.at λo e=>vJ _ e⟩,λb a=>?_,λi v x=>intItems_at x,λz t' c=>?_⟩
 .rcases mem_cons.mp a with rfl | a
  .exact vI (Heap.get?_push_size _ rfl)
  .obtain rfl:=vo.mp a;exact vI (vJ _ m)
 .obtain⟨h',u,p,k,j⟩:=z;have q:u=s.gens:=c.gens;have r:p=s.drawn:=c.drawn;have t:j=s.os:=c.os;subst q r t;exact h h' k t' λb o e=>c.heap b o (λa=>ue (vI e) ((vo.mp a)▸Nat.lt_irrefl _)) (vJ _ e)
def yJ(g:X.calm=true):CallR X (.builtin "sum") (λxs H Q=>∃(p:Addr) (b:L5),xs=[.ref p]/\SqL X.K H p (b.map V.int)/\Q (.int b.sum) H):=by
 intro f s z H xs x Q I r h;obtain⟨p,b,rfl,j,q⟩:=h;obtain⟨u,rfl,n⟩:=vals1 r;cases n;obtain⟨a,m,l,t⟩:=I.list j;have d:IntsAre a b:=intsAre_of m;obtain⟨y,k⟩:=d.allInts.items;have c:numsOf a.toArray.toList=b:=by rw[show a.toArray.toList=a from rfl,d.numsOf]
 have e:=l.isList;rw[k]at e c;rw[nums_intItems]at c;refine j2M (I.ok.hd g) e λo w v i=>?_
 rw[preSum_eq,take_of_length_le (by simp),c];exact⟨.int b.sum,H,I.kept i,⟨_,rfl⟩,q⟩
end
end L2
namespace Att
open PySem PySem.W PySem.Calls PyProof.Rows
theorem Kb:∀(a:L5) (x:Int),x∈a->Builtin.Int.intBits x<=WData.weightAll (a.map WData.int)
 | [],_,h=>by cases h
 | n::r,x,h=>by
  show _<=WData.weight (.int n)+1+WData.weightAll (r.map WData.int);rcases mem_cons.mp h with e | h
  .subst e;have e:Builtin.Int.intBits x=WData.weight (.int x):=by
    unfold Builtin.Int.intBits WData.weight;rfl
   lia
  .have:=Kb r x h;lia
def W4{l:OpenLaw}{n:Nat}{q:Program}{c:L8}{D:(Str->Option Value)->Heap->Prop}{E:World->Heap->Prop}{d:DefRec}
  (R:l.most=some n) (y:d.params.defaults=[])
  (k:∀(w:World) (e b:Shared) (mg B:Str->Option Value) (fa:Addr) (o:Obj) (C u h:Value) (a:Addr) (vs:L9) (g:L5),
   Ground q c [] D w e mg B b.heap->E w b.heap->
   b.heap.get? fa=some o->o.data = .func (docDef d.name d.params d.body d.scope C u h)->b.heap.CodeRec u d.name->mg d.name=some (.ref fa)->
   b.heap.get? a=some {cls:=.type "list",data:=.seq vs.toArray}->IntsAre vs g->g.length<=n->(∀x∈g,Builtin.Int.intBits x<=1048576)->b.gens = #[]->
   codeAny (model l.prog w) callerA (.call (.ref fa) ⟨[.ref a],[]⟩) (λr s'=>r = .ok (.ret (.bool true))/\OldK b.heap s'.heap/\s'.os=b.os/\AllBare s'.gens) b) :
  WalkO q c D E l.row.toRowW d [] (λf vs=>PySem.call f vs):=by
 intro w e b mg B G Y fa o C u h J kV S N v H z O F I Z t m U A P;obtain rfl:J = .none:=Dflts.none H y;obtain rfl:kV = .none:=Dflts.noKw H;obtain⟨a,vs,g,rfl,rfl,s,j,p⟩:=j2H R t A;have i:∀x∈g,Builtin.Int.intBits x<=1048576:=by
  have W:(WData.list (g.map WData.int)).weight<=2^20:=(layableW_iff.mp (layW_cons m).1).2.2;intro x X;exact vW (Kb g x X) W
 refine enter_call (codeAny_mono (k w e b mg B fa o C u h a vs g G Y S (fd_plain N) v z s j p i O) λr s' T=>?_);obtain⟨rfl,K,L,M⟩:=T;exact⟨.inl ⟨.bool true,.bool true,[],rfl,λ_=>rfl,.bool true,j2z l _,λ_=>⟨List.Pairwise.nil,λ_ Q=>(nomatch Q)⟩⟩,K,L,M⟩
end Att
namespace L2
open PySem PySem.Spec PyProof.Rows
def j4M{l:PySem.W.OpenLaw}{n k:Nat}{q:Program}{i:L8}{J:(Str->Option Value)->Heap->Prop}{D:World->Heap->Prop}{d:DefRec}{K:Params->Frg}{CX:CXT}{sp:Frg->Sp}{x:Str}
  (U:l.most=some n) (z:n<=sizeLine) (t:d.params.defaults=[]) (W:Room k callerA)
  (P:∀(w:World) (h:Heap),D w h->(K w.params).In h)
  (F:∀(w:World) (mg:Str->Option Value) (fa:Addr) (h:Heap),(K w.params).In h->h.Ns mainGlobals mg->mg d.name=some (.ref fa)->
   ∃fd:FuncData,(∀(s:Shared) (u:Value),BindsTo s fd ⟨[u],[]⟩ [(x,u)])/\
    ∀base:Heap,(K w.params).In base->base.Ns mainGlobals mg->FnOk l.prog w (K w.params) mg base CX k fa fd [x] (sp (K w.params)))
  (B:∀(K:Frg) (H:Hp) (a:Addr) (m:L5),m.length<=n->(∀x∈m,Builtin.Int.intBits x<=1048576)->Only H->SqL K H a (m.map V.int)->sp K [.ref a] H (λv _=>v = .bl true) λ_ _ _=>False)
  (r:∀(H:Hp) (s:Shared) (e:Value) (s':Shared),CX [] H s (λ_ _ _=>False) e s'->False) :
  PySem.W.WalkO q i J D l.row.toRowW d [] (λf vs=>PySem.call f vs):=by
 refine Att.W4 U t λw I p mg mb fa o pm X L a vs m G Y ho Z S y j g b c T=>?_
 have C:=P w _ Y;obtain⟨fd,R,M⟩:=F w mg fa _ C G.T.g y;exact j3o C G.T.g G.T.b G.T.builtins G.T.nolimit T j g (vW b z) W M R (λH N O=>B _ H a m b c N O) λH e s'=>r H p e s'
section
variable{P:Program}{w:World}{K:Frg}{mg:Str->Option Value}{base:Heap}
end
def SP.nx{R:St->Hp->Prop}(a:∀S' H',R S' H'->D.nx S' H')(h:SP X pins {D with nx:=R} f s):SP X pins D f s:=by
 cases f with
 | next=>obtain⟨S',H',I,q⟩:=h;exact⟨S',H',I,a _ _ q⟩
 | brk=>exact h
 | cont=>exact h
 | ret u=>exact h
def tIfJ(c:TT)(t u:TS):TS:=λD σ H=>∃R:St->Hp->Prop,(∀S' H',R S' H'->D.nx S' H')/\tIfS c t u {D with nx:=R} σ H
def JX(j:PT X c tc)(g:PSs X a t)(i:PSs X b u):PS X (.If c a b pos) (tIfJ tc t u):=by
 intro d s k H D I h;obtain⟨R,e,h⟩:=h;exact thn (jP j g i d s k H _ I h) λf l q=>q.nx e
open PySem
def Jb:bootBuiltins "len"= some (.builtin "len"):=by decide +kernel
def W6:bootBuiltins "max"= some (.builtin "max"):=by decide +kernel
def j0e:bootBuiltins "min"= some (.builtin "min"):=by decide +kernel
def W7:bootBuiltins "sum"= some (.builtin "sum"):=by decide +kernel
def Zc:bootBuiltins "isinstance"= some (.builtin "isinstance"):=by decide +kernel
def j64:bootBuiltins "all"= some (.builtin "all"):=by decide +kernel
def j0d:bootBuiltins "abs"= some (.builtin "abs"):=by decide +kernel
def Wp:bootBuiltins "sorted"= some (.builtin "sorted"):=by decide +kernel
def j65:bootBuiltins "int"= some (.type "int"):=by decide +kernel
def j4S:bootBuiltins "bool"= some (.type "bool"):=by decide +kernel
def yI:bootBuiltins "list"= some (.type "list"):=by decide +kernel
def QK:bootBuiltins "tuple"= some (.type "tuple"):=by decide +kernel
def j4T:bootBuiltins "dict"= some (.type "dict"):=by decide +kernel
def W5:bootBuiltins "enumerate"= some (.type "enumerate"):=by decide +kernel
def j66:bootBuiltins "zip"= some (.type "zip"):=by decide +kernel
def Xm:bootBuiltins "reversed"= some (.type "reversed"):=by decide +kernel
def XC(K:Frg)(t:Value)(h:(t==t)=true):PySem.W.kitOne K t t=some true:=by unfold PySem.W.kitOne;rw[vd h]
def WE(K:Frg)(c:(Value.type a==Value.type b)=false)(d:PySem.W.kitMeta b=true)(e:PySem.W.subIn [] (.type a) (.type b)=some v):PySem.W.kitOne K (.type a) (.type b)=some v:=by
 unfold PySem.W.kitOne;rw[vc (by rw[c];exact vF)];show(if PySem.W.kitMeta b=true then _ else _)=_;rw[vd d];exact e
def j2g{K:Frg}:PySem.W.kitOne K (.type "int") (.type "int")=some true:=XC K _ (by decide +kernel)
def XA{K:Frg}:PySem.W.kitOne K (.type "tuple") (.type "int")=some false:=WE K (by decide +kernel) (by decide +kernel) (by decide +kernel)
def j0q{K:Frg}:PySem.W.kitOne K (.type "int") (.type "bool")=some false:=WE K (by decide +kernel) (by decide +kernel) (by decide +kernel)
def wT{K:Frg}:PySem.W.kitOne K (.type "tuple") (.type "tuple")=some true:=XC K _ (by decide +kernel)
section
variable{X:Cx}{tg:Expr}
def j4t:SlR X (λx lo hi H Q=>∃z,x = .str z/\z.length<=sizeLine/\Q (.str (Txt.slice z lo hi)) H):=by
 intro b s n H x v p r lo hi o Q I m c g e h;obtain⟨z,rfl,d,q⟩:=h;obtain⟨t,rfl⟩:=m;refine⟨"str",_,F.slot_str_getitem.lookup,typeIs_str _ _ _,?_⟩;have a:∀(lo hi:Option Int),Q (.str (Txt.slice z lo hi)) H->∀f k,EP X b n Q (.str (Txt.slice z lo hi) f) {s with toks:=k}:=λlo hi q f k=>⟨.str _,H,I.tok _,⟨_,rfl⟩,q⟩
 cases g with
 | none=>
  cases e with
  | none=>exact wpAny_getItem_str_slice (l:=none) (u:=none) (st:=none) c rfl (post_val_or_str ⟨vW (Txt.slice_le z _ _) d,a _ _ q⟩)
  | int j uj=>exact wpAny_getItem_str_slice (l:=none) (u:=some (j,uj)) (st:=none) c rfl (post_val_or_str ⟨vW (Txt.slice_le z _ _) d,a _ _ q⟩)
 | int i ui=>
  cases e with
  | none=>exact wpAny_getItem_str_slice (l:=some (i,ui)) (u:=none) (st:=none) c rfl (post_val_or_str ⟨vW (Txt.slice_le z _ _) d,a _ _ q⟩)
  | int j uj=>exact wpAny_getItem_str_slice (l:=some (i,ui)) (u:=some (j,uj)) (st:=none) c rfl (post_val_or_str ⟨vW (Txt.slice_le z _ _) d,a _ _ q⟩)
def j24(E:X.calm=true):CallR X (.builtin "all") (λxs H Q=>∃(p:Addr) (a:List Bool),xs=[.ref p]/\SqL X.K H p (a.map V.bl)/\Q (.bl (a.all id)) H):=by
 intro B s U H xs T Q I r h;obtain⟨p,a,rfl,J,q⟩:=h;obtain⟨u,rfl,M⟩:=vals1 r;cases M;obtain⟨c,y,K,_⟩:=I.list J;have m:=K.isList;obtain⟨o,G,_⟩:=id m;have t:p≠s.heap.objs.size:=vE (vI G);have W:=Walks.list (prog:=X.prog) (w:=X.w) (A:=X.A.in1) (I.ok.hd E) s.heap.objs.size p t c.toArray;refine call_all_walk (wpAny_pyIter_list m ⟨s.heap.objs.size,_,_,_,_,_,λi=>a.getD i true,rfl,W,⟨⟨_,Heap.get?_push_size _ rfl,rfl,rfl⟩,m.at λo e=>vJ _ e⟩,?_,?_⟩)
 .intro i v R O N D k;have f:c[i]?=some v:=by simpa using D
  have g:∃b,a[i]?=some b/\v = .bool b:=by
   have d:i<a.length:=by
    have:=(vx.mp f).1;have e:=y.length;rw[vt]at e;lia
   obtain⟨u,z,L⟩:=y.get (i:=i) (x:=.bl a[i]) (by rw[vv,vz d];rfl);rw[f]at z;cases z;exact⟨_,vz d,L⟩
  obtain⟨b,C,rfl⟩:=g;dsimp only at k;rw[vy,C]at k;exact wpAny_truthy_bool k
 .intro P S F;have e:(List.range c.toArray.size).all (λi=>a.getD i true)=a.all id:=by
   have n:c.toArray.size=a.length:=by
    have e:=y.length;rw[vt]at e;simp[e]
   rw[n,Bool.eq_iff_iff];simp only[all_eq_true,mem_range,id_eq];constructor
   .intro l b g;obtain⟨i,j,rfl⟩:=mem_iff_getElem.mp g;have:=l i j;rw[vy,vz j]at this;exact this
   .intro l i j;rw[vy,vz j];exact l _ (getElem_mem j)
  rw[e];refine⟨.bl _,H,I.kept λb o e=>F b o ?_ (vJ _ e),rfl,q⟩;intro g;have:b=s.heap.objs.size:=by simpa using g
  exact ue (vI e) (this▸Nat.lt_irrefl _)
def rd_str{R:Str->Prop}(h:R z):∃a,V.str z = .str a/\R a:=⟨z,rfl,h⟩
end
section
variable{X:Cx}{K:Frg}
def Zs(e:X.K=K):IxR X (rIxL K):=by subst e;exact jv
def j1s(e:X.K=K):IxR X (rIxT K):=by subst e;exact jr
def j25(e:X.K=K):CallR X (.builtin "len") (λxs H Q=>∃x n,xs=[x]/\LenV K x H n/\Q (.int n) H):=by subst e;exact jR
def Yj(e:X.K=K):OpR X (compareOp .In) (rIn K false):=by subst e;exact kK
end
mutual
inductive DV(H:Hp):V->PyData->Prop
 | non:DV H .non .none
 | bl (b:Bool):DV H (.bl b) (.bool b)
 | int (i:Int):DV H (.int i) (.int i)
 | str (x:Str):DV H (.str x) (.str x)
 | lst {a:Addr} {xs:N2} {ds:List PyData}:H a=some (.lst xs)->DVs H xs ds->DV H (.ref a) (.list ds)
 | tup {a:Addr} {xs:N2} {ds:List PyData}:H a=some (.tup xs)->DVs H xs ds->DV H (.ref a) (.tuple ds)
inductive DVs(H:Hp):N2->List PyData->Prop
 | nil:DVs H [] []
 | cons {x:V} {d:PyData} {xs:N2} {ds:List PyData}:DV H x d->DVs H xs ds->DVs H (x::xs) (d::ds)
end
mutual
theorem DV.mono{H H':Hp}(k:Same H H'):∀{v:V} {d:PyData},DV H v d->DV H' v d
 | _,_,.non=>.non
 | _,_,.bl b=>.bl b
 | _,_,.int i=>.int i
 | _,_,.str x=>.str x
 | _,_,.lst e r=>.lst (k _ _ e) (DVs.mono k r)
 | _,_,.tup e r=>.tup (k _ _ e) (DVs.mono k r)
theorem DVs.mono{H H':Hp}(k:Same H H'):∀{vs:N2} {ds:List PyData},DVs H vs ds->DVs H' vs ds
 | _,_,.nil=>.nil
 | _,_,.cons a r=>.cons (DV.mono k a) (DVs.mono k r)
end
section
variable{X:Cx}
mutual
theorem zp{p:St}{H:Hp}(I:Inv X pins p H s):∀{v:V} {d:PyData} {u:Value},DV H v d->RelV v u->∃as,Reads s.heap u d as
 | _,_,_,.non,r=>⟨_,by cases r;exact Reads.none⟩
 | _,_,_,.bl b,r=>⟨_,by cases r;exact Reads.bool b⟩
 | _,_,_,.int i,r=>by obtain⟨t,rfl⟩:=r;exact⟨_,Reads.int i t⟩
 | _,_,_,.str x,r=>by obtain⟨t,rfl⟩:=r;exact⟨_,Reads.str x t⟩
 | _,_,_,.lst e q,r=>by
  cases r;obtain⟨_,a,c,g,k⟩:=I.hok _ _ e;obtain⟨as,f⟩:=kC I q g;exact⟨_,reads_list_at k rfl rfl (by simpa using f)⟩
 | _,_,_,.tup e q,r=>by
  cases r;obtain⟨a,g,m,_⟩:=I.tuple (SqT.of e);obtain⟨o,l,h,n,j⟩:=m;obtain⟨as,f⟩:=kC I q g;exact⟨_,reads_tuple_at l h j (by simpa using f)⟩
theorem kC{d:St}{H:Hp}(I:Inv X pins d H s):∀{vs:N2} {ds:List PyData} {us:L9},DVs H vs ds->Vals vs us->∃as,ReadsAll s.heap us ds as
 | _,_,_,.nil,r=>by cases r;exact⟨_,ReadsAll.nil⟩
 | _,_,_,.cons a q,r=>by
  cases r with
  | cons r1 r2=>
   obtain⟨as,b⟩:=zp I a r1;obtain⟨e,c⟩:=kC I q r2;exact⟨_,ReadsAll.cons b c⟩
end
def j0L(f:X.A.units+64<cLine):OpR X (compareOp .Eq) (λx y H Q=>∃d e,DV H x d/\DV H y e/\SeqAt.shaped d=true/\SeqAt.shaped e=true/\Q (.bl (PyData.eqv d e)) H):=by
 intro a s p H x y v u Q I j k h;obtain⟨d,e,b,c,l,m,q⟩:=h;obtain⟨n,g⟩:=zp I b j;obtain⟨o,i⟩:=zp I c k;exact eq_dataH g i l m f ⟨.bl _,H,I,rfl,q⟩
def wu(f:X.A.units+64<cLine):OpR X (compareOp .NotEq) (λx y H Q=>∃d e,DV H x d/\DV H y e/\SeqAt.shaped d=true/\SeqAt.shaped e=true/\Q (.bl (!PyData.eqv d e)) H):=by
 intro a s p H x y v u Q I j k h;obtain⟨d,e,b,c,l,m,q⟩:=h;obtain⟨n,g⟩:=zp I b j;obtain⟨o,i⟩:=zp I c k;exact ne_dataH g i l m f ⟨.bl _,H,I,rfl,q⟩
def j4K{us:L9}:∀{a:L5},IntsAre us a->Vals (a.map V.int) us:=by
 induction us with
 | nil=>intro a r;cases r;exact .nil
 | cons u us ih=>
  intro a r;cases r with
  | cons n t r=>exact .cons ⟨t,rfl⟩ (ih r)
def kj(w:X.calm=true):CallR X (.builtin "max") (λxs H Q=>∃(p:Addr) (c:L5),xs=[.ref p]/\SqL X.K H p (c.map V.int)/\0<c.length/\∀m∈c,(∀a∈c,a<=m)->Q (.int m) H):=by
 intro n s L H xs K Q I r h;obtain⟨p,c,rfl,A,d,q⟩:=h;obtain⟨u,rfl,E⟩:=vals1 r;cases E;obtain⟨B,D,C,_⟩:=I.list A;have k:=intsAre_of D;have l:=C.isList;obtain⟨xs,e⟩:=k.allInts.items;have b:c=xs.toList.map (·.1):=by rw[<-k.numsOf,<-nums_intItems,<-e]
 have f:0<xs.size:=by
  have g:=d;rw[b,vt,Array.length_toList]at g;exact g
 rw[e]at l;refine max_intList (I.ok.hd w) l f λv G F z y=>?_
 obtain⟨t,rfl⟩:=intItems_at z;obtain⟨J,o⟩:=argBest_gt (numAt xs) (xs.size-1);refine⟨.int _,H,I.kept (t':=F) y,⟨_,rfl⟩,q _ ?_ λa i=>?_⟩
 .rw[b,numAt_eq];exact getD_mem (by rw[vt,Array.length_toList];lia)
 .rw[b]at i;obtain⟨j,x,rfl⟩:=mem_getD i;rw[vt,Array.length_toList]at x;rw[<-numAt_eq];exact o j ⋯
end
section
variable{σ:St}{H:Hp}{Q:VK}
def rd_dget(h:td σ H λx H1=>ty σ H1 λy H2=>∃a v,x = .ref a/\DGet H2 a y (some v)/\Q v H2):tDGet td ty σ H Q:=h
def j5y{a:List (TE×TE)}(h:∀p,H p=none->tPairs a σ (upd H p (.dK [])) λps H2=>H2 p=some (.dK [])/\∃kvs:List (Key×V),ps=kvs.map (λkv=>(kV kv.1,kv.2))/\kvs.length<=15/\Q (.ref p) (upd H2 p (.dK (mergeK [] kvs)))):tDisp a σ H Q:=h
def rd_prN{R:List (V×V)->Hp->Prop}(h:R [] H):tPairs [] σ H R:=h
def rd_prC{a b:TE}{r:List (TE×TE)}{R:List (V×V)->Hp->Prop}(h:a σ H λx H1=>b σ H1 λy H2=>tPairs r σ H2 λps c=>R ((x,y)::ps) c):tPairs ((a,b)::r) σ H R:=h
end
def TabK(K:Frg)(a:Addr)(D:List (Str×PyProof.Rows.KTD.Dat)):Prop:=PyProof.Rows.KTD.tabLook (PyProof.Rows.KTD.datLooks λb=>K.lookup b) (λb=>K.lookup b) a D=true
section
variable{X:Cx}
def j6t:OpR X (compareOp .In) (λx y H Q=>∃a k D,x = .str k/\y = .ref a/\TabK X.K a D/\Q (.bl (PyProof.Rows.KTD.inKeys k D)) H):=by
 intro b s f H x y v u Q I c d h;obtain⟨a,k,D,rfl,rfl,T,q⟩:=h;obtain⟨t,rfl⟩:=c;cases d;exact PyProof.Rows.KTD.in_text (h₀:=s.heap) ⟨PySem.W.kt_text_in I.kIn T,λ_ _ e=>e⟩ ⟨.bl _,H,I.tok _,rfl,q⟩
end
def qZ{K:Frg}{a:Addr}{xs:N2}{k:Nat}{ci:L6}{g:TG}{r:TT}{o:TE}{s:St}{H:Hp}{Z:Addr->N2->Hp->Prop}(d:Nat->N2->Hp->Prop)(t:d 0 [] H)(z:∀i ys H,i<=xs.length->d i ys H->SqT K H a xs)
  (A:∀i x ys H,xs[i]?=some x->d i ys H->g x (capS k ci s) H λc H2=>r c H2 λb h=>if b=true then o c h λv l=>ys.length<sizeLine/\d (i+1) (ys++[v]) l else d (i+1) ys h)
  (u:∀ys H,d xs.length ys H->ys.length<=sizeLine/\∀p,H p=none->Z p ys H) :
  ∃W:Nat->Nat->N2->Hp->Prop,(∃m,W 0 m [] H)/\∀i m ys H,W i m ys H->
   ((Itt K a).stop i H/\ys.length<=sizeLine/\∀p,H p=none->Z p ys H)\/
   ((Itt K a).go i H/\∃N:N2->Hp->Prop,(∀f H',N f H'->∃n,n<m/\W (i+1) n f H')/\∀x H',(Itt K a).yld i H x H'->g x (capS k ci s) H' λc H2=>r c H2 λb h=>
    if b=true then o c h λv l=>ys.length<sizeLine/\N (ys++[v]) l else N ys h):=by
 refine⟨λi m ys H=>m=xs.length-i/\i<=xs.length/\d i ys H,⟨xs.length,by simp,va _,t⟩,?_⟩;rintro i m ys H ⟨rfl,w,p⟩;have q:=z i ys H w p;by_cases j:i<xs.length
 .refine .inr ⟨⟨xs,xs[i],q,by simp[j]⟩,d (i+1),λf H' B=>⟨xs.length-(i+1),⋯,rfl,j,B⟩,λx H' y=>?_⟩;obtain⟨e,y⟩:=y;subst e;exact A i x ys _ (y xs q) p
 .have e:i=xs.length:=⋯
  subst e;exact .inl ⟨⟨xs,q,vb _⟩,u ys H p⟩
def rd_iTup{K:Frg}{b:TE}{c:St}{H:Hp}{R:It->Hp->Prop}(h:b c H λx H1=>∃a,x = .ref a/\(∃xs,SqT K H1 a xs)/\R (Itt K a) H1):iTup K b c H R:=h
def qj{K:Frg}{i j:Nat}{a:Addr}{x y:V}{b:St}{H:Hp}{R:St->Hp->Prop}(e:SqT K H a [x,y])(h:gName i x b H λS' H'=>gName j y S' H' R):gTup K 2 (gCons (gName i) (gCons (gName j) gNil)) (.ref a) b H R:=
 ⟨a,[x,y],rfl,e,rfl,x,[y],rfl,y,[],rfl,rfl,h⟩
def rd_sub{a:St}{H:Hp}{R:St->Hp->Prop}(h:to a H λo H1=>ti a H1 λi H2=>t o i v H2 λb=>R a b):gSub to ti t v a H R:=h
def rd_dnew{a:St}{H:Hp}(h:∀p,H p=none->Q (.ref p) (upd H p (.dK []))):tDNewK a H Q:=h
def rd_dput{b:St}{H:Hp}(h:tv b H λv H1=>td b H1 λx H2=>ty b H2 λy d=>∃a c,x = .ref a/\DPut d a y v c/\D.nx b c):sDPut td ty tv D b H:=h
def rd_bm0{K:Frg}{T:String}{r:V->N2->Hp->VK->Prop}{a:TE}{b:St}{H:Hp}{Q:VK}(h:a b H λx H1=>tyV K T x H1/\r x [] H1 Q):tBM0 K T r a b H Q:=h
section
variable{X:Cx}{pins:List (Addr×Obj)}{σ:St}{H:Hp}{s:Shared}{h':Heap}
def Inv.turnedL{t':Nat}{ch:L7}(I:Inv X pins σ H s)(f:∀b∈ch,FpOk X pins H b)(k:∀b o,b∉ch->s.heap.get? b=some o->h'.get? b=some o):Inv X pins σ H {s with heap:=h',toks:=t'}:=by
 have d:∀b u,H b=some u->b∉ch:=λb u e z=>by rw[(f b z).1]at e;cases e
 refine I.step (g':=s.gens) (d':=s.drawn) (ch:=ch) (λb t=>?_) (λb o _ _ a e _=>k b o a e) (λb o _ _ a e _=>⟨o.slots,k b o a e⟩) (λ_ _ _ _ n=>n)
  (λb o a e=>⟨o,k b o a e⟩) (λ_ _ e=>e) (λ_ _ _ e=>e) (λb y e=>⟨#[],by rw[e];simp⟩) (λm w=>?_) (λb u e=>?_) I.bare
 .obtain⟨_,i,_,j,l,p⟩:=f b t;exact⟨j,i,l,p⟩
 .obtain⟨o,h,g,x,r⟩:=w;exact⟨o,h,g,k _ o (λz=>(f _ z).2.1 rfl) x,r⟩
 .refine(I.hok b u e).stay (λc v a q=>k c v ?_ q) (λ_ q=>q) λ_ _ q=>q
  rcases a with z | z
  .rw[z];exact d b u e
  .exact d c _ z
def Inv.pair{t':Nat}{ch:L7}{x y:V}{u v:Value}(I:Inv X pins σ H s)(c:∀b∈ch,FpOk X pins H b)(h:∀b∈ch,b<s.heap.objs.size)(i:RelV x u)(j:RelV y v)
  (g:h'.get? s.heap.objs.size=some {cls:=.type "tuple",data:=.seq #[u,v]}) (k:∀b o,b∉ch->s.heap.get? b=some o->h'.get? b=some o) :
  Inv X pins σ (upd H s.heap.objs.size (.tup [x,y])) {s with heap:=h',toks:=t'}/\∀b∈ch,FpOk X pins (upd H s.heap.objs.size (.tup [x,y])) b:=by
 have f:∀b∈ch,FpOk X pins (upd H s.heap.objs.size (.tup [x,y])) b:=λb a=>⟨(jo (vE (h b a))).trans (c b a).1,(c b a).2⟩
 have d:Inv X pins σ (upd H s.heap.objs.size (.tup [x,y])) {s with heap:=s.heap.push {cls:=.type "tuple",data:=.seq #[u,v]},toks:=t'}:=
  I.laid (t':=t') (λb o e=>vJ _ e) (vb _) (show ObjOk X.prog X.w _ _ _ (.tup [x,y])from⟨(by show 2<=sizeLine;decide),[u,v],.cons i (.cons j .nil),IsTup.new _ _⟩)
 refine⟨d.turnedL (h':=h') (t':=t') f λb o a e=>?_,f⟩;rcases Heap.get?_push_cases e with⟨rfl,rfl⟩ | e
 .exact g
 .exact k b o a e
end
def Ite(K:Frg)(a:Addr):It:=
 ⟨λi H=>∃xs x,SqL K H a xs/\xs[i]?=some x,λi H x H'=>∃T v,x = .ref T/\H T=none/\H'=upd H T (.tup [.int i,v])/\∀xs,SqL K H a xs->xs[i]?=some v,λi H=>∃xs,SqL K H a xs/\xs.length<=i⟩
def j2N{P:Program}{w:World}{K:Frg}{n:List Expr}{k:Nat}{O:Pos}(a e it:Addr)(t:e≠it) :
  Turn P w K (.Tuple n k O) (Ite K a) [e,it] e (λi h=>(∃f,IsEnum h e it ((i:Nat):Int) f)/\h.IsListIter it a i) where
 mem:=by simp
 obj:=λi h j b g=>by
  rcases(by simpa using g:b=e\/b=it)with rfl | rfl
  .obtain⟨f,l⟩:=j.1;exact⟨_,l,λv z=>by cases z⟩
  .obtain⟨o,e,c,d⟩:=j.2;exact⟨o,e,λv z=>by rw[d]at z;cases z⟩
 keep:=λi h h' j k=>⟨let ⟨f,l⟩:=j.1;⟨f,k e (by simp) _ l⟩,j.2.at λo q=>k it (by simp) o q⟩
 item:=by
  intro X D L C S i A s σ H E I G j J;subst D L C;obtain⟨xs,x,B,M⟩:=J;obtain⟨N,Q,p,hz⟩:=I.list B;obtain⟨u,hu,ru⟩:=Q.get M;obtain⟨⟨f,l⟩,m⟩:=j;have le:e<s.heap.objs.size:=vI l;have li:it<s.heap.objs.size:=by obtain⟨o,q,_⟩:=id m;exact vI q
  refine wpAny_pyNext_enum_item l m p.isList (x:=u) (by simpa using hu) t λh' ho r hT a0 hk=>?_
  obtain⟨U,R⟩:=I.pair (t':=s.toks+1) (ch:=[e,it]) (x:=.int i) (y:=x) G (λb g=>by rcases(by simpa using g:b=e\/b=it)with rfl | rfl<;>assumption) ⟨s.toks,rfl⟩ ru hT
   (λb o g q=>hk b o (λz=>g (by simp[z])) (λz=>g (by simp[z])) q)
  refine⟨_,rfl,wpAny_letOwnedTupleGo_enum ho λZ F T=>?_⟩;have W:=U.turnedL (h':=Z) (t':=s.toks+1) (ch:=[e,it]) R λb o g q=>(T.2 b λz=>g (by simp[z])).trans q
  exact⟨.ref s.heap.objs.size,_,W,rfl,⟨_,x,rfl,I.hok.fresh (vb _),rfl,λys hy=>by rw[I.list_inj hy B];exact M⟩,
   ⟨⟨u,by simpa using F⟩,r.at λo q=>(T.2 it t.symm).trans q⟩,λb g=>(R b g).1⟩
 done:=by
  intro X D L C S i A s σ H E I G j J;subst D L C;obtain⟨xs,B,M⟩:=J;obtain⟨N,Q,p,hz⟩:=I.list B;obtain⟨⟨f,l⟩,m⟩:=j;have hl:=Q.length;exact wpAny_pyNext_enum_end (I.ok.hd S) l m p.isList (by simp;lia) λh' Y=>⟨rfl,I.turnedL (t':=s.toks) (ch:=[e,it]) G λb o g q=>Y b o (λz=>g (by simp[z])) q⟩
 self:=λ_ _ _ _ _ j h=>let ⟨_,l⟩:=j.1;wpAny_pyIter_enum l h
def iEnum(K:Frg)(ta:TA):TI:=λσ H R=>ta σ H λvs H1=>∃a xs,vs=[.ref a]/\SqL K H1 a xs/\R (Ite K a) H1
def KA{X:Cx}{a:Expr}{n:TA}{f:List Expr}{k:Nat}{p i j:Pos}(v:Gl X "enumerate")(x:X.mg "enumerate"= none)(r:PA X [a] n)(z:starEach [a] X.env=[(false,eval a X.env)]:=by rfl) :
  PI X (.Tuple f k j) (.Call (.Name "enumerate" p) [a] [] i) (iEnum X.K n):=by
 intro g s F H R I h;refine Call_ (Zf I v x W5 (PyProof.Rows.callWith_type1 (thn (r i g s F H _ I h) λL e z_=>?_) z rfl));obtain⟨M,o,d,D,C⟩:=z_;obtain⟨b,N,rfl,y,q⟩:=C;obtain⟨u,rfl,E⟩:=vals1 D;cases E;obtain⟨B,K,p,J⟩:=d.list y;refine call_enumerate_list p.isList λG m l A w=>?_
 refine wpAny_pyIter_enum m ?_;refine⟨e.heap.objs.size+1,[e.heap.objs.size+1,e.heap.objs.size],_,_,o,rfl,d.kept (t':=e.toks) w,j2N b _ _ (Nat.succ_ne_self _),⟨⟨_,by simpa using m⟩,l⟩,λc t=>?_,q⟩;rcases(by simpa using t:c=e.heap.objs.size+1\/c=e.heap.objs.size)with rfl | rfl
 .exact d.fpOk (Nat.le_succ _) (d.hok.fresh (Nat.le_succ _))
 .exact d.fpOk (vb _) (d.hok.fresh (vb _))
def Yz{K:Frg}{a:Addr}{xs:N2}{g:TG}{l:TS}{D:Ends}{c:St}{H:Hp}(d:Nat->St->Hp->Prop)(n:d 0 c H)(u:∀i c H,i<=xs.length->d i c H->SqL K H a xs)
  (w:∀i v c H T H',xs[i]?=some v->d i c H->Same H H'->H' T=some (.tup [.int i,v])->g (.ref T) c H' λf H2=>l {D with nx:=d (i+1),ct:=d (i+1),bk:=D.nx} f H2) (s:∀c H,d xs.length c H->D.nx c H) :
  ∃W:Nat->Nat->St->Hp->Prop,(∃m,W 0 m c H)/\∀i m c H,W i m c H->
   ((Ite K a).stop i H/\D.nx c H)\/((Ite K a).go i H/\∃N:St->Hp->Prop,(∀S' H',N S' H'->∃k,k<m/\W (i+1) k S' H')/\∀x H',(Ite K a).yld i H x H'->g x c H' λf H2=>l {D with nx:=N,ct:=N,bk:=D.nx} f H2):=by
 refine⟨λi m c H=>m=xs.length-i/\i<=xs.length/\d i c H,⟨xs.length,by simp,va _,n⟩,?_⟩;rintro i m c H ⟨rfl,t,p⟩;have q:=u i c H t p;by_cases j:i<xs.length
 .refine .inr ⟨⟨xs,xs[i],q,by simp[j]⟩,d (i+1),λS' H' z=>⟨xs.length-(i+1),⋯,rfl,j,z⟩,λx H' y=>?_⟩;obtain⟨T,v,rfl,r,e,y⟩:=y;exact w i v c H T H' (y xs q) p (λb o h=>by rw[e,jo (je h r)];exact h) (by rw[e];exact jz)
 .have e:i=xs.length:=⋯
  subst e;exact .inl ⟨⟨xs,q,vb _⟩,s c H p⟩
def rd_iEnum{K:Frg}{b:TA}{c:St}{H:Hp}{R:It->Hp->Prop}(h:b c H λvs H1=>∃a xs,vs=[.ref a]/\SqL K H1 a xs/\R (Ite K a) H1):iEnum K b c H R:=h
def Itz(K:Frg)(a b:Addr):It:=
 ⟨λi H=>∃xs x ys y,SqL K H a xs/\xs[i]?=some x/\SqL K H b ys/\ys[i]?=some y,
  λi H x H'=>∃T u v,x = .ref T/\H T=none/\H'=upd H T (.tup [u,v])/\(∀xs,SqL K H a xs->xs[i]?=some u)/\∀ys,SqL K H b ys->ys[i]?=some v,
  λi H=>∃xs ys,SqL K H a xs/\SqL K H b ys/\(xs.length<=i\/ys.length<=i)⟩
def qE{h:Heap}{a b:Addr}{o u:Obj}(d:h.get? a=some o)(c:h.get? b=some u)(f:o.cls≠u.cls):a≠b:=λe=>by
 subst e;rw[d]at c;cases c;exact f rfl
def j4H{P:Program}{w:World}{K:Frg}{T:List Expr}{k:Nat}{aa:Pos}(t A z TI TO l m:Addr)
  (D:∀t A,t≠z->t≠TO->t≠l->t≠m->A≠z->A≠TO->A≠l->A≠m->ZipApart z TI TO l m t A) :
  Turn P w K (.Tuple T k aa) (Itz K t A) [z,TI,TO,l,m] z (λi h=>IsZip h z TI TO .none/\IsPair h TI (.ref l) (.ref m)/\(∃a b,IsPair h TO a b)/\h.IsListIter l t i/\h.IsListIter m A i) where
 mem:=by simp
 obj:=λi h M b j=>by
  obtain⟨n,g,⟨a,c,f⟩,J,L⟩:=M;rcases(by simpa using j:b=z\/b=TI\/b=TO\/b=l\/b=m)with rfl | rfl | rfl | rfl | rfl
  .exact⟨_,n,λv z=>by cases z⟩
  .exact⟨_,g,λv z=>by cases z⟩
  .exact⟨_,f,λv z=>by cases z⟩
  .obtain⟨o,e,c,d⟩:=J;exact⟨o,e,λv z=>by rw[d]at z;cases z⟩
  .obtain⟨o,e,c,d⟩:=L;exact⟨o,e,λv z=>by rw[d]at z;cases z⟩
 keep:=λi h h' M k=>by
  obtain⟨n,g,⟨a,c,f⟩,J,L⟩:=M;exact⟨k z (by simp) _ n,k TI (by simp) _ g,⟨a,c,k TO (by simp) _ f⟩,J.at λo q=>k l (by simp) o q,L.at λo q=>k m (by simp) o q⟩
 item:=by
  intro X hP hw hK hc i W s σ H E I hf M hg;subst hP hw hK;obtain⟨xs,x,ys,y,hq,hx,hr,hy⟩:=hg;obtain⟨a8,rv,p,_⟩:=I.list hq;obtain⟨a9,N,U,_⟩:=I.list hr;obtain⟨u,hu,ru⟩:=rv.get hx;obtain⟨v,hv,ab⟩:=N.get hy;obtain⟨n,g,⟨a,c,f⟩,J,L⟩:=M;obtain⟨o1,n1,F,B,_⟩:=id p;obtain⟨o2,n2,G,C,_⟩:=id U;obtain⟨o3,O,R,_⟩:=id J;obtain⟨o4,Q,S,_⟩:=id L;have r:=D t A (qE F n (by rw[B];show Value.type "list"≠Value.type "zip";decide)) (qE F f (by rw[B];show Value.type "list"≠Value.type "tuple";decide)) (qE F O (by rw[B,R];decide)) (qE F Q (by rw[B,S];decide))
   (qE G n (by rw[C];show Value.type "list"≠Value.type "zip";decide)) (qE G f (by rw[C];show Value.type "list"≠Value.type "tuple";decide)) (qE G O (by rw[C,R];decide)) (qE G Q (by rw[C,S];decide))
  have lt:∀b∈[z,TI,TO,l,m],b<s.heap.objs.size:=λb j=>by
   rcases(by simpa using j:b=z\/b=TI\/b=TO\/b=l\/b=m)with rfl | rfl | rfl | rfl | rfl
   .exact vI n
   .exact vI g
   .exact vI f
   .exact vI O
   .exact vI Q
  refine wpAny_pyNext_zip_item r n g f J L p.isList U.isList (x:=u) (y:=v) (by simpa using hu) (by simpa using hv) λh' a1 a2 a3 a4 a5 a6 Z=>?_
  obtain⟨I1,f1⟩:=I.pair (t':=s.toks) (ch:=[z,TI,TO,l,m]) (x:=x) (y:=y) hf lt ru ab a5
   (λb o j q=>Z b o (λe=>j (by simp[e])) (λe=>j (by simp[e])) (λe=>j (by simp[e])) (λe=>j (by simp[e])) q)
  refine⟨_,rfl,wpAny_letOwnedTupleGo_zip a1 λh3 a7 Y=>?_⟩;have I2:=I1.turnedL (h':=h3) (t':=s.toks) (ch:=[z,TI,TO,l,m]) f1 λb o j q=>(Y.2 b λe=>j (by simp[e])).trans q
  exact⟨.ref s.heap.objs.size,_,I2,rfl,⟨_,x,y,rfl,I.hok.fresh (vb _),rfl,(λys hy=>by rw[I.list_inj hy hq];exact hx),λys a0=>by rw[I.list_inj a0 hr];exact hy⟩,
   ⟨a7,(Y.2 TI r.TIz).trans (Z TI _ r.TIz r.TITO r.TIi1 r.TIi2 g),⟨_,_,(Y.2 TO r.TOz).trans a2⟩,a3.at λo q=>(Y.2 l r.i1z).trans q,a4.at λo q=>(Y.2 m r.i2z).trans q⟩,λb j=>(f1 b j).1⟩
 done:=by
  intro X hP hw hK hc i W s σ H E I hf M hg;subst hP hw hK;obtain⟨xs,ys,hq,hr,hl⟩:=hg;obtain⟨a8,rv,p,_⟩:=I.list hq;obtain⟨a9,N,U,_⟩:=I.list hr;obtain⟨n,g,⟨a,c,f⟩,J,L⟩:=M;obtain⟨o1,n1,F,B,_⟩:=id p;obtain⟨o2,n2,G,C,_⟩:=id U;obtain⟨o3,O,R,_⟩:=id J;obtain⟨o4,Q,S,_⟩:=id L;have r:=D t A (qE F n (by rw[B];show Value.type "list"≠Value.type "zip";decide)) (qE F f (by rw[B];show Value.type "list"≠Value.type "tuple";decide)) (qE F O (by rw[B,R];decide)) (qE F Q (by rw[B,S];decide))
   (qE G n (by rw[C];show Value.type "list"≠Value.type "zip";decide)) (qE G f (by rw[C];show Value.type "list"≠Value.type "tuple";decide)) (qE G O (by rw[C,R];decide)) (qE G Q (by rw[C,S];decide))
  have ac:=rv.length;have ad:=N.length;refine wpAny_pyNext_zip_end (I.ok.hd hc) r n g f J L p.isList U.isList ?_ λh' Z=>⟨rfl,I.turnedL (t':=s.toks) (ch:=[z,TI,TO,l,m]) hf λb o j q=>Z b o (λe=>j (by simp[e])) (λe=>j (by simp[e])) (λe=>j (by simp[e])) (λe=>j (by simp[e])) q⟩
  rcases hl with q | q
  .exact .inl (by simp;lia)
  .exact .inr (by simp;lia)
 self:=λ_ _ _ _ _ M h=>wpAny_pyIter_zip M.1 h
def Zg{n i j:Nat}(h:i≠j):n+i≠n+j:=λe=>h (Nat.add_left_cancel e)
def iZip(K:Frg)(ta:TA):TI:=λσ H R=>ta σ H λvs H1=>∃a b xs ys,vs=[.ref a,.ref b]/\SqL K H1 a xs/\SqL K H1 b ys/\R (Itz K a b) H1
def j0P{X:Cx}{a b:Expr}{w:TA}{f:List Expr}{k:Nat}{p n o:Pos}(O:Gl X "zip")(Q:X.mg "zip"= none)(M:PA X [a,b] w)(U:starEach [a,b] X.env=[(false,eval a X.env),(false,eval b X.env)]:=by rfl)(l:starEach [b] X.env=[(false,eval b X.env)]:=by rfl) :
  PI X (.Tuple f k o) (.Call (.Name "zip" p) [a,b] [] n) (iZip X.K w):=by
 intro m s σ H R I h;refine Call_ (Zf I O Q j66 (PyProof.Rows.callWith_type1 (thn (M n m s σ H _ I h) λus d ⟨vs,x,e,r1,q1⟩=>?_) (by rw[U,l]) (by rw[l];rfl)));obtain⟨u,v,xs,ys,rfl,S,T,q⟩:=q1;cases r1 with
 | cons r rr=>
  cases rr with
  | cons r' rr=>
   cases rr;cases r;cases r';obtain⟨Y,rv,p,hz⟩:=e.list S;obtain⟨Z,a0,p',W⟩:=e.list T;refine call_zip_2 p.isList p'.isList λh' t y z A B a6 P=>?_
   refine wpAny_pyIter_zip t ?_;refine⟨d.heap.objs.size+4,[d.heap.objs.size+4,d.heap.objs.size+2,d.heap.objs.size+3,d.heap.objs.size,d.heap.objs.size+1],_,_,x,rfl,e.kept (t':=d.toks) P,
    j4H u v _ _ _ _ _ (λu v C D E F G J K L=>⟨Zg nofun,Zg nofun,Zg (i:=0) nofun,Zg nofun,Zg nofun,Zg (j:=0) nofun,Zg nofun,Zg (j:=0) nofun,Zg nofun,Zg (i:=0) nofun,C,D,E,F,G,J,K,L⟩),⟨t,y,⟨_,_,z⟩,A,B⟩,λc N=>?_,q⟩
   have g:d.heap.objs.size<=c:=by
    rcases(by simpa using N:c=d.heap.objs.size+4\/c=d.heap.objs.size+2\/c=d.heap.objs.size+3\/c=d.heap.objs.size\/c=d.heap.objs.size+1)with rfl | rfl | rfl | rfl | rfl<;>lia
   exact e.fpOk g (e.hok.fresh g)
def j51{K:Frg}{a b:Addr}{xs ys:N2}{g:TG}{r:TS}{D:Ends}{c:St}{H:Hp}(d:Nat->St->Hp->Prop)(l:xs.length=ys.length)(s:d 0 c H)(A:∀i c H,i<=xs.length->d i c H->SqL K H a xs/\SqL K H b ys)
  (B:∀i u v c H T H',xs[i]?=some u->ys[i]?=some v->d i c H->Same H H'->H' T=some (.tup [u,v])->g (.ref T) c H' λf H2=>r {D with nx:=d (i+1),ct:=d (i+1),bk:=D.nx} f H2) (w:∀c H,d xs.length c H->D.nx c H) :
  ∃W:Nat->Nat->St->Hp->Prop,(∃m,W 0 m c H)/\∀i m c H,W i m c H->
   ((Itz K a b).stop i H/\D.nx c H)\/((Itz K a b).go i H/\∃N:St->Hp->Prop,(∀S' H',N S' H'->∃n,n<m/\W (i+1) n S' H')/\∀x H',(Itz K a b).yld i H x H'->g x c H' λf H2=>r {D with nx:=N,ct:=N,bk:=D.nx} f H2):=by
 refine⟨λi m c H=>m=xs.length-i/\i<=xs.length/\d i c H,⟨xs.length,by simp,va _,s⟩,?_⟩;rintro i m c H ⟨rfl,z,p⟩;obtain⟨q,k⟩:=A i c H z p;by_cases j:i<xs.length
 .refine .inr ⟨⟨xs,xs[i],ys,ys[i],q,by simp[j],k,by simp⟩,d (i+1),λS' H' C=>⟨xs.length-(i+1),⋯,rfl,j,C⟩,λx H' y=>?_⟩;obtain⟨T,u,v,rfl,t,e,y,E⟩:=y;exact B i u v c H T H' (y xs q) (E ys k) p (λb o h=>by rw[e,jo (je h t)];exact h) (by rw[e];exact jz)
 .have e:i=xs.length:=⋯
  subst e;exact .inl ⟨⟨xs,ys,q,k,.inl (vb _)⟩,w c H p⟩
def rd_iZip{K:Frg}{c:TA}{d:St}{H:Hp}{R:It->Hp->Prop}(h:c d H λvs H1=>∃a b xs ys,vs=[.ref a,.ref b]/\SqL K H1 a xs/\SqL K H1 b ys/\R (Itz K a b) H1):iZip K c d H R:=h
def Wx:entryFor table "dict.update.loop"= some Builtin.«dict.update.loop»:=entryFor_of_tree (by kernel_rfl)
def yR:plainId "dict.update.loop"= true:=by decide +kernel
def j2o:typeLookup (.type "list") "keys"= pure none:=by rw[typeLookup_type,builtinLookup_eq_fast];kernel_rfl
section
variable{prog:Program}{w:World}{A:Around}{E:Value->Shared->Prop}{s:Shared}
def noKeys{Q:Option Value->Shared->Prop}(p:s.heap.get? a=some o)(m:o.cls = .type "list")(f:o.data = .seq xs k)(n:o.dict=none)(t:A.handled=none)
  (h:∀h' tk,(∀b o,s.heap.get? b=some o->h'.get? b=some o)->Q none {s with heap:=h',toks:=tk}):wpAny (model prog w) A (getAttr? (.ref a) "keys") Q E s:=by
 obtain⟨c,r,q,x⟩:=o;simp only at m f n;subst m f n;obtain⟨u,g,d,tk,v⟩:=s;have l:∀j,(⟨u,g,d,j,v⟩:Shared).TypeIs (.ref a) "list":=λ_=>⟨_,p,rfl⟩
 have y:=sub_AttributeError;have z:=F.slot_list_getattribute.lookup;have B:=F.slot_list_getattribute.bind (.ref a);have C:=am_list_getattr_none;unfold getAttr? getAttrBy? getAttrBy
 repeat (any_goals (first | assumption | exact l _ | ((with_reducible show wpAny _ _ (call (Value.builtin "list.__getattribute__") _ _) _ _ _);refine call_meets F.slot_list_getattribute (l _) am_entry_list_getattribute (F.args_list_getattribute_2 _ _) (meets_getattribute_miss_list a xs k x "keys" _ j2o (by decide +kernel) (by decide +kernel)) ⟨p,t,λh' j e i=>?_⟩) | wp_step))
 obtain⟨G,H,D⟩:=i.there;show wpAny _ _ (getattributeRaised _ _ _ _ _ _ _) _ _ _;unfold getattributeRaised
 repeat (any_goals (first | assumption | wp_step))
 exact h _ _ i.keeps
variable{K:Type}[DecidableEq K]{knd:KeyKind prog w K}
noncomputable def foldS(acc:List (K×Value))(ps:List (K×Value)):List (K×Value):=ps.foldl (λacc kv=>stored acc kv.1 kv.2) acc
def j10(a:List (K×Value))(k:K)(v:Value):(stored a k v).length<=a.length+1:=by
 unfold stored;split
 .rw[vt];exact Nat.le_succ _
 .rw[vn];exact vb _
theorem dul{R:Result->Shared->Prop}{d it l:Addr}{items:L9}{res:Value}(N:A.handled=none)(h:d≠it)(q:d≠l)(r:it≠l) :
  ∀(ps:List (K×Value)) (i:Nat) (c:List (K×Value)) (s:Shared),s.heap.IsListIter it l i->s.heap.IsList l items.toArray->(items.length=i+ps.length)->
   (∀j kv,ps[j]?=some kv->∃a key,items[i+j]?=some (.ref a)/\IsTup s.heap a #[key,kv.2]/\knd.is kv.1 key=true/\a≠d/\a≠it)->s.heap.DictOf knd d c->c.length+ps.length<=sizeLine->
   (∀h' tk,(∀b o,b≠d->b≠it->s.heap.get? b=some o->h'.get? b=some o)->h'.DictOf knd d (foldS c ps)->R (.ok (.ret res)) {s with heap:=h',toks:=tk})->
   codeAny (model prog w) A (.builtin "dict.update.loop" ⟨[.ref d,.ref it,rawInt i,res],[]⟩) R s
 | [],i,c,s,hit,hl,hn,hp,hd,hz,hR=>by
  refine codeAny_builtin Wx ?_;rw[Around.under_plainId yR _];show wpAny _ A.in1 (pyNext (.ref it) >>= _) _ _ s;refine ug (wpAny_pyNext_list_end (A:=A.in1) N hit hl (by simp;simp at hn;lia) λh' M=>?_);show wpAny _ A.in1 (Builtin.Dict.addKeywords d [] >>= _) _ _ _;refine ug (uf (uf (hR h' s.toks (λb o _ C e=>M b o C e) ?_)));exact hd.extBut M h
 | kv::ps,i,c,s,hit,hl,hn,hp,hd,hz,hR=>by
  obtain⟨a,key,W,ht,Z,X,B⟩:=hp 0 kv rfl;refine codeAny_builtin Wx ?_;rw[Around.under_plainId yR _];show wpAny _ A.in1 (pyNext (.ref it) >>= _) _ _ s;refine ug (wpAny_pyNext_list_item (A:=A.in1) hit hl (x:=.ref a) (by simpa using W) λy t L=>?_);obtain⟨ot,Q,oc,n,od⟩:=ht;have p:y.get? a=some ot:=(L.2 a B).trans Q;show wpAny _ A.in1 (holding [Value.ref a] _ >>= _) _ _ _;refine ug (wpAny_holding ?_);refine ug (wpAny_tryCatch ?_);unfold Builtin.Dict.pairItems;refine ug (wpAny_typeOf (T:="tuple") ⟨_,p,oc⟩ ?_);show wpAny _ A.in1 (if((Value.type "tuple"== Value.type "list")||(Value.type "tuple"== Value.type "tuple"))=true then _ else _) _ _ _;rw[vd nofun];refine ug (wpAny_seqItems p od ?_);refine uf ?_;show wpAny _ A.in1 (holding [key,kv.2] (dictSet d key kv.2)) _ _ _;have D:y.DictOf knd d c:=hd.extBut (λb o C e=>(L.2 b C).trans e) h;refine wpAny_holding (wpAny_dictSet_pairs (s:={s with heap:=y}) Z D (λS E v=>?_) (by simp at hz;lia));show wpAny _ A.in1 (again _) _ _ _;refine uf ⟨plainId_quiet yR _,?_⟩;have I:∀b o,b≠d->b≠it->s.heap.get? b=some o->S.get? b=some o:=λb o f g e=>(v.2 b f).trans ((L.2 b g).trans e)
  have sl:=j10 c kv.1 kv.2;refine dul N h q r ps (i+1) (stored c kv.1 kv.2) _ (t.at λo e=>(v.2 it h.symm).trans e) (hl.at λo e=>I l o q.symm r.symm e) (by simp at hn;lia) (λj J Y=>?_) E (by simp at hz;lia) λU tk k3 F=>?_
  .obtain⟨O,u,z,H,G,k,m⟩:=hp (j+1) J (by simpa using Y);obtain⟨o',P,r'⟩:=H;exact⟨O,u,by rw[<-z];congr 1;lia,⟨o',I _ _ k m P,r'⟩,G,k,m⟩
  .exact hR U tk (λb o f g e=>k3 b o f g (I b o f g e)) F
end
open PySem PySem.W PyProof.Rows
section
variable{n:Nat}{key:Nat->Int}{p:Array Nat}
noncomputable def Tw(n:Nat)(key:Nat->Int){α:Type}:KasT α->(α->Prop)->Prop
 | .ret a,Q=>Q a
 | .ask i j k,Q=>i<n/\j<n/\Tw n key (k (decide (key i<key j))) Q
theorem Tw.bind{b c:Type}{f:b->KasT c}{Q:c->Prop}:∀{t:KasT b},Tw n key t (λa=>Tw n key (f a) Q)->Tw n key (t.bind f) Q
 | .ret _,h=>h
 | .ask _ _ _,h=>⟨h.1,h.2.1,Tw.bind h.2.2⟩
theorem Tw.mono{d:Type}{Q b:d->Prop}(c:∀a,Q a->b a):∀{t:KasT d},Tw n key t Q->Tw n key t b
 | .ret _,h=>c _ h
 | .ask _ _ _,h=>⟨h.1,h.2.1,Tw.mono c h.2.2⟩
theorem Tw.run{d:Type}{b:Nat->Nat->(Bool->Shared->Prop)->Shared->Prop}{Q:d->Shared->Prop}(c:∀i j C,i<n->j<n->C (decide (key i<key j)) s->b i j C s) :
  ∀{t:KasT d},Tw n key t (λa=>Q a s)->t.kasWp b Q s
 | .ret _,h=>h
 | .ask i j k,h=>c i j _ h.1 h.2.1 (Tw.run c h.2.2)
def Tw.asks{a:Type}{k:Bool->KasT a}{Q:a->Prop}(hi:i<n)(e:j<n)(b:key i<key j->Tw n key (k true) Q)(d:¬key i<key j->Tw n key (k false) Q):Tw n key (.ask i j k) Q:=by
 refine⟨hi,e,?_⟩;by_cases c:key i<key j
 .rw[vG c];exact b c
 .rw[vH c];exact d c
def Pk(n:Nat)(p:Array Nat):Prop:=p.toList.Perm (List.range n)
noncomputable def kv(key:Nat->Int)(p:Array Nat)(i:Nat):Int:=key (p.getD i 0)
def Up(key:Nat->Int)(p:Array Nat)(k:Nat):Prop:=∀i j,i<=j->j<k->kv key p i<=kv key p j
def Dn(key:Nat->Int)(p:Array Nat)(k:Nat):Prop:=∀i j,i<=j->j<k->kv key p j<=kv key p i
def Eqs(key:Nat->Int)(p:Array Nat)(m q:Nat):Prop:=∀k,m-(q+1)<=k->k<m->kv key p k=kv key p (m-1)
def Pk.size(h:Pk n p):p.size=n:=by have:=h.length_eq;simpa using this
def Pk.lt(h:Pk n p)(a:0<n)(i:Nat):p.getD i 0<n:=by
 rw[Array.getD_eq_getD_getElem?];cases e:p[i]? with
 | none=>exact a
 | some x=>exact v4.mp (h.mem_iff.mp (Array.mem_toList_iff.mpr (Array.mem_of_getElem? e)))
def Pk.of(h:Pk n p)(a:q.Perm p):Pk n q:=(Array.perm_iff_toList_perm.mp a).trans h
def XF(h:a[i]?=b[j]?):kv key a i=kv key b j:=by
 unfold kv;rw[Array.getD_eq_getD_getElem?,Array.getD_eq_getD_getElem?,h]
def j0w(a:j<=p.size)(k:Nat):kv key (kas_rev p i j) k=if i<=k/\k<j then kv key p (i+j-1-k)else kv key p k:=by
 have h:=getElem?_mirror_all (xs:=p) (i:=i) a k;split
 .rename_i c;rw[vd c]at h;exact XF h
 .rename_i c;rw[vc c]at h;exact XF h
def j6o(b:src<p.size)(a:d<=src)(k:Nat):kv key (bubble p src d) k=if k=src-d then kv key p src else if src-d<k/\k<=src then kv key p (k-1)else kv key p k:=by
 have h:=getElem?_bubble (xs:=p) b d a k;split
 .rename_i c;rw[vd c]at h;exact XF h
 .rename_i c;rw[vc c]at h;split
  .rename_i c';rw[vd c']at h;exact XF h
  .rename_i c';rw[vc c']at h;exact XF h
def Up.snoc(h:Up key p m)(d:1<=m)(f:¬kv key p m<kv key p (m-1)):Up key p (m+1):=λi j a g=>by
 by_cases e:j<m
 .exact h i j a e
 .have c:j=m:=⋯
  subst c;by_cases b:i=j
  .rw[b];exact vA _
  .have:=h i (j-1) ⋯ ⋯;lia
def Dn.snoc(h:Dn key p m)(d:1<=m)(f:kv key p m<=kv key p (m-1)):Dn key p (m+1):=λi j a g=>by
 by_cases e:j<m
 .exact h i j a e
 .have c:j=m:=⋯
  subst c;by_cases b:i=j
  .rw[b];exact vA _
  .have:=h i (j-1) ⋯ ⋯;lia
theorem j4D(a:Pk n p):∀f m,1<=m->m+f<=n->Up key p m->Tw n key (kas_asc p f m) λr=>m<=r/\r<=m+f/\Up key p r/\(r<m+f->kv key p r<kv key p (r-1))
 | 0,m,h1,hn,hu=>⟨vb _,vb _,hu,λh=>ue h (Nat.lt_irrefl _)⟩
 | f+1,m,h1,hn,hu=>by
  refine Tw.asks (a.lt ⋯ _) (a.lt ⋯ _) (λc=>?_) (λc=>?_)<;>simp only[Bool.false_eq_true,if_true,if_false]
  .exact⟨vb _,⋯,hu,λ_=>c⟩
  .exact Tw.mono (λr h=>⟨⋯,⋯,h.2.2.1,λb=>h.2.2.2 ⋯⟩) (j4D a f (m+1) ⋯ ⋯ (hu.snoc h1 c))
def j1w(b:m<=p.size)(a:Eqs key p m q)(k:Nat):kv key (kas_rev p (m-(q+1)) m) k=kv key p k:=by
 rw[j0w b];split
 .rename_i c;rw[a k c.1 c.2,a _ ⋯ ⋯]
 .rfl
theorem Xd:∀f (p:Array Nat) m q,Pk n p->1<=m->m+f<=n->q+1<=m->Dn key p m->Eqs key p m q->
  Tw n key (kas_desc f p m q) λr=>Pk n r.1/\m<=r.2.1/\r.2.1<=m+f/\Dn key r.1 r.2.1/\r.2.2+1<=r.2.1/\Eqs key r.1 r.2.1 r.2.2
 | 0,p,m,q,hp,h1,hn,hq,hd,he=>⟨hp,vb _,vb _,hd,hq,he⟩
 | f+1,p,m,q,hp,h1,hn,hq,hd,he=>by
  have t:=hp.size;refine Tw.asks (hp.lt ⋯ _) (hp.lt ⋯ _) (λc=>?_) (λc=>?_)<;>simp only[Bool.false_eq_true,if_true,if_false]
  .have c:kv key p m<kv key p (m-1):=c;split
   .have g:=j1w (key:=key) (p:=p) (m:=m) (q:=q) ⋯ he;have d:Pk n (kas_rev p (m-(q+1)) m):=hp.of (mirror_perm _ _ _ _);refine Tw.mono (λr h=>⟨h.1,⋯,⋯,h.2.2.2⟩) (Xd f _ (m+1) 0 d ⋯ ⋯ ⋯ (λi j b s=>?_) λk l o=>?_)
    .rw[g,g];exact hd.snoc h1 ⋯ i j b s
    .rw[show k=m+1-1 by lia]
   .refine Tw.mono (λr h=>⟨h.1,⋯,⋯,h.2.2.2⟩) (Xd f p (m+1) 0 hp ⋯ ⋯ ⋯ (hd.snoc h1 ⋯) λk l o=>?_);rw[show k=m+1-1 by lia]
  .have c:¬kv key p m<kv key p (m-1):=c;refine Tw.asks (hp.lt ⋯ _) (hp.lt ⋯ _) (λa=>?_) (λa=>?_)<;>simp only[Bool.false_eq_true,if_true,if_false]
   .exact⟨hp,vb _,Nat.le_add_right m (f+1),hd,hq,he⟩
   .have a:¬kv key p (m-1)<kv key p m:=a;refine Tw.mono (λr h=>⟨h.1,⋯,⋯,h.2.2.2⟩) (Xd f p (m+1) (q+1) hp ⋯ ⋯ ⋯ (hd.snoc h1 ⋯) λk l o=>?_);rw[Nat.add_sub_cancel];by_cases e:k=m
    .rw[e]
    .rw[he k ⋯ ⋯];lia
def j4F(c:Pk n p)(d:1<=m)(k:m<=n)(e:Dn key p m):Tw n key (kas_tail3 m n p) λr=>Pk n r.2/\1<=r.1/\r.1<=n/\Up key r.2 r.1:=by
 have l:=c.size;have a:Pk n (kas_rev p 0 m):=c.of (mirror_perm _ _ _ _);have b:=j0w (key:=key) (p:=p) (i:=0) (j:=m) ⋯;refine Tw.bind (Tw.mono (λr h=>?_) (j4D a (n-m) m d ⋯ λi j f g=>?_))
 .exact⟨a,⋯,⋯,h.2.2.1⟩
 .rw[b,b,vd ⟨va _,⋯⟩,vd ⟨va _,g⟩];exact e _ _ ⋯ ⋯
def j4E(t:Pk n p)(u:m+1<=n)(o:Dn key p (m+1)):Tw n key (kas_descPart m n p) λr=>Pk n r.2/\1<=r.1/\r.1<=n/\Up key r.2 r.1:=by
 refine Tw.bind (Tw.mono (λr h=>?_) (Xd (n-(m+1)) p (m+1) 0 t ⋯ ⋯ ⋯ o λk v w=>by rw[show k=m+1-1 by lia]));obtain⟨a,b,c,d,e,g⟩:=h;have x:=a.size;split
 .have l:=j1w (key:=key) (p:=r.1) (m:=r.2.1) (q:=r.2.2) ⋯ g;exact j4F (a.of (mirror_perm _ _ _ _)) ⋯ ⋯ λi j f s=>by rw[l,l];exact d i j f s
 .exact j4F a ⋯ ⋯ d
def j5H(g:Pk n p)(t:1<=n):Tw n key (kas_count n p) λr=>Pk n r.2/\1<=r.1/\r.1<=n/\Up key r.2 r.1:=by
 have y:=g.size;refine Tw.bind (Tw.mono (λr h=>?_) (j4D (key:=key) g (n-1) 1 ⋯ ⋯ λi j l m=>by rw[show i=j by lia];exact vA _));obtain⟨a,b,c,d⟩:=h;split
 .exact⟨g,a,⋯,c⟩
 rename_i hne;have w:r<n:=by
  have:r≠n:=λe=>hne (by rw[e];simp)
  lia
 have d:=d ⋯;split
 .refine Tw.asks (g.lt ⋯ _) (g.lt ⋯ _) (λq=>?_) (λq=>?_)<;>simp only[Bool.false_eq_true,if_true,if_false]
  .exact⟨g,a,⋯,c⟩
  .have q:¬kv key p 0<kv key p (r-1):=q;have v:=j0w (key:=key) (p:=p) (i:=0) (j:=r) ⋯;have f:∀i,i<r->kv key p i=kv key p (r-1):=λi u=>by
    have t:=c 0 i (va _) u;have x:=c i (r-1) ⋯ ⋯;lia
   have k:∀i,kv key (kas_rev p 0 r) i=kv key p i:=λi=>by
    rw[v];split
    .rename_i q';rw[f _ q'.2,f _ ⋯]
    .rfl
   refine j4E (g.of (mirror_perm _ _ _ _)) ⋯ λi j l m=>?_
   rw[k,k];by_cases e:j=r
   .by_cases o:i=r
    .rw[e,o];exact vA _
    .rw[e,f i ⋯];lia
   .rw[f i ⋯,f j ⋯];exact vA _
 .have s:r=1:=⋯
  subst s;refine j4E g ⋯ λi j l m=>?_
  rcases(by lia:(i=0/\j=0)\/(i=0/\j=1)\/(i=1/\j=1))with⟨rfl,rfl⟩ | ⟨rfl,rfl⟩ | ⟨rfl,rfl⟩
  .exact vA _
  .have:kv key p 1<kv key p (1-1):=d;exact Int.le_of_lt this
  .exact vA _
theorem Xe(e:Pk n p)(c:k<n)(g:Up key p k):∀f l r,l<=r->r<=k->r-l<=f->(∀i,i<l->kv key p i<=kv key p k)->(∀i,r<=i->i<k->kv key p k<kv key p i)->
  Tw n key (kas_place p k f l r) λm=>m<=k/\(∀i,i<m->kv key p i<=kv key p k)/\∀i,m<=i->i<k->kv key p k<kv key p i
 | 0,l,r,h1,h2,h3,a,b=>⟨⋯,a,λi d=>b i ⋯⟩
 | f+1,l,r,h1,h2,h3,a,b=>by
  unfold kas_place;split
  .exact⟨⋯,a,λi d=>b i ⋯⟩
  refine Tw.asks (e.lt ⋯ _) (e.lt ⋯ _) (λq=>?_) (λq=>?_)<;>simp only[Bool.false_eq_true,if_true,if_false]
  .have q:kv key p k<kv key p ((l+r)/2):=q;exact Xe e c g f l _ ⋯ ⋯ ⋯ a λi d h=>by
    have:=g ((l+r)/2) i d h;lia
  .have q:¬kv key p k<kv key p ((l+r)/2):=q;exact Xe e c g f _ r ⋯ h2 ⋯ (λi d=>by
    have:=g i ((l+r)/2) ⋯ ⋯;lia) b
theorem j5S:∀f (p:Array Nat) k,Pk n p->k+f<=n->Up key p k->Tw n key (kas_bin f p k) λq=>Pk n q/\Up key q (k+f)
 | 0,p,k,hp,hn,hu=>⟨hp,hu⟩
 | f+1,p,k,hp,hn,hu=>by
  have t:=hp.size;refine Tw.bind (Tw.mono (λl h=>?_) (Xe hp ⋯ hu k 0 k (va _) (vb _) ⋯ (λi o=>ue o (Nat.not_lt_zero _)) λi e m=>ue e ⋯));obtain⟨a,b,c⟩:=h;have g:=j6o (key:=key) (p:=p) (src:=k) (d:=k-l) ⋯ ⋯;refine Tw.mono (λq h=>⟨h.1,by rw[show k+(f+1)=k+1+f by lia];exact h.2⟩) (j5S f _ (k+1) (hp.of (bubble_perm _ _ _)) ⋯ λi j r s=>?_);rw[g,g,show k-(k-l)=l by lia]
  repeat' split
  all_goals first
   | exact vA _
   | (exfalso;lia)
   | exact Int.le_of_lt (c _ ⋯ ⋯)
   | exact b _ ⋯
   | exact hu _ _ ⋯ ⋯
   | (have e:=b i ⋯;have m:=c (j-1) ⋯ ⋯;lia)
def j6K(f:1<=n):Tw n key (kas_sort n) λq=>Pk n q/\Up key q n:=by
 have g:Pk n (List.toArray (List.range n)):=List.Perm.refl _;refine Tw.bind (Tw.mono (λr h=>?_) (j5H (key:=key) g f));obtain⟨a,b,c,d⟩:=h;split
 .refine Tw.mono (λq h=>⟨h.1,?_⟩) (j5S (n-max r.1 1) r.2 (max r.1 1) a ⋯ (by rw[show max r.1 1=r.1 by lia];exact d));have e:max r.1 1+(n-max r.1 1)=n:=⋯
  rw[e]at h;exact h.2
 .have e:r.1=n:=⋯
  exact⟨a,by rw[<-e];exact d⟩
end
section
variable{prog:Program}{w:World}{A:Around}{E:Value->Shared->Prop}{s:Shared}
def PrAt(h:Heap)(as:L7)(key:Nat->Int):Prop:=∀i a,as[i]?=some a->∃o t u n,h.get? a=some o/\o.cls = .type "tuple"/\o.data = .seq #[.int (key i) t,u] n
def PrAt.keep{key:Nat->Int}(x:PrAt h as key)(k:∀a∈as,∀o,h.get? a=some o->h'.get? a=some o):PrAt h' as key:=λi a e=>by
 obtain⟨o,t,u,n,q,r⟩:=x i a e;exact⟨o,t,u,n,k a (vm e) _ q,r⟩
def j6X{key:Nat->Int}(x:PrAt s.heap as key)(d:∀i j,i<as.length->j<as.length->key i=key j->i=j){C:Bool->Shared->Prop}(hi:i<as.length)(b:j<as.length)
  (h:C (decide (key i<key j)) s):kas_ask prog w A (tuples' true) (as.map Value.ref) i j C s:=by
 unfold kas_ask;obtain⟨o,t,u,n,k,B,f⟩:=x i _ (vz hi);obtain⟨y,z,m,E,l,D,g⟩:=x j _ (vz b);have p:(as.map Value.ref).getD i Value.none = .ref as[i]:=by rw[vy,vv,vz hi];rfl
 have q:(as.map Value.ref).getD j Value.none = .ref as[j]:=by rw[vy,vv,vz b];rfl
 rw[p,q];refine kat_lt k f l g ?_;show KatLex prog w A true _ C [(.int (key i) t,.int (key j) z),(u,m)] 0 s;refine kat_cons (wpAny_eqBool_int ?_);by_cases c:key i=key j
 .have v:=d i j hi b c;subst v;rw[beq_self_eq_true];have r:u=m:=by
   have e:o=y:=vL (k.symm.trans l);subst e;have e:=f.symm.trans g;injection e with e _;have:=congrArg (λa:Array Value=>a[1]?) e;simpa using this
  subst r;refine kat_yes (kat_cons (SeqAt.EqAt.same _ _ _ _ _ ?_));refine kat_yes (kat_nil ?_);rw[vH (Int.lt_irrefl _)]at h;exact h
 .rw[beq_false_of_ne c];exact kat_no (oneLt_int h)
theorem j1J{key:Nat->Int}:∀{as:L7} (_:PrAt h as key),∃fs,KatTups h (as.map Value.ref) fs/\fs.length=as.length/\∀v∈fs,∃n t,v=Value.int n t
 | [],_=>⟨[],KatTups.nil,rfl,λv g=>nomatch g⟩
 | a::r,x=>by
  obtain⟨o,t,u,n,q,c,d⟩:=x 0 a rfl;obtain⟨fs,k,l,f⟩:=j1J (key:=λi=>key (i+1)) (as:=r) λi b e=>x (i+1) b (by simpa using e)
  refine⟨.int (key 0) t::fs,KatTups.cons q c d rfl k,by rw[vQ,l,vQ],λv g=>?_⟩;rcases mem_cons.mp g with rfl | g
  .exact⟨_,_,rfl⟩
  .exact f v g
def j5L(vs:L9):(vs.toArray.zip vs.toArray).map (·.2)=vs.toArray:=by
 refine Array.toList_inj.mp ?_;rw[Array.toList_map,Array.toList_zip];exact List.map_snd_zip (vb _)
def j2D(vs:L9):(List.range vs.length).map (λi=>vs.getD i Value.none)=vs:=by
 refine ext_getElem (by simp) λi b a=>?_
 rw[getElem_map,getElem_range,vy,vz a];rfl
def j4g:∀{l:L5},l.length<2->l.Pairwise (·<=·)
 | [],_=>.nil
 | [_],_=>pairwise_singleton _ _
 | _::_::_,h=>ue h (by rw[vQ,vQ];lia)
def j4v{key:Nat->Int}{P:PySem.Fin->Shared->Prop}(d:s.heap.get? a=some (seqObj "list" (as.map Value.ref).toArray c0))(S:a∉as)(x:PrAt s.heap as key)
  (U:∀i j,i<as.length->j<as.length->key i=key j->i=j) (O:as.length<64)
  (D:∀(q:L6) (h':Heap) (c:Nat),q.Perm (List.range as.length)->(q.map key).Pairwise (·<=·)->(∀b o,b≠a->s.heap.get? b=some o->h'.get? b=some o)->
   h'.get? a=some (seqObj "list" ((q.map λi=>as.getD i 0).map Value.ref).toArray c)->P (.done (.ret .none)) {s with heap:=h'}) :
  wpAny (model prog w) A (Builtin.«list.sort» ⟨[.ref a],[]⟩) P E s:=by
 have a5:a<s.heap.objs.size:=vI d;obtain⟨u,k⟩:∃u,(s.heap.update a (Obj.mapSeq λ_=>(#[]:Array Value))).get? a=some (seqObj "list" #[] u):=⟨_,get?_update_seq d λ_=>#[]⟩
 have X:=Heap.SameBut.update s.heap a (Obj.mapSeq λ_=>(#[]:Array Value));rw[list_sort_plain];refine ug (listItems_at (s:=s) d rfl ?_);refine ug (listUpdate_at (s:=s) d rfl ?_ (by rw[size_toArray,vt,sizeLine_eq];lia) (va _));refine ug (seqEpoch_at (n:=u) k rfl ?_);refine ug (wpAny_newTuple ?_ (by show(as.map Value.ref).length<=_;rw[vt,sizeLine_eq];lia));refine ug (wpAny_newList ?_ (va (sizeLine)));refine wpAny_holding ?_;generalize Y:((s.heap.update a (Obj.mapSeq λ_=>(#[]:Array Value))).push (seqObj "tuple" (as.map Value.ref).toArray 0)).push (seqObj "list" #[] 0)=hX;have kX:∀b o,b≠a->s.heap.get? b=some o->hX.get? b=some o:=λb o y e=>by
  rw[<-Y];exact vJ _ (vJ _ ((X.2 b y).trans e))
 have F:hX.get? a=some (seqObj "list" #[] u):=by
  rw[<-Y];exact vJ _ (vJ _ k)
 have xX:PrAt hX as key:=x.keep λb y o e=>kX b o (λz=>S (z▸y)) e
 show wpAny (model prog w) A _ P E {s with heap:=hX};dsimp only;have K:(as.map Value.ref).toArray.size=as.length:=by rw[size_toArray,vt]
 have H:∀q:L6,q.Perm (List.range as.length)->(List.map (λi=>(as.map Value.ref).getD i Value.none) q)=(q.map λi=>as.getD i 0).map Value.ref:=λq M=>by
  rw[v8];refine map_congr_left λi B=>?_
  have hl:i<as.length:=v4.mp (M.mem_iff.mp B);show(as.map Value.ref).getD i Value.none=Value.ref (as.getD i 0);rw[vy,vy,vv,vz hl];rfl
 have g:∀(q:L6),q.Perm (List.range as.length)->(q.map key).Pairwise (·<=·)->∀r:Array Value,r=(List.map (λi=>(as.map Value.ref).getD i Value.none) q).toArray->
   P (.done (.ret .none)) {s with heap:=hX.update a (Obj.mapSeq λ_=>r)}:=λq M hs r ho=>by
  subst ho;have o2:=get?_update_seq F λ_=>(List.map (λi=>(as.map Value.ref).getD i Value.none) q).toArray
  have J:=Heap.SameBut.update hX a (Obj.mapSeq λ_=>(List.map (λi=>(as.map Value.ref).getD i Value.none) q).toArray);rw[H q M]at o2 J|-;exact D q _ _ M hs (λb o y e=>(J.2 b y).trans (kX b o y e)) o2
 by_cases l:(as.map Value.ref).toArray.size<2
 .rw[vd l,vd l];refine ug (uf ?_);rw[StateT.run_pure];refine ug (uf ?_);dsimp only;refine ug (seqEpoch_at (n:=u) F rfl ?_);have eo:(arrOf (SortSt.mk' general' ((as.map Value.ref).toArray.zip (as.map Value.ref).toArray) #[] 7 none)).map (·.2)=(List.map (λi=>(as.map Value.ref).getD i Value.none) (List.range as.length)).toArray:=by
   have e:=j2D (as.map Value.ref);rw[vt]at e;rw[e];exact j5L _
  rw[eo];refine ug (listUpdate_at (s:={s with heap:=hX}) F rfl ?_ (va _) (by rw[size_toArray,vt,length_range,sizeLine_eq];lia));simp only[bne_self_eq_false,Bool.false_eq_true,if_false];refine uf (g (List.range as.length) (List.Perm.refl _) ?_ _ rfl);rw[K]at l;exact j4g (by rw[vt,length_range];exact l)
 .rw[vc l,vc l];rw[K]at l;obtain⟨fs,kt,kl,ki⟩:=j1J xX;have a0:hX=({s with heap:=hX}:Shared).heap:=rfl;refine ug (kat_kind (s:={s with heap:=hX}) (T:=Value.type "int") kt ⋯ (λv hv=>?_) nofun ?_)
  .obtain⟨m,t,rfl⟩:=ki v hv;exact Looks.of_pure rfl
  refine ug (wpAny_mono (kat_run (s:={s with heap:=hX}) (ks:=as.map Value.ref) (vs:=as.map Value.ref) (κ:=tuples' true) (Q:=λf I=>∃p:Array Nat,Pk as.length p/\Up key p as.length/\arrOf f=p.map (kas_item ((as.map Value.ref).toArray.zip (as.map Value.ref).toArray))/\failedOf f=none/\I={s with heap:=hX}) (G:=λp I=>Pk as.length p/\Up key p as.length/\I={s with heap:=hX})
   rfl (by rw[vt];lia) (by rw[vt];exact O) (λp f I _ a2 a3 N=>⟨p,N.1,N.2.1,a2,a3,N.2.2⟩) ?_) ?_ λ_ _ e=>e)
  .rw[vt];exact Tw.run (n:=as.length) (key:=key) (λi j C B L hC=>j6X xX U B L hC) (Tw.mono (λq h=>⟨h.1,h.2,rfl⟩) (j6K (key:=key) ⋯))
  rintro⟨⟨⟩,f⟩ I ⟨p,Z,hu,R,hf,rfl⟩;dsimp only;rw[kat_snds rfl R];refine ug (seqEpoch_at (n:=u) F rfl ?_);have W:=Z.size;refine ug (listUpdate_at (s:={s with heap:=hX}) F rfl ?_ (va _) (by rw[size_toArray,vt,Array.length_toList,W,sizeLine_eq];lia));rw[hf];simp only[bne_self_eq_false,Bool.false_eq_true,if_false];refine uf (g p.toList Z ?_ _ rfl);refine pairwise_map.mpr (pairwise_iff_getElem.mpr λi j B L a1=>?_);rw[Array.length_toList]at B L;have:=hu i j ⋯ ⋯;unfold kv at this;rw[Array.getD_eq_getD_getElem?,Array.getD_eq_getD_getElem?,Array.getElem?_eq_getElem B,Array.getElem?_eq_getElem L]at this;exact this
end
open PySem PySem.Spec PySem.W PyProof.Rows
section
variable{X:Cx}{pins:List (Addr×Obj)}{σ:St}{H:Hp}{s:Shared}
def NewA(X:Cx)(pins:List (Addr×Obj))(T:Addr):Prop:=X.s₀.heap.objs.size<=T/\T≠X.env.locals/\(∀x c,X.env.cells.lookup x=some c->c≠T)/\∀p∈X.pn++pins,p.1≠T
def Inv.newA(I:Inv X pins σ H s)(a:s.heap.objs.size<=T):NewA X pins T:=by
 obtain⟨_,b,_,_,c,d⟩:=I.fpOk (H':=λ_=>none) a rfl;exact⟨vW I.sz a,b,c,d⟩
def ObjOk.obj(x:ObjOk P w H h a o):∃u,h.get? a=some u:=by
 cases o with
 | lst xs=>obtain⟨_,_,_,_,e⟩:=x;exact⟨_,e⟩
 | tup xs=>obtain⟨_,_,_,u,e,_⟩:=x;exact⟨u,e⟩
 | dK kvs=>obtain⟨_,_,_,_,u,_,_,e,_⟩:=x;exact⟨u,e⟩
 | dT kvs=>obtain⟨_,_,_,_,u,_,_,e,_⟩:=x;exact⟨u,e⟩
 | set S n=>obtain⟨u,_,_,_,e,_⟩:=x;exact⟨u,e⟩
 | ins C dx fs=>obtain⟨_,_,_,e,_⟩:=x;exact⟨_,e⟩
 | own y=>exact x
 | xd fs=>obtain⟨_,⟨u,_,_,e,_⟩,_⟩:=x;exact⟨u,e⟩
 | rng lo hi=>obtain⟨_,_,_,e⟩:=x;exact⟨_,e⟩
 | frz u v=>exact⟨_,x.1⟩
 | tbl ps=>exact⟨_,x⟩
 | met f y=>exact⟨_,x⟩
 | ext φ=>exact x.2.1
def Inv.none_at{a:Heap}(I:Inv X pins σ H s)(c:∀b o,s.heap.get? b=some o->a.get? b=some o):H a.objs.size=none:=by
 cases e:H a.objs.size with
 | none=>rfl
 | some u=>
  obtain⟨v,q⟩:=(I.hok _ _ e).obj;exact ue (vI (c _ _ q)) (Nat.lt_irrefl _)
def Inv.newB{a:Heap}(I:Inv X pins σ H s)(h:∀b o,s.heap.get? b=some o->a.get? b=some o):NewA X pins a.objs.size:=by
 have f:∀b o,s.heap.get? b=some o->b<a.objs.size:=λb o e=>vI (h b o e)
 obtain⟨m,⟨o,_,_,d,_⟩,_⟩:=I.loc;have g:=f _ _ d;refine⟨vY (vD I.ok.above g),Nat.ne_of_gt g,λx c e=>?_,λp i=>vE (f _ _ (I.pin p i).1)⟩;obtain⟨v,o,d,_⟩:=I.cell x c e;exact vE (f _ _ d)
def Inv.track(I:Inv X pins σ H s)(h:H T=none)(d:NewA X pins T)(g:ObjOk X.prog X.w (upd H T o) s.heap T o):Inv X pins σ (upd H T o) s:=by
 have a:∀b u,H b=some u->b≠T:=λb u e z=>by rw[z,h]at e;cases e
 refine I.step (h':=s.heap) (H':=upd H T o) (g':=s.gens) (d':=s.drawn) (t':=s.toks) (ch:=[T]) (λb f=>?_) (λb o _ _ _ e _=>e) (λb o _ _ _ e _=>⟨o.slots,e⟩) (λb u f _ n=>?_) (λb u _ e=>⟨u,e⟩)
  (λb k e=>(jo (a _ _ e)).trans e) (λb u v e=>(jo (a _ _ e)).trans e) (λb j e=>⟨#[],by rw[jo (a _ _ e),e];simp⟩) (λm i=>i) (λb u e=>?_) I.bare
 .have e:b=T:=by simpa using f
  subst e;exact⟨.inr d.1,d.2.1,d.2.2.1,d.2.2.2⟩
 .exact(jo λz=>f (by simp[z])).trans n
 .by_cases z:b=T
  .subst z;rw[jz]at e;cases e;exact g
  .rw[jo z]at e;exact(I.hok b u e).stay (λc v _ q=>q) (λc q=>(jo (a _ _ q)).trans q) λc l q=>(jo (a _ _ q)).trans q
theorem Inv.trackAll:∀(e:List (Addr×HO)) {H:Hp},Inv X pins σ H s->(∀p∈e,H p.1=none/\NewA X pins p.1/\∀H',ObjOk X.prog X.w H' s.heap p.1 p.2)->(e.map (·.1)).Nodup->∃H',Inv X pins σ H' s/\Same H H'/\∀p∈e,H' p.1=some p.2
 | [],H,I,_,_=>⟨H,I,Same.refl _,λp d=>nomatch d⟩
 | w::r,H,I,h,nd=>by
  obtain⟨a,b,c⟩:=h w vq;rw[uy,um]at nd;have g:=I.track a b (c _);obtain⟨H',i,f,m⟩:=Inv.trackAll r g (λp d=>by
   obtain⟨j,k,l⟩:=h p (vp _ d);exact⟨(jo λz:p.1=w.1=>nd.1 (by rw[<-z];exact vK.mpr ⟨p,d,rfl⟩)).trans j,k,l⟩) nd.2
  have n:Same H (upd H w.1 w.2):=λb u q=>(jo (je q a)).trans q
  refine⟨H',i,n.trans f,λp d=>?_⟩;rcases mem_cons.mp d with rfl | d
  .exact f _ _ jz
  .exact m p d
end
section
variable{X:Cx}
theorem valsR:∀as:L7,Vals (as.map V.ref) (as.map Value.ref)
 | []=>.nil
 | _::r=>.cons rfl (valsR r)
theorem KV.get{κ:Type}:∀{kvs:List (κ×V)} {vs:List (κ×Value)} {i:Nat} {p:κ×V},KV kvs vs->kvs[i]?=some p->∃q,vs[i]?=some q/\p.1=q.1/\RelV p.2 q.2
 | _,_,_,_,.nil,e=>by simp at e
 | _,_,0,_,.cons r _,e=>by simp at e;subst e;exact⟨_,rfl,r⟩
 | _,_,i+1,p,.cons _ t,e=>by
  obtain⟨q,a,b⟩:=KV.get (i:=i) (p:=p) t (by simpa using e);exact⟨q,by simpa using a,b⟩
def j2r:MtR X "dict.update" (λx vs H Q=>∃d o kvs more,x = .ref d/\vs=[.ref o]/\H d=some (.dK kvs)/\H o=some (.dK more)/\d≠o/\kvs.length+more.length<=sizeLine/\Q .non (upd H d (.dK (mergeK kvs more)))):=by
 intro l s G H x vs v D Q I B A h;obtain⟨d,o,kvs,more,rfl,rfl,k,p,g,y,q⟩:=h;cases B;obtain⟨u,rfl,z⟩:=vals1 A;cases z;obtain⟨E,e,i,m,b⟩:=K0 I.hok k;obtain⟨F,f,j,n,c⟩:=K0 I.hok p;refine call_meetsIn PySem.F.slot_dict_update b.typeIs PySem.F.entry_dict_update (PySem.F.args_dict_update_2 _ _) (meets_dict_update (mixKind X.prog X.w) d o g f) ⟨i,j,b,c,by rw[<-m.length,<-n.length];exact y,λr a _ w=>?_⟩;have t:∃q,r.get? d=some q:=let ⟨q,_,_,hq,_⟩:=a;⟨q,hq⟩;have C:=QA more kvs;exact⟨.non,_,yL (t':=s.toks) I (by rw[k];exact True.intro) w t (xh ⋯ e (n.merge m) a),rfl,q⟩
noncomputable def IView(v d:Addr):HO:=.ext λh=>h.get? v=some {cls:=.type "dict_items",data:=.fields #[.ref d]}
def j3E:MtR X "dict.items" (λx vs H Q=>∃d kvs,x = .ref d/\vs=[]/\H d=some (.dK kvs)/\∀v,H v=none->Q (.ref v) (upd H v (IView v d))):=by
 intro i s y H x vs v t Q I m l h;obtain⟨d,kvs,rfl,rfl,j,q⟩:=h;cases m;have f:=l.zero;subst f;obtain⟨w,c,g,r,a⟩:=K0 I.hok j;refine call_meetsIn PySem.F.slot_dict_items a.typeIs PySem.F.entry_dict_items (PySem.F.args_dict_items_1 (.ref d)) (meets_dict_items (mixKind X.prog X.w) d c) ⟨⟨g,a⟩,?_⟩;have e:(s.heap.push {cls:=.type "dict_items",data:=.fields #[.ref d]}).get? s.heap.objs.size=some {cls:=.type "dict_items",data:=.fields #[.ref d]}:=Heap.get?_push_size _ rfl;exact⟨.ref s.heap.objs.size,_,I.laid (t':=s.toks) (o:=IView s.heap.objs.size d) (λb u q=>vJ _ q) (vb _) (show ObjOk X.prog X.w _ _ _ (IView s.heap.objs.size d)from⟨e,⟨_,e⟩,λn p q k=>k _ q⟩),rfl,q _ (I.hok.fresh (vb _))⟩
noncomputable def iiK(p:Int×Int):Key×V:=(Sum.inl p.1,.int p.2)
def W9(hc:X.calm=true):CallR X (.builtin "sorted") (λxs H Q=>∃(v d:Addr) (kvs:List (Int×Int)),xs=[.ref v]/\H v=some (IView v d)/\H d=some (.dK (kvs.map iiK))/\kvs.length<64/\
  ∀(l:Addr) (as:L7) (ms:List (Int×Int)) (H':Hp),Same H H'->H l=none->H' l=some (.lst (as.map V.ref))->(∀a∈as,H a=none)->ms.Perm kvs->(ms.map (·.1)).Pairwise (·<=·)->as.length=ms.length->(∀(i:Nat) (a:Addr) (p:Int×Int),as[i]?=some a->ms[i]?=some p->H' a=some (.tup [.int p.1,.int p.2]))->Q (.ref l) H'):=by
 intro y s σ H xs us Q I r h;obtain⟨v,d,kvs,rfl,ev,ed,Z,q⟩:=h;obtain⟨u,rfl,ru⟩:=vals1 r;cases ru;obtain⟨z1,a4,N,r1,G⟩:=K0 I.hok ed;have hv:s.heap.get? v=some {cls:=.type "dict_items",data:=.fields #[.ref d]}:=(I.hok v _ ev).1;obtain⟨ep,da⟩:=G.dictAt;have lv:=r1.length;rw[vt]at lv;have nd:(kvs.map (·.1)).Nodup:=by
  have R:(N.map (·.1)).Nodup:=let ⟨_,_,_,_,_,_,_,_,hn⟩:=G;hn;rw[<-r1.keys,v8]at R;refine pairwise_map.mpr ((pairwise_map.mp R).imp λ{a b} h e=>h ?_);show(Sum.inl a.1:Key)=Sum.inl b.1;rw[e]
 refine Calls.call_function_entry kind_sorted plain_sorted entry_sorted (args_sorted1 (.ref v)) ?_;unfold Builtin.«sorted»;refine ug (m:=checkCount "sorted" 1 1 1) (uf ?_);refine ug (kdx_collect (knd:=mixKind X.prog X.w) (kvs:=N) (ep:=ep) (A:=X.A.in1) (I.ok.hd hc) ⟨_,hv,rfl,rfl⟩ da (by rw[<-lv,sizeLine_eq];lia) λg tk as P C J=>?_);rw[<-lv]at C;refine ug (wpAny_newList ?_ (by rw[vt,C,sizeLine_eq];lia));have K:(g.push (seqObj "list" (as.map Value.ref).toArray 0)).get? g.objs.size=some (seqObj "list" (as.map Value.ref).toArray 0):=Heap.get?_push_size _ rfl;have D:g.objs.size∉as:=λz=>Nat.lt_irrefl _ (J.there z)
 have E:∀i p,kvs[i]?=some p->(λi=>(kvs.getD i (0,0)).1) i=p.1/\(λi=>(kvs.getD i (0,0)).2) i=p.2:=λi p e=>by
  dsimp only;rw[vy,e];exact⟨rfl,rfl⟩
 have xQ:∀i a,as[i]?=some a->∃t u,(g.push (seqObj "list" (as.map Value.ref).toArray 0)).get? a=some {cls:=.type "tuple",data:=.seq #[.int ((λi=>(kvs.getD i (0,0)).1) i) t,.int ((λi=>(kvs.getD i (0,0)).2) i) u]}:=λi a e=>by
  obtain⟨ky,k,x,O,w,e3⟩:=J.pairs i a e;have f:i<kvs.length:=by rw[<-C];exact(vx.mp e).1
  obtain⟨w',e4,a3⟩:=KV.get r1 (i:=i) (p:=iiK kvs[i]) (by rw[vv,vz f];rfl);rw[O]at e4;cases e4;obtain⟨ek,S,ex⟩:=a3;have T:k=Sum.inl kvs[i].1:=ek.symm;subst T;have U:x = .int kvs[i].2 S:=ex;subst U;obtain⟨W,Y⟩:=E i _ (vz f);rw[show(λi=>(kvs.getD i (0,0)).1) i=kvs[i].1 from W,show(λi=>(kvs.getD i (0,0)).2) i=kvs[i].2 from Y];rcases Ja (show keyIs (Sum.inl kvs[i].1) ky=true from w)with⟨n,t,q1,q2⟩ | ⟨n,t,q1,q2⟩
  .cases q1;subst q2;exact⟨t,S,vJ _ e3⟩
  .cases q1
 have xP:PrAt (g.push (seqObj "list" (as.map Value.ref).toArray 0)) as (λi=>(kvs.getD i (0,0)).1):=λi a e=>by
  obtain⟨t,u,z⟩:=xQ i a e;exact⟨_,t,_,_,z,rfl,rfl⟩
 have a0:∀i j,i<as.length->j<as.length->(λi=>(kvs.getD i (0,0)).1) i=(λi=>(kvs.getD i (0,0)).1) j->i=j:=λi j f B e=>by
  rw[C]at f B;obtain⟨W,_⟩:=E i _ (vz f);obtain⟨Y,_⟩:=E j _ (vz B);rw[W,Y]at e;rcases Nat.lt_trichotomy i j with z | z | z
  .exact ue e (by have:=pairwise_iff_getElem.mp nd i j (by rw[vt];exact f) (by rw[vt];exact B) z;simpa using this)
  .exact z
  .exact ue e.symm (by have:=pairwise_iff_getElem.mp nd j i (by rw[vt];exact B) (by rw[vt];exact f) z;simpa using this)
 refine ug (wpAny_holding (wpAny_call_entry slot_list_sort ⟨_,K,rfl⟩ entry_list_sort (j4v (s:={s with heap:=g.push (seqObj "list" (as.map Value.ref).toArray 0),toks:=tk}) K D xP a0 (by rw[C];exact Z) λM F c hq hs kk o2=>⟨_,rfl,?_⟩) (args_list_sort _)));refine uf ⟨_,rfl,?_⟩;have a1:∀b o,s.heap.get? b=some o->b<g.objs.size:=λb o e=>vI (P b o e)
 have k2:∀b o,s.heap.get? b=some o->F.get? b=some o:=λb o e=>kk b o (vE (a1 b o e)) (vJ _ (P b o e))
 have I2:Inv X y σ H {s with heap:=F,toks:=tk}:=I.kept (t':=tk) k2;have hB:H g.objs.size=none:=I.none_at P;have nB:=I.newB P;have ha:∀a∈as,H a=none/\NewA X y a:=λa h=>⟨I.hok.fresh (vY (J.above a h)),I.newA (vY (J.above a h))⟩
 have L:∀i∈M,i<as.length:=λi f=>v4.mp (hq.mem_iff.mp f)
 have a2:(((g.objs.size,HO.lst ((M.map λi=>as.getD i 0).map V.ref))::(List.range as.length).map λi=>(as.getD i 0,HO.tup [.int (kvs.getD i (0,0)).1,.int (kvs.getD i (0,0)).2])).map (·.1)).Nodup:=by
  rw[uy,um,v8];have w:(List.range as.length).map ((λx=>x.1)∘λi=>(as.getD i 0,HO.tup [.int (kvs.getD i (0,0)).1,.int (kvs.getD i (0,0)).2]))=as:=ext_getElem (by simp) λi g F=>by
   rw[getElem_map,getElem_range];show as.getD i 0=_;rw[vy,vz F];rfl
  rw[w];exact⟨D,J.rise.imp λh=>vE h⟩
 obtain⟨H',I3,s3,k3⟩:=I2.trackAll ((g.objs.size,HO.lst ((M.map λi=>as.getD i 0).map V.ref))::(List.range as.length).map λi=>(as.getD i 0,HO.tup [.int (kvs.getD i (0,0)).1,.int (kvs.getD i (0,0)).2])) (λp hp=>by
  rcases mem_cons.mp hp with rfl | hp
  .refine⟨hB,nB,λH'=>⟨?_,_,c,valsR _,o2⟩⟩;rw[vt,vt,hq.length_eq,length_range,C,sizeLine_eq];lia
  .obtain⟨i,f,rfl⟩:=vK.mp hp;have f:=v4.mp f;have e:as[i]?=some (as.getD i 0):=by rw[vy,vz f];rfl
   obtain⟨t1,S,eo⟩:=xQ i _ e;have hm:=vm e;obtain⟨R,n2⟩:=ha _ hm;exact⟨R,n2,λH'=>⟨(by show 2<=sizeLine;decide),[_,_],.cons ⟨t1,rfl⟩ (.cons ⟨S,rfl⟩ .nil),⟨_,kk _ _ (λz=>D (z▸hm)) eo,rfl,_,rfl⟩⟩⟩) a2
 .refine⟨.ref g.objs.size,H',I3,rfl,q g.objs.size (M.map λi=>as.getD i 0) (M.map λi=>kvs.getD i (0,0)) H' s3 hB (k3 _ vq) (λa h=>?_) ?_ ?_ (by rw[vt,vt]) λi a p O w=>?_⟩
  .obtain⟨i,f,rfl⟩:=vK.mp h;have e:as[i]?=some (as.getD i 0):=by rw[vy,vz (L i f)];rfl
   exact(ha _ (vm e)).1
  .have e:=hq.map λi=>kvs.getD i (0,0)
   rw[C]at e;have w:(List.range kvs.length).map (λi=>kvs.getD i (0,0))=kvs:=ext_getElem (by simp) λi g F=>by
    rw[getElem_map,getElem_range,vy,vz F];rfl
   rw[w]at e;exact e
  .rw[v8];exact hs
  .rw[vv]at O w;obtain⟨j,B,rfl⟩:=vg.mp O;rw[B]at w;cases w;exact k3 _ (vp _ (vK.mpr ⟨j,v4.mpr (L j (vm B)),rfl⟩))
end
theorem kT:∀{as:L7} {us:L9},Vals (as.map V.ref) us->us=as.map Value.ref
 | [],_,r=>by cases r;rfl
 | a::as,_,r=>by
  cases r with
  | cons r1 r2=>rw[kT r2,show _=Value.ref a from r1];rfl
theorem XT:∀{as:L7} {kvs:List (Int×Int)},as.length=kvs.length->(∀(i:Nat) (a:Addr) (q:Int×Int),as[i]?=some a->kvs[i]?=some q->∃t u,IsTup h a #[.int q.1 t,.int q.2 u])->
  ∃ps:List (Key×Value),KV (kvs.map iiK) ps/\ps.length=kvs.length/\∀(j:Nat) (kv:Key×Value),ps[j]?=some kv->∃a key,as[j]?=some a/\IsTup h a #[key,kv.2]/\keyIs kv.1 key=true
 | [],[],_,_=>⟨[],.nil,rfl,λj kv e=>by simp at e⟩
 | [],_::_,l,_=>by simp at l
 | _::_,[],l,_=>by simp at l
 | a::as,q::kvs,l,f=>by
  obtain⟨ps,o,p,r⟩:=XT (as:=as) (kvs:=kvs) (by simpa using l) λi a q m n=>f (i+1) a q (by simpa using m) (by simpa using n)
  obtain⟨t,u,e⟩:=f 0 a q rfl rfl;refine⟨(Sum.inl q.1,.int q.2 u)::ps,.cons ⟨rfl,u,rfl⟩ o,by rw[vQ,p,vQ],λj kv c=>?_⟩;cases j with
  | zero=>simp at c;subst c;exact⟨a,_,rfl,e,WD _ _⟩
  | succ j=>obtain⟨b,s,d,g,k⟩:=r j kv (by simpa using c);exact⟨b,s,by simpa using d,g,k⟩
section
variable{X:Cx}
def j0f(G:X.calm=true):CallR X (.type "dict") (λxs H Q=>∃(p:Addr) (as:L7) (kvs:List (Int×Int)),xs=[.ref p]/\H p=some (.lst (as.map V.ref))/\as.length=kvs.length/\
  (∀(i:Nat) (a:Addr) (q:Int×Int),as[i]?=some a->kvs[i]?=some q->H a=some (.tup [.int q.1,.int q.2]))/\∀d,H d=none->Q (.ref d) (upd H d (.dK (mergeK [] (kvs.map iiK))))):=by
 intro M s σ H xs us Q I r h;obtain⟨p,as,kvs,rfl,Z,B,ht,q⟩:=h;obtain⟨u,rfl,ru⟩:=vals1 r;cases ru;obtain⟨z,D,n,rv,lv,e⟩:=I.lstM Z;have W:=kT rv;subst W;rw[vt]at z;have J:p<s.heap.objs.size:=vI e;obtain⟨ps,kp,N,pt⟩:=XT (h:=s.heap) B λi a q S U=>by
  obtain⟨_,D,r',t'⟩:=I.hok a _ (ht i a q S U);cases r' with
  | cons ra rr=>
   cases rr with
   | cons rb rr=>
    cases rr;obtain⟨t1,rfl⟩:=ra;obtain⟨t2,rfl⟩:=rb;exact⟨t1,t2,t'⟩
 refine callType_codes (Q₁:=λt g=>t = .ref s.heap.objs.size/\g={s with heap:=s.heap.push {cls:=.type "dict",data:=.dict #[]}}) PySem.F.kt_called_dict (PySem.F.kt_typeCall_dict_1 (.ref p)) PySem.F.entry_dict_init (kt_code_dict_new (.ref p) ⟨rfl,rfl⟩) ?_;rintro t g ⟨rfl,rfl⟩;have c:(s.heap.push {cls:=.type "dict",data:=.dict #[]}).DictOf (mixKind X.prog X.w) s.heap.objs.size []:=Heap.DictOf.new s.heap;have v:∀b o,s.heap.get? b=some o->(s.heap.push {cls:=.type "dict",data:=.dict #[]}).get? b=some o:=λb o e=>vJ _ e
 generalize s.heap.push {cls:=.type "dict",data:=.dict #[]}=h0 at c v;refine⟨c.typeIs (s:={s with heap:=h0}),PySem.F.args_dict_init_2 _ _,?_⟩;unfold Builtin.«dict.__init__»;refine ug ?_;unfold Builtin.Dict.selfAndRest;refine ug (wpAny_notOrdered_dict (c.typeIs (s:={s with heap:=h0})) ?_);show wpAny (model X.prog X.w) _ (pure (s.heap.objs.size,[Value.ref p])) _ _ _;refine uf ?_;show wpAny (model X.prog X.w) _ (Builtin.Dict.updateFrom "dict.__init__" s.heap.objs.size (.ref p) [] .none) _ _ _;unfold Builtin.Dict.updateFrom;refine ug (wpAny_typeOf (T:="list") ⟨_,v _ _ e,rfl⟩ ?_);rw[vd nofun];refine ug (noKeys (s:={s with heap:=h0}) (v _ _ e) rfl rfl rfl (I.ok.hd G) λm tk K=>?_);rw[vd (show(none:Option Value).isNone=true from rfl)];have f:∀b o,s.heap.get? b=some o->m.get? b=some o:=λb o e=>K b o (v b o e)
 have k:m.DictOf (mixKind X.prog X.w) s.heap.objs.size []:=c.keep K;have w:s.heap.objs.size<m.objs.size:=by obtain⟨_,_,_,hg,_⟩:=k;exact vI hg
 have lp:p<m.objs.size:=Nat.lt_trans J w;refine ug (wpAny_rule ?_);refine ug (wpAny_pyIter_list (l:=p) (items:=(as.map Value.ref).toArray) ⟨_,f _ _ e,rfl,n,rfl⟩ ?_);refine uf ⟨plainId_quiet yR _,?_⟩;refine dul (knd:=mixKind X.prog X.w) (A:=X.A.in1) (d:=s.heap.objs.size) (it:=m.objs.size) (l:=p) (items:=as.map Value.ref) (res:=.none) (I.ok.hd G) (vE w) (Nat.ne_of_gt J) (Nat.ne_of_gt lp) ps 0 [] _
  ⟨_,Heap.get?_push_size _ rfl,rfl,rfl⟩ ⟨_,vJ _ (f _ _ e),rfl,n,rfl⟩ (by rw[vt,B,N,Nat.zero_add]) (λj kv Y=>?_) (k.push _) (by rw[length_nil,N,<-B,Nat.zero_add];exact z) λh2 E k2 x=>?_
 .obtain⟨a,ky,O,⟨o,F,P⟩,R⟩:=pt j kv Y;have L:a<s.heap.objs.size:=vI F;exact⟨a,ky,by rw[Nat.zero_add,vv,O];rfl,⟨o,vJ _ (f _ _ F),P⟩,R,vE L,vE (Nat.lt_trans L w)⟩
 .refine⟨rfl,.ref s.heap.objs.size,upd H s.heap.objs.size (.dK (mergeK [] (kvs.map iiK))),I.laid (t':=E) (λb o y=>k2 b o (vE (vI y)) (vE (Nat.lt_trans (vI y) w)) (vJ _ (f _ _ y))) (vb _) ?_,rfl,q _ (I.hok.fresh (vb _))⟩;have hm:=QA (kvs.map iiK) [];rw[length_nil,vt]at hm;have C:(s.heap.objs.size==sysModules)=false:=by
   rw[beq_eq_false_iff_ne];exact Nat.ne_of_gt I.big
  exact xh ⋯ C (kp.merge .nil) x
end
theorem j1l{H:Hp}:∀(ks:L5),DVs H (ks.map V.int) (ks.map PyData.int)
 | []=>.nil
 | k::r=>.cons (.int k) (j1l r)
def j4Z(ks:L5):PyData.eqv (.list (ks.map PyData.int)) (.list [])=decide (ks=[]):=by
 cases ks<;>simp[PyData.eqv,PyData.eqvAll]
def j6s(S:X.A.units+64<cLine):OpR X (compareOp .In) (λx y H Q=>∃(a l:Addr) (as:L7) (hs:L1),x = .ref a/\y = .ref l/\H a=some (.lst [])/\H l=some (.lst (as.map V.ref))/\as.length=hs.length/\
  (∀(i:Nat) (b:Addr) (ks:L5),as[i]?=some b->hs[i]?=some ks->H b=some (.lst (ks.map V.int)))/\Q (.bl (hs.any λks=>decide (ks=[]))) H):=by
 intro o s U H x y v u Q I L M h;obtain⟨a,l,as,hs,rfl,rfl,t,B,R,D,q⟩:=h;cases L;cases M;obtain⟨F,r,G,T⟩:=I.list (SqL.of B);have A:=kT r;subst A;obtain⟨N,J⟩:=zp I (DV.lst t .nil) (show RelV (.ref a) (.ref a)from rfl)
 classical
 have p:∀(i:Nat) (b:Addr) (ks:L5),as[i]?=some b->hs[i]?=some ks->∃c,Reads s.heap (.ref b) (.list (ks.map PyData.int)) c:=λi b ks d f=>zp I (DV.lst (D i b ks d f) (j1l ks)) (show RelV (.ref b) (.ref b)from rfl)
 have n:∀(i:Nat) (b:Addr) (ks:L5),as[i]?=some b->hs[i]?=some ks->decide (∃c,Reads s.heap (.ref b) (.list []) c)=decide (ks=[]):=λi b ks d f=>by
  obtain⟨c,m⟩:=p i b ks d f;rw[decide_eq_decide];constructor
  .rintro⟨O,K⟩;have e:=SeqAt.Reads.unique _ _ _ _ _ (show PyData.canLay0 (.list [])=true from rfl) K m;cases ks with
   | nil=>rfl
   | cons k r=>simp at e
  .rintro rfl;exact⟨c,m⟩
 refine SeqAt.in_listAt (λw=>decide (∃c,Reads s.heap w (.list []) c)) G.isList (λw j=>?_) ⟨.bl _,H,I,rfl,?_⟩
 .obtain⟨i,g,e⟩:=mem_iff_getElem.mp (show w∈as.map Value.ref by simpa using j);rw[getElem_map]at e;rw[vt]at g;subst e;have d:as[i]?=some as[i]:=vz g;have f:hs[i]?=some hs[i]:=vz ⋯;obtain⟨c,m⟩:=p i _ _ d f;have z:=SeqAt.eqAt_reads _ _ X.A.in1 s _ _ _ _ m J (by show PyData.canLayAll0 _=true;exact ke_canLayAll0 _) rfl (by
   show X.A.in1.units+min (PyData.depthAll _+1) (0+1)<cLine;have P:X.A.in1.units=X.A.units+1:=rfl;lia)
  rw[j4Z,<-n i _ _ d f]at z;exact z
 .have e:(as.map Value.ref).toArray.any (λw=>decide (∃c,Reads s.heap w (.list []) c))=hs.any λks=>decide (ks=[]):=by
   rw[List.any_toArray,List.any_map,Bool.eq_iff_iff,any_eq_true,any_eq_true];constructor
   .rintro⟨b,C,j⟩;obtain⟨i,g,rfl⟩:=mem_iff_getElem.mp C;exact⟨hs[i],getElem_mem _,by rw[<-n i _ _ (vz g) (vz ⋯)];exact j⟩
   .rintro⟨ks,E,j⟩;obtain⟨i,g,rfl⟩:=mem_iff_getElem.mp E;refine⟨as[i],getElem_mem _,?_⟩;show decide _=true;rw[n i _ _ (vz ⋯) (vz g)];exact j
  rw[e];exact q
def Itv(K:Frg)(a:Addr)(n:Nat):It:=
 ⟨λi H=>∃xs x,SqL K H a xs/\i<n/\xs[n-1-i]?=some x,λi H x H'=>H'=H/\∀xs,SqL K H a xs->xs[n-1-i]?=some x,λi _=>i=n⟩
def j4G{P:Program}{w:World}{K:Frg}{tg:Expr}(a it:Addr)(n:Nat):Turn P w K tg (Itv K a n) [it] it (λi h=>h.IsRevIter it a ((n:Int)-1-(i:Nat))) where
 mem:=by simp
 obj:=λi h f b j=>by
  have e:b=it:=by simpa using j
  subst e;obtain⟨o,e,c,d⟩:=f;exact⟨o,e,λv z=>by rw[d]at z;cases z⟩
 keep:=λi h q f k=>f.at λo e=>k it (by simp) o e
 item:=by
  intro X F G D J i g s N H E I r f m;subst F G D;obtain⟨xs,x,L,U,M⟩:=m;obtain⟨Z,rv,p,hz⟩:=I.list L;obtain⟨u,W,ru⟩:=rv.get M;obtain⟨t,y,T,A,B,C⟩:=r it (by simp);have e:((n:Int)-1-(i:Nat))=((n-1-i:Nat):Int):=⋯
  rw[e]at f;refine wpAny_pyNext_rev_item f p.isList (x:=u) (by simpa using W) λq l sb=>?_
  have O:Inv X g N H {s with heap:=q}:=I.turned (t':=s.toks) (λb o j e=>(sb.2 b j).trans e) t y A B C;have Q:(((n-1-i:Nat):Int)-1)=((n:Int)-1-((i+1:Nat):Int)):=⋯
  rw[Q]at l;obtain⟨o,S,c,d⟩:=id l;exact⟨u,rfl,Xz (s:={s with heap:=q}) S c d nofun ⟨x,H,O,ru,⟨rfl,λys Y=>by rw[I.list_inj Y L];exact M⟩,l,λb j=>(r b j).1⟩⟩
 done:=by
  intro X F G D J i g s N H E I r f m;subst F G D;have m:i=n:=m;subst m;obtain⟨t,y,T,A,B,C⟩:=r it (by simp);rw[show((i:Int)-1-(i:Nat)) = -1 by lia]at f;exact wpAny_pyNext_rev_end (I.ok.hd J) f λq R=>⟨rfl,I.turned (t':=s.toks) (λb o j e=>R b o j e) t y A B C⟩
 self:=λ_ _ _ _ _ f h=>wpAny_pyIter_revIter f h
def iRev(K:Frg)(ta:TA):TI:=λσ H R=>ta σ H λvs H1=>∃a xs,vs=[.ref a]/\SqL K H1 a xs/\R (Itv K a xs.length) H1
def j6z{X:Cx}{E a:Expr}{l:TA}{p j:Pos}(v:Gl X "reversed")(x:X.mg "reversed"= none)(r:PA X [a] l)(z:starEach [a] X.env=[(false,eval a X.env)]:=by rfl) :
  PI X E (.Call (.Name "reversed" p) [a] [] j) (iRev X.K l):=by
 intro i s F H R I h;refine Call_ (Zf I v x Xm (PyProof.Rows.callWith_type1 (thn (r j i s F H _ I h) λJ d z_=>?_) z rfl));obtain⟨K,n,k,B,A⟩:=z_;obtain⟨b,m,rfl,y,q⟩:=A;obtain⟨u,rfl,C⟩:=vals1 B;cases C;obtain⟨g,D,p,G⟩:=k.list y;have w:=D.length;refine call_reversed_list p.isList ?_;have f:(d.heap.push (revObj b ((g.toArray.size:Int)-1))).IsRevIter d.heap.objs.size b ((m.length:Int)-1-((0:Nat):Int)):=⟨_,Heap.get?_push_size _ rfl,rfl,by rw[w];simp[revObj]⟩
 refine wpAny_pyIter_revIter (s:={d with heap:=d.heap.push (revObj b ((g.toArray.size:Int)-1))}) f ?_;refine⟨d.heap.objs.size,[d.heap.objs.size],_,_,n,rfl,k.kept (t':=d.toks) λb o e=>vJ _ e,j4G b _ m.length,f,λc t=>?_,q⟩;have e:c=d.heap.objs.size:=by simpa using t
 subst e;exact k.fpOk (vb _) (k.hok.fresh (vb _))
def j50{K:Frg}{a:Addr}{xs:N2}{g:TG}{j:TS}{D:Ends}{b:St}{H:Hp}(c:Nat->St->Hp->Prop)(k:c 0 b H)(o:∀i b H,i<=xs.length->c i b H->SqL K H a xs)
  (r:∀i x b H,i<xs.length->xs[xs.length-1-i]?=some x->c i b H->g x b H λf H2=>j {D with nx:=c (i+1),ct:=c (i+1),bk:=D.nx} f H2) (l:∀b H,c xs.length b H->D.nx b H) :
  ∃W:Nat->Nat->St->Hp->Prop,(∃m,W 0 m b H)/\∀i m b H,W i m b H->
   ((Itv K a xs.length).stop i H/\D.nx b H)\/((Itv K a xs.length).go i H/\∃N:St->Hp->Prop,(∀S' H',N S' H'->∃h,h<m/\W (i+1) h S' H')/\∀x H',(Itv K a xs.length).yld i H x H'->g x b H' λf H2=>j {D with nx:=N,ct:=N,bk:=D.nx} f H2):=by
 refine⟨λi m b H=>m=xs.length-i/\i<=xs.length/\c i b H,⟨xs.length,by simp,va _,k⟩,?_⟩;rintro i m b H ⟨rfl,n,p⟩;have q:=o i b H n p;by_cases d:i<xs.length
 .refine .inr ⟨⟨xs,xs[xs.length-1-i],q,d,vz ⋯⟩,c (i+1),λS' H' s=>⟨xs.length-(i+1),⋯,rfl,d,s⟩,λx H' y=>?_⟩;obtain⟨e,y⟩:=y;subst e;exact r i x b _ d (y xs q) p
 .have e:i=xs.length:=⋯
  subst e;exact .inl ⟨rfl,l b H p⟩
def rd_iRev{K:Frg}{b:TA}{c:St}{H:Hp}{R:It->Hp->Prop}(h:b c H λvs H1=>∃a xs,vs=[.ref a]/\SqL K H1 a xs/\R (Itv K a xs.length) H1):iRev K b c H R:=h
def Kw{X:Cx}:IxR X (λx y H Q=>rIxL X.K x y H Q\/rIxT X.K x y H Q):=λb a c s g H x y v u Q I e f h d=>
 h.elim (λh=>jv b a c s g H x y v u Q I e f h d) λh=>jr b a c s g H x y v u Q I e f h d
section
variable{X:Cx}
def tTru(K:Frg)(ta:TE):TT:=λσ H Q=>ta σ H λx H'=>∃k,TruV K x H' k/\Q k H'
def j6F{a:Expr}{c:TE}(d:PE X a c)(e:∀b,isTrue a X.env b=(do let v <-b;standAt a.pos;holding [v] (truthy v))):PT X a (tTru X.K c):=j4c d e
end
def rd_tru{K:Frg}{a:TE}{b:St}{H:Hp}{Q:Bool->Hp->Prop}(h:a b H λx H'=>∃k,TruV K x H' k/\Q k H'):tTru K a b H Q:=h
def Xo{K:Frg}{a b:Addr}{xs zs:N2}{k:Nat}{ci:L6}{g:TG}{z:TT}{w:TE}{A:St}{H:Hp}{Z:Addr->N2->Hp->Prop}(d:Nat->N2->Hp->Prop)(s:xs.length=zs.length)(B:d 0 [] H)(F:∀i ys H,i<=xs.length->d i ys H->SqL K H a xs/\SqL K H b zs)
  (G:∀i u v ys H T H',xs[i]?=some u->zs[i]?=some v->d i ys H->Same H H'->H' T=some (.tup [u,v])->g (.ref T) (capS k ci A) H' λc H2=>z c H2 λb j=>if b=true then w c j λv n=>ys.length<sizeLine/\d (i+1) (ys++[v]) n else d (i+1) ys j)
  (D:∀ys H,d xs.length ys H->ys.length<=sizeLine/\∀p,H p=none->Z p ys H) :
  ∃W:Nat->Nat->N2->Hp->Prop,(∃m,W 0 m [] H)/\∀i m ys H,W i m ys H->
   ((Itz K a b).stop i H/\ys.length<=sizeLine/\∀p,H p=none->Z p ys H)\/
   ((Itz K a b).go i H/\∃N:N2->Hp->Prop,(∀f H',N f H'->∃t,t<m/\W (i+1) t f H')/\∀x H',(Itz K a b).yld i H x H'->g x (capS k ci A) H' λc H2=>z c H2 λb j=>
    if b=true then w c j λv n=>ys.length<sizeLine/\N (ys++[v]) n else N ys j):=by
 refine⟨λi m ys H=>m=xs.length-i/\i<=xs.length/\d i ys H,⟨xs.length,by simp,va _,B⟩,?_⟩;rintro i m ys H ⟨rfl,E,p⟩;obtain⟨q,r⟩:=F i ys H E p;by_cases l:i<xs.length
 .refine .inr ⟨⟨xs,xs[i],zs,zs[i],q,by simp[l],r,by simp⟩,d (i+1),λf H' I=>⟨xs.length-(i+1),⋯,rfl,l,I⟩,λx H' y=>?_⟩;obtain⟨T,u,v,rfl,C,e,y,J⟩:=y;exact G i u v ys H T H' (y xs q) (J zs r) p (λb o h=>by rw[e,jo (je h C)];exact h) (by rw[e];exact jz)
 .have e:i=xs.length:=⋯
  subst e;exact .inl ⟨⟨xs,zs,q,r,.inl (vb _)⟩,D ys H p⟩
section
variable{X:Cx}{e:Expr}{te:TE}
def tRevS(K:Frg)(te:TE)(ts:TO):TE:=λσ H Q=>te σ H λx H1=>ts σ H1 λst H2=>st=some (-1)/\∃a xs,x = .ref a/\SqL K H2 a xs/\∀p,H2 p=none->Q (.ref p) (upd H2 p (.lst xs.reverse))
def j4L{xs:N2}{us:L9}(h:Vals xs us):Vals xs.reverse us.reverse:=by
 induction h with
 | nil=>exact .nil
 | cons r _ ih=>rw[reverse_cons,reverse_cons];exact ih.append (.cons r .nil)
def j45{st:Expr}{p:TO}{n j:Pos}(A:PE X e te)(B:PO X (some st) p):PE X (.Subscript e (.Slice none none (some st) n) j) (tRevS X.K te p):=by
 intro c s f H Q I h;refine Subscript_ (thn (A c s f H _ I h) λv L z_=>?_);obtain⟨x,t,w,K,J⟩:=z_;refine wpAny_Slice ?_;rw[evalPart_none];refine uf ?_;refine uf ?_;refine thn (B c L f t _ w J) λk d z_=>?_;obtain⟨N,u,y,G,i,a,M,z,C,q⟩:=z_
 subst i z;cases K;have g:Inv X c f u {d with heap:=d.heap.push {cls:=.type "slice",data:=.fields #[.none,.none,k]}}:=y.kept (t':=d.toks) λb F q=>vJ _ q
 obtain⟨E,r,m,D⟩:=g.list C;have l:=r.length;show wpAny (model X.prog X.w) X.A (subscriptTail e (.Slice none none (some st) n) (.ref a) (.ref d.heap.objs.size)) (EP X c f Q) X.xe {d with heap:=d.heap.push {cls:=.type "slice",data:=.fields #[.none,.none,k]}};refine tail_any (ops:=[.ref a,.ref d.heap.objs.size]) m.isList.typeIs slot_list_getitem.lookup ?_ (by with_unfolding_all rfl);refine wpAny_getItem_list_slice m.isList (Heap.IsSliceOf.new ..) .none .none G nofun ?_ (by rw[size_toArray]<;>lia);rw[PySem.W.krv_pick];refine⟨.ref (d.heap.push {cls:=.type "slice",data:=.fields #[.none,.none,k]}).objs.size,_,g.laid (t':=d.toks) (o:=.lst M.reverse) (λb F q=>vJ _ q) (vb _) ?_,rfl,q _ (g.hok.fresh (vb _))⟩;exact⟨by rw[length_reverse];exact D,_,0,j4L r,Heap.get?_push_size _ rfl⟩
end
def rd_revS{K:Frg}{c:TE}{d:TO}{b:St}{H:Hp}{Q:VK}(h:c b H λx H1=>d b H1 λst H2=>st=some (-1)/\∃a xs,x = .ref a/\SqL K H2 a xs/\∀p,H2 p=none->Q (.ref p) (upd H2 p (.lst xs.reverse))):tRevS K c d b H Q:=h
def j6G{K:Frg}{i j k:Nat}{a:Addr}{x y z:V}{b:St}{H:Hp}{R:St->Hp->Prop}(e:SqT K H a [x,y,z])(h:gName i x b H λS' H'=>gName j y S' H' λS' H'=>gName k z S' H' R):gTup K 3 (gCons (gName i) (gCons (gName j) (gCons (gName k) gNil))) (.ref a) b H R:=
 ⟨a,[x,y,z],rfl,e,rfl,x,[y,z],rfl,y,[z],rfl,z,[],rfl,rfl,h⟩
def j0T{K:Frg}{i j k l:Nat}{a:Addr}{x y z w:V}{b:St}{H:Hp}{R:St->Hp->Prop}(e:SqT K H a [x,y,z,w])(h:gName i x b H λS' H'=>gName j y S' H' λS' H'=>gName k z S' H' λS' H'=>gName l w S' H' R):gTup K 4 (gCons (gName i) (gCons (gName j) (gCons (gName k) (gCons (gName l) gNil)))) (.ref a) b H R:=
 ⟨a,[x,y,z,w],rfl,e,rfl,x,[y,z,w],rfl,y,[z,w],rfl,z,[w],rfl,w,[],rfl,rfl,h⟩
section
variable{prog:Program}{w:World}{A:Around}{E:Value->Shared->Prop}{s:Shared}
end
def Itd(lo:Int)(n:Nat):It:=⟨λi _=>i<n,λi H x H'=>H'=H/\x = .int (lo-i),λi _=>n<=i⟩
def X9{P:Program}{w:World}{K:Frg}{N:Expr}(it:Addr)(lo:Int)(n:Nat):Turn P w K N (Itd lo n) [it] it (λi h=>IsRangeIter h it (lo+(i:Nat)*(-1)) ((n:Int)-(i:Nat)) (-1)) where
 mem:=by simp
 obj:=λi h a b d=>by
  have e:b=it:=by simpa using d
  subst e;exact⟨_,a,λv z=>by
   have O:Data.fields _=Data.cell v:=z;cases O⟩
 keep:=λi h g a k=>k it (by simp) _ a
 item:=by
  intro X x B u y i c s D H E I j a A;subst x B u;obtain⟨l,m,J,p,q,r⟩:=j it (by simp);have W:=Walks.range (prog:=X.prog) (w:=X.w) (I.ok.hd y) it lo (-1) n;refine W.item i s _ _ A a λv g C L f M=>?_
  obtain⟨t,rfl⟩:=L;have F:Inv X c D H {s with heap:=g,toks:=C}:=I.turned (λb o d e=>M b o (by simpa using d) e) l m p q r;refine⟨_,rfl,Xz (s:={s with heap:=g,toks:=C}) (n:="range_iterator") f rfl rfl nofun ⟨.int (lo-i),H,F,⟨t,?_⟩,⟨rfl,rfl⟩,f,λb d=>(j b d).1⟩⟩;rw[show lo+(i:Int)*(-1)=lo-i by lia]
 done:=by
  intro X x B u y i c s D H E I j a A;subst x B u;obtain⟨l,m,J,p,q,r⟩:=j it (by simp);exact wpAny_pyNext_range_end (I.ok.hd y) a (by have:n<=i:=A;lia) λg G=>⟨rfl,I.turned (t':=s.toks) (λb o d e=>G b o d e) l m p q r⟩
 self:=λ_ _ _ _ _ a h=>wpAny_pyIter_rangeiter a h
section
variable{X:Cx}{tg:Expr}
def y8(a b:Int):Builtin.Range.rangeSize a b (-1)=if b<a then a-b else 0:=by
 unfold Builtin.Range.rangeSize;simp only[show¬((-1:Int)>0) by decide,if_false,show(- -1:Int)=1 by decide,Int.ediv_one];split<;>lia
def j2J(c : -(2^61)<=a)(d:a<2^61)(e : -(2^61)<=b)(h:b<2^61):Builtin.Range.small a b (-1)=true:=by
 have f:∀x:Int,-(2^62)<=x->x<2^62->Builtin.Range.rangeFitsLong x=true:=λx c d=>by
  unfold Builtin.Range.rangeFitsLong;simp;lia
 unfold Builtin.Range.small;rw[y8];have g : -(2^62)<=(if b<a then a-b else 0)/\(if b<a then a-b else 0)<2^62:=by split<;>lia
 rw[f a ⋯ ⋯,f b ⋯ ⋯,f (-1) nofun nofun,f _ g.1 g.2,vc (show¬((-1:Int)>0) by decide),f (b+(-1+1)) ⋯ ⋯];simp
def j2E{a:List (Addr×Obj)}{f:St}{H:Hp}{s:Shared}{R:It->Hp->Prop}{E:Value->Shared->Prop}{lo hi:Int}{t u v:Tok}{d:Nat}(I:Inv X a f H s)(i : -(2^61)<=lo)(j:lo<2^61)(k : -(2^61)<=hi)(l:hi<2^61)
  (q:R (Itd lo (lo-hi).toNat) H):wpAny (model X.prog X.w) X.A (pyIter (.ref s.heap.objs.size)) (PIE X a f tg R) E {s with heap:=s.heap.push {cls:=.type "range",data:=.fields #[.int lo t,.int hi u,.int (-1) v]},toks:=d}:=by
 refine wpAny_pyIter_range (IsRange.new ..) (j2J i j k l) ?_;have c:Inv X a f H {s with heap:=s.heap.push {cls:=.type "range",data:=.fields #[.int lo t,.int hi u,.int (-1) v]},toks:=d}:=I.kept λb o e=>vJ _ e
 refine⟨(s.heap.push {cls:=.type "range",data:=.fields #[.int lo t,.int hi u,.int (-1) v]}).objs.size,[(s.heap.push {cls:=.type "range",data:=.fields #[.int lo t,.int hi u,.int (-1) v]}).objs.size],_,_,H,rfl,
  c.kept (t':=d) λb o e=>vJ _ e,X9 _ lo (lo-hi).toNat,?_,λb m=>?_,q⟩
 .have g:lo+((0:Nat):Int)*(-1)=lo:=by simp
  have h:(((lo-hi).toNat:Nat):Int)-((0:Nat):Int)=Builtin.Range.rangeSize lo hi (-1):=by rw[y8];split<;>lia
  show IsRangeIter _ _ (lo+((0:Nat):Int)*(-1)) ((((lo-hi).toNat:Nat):Int)-((0:Nat):Int)) (-1);rw[g,h];exact Heap.get?_push_size _ rfl
 .have e:b=(s.heap.push {cls:=.type "range",data:=.fields #[.int lo t,.int hi u,.int (-1) v]}).objs.size:=by simpa using m
  subst e;exact c.fpOk (vb _) (c.hok.fresh (vb _))
def iRngD(ta:TA):TI:=λσ H R=>ta σ H λvs H1=>∃i j:Int,vs=[.int i,.int j,.int (-1)]/\(-(2^61)<=i/\i<2^61/\-(2^61)<=j/\j<2^61)/\R (Itd i (i-j).toNat) H1
def j2x(m:Gl X "range")(n:X.mg "range"= none)(l:PA X [a,b,c] ta)(o:starEach [a,b,c] X.env=(false,eval a X.env)::starEach [b,c] X.env:=by rfl)(f:(backTo pos (starEach [b,c] X.env)).any (·.1)=false:=by rfl) :
  PI X tg (.Call (.Name "range" p) [a,b,c] [] pos) (iRngD ta):=by
 intro d s z H R I h;refine Call_ (Zf I m n boot_range (PyProof.Rows.callWith_type1 (thn (l pos d s z H _ I h) λD B z_=>?_) o f));obtain⟨E,A,k,x,g⟩:=z_;obtain⟨i,j,e,⟨g,u,v,w⟩,q⟩:=g;subst e;cases x with
 | cons r rr=>
  cases rr with
  | cons r' rr=>
   cases rr with
   | cons r'' rr=>
    cases rr;obtain⟨t,rfl⟩:=r;obtain⟨C,rfl⟩:=r';obtain⟨y,rfl⟩:=r'';exact call_range_3 nofun (j2E k g u v w q) (.inl (PyProof.noPylong_small ⋯))
end
def rd_rngD{a:St}{H:Hp}{R:It->Hp->Prop}(h:ta a H λvs H1=>∃i j:Int,vs=[.int i,.int j,.int (-1)]/\(-(2^61)<=i/\i<2^61/\-(2^61)<=j/\j<2^61)/\R (Itd i (i-j).toNat) H1):iRngD ta a H R:=h
def j3f{lo:Int}{n:Nat}{g:TG}{h:TS}{D:Ends}{a:St}{H:Hp}(b:Nat->St->Hp->Prop)(j:b 0 a H)(l:∀i a H,i<n->b i a H->g (.int (lo-i)) a H λd H2=>h {D with nx:=b (i+1),ct:=b (i+1),bk:=D.nx} d H2)(k:∀a H,b n a H->D.nx a H) :
  ∃W:Nat->Nat->St->Hp->Prop,(∃m,W 0 m a H)/\∀i m a H,W i m a H->
   ((Itd lo n).stop i H/\D.nx a H)\/((Itd lo n).go i H/\∃N:St->Hp->Prop,(∀S' H',N S' H'->∃f,f<m/\W (i+1) f S' H')/\∀x H',(Itd lo n).yld i H x H'->g x a H' λd H2=>h {D with nx:=N,ct:=N,bk:=D.nx} d H2):=by
 refine⟨λi m a H=>m=n-i/\i<=n/\b i a H,⟨n,by simp,va _,j⟩,?_⟩;rintro i m a H ⟨rfl,q,p⟩;by_cases c:i<n
 .refine .inr ⟨c,b (i+1),λS' H' o=>⟨n-(i+1),⋯,rfl,c,o⟩,λx H' y=>?_⟩;obtain⟨e,y⟩:=y;subst e y;exact l i a _ c p
 .have e:i=n:=⋯
  subst e;exact .inl ⟨vb _,k a H p⟩
section
variable{X:Cx}
def j2q:MtR X "list.index" (λx vs H Q=>∃(p:Addr) (xs:N2) (y z:V) (j:Nat),x = .ref p/\vs=[y]/\SqL X.K H p xs/\flatV y=true/\xs.all flatV=true/\xs[j]?=some z/\eqV z y=true/\(∀(m:Nat) (c:V),m<j->xs[m]?=some c->eqV c y=false)/\Q (.int j) H):=by
 intro G s σ H x vs v us Q I Z Y h;obtain⟨p,xs,y,z,j,rfl,rfl,U,O,d,f,N,k,q⟩:=h;cases Z;obtain⟨u,rfl,W⟩:=vals1 Y;obtain⟨a,r,J,hz⟩:=I.list U;have lx:=r.length;have jl:=(vx.mp f).1;obtain⟨w',T,w⟩:=r.get f;have P:flatV z=true:=all_eq_true.mp d z (vm f);obtain⟨⟨L,M,B,sl⟩,S,C,n,D⟩:=id J.isList;simp only at C D;subst C D;have g:j<a.toArray.size:=by rw[size_toArray];lia
 have K:sizeLine<2^62:=by decide
 have t:(j:Int)<2^63-1:=⋯
 refine call_meets F.slot_list_index J.isList.typeIs F.entry_list_index (F.args_list_index_2 _ _) (SeqAt.list_indexAt p a.toArray n M sl u (eqU y) j g t ?_ ?_) ⟨S,λy' o=>Zt W O r d y' (by simpa using o),⟨.int j,H,I.tok _,⟨_,rfl⟩,q⟩⟩
 .have e:a.toArray[j]=w':=by
   have:=vx.mp T;obtain⟨h,e⟩:=this;simpa using e
  rw[e,xj w P];exact N
 .intro m E i;have R:m<a.length:=by rw[size_toArray]at E;exact E
  obtain⟨c,b⟩:∃c,xs[m]?=some c:=⟨_,vz ⋯⟩
  obtain⟨w2,l,A⟩:=r.get b;have e:a.toArray[m]=w2:=by
   obtain⟨h,e⟩:=vx.mp l;simpa using e
  rw[e,xj A (all_eq_true.mp d c (vm b))];exact k m c i b
end
section
variable{prog:Program}{w:World}{A:Around}{E:Value->Shared->Prop}{s:Shared}
end
section
variable{X:Cx}{pos:Pos}
end
section
variable{σ:St}{H:Hp}{D:Ends}{Q:VK}{ta tb te:TE}
def rd_seq(h:t {D with nx:=u D} σ H):tSeq t u D σ H:=h
def rd_asg(h:te σ H λx H1=>g x σ H1 D.nx):tAsg te g D σ H:=h
def rd_v0{r:St}(h:Q v H):tVar 0 (some v::r) H Q:=⟨v,rfl,h⟩
def rd_n0{r:St}{R:St->Hp->Prop}(h:R (some v::r) H):gName 0 v (a0::r) H R:=h
def rd_v1{r:St}(h:Q v H):tVar 1 (a0::some v::r) H Q:=⟨v,rfl,h⟩
def rd_n1{r:St}{R:St->Hp->Prop}(h:R (a0::some v::r) H):gName 1 v (a0::a1::r) H R:=h
def rd_v2{r:St}(h:Q v H):tVar 2 (a0::a1::some v::r) H Q:=⟨v,rfl,h⟩
def rd_n2{r:St}{R:St->Hp->Prop}(h:R (a0::a1::some v::r) H):gName 2 v (a0::a1::a2::r) H R:=h
def rd_v3{r:St}(h:Q v H):tVar 3 (a0::a1::a2::some v::r) H Q:=⟨v,rfl,h⟩
def rd_n3{r:St}{R:St->Hp->Prop}(h:R (a0::a1::a2::some v::r) H):gName 3 v (a0::a1::a2::a3::r) H R:=h
def rd_v4{r:St}(h:Q v H):tVar 4 (a0::a1::a2::a3::some v::r) H Q:=⟨v,rfl,h⟩
def rd_n4{r:St}{R:St->Hp->Prop}(h:R (a0::a1::a2::a3::some v::r) H):gName 4 v (a0::a1::a2::a3::a4::r) H R:=h
def rd_v5{r:St}(h:Q v H):tVar 5 (a0::a1::a2::a3::a4::some v::r) H Q:=⟨v,rfl,h⟩
def rd_n5{r:St}{R:St->Hp->Prop}(h:R (a0::a1::a2::a3::a4::some v::r) H):gName 5 v (a0::a1::a2::a3::a4::a5::r) H R:=h
def rd_v6{r:St}(h:Q v H):tVar 6 (a0::a1::a2::a3::a4::a5::some v::r) H Q:=⟨v,rfl,h⟩
def rd_n6{r:St}{R:St->Hp->Prop}(h:R (a0::a1::a2::a3::a4::a5::some v::r) H):gName 6 v (a0::a1::a2::a3::a4::a5::a6::r) H R:=h
def rd_v7{r:St}(h:Q v H):tVar 7 (a0::a1::a2::a3::a4::a5::a6::some v::r) H Q:=⟨v,rfl,h⟩
def rd_n7{r:St}{R:St->Hp->Prop}(h:R (a0::a1::a2::a3::a4::a5::a6::some v::r) H):gName 7 v (a0::a1::a2::a3::a4::a5::a6::a7::r) H R:=h
def rd_v8{r:St}(h:Q v H):tVar 8 (a0::a1::a2::a3::a4::a5::a6::a7::some v::r) H Q:=⟨v,rfl,h⟩
def rd_n8{r:St}{R:St->Hp->Prop}(h:R (a0::a1::a2::a3::a4::a5::a6::a7::some v::r) H):gName 8 v (a0::a1::a2::a3::a4::a5::a6::a7::a8::r) H R:=h
def rd_v9{r:St}(h:Q v H):tVar 9 (a0::a1::a2::a3::a4::a5::a6::a7::a8::some v::r) H Q:=⟨v,rfl,h⟩
def rd_n9{r:St}{R:St->Hp->Prop}(h:R (a0::a1::a2::a3::a4::a5::a6::a7::a8::some v::r) H):gName 9 v (a0::a1::a2::a3::a4::a5::a6::a7::a8::a9::r) H R:=h
def rd_v10{r:St}(h:Q v H):tVar 10 (a0::a1::a2::a3::a4::a5::a6::a7::a8::a9::some v::r) H Q:=⟨v,rfl,h⟩
def rd_n10{r:St}{R:St->Hp->Prop}(h:R (a0::a1::a2::a3::a4::a5::a6::a7::a8::a9::some v::r) H):gName 10 v (a0::a1::a2::a3::a4::a5::a6::a7::a8::a9::a10::r) H R:=h
def rd_v11{r:St}(h:Q v H):tVar 11 (a0::a1::a2::a3::a4::a5::a6::a7::a8::a9::a10::some v::r) H Q:=⟨v,rfl,h⟩
def rd_n11{r:St}{R:St->Hp->Prop}(h:R (a0::a1::a2::a3::a4::a5::a6::a7::a8::a9::a10::some v::r) H):gName 11 v (a0::a1::a2::a3::a4::a5::a6::a7::a8::a9::a10::a11::r) H R:=h
def rd_v12{r:St}(h:Q v H):tVar 12 (a0::a1::a2::a3::a4::a5::a6::a7::a8::a9::a10::a11::some v::r) H Q:=⟨v,rfl,h⟩
def rd_n12{r:St}{R:St->Hp->Prop}(h:R (a0::a1::a2::a3::a4::a5::a6::a7::a8::a9::a10::a11::some v::r) H):gName 12 v (a0::a1::a2::a3::a4::a5::a6::a7::a8::a9::a10::a11::a12::r) H R:=h
def rd_v13{r:St}(h:Q v H):tVar 13 (a0::a1::a2::a3::a4::a5::a6::a7::a8::a9::a10::a11::a12::some v::r) H Q:=⟨v,rfl,h⟩
def rd_n13{r:St}{R:St->Hp->Prop}(h:R (a0::a1::a2::a3::a4::a5::a6::a7::a8::a9::a10::a11::a12::some v::r) H):gName 13 v (a0::a1::a2::a3::a4::a5::a6::a7::a8::a9::a10::a11::a12::a13::r) H R:=h
def rd_v14{r:St}(h:Q v H):tVar 14 (a0::a1::a2::a3::a4::a5::a6::a7::a8::a9::a10::a11::a12::a13::some v::r) H Q:=⟨v,rfl,h⟩
def rd_n14{r:St}{R:St->Hp->Prop}(h:R (a0::a1::a2::a3::a4::a5::a6::a7::a8::a9::a10::a11::a12::a13::some v::r) H):gName 14 v (a0::a1::a2::a3::a4::a5::a6::a7::a8::a9::a10::a11::a12::a13::a14::r) H R:=h
def rd_v15{r:St}(h:Q v H):tVar 15 (a0::a1::a2::a3::a4::a5::a6::a7::a8::a9::a10::a11::a12::a13::a14::some v::r) H Q:=⟨v,rfl,h⟩
def rd_n15{r:St}{R:St->Hp->Prop}(h:R (a0::a1::a2::a3::a4::a5::a6::a7::a8::a9::a10::a11::a12::a13::a14::some v::r) H):gName 15 v (a0::a1::a2::a3::a4::a5::a6::a7::a8::a9::a10::a11::a12::a13::a14::a15::r) H R:=h
def rd_v16{r:St}(h:Q v H):tVar 16 (a0::a1::a2::a3::a4::a5::a6::a7::a8::a9::a10::a11::a12::a13::a14::a15::some v::r) H Q:=⟨v,rfl,h⟩
def rd_n16{r:St}{R:St->Hp->Prop}(h:R (a0::a1::a2::a3::a4::a5::a6::a7::a8::a9::a10::a11::a12::a13::a14::a15::some v::r) H):gName 16 v (a0::a1::a2::a3::a4::a5::a6::a7::a8::a9::a10::a11::a12::a13::a14::a15::a16::r) H R:=h
def rd_const(h:Q v H):tC v σ H Q:=h
def rd_op(h:ta σ H λx H1=>tb σ H1 λy H2=>r x y H2 Q):tOp r ta tb σ H Q:=h
def rd_un{r:V->Hp->VK->Prop}(h:ta σ H λx H1=>r x H1 Q):tUn r ta σ H Q:=h
def rd_i0{g:Int->Int->V}(h:Q (g i j) H):rI0 g (.int i) (.int j) H Q:=⟨i,j,rfl,rfl,h⟩
def j74{C:Int->Int->Prop}{g:Int->Int->V}(c:C i j)(h:Q (g i j) H):rI C g (.int i) (.int j) H Q:=⟨i,j,rfl,rfl,c,h⟩
def rd_u{g:Int->V}(h:Q (g i) H):rU g (.int i) H Q:=⟨i,rfl,h⟩
def rd_eqI(h:Q (.bl (decide (i=j))) H):rEq (.int i) (.int j) H Q:=by
 refine⟨rfl,?_⟩;rw[show decide (V.int i=V.int j)=decide (i=j) by simp];exact h
def rd_eqS(h:Q (.bl (decide (i=j))) H):rEq (.str i) (.str j) H Q:=by
 refine⟨rfl,?_⟩;rw[show decide (V.str i=V.str j)=decide (i=j) by simp];exact h
def rd_neS{i j:Str}(h:Q (.bl (!decide (i=j))) H):rNe (.str i) (.str j) H Q:=by
 refine⟨rfl,?_⟩;rw[show decide (V.str i=V.str j)=decide (i=j) by simp];exact h
def rd_if(h:c σ H λb H1=>if b=true then t D σ H1 else u D σ H1):tIfS c t u D σ H:=h
def rd_test{R:Bool->Hp->Prop}(h:te σ H λx H'=>∃k,x = .bl k/\R k H'):tTest te σ H R:=h
def rd_tB{R:Bool->Hp->Prop}(h:te σ H λx H'=>∃k,x = .bl k/\R k H'):tB te σ H R:=h
def rd_blP{R:Bool->Prop}(h:R k):∃a,V.bl k = .bl a/\R a:=⟨k,rfl,h⟩
def rd_not{R:Bool->Hp->Prop}(h:t σ H λc H1=>R (!c) H1):tNot t σ H R:=h
def rd_and{R:Bool->Hp->Prop}(h:t σ H λc H1=>if c=true then u σ H1 R else R false H1):tAnd t u σ H R:=h
def rd_or{R:Bool->Hp->Prop}(h:t σ H λc H1=>if c=true then R true H1 else u σ H1 R):tOr t u σ H R:=h
def rd_andV(h:ta σ H λx H1=>∃c,x = .bl c/\if c=true then tb σ H1 Q else Q (.bl false) H1):tAndV ta tb σ H Q:=h
def rd_notV(h:ta σ H λx H1=>∃c,x = .bl c/\Q (.bl (!c)) H1):tNotV ta σ H Q:=h
def rd_ifE(h:t σ H λc H1=>if c=true then ta σ H1 Q else tb σ H1 Q):tIf t ta tb σ H Q:=h
def rd_ret(h:te σ H D.rt):tRet te D σ H:=h
def rd_next(h:D.nx σ H):tNext D σ H:=h
def rd_drop(h:te σ H λ_ H1=>D.nx σ H1):tDrop te D σ H:=h
def rd_cb{r:N2->Hp->VK->Prop}(h:t σ H λvs H1=>r vs H1 Q):tCB r t σ H Q:=h
def rd_call{sp:Sp}(h:t σ H λvs H1=>sp (vs++dvs) H1 Q E):tCall sp dvs E t σ H Q:=h
def rd_fld{K:Frg}{f:Str}(h:ta σ H λx H1=>∃a C dx fs v,x = .ref a/\H1 a=some (.ins C dx fs)/\Cls K C/\NoAttr K C f/\fs.lookup f=some v/\Q v H1):tFld K ta f σ H Q:=h
def rd_sfld{K:Frg}{f:Str}(h:tb σ H λy H1=>ta σ H1 λx H2=>∃a C dx fs,x = .ref a/\H2 a=some (.ins C dx fs)/\Cls K C/\NoAttr K C f/\fs.length<1000/\D.nx σ (upd H2 a (.ins C dx (putF f y fs)))):sFld K ta tb f D σ H:=h
def rd_meth{sp:Sp}(h:ta σ H λx H1=>∃a dx fs,x = .ref a/\H1 a=some (.ins C dx fs)/\fs.lookup m=none/\t σ H1 λvs H2=>sp (x::(vs++dvs)) H2 Q E):tMeth C m sp dvs E ta t σ H Q:=h
def rd_make{sp:Sp}(h:t σ H λvs H1=>∀x dx,H1 x=none->H1 dx=none->dx≠x->sp (.ref x::(vs++dvs)) (upd (upd H1 dx (.own x)) x (.ins C dx [])) (λv H2=>v = .non/\Q (.ref x) H2) E):tMake C sp dvs E t σ H Q:=h
def rd_dIn(h:ta σ H λy H1=>tb σ H1 λx H2=>∃a o,x = .ref a/\DGet H2 a y o/\Q (.bl o.isSome) H2):tDIn ta tb σ H Q:=h
def rd_nil{R:N2->Hp->Prop}(h:R [] H):tNil σ H R:=h
def rd_cons{R:N2->Hp->Prop}(h:ta σ H λx H1=>tr σ H1 λxs H2=>R (x::xs) H2):tCons ta tr σ H R:=h
def rd_lst(h:t σ H λxs H1=>xs.length<=sizeLine/\∀p,H1 p=none->Q (.ref p) (upd H1 p (.lst xs))):tLst t σ H Q:=h
def rd_tup(h:t σ H λxs H1=>xs.length<=sizeLine/\∀p,H1 p=none->Q (.ref p) (upd H1 p (.tup xs))):tTup t σ H Q:=h
def rd_chain(h:ta σ H λx H1=>tb σ H1 λy H2=>r x y H2 λz a=>∃k,z = .bl k/\(if k=true then tc σ a λc b=>r' y c b Q else Q (.bl false) a)):tChain r r' ta tb tc σ H Q:=h
def rd_bm{K:Frg}{T:String}{r:V->N2->Hp->VK->Prop}{t:TA}(h:te σ H λx H1=>tyV K T x H1/\t σ H1 λxs H2=>r x xs H2 Q):tBM K T r te t σ H Q:=h
def rd_sl{r:V->Option Int->Option Int->Hp->VK->Prop}(h:te σ H λx H1=>tl σ H1 λl H2=>th σ H2 λu a=>r x l u a Q):tSl r te tl th σ H Q:=h
def rd_nopart{R:Option Int->Hp->Prop}(h:R none H):tNoPart σ H R:=h
def rd_part{R:Option Int->Hp->Prop}(h:te σ H λx H1=>∃i,x = .int i/\R (some i) H1):tPart te σ H R:=h
def rd_int{R:Int->Prop}(h:R i):∃a,V.int i = .int a/\R a:=⟨i,rfl,h⟩
def iteD{p A B:Prop}[Decidable p](a:p->A)(b:¬p->B):if decide p=true then A else B:=by
 by_cases h:p
 .rw[vd (vG h)];exact a h
 .rw[vc (by simpa using h)];exact b h
def iteN{p A B:Prop}[Decidable p](a:¬p->A)(b:p->B):if(!decide p)=true then A else B:=by
 by_cases h:p
 .rw[vc (by simpa using h)];exact b h
 .rw[vd (by simpa using h)];exact a h
def rd_rng1{a:TA}{R:It->Hp->Prop}(h:a σ H λvs H1=>∃j:Int,vs=[.int j]/\-(2^62)<=j/\j<2^62/\R (Itr 0 j.toNat) H1):iRng1 a σ H R:=h
def rd_iList{K:Frg}{R:It->Hp->Prop}(h:te σ H λx H1=>∃a,x = .ref a/\(∃xs,SqL K H1 a xs)/\R (Itl K a) H1):iList K te σ H R:=h
def rd_p18(h:Q (.int (10^18)) H):rI CPow (λi j=>.int (i^j.toNat)) (.int 10) (.int 18) H Q:=⟨10,18,rfl,rfl,⟨by decide,by decide,by decide⟩,h⟩
def rd_p30(h:Q (.int (10^30)) H):rI CPow (λi j=>.int (i^j.toNat)) (.int 10) (.int 30) H Q:=⟨10,30,rfl,rfl,⟨by decide,by decide,by decide⟩,h⟩
def rd_p60(h:Q (.int (10^60)) H):rI CPow (λi j=>.int (i^j.toNat)) (.int 10) (.int 60) H Q:=⟨10,60,rfl,rfl,⟨by decide,by decide,by decide⟩,h⟩
def rd_aug(h:tVar i σ H λx a=>te σ a λy H1=>ti x y H1 λz H2=>gName i z σ H2 D.nx):tAug i te ti D σ H:=h
def rd_ipI{f:Int->Int->Int}(h:Q (.int (f i j)) H):ipI f (.int i) (.int j) H Q:=⟨i,j,rfl,rfl,h⟩
def rd_for{c:TS} (h:wi σ H λJ H1=>∃W:Nat->Nat->St->Hp->Prop,(∃m,W 0 m σ H1)/\∀i m σ H,W i m σ H->
 (J.stop i H/\D.nx σ H)\/(J.go i H/\∃N:St->Hp->Prop,(∀S' H',N S' H'->∃b,b<m/\W (i+1) b S' H')/\∀x H',J.yld i H x H'->g x σ H' λa H2=>c {D with nx:=N,ct:=N,bk:=D.nx} a H2)):tFor wi g c D σ H:=h
def rd_comp (h:wi σ H λJ H1=>∃W:Nat->Nat->N2->Hp->Prop,(∃m,W 0 m [] H1)/\∀i m ys H,W i m ys H->
 (J.stop i H/\ys.length<=sizeLine/\∀p,H p=none->Q (.ref p) (upd H p (.lst ys)))\/
 (J.go i H/\∃N:N2->Hp->Prop,(∀a H',N a H'->∃e,e<m/\W (i+1) e a H')/\∀x H',J.yld i H x H'->g x (capS n ci σ) H' λc H2=>tf c H2 λb d=>
  if b=true then te c d λv f=>ys.length<sizeLine/\N (ys++[v]) f else N ys d)):tComp wi n ci g tf te σ H Q:=h
def rd_yes{R:Bool->Hp->Prop}(h:R true H):tYes σ H R:=h
def Jh{n:Nat}{ci:L6}{g:TG}{x:V}{S':St}{R:St->Hp->Prop}(e:capS n ci σ=S')(h:g x S' H R):g x (capS n ci σ) H R:=by rw[e];exact h
def jD{t:TS}{S':St}(e:σ=S')(h:t D S' H):t D σ H:=by subst e;exact h
def KE{H H':Hp}(h:H p=none)(e:upd H p o=H'):Same H H':=λb u q=>by rw[<-e,jo (je q h)];exact q
def qD{H H':Hp}(e:upd H p o=H'):H' p=some o:=by rw[<-e];exact jz
end
def ixLm{K:Frg}{p:Addr}{xs:N2}{i:Int}{v:V}{H:Hp}{Q:VK}(h:SqL K H p xs)(e:atI xs i=some v)(q:Q v H):rIxL K (.ref p) (.int i) H Q:=⟨p,xs,i,v,rfl,rfl,h,e,q⟩
def ixTm{K:Frg}{p:Addr}{xs:N2}{i:Int}{v:V}{H:Hp}{Q:VK}(h:SqT K H p xs)(e:atI xs i=some v)(q:Q v H):rIxT K (.ref p) (.int i) H Q:=⟨p,xs,i,v,rfl,rfl,h,e,q⟩
def zTu{K:Frg}{p:Addr}{xs:N2}{i:Int}{v:V}{H:Hp}{Q:VK}(h:H p=some (.tup xs))(q:Q v H)(e:atI xs i=some v:=by rfl):rIxT K (.ref p) (.int i) H Q:=⟨p,xs,i,v,rfl,rfl,SqT.of h,e,q⟩
end L2
local macro_rules | `(tactic| walk_at "side") => `(tactic| first | with_reducible assumption | exact L2.cdivB (by lia) (by lia) | exact L2.mulOk (by lia) (by lia) (by lia) (by lia) | exact L2.mulOkC (by first | assumption | exact L2.bits_ediv (by assumption) _) (by lia) (by lia) | lia)
local macro_rules | `(tactic| walk_at $s:str) => do
 let ws:=s.getString.splitOn " "
 if ws.head?==some "f" then
  let vs:=if ws.length==3 then["p"++ws.getD 1 "","hp"++ws.getD 1 "","H"++ws.getD 1 "","s"++ws.getD 1 "",ws.getD 2 ""++ws.getD 1 ""]else ws.drop 1
  let i:=λ(k:Nat)=>Lean.mkIdent (Lean.Name.mkSimple (vs.getD k ""))
  return <-`(tactic| (intro $(i 0):ident $(i 1):ident;generalize eH:L2.upd _ $(i 0) _ = $(i 2):ident;have $(i 3):ident:=L2.KE $(i 1) eH;have $(i 4):ident:=L2.qD eH;clear eH))
 if s.getString != "g" then Lean.Macro.throwUnsupported
 let as <-("rd_seq rd_asg rd_op rd_const rd_i0 rd_cons rd_nil rd_call rd_ret rd_if rd_test rd_tB rd_blP rd_not rd_next rd_v0 rd_v1 rd_v2 rd_v3 rd_v4 rd_v5 rd_v6 rd_v7 rd_v8 rd_v9 rd_v10 rd_v11 rd_v12 rd_v13 rd_v14 rd_v15 rd_v16 rd_un rd_u rd_and rd_or rd_andV rd_notV rd_ifE rd_drop rd_cb rd_lst rd_tup rd_chain rd_bm rd_sl rd_nopart rd_part rd_eqI rd_eqS rd_neS rd_str rd_int rd_rng1 rd_iList rd_ipI rd_aug rd_for rd_comp rd_yes rd_dget rd_prC rd_prN rd_iTup rd_sub rd_iEnum rd_iZip rd_dnew rd_dput rd_bm0 rd_iRev rd_tru rd_revS rd_rngD rd_fld rd_sfld rd_meth rd_make rd_dIn rd_n0 rd_n1 rd_n2 rd_n3 rd_n4 rd_n5 rd_n6 rd_n7 rd_n8 rd_n9 rd_n10 rd_n11 rd_n12 rd_n13 rd_n14 rd_n15 rd_n16 rd_p18 rd_p30 rd_p60".splitOn " ").toArray.mapM λn=>`(Lean.Parser.Tactic.tacticSeq| refine $(Lean.mkIdent (Lean.Name.mkStr2 "L2" n)) ?_)
 `(tactic| repeat first | with_reducible (first $[| $as]*) | (with_reducible refine L2.j74 ?c ?_; (case c => ((try dsimp only); walk_at "side"))))
local macro_rules | `(tactic| apply $e) => `(tactic| (walk_at "g"; refine $e))
local macro_rules | `(tactic| left) => `(tactic| walk_at "g")
local macro_rules | `(tactic| sleep $n) => `(tactic| walk_at $(Lean.Syntax.mkStrLit s!"f {n.getNat} t"))
local macro_rules | `(tactic| trivial) => `(tactic| decide +kernel)
namespace Fs
end Fs
namespace Rp
noncomputable def ramp(s g b j:Int):Int:=s+(g-s)*j/b
end Rp
namespace Rp
end Rp
namespace Pr
open PySem L2
noncomputable def cell(ns:L5)(k:Int):Int:=ns.getD k.toNat 0
inductive sp_cell_at(K:Frg)(vs:N2)(H:Hp)(Q:VK)(xk:XK):Prop
 | mk (a:Addr) (ns:L5) (k:Int) (_:vs=[.ref a,.int k]) (_:SqL K H a (ns.map V.int)) (_:ns.length<=63) (_:0<=k) (_:Q (.int (cell ns k)) H):sp_cell_at K vs H Q xk
def j4Q{a:L5}{k:Int}(d:0<=k)(h:k<(a.length:Int)):atI (a.map V.int) k=some (.int (cell a k)):=by
 have c:k=((k.toNat:Nat):Int):=⋯
 have b:k.toNat<a.length:=⋯
 have q:atI (a.map V.int) ((k.toNat:Nat):Int)=some (.int a[k.toNat]):=jN (by rw[vv,vz b]<;>rfl);rw[<-c]at q;rw[q];unfold cell;rw[vy,vz b];rfl
end Pr
namespace Pr
open PySem L2
inductive sp_law(K:Frg)(vs:N2)(H:Hp)(Q:VK)(xk:XK):Prop
 | mk (a:Addr) (ns:L5) (_:vs=[.ref a]) (_:SqL K H a (ns.map V.int)) (_:ns.length<=63) (_:(∀x∈ns,Builtin.Int.intBits x<=1048576)) (_:∀H',Q (.bl true) H'):sp_law K vs H Q xk
end Pr
namespace Pr
open PySem L2
end Pr
namespace Pr
open PySem L2
end Pr
namespace Pr
open PySem L2
end Pr
namespace Pr
open PySem L2
end Pr
namespace Pr
open PySem L2
end Pr
namespace Pr
open PySem L2
end Pr
namespace Ws
open PySem PySem.NumText L2
noncomputable def lets:Str:="abcdefghijklmnopqrstuvwxyz"
noncomputable def among(x z:Str):Bool:=decide (∀c∈x.cps.toList,c∈z.cps.toList)
noncomputable def isW(x:Str):Bool:=decide (1<=x.length/\x.length<=8)&&among x lets
end Ws
namespace Ws
open PySem PySem.NumText L2
end Ws
namespace Ws
open PySem L2
end Ws
namespace Rm
open PySem PySem.NumText PyProof.Rows L2
def j4Y{x:Str}{lo hi:Option Int}:(Txt.slice x lo hi).length<=x.length:=Txt.slice_le x lo hi
def j3x:c∈Ws.lets.cps.toList↔97<=c/\c<=122:=by
 rw[show Ws.lets.cps.toList=List.range' 97 26 by trivial,List.mem_range'_1];lia
def j3s{i:Int}(a:0<=i)(b:i<26):atI (Str.ofString "abcdefghijklmnopqrstuvwxyz").cps.toList i=some (97+i.toNat):=by
 have h:∀k:Nat,k<26->atI (Str.ofString "abcdefghijklmnopqrstuvwxyz").cps.toList (k:Int)=some (97+(k:Int).toNat):=by trivial
 have e:=h i.toNat ⋯;rw[Int.toNat_of_nonneg a]at e;exact e
open PySem L2
def none_of{H H':Hp}(s:Same H H')(h:H' p=none):H p=none:=by
 cases e:H p with
 | none=>rfl
 | some u=>rw[s _ _ e]at h;cases h
inductive Fm where
 | hold (n:Int) | ring (x:Str) (n:Int) | rise (x:Str) (h n:Int) | row (ps:L8) | side (ps:L8) | again (k:Int) (x:Str)
abbrev N1:=List (Str×Fm)
noncomputable def FormAt(H:Hp)(a:Addr):Fm->Prop
 | .hold n=>H a=some (.tup [.str "hold",.int n])
 | .ring x n=>H a=some (.tup [.str "ring",.str x,.int n])
 | .rise x h n=>H a=some (.tup [.str "raise",.str x,.int h,.int n])
 | .row ps=>∃b,H a=some (.tup [.str "row",.ref b])/\H b=some (.tup (ps.map V.str))
 | .side ps=>∃b,H a=some (.tup [.str "side",.ref b])/\H b=some (.tup (ps.map V.str))
 | .again k x=>H a=some (.tup [.str "again",.int k,.str x])
def PartAt(H:Hp)(a:Addr)(p:Str×Fm):Prop:=∃b,H a=some (.tup [.str p.1,.ref b])/\FormAt H b p.2
def LimbAt(H:Hp)(a:Addr)(p:Str×Int):Prop:=H a=some (.tup [.str p.1,.int p.2])
def All2{α:Type}(R:Addr->α->Prop)(as:L7)(xs:List α):Prop:=as.length=xs.length/\∀(i:Nat) (a:Addr) (x:α),as[i]?=some a->xs[i]?=some x->R a x
def All2.nil{b:Type}{R:Addr->b->Prop}:All2 R [] []:=⟨rfl,λi a x h=>by simp at h⟩
def All2.mono{b:Type}{R S:Addr->b->Prop}{as:L7}{xs:List b}(h:All2 R as xs)(k:∀a x,R a x->S a x):All2 S as xs:=⟨h.1,λi a x c d=>k a x (h.2 i a x c d)⟩
def All2.snoc{f:Type}{R:Addr->f->Prop}{as:L7}{xs:List f}{a:Addr}{x:f}(h:All2 R as xs)(k:R a x):All2 R (as++[a]) (xs++[x]):=by
 have j:=h.1;refine⟨by simp[j],λi b y c d=>?_⟩;by_cases g:i<as.length
 .rw[vB g]at c;rw[vB ⋯]at d;exact h.2 i b y c d
 .rw[vC ⋯]at c;rw[vC ⋯]at d;have e:i-as.length=0:=by
   have:=(vx.mp c).1;simp at this;lia
  rw[e]at c;rw[show i-xs.length=0 by lia]at d;simp at c d;subst c d;exact k
def All2.get{b:Type}{R:Addr->b->Prop}{as:L7}{xs:List b}{i:Nat}{x:b}(h:All2 R as xs)(d:xs[i]?=some x):∃a,as[i]?=some a/\R a x:=by
 have e:=(vx.mp d).1;have f:=h.1;have c:as[i]?=some as[i]:=vz ⋯;exact⟨_,c,h.2 i _ _ c d⟩
section
variable{H H':Hp}{z:Ra}{m:Rr}
end
section
variable{m:Rr}{f:Fm}{ks:L5}{g:Int}
def getD_snoc{a:Type}{l:List a}{x d:a}{j:Nat}(h:j<l.length):(l++[x]).getD j d=l.getD j d:=by
 rw[vy,vy,vB h]
def getD_last{a:Type}{l:List a}{x d:a}:(l++[x]).getD l.length d=x:=by
 rw[vy,vC (vb _),Nat.sub_self];rfl
end
def getD_in{a:L8}{n:Nat}(h:n<a.length):a.getD n ⟨#[]⟩∈a:=by
 rw[vy,vz h];exact getElem_mem h
def ZH{as:L7}{i:Int}{a:Addr}(b:0<=i)(h:as[i.toNat]?=some a):atI (as.map V.ref) i=some (.ref a):=by
 have e:atI (as.map V.ref) ((i.toNat:Nat):Int)=some (.ref a):=jN (by rw[vv,h];rfl);rw[Int.toNat_of_nonneg b]at e;exact e
open PySem PySem.Spec PyProof.Rows L2
noncomputable def vN(j:Nat):V:=.int j
theorem kI:∀{ks:L5} {lo hi:Int},ks.Pairwise (· < ·)->(∀k∈ks,lo<=k/\k<hi)->ks.length<=(hi-lo).toNat
 | [],_,_,_,_=>va _
 | k::r,lo,hi,h,b=>by
  have c:=kI (ks:=r) (lo:=k+1) (hi:=hi) (pairwise_cons.mp h).2 λx a=>⟨(pairwise_cons.mp h).1 x a,(b x (vp _ a)).2⟩
  have d:=b k vq;rw[vQ];lia
def j2a{H:Hp}(h:H a=some (.lst [])):DV H (.ref a) (.list []):=.lst h .nil
def shp0:SeqAt.shaped (.list [])=true:=PySem.W.ke_shaped_ints []
theorem j1p(n:Int):∀hs:L5,inV (.int n) (hs.map V.int)=decide (n∈hs)
 | []=>rfl
 | h::r=>by
  have a:=j1p n r;unfold inV at a|-;rw[uy,any_cons,a];have e:eqV (.int h) (.int n)=decide (h=n):=by
   show decide _=_;simp
  rw[e,Bool.eq_iff_iff];simp only[Bool.or_eq_true,decide_eq_true_eq,mem_cons];constructor
  .rintro(x | x)
   .exact .inl x.symm
   .exact .inr x
  .rintro(x | x)
   .exact .inl x.symm
   .exact .inr x
def inI(n:Int)(a:L5):(if false=true then !inV (.int n) (a.map V.int)else inV (.int n) (a.map V.int))=decide (n∈a):=by rw[vc nofun,j1p]
theorem flats:∀hs:L5,(hs.map V.int).all flatV=true
 | []=>rfl
 | h::r=>by rw[uy,all_cons,flats r];rfl
def take_snoc{a:Type}{l:List a}{i:Nat}{x:a}(h:l[i]?=some x):l.take (i+1)=l.take i++[x]:=by
 rw[List.take_add_one,h];rfl
def j00{is:L6}{i:Nat}{x:V}(h:(is.map vN)[i]?=some x):∃j,is[i]?=some j/\x = .int j/\j∈is:=by
 rw[vv]at h;obtain⟨j,a,rfl⟩:=vg.mp h;exact⟨j,a,rfl,vm a⟩
def j2K{ms c:L5}(e:ms.Perm c)(f:c.Nodup)(d:ms.Pairwise (·<=·)):ms.Pairwise (· < ·):=
 (List.Pairwise.and d (e.nodup_iff.mpr f)).imp λ{a b} h=>by have g:=h.1;have i:a≠b:=h.2;lia
def Shp(n:Nat)(d:PyData):Prop:=d.canLay0=true/\d.depth<=n
def Shp.int:Shp 0 (.int i):=⟨rfl,vb _⟩
def Shp.str(h:PyData.strOk x=true):Shp 0 (.str x):=⟨h,vb _⟩
def Shp.mono(h:Shp n d)(a:n<=k):Shp k d:=⟨h.1,vW h.2 a⟩
theorem YV:∀{ds:List PyData},(∀d∈ds,Shp n d)->PyData.canLayAll0 ds=true/\PyData.depthAll ds<=n
 | [],_=>⟨rfl,va _⟩
 | d::r,h=>by
  have a:=h d vq;have b:=YV (ds:=r) λx c=>h x (vp _ c)
  constructor
  .show(d.canLay0&&PyData.canLayAll0 r)=true;rw[a.1,b.1];rfl
  .show max d.depth (PyData.depthAll r)<=n;exact Nat.max_le.mpr ⟨a.2,b.2⟩
def Shp.lst(h:∀d∈ds,Shp n d):Shp (n+1) (.list ds):=⟨(YV h).1,Nat.succ_le_succ (YV h).2⟩
def Shp.tup(h:∀d∈ds,Shp n d):Shp (n+1) (.tuple ds):=⟨(YV h).1,Nat.succ_le_succ (YV h).2⟩
def Shp.ok(h:Shp n d)(a:n<=64):SeqAt.shaped d=true:=by
 unfold SeqAt.shaped;rw[h.1,Bool.true_and];exact vG (vW h.2 a)
def j5F(h:Ws.isW x=true):PyData.strOk x=true:=by
 unfold Ws.isW Ws.among at h;rw[Bool.and_eq_true]at h;have a:=of_decide_eq_true h.2;unfold PyData.strOk;rw[Array.all_eq_true_iff_forall_mem];intro c b;have:=j3x.mp (a c (by simpa using b));exact vG ⋯
theorem ZJ{H:Hp}:∀(xs:L8),DVs H (xs.map V.str) (xs.map PyData.str)
 | []=>.nil
 | x::r=>.cons (.str x) (ZJ r)
def All2.tail{c:Type}{R:Addr->c->Prop}{a:Addr}{x:c}{as:L7}{xs:List c}(h:All2 R (a::as) (x::xs)):R a x/\All2 R as xs:=
 ⟨h.2 0 a x rfl rfl,Nat.succ.inj h.1,λi b y d e=>h.2 (i+1) b y (by simpa using d) (by simpa using e)⟩
noncomputable def FmWs:Fm->Prop
 | .hold n=>0<=n/\n<=10^18
 | .ring x n=>Ws.isW x=true/\0<=n/\n<=10^18
 | .rise x h n=>Ws.isW x=true/\0<=h/\h<=10^18/\0<=n/\n<=10^18
 | .row ps=>ps.length<=8/\∀x∈ps,Ws.isW x=true
 | .side ps=>ps.length<=8/\∀x∈ps,Ws.isW x=true
 | .again k x=>0<=k/\k<=10^18/\Ws.isW x=true
structure BkOk(ls:L4)(ps:N1):Prop where
 l8:ls.length<=8
 ln:∀p∈ls,Ws.isW p.1=true/\0<=p.2/\p.2<=10^18
 p61:ps.length<=61
 pn:∀p∈ps,Ws.isW p.1=true/\FmWs p.2
def j4r{n:Nat}{xs:L8}(h:∀x∈xs,Ws.isW x=true):∀d∈xs.map PyData.str,Shp n d:=λd a=>by
 obtain⟨x,b,rfl⟩:=vK.mp a;exact(Shp.str (j5F (h x b))).mono (va _)
structure BookAt(H:Hp)(b pl pp:Addr)(las pas:L7)(ls:L4)(ps:N1):Prop where
 t:H b=some (.tup [.ref pl,.ref pp])
 l:H pl=some (.lst (las.map V.ref))
 la:All2 (LimbAt H) las ls
 p:H pp=some (.lst (pas.map V.ref))
 pa:All2 (PartAt H) pas ps
def FormAt.same{H H':Hp}(s:Same H H')(h:FormAt H a f):FormAt H' a f:=by
 cases f with
 | row ps=>obtain⟨b,c,d⟩:=h;exact⟨b,s _ _ c,s _ _ d⟩
 | side ps=>obtain⟨b,c,d⟩:=h;exact⟨b,s _ _ c,s _ _ d⟩
 | hold n=>exact s _ _ h
 | ring x n=>exact s _ _ h
 | rise x g n=>exact s _ _ h
 | again x n=>exact s _ _ h
def PartAt.same{H H':Hp}(s:Same H H')(h:PartAt H a p):PartAt H' a p:=by
 obtain⟨b,c,d⟩:=h;exact⟨b,s _ _ c,FormAt.same s d⟩
def BookAt.same{H H':Hp}(B:BookAt H b pl pp las pas ls ps)(s:Same H H'):BookAt H' b pl pp las pas ls ps:=
 ⟨s _ _ B.t,s _ _ B.l,B.la.mono λa x h=>s _ _ h,s _ _ B.p,B.pa.mono λa x h=>PartAt.same s h⟩
open PyProof.Rows.KTD (inKeys Dat)
def at0:atI (x::xs) 0=some x:=jN (j:=0) rfl
def iteB0{A B:Prop}(e:b=false)(h:B):if b=true then A else B:=by rw[e];exact h
def iteB1{A B:Prop}(e:b=true)(h:A):if b=true then A else B:=by rw[e];exact h
def All2.at_ref{e:Type}{R:Addr->e->Prop}{as:L7}{xs:List e}{i:Nat}{v:V}(h:All2 R as xs)(c:(as.map V.ref)[i]?=some v):∃a x,v = .ref a/\xs[i]?=some x/\R a x:=by
 rw[vv]at c;obtain⟨a,b,rfl⟩:=vg.mp c;have f:=(vx.mp b).1;have g:=h.1;have d:xs[i]?=some xs[i]:=vz ⋯;exact⟨a,_,rfl,d,h.2 i a _ b d⟩
theorem yP:∀{n:Nat} {hs:L5},hs.Nodup->(∀k∈hs,0<=k/\k<(n:Int))->hs.length<=n
 | 0,hs,_,h=>by
  cases hs with
  | nil=>exact vb _
  | cons k r=>have:=h k vq;lia
 | n+1,hs,nd,h=>by
  by_cases e:(n:Int)∈hs
  .have i:=yP (n:=n) (nd.erase (n:Int)) λk a=>by
    have b:=h k (List.mem_of_mem_erase a);have c:k≠(n:Int):=λz=>nd.not_mem_erase (z▸a)
    lia
   have l:=List.length_erase_of_mem e;lia
  .have i:=yP (n:=n) nd λk a=>by
    have b:=h k a;have c:k≠(n:Int):=λz=>e (z▸a)
    lia
   lia
noncomputable def Fm.ns:Fm->L8
 | .row ps=>ps
 | .side ps=>ps
 | .again _ x=>[x]
 | _=>[]
noncomputable def numK(xs:L8):List (Key×V):=xs.zipIdx.map λp=>(Sum.inr p.1,.int (p.2:Nat))
def j2t(xs:L8)(x:Str):numK (xs++[x])=numK xs++[(Sum.inr x,.int (xs.length:Nat))]:=by
 unfold numK;rw[List.zipIdx_append,vj];simp
def j3R(xs:L8):(numK xs).length=xs.length:=by simp[numK]
def WM(xs:L8):(numK xs).map (·.1)=xs.map Sum.inr:=by
 unfold numK;rw[v8];have e:∀(k:Nat) (xs:L8),(xs.zipIdx k).map ((λx=>x.1)∘λp:Str×Nat=>((Sum.inr p.1:Key),V.int (p.2:Nat)))=xs.map Sum.inr:=λk xs=>by
  induction xs generalizing k with
  | nil=>rfl
  | cons x r ih=>rw[List.zipIdx_cons,uy,uy,ih];rfl
 exact e 0 xs
def j5g{xs:L8}{j:Nat}{x:Str}(h:xs[j]?=some x):(numK xs)[j]?=some (Sum.inr x,.int (j:Nat)):=by
 unfold numK;rw[vv,List.getElem?_zipIdx,h];simp
theorem wP:∀{kvs:List (Key×V)} {j:Nat} {k:Key} {v:V},(kvs.map (·.1)).Nodup->kvs[j]?=some (k,v)->valV kvs k=some v
 | [],j,k,v,_,h=>by simp at h
 | p::r,0,k,v,_,h=>by
  simp at h;subst h;unfold valV;simp
 | p::r,j+1,k,v,nd,h=>by
  rw[uy,um]at nd;have a:r[j]?=some (k,v):=by simpa using h
  have c:p.1≠k:=λe=>nd.1 (e▸vK.mpr ⟨(k,v),vm a,rfl⟩)
  have b:=wP nd.2 a;unfold valV at b|-;rw[List.find?_cons,vH c];exact b
def YI{xs:L8}(a:xs.Nodup){j:Nat}{x:Str}(h:xs[j]?=some x):valV (numK xs) (Sum.inr x)=some (.int (j:Nat)):=
 wP (by rw[WM];exact pairwise_map.mpr (a.imp λh e=>h (Sum.inr.inj e))) (j5g h)
def yv{kvs:List (Key×V)}{k:Key}{v:V}(h:k∉kvs.map (·.1)):putK kvs k v=kvs++[(k,v)]:=by
 unfold putK;rw[vc];intro e;obtain⟨p,b,a⟩:=any_eq_true.mp e;exact h (vK.mpr ⟨p,b,of_decide_eq_true a⟩)
noncomputable def ixOf:L8->Str->Nat
 | [],_=>0
 | y::r,x=>if y=x then 0 else ixOf r x+1
theorem jW:∀{xs:L8} {j:Nat} {x:Str},xs.Nodup->xs[j]?=some x->ixOf xs x=j
 | [],j,x,_,h=>by simp at h
 | y::r,0,x,_,h=>by
  simp at h;subst h;exact vd rfl
 | y::r,j+1,x,nd,h=>by
  rw[um]at nd;have a:r[j]?=some x:=by simpa using h
  have b:y≠x:=λe=>nd.1 (e▸vm a)
  show(if y=x then 0 else ixOf r x+1)=j+1;rw[vc b,jW nd.2 a]
noncomputable def nmsOf{α:Type}(ps:List (Str×α)):L8:=ps.map (·.1)
noncomputable def inP(ps:N1)(f:Fm):L6:=f.ns.map (ixOf (nmsOf ps))
structure WfB(ls:L4)(ps:N1):Prop where
 ln:(nmsOf ls).Nodup
 l8:ls.length<=8
 pn:(nmsOf ps).Nodup
 p61:ps.length<=61
 f:∀(i:Nat) (p:Str×Fm),ps[i]?=some p->(∀x∈p.2.ns,∃j,j<i/\(nmsOf ps)[j]?=some x)/\p.2.ns.length<=8
 r:∀(i:Nat) (y x:Str) (h n:Int),ps[i]?=some (y,.rise x h n)->∃j:Nat,(nmsOf ls)[j]?=some x
def WfB.inP_lt(W:WfB ls ps)(h:ps[i]?=some p)(a:j∈inP ps p.2):j<i:=by
 obtain⟨x,c,rfl⟩:=vK.mp a;obtain⟨k,b,e⟩:=(W.f i p h).1 x c;rw[jW W.pn e];exact b
inductive sp_numbers_of(vs:N2)(H:Hp)(Q:VK)(xk:XK):Prop
 | mk (l:Addr) (as:L7) (xs:L8) (_:vs=[.ref l]) (_:H l=some (.lst (as.map V.ref))) (_:as.length=xs.length) (_:(∀(i:Nat) (a:Addr) (x:Str),as[i]?=some a->xs[i]?=some x->∃r,H a=some (.tup [.str x,r]))) (_:xs.Nodup) (_:xs.length<=100) (_:∀(d:Addr) (H':Hp),Same H H'->H d=none->H' d=some (.dK (numK xs))->Q (.ref d) H'):sp_numbers_of vs H Q xk
def ListsAt(H:Hp)(as:L7)(M:L1):Prop:=All2 (λa ks=>H a=some (.lst (ks.map V.int))) as M
def All2.monoM{c:Type}{R S:Addr->c->Prop}{as:L7}{xs:List c}(h:All2 R as xs)(k:∀a∈as,∀x,R a x->S a x):All2 S as xs:=⟨h.1,λi a x b d=>k a (vm b) x (h.2 i a x b d)⟩
inductive sp_inner(vs:N2)(H:Hp)(Q:VK)(xk:XK):Prop
 | mk (b pl pp:Addr) (las pas:L7) (ls:L4) (ps:N1) (_:vs=[.ref b]) (_:BookAt H b pl pp las pas ls ps) (_:WfB ls ps) (_:∀(l:Addr) (as:L7) (H':Hp),Same H H'->H l=none->H' l=some (.lst (as.map V.ref))->(∀a∈as,H a=none)->ListsAt H' as (ps.map λp=>(inP ps p.2).map λj:Nat=>(j:Int))->Q (.ref l) H'):sp_inner vs H Q xk
def PrsAt(H:Hp)(bs:L7)(e:List (Int×Int)):Prop:=All2 (λb q=>H b=some (.tup [.int q.1,.int q.2])) bs e
def EndsAt(H:Hp)(as:L7)(E:L0):Prop:=All2 (λa e=>∃bs,H a=some (.lst (bs.map V.ref))/\PrsAt H bs e) as E
def LastIn(E:L0)(is:L6)(k v:Int):Prop:=∃pre j post,is=pre++j::post/\(k,v)∈E.getD j []/\∀j'∈post,∀v',(k,v')∉E.getD j' []
def EndIs(ls:L4)(ps:N1)(E:L0)(f:Fm)(k v:Int):Prop:=LastIn E (inP ps f) k v\/∃x n,f = .rise x v n/\k=(ixOf (nmsOf ls) x:Nat)
def EndOk(ls:L4)(ps:N1)(E:L0):Prop:=∀(i:Nat) (p:Str×Fm) (e:List (Int×Int)),ps[i]?=some p->E[i]?=some e->(e.map (·.1)).Pairwise (· < ·)/\∀k v,(k,v)∈e↔EndIs ls ps E p.2 k v
inductive sp_ends(vs:N2)(H:Hp)(Q:VK)(xk:XK):Prop
 | mk (b pl pp:Addr) (las pas:L7) (ls:L4) (ps:N1) (_:vs=[.ref b]) (_:BookAt H b pl pp las pas ls ps) (_:WfB ls ps) (_:∀(l:Addr) (as:L7) (E:L0) (H':Hp),Same H H'->H l=none->H' l=some (.lst (as.map V.ref))->(∀a∈as,H a=none)->E.length=ps.length->EndsAt H' as E->EndOk ls ps E->Q (.ref l) H'):sp_ends vs H Q xk
def MovOk(ls:L4)(ps:N1)(M:L1):Prop:=∀(i:Nat) (p:Str×Fm) (ks:L5),ps[i]?=some p->M[i]?=some ks->ks.Pairwise (· < ·)/\∀k,k∈ks↔(∃j∈inP ps p.2,k∈M.getD j [])\/∃x h n,p.2 = .rise x h n/\k=(ixOf (nmsOf ls) x:Nat)
inductive sp_moved(vs:N2)(H:Hp)(Q:VK)(xk:XK):Prop
 | mk (b pl pp:Addr) (las pas:L7) (ls:L4) (ps:N1) (_:vs=[.ref b]) (_:BookAt H b pl pp las pas ls ps) (_:WfB ls ps) (_:∀(l:Addr) (as:L7) (M:L1) (H':Hp),Same H H'->H l=none->H' l=some (.lst (as.map V.ref))->(∀a∈as,H a=none)->M.length=ps.length->ListsAt H' as M->MovOk ls ps M->Q (.ref l) H'):sp_moved vs H Q xk
theorem Xg:∀{a b:L5},a.Pairwise (· < ·)->b.Pairwise (· < ·)->(∀k,k∈a↔k∈b)->a=b
 | [],[],_,_,_=>rfl
 | [],y::s,_,_,h=>ue ((h y).mpr vq) (by simp)
 | x::r,[],_,_,h=>ue ((h x).mp vq) (by simp)
 | x::r,y::s,ha,hb,h=>by
  rw[pairwise_cons]at ha hb;have e:x=y:=by
   rcases mem_cons.mp ((h x).mp vq)with q | q
   .exact q
   .rcases mem_cons.mp ((h y).mpr vq)with d | d
    .exact d.symm
    .have f:=hb.1 x q;have g:=ha.1 y d;lia
  subst e;congr 1;refine Xg ha.2 hb.2 λk=>⟨λc=>?_,λc=>?_⟩
  .rcases mem_cons.mp ((h k).mp (vp _ c))with q | q
   .have:=ha.1 k c;lia
   .exact q
  .rcases mem_cons.mp ((h k).mpr (vp _ c))with q | q
   .have:=hb.1 k c;lia
   .exact q
def getD_map{E:L0}(j:Nat):(E.map λe=>e.map (·.1)).getD j []=(E.getD j []).map (·.1):=by
 rw[vy,vy,vv];cases E[j]?<;>rfl
def xy{k:Int}{e:List (Int×Int)}:k∈e.map (·.1)↔∃v,(k,v)∈e:=by
 constructor
 .intro h;obtain⟨p,a,rfl⟩:=vK.mp h;exact⟨p.2,a⟩
 .rintro⟨v,h⟩;exact vK.mpr ⟨_,h,rfl⟩
theorem xu:∀{is:L6},(∃v,LastIn E is k v)↔∃j∈is,∃v,(k,v)∈E.getD j []
 | []=>⟨λ⟨v,b,j,a,e,_⟩=>by cases b<;>simp at e,λ⟨j,h,_⟩=>by simp at h⟩
 | i::r=>by
  have p:=xu (E:=E) (k:=k) (is:=r);constructor
  .rintro⟨v,b,j,a,e,c,m⟩;exact⟨j,by rw[e];simp,v,c⟩
  .rintro⟨j,d,v,n⟩;by_cases q:∃j∈r,∃v,(k,v)∈E.getD j []
   .obtain⟨l,b,g,a,e,c,m⟩:=p.mpr q;exact⟨l,i::b,g,a,by rw[e];rfl,c,m⟩
   .rcases mem_cons.mp d with rfl | d
    .exact⟨v,[],j,r,rfl,n,λg o l f=>q ⟨g,o,l,f⟩⟩
    .exact ue ⟨j,d,v,n⟩ q
def j3D{ls:L4}{ps:N1}{E:L0}(s:E.length=ps.length)(h:EndOk ls ps E):MovOk ls ps (E.map λe=>e.map (·.1)):=λi p t q d=>by
 rw[vv]at d;obtain⟨e,o,rfl⟩:=vg.mp d;obtain⟨a,b⟩:=h i p e q o;refine⟨a,λk=>?_⟩;rw[xy];constructor
 .rintro⟨v,r⟩;rcases(b k v).mp r with z | ⟨x,n,f,g⟩
  .obtain⟨j,l,m,c⟩:=xu.mp ⟨v,z⟩;exact .inl ⟨j,l,by rw[getD_map];exact xy.mpr ⟨m,c⟩⟩
  .exact .inr ⟨x,v,n,f,g⟩
 .rintro(⟨j,l,d⟩ | ⟨x,h,n,f,g⟩)
  .rw[getD_map]at d;obtain⟨m,c⟩:=xy.mp d;obtain⟨v,z⟩:=xu.mpr ⟨j,l,m,c⟩;exact⟨v,(b k v).mpr (.inl z)⟩
  .exact⟨h,(b k h).mpr (.inr ⟨x,n,f,g⟩)⟩
def j1r(h:x∈xs):ixOf xs x<xs.length:=by
 induction xs with
 | nil=>exact nomatch h
 | cons y r ih=>
  show(if y=x then 0 else ixOf r x+1)<r.length+1;split
  .lia
  .rename_i hne;rcases mem_cons.mp h with e | e
   .exact ue e.symm hne
   .have:=ih e;lia
def Yv(W:WfB ls ps)(s:E.length<=ps.length)(h:EndOk ls ps E):∀(i:Nat),∀q∈E.getD i [],0<=q.1/\q.1<(ls.length:Int):=by
 intro i
 induction i using Nat.strongRecOn with
 | ind i ih=>
  intro q a;rw[vy]at a;cases e:E[i]? with
  | none=>rw[e]at a;exact nomatch a
  | some ev=>
   rw[e]at a;have r:=(vx.mp e).1;have f:ps[i]?=some ps[i]:=vz ⋯;obtain⟨_,b⟩:=h i _ ev f e;rcases(b q.1 q.2).mp a with⟨m,j,k,c,d,_⟩ | ⟨x,n,c,d⟩
   .exact ih j (W.inP_lt f (by rw[c];simp)) _ d
   .have g:ps[i]?=some (ps[i].1,.rise x q.2 n):=by rw[f,<-c]
    obtain⟨j,l⟩:=W.r i _ _ _ _ g;have o:=j1r (vm l);have p:(nmsOf ls).length=ls.length:=vt _;rw[d];lia
def Xu{ls:L4}{ps:N1}(W:WfB ls ps){E:L0}(f:E.length<=ps.length)(h:EndOk ls ps E){i:Nat}{e:List (Int×Int)}(c:E[i]?=some e):e.length<=8:=by
 have hi:=(vx.mp c).1;have a:=(h i _ e (vz ⋯) c).1;have b:=Yv W f h i;rw[vy,c]at b;have z:=kI (ks:=e.map (·.1)) (lo:=0) (hi:=ls.length) a λk d=>by
  obtain⟨q,g,rfl⟩:=vK.mp d;exact b q g
 rw[vt]at z;have:=W.l8;lia
noncomputable def putI(kvs:List (Int×Int))(k v:Int):List (Int×Int):=if k∈kvs.map (·.1)then kvs.map (λq=>if q.1=k then(q.1,v)else q)else kvs++[(k,v)]
noncomputable def mergeI(kvs more:List (Int×Int)):List (Int×Int):=more.foldl (λacc q=>putI acc q.1 q.2) kvs
def j4e(kvs:List (Int×Int))(k v:Int):putK (kvs.map iiK) (Sum.inl k) (.int v)=(putI kvs k v).map iiK:=by
 have e:(((kvs.map iiK).any λkv=>decide (kv.1=(Sum.inl k:Key)))=true)↔k∈kvs.map (·.1):=by
  rw[List.any_map,any_eq_true];constructor
  .rintro⟨q,a,h⟩;have b:(Sum.inl q.1:Key)=Sum.inl k:=of_decide_eq_true h;exact vK.mpr ⟨q,a,Sum.inl.inj b⟩
  .intro h;obtain⟨q,a,rfl⟩:=vK.mp h;exact⟨q,a,vG rfl⟩
 unfold putK putI;by_cases c:k∈kvs.map (·.1)
 .rw[vd (e.mpr c),vd c,v8,v8];refine map_congr_left λq _=>?_
  show(if(Sum.inl q.1:Key)=Sum.inl k then _ else _)=iiK (if q.1=k then(q.1,v)else q);by_cases z:q.1=k
  .rw[vd z,vd (by rw[z])];rfl
  .rw[vc z,vc (λw=>z (Sum.inl.inj w))]
 .rw[vc (λw=>c (e.mp w)),vc c,vj];rfl
theorem Yh:∀(more kvs:List (Int×Int)),mergeK (kvs.map iiK) (more.map iiK)=(mergeI kvs more).map iiK
 | [],kvs=>rfl
 | q::r,kvs=>by
  show mergeK (putK (kvs.map iiK) (Sum.inl q.1) (.int q.2)) (r.map iiK)=(mergeI (putI kvs q.1 q.2) r).map iiK;rw[j4e,Yh r]
def j2B(kvs:List (Int×Int))(k v:Int)(d:(kvs.map (·.1)).Nodup):((putI kvs k v).map (·.1)).Nodup:=by
 unfold putI;split
 .rw[v8];have e:kvs.map ((λx=>x.1)∘λq=>if q.1=k then(q.1,v)else q)=kvs.map (·.1):=map_congr_left λq _=>by
   show(if q.1=k then(q.1,v)else q).1=q.1;split<;>rfl
  rw[e];exact d
 .rename_i c;rw[vj,nodup_append];exact⟨d,pairwise_singleton _ _,λa f b g e=>c (by rw[show k=b from(vo.mp g).symm,<-e];exact f)⟩
def j3y:(a,b)∈putI kvs k v↔(a=k/\b=v)\/(a≠k/\(a,b)∈kvs):=by
 unfold putI;split
 .rename_i c;rw[vK];constructor
  .rintro⟨q,d,e⟩;by_cases z:q.1=k
   .rw[vd z]at e;cases e;exact .inl ⟨z,rfl⟩
   .rw[vc z]at e;subst e;exact .inr ⟨z,d⟩
  .rintro(⟨rfl,rfl⟩ | ⟨f,g⟩)
   .obtain⟨q,d,e⟩:=vK.mp c;exact⟨q,d,by rw[vd e,e]⟩
   .exact⟨(a,b),g,by rw[vc f]⟩
 .rename_i c;rw[vh];constructor
  .rintro(h | h)
   .exact .inr ⟨λe=>c (e▸vK.mpr ⟨(a,b),h,rfl⟩),h⟩
   .cases vo.mp h;exact .inl ⟨rfl,rfl⟩
  .rintro(⟨rfl,rfl⟩ | ⟨_,h⟩)
   .exact .inr (vo.mpr rfl)
   .exact .inl h
theorem WH:∀{more kvs:List (Int×Int)},(kvs.map (·.1)).Nodup->(more.map (·.1)).Nodup->((mergeI kvs more).map (·.1)).Nodup/\∀k v,(k,v)∈mergeI kvs more↔(k,v)∈more\/((∀c,(k,c)∉more)/\(k,v)∈kvs)
 | [],kvs,nd,_=>⟨nd,λk v=>⟨λh=>.inr ⟨(λ_ h=>nomatch h),h⟩,λh=>h.elim (λh=>nomatch h) (·.2)⟩⟩
 | q::r,kvs,nd,nm=>by
  rw[uy,um]at nm;obtain⟨a,b⟩:=WH (more:=r) (kvs:=putI kvs q.1 q.2) (j2B _ _ _ nd) nm.2;refine⟨a,λk v=>(b k v).trans ?_⟩;rw[j3y];have i:∀c,(q.1,c)∉r:=λc h=>nm.1 (vK.mpr ⟨_,h,rfl⟩)
  constructor
  .rintro(h | ⟨f,⟨rfl,rfl⟩ | ⟨g,j⟩⟩)
   .exact .inl (vp _ h)
   .exact .inl vq
   .refine .inr ⟨λc d=>?_,j⟩;rcases mem_cons.mp d with e | e
    .exact g (by rw[<-e])
    .exact f c e
  .rintro(h | ⟨f,g⟩)
   .rcases mem_cons.mp h with e | e
    .refine .inr ⟨λc d=>?_,.inl ⟨by rw[<-e],by rw[<-e]⟩⟩;rw[<-e]at i;exact i c d
    .exact .inl e
   .refine .inr ⟨λc d=>f c (vp _ d),.inr ⟨λe=>?_,g⟩⟩;exact f q.2 (by rw[e];exact vq)
def j0C(b:(ms.map (·.1)).Nodup):mergeI [] ms=ms:=by
 have e:∀(r a:List (Int×Int)),((a++r).map (·.1)).Nodup->mergeI a r=a++r:=by
  intro r
  induction r with
  | nil=>intro a _;exact(append_nil _).symm
  | cons q r ih=>
   intro a b;have c:q.1∉a.map (·.1):=λh=>by
    rw[vj,nodup_append]at b;exact b.2.2 q.1 h q.1 (by simp) rfl
   show mergeI (putI a q.1 q.2) r=_;unfold putI;rw[vc c,ih (a++[(q.1,q.2)]) (by rw[List.append_assoc];exact b),List.append_assoc];rfl
 exact e ms [] b
def j2k:LastIn E (is++[j]) k v↔(k,v)∈E.getD j []\/((∀m,(k,m)∉E.getD j [])/\LastIn E is k v):=by
 constructor
 .rintro⟨c,i,a,e,g,l⟩;rcases List.eq_nil_or_concat a with rfl | ⟨b,x,rfl⟩
  .have f:=List.append_inj' (show is++[j]=c++[i]from e) rfl;have n:j=i:=by simpa using f.2
   rw[n];exact .inl g
  .have p:is++[j]=(c++i::b)++[x]:=by rw[e];simp
   have f:=List.append_inj' p rfl;have n:j=x:=by simpa using f.2
   subst n;exact .inr ⟨l j (by simp),c,i,b,f.1,g,λo d=>l o (by simp[d])⟩
 .rintro(h | ⟨g,c,i,a,e,l,q⟩)
  .exact⟨is,j,[],rfl,h,(λ_ h=>nomatch h)⟩
  .refine⟨c,i,a++[j],by rw[e];simp,l,λo d m=>?_⟩;rcases vh.mp d with z | z
   .exact q o z m
   .rw[vo.mp z];exact g m
def XG(h:∀j∈is,E.getD j []=E'.getD j []):LastIn E is k v->LastIn E' is k v:=by
 rintro⟨c,j,b,e,f,g⟩;refine⟨c,j,b,e,by rw[<-h j (by rw[e];simp)];exact f,λd a=>?_⟩;rw[<-h d (by rw[e];simp[a])];exact g d a
def EndOk.snoc{ls:L4}{ps:N1}(W:WfB ls ps){E:L0}{p:Str×Fm}{e:List (Int×Int)}(h:EndOk ls ps E)(u:ps[E.length]?=some p)(o:(e.map (·.1)).Pairwise (· < ·))
  (r:∀k v,(k,v)∈e↔EndIs ls ps E p.2 k v):EndOk ls ps (E++[e]):=λi q f g c=>by
 have t:i<=E.length:=by
  have:=(vx.mp c).1;rw[vn]at this;exact Nat.le_of_lt_succ this
 have ext:∀j∈inP ps q.2,E.getD j []=(E++[e]).getD j []:=λj l=>(getD_snoc (by have:=W.inP_lt g l;lia)).symm
 have d:∀k v,EndIs ls ps E q.2 k v↔EndIs ls ps (E++[e]) q.2 k v:=λk v=>by
  unfold EndIs;exact⟨λh=>h.imp (XG ext) id,λh=>h.imp (XG λj l=>(ext j l).symm) id⟩
 by_cases s:i<E.length
 .rw[vB s]at c;obtain⟨a,b⟩:=h i q f g c;exact⟨a,λk v=>(b k v).trans (d k v)⟩
 .have n:i=E.length:=⋯
  subst n;rw[vC (vb _),Nat.sub_self]at c;have m:e=f:=by simpa using c
  subst m;rw[u]at g;cases g;exact⟨o,λk v=>(r k v).trans (d k v)⟩
def j3k{H:Hp}(h:FormAt H a f)(d:∀x v n,f≠.rise x v n):∃k xs,H a=some (.tup (.str k::xs))/\decide (k=("raise" : Str))=false:=by
 cases f with
 | hold n=>exact⟨_,_,h,by trivial⟩
 | ring x n=>exact⟨_,_,h,by trivial⟩
 | rise x v n=>exact ue rfl (d x v n)
 | row ps=>obtain⟨b,c,_⟩:=h;exact⟨_,_,c,by trivial⟩
 | side ps=>obtain⟨b,c,_⟩:=h;exact⟨_,_,c,by trivial⟩
 | again k x=>exact⟨_,_,h,by trivial⟩
noncomputable def kv0(ls:L4):Fm->List (Int×Int)
 | .rise x h _=>[((ixOf (nmsOf ls) x:Nat),h)]
 | _=>[]
def j56(a:∀x v n,f≠.rise x v n):kv0 ls f=[]:=by
 cases f with
 | rise x v n=>exact ue rfl (a x v n)
 | _=>rfl
def xz:(k,v)∈kv0 ls f↔∃x n,f = .rise x v n/\k=(ixOf (nmsOf ls) x:Nat):=by
 cases f with
 | rise x h n=>
  constructor
  .intro a;cases vo.mp a;exact⟨x,n,rfl,rfl⟩
  .rintro⟨c,b,e,rfl⟩;injection e with e1 e2 e3;subst e1 e2;exact vo.mpr rfl
 | _=>exact⟨(λh=>nomatch h),λ⟨_,_,e,_⟩=>nomatch e⟩
def j6m(f:Fm):inP ps f=[]\/kv0 ls f=[]:=by
 cases f with
 | rise x h n=>exact .inl rfl
 | _=>exact .inr rfl
def j6n(f:Fm):((kv0 ls f).map (·.1)).Nodup:=by
 cases f with
 | rise x h n=>exact pairwise_singleton _ _
 | _=>exact .nil
inductive sp_check_side(vs:N2)(H:Hp)(Q:VK)(xk:XK):Prop
 | mk (r:Int) (l ll:Addr) (as las:L7) (M:L1) (_:vs=[.int r,.ref l,.ref ll]) (_:H l=some (.lst (as.map V.ref))) (_:ListsAt H as M) (_:(∀ks∈M,ks≠[])) (_:M.length<=8) (_:H ll=some (.lst (las.map V.ref))) (_:(∀k:Int,(M.filter λks=>decide (k∈ks)).length<=1)) (_:∀H',Same H H'->Q .non H'):sp_check_side vs H Q xk
noncomputable def LenIs:Fm->L5->Int->Prop
 | .hold n,_,g=>g=n
 | .ring _ n,_,g=>g=n
 | .rise _ _ n,_,g=>g=n
 | .row _,gs,g=>g=gs.sum
 | .side _,gs,g=>g∈gs/\∀x∈gs,x<=g
 | .again k _,gs,g=>∃y,gs.head?=some y/\g=k*y
noncomputable def LenPre:Fm->L5->Prop
 | .side _,gs=>gs≠[]
 | .again k _,gs=>∃y r,gs=y::r/\0<=k/\k<=10^18/\0<=y/\y<=10^60
 | _,_=>True
inductive sp_length_of(vs:N2)(H:Hp)(Q:VK)(xk:XK):Prop
 | mk (a l:Addr) (f:Fm) (gs:L5) (_:vs=[.ref a,.ref l]) (_:FormAt H a f) (_:H l=some (.lst (gs.map V.int))) (_:LenPre f gs) (_:∀g,LenIs f gs g->Q (.int g) H):sp_length_of vs H Q xk
structure Snd(ls:L4)(ps:N1)(gs:L5)(hs:L1):Prop where
 w:WfB ls ps
 gl:gs.length=ps.length
 gb:∀i,i<ps.length->0<=gs.getD i 0/\gs.getD i 0<=10^60
 mv:∀M:L1,M.length=ps.length->MovOk ls ps M->∀i,i<ps.length->M.getD i []=hs.getD i []
 ln:∀(i:Nat) (p:Str×Fm),ps[i]?=some p->LenPre p.2 ((inP ps p.2).map λj=>gs.getD j 0)/\∀g,LenIs p.2 ((inP ps p.2).map λj=>gs.getD j 0) g->g=gs.getD i 0
 sd:∀(i:Nat) (p:Str×Fm) (qs:L8),ps[i]?=some p->p.2 = .side qs->(∀j∈inP ps p.2,hs.getD j []≠[])/\∀k:Int,(((inP ps p.2).map λj=>hs.getD j []).filter λks=>decide (k∈ks)).length<=1
inductive sp_lengths(vs:N2)(H:Hp)(Q:VK)(xk:XK):Prop
 | mk (b pl pp:Addr) (las pas:L7) (ls:L4) (ps:N1) (gs:L5) (hs:L1) (_:vs=[.ref b]) (_:BookAt H b pl pp las pas ls ps) (_:Snd ls ps gs hs) (_:∀(l:Addr) (H':Hp),Same H H'->H l=none->H' l=some (.lst (gs.map V.int))->Q (.ref l) H'):sp_lengths vs H Q xk
def any_empty{M:L1}(h:∀ks∈M,ks≠[]):(M.any λks=>decide (ks=[]))=false:=by
 rw[List.any_eq_false];intro ks a;simpa using h ks a
def j53{gs:L5}{i:Nat}(h:i<gs.length):gs.take (i+1)=gs.take i++[gs.getD i 0]:=by
 refine take_snoc ?_;rw[vy,vz h];rfl
def j3h{gs:L5}{i j:Nat}(hi:i<=gs.length)(a:j<i):atI ((gs.take i).map V.int) (j:Int)=some (.int (gs.getD j 0)):=by
 refine jN ?_;rw[vv,List.getElem?_take,vd a,vy,vz ⋯];rfl
theorem Xf:∀{a b:List (Int×Int)},(a.map (·.1)).Pairwise (· < ·)->(b.map (·.1)).Pairwise (· < ·)->(∀k v,(k,v)∈a↔(k,v)∈b)->a=b
 | [],[],_,_,_=>rfl
 | [],y::s,_,_,h=>ue ((h y.1 y.2).mpr vq) (by simp)
 | x::r,[],_,_,h=>ue ((h x.1 x.2).mp vq) (by simp)
 | x::r,y::s,ha,hb,h=>by
  rw[uy,pairwise_cons]at ha hb;have g:∀q∈r,x.1<q.1:=λq d=>ha.1 _ (vK.mpr ⟨q,d,rfl⟩)
  have i:∀q∈s,y.1<q.1:=λq d=>hb.1 _ (vK.mpr ⟨q,d,rfl⟩)
  have e:x=y:=by
   rcases mem_cons.mp ((h x.1 x.2).mp vq)with q | q
   .exact q
   .rcases mem_cons.mp ((h y.1 y.2).mpr vq)with f | f
    .exact f.symm
    .have j:=i _ q;have l:=g _ f;simp only at j l;lia
  subst e;rw[Xf ha.2 hb.2 λk v=>?_];constructor
  .intro c;rcases mem_cons.mp ((h k v).mp (vp _ c))with q | q
   .have:=g _ c;rw[<-q]at this;simp only at this;lia
   .exact q
  .intro c;rcases mem_cons.mp ((h k v).mpr (vp _ c))with q | q
   .have:=i _ c;rw[<-q]at this;simp only at this;lia
   .exact q
def j5a(W:WfB ls ps)(m:M.length=ps.length)(h:MovOk ls ps M):∀(i:Nat),∀k∈M.getD i [],0<=k/\k<(ls.length:Int):=by
 intro i
 induction i using Nat.strongRecOn with
 | ind i ih=>
  intro k a;rw[vy]at a;cases e:M[i]? with
  | none=>rw[e]at a;exact nomatch a
  | some ks=>
   rw[e]at a;have l:=(vx.mp e).1;have d:ps[i]?=some ps[i]:=vz ⋯;obtain⟨_,b⟩:=h i _ ks d e;rcases(b k).mp a with⟨j,c,f⟩ | ⟨x,v,n,g,rfl⟩
   .exact ih j (W.inP_lt d c) k f
   .obtain⟨j,c⟩:=W.r i (ps[i]).1 x v n (by rw[d,<-g]);rw[jW W.ln c];have:=(vx.mp c).1;unfold nmsOf at this;rw[vt]at this;lia
def j5b{ls:L4}{ps:N1}(W:WfB ls ps){M:L1}(d:M.length=ps.length)(h:MovOk ls ps M){i:Nat}{ks:L5}(c:M[i]?=some ks):ks.length<=8:=by
 have hi:=(vx.mp c).1;have a:=(h i _ ks (vz ⋯) c).1;have b:=j5a W d h i;rw[vy,c]at b;have z:=kI (ks:=ks) (lo:=0) (hi:=ls.length) a b;have:=W.l8;lia
def FormAt.keep{H H':Hp}(k:∀c xs,H c=some (.tup xs)->H' c=some (.tup xs))(h:FormAt H a f):FormAt H' a f:=by
 cases f with
 | row ps=>obtain⟨c,b,d⟩:=h;exact⟨c,k _ _ b,k _ _ d⟩
 | side ps=>obtain⟨c,b,d⟩:=h;exact⟨c,k _ _ b,k _ _ d⟩
 | hold n=>exact k _ _ h
 | ring x n=>exact k _ _ h
 | rise x g n=>exact k _ _ h
 | again x n=>exact k _ _ h
def PartAt.keep{H H':Hp}(k:∀c xs,H c=some (.tup xs)->H' c=some (.tup xs))(h:PartAt H a p):PartAt H' a p:=by
 obtain⟨b,d,e⟩:=h;exact⟨b,k _ _ d,FormAt.keep k e⟩
section
variable{ls:L4}{x:Str}{f:Fm}
end
def j2Z(a:0<=i)(h:xs[i.toNat]?=some c):atI xs i=some c:=by
 have q:∀k:Nat,xs[k]?=some c->atI xs (k:Int)=some c:=λk d=>by
  obtain⟨b,rfl⟩:=vx.mp d;unfold atI ixN;simp[b]
 have:=q i.toNat h;rw[Int.toNat_of_nonneg a]at this;exact this
def ixZ{n:Nat}{k:Int}(a:0<=k)(c:k<n):ixN n k=some k.toNat:=by
 have b:∀j:Nat,j<n->ixN n (j:Int)=some j:=λj h=>by
  unfold ixN;simp[h]
 have q:=b k.toNat ⋯;rw[Int.toNat_of_nonneg a]at q;exact q
noncomputable abbrev Pc:=Nat×Int×Int
noncomputable abbrev Pr4:=Nat×Int×Int×Option Int
noncomputable def rowPc(gs:L5):L6->Int->List Pc
 | [],_=>[]
 | j::r,b=>(j,1,b)::rowPc gs r (b+gs.getD j 0)
noncomputable def pcsI(gs:L5)(f:Fm)(is:L6):List Pc:=
 match f with
 | .again k _=>match is with
  | []=>[]
  | j::_=>(j,1,0)::(if 1<k then[(j,k-1,gs.getD j 0)]else[])
 | .row _=>rowPc gs is 0
 | _=>is.map λj=>(j,1,0)
def PcsAt(H:Hp)(as:L7)(qs:List Pc):Prop:=All2 (λa q=>H a=some (.tup [.int (q.1:Nat),.int q.2.1,.int q.2.2])) as qs
def PssAt(H:Hp)(as:L7)(qss:List (List Pc)):Prop:=All2 (λa qs=>∃bs,H a=some (.lst (bs.map V.ref))/\PcsAt H bs qs) as qss
inductive sp_pieces_in(vs:N2)(H:Hp)(Q:VK)(xk:XK):Prop
 | mk (a l s:Addr) (f:Fm) (is:L6) (gs:L5) (_:vs=[.ref a,.ref l,.ref s]) (_:FormAt H a f) (_:H l=some (.lst ((is.map λj:Nat=>(j:Int)).map V.int))) (_:H s=some (.lst (gs.map V.int))) (_:is.length<=8) (_:(∀j∈is,j<gs.length)) (_:(∀k x,f = .again k x->is≠[])) (_:∀(p:Addr) (as:L7) (H':Hp),Same H H'->H p=none->H' p=some (.lst (as.map V.ref))->PcsAt H' as (pcsI gs f is)->Q (.ref p) H'):sp_pieces_in vs H Q xk
inductive sp_pieces_of(vs:N2)(H:Hp)(Q:VK)(xk:XK):Prop
 | mk (b pl pp s:Addr) (las pas:L7) (ls:L4) (ps:N1) (gs:L5) (_:vs=[.ref b,.ref s]) (_:BookAt H b pl pp las pas ls ps) (_:WfB ls ps) (_:H s=some (.lst (gs.map V.int))) (_:gs.length=ps.length) (_:∀(l:Addr) (as:L7) (H':Hp),Same H H'->H l=none->H' l=some (.lst (as.map V.ref))->PssAt H' as (ps.map λp=>pcsI gs p.2 (inP ps p.2))->(∀a∈as,H a=none)->Q (.ref l) H'):sp_pieces_of vs H Q xk
noncomputable def ov(gs:L5)(t:Int)(q:Pc):Int:=if q.2.1<(t-q.2.2)/gs.getD q.1 0 then q.2.1 else(t-q.2.2)/gs.getD q.1 0
noncomputable def prg1(gs:L5)(t:Int)(q:Pc):Option Pr4:=
 if q.2.2<=t then some (q.1,q.2.2,ov gs t q,if ov gs t q<q.2.1 then some (t-q.2.2-ov gs t q*gs.getD q.1 0)else none)else none
noncomputable def prg(gs:L5)(t:Int)(qs:List Pc):List Pr4:=qs.filterMap (prg1 gs t)
noncomputable def optV:Option Int->V
 | none=>.non
 | some r=>.int r
def PrgAt(H:Hp)(as:L7)(ys:List Pr4):Prop:=All2 (λa y=>H a=some (.tup [.int (y.1:Nat),.int y.2.1,.int y.2.2.1,optV y.2.2.2])) as ys
def PcOk(gs:L5)(q:Pc):Prop:=q.1<gs.length/\1<=gs.getD q.1 0/\gs.getD q.1 0<=10^60/\1<=q.2.1/\q.2.1<=10^18/\0<=q.2.2/\q.2.2<=10^62
inductive sp_progress(vs:N2)(H:Hp)(Q:VK)(xk:XK):Prop
 | mk (l s:Addr) (t:Int) (bs:L7) (qs:List Pc) (gs:L5) (_:vs=[.ref l,.ref s,.int t]) (_:H l=some (.lst (bs.map V.ref))) (_:PcsAt H bs qs) (_:H s=some (.lst (gs.map V.int))) (_:qs.length<=8) (_:(∀q∈qs,PcOk gs q)) (_:0<=t) (_:t<=10^62) (_:∀(p:Addr) (as:L7) (H':Hp),Same H H'->H p=none->H' p=some (.lst (as.map V.ref))->PrgAt H' as (prg gs t qs)->Q (.ref p) H'):sp_progress vs H Q xk
def GonAt(H:Hp)(as:L7)(xs:L3):Prop:=All2 (λa x=>H a=some (.tup [.int (x.1:Nat),.int x.2])) as xs
noncomputable def wth1(gs:L5)(y:Pr4):L3:=(if 0<y.2.2.1 then[(y.1,gs.getD y.1 0)]else[])++(match y.2.2.2 with | some r=>[(y.1,r)] | none=>[])
noncomputable def wth(gs:L5)(t:Int)(qs:List Pc):L3:=(prg gs t qs).flatMap (wth1 gs)
inductive sp_within(vs:N2)(H:Hp)(Q:VK)(xk:XK):Prop
 | mk (l s:Addr) (t:Int) (bs:L7) (qs:List Pc) (gs:L5) (_:vs=[.ref l,.ref s,.int t]) (_:H l=some (.lst (bs.map V.ref))) (_:PcsAt H bs qs) (_:H s=some (.lst (gs.map V.int))) (_:qs.length<=8) (_:(∀q∈qs,PcOk gs q)) (_:0<=t) (_:t<=10^62) (_:∀(p:Addr) (as:L7) (H':Hp),Same H H'->H p=none->H' p=some (.lst (as.map V.ref))->GonAt H' as (wth gs t qs)->Q (.ref p) H'):sp_within vs H Q xk
noncomputable def reachL(pc:Nat->List Pc)(gs:L5):Nat->Nat->Int->L3
 | 0,i,t=>[(i,t)]
 | n+1,i,t=>if gs.getD i 0<=t\/pc i=[]then[(i,t)]else(wth gs t (pc i)).flatMap λx=>reachL pc gs n x.1 x.2
noncomputable def nodesL(pc:Nat->List Pc)(gs:L5):Nat->Nat->Int->Nat
 | 0,_,_=>1
 | n+1,i,t=>if gs.getD i 0<=t\/pc i=[]then 1 else 1+((wth gs t (pc i)).map λx=>nodesL pc gs n x.1 x.2).sum
noncomputable def pcB(ps:N1)(gs:L5)(i:Nat):List Pc:=match ps[i]? with | some p=>pcsI gs p.2 (inP ps p.2) | none=>[]
section
variable{gs:L5}{t:Int}
def WG(h:q∈rowPc gs is b):q.1∈is/\q.2.1=1:=by
 induction is generalizing b with
 | nil=>exact nomatch h
 | cons j r ih=>
  rcases mem_cons.mp h with rfl | h
  .exact⟨vq,rfl⟩
  .obtain⟨a,b⟩:=ih h;exact⟨vp _ a,b⟩
def j2m(is:L6)(b:Int):(rowPc gs is b).length=is.length:=by
 induction is generalizing b with
 | nil=>rfl
 | cons j r ih=>rw[rowPc,vQ,vQ,ih]
def yw(d:∀j∈is,0<=gs.getD j 0/\gs.getD j 0<=10^60)(h:q∈rowPc gs is b):b<=q.2.2/\q.2.2<=b+10^60*is.length:=by
 induction is generalizing b with
 | nil=>exact nomatch h
 | cons j r ih=>
  have g:=d j vq;rw[vQ];rcases mem_cons.mp h with rfl | h
  .have:(0:Int)<=10^60*((r.length+1:Nat):Int):=Int.mul_nonneg nofun ⋯;exact⟨vA _,by show b<=_;lia⟩
  .obtain⟨a,c⟩:=ih (λk e=>d k (vp _ e)) h;refine⟨⋯,?_⟩;rw[show((r.length+1:Nat):Int)=(r.length:Int)+1 by lia,Int.mul_add];lia
def YF(h:q∈pcsI gs f is):q.1∈is:=by
 unfold pcsI at h;split at h
 .split at h
  .exact nomatch h
  .rcases mem_cons.mp h with rfl | h
   .exact vq
   .split at h
    .rw[vo.mp h];exact vq
    .exact nomatch h
 .exact(WG h).1
 .obtain⟨j,a,rfl⟩:=vK.mp h;exact a
def XH(a:is.length<=8):(pcsI gs f is).length<=8:=by
 unfold pcsI;split
 .split
  .exact va _
  .split<;>simp
 .rw[j2m];exact a
 .rw[vt];exact a
def yO(h:y∈prg gs t qs):∃q∈qs,prg1 gs t q=some y:=List.mem_filterMap.mp h
def j1x(a:List Pc):(prg gs t a).length<=a.length:=List.length_filterMap_le _ _
def yt(h:prg1 gs t q=some y):y.1=q.1:=by
 unfold prg1 at h;split at h
 .cases h;rfl
 .cases h
def xA(h:x∈wth gs t qs):∃q∈qs,x.1=q.1:=by
 obtain⟨y,c,a⟩:=mem_flatMap.mp h;obtain⟨q,b,e⟩:=yO c;refine⟨q,b,?_⟩;rw[<-yt e];unfold wth1 at a;rcases vh.mp a with z | z
 .split at z
  .rw[vo.mp z]
  .exact nomatch z
 .split at z
  .rw[vo.mp z]
  .exact nomatch z
def j3r(y:Pr4):(wth1 gs y).length<=2:=by
 unfold wth1;rw[vn];have a:(if 0<y.2.2.1 then[(y.1,gs.getD y.1 0)]else[]).length<=1:=by split<;>simp
 have b:(match y.2.2.2 with | some r=>[(y.1,r)] | none=>[]:L3).length<=1:=by split<;>simp
 lia
def j59(a:List Pc):(wth gs t a).length<=2*a.length:=by
 have h:∀b:List Pr4,(b.flatMap (wth1 gs)).length<=2*b.length:=λb=>by
  induction b with
  | nil=>exact va _
  | cons y r ih=>
   rw[flatMap_cons,vn,vQ];have:=j3r (gs:=gs) y;lia
 have:=h (prg gs t a);have:=j1x (gs:=gs) (t:=t) a;unfold wth;lia
end
section
variable{ls:L4}{ps:N1}{gs:L5}
def j0M(W:WfB ls ps)(h:q∈pcB ps gs i):q.1<i:=by
 unfold pcB at h;split at h
 .rename_i p hp;exact W.inP_lt hp (YF h)
 .exact nomatch h
def Zp(W:WfB ls ps)(h:x∈wth gs t (pcB ps gs i)):x.1<i:=by
 obtain⟨q,a,e⟩:=xA h;rw[e];exact j0M W a
theorem qH{a c:Type}{f g:a->List c}:∀{l:List a},(∀x∈l,f x=g x)->l.flatMap f=l.flatMap g
 | [],_=>rfl
 | x::r,h=>by rw[flatMap_cons,flatMap_cons,h x vq,qH λy b=>h y (vp _ b)]
theorem wE(W:WfB ls ps):∀{n m i:Nat} {t:Int},i<n->i<m->reachL (pcB ps gs) gs n i t=reachL (pcB ps gs) gs m i t
 | 0,_,_,_,h,_=>ue h (Nat.not_lt_zero _)
 | _,0,_,_,_,h=>ue h (Nat.not_lt_zero _)
 | n+1,m+1,i,t,h1,h2=>by
  unfold reachL;split
  .rfl
  .exact qH λx a=>by
    have:=Zp W a;exact wE W ⋯ ⋯
theorem wj(W:WfB ls ps):∀{n m i:Nat} {t:Int},i<n->i<m->nodesL (pcB ps gs) gs n i t=nodesL (pcB ps gs) gs m i t
 | 0,_,_,_,h,_=>ue h (Nat.not_lt_zero _)
 | _,0,_,_,_,h=>ue h (Nat.not_lt_zero _)
 | n+1,m+1,i,t,h1,h2=>by
  unfold nodesL;split
  .rfl
  .congr 2;exact map_congr_left λx a=>by
    have:=Zp W a;exact wj W ⋯ ⋯
noncomputable def reach(ps:N1)(gs:L5)(i:Nat)(t:Int):L3:=reachL (pcB ps gs) gs (i+1) i t
noncomputable def nodes(ps:N1)(gs:L5)(i:Nat)(t:Int):Nat:=nodesL (pcB ps gs) gs (i+1) i t
def qm(h:gs.getD i 0<=t\/pcB ps gs i=[]):reach ps gs i t=[(i,t)]:=by
 unfold reach reachL;rw[vd h]
def Qv(W:WfB ls ps)(h:¬(gs.getD i 0<=t\/pcB ps gs i=[])):reach ps gs i t=(wth gs t (pcB ps gs i)).flatMap λx=>reach ps gs x.1 x.2:=by
 unfold reach;rw[reachL,vc h];exact qH λx a=>by
  have:=Zp W a;exact wE W ⋯ ⋯
def Yi(h:gs.getD i 0<=t\/pcB ps gs i=[]):nodes ps gs i t=1:=by
 unfold nodes nodesL;rw[vd h]
def wm(W:WfB ls ps)(h:¬(gs.getD i 0<=t\/pcB ps gs i=[])):nodes ps gs i t=1+((wth gs t (pcB ps gs i)).map λx=>nodes ps gs x.1 x.2).sum:=by
 unfold nodes;rw[nodesL,vc h];congr 2;exact map_congr_left λx a=>by
  have:=Zp W a;exact wj W ⋯ ⋯
def WK(i:Nat)(t:Int):1<=nodes ps gs i t:=by
 unfold nodes nodesL;split<;>lia
end
section
variable{gs:L5}{t:Int}
noncomputable def wq(gs:L5)(t:Int)(q:Pc):L3:=match prg1 gs t q with | some y=>wth1 gs y | none=>[]
def j20:wth gs t []=[]:=rfl
def zG(q:Pc)(a:List Pc):wth gs t (q::a)=wq gs t q++wth gs t a:=by
 unfold wth prg wq;rw[filterMap_cons];cases prg1 gs t q with
 | none=>rfl
 | some y=>rfl
def j5K(h:t<q.2.2):wq gs t q=[]:=by
 unfold wq prg1;rw[vc ⋯]
def Xh(d:1<=gs.getD j 0)(h:b<=t):wq gs t (j,1,b)=if gs.getD j 0<=t-b then[(j,gs.getD j 0)]else[(j,t-b)]:=by
 have c:wq gs t (j,1,b)=wth1 gs (j,b,ov gs t (j,1,b),if ov gs t (j,1,b)<1 then some (t-b-ov gs t (j,1,b)*gs.getD j 0)else none):=by
  unfold wq prg1;rw[vd (show b<=t from h)]
 rw[c];generalize a:gs.getD j 0=g at d|-;have e:ov gs t (j,1,b)=if g<=t-b then 1 else 0:=by
  show(if(1:Int)<(t-b)/gs.getD j 0 then(1:Int)else(t-b)/gs.getD j 0)=_;rw[a];by_cases z:g<=t-b
  .rw[vd z];have:1<=(t-b)/g:=by
    rw[Int.le_ediv_iff_mul_le ⋯];lia
   split<;>lia
  .rw[vc z];have:(t-b)/g=0:=Int.ediv_eq_zero_of_lt ⋯ ⋯;rw[this];rfl
 by_cases z:g<=t-b
 .rw[vd z]at e;rw[vd z,e];unfold wth1;simp;rw[<-vy];exact a
 .rw[vc z]at e;rw[vc z,e];unfold wth1;simp
def j1Y(h:q.2.2<=t):wq gs t q=(if 0<ov gs t q then[(q.1,gs.getD q.1 0)]else[])++(if ov gs t q<q.2.1 then[(q.1,t-q.2.2-ov gs t q*gs.getD q.1 0)]else[]):=by
 unfold wq prg1;rw[vd h];show wth1 gs _=_;unfold wth1;congr 1;show(match(if ov gs t q<q.2.1 then some (t-q.2.2-ov gs t q*gs.getD q.1 0)else none)with | some r=>[(q.1,r)] | none=>[])=_;split<;>rename_i e<;>split at e
 .cases e;rw[vd (by assumption)]
 .cases e
 .cases e
 .rw[vc (by assumption)]
theorem YW:∀{qs:List Pc},(∀q∈qs,t<q.2.2)->wth gs t qs=[]
 | [],_=>rfl
 | q::r,h=>by rw[zG,j5K (h q vq),YW λq a=>h q (vp _ a)];rfl
def X1(a:∀j∈is,0<=gs.getD j 0/\gs.getD j 0<=10^60)(h:t<b):wth gs t (rowPc gs is b)=[]:=
 YW λq c=>by have:=(yw a c).1;lia
def X0(a:∀k∈j::r,1<=gs.getD k 0/\gs.getD k 0<=10^60)(h:b<=t):wth gs t (rowPc gs (j::r) b)=if gs.getD j 0<=t-b then(j,gs.getD j 0)::wth gs t (rowPc gs r (b+gs.getD j 0))else[(j,t-b)]:=by
 have g:=a j vq;rw[rowPc,zG,Xh g.1 h];split
 .rfl
 .rw[X1 (λk c=>by have:=a k (vp _ c);lia) ⋯];rfl
theorem j4C{a:Type}{f g:a->Nat}:∀{l:List a},(∀x∈l,f x<=g x)->(l.map f).sum<=(l.map g).sum
 | [],_=>vb _
 | x::r,h=>by
  rw[uy,uy,sum_cons,sum_cons];have:=h x vq;have:=j4C (l:=r) λy b=>h y (vp _ b)
  lia
theorem j1P{N:Nat×Int->Nat}:∀{is:L6} {b:Int},(∀k∈is,1<=gs.getD k 0/\gs.getD k 0<=10^60)->(∀k∈is,N (k,gs.getD k 0)=1)->(∀k∈is,∀r,0<=r->N (k,r)<=B)->((wth gs t (rowPc gs is b)).map N).sum<=is.length+B
 | [],b,_,_,_=>va _
 | j::r,b,hg,h1,h2=>by
  by_cases h:b<=t
  .rw[X0 hg h];split
   .rw[uy,sum_cons,h1 j vq,vQ];have:=j1P (N:=N) (B:=B) (is:=r) (b:=b+gs.getD j 0) (λk a=>hg k (vp _ a)) (λk a=>h1 k (vp _ a)) λk a=>h2 k (vp _ a)
    lia
   .have:=h2 j vq (t-b) ⋯;simp;lia
  .rw[X1 (λk a=>by have:=hg k a;lia) ⋯];exact va _
def X4{is:L6}(a:∀k∈is,1<=gs.getD k 0)(c:0<=t):wth gs t (is.map λj=>(j,1,0))=is.map λj=>if gs.getD j 0<=t then(j,gs.getD j 0)else(j,t):=by
 induction is with
 | nil=>rfl
 | cons j r ih=>
  rw[uy,zG,Xh (a j vq) c,ih λk b=>a k (vp _ b),uy,Int.sub_zero];split<;>rfl
def j22{N:Nat×Int->Nat}(l:1<=gs.getD j 0)(f:0<=t)(b:N (j,gs.getD j 0)=1)(d:∀r,0<=r->N (j,r)<=B) :
  ((wth gs t ((j,1,0)::(if 1<k then[(j,k-1,gs.getD j 0)]else[]))).map N).sum<=2+B:=by
 rw[zG,Xh l f,Int.sub_zero,vj,sum_append];by_cases z:gs.getD j 0<=t
 .rw[vd z];have a:((wth gs t (if 1<k then[(j,k-1,gs.getD j 0)]else[])).map N).sum<=1+B:=by
   split
   .rw[zG,j20,append_nil,j1Y (show gs.getD j 0<=t from z),vj,sum_append];have g:(((if 0<ov gs t (j,k-1,gs.getD j 0)then[(j,gs.getD j 0)]else[]):L3).map N).sum<=1:=by
     split
     .simp;rw[<-vy,b];exact vb _
     .simp
    have h:(((if ov gs t (j,k-1,gs.getD j 0)<k-1 then[(j,t-gs.getD j 0-ov gs t (j,k-1,gs.getD j 0)*gs.getD j 0)]else[]):L3).map N).sum<=B:=by
     split
     .have m:ov gs t (j,k-1,gs.getD j 0)=(t-gs.getD j 0)/gs.getD j 0:=by
       show(if k-1<(t-gs.getD j 0)/gs.getD j 0 then k-1 else(t-gs.getD j 0)/gs.getD j 0)=_;rename_i c;have i:(if k-1<(t-gs.getD j 0)/gs.getD j 0 then k-1 else(t-gs.getD j 0)/gs.getD j 0)<k-1:=c;split at i
       .lia
       .rename_i z;rw[vc z]
      have:=d (t-gs.getD j 0-ov gs t (j,k-1,gs.getD j 0)*gs.getD j 0) (by
       rw[m];have:=Int.ediv_mul_le (t-gs.getD j 0) (show gs.getD j 0≠0 by lia);lia)
      simp;exact this
     .simp
    have o:((if 0<ov gs t (j,k-1,gs.getD j 0)then[((j,k-1,gs.getD j 0):Pc).1].map λa=>(a,gs.getD a 0)else[]):L3)=if 0<ov gs t (j,k-1,gs.getD j 0)then[(j,gs.getD j 0)]else[]:=rfl
    exact Nat.add_le_add g h
   .exact va _
  have:(([(j,gs.getD j 0)]:L3).map N).sum=1:=by
   simp;rw[<-vy,b]
  lia
 .rw[vc z];have e:wth gs t (if 1<k then[(j,k-1,gs.getD j 0)]else[])=[]:=by
   split
   .exact YW λq n=>by rw[vo.mp n];show t<gs.getD j 0;lia
   .rfl
  rw[e];have:=d t f;simp;lia
end
def len_sub{a b:L5}(c:a.Nodup)(f:∀x∈a,x∈b):a.length<=b.length:=by
 induction a generalizing b with
 | nil=>exact va _
 | cons x r ih=>
  rw[um]at c;have g:=f x vq;have:=ih (b:=b.erase x) c.2 λy h=>by
   have d:y≠x:=λe=>c.1 (e▸h)
   exact(List.mem_erase_of_ne d).mpr (f y (vp _ h))
  rw[List.length_erase_of_mem g]at this;have:0<b.length:=length_pos_of_mem g;rw[vQ];lia
section
variable{ls:L4}{ps:N1}{gs:L5}{hs:L1}
def yZ(S:Snd ls ps gs hs)(a:hs.length=ps.length)(hi:i<ps.length):hs[i]?=some (hs.getD i []):=by
 rw[vy,vz ⋯];rfl
def j6q(S:Snd ls ps gs hs)(e:hs.length=ps.length)(M:MovOk ls ps hs){i:Nat}{p:Str×Fm}(c:ps[i]?=some p){j:Nat}(d:j∈inP ps p.2):(hs.getD j []).length<=(hs.getD i []).length:=by
 have f:=(vx.mp c).1;have l:=S.w.inP_lt c d;obtain⟨_,b⟩:=M i p _ c (yZ S e f);obtain⟨a,_⟩:=M j _ _ (vz (show j<ps.length by lia)) (yZ S e ⋯);exact len_sub (a.imp λh=>⋯) λk g=>(b k).mpr (.inl ⟨j,d,g⟩)
def j4s(S:Snd ls ps gs hs)(v:hs.length=ps.length)(M:MovOk ls ps hs){i:Nat}{p:Str×Fm}{x:L8}(f:ps[i]?=some p)(e:p.2 = .side x):((inP ps p.2).map λj=>(hs.getD j []).length).sum<=(hs.getD i []).length:=by
 have A:=(vx.mp f).1;obtain⟨_,t⟩:=S.sd i p x f e;obtain⟨_,b⟩:=M i p _ f (yZ S v A);have C:=λj=>S.w.inP_lt (j:=j) f
 have D:∀d:L6,(∀j∈d,j<ps.length)->(∀k:Int,((d.map λj=>hs.getD j []).filter λs=>decide (k∈s)).length<=1)->(d.flatMap λj=>hs.getD j []).Nodup:=λd=>by
  induction d with
  | nil=>exact λ_ _=>.nil
  | cons j r ih=>
   intro l u;rw[flatMap_cons];have E:(hs.getD j []).Nodup:=by
    obtain⟨a,_⟩:=M j _ _ (vz (l j vq)) (yZ S v (l j vq));exact a.imp λh=>⋯
   refine nodup_append.mpr ⟨E,ih (λk c=>l k (vp _ c)) λk=>?_,λa y b z g=>?_⟩
   .have:=u k;rw[uy,uz]at this;split at this
    .rw[vQ]at this;lia
    .exact this
   .subst g;obtain⟨B,o,q⟩:=mem_flatMap.mp z;have:=u a;rw[uy,uz,vd (vG y),vQ]at this;have F:0<((r.map λj=>hs.getD j []).filter λs=>decide (a∈s)).length:=length_pos_of_mem (vP.mpr ⟨vK.mpr ⟨B,o,rfl⟩,vG q⟩);lia
 have n:=D (inP ps p.2) (λj m=>by have:=C j m;lia) t;have w:=len_sub (b:=hs.getD i []) n λk c=>by
  obtain⟨j,m,c⟩:=mem_flatMap.mp c;exact(b k).mpr (.inl ⟨j,m,c⟩)
 rw[List.length_flatMap]at w;exact w
theorem j1T{a:Type}{f:a->Nat}:∀{l:List a},(l.map λx=>c*f x).sum=c*(l.map f).sum
 | []=>rfl
 | x::r=>by rw[uy,uy,sum_cons,sum_cons,j1T,Nat.mul_add]
def j3N(S:Snd ls ps gs hs)(A:hs.length=ps.length)(M:MovOk ls ps hs)(G:∀i,i<ps.length->1<=gs.getD i 0):∀i t,i<ps.length->0<=t->nodes ps gs i t<=9*(i+1)*max 1 (hs.getD i []).length:=by
 intro i
 induction i using Nat.strongRecOn with
 | ind i ih=>
  intro t H z;have W:=S.w;have C:1<=max 1 (hs.getD i []).length:=Nat.le_max_left _ _;by_cases a:gs.getD i 0<=t\/pcB ps gs i=[]
  .rw[Yi a];have:1*1<=9*(i+1)*max 1 (hs.getD i []).length:=Nat.mul_le_mul ⋯ C;lia
  rw[wm W a];obtain⟨p,o⟩:∃p,ps[i]?=some p:=⟨_,vz H⟩
  have c:pcB ps gs i=pcsI gs p.2 (inP ps p.2):=by unfold pcB;rw[o]
  have q:=λj=>W.inP_lt (j:=j) o
  have h:∀k∈inP ps p.2,1<=gs.getD k 0/\gs.getD k 0<=10^60:=λk m=>by
   have:=q k m;exact⟨G k ⋯,(S.gb k ⋯).2⟩
  have I:(inP ps p.2).length<=8:=by unfold inP;rw[vt];exact(W.f i p o).2
  have b:∀k∈inP ps p.2,nodes ps gs k (gs.getD k 0)=1:=λk _=>Yi (.inl (vA _))
  have u:∀k∈inP ps p.2,∀r,0<=r->nodes ps gs k r<=9*i*max 1 (hs.getD i []).length:=λk m r y=>by
   have l:=q k m;have:=ih k l r ⋯ y;have s:=j6q S A M o m;refine vW this (Nat.mul_le_mul ⋯ ?_);exact Nat.max_le.mpr ⟨Nat.le_max_left _ _,vW s (Nat.le_max_right _ _)⟩
  have f:∀X:Nat,X<=8+9*i*max 1 (hs.getD i []).length->1+X<=9*(i+1)*max 1 (hs.getD i []).length:=λX K=>by
   rw[Nat.mul_add,Nat.add_mul];have:9*1*1<=9*1*max 1 (hs.getD i []).length:=Nat.mul_le_mul (vb _) C;lia
  rw[c];cases e:p.2 with
  | again k x=>
   have d:inP ps p.2=[ixOf (nmsOf ps) x]:=by rw[e];rfl
   rw[e]at d;rw[d];have g:ixOf (nmsOf ps) x∈inP ps p.2:=by rw[e,d];exact vq
   refine f _ (vW (j22 (N:=λx=>nodes ps gs x.1 x.2) (h _ g).1 z (b _ g) (u _ g)) ⋯)
  | row xs=>
   rw[e]at h b u I;exact f _ (vW (j1P (N:=λx=>nodes ps gs x.1 x.2) h b u) ⋯)
  | side xs=>
   have F:=j4s S A M o e;obtain⟨E,_⟩:=S.sd i p xs o e;rw[show pcsI gs (.side xs) (inP ps (.side xs))=(inP ps (.side xs)).map λj=>(j,1,0)from rfl];rw[e]at h b F E q;rw[X4 (λk m=>(h k m).1) z,v8];have B:((inP ps (.side xs)).map ((λx=>nodes ps gs x.1 x.2)∘λj=>if gs.getD j 0<=t then(j,gs.getD j 0)else(j,t))).sum<=((inP ps (.side xs)).map λj=>9*i*(hs.getD j []).length).sum:=by
    refine j4C λj w=>?_
    have l:=q j w;have J:1<=(hs.getD j []).length:=length_pos_iff.mpr (E j w);have D:∀r,0<=r->nodes ps gs j r<=9*i*(hs.getD j []).length:=λr y=>by
     have:=ih j l r ⋯ y;rw[Nat.max_eq_right J]at this;exact vW this (Nat.mul_le_mul ⋯ (vb _))
    show nodes ps gs (if gs.getD j 0<=t then(j,gs.getD j 0)else(j,t)).1 (if gs.getD j 0<=t then(j,gs.getD j 0)else(j,t)).2<=_;split
    .exact D _ (by have:=h j w;lia)
    .exact D _ z
   rw[j1T]at B;refine f _ (vW B (vW (Nat.mul_le_mul (vb (9*i)) (vW F (Nat.le_max_right 1 _))) (Nat.le_add_left _ _)))
  | hold n=>
   exact ue (.inr (by rw[c,e];rfl)) a
  | ring x n=>
   exact ue (.inr (by rw[c,e];rfl)) a
  | rise x v n=>
   exact ue (.inr (by rw[c,e];rfl)) a
end
structure Sn(ls:L4)(ps:N1)(gs:L5)(hs:L1):Prop where
 s:Snd ls ps gs hs
 hl:hs.length=ps.length
 m:MovOk ls ps hs
 g1:∀i,i<ps.length->1<=gs.getD i 0
 ne:1<=ps.length
 l18:∀q∈ls,0<=q.2/\q.2<=10^18
 r18:∀(i:Nat) (y x:Str) (v n:Int),ps[i]?=some (y,.rise x v n)->0<=v/\v<=10^18/\1<=n/\n<=10^18
 a18:∀(i:Nat) (y x:Str) (k:Int),ps[i]?=some (y,.again k x)->1<=k/\k<=10^18
section
variable{ls:L4}{ps:N1}{gs:L5}{hs:L1}
def Sn.g(N:Sn ls ps gs hs)(hi:i<ps.length):1<=gs.getD i 0/\gs.getD i 0<=10^60:=⟨N.g1 i hi,(N.s.gb i hi).2⟩
def Sn.j3h(N:Sn ls ps gs hs){i:Nat}(hi:i<ps.length):gs[i]?=some (gs.getD i 0):=by
 rw[vy,vz (by rw[N.s.gl];exact hi)];rfl
def Sn.i8(N:Sn ls ps gs hs){i:Nat}{p:Str×Fm}(a:ps[i]?=some p):(inP ps p.2).length<=8:=by
 unfold inP;rw[vt];exact(N.s.w.f i p a).2
def Sn.pcOk(N:Sn ls ps gs hs){i:Nat}{q:Pc}(h:q∈pcB ps gs i):PcOk gs q:=by
 have u:=j0M N.s.w h;have n:=h;unfold pcB at h;split at h
 case h_2=>exact nomatch h
 rename_i p hp;have o:=(vx.mp hp).1;have g:=N.g (show q.1<ps.length by lia);have t:=N.i8 hp;have a:∀k∈inP ps p.2,0<=gs.getD k 0/\gs.getD k 0<=10^60:=λk d=>by
  have:=N.s.w.inP_lt hp d;have:=N.g (show k<ps.length by lia);lia
 refine⟨by rw[N.s.gl];lia,g.1,g.2,?_⟩;unfold pcsI at h;split at h
 .rename_i k x e;have f:=N.a18 i p.1 x k (by rw[hp,<-e]);split at h
  .exact nomatch h
  .rename_i j r ein;have c:=a j (by rw[ein];exact vq);rcases mem_cons.mp h with rfl | h
   .exact⟨(by show(1:Int)<=1;decide),(by show(1:Int)<=10^18;decide),(by show(0:Int)<=0;decide),(by show(0:Int)<=10^62;decide)⟩
   .split at h
    .rw[vo.mp h];refine⟨?_,?_,c.1,?_⟩
     .show 1<=k-1;lia
     .show k-1<=_;lia
     .show gs.getD j 0<=_;lia
    .exact nomatch h
 .obtain⟨b,l⟩:=yw a h;have m:=(WG h).2;refine⟨⋯,⋯,b,?_⟩;have:(10:Int)^60*((inP ps p.2).length:Int)<=10^60*8:=Int.mul_le_mul_of_nonneg_left ⋯ nofun;lia
 .obtain⟨j,s,rfl⟩:=vK.mp h;exact⟨(by show(1:Int)<=1;decide),(by show(1:Int)<=10^18;decide),(by show(0:Int)<=0;decide),(by show(0:Int)<=10^62;decide)⟩
def j3Y(c:PcOk gs q)(h:q.2.2<=t):0<=ov gs t q/\ov gs t q<=q.2.1/\ov gs t q*gs.getD q.1 0<=t-q.2.2/\0<=ov gs t q*gs.getD q.1 0:=by
 obtain⟨_,e,_,f,_,_⟩:=c;have d:0<=(t-q.2.2)/gs.getD q.1 0:=Int.ediv_nonneg ⋯ ⋯;have b:=Int.ediv_mul_le (t-q.2.2) (show gs.getD q.1 0≠0 by lia);have a:0<=ov gs t q/\ov gs t q<=q.2.1/\ov gs t q<=(t-q.2.2)/gs.getD q.1 0:=by
  unfold ov;split<;>lia
 refine⟨a.1,a.2.1,?_,Int.mul_nonneg a.1 ⋯⟩;exact Int.le_trans (Int.mul_le_mul_of_nonneg_right a.2.2 ⋯) b
def j13(j:∀q∈qs,PcOk gs q)(h:x∈wth gs t qs):0<=x.2:=by
 obtain⟨y,i,d⟩:=mem_flatMap.mp h;obtain⟨q,g,e⟩:=yO i;have o:=j q g;by_cases c:q.2.2<=t
 case neg=>unfold prg1 at e;rw[vc c]at e;cases e
 have b:=j3Y o c;unfold prg1 at e;rw[vd c]at e;have f:=vL e;subst f;unfold wth1 at d;rcases vh.mp d with z | z
 .have z:x∈(if 0<ov gs t q then[(q.1,gs.getD q.1 0)]else[]):=z;split at z
  .rw[vo.mp z];exact Int.le_trans nofun o.2.1
  .exact nomatch z
 .split at z
  .rename_i r a;rw[vo.mp z];have a:(if ov gs t q<q.2.1 then some (t-q.2.2-ov gs t q*gs.getD q.1 0)else none)=some r:=a;split at a
   .cases a;show 0<=t-q.2.2-ov gs t q*gs.getD q.1 0;lia
   .cases a
  .exact nomatch z
def Sn.nodes(N:Sn ls ps gs hs)(a:∀i,i<ps.length->(hs.getD i []).length<=8)(hi:i<ps.length)(b:0<=t):Rm.nodes ps gs i t<=5000:=by
 have:=j3N N.s N.hl N.m N.g1 i t hi b;have c:=N.s.w.p61;have d:=a i hi;have:9*(i+1)*max 1 (hs.getD i []).length<=9*61*8:=Nat.mul_le_mul ⋯ ⋯;lia
end
noncomputable def appH(ls:L4)(ps:N1)(gs:L5)(E:L0)(h:L5)(x:Nat×Int):L5:=
 if gs.getD x.1 0<=x.2 then(E.getD x.1 []).foldl (λh q=>h.set q.1.toNat q.2) h
 else match ps[x.1]? with
  | some (_,.rise y v n)=>h.set (ixOf (nmsOf ls) y) (Rp.ramp (h.getD (ixOf (nmsOf ls) y) 0) v n x.2)
  | _=>h
noncomputable def standH(ls:L4)(ps:N1)(gs:L5)(E:L0)(t:Int):L5:=(reach ps gs (ps.length-1) t).foldl (appH ls ps gs E) (ls.map (·.2))
noncomputable def ringX(ps:N1)(x:Nat×Int):L8:=match ps[x.1]? with
 | some (_,.ring y _)=>if x.2=0 then[y]else[]
 | _=>[]
noncomputable def ringsW(ps:N1)(gs:L5)(t:Int):L8:=(reach ps gs (ps.length-1) t).flatMap (ringX ps)
def All2.app{e:Type}{R:Addr->e->Prop}{as d:L7}{xs ys:List e}(h:All2 R as xs)(k:All2 R d ys):All2 R (as++d) (xs++ys):=by
 have g:=h.1;refine⟨by rw[vn,vn,h.1,k.1],λi a x b c=>?_⟩;by_cases f:i<as.length
 .rw[vB f]at b;rw[vB ⋯]at c;exact h.2 i a x b c
 .rw[vC ⋯]at b;rw[vC ⋯]at c;exact k.2 _ a x b (by rw[g];exact c)
def All2.cons{b:Type}{R:Addr->b->Prop}{a:Addr}{as:L7}{x:b}{xs:List b}(h:R a x)(k:All2 R as xs):All2 R (a::as) (x::xs):=All2.app (as:=[a]) (xs:=[x]) (All2.snoc (as:=[]) (xs:=[]) .nil h) k
theorem All2.rev{b:Type}{R:Addr->b->Prop}:∀{as:L7} {xs:List b},All2 R as xs->All2 R as.reverse xs.reverse
 | [],[],_=>.nil
 | [],_::_,h=>ue h.1 (by simp)
 | _::_,[],h=>ue h.1 (by simp)
 | a::as,x::xs,h=>by
  rw[reverse_cons,reverse_cons];exact All2.app (All2.rev (All2.tail h).2) (All2.snoc (as:=[]) (xs:=[]) .nil (All2.tail h).1)
def All2.last{e:Type}{R:Addr->e->Prop}{as:L7}{xs:List e}{x:e}(h:All2 R as (xs++[x])):∃c a,as=c++[a]/\All2 R c xs/\R a x:=by
 rcases List.eq_nil_or_concat as with rfl | ⟨c,a,rfl⟩
 .have:=h.1;simp at this
 .rw[List.concat_eq_append]at h|-;have g:=h.1;rw[vn,vn]at g;have d:c.length=xs.length:=by simpa using g
  refine⟨c,a,rfl,⟨d,λi b y f j=>?_⟩,?_⟩
  .have k:=(vx.mp f).1;exact h.2 i b y (by rw[vB k];exact f) (by rw[vB ⋯];exact j)
  .exact h.2 c.length a x (by simp) (by rw[d];simp)
def Ku{gs:L5}{n:Nat}(h:1<=n)(e:gs.length=n):atI (gs.map V.int) (-1)=some (.int (gs.getD (n-1) 0)):=by
 have i:ixN n (-1)=some (n-1):=by
  unfold ixN;simp;lia
 unfold atI;rw[vt,e,i];show(gs.map V.int)[n-1]?=_;rw[vv,vy,vz ⋯];rfl
section
variable{ls:L4}{ps:N1}{gs:L5}{hs:L1}
def XZ(W:WfB ls ps):∀{i:Nat} {t:Int} {x:Nat×Int},i<ps.length->x∈reach ps gs i t->x.1<ps.length:=by
 intro i
 induction i using Nat.strongRecOn with
 | ind i ih=>
  intro t x b a;by_cases h:gs.getD i 0<=t\/pcB ps gs i=[]
  .rw[qm h]at a;rw[vo.mp a];exact b
  .rw[Qv W h]at a;obtain⟨y,c,a⟩:=mem_flatMap.mp a;have:=Zp W c;exact ih y.1 this ⋯ a
def j6b(N:Sn ls ps gs hs)(m:E.length=ps.length)(k:EndOk ls ps E):∀{i:Nat},i<ps.length->∀q∈E.getD i [],0<=q.2/\q.2<=10^18:=by
 intro i
 induction i using Nat.strongRecOn with
 | ind i ih=>
  intro f q h;have d:E[i]?=some (E.getD i []):=by rw[vy,vz ⋯];rfl
  obtain⟨p,a⟩:∃p,ps[i]?=some p:=⟨_,vz f⟩
  rcases((k i p _ a d).2 q.1 q.2).mp h with⟨l,j,b,e,c,_⟩ | ⟨x,n,e,_⟩
  .have g:j∈inP ps p.2:=by rw[e];simp
   have:=N.s.w.inP_lt a g;exact ih j this ⋯ _ c
  .have:=N.r18 i p.1 x q.2 n (by rw[a,<-e]);lia
end
inductive Fn where
 | hold (n:Int) | ring (x:Str) (n:Int) | rise (x:Str) (h n:Int) | row (is:L6) | side (is:L6) | again (k:Int) (j:Nat)
noncomputable def Fn.js:Fn->L6
 | .row is=>is
 | .side is=>is
 | .again _ j=>[j]
 | _=>[]
def Ex(p:Addr)(H H':Hp):Prop:=∀c u,c≠p->H c=some u->H' c=some u
def Ex.refl(H:Hp):Ex p H H:=λ_ _ _ h=>h
def Ex.trans{d e f:Hp}(a:Ex p d e)(b:Ex p e f):Ex p d f:=λc u n h=>b c u n (a c u n h)
def Ex.of{H H':Hp}(s:Same H H'):Ex p H H':=λc u _ h=>s c u h
noncomputable def LenN(gs:L5):Fn->Int->Prop
 | .hold n,g=>g=n
 | .ring _ n,g=>g=n
 | .rise _ _ n,g=>g=n
 | .row is,g=>g=(is.map λj=>gs.getD j 0).sum
 | .side is,g=>(∃j∈is,g=gs.getD j 0)/\∀j∈is,gs.getD j 0<=g
 | .again k j,g=>g=k*gs.getD j 0
def MovN(L:L8)(M:L1)(f:Fn)(ks:L5):Prop:=ks.Pairwise (· < ·)/\∀k,k∈ks↔(∃j∈f.js,k∈M.getD j [])\/∃(x:Str) (h n:Int) (i:Nat),f = .rise x h n/\L[i]?=some x/\k=(i:Int)
def ApartN(M:L1)(is:L6):Prop:=(∀j∈is,M.getD j []≠[])/\is.Pairwise λa b=>∀k∈M.getD a [],¬k∈M.getD b []
noncomputable def PreN(L:L8)(M:L1)(n:Nat):Fn->Prop
 | .hold m=>1<=m/\m<=10^18
 | .ring x m=>1<=m/\m<=10^18/\Ws.isW x=true
 | .rise x h m=>(∃i:Nat,L[i]?=some x)/\0<=h/\h<=10^18/\1<=m/\m<=10^18
 | .row is=>is≠[]/\is.length<=8/\∀j∈is,j<n
 | .side is=>2<=is.length/\is.length<=8/\(∀j∈is,j<n)/\ApartN M is
 | .again k j=>1<=k/\k<=10^18/\j<n
def PreN.js(h:PreN L M n f):f.js.length<=8/\∀j∈f.js,j<n:=by
 cases f with
 | row is=>exact h.2
 | side is=>exact⟨h.2.1,h.2.2.1⟩
 | again k j=>exact⟨by show 1<=8;lia,λi a=>by rw[vo.mp a];exact h.2.2⟩
 | hold n=>exact⟨va _,λj h=>nomatch h⟩
 | ring x n=>exact⟨va _,λj h=>nomatch h⟩
 | rise x v n=>exact⟨va _,λj h=>nomatch h⟩
structure DOk(L:L8)(fs:List Fn)(M:L1)(gs:L5):Prop where
 ml:M.length=fs.length
 gl:gs.length=fs.length
 f:∀(i:Nat) (f:Fn),fs[i]?=some f->PreN L M i f/\MovN L M f (M.getD i [])/\LenN gs f (gs.getD i 0)
 g:∀i,i<fs.length->1<=gs.getD i 0/\gs.getD i 0<=10^60
noncomputable def toldF(names:L8):Fn->Fm
 | .hold n=>.hold n
 | .ring x n=>.ring x n
 | .rise x h n=>.rise x h n
 | .row is=>.row (is.map λj=>names.getD j ⟨#[]⟩)
 | .side is=>.side (is.map λj=>names.getD j ⟨#[]⟩)
 | .again k j=>.again k (names.getD j ⟨#[]⟩)
def Qd{a:Type}{xs:List a}{x d:a}{j:Nat}(h:j<xs.length):(xs++[x]).getD j d=xs.getD j d:=by
 rw[vy,vy,vB h]
def zr{a:Type}{xs:List a}{x d:a}:(xs++[x]).getD xs.length d=x:=by
 rw[vy,vC (vb _),Nat.sub_self];rfl
def PreN.ext{L:L8}{M:L1}{ks:L5}{n:Nat}{f:Fn}(q:n<=M.length)(h:PreN L M n f):PreN L (M++[ks]) n f:=by
 cases f with
 | side is=>
  obtain⟨a,b,c,d,e⟩:=h;have g:∀j∈is,(M++[ks]).getD j []=M.getD j []:=λj i=>Qd (by have:=c j i;lia)
  refine⟨a,b,c,λj i=>by rw[g j i];exact d j i,?_⟩;exact(List.pairwise_iff_forall_sublist.mpr λ{x y} l=>by
   have o:x∈is:=l.subset vq;have p:y∈is:=l.subset (vp _ vq);rw[g x o,g y p];exact List.pairwise_iff_forall_sublist.mp e l)
 | hold m=>exact h
 | ring x m=>exact h
 | rise x v m=>exact h
 | row is=>exact h
 | again k j=>exact h
def MovN.ext{L:L8}{M:L1}{ks d:L5}{f:Fn}(c:∀j∈f.js,j<M.length)(h:MovN L M f d):MovN L (M++[ks]) f d:=by
 refine⟨h.1,λk=>(h.2 k).trans ?_⟩;have:(∃j∈f.js,k∈M.getD j [])↔∃j∈f.js,k∈(M++[ks]).getD j []:=by
  constructor
  .rintro⟨j,a,b⟩;exact⟨j,a,by rw[Qd (c j a)];exact b⟩
  .rintro⟨j,a,b⟩;exact⟨j,a,by rw[Qd (c j a)]at b;exact b⟩
 rw[this]
def LenN.ext{gs:L5}{g' g:Int}{f:Fn}(n:∀j∈f.js,j<gs.length)(h:LenN gs f g):LenN (gs++[g']) f g:=by
 have e:∀j∈f.js,(gs++[g']).getD j 0=gs.getD j 0:=λj a=>Qd (n j a)
 cases f with
 | hold m=>exact h
 | ring x m=>exact h
 | rise x v m=>exact h
 | row is=>
  show g=(is.map λj=>(gs++[g']).getD j 0).sum;have d:is.map (λj=>(gs++[g']).getD j 0)=is.map λj=>gs.getD j 0:=map_congr_left e
  rw[d];exact h
 | side is=>
  obtain⟨⟨j,a,i⟩,l⟩:=h;exact⟨⟨j,a,by rw[e j a];exact i⟩,λc b=>by rw[e c b];exact l c b⟩
 | again k j=>
  show g=k*(gs++[g']).getD j 0;rw[e j vq];exact h
noncomputable def drawnPs(names:L8)(fs:List Fn):N1:=(List.range fs.length).map λi=>(names.getD i ⟨#[]⟩,toldF names (fs.getD i (.hold 0)))
section
variable{L:L8}{fs:List Fn}{M:L1}{gs:L5}{names:L8}{ls:L4}
def Qt:(drawnPs names fs).length=fs.length:=by unfold drawnPs;rw[vt,length_range]
def j3a(h:fs[i]?=some f):(drawnPs names fs)[i]?=some (names.getD i ⟨#[]⟩,toldF names f):=by
 unfold drawnPs;have a:=(vx.mp h).1;rw[vv,List.getElem?_range a];have e:fs.getD i (.hold 0)=f:=by rw[vy,h];rfl
 show some (names.getD i ⟨#[]⟩,toldF names (fs.getD i (.hold 0)))=_;rw[e]
def qR(h:(drawnPs names fs)[i]?=some p):∃f,fs[i]?=some f/\p=(names.getD i ⟨#[]⟩,toldF names f):=by
 have b:=(vx.mp h).1;rw[Qt]at b;obtain⟨f,a⟩:∃f,fs[i]?=some f:=⟨_,vz b⟩
 rw[j3a a]at h;exact⟨f,a,(vL h).symm⟩
def Ww(c:fs.length<=names.length):nmsOf (drawnPs names fs)=names.take fs.length:=by
 unfold nmsOf drawnPs;rw[v8];refine ext_getElem (by rw[vt,length_range,vi];lia) λi a b=>?_
 rw[getElem_map,getElem_range,getElem_take];show names.getD i ⟨#[]⟩=_;rw[vy,vz];rfl
def j5P(b:fs.length<=names.length)(a:j<fs.length):(nmsOf (drawnPs names fs))[j]?=some (names.getD j ⟨#[]⟩):=by
 rw[Ww b,List.getElem?_take,vd a,vy,vz ⋯];rfl
def Xr(a:fs.length<=names.length)(b:names.Nodup):(nmsOf (drawnPs names fs)).Nodup:=by
 rw[Ww a];exact b.sublist (take_sublist _ _)
def K1(c:fs.length<=names.length)(d:names.Nodup)(b:∀j∈f.js,j<fs.length):inP (drawnPs names fs) (toldF names f)=f.js:=by
 have e:∀a:L6,(∀j∈a,j<fs.length)->(a.map λj=>names.getD j ⟨#[]⟩).map (ixOf (nmsOf (drawnPs names fs)))=a:=λa h=>by
  rw[v8]
  conv=>rhs;rw[<-List.map_id a]
  exact map_congr_left λj b=>jW (Xr c d) (j5P c (h j b))
 unfold inP;cases f with
 | row a=>exact e a b
 | side a=>exact e a b
 | again k j=>exact e [j] b
 | hold n=>rfl
 | ring x n=>rfl
 | rise x v n=>rfl
def X8(f:Fn):(toldF names f).ns=f.js.map λj=>names.getD j ⟨#[]⟩:=by cases f<;>rfl
def DOk.wf(D:DOk (nmsOf ls) fs M gs)(m:fs.length<=names.length)(t:names.Nodup)(l:(nmsOf ls).Nodup)(s:ls.length<=8)(d:fs.length<=61):WfB ls (drawnPs names fs):=by
 refine⟨l,s,Xr m t,by rw[Qt];exact d,λi p g=>?_,λi y x h n g=>?_⟩
 .obtain⟨f,c,rfl⟩:=qR g;have u:=(vx.mp c).1;obtain⟨a,_⟩:=D.f i f c;have q:=a.js;refine⟨λx o=>?_,?_⟩
  .rw[X8]at o;obtain⟨j,r,rfl⟩:=vK.mp o;have:=q.2 j r;exact⟨j,this,j5P m ⋯⟩
  .rw[X8,vt];exact q.1
 .obtain⟨f,c,e⟩:=qR g;obtain⟨a,_⟩:=D.f i f c;have b:=(Prod.mk.inj e).2;cases f with
  | rise x' h' n'=>
   have:x=x':=by injection b
   subst this;exact a.1
  | hold n=>cases b
  | ring x n=>cases b
  | row is=>cases b
  | side is=>cases b
  | again k j=>cases b
def DOk.mov(D:DOk (nmsOf ls) fs M gs)(o:fs.length<=names.length)(t:names.Nodup)(b:(nmsOf ls).Nodup):MovOk ls (drawnPs names fs) M:=by
 intro i p s q m;obtain⟨f,g,rfl⟩:=qR q;have u:=(vx.mp g).1;obtain⟨c,d,_⟩:=D.f i f g;have r:=c.js.2;have l:M.getD i []=s:=by rw[vy,m];rfl
 rw[l]at d;refine⟨d.1,λk=>(d.2 k).trans ?_⟩;rw[K1 o t λj a=>by have:=r j a;lia];refine⟨λh=>h.imp id ?_,λh=>h.imp id ?_⟩
 .rintro⟨x,v,n,j,rfl,a,rfl⟩;exact⟨x,v,n,rfl,by rw[jW b a]⟩
 .rintro⟨x,v,n,e,rfl⟩;cases f with
  | rise x' h' n'=>
   have:x'=x:=by injection e
   subst this;obtain⟨j,a⟩:=c.1;exact⟨x',h',n',j,rfl,a,by rw[jW b a]⟩
  | hold n=>cases e
  | ring x n=>cases e
  | row is=>cases e
  | side is=>cases e
  | again k j=>cases e
def j5c{M c:L1}(W:WfB ls ps)(h:MovOk ls ps M)(h':MovOk ls ps c)(l:M.length=ps.length)(r:c.length=ps.length):∀i,i<ps.length->c.getD i []=M.getD i []:=by
 intro i
 induction i using Nat.strongRecOn with
 | ind i ih=>
  intro q;have e:ps[i]?=some ps[i]:=vz q;have p:M[i]?=some (M.getD i []):=by rw[vy,vz ⋯];rfl
  have f:c[i]?=some (c.getD i []):=by rw[vy,vz ⋯];rfl
  obtain⟨a,b⟩:=h i _ _ e p;obtain⟨n,o⟩:=h' i _ _ e f;refine Xg n a λk=>(o k).trans (Iff.trans ?_ (b k).symm)
  have m:(∃j∈inP ps (ps[i]).2,k∈c.getD j [])↔∃j∈inP ps (ps[i]).2,k∈M.getD j []:=by
   constructor
   .rintro⟨j,d,g⟩;have:=W.inP_lt e d;exact⟨j,d,by rw[<-ih j this ⋯];exact g⟩
   .rintro⟨j,d,g⟩;have:=W.inP_lt e d;exact⟨j,d,by rw[ih j this ⋯];exact g⟩
  rw[m]
def DOk.sn(D:DOk (nmsOf ls) fs M gs)(C:fs.length<=names.length)(G:names.Nodup)(B:(nmsOf ls).Nodup)(X:ls.length<=8)(J:fs.length<=61)(f1:1<=fs.length)(Y:∀q∈ls,0<=q.2/\q.2<=10^18):Sn ls (drawnPs names fs) gs M:=by
 have W:=D.wf C G B X J;have O:=D.mov C G B;have dl:(drawnPs names fs).length=fs.length:=Qt;have ml:=D.ml;have gl:=D.gl;refine⟨⟨W,⋯,λi w=>?_,λZ T K i w=>j5c W O K ⋯ T i w,λi p t=>?_,λi p qs t e=>?_⟩,⋯,O,λi w=>(D.g i ⋯).1,⋯,Y,λi y x v n t=>?_,λi y x k t=>?_⟩
 .have:=D.g i ⋯;lia
 .obtain⟨f,m,rfl⟩:=qR t;have w:=(vx.mp m).1;obtain⟨d,_,u⟩:=D.f i f m;have o:=d.js.2;rw[show inP (drawnPs names fs) (names.getD i ⟨#[]⟩,toldF names f).2=f.js from K1 C G λj A=>by have:=o j A;lia];cases f with
  | hold n=>exact⟨trivial,λg h=>Eq.trans h (Eq.symm u)⟩
  | ring x n=>exact⟨trivial,λg h=>Eq.trans h (Eq.symm u)⟩
  | rise x v n=>exact⟨trivial,λg h=>Eq.trans h (Eq.symm u)⟩
  | row is=>exact⟨trivial,λg h=>Eq.trans h (Eq.symm u)⟩
  | side is=>
   refine⟨λz=>?_,λg h=>?_⟩
   .have p2:=d.1;have:is.length=0:=by rw[<-vt (f:=λj=>gs.getD j 0)];exact congrArg List.length z
    lia
   .obtain⟨Q,R⟩:=h;obtain⟨j,A,rfl⟩:=vK.mp Q;obtain⟨⟨E,s,e'⟩,U⟩:=u;have a1:=U j A;have a2:=R (gs.getD E 0) (vK.mpr ⟨E,s,rfl⟩);lia
  | again k j=>
   have P:=D.g j (by have:=o j vq;lia);refine⟨⟨gs.getD j 0,[],rfl,Int.le_trans nofun d.1,d.2.1,⋯,P.2⟩,λg h=>?_⟩;obtain⟨y,S,rfl⟩:=h;cases S;exact Eq.symm u
 .obtain⟨f,m,rfl⟩:=qR t;have w:=(vx.mp m).1;obtain⟨d,_,_⟩:=D.f i f m;have o:=d.js.2;rw[show inP (drawnPs names fs) (names.getD i ⟨#[]⟩,toldF names f).2=f.js from K1 C G λj A=>by have:=o j A;lia];cases f with
  | side is=>
   obtain⟨_,_,_,H,I⟩:=d;refine⟨H,λk=>?_⟩;have N:∀o:L6,o.Pairwise (λa b=>∀k∈M.getD a [],¬k∈M.getD b [])->((o.map λj=>M.getD j []).filter λF=>decide (k∈F)).length<=1:=λo=>by
    induction o with
    | nil=>exact λ_=>va _
    | cons j r ih=>
     intro h;rw[pairwise_cons]at h;rw[uy,uz];split
     .rename_i c;have e:(r.map λj=>M.getD j []).filter (λF=>decide (k∈F))=[]:=by
       rw[List.filter_eq_nil_iff];intro F L;obtain⟨E,s,rfl⟩:=vK.mp L;have:=h.1 E s k (of_decide_eq_true c);simpa using this
      rw[e];exact vb _
     .exact ih h.2
   exact N is I
  | hold n=>cases e
  | ring x n=>cases e
  | rise x v n=>cases e
  | row is=>cases e
  | again k j=>cases e
 .obtain⟨f,m,e⟩:=qR t;obtain⟨d,_⟩:=D.f i f m;have l:=(Prod.mk.inj e).2;cases f with
  | rise x' K n'=>
   injection l with e3 e4 e5;subst e3 e4 e5;exact d.2
  | hold n=>cases l
  | ring x n=>cases l
  | row is=>cases l
  | side is=>cases l
  | again k j=>cases l
 .obtain⟨f,m,e⟩:=qR t;obtain⟨d,_⟩:=D.f i f m;have l:=(Prod.mk.inj e).2;cases f with
  | again k' j=>
   injection l with e3 e4;subst e3;exact⟨d.1,d.2.1⟩
  | rise x' K n'=>cases l
  | hold n=>cases l
  | ring x n=>cases l
  | row is=>cases l
  | side is=>cases l
end
end Rm
namespace L2
open PySem PySem.Spec PySem.W PyProof.Rows
theorem j1V:∀{ys:N2} {us:L9},us.length=ys.length->(∀(j:Nat) (u:Value),us[j]?=some u->∃y,ys[j]?=some y/\RelV y u)->Vals ys us
 | [],[],_,_=>.nil
 | [],_::_,h,_=>by simp at h
 | _::_,[],h,_=>by simp at h
 | y::ys,u::us,h,q=>by
  obtain⟨b,e,r⟩:=q 0 u rfl;simp only[List.getElem?_cons_zero,Option.some.injEq]at e;subst e;exact .cons r (j1V (by simpa using h) λj u a=>by simpa using q (j+1) u (by simpa using a))
section
variable{X:Cx}
end
open PySem PySem.Spec PyProof.Rows
section
variable{prog:Program}{w:World}{A:Around}{E:Value->Shared->Prop}{s:Shared}
end
def j12{P:Nat->Value->Prop}:∀{xs:N2} {us:L9},us.length=xs.length->(∀(i:Nat) v,us[i]?=some v->P i v)->(∀(i:Nat) (v:Value) (x:V),P i v->xs[i]?=some x->RelV x v)->Vals xs us:=by
 intro xs
 induction xs generalizing P with
 | nil=>
  intro us h _ _;rw[List.length_eq_zero_iff.mp h];exact .nil
 | cons x r ih=>
  intro us h a b;cases us with
  | nil=>exact ue h (by simp)
  | cons u us=>
   refine .cons (b 0 u x (a 0 u rfl) rfl) (ih (P:=λi v=>P (i+1) v) (by simpa using h) (λi v e=>a (i+1) v (by simpa using e)) λi v y p e=>b (i+1) v y p (by simpa using e))
def tLR(ta:TA):TE:=λσ H Q=>ta σ H λvs H1=>∃n:Nat,vs=[.int (n:Nat)]/\n<=10^6/\∀p,H1 p=none->Q (.ref p) (upd H1 p (.lst ((List.range n).map λu:Nat=>V.int (u:Nat))))
def j6Y{a:TA}{b:St}{H:Hp}{Q:VK}(h:a b H λvs H1=>∃n:Nat,vs=[.int (n:Nat)]/\n<=10^6/\∀p,H1 p=none->Q (.ref p) (upd H1 p (.lst ((List.range n).map λu:Nat=>V.int (u:Nat))))):tLR a b H Q:=h
def j0N{X:Cx}{a:Expr}{K:TA}{p C D c:Pos}(N:X.calm=true)(r:Gl X "list")(z:X.mg "list"= none)(w:Gl X "range")(A:X.mg "range"= none)(M:PA X [a] K)
  (g:starEach [.Call (.Name "range" C) [a] [] c] X.env=[(false,eval (.Call (.Name "range" C) [a] [] c) X.env)]:=by rfl)
  (R:starEach [a] X.env=[(false,eval a X.env)]:=by rfl) :
  PE X (.Call (.Name "list" p) [.Call (.Name "range" C) [a] [] c] [] D) (tLR K):=by
 intro j s σ H Q I h;refine wpAny_Call_Name_kw (Zf I r z yI ?_);refine PyProof.Rows.callWith_type1 ?_ g rfl;rw[g];refine Calls.spliced_cons ?_;refine Call_ (Zf I w A boot_range (PyProof.Rows.callWith_type1 (thn (M c j s σ H _ I h) λus l z_=>?_) R rfl));obtain⟨vs,H1,m,W,U⟩:=z_;obtain⟨n,rfl,hn,q⟩:=U;obtain⟨u,rfl,t,rfl⟩:=vals1 W;refine call_range_1 ?_;refine Calls.spliced_nil ?_;have T:Builtin.Range.rangeSize 0 (n:Int) 1=((n:Nat):Int):=by rw[rangeSize_one];split<;>lia
 have sl:(10^6:Nat)<=2^24:=by decide
 refine call_list_range (n:=n) (m.ok.hd N) (IsRange.new ..) (small_one ⋯ ⋯ ⋯ ⋯) T ⋯ λE Y f L S e d=>?_
 have B:∀b o,l.heap.get? b=some o->E.get? b=some o:=λb o e=>S b o (vJ _ e)
 have J:l.heap.objs.size<=(l.heap.push {cls:=.type "range",data:=.fields #[.int 0 l.toks,.int n t,.int 1 (l.toks+1)]}).objs.size:=by rw[Heap.size_push];exact Nat.le_succ _
 have Z:Vals ((List.range n).map λu:Nat=>V.int (u:Nat)) f.toList:=by
  refine j12 (P:=λi v=>∃t,v=Value.int (0+(i:Int)*1) t) (by rw[Array.length_toList,d.1,vt,length_range]) (λi v e=>d.2 i v (by simpa using e)) λi v x O F=>?_
  rw[vv]at F;obtain⟨k,y,rfl⟩:=vg.mp F;obtain⟨t,rfl⟩:=O;have G:=(vx.mp y).1;rw[length_range]at G;rw[List.getElem?_range G]at y;cases y;exact⟨t,by simp⟩
 have sz:(10^6:Nat)<=sizeLine:=by decide
 refine⟨.ref _,_,m.laid (t':=Y) B J (show ObjOk X.prog X.w _ E _ (.lst ((List.range n).map λu:Nat=>V.int (u:Nat)))from⟨by rw[vt,length_range];lia,f.toList,L,Z,by simpa using e⟩),rfl,q _ (m.hok.fresh J)⟩
noncomputable abbrev NI:=Sum Key (List Key)
noncomputable abbrev NK:=List NI
section
variable(P:Program)(w:World)
inductive ItN(h:Heap):NK->L9->Prop
 | nil:ItN h [] []
 | key {k:Key} {v:Value} {ks:NK} {vs:L9}:keyIs k v=true->ItN h ks vs->ItN h (Sum.inl k::ks) (v::vs)
 | tup {kk:List Key} {b:Addr} {ks:NK} {vs:L9}:IsTupleKey (mixKind P w) h kk b->ItN h ks vs->ItN h (Sum.inr kk::ks) (.ref b::vs)
def IsN(h:Heap)(ks:NK)(a:Addr):Prop:=∃o items n,h.get? a=some o/\o.cls = .type "tuple"/\o.data = .seq items n/\ItN P w h ks items.toList
end
section
variable{P:Program}{w:World}{h h':Heap}
def ItN.inj:∀{x y:NK} {vs:L9},ItN P w h x vs->ItN P w h y vs->x=y
 | _,_,_,.nil,q=>by cases q;rfl
 | _,_,_,.key a r,q=>by
  cases q with
  | key b t=>rw[(mixKind P w).inj _ _ _ a b,r.inj t]
  | tup b t=>exact ue ((mixKind P w).byValue _ _ a) (by simp[carriedByValue])
 | _,_,_,.tup a r,q=>by
  cases q with
  | key b t=>exact ue ((mixKind P w).byValue _ _ b) (by simp[carriedByValue])
  | tup b t=>rw[a.inj b,r.inj t]
def ItN.keeps{d:Addr}{o:Obj}{es ep}(ho:h.get? d=some o)(hd:o.data = .dict es ep)(hs:Heap.SameBut d h h'):∀{x:NK} {vs:L9},ItN P w h x vs->ItN P w h' x vs
 | _,_,.nil=>.nil
 | _,_,.key a r=>.key a (r.keeps ho hd hs)
 | _,_,.tup a r=>.tup (a.keeps ho hd hs) (r.keeps ho hd hs)
noncomputable def itH(w:World)(P:Program):NI->Int
 | .inl k=>keyH w k
 | .inr kk=>tupleKeyHash (mixKind P w) kk
noncomputable def itD:NI->Nat
 | .inl _=>1
 | .inr kk=>kk.length+1
noncomputable def dsN:NK->Nat
 | []=>1
 | x::r=>itD x+dsN r
noncomputable def hashN(w:World)(P:Program)(ks:NK):Int:=reduceHash (Builtin.Tuple.tupleHashOf (ks.map (itH w P)))
def IsN.typeIs{s:Shared}{ks:NK}{a:Addr}(x:IsN P w s.heap ks a):s.TypeIs (.ref a) "tuple":=let ⟨o,_,_,ho,hc,_⟩:=x;⟨o,ho,hc⟩
section
variable{A:Around}{E:Value->Shared->Prop}{s:Shared}
def j54{x:NI}{ks:NK}{v:Value}{vs:L9}{Q:Int->Shared->Prop}(b:A.units<cLine)(i:ItN P w s.heap (x::ks) (v::vs))(h:Q (itH w P x) {s with toks:=s.toks+itD x}):wpAny (model P w) A (pyHash v) Q E s:=by
 cases i with
 | key a r=>exact(mixKind P w).pyHash a h
 | tup a r=>exact wpAny_pyHash_tuple b a h
theorem j1i(x:NI):∀ks:NK,dsN (ks++[x])=dsN ks+itD x
 | []=>by show itD x+1=1+itD x;lia
 | y::r=>by show itD y+dsN (r++[x])=itD y+dsN r+itD x;rw[j1i x r];lia
def j6d{ks:NK}{a:Addr}{Q:Int->Shared->Prop}(C:A.units+60<cLine)(u:IsN P w s.heap ks a)(h:Q (hashN w P ks) {s with toks:=s.toks+dsN ks}):wpAny (model P w) A (pyHash (.ref a)) Q E s:=by
 have T:=u.typeIs;obtain⟨o,m,n,B,_,v,z⟩:=u;have k:A.units<cLine:=⋯
 unfold pyHash
 first | unfold pyHashByItsType | skip
 first | refine ug (wpAny_cRoomFor_or (.inr k) ?_) | skip
 refine ug (wpAny_specialOf T F.slot_tuple_hash.lookup ?_);show wpAny _ _ (if(some (Value.builtin "tuple.__hash__")==some Value.none)=true then _ else _) Q E s;rw[vc (by rw[beq_builtin_none];exact vF)];refine ug (wpAny_specialOf T F.slot_tuple_hash.lookup ?_);show wpAny _ _ (callSpecialIfBoundUnlessNone? (.ref a) "__hash__" _ >>= _) Q E s;refine ug (wpAny_callSpecialIfBoundUnlessNone?_slot T F.slot_tuple_hash (wpAny_call_entry F.slot_tuple_hash T F.entry_tuple_hash ?_ (F.args_tuple_hash_1 _)));show wpAny _ _ (Builtin.Tuple.tupleItemsOf (.ref a) >>= _) _ _ s;refine ug (wpAny_tupleItemsOf B v ?_);refine ug ?_;rw[<-Array.forIn_toList];refine wpAny_forIn_list _ (λd (b:Array Int) q=>∃c left:NK,ks=c++left/\ItN P w s.heap left d/\b.toList=c.map (itH w P)/\q={s with toks:=s.toks+(dsN c-1)}) _ ?_ ?_ _ _ ⟨[],ks,rfl,z,rfl,rfl⟩
 .rintro x d b q ⟨c,left,rfl,g,j,rfl⟩;have p:∀y:NI,1<=itD y:=λy=>by cases y<;>simp[itD]
  have i:∀l:NK,1<=dsN l:=λl=>by
   cases l with
   | nil=>exact vb _
   | cons y r=>exact vW (p y) (Nat.le_add_right _ _)
  cases left with
  | nil=>cases g
  | cons y ks'=>
   have e:ItN P w s.heap ks' d:=by cases g with
    | key a r=>exact r
    | tup a r=>exact r
   have f:s.toks+(dsN c-1)+itD y=s.toks+(dsN (c++[y])-1):=by rw[j1i];have:=i c;lia
   refine ug (j54 (s:={s with toks:=s.toks+(dsN c-1)}) (by show A.units+1<cLine;lia) g ?_)
   first
    | exact uf ⟨c++[y],ks',by simp,e,by simp[j],by rw[<-f]⟩
    | exact ug (uf (uf ⟨c++[y],ks',by simp,e,by simp[j],by rw[<-f]⟩))
 .rintro b q ⟨c,left,rfl,g,j,rfl⟩;cases g;rw[append_nil]at h;have i:1<=dsN c:=by
   cases c with
   | nil=>exact vb _
   | cons y r=>cases y<;>simp only[dsN,itD]<;>lia
  have t:s.toks+(dsN c-1)+1=s.toks+dsN c:=⋯
  show wpAny _ _ (retInt (Builtin.Tuple.tupleHashOf b.toList)) _ _ _;rw[j];refine wpAny_ret_mkInt ?_;show wpAny _ _ (if(decide (-(2:Int)^63<=Builtin.Tuple.tupleHashOf (c.map (itH w P)))&&decide (Builtin.Tuple.tupleHashOf (c.map (itH w P))<2^63))=true then _ else _) Q E _;unfold hashN reduceHash at h;by_cases e:(decide (-(2:Int)^63<=Builtin.Tuple.tupleHashOf (c.map (itH w P)))&&decide (Builtin.Tuple.tupleHashOf (c.map (itH w P))<2^63))=true
  .rw[vd e];rw[vd e]at h;exact uf (by simpa [t]using h)
  .rw[vc e];rw[vc e]at h;exact ug (wpAny_rule (uf (by simpa [t]using h)))
def j6S{x y:NI}{ks ls:NK}{u v:Value}{us vs:L9}(p:A.units+1<cLine)(i:ItN P w s.heap (x::ks) (u::us))(j:ItN P w s.heap (y::ls) (v::vs)){Q:Bool->Shared->Prop}(h:Q (decide (x=y)) s):wpAny (model P w) A (eqBool u v) Q E s:=by
 have f:∀{m:List Key} {b:Addr},IsTupleKey (mixKind P w) s.heap m b->∃c,s.heap.IsTuple b c:=λ⟨o,c,n,g,k,l,_⟩=>⟨c,o,g,k,n,l⟩
 cases i with
 | key a r=>
  cases j with
  | key b t=>
   refine(mixKind P w).eqBool a b ?_;rw[show decide (Sum.inl _=(Sum.inl _:NI))=decide _ from decide_eq_decide.mpr ⟨Sum.inl.inj,congrArg _⟩]at h;exact h
  | tup b t=>
   obtain⟨c,e⟩:=f b;rw[vH (λz=>nomatch z)]at h;rcases Ja a with⟨i,t,rfl,rfl⟩ | ⟨x,t,rfl,rfl⟩
   .exact SeqAt.EqAt.int_tuple i t e ⋯ _ _ _ _ h
   .exact SeqAt.EqAt.str_tuple x t e ⋯ _ _ _ _ h
 | tup a r=>
  obtain⟨c,d⟩:=f a;cases j with
  | key b t=>
   rw[vH (λz=>nomatch z)]at h;rcases Ja b with⟨i,t,rfl,rfl⟩ | ⟨x,t,rfl,rfl⟩
   .exact SeqAt.EqAt.tuple_int i t d ⋯ _ _ _ _ h
   .exact SeqAt.EqAt.tuple_str x t d ⋯ _ _ _ _ h
  | tup b t=>
   refine wpAny_eqBool_tuple ⋯ a b ?_;rw[show decide (Sum.inr _=(Sum.inr _:NI))=decide _ from decide_eq_decide.mpr ⟨Sum.inr.inj,congrArg _⟩]at h;exact h
theorem j3d(c:A.units+1<cLine):∀{x y:NK} {us vs:L9},ItN P w s.heap x us->ItN P w s.heap y vs->∀(j:Nat) (h1:j<us.length) (h2:j<vs.length),∃(a:j<x.length) (b:j<y.length),∀(E:Value->Shared->Prop) (Q:Bool->Shared->Prop),Q (decide (x[j]=y[j])) s->wpAny (model P w) A (eqBool us[j] vs[j]) Q E s
 | [],_,_,_,i,_,j,h1,_=>by cases i;exact ue h1 (Nat.not_lt_zero _)
 | _::_,[],_,_,_,i,j,_,h2=>by cases i;exact ue h2 (Nat.not_lt_zero _)
 | x::xs,y::ys,[],_,i,_,_,_,_=>nomatch i
 | x::xs,y::ys,_::_,[],_,i,_,_,_=>nomatch i
 | x::xs,y::ys,u::us,v::vs,i,k,0,_,_=>⟨Nat.succ_pos _,Nat.succ_pos _,λE Q h=>j6S c i k h⟩
 | x::xs,y::ys,u::us,v::vs,i,k,j+1,h1,h2=>by
  have d:ItN P w s.heap xs us:=by cases i with
   | key _ r=>exact r
   | tup _ r=>exact r
  have e:ItN P w s.heap ys vs:=by cases k with
   | key _ r=>exact r
   | tup _ r=>exact r
  obtain⟨a,b,q⟩:=j3d c d e j (Nat.lt_of_succ_lt_succ h1) (Nat.lt_of_succ_lt_succ h2);exact⟨Nat.succ_lt_succ a,Nat.succ_lt_succ b,λE Q h=>q E Q h⟩
def ItN.length:∀{x:NK} {vs:L9},ItN P w h x vs->x.length=vs.length
 | _,_,.nil=>rfl
 | _,_,.key _ r=>by rw[vQ,vQ,r.length]
 | _,_,.tup _ r=>by rw[vQ,vQ,r.length]
def j5X{c:Type}[DecidableEq c]{x y:List c}{e:Nat->Bool}(a:∀j (h1:j<x.length) (h2:j<y.length),e j=decide (x[j]=y[j])):((List.range (min x.length y.length)).all e&&x.length==y.length)=decide (x=y):=by
 by_cases z:x=y
 .subst z;rw[vG rfl,Bool.and_eq_true];refine⟨all_eq_true.mpr λj b=>?_,by simp⟩;have b:=v4.mp b;rw[a j ⋯ ⋯];simp
 .rw[vH z];cases e':((List.range (min x.length y.length)).all e&&x.length==y.length)with
  | false=>rfl
  | true=>
   rw[Bool.and_eq_true]at e';obtain⟨h1,h2⟩:=e';have h2:x.length=y.length:=by simpa using h2
   refine ue (ext_getElem h2 λj d f=>?_) z;have:=all_eq_true.mp h1 j (v4.mpr ⋯);rw[a j d f]at this;exact of_decide_eq_true this
def j73{x y:NK}{a b:Addr}{Q:Bool->Shared->Prop}(hu:A.units+60<cLine)(T:IsN P w s.heap x a)(U:IsN P w s.heap y b)(h:Q (decide (x=y)) s):wpAny (model P w) A (eqBool (.ref a) (.ref b)) Q E s:=by
 by_cases C:a=b
 .subst C;obtain⟨o,c,n,R,_,H,I⟩:=T;obtain⟨o',a0,n',i,_,f,N⟩:=U;rw[R]at i;cases i;rw[H]at f;cases f;rw[I.inj N,vG rfl]at h;exact SeqAt.EqAt.same _ P w E Q h
 .have X:=T.typeIs;have Y:=U.typeIs;obtain⟨⟨_,oa,_,sa⟩,c,n,R,Z,H,I⟩:=id T;obtain⟨⟨_,ob,_,sb⟩,d,m,i,D,f,p⟩:=id U;simp only at Z H D f;subst Z H D f;unfold eqBool;refine wpAny_holding ?_;refine wpAny_ite_split (λz=>ue (by have:=eq_of_beq z;injection this) C) λ_=>?_
  have lx:x.length=c.size:=I.length.trans Array.length_toList;have ly:y.length=d.size:=p.length.trans Array.length_toList
  let e:Nat->Bool:=λj=>decide (x[j]?=y[j]?)
  have J:((List.range (min c.size d.size)).all e&&c.size==d.size)=decide (x=y):=by
   rw[<-lx,<-ly];refine j5X λj K L=>?_
   show decide (x[j]?=y[j]?)=_;rw[vz K,vz L];exact decide_eq_decide.mpr ⟨vL,congrArg _⟩
  refine ug (wpAny_richCompare_same_room (op:=.Eq) X Y F.slot_tuple_eq (wpAny_call_entry F.slot_tuple_eq X F.entry_tuple_eq ?_ (F.args_tuple_eq_2 _ _)) ⋯);show wpAny _ _ (isInstance (.ref b) (.type "tuple") >>= _) _ _ s;refine ug (wpAny_isInstance Y isSubtype_tuple_tuple ?_);simp only[Bool.not_true,Bool.false_eq_true,if_false];refine ug (wpAny_tupleItemsOf R rfl ?_);refine ug (wpAny_tupleItemsOf i rfl ?_);refine ug ?_;refine wpAny_forIn_list _ (λl r W=>r.1=none/\W=s/\∃k,l=(List.zip c.toList d.toList).drop k/\∀j,j<k->e j=true) _ ?_ ?_ _ _ ⟨rfl,rfl,0,rfl,λj p=>ue p (Nat.not_lt_zero _)⟩
  .rintro⟨u,v⟩ l r W ⟨S,rfl,k,t,O⟩;have G:k<(List.zip c.toList d.toList).length:=by
    rcases Nat.lt_or_ge k (List.zip c.toList d.toList).length with g | g
    .exact g
    .rw[List.drop_eq_nil_of_le g]at t;cases t
   rw[drop_eq_getElem_cons G]at t;injection t with hz1 hz2;rw[length_zip]at G;have l1:k<c.toList.length:=⋯
   have l2:k<d.toList.length:=⋯
   rw[List.getElem_zip]at hz1;injection hz1 with eu ev;obtain⟨K,L,q⟩:=j3d (A:=A.in1) (by show A.units+1+1<cLine;lia) I p k l1 l2;have ek:e k=decide (x[k]=y[k]):=by
    show decide (x[k]?=y[k]?)=_;rw[vz K,vz L];exact decide_eq_decide.mpr ⟨vL,congrArg _⟩
   rw[eu,ev];refine ug (q _ _ ?_);by_cases z:x[k]=y[k]
   .rw[vG z];simp only[Bool.not_true,Bool.false_eq_true,if_false];refine uf ⟨rfl,rfl,k+1,hz2,λj p=>?_⟩;rcases Nat.lt_or_ge j k with g | g
    .exact O j g
    .have:j=k:=⋯
     subst this;rw[ek,vG z]
   .rw[vH z];simp only[Bool.not_false,if_true];have hf:decide (x=y)=false:=vH λg=>z (by subst g;rfl)
    rw[hf]at h;exact ug (uf (uf (uf ⟨_,rfl,(λe=>nomatch e),wpAny_truthy_bool h⟩)))
  .rintro⟨r1,r2⟩ W ⟨S,rfl,k,t,O⟩;simp only at S;subst S;have M:(List.zip c.toList d.toList).length<=k:=by
    rcases Nat.lt_or_ge k (List.zip c.toList d.toList).length with g | g
    .rw[drop_eq_getElem_cons g]at t;cases t
    .exact g
   rw[length_zip,Array.length_toList,Array.length_toList]at M;have B:(c.size==d.size)=decide (x=y):=by
    rw[<-J,all_eq_true.mpr λj p=>O j (by have:=v4.mp p;lia),Bool.true_and]
   refine uf ⟨_,rfl,(λe=>nomatch e),wpAny_truthy_bool ?_⟩;rw[B];exact h
def j2C{p:List Key}{b:Addr}{n:Nat}{Q:Bool->Shared->Prop}(i:IsTupleKey (mixKind P w) s.heap p b)(h:Q true s):wpAny (model P w) A (eqIsQuiet (n+1) (.ref b)) Q E s:=by
 have T:=i.typeIs;obtain⟨o,d,m,l,_,j,k⟩:=i;unfold eqIsQuiet;refine ug (wpAny_specialOf T F.slot_tuple_eq.lookup ?_);show wpAny _ _ (isInstance (.ref b) (.type "tuple") >>= _) _ _ s;refine ug (wpAny_isInstance T isSubtype_tuple_tuple ?_);simp only[Bool.not_true,Bool.false_eq_true,if_false];refine ug (wpAny_seqItems l j ?_);refine ug ?_;show wpAny _ _ (forIn d _ _) _ _ s;rw[<-Array.forIn_toList];refine wpAny_forIn_list _ (λc r g=>r.1=none/\g=s/\∀v∈c,carriedByValue v=true) _ ?_ ?_ _ _ ⟨rfl,rfl,k.byValue⟩
 .rintro v c r g ⟨e,rfl,a⟩;rw[eqIsQuiet_byValue _ (a v vq)];refine ug (uf ?_);simp only[Bool.not_true,Bool.false_eq_true,if_false];exact uf ⟨rfl,rfl,λu f=>a u (vp _ f)⟩
 .rintro⟨q,t⟩ g ⟨e,rfl,_⟩;simp only at e;subst e;exact uf h
def j5v{ks:NK}{a:Addr}{Q:Bool->Shared->Prop}(f:IsN P w s.heap ks a)(h:Q true s):wpAny (model P w) A (eqIsQuiet 8 (.ref a)) Q E s:=by
 have T:=f.typeIs;obtain⟨o,c,m,l,_,i,j⟩:=f;unfold eqIsQuiet;refine ug (wpAny_specialOf T F.slot_tuple_eq.lookup ?_);show wpAny _ _ (isInstance (.ref a) (.type "tuple") >>= _) _ _ s;refine ug (wpAny_isInstance T isSubtype_tuple_tuple ?_);simp only[Bool.not_true,Bool.false_eq_true,if_false];refine ug (wpAny_seqItems l i ?_);refine ug ?_;show wpAny _ _ (forIn c _ _) _ _ s;rw[<-Array.forIn_toList];refine wpAny_forIn_list _ (λb r e=>r.1=none/\e=s/\∃g:NK,ItN P w s.heap g b) _ ?_ ?_ _ _ ⟨rfl,rfl,ks,j⟩
 .rintro v b r e ⟨d,rfl,g,k⟩;cases k with
  | key z t=>
   rw[eqIsQuiet_byValue _ ((mixKind P w).byValue _ _ z)];refine ug (uf ?_);simp only[Bool.not_true,Bool.false_eq_true,if_false];exact uf ⟨rfl,rfl,_,t⟩
  | tup z t=>
   refine ug (j2C z ?_);simp only[Bool.not_true,Bool.false_eq_true,if_false];exact uf ⟨rfl,rfl,_,t⟩
 .rintro⟨n,p⟩ e ⟨d,rfl,_⟩;simp only at d;subst d;exact uf h
end
noncomputable def nestKind(P:Program)(w:World):HeapKind P w NK where
 is:=IsN P w
 hash:=hashN w P
 draws:=dsN
 room:=λA=>A.units+60<cLine
 inj:=λhx hy=>by
  obtain⟨o,its,n,ho,_,hd,hi⟩:=hx;obtain⟨o',its',n',ho',_,hd',hi'⟩:=hy;rw[ho]at ho';cases ho';rw[hd]at hd';cases hd';exact hi.inj hi'
 keeps:=λ{h h' k a d o es ep} x ho hd hs=>by
  obtain⟨o',its,n,ho',hc,hd',hi⟩:=x;have ne:a≠d:=λz=>by
   rw[z,ho]at ho';cases ho';rw[hd]at hd';cases hd'
  exact⟨o',its,n,(hs.2 a ne).trans ho',hc,hd',hi.keeps ho hd hs⟩
 pyHash:=λhu hk h=>j6d hu hk h
 eqBool:=λhu hx hy h=>j73 hu hx hy h
 quiet:=λhk h=>j5v hk h
end
section
variable{prog:Program}{w:World}{K:Type}[DecidableEq K]{knd:HeapKind prog w K}{A:Around}{E:Value->Shared->Prop}{s:Shared}
def j2I{d a:Addr}{xs:List (K×Addr×Value)}{k:K}{v:Value}{Q:Value->Shared->Prop}(q:knd.room A)(b:knd.is s.heap k a)(G:s.heap.DictOfH knd d xs)(hz:xs.length<=sizeLine)
  (C:∀p,atKey xs k=some p->Q p.2 {s with toks:=s.toks+knd.draws k})
  (D:atKey xs k=none->∀h',h'.DictOfH knd d (xs++[(k,a,v)])->Heap.SameBut d s.heap h'->Q v {s with heap:=h',toks:=s.toks+knd.draws k}) :
  wpAny (model prog w) A (dictSetDefault d (.ref a) v) Q E s:=by
 obtain⟨o,B,u,g,F,c,l,h,m⟩:=G;have H:=size_of_entries l;unfold dictSetDefault
 try with_reducible refine wpAny_holding ?_
 refine ug (knd.pyHash q b ?_);refine ug (wpAny_dictFind_heap (s:={s with toks:=s.toks+knd.draws k}) q b g c l h m (λt=>?_) λj p n=>?_)
 .have i:k∉xs.map (·.1):=not_mem_keys_of_get t;refine ug (wpAny_rule (ug (wpAny_updateDictKeys (hz:=⋯) (s:={s with toks:=s.toks+knd.draws k}) g c (uf (D (atKey_none_of_get t) _ ⟨_,_,u+1,Heap.get?_update_self _ g (Obj.isFreed_of_dict (Obj.data_mapDictKeys c _)),F.mapDictKeys _,Obj.data_mapDictKeys c _,?_,λx f=>?_,?_⟩ (Heap.SameBut.update ..))))))
  .simp[l,entryOfKey]
  .rcases vh.mp f with f | f
   .exact knd.keeps (h x f) g c (Heap.SameBut.update ..)
   .rw[vo.mp f];exact knd.keeps b g c (Heap.SameBut.update ..)
  .rw[vj,nodup_append];refine⟨m,by simp,λx f y r z=>?_⟩;simp only[map_cons,map_nil,mem_singleton]at r;exact i (r▸z▸f)
 .refine ug (wpAny_dictEntries (s:={s with toks:=s.toks+knd.draws k}) g c ?_);have e:B[j]?=some (entryOfKey knd (k,p)):=by rw[entry_at l j,n];rfl
  rw[e];exact ug (wpAny_rule (uf (C p (atKey_of_get m n))))
def j0Z(d a:Addr)(i:(d==sysModules)=false)(v:Value) :
  MeetsIn prog w (Builtin.«dict.setdefault» ⟨[.ref d,.ref a,v],[]⟩) (λA R s=>knd.room A.in1/\∃k xs,knd.is s.heap k a/\s.heap.DictOfH knd d xs/\xs.length<=sizeLine/\
   (∀p,atKey xs k=some p->R (.ok (.ret p.2)) {s with toks:=s.toks+knd.draws k})/\
   (atKey xs k=none->∀h',h'.DictOfH knd d (xs++[(k,a,v)])->Heap.SameBut d s.heap h'->R (.ok (.ret v)) {s with heap:=h',toks:=s.toks+knd.draws k})):=
 .of_wp λA R s ⟨m,k,xs,b,f,n,g,h⟩=>by
  unfold Builtin.«dict.setdefault»;refine ug ?_;unfold Builtin.Dict.keyAndDefault;refine ug (wpAny_notOrdered_dict f.typeIs ?_);show wpAny _ _ (pure (d,Value.ref a,some v)) _ _ s;refine uf ?_;show wpAny _ _ (if(d==sysModules)=true then _ else(dictSetDefault d (.ref a) v >>= _)) _ _ s;rw[vc (by rw[i];exact vF)];exact ug (j2I m b f n (λp l=>uf ⟨p.2,rfl,g p l⟩) λj h' c e=>uf ⟨v,rfl,h j h' c e⟩)
def RawD(h:Heap)(d:Addr)(es:Array DictEntry)(ep:Nat):Prop:=∃o,h.get? d=some o/\o.ExactDict/\o.data = .dict es ep
def RawD.typeIs{d:Addr}{es:Array DictEntry}{ep:Nat}(x:RawD s.heap d es ep):s.TypeIs (.ref d) "dict":=let ⟨o,ho,hc,_⟩:=x;⟨o,ho,hc.1⟩
def j4j{d:Addr}{es:Array DictEntry}{ep:Nat}{Q:Value->Shared->Prop}(f:(d==sysModules)=false)(b:RawD s.heap d es ep)
  (e:Q (.ref s.heap.objs.size) {s with heap:=s.heap.push {cls:=.type "dict_keyiterator",data:=.fields #[.ref d,.int 0 0,.int es.size 0,.int ep 0]}}) :
  wpAny (model prog w) A (pyIter (.ref d)) Q E s:=by
 have T:=b.typeIs;obtain⟨o,c,g,a⟩:=b;refine wpAny_pyIter_slot T F.slot_dict_iter (wpAny_call_entry F.slot_dict_iter T F.entry_dict_iter ?_ (F.args_dict_iter_1 _));unfold Builtin.«dict.__iter__»;refine ug ?_;unfold Builtin.Dict.dictSlotNone;refine ug (wpAny_notOrdered_dict T ?_);show wpAny _ _ (pure (Value.ref d)) _ _ s;refine uf ?_;show wpAny _ _ (Builtin.Dict.showsAll d >>= _) _ _ s;unfold Builtin.Dict.showsAll;rw[vc (by rw[f];exact vF)];refine ug (uf ?_);refine ug (wpAny_dictEntries c a ?_);refine ug (wpAny_dictEpoch c a ?_);refine ug (wpAny_newObj_type (uf ⟨_,rfl,"dict_keyiterator",_,⟨_,Heap.get?_push_size _ rfl,rfl⟩,F.slot_dict_keyiterator_next.lookup,?_⟩));simpa [rawInt]using e
def j4i{it d:Addr}{i ep:Nat}{es:Array DictEntry}{e:DictEntry}{Q:Option Value->Shared->Prop}(a:s.heap.IsKeyIter it d i es.size ep)(n:RawD s.heap d es ep)(p:es[i]?=some e)
  (k:∀h',h'.IsKeyIter it d (i+1) es.size ep->Heap.SameBut it s.heap h'->Q (some e.key) {s with heap:=h'}):wpAny (model prog w) A (pyNext (.ref it)) Q E s:=by
 obtain⟨o,j,l,h⟩:=id a;obtain⟨q,f,m,c⟩:=n;unfold pyNext;refine ug (wpAny_attempt (wpAny_callSpecial?_slot (name:=Str.ofString "__next__") a.typeIs F.slot_dict_keyiterator_next (wpAny_call_entry F.slot_dict_keyiterator_next a.typeIs F.entry_dict_keyiterator_next ?_ (F.args_dict_keyiterator_next_1 _))));refine ug (uf ?_);refine ug ?_;refine ug ?_
 first | refine ug (wpAny_typeNameOfWhole_keyiter a.typeIs (uf ?_)) | refine ug (wpAny_typeNameOf_keyiter a.typeIs (uf ?_))
 refine ug (wpAny_fieldsOf j h ?_);have g:Builtin.Dict_items.ownsTuple "dict_keyiterator"= false:=by decide
 simp only[g,Bool.false_eq_true,if_false];show wpAny _ _ (if(Value.ref d==Value.none)=true then _ else _) _ _ s;rw[vc (show¬((Value.ref d==Value.none)=true)from vF)];refine ug (uf (ug (wpAny_dictEntries f c ?_)));rw[vc (by simp)];refine ug (uf (ug (wpAny_dictEpoch f c ?_)));rw[vc (by simp)];refine uf ?_;simp only[show¬((i:Int)<0)from ⋯,if_false,Int.toNat_natCast,p];refine ug ?_
 first | refine ug (wpAny_typeNameOfWhole_keyiter a.typeIs (uf ?_)) | refine ug (wpAny_typeNameOf_keyiter a.typeIs (uf ?_))
 refine ug (wpAny_isOneOf_keyiter a.typeIs ?_);show wpAny _ _ (setField (.ref it) 1 (rawInt ((i:Int)+1)) >>= _) _ _ s;refine ug (wpAny_setField j h (by simp) ?_);have b:(s.heap.update it (Obj.mapFields (·.setIfInBounds 1 (rawInt ((i:Int)+1))))).IsKeyIter it d (i+1) es.size ep:=
  ⟨_,Heap.get?_update_self _ j (Obj.isFreed_of_fields (Obj.data_mapFields h _)),(Obj.cls_mapFields ..).trans l,by rw[Obj.data_mapFields h];simp[rawInt]⟩
 refine ug (wpAny_holding ?_);refine ug (wpAny_isOneOf_keyiter (s:={s with heap:=s.heap.update it (Obj.mapFields (·.setIfInBounds 1 (rawInt ((i:Int)+1))))}) b.typeIs ?_);show wpAny _ _ (pure e.key) _ _ _;exact uf (uf ⟨_,rfl,uf (k _ b (Heap.SameBut.update ..))⟩)
def j5w{it d:Addr}{ep:Nat}{es:Array DictEntry}{Q:Option Value->Shared->Prop}(l:A.handled=none)(c:s.heap.IsKeyIter it d es.size es.size ep)(n:RawD s.heap d es ep)
  (j:∀h',Heap.ExtBut it s.heap h'->Q none {s with heap:=h'}):wpAny (model prog w) A (pyNext (.ref it)) Q E s:=by
 obtain⟨o,i,p,h⟩:=id c;obtain⟨q,f,k,e⟩:=n;unfold pyNext;refine ug (wpAny_attempt (wpAny_callSpecial?_slot (name:=Str.ofString "__next__") c.typeIs F.slot_dict_keyiterator_next (wpAny_call_entry F.slot_dict_keyiterator_next c.typeIs F.entry_dict_keyiterator_next ?_ (F.args_dict_keyiterator_next_1 _))));refine ug (uf ?_);refine ug ?_;refine ug ?_
 first | refine ug (wpAny_typeNameOfWhole_keyiter c.typeIs (uf ?_)) | refine ug (wpAny_typeNameOf_keyiter c.typeIs (uf ?_))
 refine ug (wpAny_fieldsOf i h ?_);have g:Builtin.Dict_items.ownsTuple "dict_keyiterator"= false:=by decide
 simp only[g,Bool.false_eq_true,if_false];show wpAny _ _ (if(Value.ref d==Value.none)=true then _ else _) _ _ s;rw[vc (show¬((Value.ref d==Value.none)=true)from vF)];refine ug (uf (ug (wpAny_dictEntries f e ?_)));rw[vc (by simp)];refine ug (uf (ug (wpAny_dictEpoch f e ?_)));rw[vc (by simp)];refine uf ?_;simp only[show¬((es.size:Int)<0)from ⋯,if_false,Int.toNat_natCast,Array.getElem?_eq_none (Nat.le_refl es.size)];refine ug ?_
 first | refine ug (wpAny_typeNameOfWhole_keyiter c.typeIs (uf ?_)) | refine ug (wpAny_typeNameOf_keyiter c.typeIs (uf ?_))
 show wpAny _ _ (setField (.ref it) 0 .none >>= _) _ _ s;refine ug (wpAny_setField i h (by simp) ?_);show wpAny _ _ (newExc (.type "StopIteration") [] >>= _) _ _ _;refine ug ?_;simp only[newExc,newTuple];refine ug (wpAny_newObj_type ?_ (by size_fits));refine ug (m:=firstArgMember _ _) (wpAny_of_eq (a:=Value.none) (by first | rfl | (simp only[firstArgMember];rfl)) ?_);refine wpAny_newObj_type ?_ (by size_fits);simp only[raiseNew];refine ug (wpAny_handled ?_);rw[show A.in1.handled=none from l];refine ug (uf (wpAny_throw ?_));refine ug (wpAny_isInstance (T:="StopIteration") (b:=true) ⟨_,Heap.get?_push_size _ rfl,rfl⟩ isSubtype_stop ?_);exact uf (j _ (((Heap.SameBut.update ..).extBut.push _).push _))
def RawD.at'{h h':Heap}{d:Addr}{es:Array DictEntry}{ep:Nat}(x:RawD h d es ep)(e:∀o,h.get? d=some o->h'.get? d=some o):RawD h' d es ep:=let ⟨o,ho,r⟩:=x;⟨o,e _ ho,r⟩
def RawD.lt{h:Heap}{d:Addr}{es:Array DictEntry}{ep:Nat}(x:RawD h d es ep):d<h.objs.size:=let ⟨_,ho,_⟩:=x;vI ho
def j2F(q:A.handled=none)(I d:Addr)(m:d≠I)(es:Array DictEntry)(ep:Nat) :
  Walks prog w A I [I,d] [I] es.size (λi v=>∃e,es[i]?=some e/\v=e.key) (λi h=>h.IsKeyIter I d i es.size ep/\RawD h d es ep) where
 sub:=λb c=>by simp at c;simp[c]
 frame:=λ_ _ _ a p=>⟨a.1.at λo e=>p I (by simp) o e,a.2.at' λo e=>p d (by simp) o e⟩
 item:=λi s Q E n a f=>j4i a.1 a.2 (Array.getElem?_eq_getElem n) λk g j=>
  f _ k s.toks ⟨_,Array.getElem?_eq_getElem n,rfl⟩ ⟨g,a.2.at' λo e=>j.extBut d o m e⟩ λb o c e=>j.extBut b o (λh=>c (by simp[h])) e
 done:=λs Q E a f=>j5w q a.1 a.2 λk l=>f k s.toks λb o c e=>l b o (λh=>c (by simp[h])) e
 self:=λ_ _ _ _ a f=>wpAny_pyIter_keyiter a.1 f
def j5x{d:Addr}{es:Array DictEntry}{ep:Nat}(lo:(d==sysModules)=false):KdlSrc prog w "dict" d d es.size (λi v=>∃e,es[i]?=some e/\v=e.key) (λh=>RawD h d es ep) where
 type:=λ_ a=>a.typeIs
 there:=λ_ a=>⟨a.lt,a.lt⟩
 keep:=λ_ _ a f=>a.at' λo e=>f d (.inl rfl) o e
 notList:=by decide
 notTuple:=by decide
 hint:=λ_ _ _ _ a b=>kdl_hint_dict a.typeIs b
 iter:=λ_ _ c a=>⟨_,_,(λ_ _ b=>j4j lo a b),j2F c _ d (vE a.lt) es ep,⟨⟨_,Heap.get?_push_size _ rfl,rfl,rfl⟩,a.at' λo e=>vJ _ e⟩⟩
end
inductive NVs(H:Hp):N2->NK->Prop
 | nil:NVs H [] []
 | key {k:Key} {vs:N2} {ks:NK}:NVs H vs ks->NVs H (kV k::vs) (Sum.inl k::ks)
 | tup {b:Addr} {kk:List Key} {vs:N2} {ks:NK}:H b=some (.tup (kk.map kV))->NVs H vs ks->NVs H (.ref b::vs) (Sum.inr kk::ks)
def NAt(H:Hp)(b:Addr)(ks:NK):Prop:=∃vs,H b=some (.tup vs)/\NVs H vs ks
section
variable{P:Program}{w:World}{H:Hp}{h:Heap}
theorem j0u(a:HOk P w H h):∀{vs:N2} {ks:NK} {us:L9},NVs H vs ks->Vals vs us->ItN P w h ks us
 | _,_,_,.nil,r=>by cases r;exact .nil
 | _,_,_,.key t,r=>by
  cases r with
  | cons r1 r2=>exact .key (WC (P:=P) (w:=w) r1) (j0u a t r2)
 | _,_,_,.tup e t,r=>by
  cases r with
  | cons r1 r2=>
   cases r1;exact .tup (wd a e) (j0u a t r2)
def j3j{b:Addr}{ks:NK}(c:HOk P w H h)(x:NAt H b ks):IsN P w h ks b:=by
 obtain⟨i,e,n⟩:=x;obtain⟨_,a,r,o,d,f,m,g⟩:=(show ObjOk P w H h b (.tup i)from c b _ e)
 exact⟨o,a.toArray,m,d,f,g,by simpa using j0u c n r⟩
end
noncomputable abbrev NE:=NK×Addr×V
noncomputable def DNx(P:Program)(w:World)(a:Addr)(xs:List NE):HO:=.ext λh=>xs.length<=sizeLine/\(a==sysModules)=false/\(xs.map (·.1)).Nodup/\∃ys:List (NK×Addr×Value),
 Paired (λ(p:NE) (q:NK×Addr×Value)=>p.1=q.1/\p.2.1=q.2.1/\RelV p.2.2 q.2.2) xs ys/\∃es ep,RawD h a es ep/\es.toList=ys.map (entryOfKey (nestKind P w))
section
variable{P:Program}{w:World}{H:Hp}{h:Heap}{a:Addr}{xs:List NE}
def j37(z:xs.length<=sizeLine)(c:(a==sysModules)=false)(d:(xs.map (·.1)).Nodup){ys:List (NK×Addr×Value)}(r:Paired (λ(p:NE) (q:NK×Addr×Value)=>p.1=q.1/\p.2.1=q.2.1/\RelV p.2.2 q.2.2) xs ys)
  {es:Array DictEntry} {ep:Nat} (b:RawD h a es ep) (e:es.toList=ys.map (entryOfKey (nestKind P w))):ObjOk P w H h a (DNx P w a xs):=by
 refine⟨⟨z,c,d,ys,r,es,ep,b,e⟩,let ⟨o,ho,_⟩:=b;⟨o,ho⟩,?_⟩;rintro f g ⟨z,c,d,ys,r,es,ep,b,e⟩ k;exact⟨z,c,d,ys,r,es,ep,b.at' k,e⟩
def PNE(xs:List NE)(ys:List (NK×Addr×Value)):Prop:=Paired (λ(p:NE) (q:NK×Addr×Value)=>p.1=q.1/\p.2.1=q.2.1/\RelV p.2.2 q.2.2) xs ys
theorem PNE.keys:∀{xs:List NE} {ys:List (NK×Addr×Value)},PNE xs ys->ys.map (·.1)=xs.map (·.1)
 | _,_,.nil=>rfl
 | _,_,.cons r t=>by rw[uy,uy,r.1,PNE.keys t]
def PNE.length{xs:List NE}{ys:List (NK×Addr×Value)}(r:PNE xs ys):xs.length=ys.length:=by
 have:=congrArg List.length r.keys;rw[vt,vt]at this;exact this.symm
theorem PNE.snoc{k:NK}{b:Addr}{v:V}{u:Value}(a:RelV v u):∀{xs:List NE} {ys:List (NK×Addr×Value)},PNE xs ys->PNE (xs++[(k,b,v)]) (ys++[(k,b,u)])
 | _,_,.nil=>.cons ⟨rfl,rfl,a⟩ .nil
 | _,_,.cons r t=>.cons r (PNE.snoc a t)
theorem PNE.all{F:NK->Addr->Prop}:∀{xs:List NE} {ys:List (NK×Addr×Value)},PNE xs ys->(∀p∈xs,F p.1 p.2.1)->∀q∈ys,F q.1 q.2.1
 | _,_,.nil,_=>λq b=>nomatch b
 | _,_,.cons (a:=x) r t,h=>λq b=>by
  rcases mem_cons.mp b with rfl | b
  .have:=h _ vq;rw[r.1,r.2.1]at this;exact this
  .exact PNE.all t (λp c=>h p (vp _ c)) q b
theorem PNE.fnd{k:NK}:∀{xs:List NE} {ys:List (NK×Addr×Value)},PNE xs ys->(∀p,xs.find? (λp=>decide (p.1=k))=some p->∃u,atKey ys k=some (p.2.1,u)/\RelV p.2.2 u)/\(xs.find? (λp=>decide (p.1=k))=none->atKey ys k=none)
 | _,_,.nil=>⟨λp e=>by simp at e,λ_=>rfl⟩
 | _,_,.cons (a:=x) (b:=y) (l₂:=m) r t=>by
  obtain⟨d,f⟩:=PNE.fnd (k:=k) t;by_cases e:x.1=k
  .have c:y.1=k:=r.1▸e;refine⟨λp q=>?_,λq=>?_⟩
   .rw[List.find?_cons,vG e]at q;cases q;refine⟨y.2.2,?_,r.2.2⟩;unfold atKey;rw[List.find?_cons,vG c,r.2.1];rfl
   .rw[List.find?_cons,vG e]at q;cases q
  .have c:¬y.1=k:=r.1▸e;have z:atKey (y::m) k=atKey m k:=by
    unfold atKey;rw[List.find?_cons,vH c]
   refine⟨λp q=>?_,λq=>?_⟩
   .rw[List.find?_cons,vH e]at q;rw[z];exact d p q
   .rw[List.find?_cons,vH e]at q;rw[z];exact f q
end
section
variable{X:Cx}
def tDNewN(P:Program)(w:World):TE:=λ_ H Q=>∀p,H p=none->Q (.ref p) (upd H p (DNx P w p []))
def j41{b:Pos}:PE X (.Dict [] [] b) (tDNewN X.prog X.w):=λc s d H Q I h=>
 wpAny_Dict_empty ⟨.ref s.heap.objs.size,_,I.laid (a:=s.heap.objs.size) (o:=DNx X.prog X.w s.heap.objs.size []) (t':=s.toks) (λ_ _ q=>vJ _ q) (vb _)
  (j37 (va _) (beq_eq_false_iff_ne.mpr (Ne.symm (vE I.big))) nodup_nil .nil (es:=#[]) (ep:=0) ⟨_,Heap.get?_push_size _ rfl,⟨rfl,rfl,rfl⟩,rfl⟩ rfl),rfl,h _ (I.hok.fresh (vb _))⟩
def j4k{P:Program}{w:World}{a:St}{H:Hp}{Q:VK}(h:∀p,H p=none->Q (.ref p) (upd H p (DNx P w p []))):tDNewN P w a H Q:=h
def j1h{b:List (Addr×Obj)}{c:St}{H:Hp}{s:Shared}{a:Addr}{xs:List NE}(I:Inv X b c H s)(e:H a=some (DNx X.prog X.w a xs)):xs.length<=sizeLine/\(a==sysModules)=false/\(xs.map (·.1)).Nodup/\∃ys,PNE xs ys/\∃es ep,RawD s.heap a es ep/\es.toList=ys.map (entryOfKey (nestKind X.prog X.w)):=
 (show ObjOk X.prog X.w H s.heap a (DNx X.prog X.w a xs)from I.hok a _ e).1
def tSetN(P:Program)(w:World)(to:TE)(t:TA):TE:=λσ H Q=>to σ H λx H1=>∃a xs1,x = .ref a/\H1 a=some (DNx P w a xs1)/\t σ H1 λvs H2=>∃(xs:List NE) (b:Addr) (k:NK) (v:V),vs=[.ref b,v]/\H2 a=some (DNx P w a xs)/\(∀p∈xs,NAt H2 p.2.1 p.1)/\NAt H2 b k/\xs.length<sizeLine/\
 (∀p,xs.find? (λp=>decide (p.1=k))=some p->Q p.2.2 H2)/\(xs.find? (λp=>decide (p.1=k))=none->Q v (upd H2 a (DNx P w a (xs++[(k,b,v)]))))
def j5p{o e:Expr}{es:List Expr}{to:TE}{t:TA}{f c:Pos}(hu:X.A.units+64<cLine)(ho:PE X o to)(ha:PA X (e::es) t)
  (i:attributeBase o "setdefault" X.env (eval o X.env)=eval o X.env:=by rfl)
  (y:((backTo c (starEach (e::es) X.env)).all (λx=>!x.1)&&(backToKw c (keywordEach [] X.env)).all (λx=>x.1.isSome)
   && decide ((e::es).length+([]:List Keyword).length+(if([]:List Keyword).isEmpty then 0 else 1)<30))=true:=by rfl)
  (l:(f.endLine==c.line)=true:=by rfl) (hs:starEach (e::es) X.env=(false,eval e X.env)::starEach es X.env:=by rfl) (d:(backTo c (starEach es X.env)).any (·.1)=false:=by rfl) :
  PE X (.Call (.Attribute o "setdefault" f) (e::es) [] c) (tSetN X.prog X.w to t):=by
 intro g s σ H Q I h;refine wpAny_Call_method_late i y l rfl (thn (ho g s σ H _ I h) λv s1 z_=>?_);obtain⟨x,H1,W,r1,a,a2,ex,e1,q1⟩:=z_;subst ex;cases r1;obtain⟨_,_,_,_,_,_,_,C,_⟩:=j1h W e1;refine⟨"dict","dict.setdefault",q7,PySem.F.slot_dict_setdefault,PySem.F.type_dict_setdefault,C.typeIs,λb eb=>?_,?_⟩
 .cases eb;obtain⟨ob,h1,h2,_⟩:=C;exact⟨ob,h1,h2.2.1⟩
 have hA:=ha c g s1 σ H1 _ W q1;rw[hs]at hA|-;refine Calls.callWith_builtin (by show(false||(backTo c (starEach es X.env)).any (·.1))=false;rw[d]<;>rfl) (Calls.evalArgs_plain ?_);refine thn hA λus T z_=>?_;obtain⟨vs,H2,w,r2,U,b,k,v,ev,Y,E,nb,z,f1,f2⟩:=z_
 subst ev;cases r2 with
 | cons rb rr=>
  cases rb;obtain⟨u,rfl,ru⟩:=vals1 rr;obtain⟨z2,hd,hn,ys,r,J,ep,D,he⟩:=j1h w Y;have T2:=D.typeIs;obtain⟨o2,P,K,M⟩:=D;have dd:T.heap.DictOfH (nestKind X.prog X.w) a ys:=⟨o2,J,ep,P,K,M,he,λq hq=>r.all (F:=λk b=>IsN X.prog X.w T.heap k b) (λp n=>j3j w.hok (E p n)) q hq,by rw[r.keys];exact hn⟩
  have ln:=r.length;obtain⟨Z,g2⟩:=r.fnd (k:=k);refine call_meetsIn PySem.F.slot_dict_setdefault T2 PySem.F.entry_dict_setdefault (PySem.F.args_dict_setdefault_3 _ _ _) (j0Z (knd:=nestKind X.prog X.w) a b hd u) ⟨by show X.A.units+1+60<cLine;lia,k,ys,j3j w.hok nb,dd,⋯,λp n=>?_,λno h' G R=>?_⟩
  .cases j:U.find? (λp=>decide (p.1=k))with
   | none=>rw[g2 j]at n;cases n
   | some p'=>
    obtain⟨u',m,S⟩:=Z p' j;rw[m]at n;cases n;exact⟨p'.2.2,H2,w.tok _,S,f1 p' j⟩
  .have j:U.find? (λp=>decide (p.1=k))=none:=by
    cases j:U.find? (λp=>decide (p.1=k))with
    | none=>rfl
    | some p'=>
     obtain⟨u',m,_⟩:=Z p' j;rw[m]at no;cases no
   obtain⟨o3,a1,a0,B,L,N,O,_,A⟩:=G;rw[vj,r.keys]at A;refine⟨v,_,yL (t':=T.toks+_) w (by rw[Y];exact True.intro) R ⟨_,B⟩ (j37 (by rw[vn,vS];lia) hd (by rw[vj];exact A) (r.snoc ru) ⟨o3,B,L,N⟩ O),ru,f2 j⟩
def j5z{P:Program}{w:World}{e:TE}{t:TA}{d:St}{H:Hp}{Q:VK} (h:e d H λx H1=>∃a c,x = .ref a/\H1 a=some (DNx P w a c)/\t d H1 λvs H2=>∃(xs:List NE) (b:Addr) (k:NK) (v:V),vs=[.ref b,v]/\H2 a=some (DNx P w a xs)/\(∀p∈xs,NAt H2 p.2.1 p.1)/\NAt H2 b k/\xs.length<sizeLine/\
 (∀p,xs.find? (λp=>decide (p.1=k))=some p->Q p.2.2 H2)/\(xs.find? (λp=>decide (p.1=k))=none->Q v (upd H2 a (DNx P w a (xs++[(k,b,v)]))))):tSetN P w e t d H Q:=h
def j26:CallR X (.builtin "len") (λxs H Q=>∃a ys,xs=[V.ref a]/\H a=some (DNx X.prog X.w a ys)/\Q (.int ys.length) H):=by
 intro f s E H xs B Q I r h;obtain⟨a,ys,rfl,i,q⟩:=h;obtain⟨u,rfl,w⟩:=vals1 r;cases w;obtain⟨z,l,A,C,v,j,x,c,n⟩:=j1h I i;have T:=c.typeIs;obtain⟨o,p,y,b⟩:=c;have t:j.size=ys.length:=by rw[<-Array.length_toList,n,vt,v.length]
 have D:=sizeLine_eq;refine Calls.call_function_entry kind_len plain_len entry_len (args_len1 _) ?_;unfold Builtin.«len»;refine ug (m:=oneArg "len" _) (uf ?_);have d:wpAny (model X.prog X.w) X.A.in1 (callSpecial? (.ref a) (Str.ofString "__len__")) (λr g=>r=some (.int ys.length s.toks)/\g={s with toks:=s.toks+1}) X.xe s:=by
  refine wpAny_callSpecial?_slot (name:=Str.ofString "__len__") T F.slot_dict_len (wpAny_call_entry F.slot_dict_len T F.entry_dict_len ?_ (F.args_dict_len_1 _));show wpAny _ _ (dictSize a >>= _) _ _ s;unfold dictSize;refine ug (ug (wpAny_dictEntries p b (uf ?_)));show wpAny _ _ (Builtin.Dict.pendingCount a >>= _) _ _ s;refine ug (wpAny_pendingCount_other l ?_);refine wpAny_ret_mkInt ?_;rw[Nat.add_zero,t];exact⟨rfl,rfl⟩
 refine ug (wpAny_mono d (λr g k=>?_) λ_ _ e=>e);obtain⟨rfl,rfl⟩:=k;show wpAny _ _ _ _ _ {s with toks:=s.toks+1};refine ug (wpAny_holding (uf ?_));refine ug (wpAny_letGo ?_);show wpAny _ _ (if((ys.length:Nat):Int)<0 then _ else _) _ _ _;rw[vc ⋯];show wpAny _ _ (if((ys.length:Nat):Int)>=2^63 then _ else _) _ _ _;rw[vc ⋯];exact ug (wpAny_mkInt (uf ⟨_,rfl,.int ys.length,H,I.tok _,⟨_,rfl⟩,q⟩))
def j0g(E:X.calm=true):CallR X (.type "list") (λxs H Q=>∃(a:Addr) (ys:List NE),xs=[.ref a]/\H a=some (DNx X.prog X.w a ys)/\∀l,H l=none->Q (.ref l) (upd H l (.lst (ys.map λq=>.ref q.2.1)))):=by
 intro w s R H xs P Q I r h;obtain⟨a,ys,rfl,B,q⟩:=h;obtain⟨u,rfl,L⟩:=vals1 r;cases L;obtain⟨z,F,O,g,k,es,ep,m,o⟩:=j1h I B;have K:es.size=ys.length:=by rw[<-Array.length_toList,o,vt,k.length]
 refine kdl_call (j5x (es:=es) (ep:=ep) F) (I.ok.hd E) m ⋯ λC N b A G D c=>?_
 have M:Vals (ys.map λq=>.ref q.2.1) b.toList:=j1V (by rw[Array.length_toList,vt,<-K];exact c.1) λj u J=>by
  obtain⟨e,d,rfl⟩:=c.2 j u (by rw[<-Array.getElem?_toList];exact J);rw[<-Array.getElem?_toList,o,vv]at d;obtain⟨y,n,rfl⟩:=vg.mp d;have v:j<ys.length:=by rw[k.length];exact(vx.mp n).1
  have i:∀{xs:List NE} {g:List (NK×Addr×Value)} {j:Nat} {y:NK×Addr×Value} {x:NE},PNE xs g->g[j]?=some y->xs[j]?=some x->x.2.1=y.2.1:=by
   intro xs g j y x p
   induction p generalizing j with
   | nil=>intro e;simp at e
   | cons r t ih=>
    cases j with
    | zero=>intro d f;simp at d f;subst d f;exact r.2.1
    | succ j=>intro d f;exact ih (by simpa using d) (by simpa using f)
  refine⟨.ref ys[j].2.1,by rw[vv,vz v];rfl,?_⟩;rw[i k n (vz v)];rfl
 refine⟨.ref s.heap.objs.size,_,I.laid (t':=N) G (vb _) (show ObjOk X.prog X.w _ C _ (.lst (ys.map λq=>.ref q.2.1))from⟨by rw[vt];exact z,b.toList,A,M,by rw[Array.toArray_toList];exact D⟩),rfl,q _ (I.hok.fresh (vb _))⟩
def j0v{K:Frg}(e:X.K=K)(p:X.A.units+1<cLine):IxR X (λx y H Q=>rIxL K x y H Q\/∃a v,x = .ref a/\DGet H a y (some v)/\Q v H):=by
 subst e;intro c b d s n H x y v u Q I l m h k;rcases h with h | ⟨a,t,rfl,g,q⟩
 .exact jv c b d s n H x y v u Q I l m h k
 .cases l;have T:=Kc I g;unfold subscriptTail;refine ug ?_;rw[getitemInPython_of_ne T.not_modules];refine ug (wpAny_specialOf T PySem.F.slot_dict_getitem.lookup ?_);have f:wpAny (model X.prog X.w) X.A (subscripted b false (.ref a) u) (λr i=>wpAny (model X.prog X.w) X.A (letTemporaryGo c (.ref a) r >>= λ_=>pure r) (EP X d n Q) X.xe i) X.xe s:=by
   rw[k];exact wpAny_operating (Wv p I g m λz w o j=>ug (wpAny_letTemporaryGo (uf ⟨t,H,o,j,q⟩)))
  first
   | exact uf (ug f)
   | exact ug (uf (ug f))
   | exact ug f
end
theorem intsK{P:Program}{w:World}:∀{ks:L5} {us:L9},us.length=ks.length->(∀(j:Nat) (u:Value) (k:Int),us[j]?=some u->ks[j]?=some k->(mixKind P w).is (Sum.inl k) u=true)->IntsAre us ks
 | [],[],_,_=>.nil
 | [],_::_,h,_=>by simp at h
 | _::_,[],h,_=>by simp at h
 | k::ks,u::us,h,q=>by
  obtain⟨t,rfl⟩:=Value.isInt_shape (k:=k) (q 0 u k rfl rfl);exact .cons k t (intsK (P:=P) (w:=w) (by simpa using h) λj u k b a=>q (j+1) u k (by simpa using b) (by simpa using a))
def wS{X:Cx}(hc:X.calm=true):CallR X (.builtin "sorted") (λxs H Q=>∃(d:Addr) (kvs:List (Key×V)) (ks:L5),xs=[.ref d]/\H d=some (.dK kvs)/\kvs.map (·.1)=ks.map Sum.inl/\ks.length<64/\∀(l:Addr) (ms:L5),H l=none->ms.Perm ks->ms.Pairwise (·<=·)->Q (.ref l) (upd H l (.lst (ms.map V.int)))):=by
 intro O s σ H xs us Q I r h;obtain⟨d,kvs,ks,rfl,W,J,p,q⟩:=h;obtain⟨u,rfl,ru⟩:=vals1 r;cases ru;obtain⟨z1,v,B,R,n⟩:=K0 I.hok W;obtain⟨ep,t⟩:=n.dictAt;have M:kvs.length=ks.length:=by have:=congrArg List.length J;rw[vt,vt]at this;exact this
 have vl:=R.length;refine Calls.call_function_entry kind_sorted plain_sorted entry_sorted (args_sorted1 _) ?_;unfold Builtin.«sorted»;refine ug (m:=checkCount "sorted" 1 1 _) (uf ?_);refine ug (kdu_collect (A:=X.A.in1) (kdl_dict (knd:=mixKind X.prog X.w) (kvs:=B) (ep:=ep) v) (I.ok.hd hc) t ⋯ λi tk a c f=>?_);have D:a.toList.length=ks.length:=by rw[Array.length_toList,f.1,<-vl,M]
 have Y:IntsAre a.toList ks:=intsK (P:=X.prog) (w:=X.w) D λj u k hu G=>by
  obtain⟨k',x,e,z⟩:=f.2 j u (by rw[<-Array.getElem?_toList];exact hu);have L:j<kvs.length:=by rw[M];exact(vx.mp G).1
  obtain⟨y,E,U,_⟩:=R.get (vz L);rw[e]at E;cases E;have F:(kvs.map (·.1))[j]?=some k':=by rw[vv,vz L];exact congrArg some U
  rw[J,vv,G]at F;cases F;exact z
 refine ug (wpAny_newList ?_ (by rw[D,sizeLine_eq];lia));have g:(i.push (seqObj "list" a.toList.toArray 0)).get? i.objs.size=some (seqObj "list" a.toList.toArray 0):=Heap.get?_push_size _ rfl;refine ug (wpAny_holding (wpAny_call_entry slot_list_sort ⟨_,g,rfl⟩ entry_list_sort (list_sort_tree g Y ⋯ λout ms S C T=>⟨_,rfl,?_⟩) (args_list_sort _)));refine uf ⟨_,rfl,?_⟩;have ml:ms.length=ks.length:=C.length_eq;have K:=I.none_at c;have Z:=I.newB c;have k2:∀b o,s.heap.get? b=some o->(sortedHeap (i.push (seqObj "list" a.toList.toArray 0)) i.objs.size a.toList out).get? b=some o:=λb o e=>by
  have N:=vI (c b o e);rw[sortedHeap_old (vE N) (by rw[size_push'];exact Nat.lt_succ_of_lt N)];exact vJ _ (c b o e)
 obtain⟨e',he⟩:=sortedHeap_at (out:=out) g;refine⟨.ref i.objs.size,_,(I.kept (t':=tk) k2).track K Z (show ObjOk X.prog X.w _ _ _ (.lst (ms.map V.int))from⟨by rw[vt];exact vW (vY (ml▸p)) nofun,out.toList,_,j4K S,by rw[Array.toArray_toList];exact he⟩),rfl,q _ ms K C T⟩
section
variable{H:Hp}
end
section
variable{X:Cx}
end
section
variable{X:Cx}{tg:Expr}
end
end L2
namespace Nm
open PySem PySem.Spec PyProof.Rows L2
end Nm
namespace Rm
open PySem PySem.Spec PyProof.Rows L2
inductive Gv where
 | smp (r:Bool) (vs:N2) | rise (x h n:V) | again (k x:V) | many (s:Bool) (xs:N2)
noncomputable def GAt(H:Hp)(a:Addr):Gv->Prop
 | .smp r vs=>H a=some (.tup (.str (if r then "ring" else "hold")::vs))
 | .rise x h n=>H a=some (.tup [.str "raise",x,h,n])
 | .again k x=>H a=some (.tup [.str "again",k,x])
 | .many s xs=>∃b,H a=some (.tup [.str (if s then "side" else "row"),.ref b])/\H b=some (.tup xs)
def GAt.same{H H':Hp}{a:Addr}{g:Gv}(s:Same H H')(h:GAt H a g):GAt H' a g:=by
 cases g with
 | smp r vs=>exact s _ _ h
 | rise x g n=>exact s _ _ h
 | again k x=>exact s _ _ h
 | many t xs=>obtain⟨b,c,d⟩:=h;exact⟨b,s _ _ c,s _ _ d⟩
def GAt.tups{H H':Hp}{a:Addr}{g:Gv}(s:∀b xs,H b=some (.tup xs)->H' b=some (.tup xs))(h:GAt H a g):GAt H' a g:=by
 cases g with
 | smp r vs=>exact s _ _ h
 | rise x g n=>exact s _ _ h
 | again k x=>exact s _ _ h
 | many t xs=>obtain⟨b,c,d⟩:=h;exact⟨b,s _ _ c,s _ _ d⟩
def Itm(H:Hp)(l:Addr)(x y:V):Prop:=(∃xs i,H l=some (.lst xs)/\x = .int i/\atI xs i=some y)\/DGet H l x (some y)
def xq{K:Frg}{H:Hp}{l:Addr}{x y:V}{Q:VK}(h:Itm H l x y)(q:Q y H):rIxL K (.ref l) x H Q\/∃a v,V.ref l = .ref a/\DGet H a x (some v)/\Q v H:=by
 rcases h with⟨b,i,e,rfl,h⟩ | h
 .exact .inl ⟨l,b,i,y,rfl,rfl,SqL.of e,h,q⟩
 .exact .inr ⟨l,y,rfl,h,q⟩
def Itm.same{H H':Hp}{l:Addr}{x y:V}(s:Same H H')(h:Itm H l x y):Itm H' l x y:=by
 rcases h with⟨g,i,e,rfl,h⟩ | h
 .exact .inl ⟨g,i,s _ _ e,rfl,h⟩
 .refine .inr ?_;rcases h with⟨a,k,e,c,d⟩ | ⟨a,k,b,e,c,d,f⟩
  .exact .inl ⟨a,k,e.imp (λe=>s _ _ e) λ⟨o,e⟩=>⟨o,s _ _ e⟩,c,d⟩
  .exact .inr ⟨a,k,b,e.imp (λe=>s _ _ e) λ⟨o,e⟩=>⟨o,s _ _ e⟩,c,s _ _ d,f⟩
noncomputable def GMap(H:Hp)(l p:Addr):Gv->Gv->Prop
 | .smp r vs,g=>g = .smp r vs
 | .rise x h n,g=>∃y,Itm H l x y/\g = .rise y h n
 | .again k x,g=>∃y,Itm H p x y/\g = .again k y
 | .many s xs,g=>∃ys,ys.length=xs.length/\(∀(i:Nat) (x y:V),xs[i]?=some x->ys[i]?=some y->Itm H p x y)/\xs.length<=8/\g = .many s ys
inductive sp_formW(vs:N2)(H:Hp)(Q:VK)(xk:XK):Prop
 | mk (a l p:Addr) (g g':Gv) (_:vs=[.ref a,.ref l,.ref p]) (_:GAt H a g) (_:GMap H l p g g') (_:∀(b:Addr) (H':Hp),Same H H'->GAt H' b g'->Q (.ref b) H'):sp_formW vs H Q xk
noncomputable def Gv.ns:Gv->N2
 | .again _ x=>[x]
 | .many _ xs=>xs
 | _=>[]
inductive sp_namesG(vs:N2)(H:Hp)(Q:VK)(xk:XK):Prop
 | mk (a:Addr) (g:Gv) (_:vs=[.ref a]) (_:GAt H a g) (_:∀(b:Addr) (H':Hp),Same H H'->H' b=some (.tup g.ns)->Q (.ref b) H'):sp_namesG vs H Q xk
noncomputable def gF:Fm->Gv
 | .hold n=>.smp false [.int n]
 | .ring x n=>.smp true [.str x,.int n]
 | .rise x h n=>.rise (.str x) (.int h) (.int n)
 | .row ps=>.many false (ps.map V.str)
 | .side ps=>.many true (ps.map V.str)
 | .again k x=>.again (.int k) (.str x)
def Xy{H:Hp}{a:Addr}{f:Fm}:FormAt H a f↔GAt H a (gF f):=by
 cases f<;>exact Iff.rfl
inductive Dm where
 | hold (n:Int) | ring (x:Str) (n:Int) | rise (l:Nat) (h n:Int) | row (ps:L6) | side (ps:L6) | again (k:Int) (p:Nat)
 deriving DecidableEq
noncomputable def gD:Dm->Gv
 | .hold n=>.smp false [.int n]
 | .ring x n=>.smp true [.str x,.int n]
 | .rise l h n=>.rise (.int l) (.int h) (.int n)
 | .row ps=>.many false (ps.map vN)
 | .side ps=>.many true (ps.map vN)
 | .again k p=>.again (.int k) (.int p)
noncomputable def Dm.ns:Dm->L6
 | .row ps=>ps
 | .side ps=>ps
 | .again _ p=>[p]
 | _=>[]
def j6U(d:Dm):(gD d).ns=d.ns.map vN:=by cases d<;>rfl
noncomputable def iK(n:Nat):Key:=Sum.inl (n:Int)
noncomputable def kD:Dm->NK
 | .hold n=>[Sum.inl (Sum.inr "hold"),Sum.inl (Sum.inl n)]
 | .ring x n=>[Sum.inl (Sum.inr "ring"),Sum.inl (Sum.inr x),Sum.inl (Sum.inl n)]
 | .rise l h n=>[Sum.inl (Sum.inr "raise"),Sum.inl (iK l),Sum.inl (Sum.inl h),Sum.inl (Sum.inl n)]
 | .row ps=>[Sum.inl (Sum.inr "row"),Sum.inr (ps.map iK)]
 | .side ps=>[Sum.inl (Sum.inr "side"),Sum.inr (ps.map iK)]
 | .again k p=>[Sum.inl (Sum.inr "again"),Sum.inl (Sum.inl k),Sum.inl (iK p)]
theorem xm:∀{a b:L6},a.map iK=b.map iK->a=b
 | [],[],_=>rfl
 | [],_::_,h=>by simp at h
 | _::_,[],h=>by simp at h
 | x::a,y::b,h=>by
  rw[uy,uy]at h;injection h with h1 h2;have:(x:Int)=y:=Sum.inl.inj h1;rw[xm h2,show x=y by lia]
def QS{x y:Str}{r s:NK}(h:(Sum.inl (Sum.inr x):NI)::r=Sum.inl (Sum.inr y)::s):x=y/\r=s:=by
 injection h with h1 h2;exact⟨Sum.inr.inj (Sum.inl.inj h1),h2⟩
def j6h{d e:Dm}(h:kD d=kD e):d=e:=by
 cases d with
 | hold n=>
  cases e with
  | hold m=>
   have:=(QS h).2;injection this with h1;rw[Sum.inl.inj (Sum.inl.inj h1)]
  | _=>exact ue (QS h).1 (by trivial)
 | ring x n=>
  cases e with
  | ring y m=>
   have:=(QS h).2;injection this with h1 h2;injection h2 with h2;rw[Sum.inl.inj (Sum.inl.inj h2),Sum.inr.inj (Sum.inl.inj h1)]
  | _=>exact ue (QS h).1 (by trivial)
 | rise l v n=>
  cases e with
  | rise l' v' m=>
   have:=(QS h).2;injection this with h1 h2;injection h2 with h2 h3;injection h3 with h3;have e:(l:Int)=l':=Sum.inl.inj (Sum.inl.inj h1);rw[Sum.inl.inj (Sum.inl.inj h2),Sum.inl.inj (Sum.inl.inj h3),show l=l' by lia]
  | _=>exact ue (QS h).1 (by trivial)
 | row ps=>
  cases e with
  | row qs=>
   have:=(QS h).2;injection this with h1;rw[xm (Sum.inr.inj h1)]
  | _=>exact ue (QS h).1 (by trivial)
 | side ps=>
  cases e with
  | side qs=>
   have:=(QS h).2;injection this with h1;rw[xm (Sum.inr.inj h1)]
  | _=>exact ue (QS h).1 (by trivial)
 | again k p=>
  cases e with
  | again k' p'=>
   have:=(QS h).2;injection this with h1 h2;injection h2 with h2;have e:(p:Int)=p':=Sum.inl.inj (Sum.inl.inj h2);rw[Sum.inl.inj (Sum.inl.inj h1),show p=p' by lia]
  | _=>exact ue (QS h).1 (by trivial)
def j1U(ps:L6):(ps.map iK).map kV=ps.map vN:=by rw[v8];rfl
def j3F{H:Hp}{a:Addr}{d:Dm}(h:GAt H a (gD d)):NAt H a (kD d):=by
 cases d with
 | hold n=>exact⟨_,h,.key (k:=Sum.inr "hold") (.key (k:=Sum.inl n) .nil)⟩
 | ring x n=>exact⟨_,h,.key (k:=Sum.inr "ring") (.key (k:=Sum.inr x) (.key (k:=Sum.inl n) .nil))⟩
 | rise l v n=>exact⟨_,h,.key (k:=Sum.inr "raise") (.key (k:=Sum.inl (l:Int)) (.key (k:=Sum.inl v) (.key (k:=Sum.inl n) .nil)))⟩
 | row ps=>obtain⟨b,c,e⟩:=h;exact⟨_,c,.key (k:=Sum.inr "row") (.tup (by rw[j1U];exact e) .nil)⟩
 | side ps=>obtain⟨b,c,e⟩:=h;exact⟨_,c,.key (k:=Sum.inr "side") (.tup (by rw[j1U];exact e) .nil)⟩
 | again k p=>exact⟨_,h,.key (k:=Sum.inr "again") (.key (k:=Sum.inl k) (.key (k:=Sum.inl (p:Int)) .nil))⟩
noncomputable def wiF(lx px:L8)(ns:L6):Fm->Dm
 | .hold n=>.hold n
 | .ring x n=>.ring x n
 | .rise x h n=>.rise (ixOf lx x) h n
 | .row qs=>.row (qs.map λx=>ns.getD (ixOf px x) 0)
 | .side qs=>.side (qs.map λx=>ns.getD (ixOf px x) 0)
 | .again k x=>.again k (ns.getD (ixOf px x) 0)
noncomputable def stepM(lx px:L8)(st:List Dm×L6)(p:Str×Fm):List Dm×L6:=
 let d:=wiF lx px st.2 p.2
 if d∈st.1 then(st.1,st.2++[st.1.idxOf d])else(st.1++[d],st.2++[st.1.length])
noncomputable def madeM(lx px:L8)(ps:N1):List Dm×L6:=ps.foldl (stepM lx px) ([],[])
def qg(lx px:L8)(ps:N1)(p:Str×Fm):madeM lx px (ps++[p])=stepM lx px (madeM lx px ps) p:=by
 unfold madeM;rw[foldl_append];rfl
structure MkOk(ks:List Dm)(ns:L6)(n:Nat):Prop where
 nd:ks.Nodup
 ln:ns.length=n
 lk:ks.length<=n
 lt:∀k∈ns,k<ks.length
theorem Kf(lx px:L8):∀(n:Nat) (ps:N1),ps.length=n->MkOk (madeM lx px ps).1 (madeM lx px ps).2 n
 | 0,ps,h=>by
  rw[List.length_eq_zero_iff.mp h];exact⟨nodup_nil,rfl,vb _,λk h=>nomatch h⟩
 | n+1,ps,h=>by
  obtain⟨b,p,rfl⟩:∃b p,ps=b++[p]:=⟨ps.dropLast,ps.getLast (λz=>by rw[z]at h;cases h),(List.dropLast_concat_getLast _).symm⟩
  rw[vn,vS]at h;obtain⟨e,c,i,d⟩:=Kf lx px n b ⋯;rw[qg];generalize madeM lx px b=st at e c i d;unfold stepM;dsimp only;split
  .rename_i hd;refine⟨e,by rw[vn,c];rfl,by show st.1.length<=n+1;lia,λk a=>?_⟩;rcases vh.mp a with a | a
   .exact d k a
   .rw[vo.mp a];exact idxOf_lt_length_of_mem hd
  .rename_i hd;refine⟨nodup_append.mpr ⟨e,by simp,λx f y g z=>hd (by rw[<-vo.mp g,<-z];exact f)⟩,by rw[vn,c];rfl,by show(st.1++[_]).length<=n+1;rw[vn,vS];lia,λk a=>?_⟩;show k<(st.1++[_]).length;rw[vn,vS];rcases vh.mp a with a | a
   .have:=d k a;lia
   .rw[vo.mp a];lia
def EnAt(H:Hp)(xs:List NE)(ks:List Dm):Prop:=xs.length=ks.length/\∀(i:Nat) (d:Dm),ks[i]?=some d->∃a,xs[i]?=some (kD d,a,.int i)/\GAt H a (gD d)
def EnAt.tups{H H':Hp}{xs:List NE}{ks:List Dm}(e:EnAt H xs ks)(s:∀b xs,H b=some (.tup xs)->H' b=some (.tup xs)):EnAt H' xs ks:=⟨e.1,λi d h=>let ⟨a,h1,h2⟩:=e.2 i d h;⟨a,h1,h2.tups s⟩⟩
def EnAt.nat{H:Hp}{xs:List NE}{ks:List Dm}(e:EnAt H xs ks):∀p∈xs,NAt H p.2.1 p.1:=λp g=>by
 obtain⟨i,f,c⟩:=mem_iff_getElem.mp g;have l:=e.1;obtain⟨a,b,d⟩:=e.2 i _ (vz ⋯);rw[vz f,c]at b;cases b;exact j3F d
def EnAt.snoc{H:Hp}{xs:List NE}{ks:List Dm}(e:EnAt H xs ks){a:Addr}{d:Dm}(h:GAt H a (gD d)):EnAt H (xs++[(kD d,a,.int (ks.length:Nat))]) (ks++[d]):=by
 have l:=e.1;refine⟨by rw[vn,vn,l];rfl,λi f b=>?_⟩;rcases Nat.lt_or_ge i ks.length with z | z
 .rw[vB z]at b;obtain⟨c,j,k⟩:=e.2 i f b;exact⟨c,by rw[vB ⋯];exact j,k⟩
 .rw[vC z]at b;have g:i=ks.length:=by
   have:=(vx.mp b).1;rw[vS]at this;lia
  subst g;rw[Nat.sub_self]at b;cases b;exact⟨a,by rw[<-l,vC (vb _),Nat.sub_self];rfl,h⟩
def EnAt.found{H:Hp}{xs:List NE}{ks:List Dm}{d:Dm}(e:EnAt H xs ks)(r:ks.Nodup) :
  (∀p,xs.find? (λp=>decide (p.1=kD d))=some p->d∈ks/\p.2.2 = .int (ks.idxOf d:Nat))/\(xs.find? (λp=>decide (p.1=kD d))=none->d∉ks):=by
 have l:=e.1;refine⟨λp j=>?_,λq o=>?_⟩
 .have k:=List.find?_some j;have m:=List.mem_of_find?_eq_some j;obtain⟨i,f,c⟩:=mem_iff_getElem.mp m;have g:i<ks.length:=⋯
  obtain⟨a,b,n⟩:=e.2 i _ (vz g);rw[vz f,c]at b;cases b;have h:ks[i]=d:=j6h (of_decide_eq_true k);refine⟨h▸getElem_mem g,?_⟩;show V.int _=V.int _;rw[<-h,r.idxOf_getElem i g]
 .obtain⟨i,f,c⟩:=mem_iff_getElem.mp o;obtain⟨a,b,n⟩:=e.2 i _ (vz f);have:=List.find?_eq_none.mp q _ (vm b);rw[c]at this;exact this (vG rfl)
noncomputable def numV(xs:L8)(ns:L6):List (Key×V):=(xs.zip ns).map λq=>(Sum.inr q.1,vN q.2)
def WO{xs:L8}{a:L6}{x:Str}{n:Nat}(h:xs.length=a.length):numV (xs++[x]) (a++[n])=numV xs a++[(Sum.inr x,vN n)]:=by
 unfold numV;rw[List.zip_append h,vj];rfl
def j3S{xs:L8}{a:L6}(h:xs.length=a.length):(numV xs a).length=xs.length:=by
 unfold numV;rw[vt,length_zip];lia
def WN{xs:L8}{a:L6}(h:xs.length=a.length):(numV xs a).map (·.1)=xs.map Sum.inr:=by
 unfold numV;rw[v8];show(xs.zip a).map (λq=>Sum.inr q.1)=_;rw[show(λq:Str×Nat=>(Sum.inr q.1:Key))=Sum.inr∘Prod.fst from rfl,<-v8,List.map_fst_zip ⋯]
def DrAt(H:Hp)(as:L7)(ks:List Dm):Prop:=All2 (λa d=>GAt H a (gD d)) as ks
inductive sp_made(vs:N2)(H:Hp)(Q:VK)(xk:XK):Prop
 | mk (b pl pp:Addr) (las pas:L7) (ls:L4) (ps:N1) (_:vs=[.ref b]) (_:BookAt H b pl pp las pas ls ps) (_:WfB ls ps) (_:1<=ps.length) (_:∀(t f:Addr) (fas:L7) (H':Hp),Same H H'->H' t=some (.tup [.ref f,vN ((madeM (nmsOf ls) (nmsOf ps) ps).2.getD (ps.length-1) 0)])->H' f=some (.lst (fas.map V.ref))->DrAt H' fas (madeM (nmsOf ls) (nmsOf ps) ps).1->Q (.ref t) H'):sp_made vs H Q xk
def XO{xs:L8}{a:L6}(h:xs.length=a.length)(b:xs.Nodup){j:Nat}{x:Str}(e:xs[j]?=some x):valV (numV xs a) (Sum.inr x)=some (vN (a.getD j 0)):=by
 have c:=(vx.mp e).1;refine wP (j:=j) (by rw[WN h];exact pairwise_map.mpr (b.imp λh e=>h (Sum.inr.inj e))) ?_;unfold numV;rw[vv,List.getElem?_zip_eq_some.mpr (show xs[j]?=some (x,a[j]).1/\a[j]?=some (x,a[j]).2 from⟨e,vz ⋯⟩),vy,vz ⋯];rfl
def j3O{H:Hp}{d:Addr}{px:L8}{a:L6}{i:Nat}(hi:i<=px.length)(h:a.length=i)(c:px.Nodup)(e:H d=some (.dK (numV (px.take i) a))){x:Str}{j:Nat}(f:j<i)(b:px[j]?=some x):Itm H d (.str x) (vN (a.getD (ixOf px x) 0)):=by
 rw[jW c b];refine .inr ?_;have g:=DGet.k (k:=Sum.inr x) e;rw[XO (j:=j) (by rw[vi];lia) (List.Nodup.sublist (take_sublist _ _) c) (by rw[List.getElem?_take,vd f];exact b)]at g;exact g
def j3v{H:Hp}{d l:Addr}{ls:L4}{ps:N1}{e:L6}{i:Nat}{p:Str×Fm}(W:WfB ls ps)(o:ps[i]?=some p)(t:e.length=i)(C:H d=some (.dK (numK (nmsOf ls))))(r:H l=some (.dK (numV ((nmsOf ps).take i) e))) :
  GMap H d l (gF p.2) (gD (wiF (nmsOf ls) (nmsOf ps) e p.2)):=by
 have G:=(vx.mp o).1;have A:i<=(nmsOf ps).length:=by rw[nmsOf,vt];lia
 obtain⟨q,B⟩:=W.f i p o;have b:∀(s:Bool) (a:L8),(∀x∈a,∃j,j<i/\(nmsOf ps)[j]?=some x)->a.length<=8->GMap H d l (.many s (a.map V.str)) (.many s ((a.map λx=>e.getD (ixOf (nmsOf ps) x) 0).map vN)):=λs a E D=>by
  refine⟨_,by rw[vt,vt,vt],λk x y u v=>?_,by rw[vt];exact D,rfl⟩;rw[vv]at u;obtain⟨z,w,rfl⟩:=vg.mp u;rw[vv,vv,w]at v;cases v;obtain⟨j,c,m⟩:=E z (vm w);exact j3O A t W.pn r c m
 obtain⟨F,f⟩:=p;cases f with
 | hold n=>rfl
 | ring x n=>rfl
 | rise x h n=>
  obtain⟨j,c⟩:=W.r i F x h n o;refine⟨vN j,.inr ?_,?_⟩
  .have g:=DGet.k (k:=Sum.inr x) C;rw[YI W.ln c]at g;exact g
  .show Gv.rise (.int (ixOf (nmsOf ls) x:Nat)) _ _=_;rw[jW W.ln c];rfl
 | row a=>exact b false a q B
 | side a=>exact b true a q B
 | again k x=>
  obtain⟨j,c,m⟩:=q x vq;exact⟨_,j3O A t W.pn r c m,rfl⟩
def j31{xs:N2}{n:Nat}{v:V}(h:1<=n)(e:xs.length=n)(a:xs[n-1]?=some v):atI xs (-1)=some v:=by
 have:xs=xs.take (n-1)++[v]:=by
  rw[<-take_snoc a,show n-1+1=xs.length by lia,v7]
 rw[this];exact j30 _ _
def DrAt.of{H:Hp}{xs:List NE}{ks:List Dm}(e:EnAt H xs ks):DrAt H (xs.map λq=>q.2.1) ks:=by
 refine⟨by rw[vt];exact e.1,λi a d b g=>?_⟩;obtain⟨h,c,f⟩:=e.2 i d g;rw[vv,c]at b;cases b;exact f
inductive Rc(ks:List Dm)(t:Nat):Nat->Prop
 | top:Rc ks t t
 | sub {y x:Nat}:Rc ks t y->x∈(ks.getD y (.hold 0)).ns->Rc ks t x
structure Dwn(ks:List Dm):Prop where
 lt:∀(i:Nat) (d:Dm),ks[i]?=some d->∀j∈d.ns,j<i
 l8:∀d∈ks,d.ns.length<=8
def Dwn.get{ks:List Dm}(D:Dwn ks){i j:Nat}(h:j∈(ks.getD i (.hold 0)).ns):j<i/\i<ks.length:=by
 rw[vy]at h;cases e:ks[i]? with
 | none=>rw[e]at h;exact nomatch h
 | some d=>rw[e]at h;exact⟨D.lt i d e j h,(vx.mp e).1⟩
def Rc.le{ks:List Dm}{t x:Nat}(D:Dwn ks)(h:Rc ks t x):x<=t:=by
 induction h with
 | top=>exact vb _
 | sub _ hm ih=>have:=(D.get hm).1;lia
def j5U(lx px:L8)(a:L6)(f:Fm):(wiF lx px a f).ns=f.ns.map λx=>a.getD (ixOf px x) 0:=by cases f<;>rfl
theorem j3B{ls:L4}{ps:N1}(W:WfB ls ps):∀n,n<=ps.length->Dwn (madeM (nmsOf ls) (nmsOf ps) (ps.take n)).1
 | 0,_=>⟨λi d h=>by simp[madeM]at h,λd h=>by simp[madeM]at h⟩
 | n+1,hn=>by
  have g:ps[n]?=some ps[n]:=vz hn;obtain⟨f,e⟩:=j3B W n ⋯;have M:=Kf (nmsOf ls) (nmsOf ps) n (ps.take n) (by rw[vi];lia);rw[take_snoc g,qg];generalize madeM (nmsOf ls) (nmsOf ps) (ps.take n)=st at f e M;obtain⟨q,p⟩:=W.f n _ g;unfold stepM;dsimp only;split
  .exact⟨f,e⟩
  .refine⟨λi d h j b=>?_,λd a=>?_⟩
   .rcases Nat.lt_or_ge i st.1.length with z | z
    .rw[vB z]at h;exact f i d h j b
    .rw[vC z]at h;have l:i-st.1.length=0:=by
      have:=(vx.mp h).1;rw[vS]at this;lia
     rw[l]at h;cases h;rw[j5U]at b;obtain⟨x,o,rfl⟩:=vK.mp b;obtain⟨k,c,m⟩:=q x o;rw[jW W.pn m,vy,vz (by rw[M.ln];exact c)];have:=M.lt _ (getElem_mem (by rw[M.ln];exact c):st.2[k]'(by rw[M.ln];exact c)∈st.2);show st.2[k]'_<i;lia
   .rcases vh.mp a with a | a
    .exact e d a
    .rw[vo.mp a,j5U,vt];exact p
noncomputable def putS(S:L6)(x:Nat):L6:=if x∈S then S else S++[x]
noncomputable def addS(S xs:L6):L6:=xs.foldl putS S
def j3z{S:L6}{x y:Nat}:y∈putS S x↔y∈S\/y=x:=by
 unfold putS;split
 .rename_i h;exact⟨.inl,λz=>z.elim id λe=>e▸h⟩
 .simp
theorem zu:∀{xs S:L6} {y:Nat},y∈addS S xs↔y∈S\/y∈xs
 | [],S,y=>by simp[addS]
 | x::xs,S,y=>by
  show y∈addS (putS S x) xs↔_;rw[zu,j3z,mem_cons,or_assoc]
def j5d{S:L6}(c:S.Nodup)(x:Nat):(putS S x).Nodup:=by
 unfold putS;split
 .exact c
 .rename_i h;exact nodup_append.mpr ⟨c,by simp,λa d b e z=>h (by rw[<-vo.mp e,<-z];exact d)⟩
def j21(S xs:L6)(x:Nat):addS S (xs++[x])=putS (addS S xs) x:=by
 unfold addS;rw[foldl_append];rfl
def KySet(kvs:List (Key×V))(S:L6):Prop:=kvs.map (·.1)=S.map iK/\S.Nodup
def j0p{a b:Nat}(h:iK a=iK b):a=b:=by
 have:(a:Int)=b:=Sum.inl.inj h;lia
def KySet.mem{kvs:List (Key×V)}{S:L6}(h:KySet kvs S){x:Nat}:(valV kvs (iK x)).isSome=decide (x∈S):=by
 have e:iK x∈kvs.map (·.1)↔x∈S:=by
  rw[h.1];exact⟨λz=>let ⟨y,hy,e⟩:=vK.mp z;(j0p e)▸hy,λz=>vK.mpr ⟨x,z,rfl⟩⟩
 cases v:valV kvs (iK x)with
 | none=>exact(vH λz=>j4J v (e.mpr z)).symm
 | some y=>exact(vG (e.mp (j5J v))).symm
def KySet.put{kvs:List (Key×V)}{S:L6}(h:KySet kvs S)(x:Nat)(v:V):KySet (putK kvs (iK x) v) (putS S x):=by
 refine⟨?_,j5d h.2 x⟩;have m:=h.mem (x:=x);unfold putK putS;rw[yG,m];by_cases z:x∈S
 .rw[vG z,vd rfl,vd z,v8,<-h.1];refine map_congr_left λq _=>?_
  show(if q.1=iK x then(q.1,v)else q).1=q.1;split<;>rfl
 .rw[vH z,vc vF,vc z,vj,vj,h.1];rfl
def KySet.len{kvs:List (Key×V)}{S:L6}(h:KySet kvs S):kvs.length=S.length:=by
 have:=congrArg List.length h.1;rw[vt,vt]at this;exact this
theorem j1S{d:Type}[DecidableEq d]:∀{l m:List d},l.Nodup->(∀x∈l,x∈m)->l.length<=m.length
 | [],m,_,_=>va _
 | a::l,m,nd,h=>by
  rw[um]at nd;have b:=h a vq;have:=j1S (l:=l) (m:=m.erase a) nd.2 λx c=>(List.mem_erase_of_ne (λz:x=a=>nd.1 (by rw[<-z];exact c))).mpr (h x (vp _ c))
  rw[List.length_erase_of_mem b]at this;have:=length_pos_of_mem b;rw[vQ];lia
def xB{S:L6}{n:Nat}(b:S.Nodup)(h:∀x∈S,x<n):S.length<=n:=by
 have:=j1S (m:=List.range n) b λx a=>v4.mpr (h x a)
 rw[length_range]at this;exact this
structure CmOk(ks:List Dm)(t i:Nat)(S:L6):Prop where
 rc:∀x∈S,Rc ks t x
 tp:t∈S
 cl:∀y∈S,t<y+i->∀j∈(ks.getD y (.hold 0)).ns,j∈S
def CmOk.all{ks:List Dm}{t:Nat}{S:L6}(c:CmOk ks t (t+1) S){x:Nat}:x∈S↔Rc ks t x:=by
 refine⟨c.rc x,λh=>?_⟩
 induction h with
 | top=>exact c.tp
 | sub _ hm ih=>exact c.cl _ ih ⋯ _ hm
def CmOk.yes{ks:List Dm}{t i y:Nat}{S:L6}(D:Dwn ks)(c:CmOk ks t i S)(d:y∈S)(e:y+i=t):CmOk ks t (i+1) (addS S (ks.getD y (.hold 0)).ns):=by
 refine⟨λx b=>?_,zu.mpr (.inl c.tp),λz f k j a=>?_⟩
 .rcases zu.mp b with h | h
  .exact c.rc x h
  .exact .sub (c.rc y d) h
 .rcases zu.mp f with h | h
  .by_cases g:z=y
   .subst g;exact zu.mpr (.inr a)
   .exact zu.mpr (.inl (c.cl z h ⋯ j a))
  .have:=(D.get h).1;lia
def CmOk.no{ks:List Dm}{t i y:Nat}{S:L6}(c:CmOk ks t i S)(d:y∉S)(e:y+i=t):CmOk ks t (i+1) S:=
 ⟨c.rc,c.tp,λz a f j b=>c.cl z a (by have:z≠y:=λe=>d (e▸a);lia) j b⟩
theorem j1B:∀{ms:L5},(∀m∈ms,0<=m)->∃a:L6,ms=a.map (λn:Nat=>(n:Int))
 | [],_=>⟨[],rfl⟩
 | m::ms,h=>by
  obtain⟨a,e⟩:=j1B (ms:=ms) λx b=>h x (vp _ b)
  have:=h m vq;exact⟨m.toNat::a,by rw[uy,<-e,show((m.toNat:Nat):Int)=m by lia]⟩
def X5{ms:L5}{S:L6}(p:ms.Perm (S.map λn:Nat=>(n:Int)))(o:ms.Pairwise (·<=·))(i:S.Nodup):∃a:L6,ms.map V.int=a.map vN/\a.Pairwise (· < ·)/\∀x,x∈a↔x∈S:=by
 obtain⟨a,rfl⟩:=j1B (ms:=ms) λm g=>by
  obtain⟨n,_,rfl⟩:=vK.mp (p.mem_iff.mp g);exact Int.natCast_nonneg n
 have c:∀x,x∈a↔x∈S:=λx=>by
  constructor
  .intro h;obtain⟨y,b,e⟩:=vK.mp (p.mem_iff.mp (vK.mpr ⟨x,h,rfl⟩));have:y=x:=⋯
   exact this▸b
  .intro h;obtain⟨y,b,e⟩:=vK.mp (p.mem_iff.mpr (vK.mpr ⟨x,h,rfl⟩));have:y=x:=⋯
   exact this▸b
 have d:(S.map λn:Nat=>(n:Int)).Nodup:=pairwise_map.mpr (i.imp λh e=>h ⋯);have f:=pairwise_map.mp (p.nodup_iff.mpr d);refine⟨a,by rw[v8];rfl,?_,c⟩;exact((pairwise_map.mp o).and f).imp λ⟨j,k⟩=>⋯
inductive sp_come(vs:N2)(H:Hp)(Q:VK)(xk:XK):Prop
 | mk (f:Addr) (fas:L7) (ks:List Dm) (t:Nat) (_:vs=[.ref f,vN t]) (_:H f=some (.lst (fas.map V.ref))) (_:DrAt H fas ks) (_:Dwn ks) (_:t<ks.length) (_:ks.length<=61) (_:∀(l:Addr) (ms:L6) (H':Hp),Same H H'->H l=none->H' l=some (.lst (ms.map vN))->ms.Pairwise (· < ·)->(∀x,x∈ms↔Rc ks t x)->Q (.ref l) H'):sp_come vs H Q xk
noncomputable def reD(P:Nat->Nat):Dm->Dm
 | .row ps=>.row (ps.map P)
 | .side ps=>.side (ps.map P)
 | .again k p=>.again k (P p)
 | d=>d
noncomputable def keptD(ks:List Dm)(ms:L6):List Dm:=ms.map λk=>reD (λn=>ms.idxOf n) (ks.getD k (.hold 0))
def LmOk(ks:List Dm)(n:Nat):Prop:=∀d∈ks,∀l h b,d = .rise l h b->l<n
theorem j5O{ls:L4}{ps:N1}(W:WfB ls ps):∀n,n<=ps.length->LmOk (madeM (nmsOf ls) (nmsOf ps) (ps.take n)).1 ls.length
 | 0,_=>λd h=>by simp[madeM]at h
 | n+1,hn=>by
  have g:ps[n]?=some ps[n]:=vz hn;have i:=j5O W n ⋯;rw[take_snoc g,qg];generalize madeM (nmsOf ls) (nmsOf ps) (ps.take n)=st at i;unfold stepM;dsimp only;split
  .exact i
  .intro d a l h b e;rcases vh.mp a with a | a
   .exact i d a l h b e
   .rw[vo.mp a]at e;generalize r:ps[n]=p at e g;obtain⟨q,f⟩:=p;cases f with
    | rise x v m=>
     obtain⟨j,o⟩:=W.r n q x v m g;have c:(Dm.rise (ixOf (nmsOf ls) x) v m) = .rise l h b:=e;injection c with c;rw[<-c,jW W.ln o];have:=(vx.mp o).1;rw[nmsOf,vt]at this;exact this
    | hold n=>cases e
    | ring x n=>cases e
    | row qs=>cases e
    | side qs=>cases e
    | again k x=>cases e
noncomputable def numI(ms:L6):List (Key×V):=ms.zipIdx.map λp=>(iK p.1,vN p.2)
def j2s(ms:L6)(m:Nat):numI (ms++[m])=numI ms++[(iK m,vN ms.length)]:=by
 unfold numI;rw[List.zipIdx_append,vj];simp
def j3P(ms:L6):(numI ms).length=ms.length:=by simp[numI]
def WL(ms:L6):(numI ms).map (·.1)=ms.map iK:=by
 unfold numI;rw[v8];have e:∀(k:Nat) (a:L6),(a.zipIdx k).map ((λx=>x.1)∘λp:Nat×Nat=>(iK p.1,vN p.2))=a.map iK:=λk a=>by
  induction a generalizing k with
  | nil=>rfl
  | cons x r ih=>rw[List.zipIdx_cons,uy,uy,ih];rfl
 exact e 0 ms
def j3Q{ms:L6}(b:ms.Nodup){m:Nat}(h:m∈ms):valV (numI ms) (iK m)=some (vN (ms.idxOf m)):=by
 refine wP (j:=ms.idxOf m) (by rw[WL];exact pairwise_map.mpr (b.imp λh e=>h (j0p e))) ?_;unfold numI;have a:=idxOf_lt_length_of_mem h;rw[vv,List.getElem?_zipIdx,vz a,getElem_idxOf a];simp
def j3G{ms:L6}(h:ms.Pairwise (· < ·)):ms.Nodup:=h.imp λh=>vE h
def j6H{H:Hp}{l an:Addr}{n:Nat}{ms:L6}{d:Dm}(o:H l=some (.lst ((List.range n).map vN)))(m:H an=some (.dK (numI ms)))(C:ms.Nodup)(t:∀k h b,d = .rise k h b->k<n)(v:∀j∈d.ns,j∈ms)(e:d.ns.length<=8) :
  GMap H l an (gD d) (gD (reD (λn=>ms.idxOf n) d)):=by
 have i:∀j∈d.ns,Itm H an (vN j) (vN (ms.idxOf j)):=λj q=>by
  refine .inr ?_;have g:=DGet.k (k:=iK j) m;rw[j3Q C (v j q)]at g;exact g
 have c:∀(s:Bool) (a:L6),(∀j∈a,j∈d.ns)->a.length<=8->GMap H l an (.many s (a.map vN)) (.many s ((a.map λn=>ms.idxOf n).map vN)):=λs a w e=>by
  refine⟨_,by rw[vt,vt,vt],λk x y A f=>?_,by rw[vt];exact e,rfl⟩;obtain⟨z,B,rfl,u⟩:=j00 A;rw[vv,vv,B]at f;cases f;exact i z (w z u)
 cases d with
 | hold n=>rfl
 | ring x n=>rfl
 | rise k h b=>
  have r:=t k h b rfl;exact⟨.int (k:Nat),.inl ⟨_,_,o,rfl,L2.jN (j:=k) (by rw[vv,List.getElem?_range r];rfl)⟩,rfl⟩
 | row a=>exact c false a (λj h=>h) e
 | side a=>exact c true a (λj h=>h) e
 | again k p=>exact⟨_,i p vq,rfl⟩
noncomputable def topM(ls:L4)(ps:N1):Nat:=(madeM (nmsOf ls) (nmsOf ps) ps).2.getD (ps.length-1) 0
noncomputable def drsM(ls:L4)(ps:N1):List Dm:=(madeM (nmsOf ls) (nmsOf ps) ps).1
def Kept(ls:L4)(ps:N1)(ms:L6):Prop:=ms.Pairwise (· < ·)/\∀x,x∈ms↔Rc (drsM ls ps) (topM ls ps) x
inductive sp_drums(vs:N2)(H:Hp)(Q:VK)(xk:XK):Prop
 | mk (b pl pp:Addr) (las pas:L7) (ls:L4) (ps:N1) (_:vs=[.ref b]) (_:BookAt H b pl pp las pas ls ps) (_:WfB ls ps) (_:1<=ps.length) (_:∀(t l f:Addr) (das:L7) (ms:L6) (H':Hp),Same H H'->H' t=some (.tup [.ref l,.ref f])->H' l=some (.lst (las.map V.ref))->H' f=some (.lst (das.map V.ref))->H l=none->H f=none->l≠f->DrAt H' das (keptD (drsM ls ps) ms)->Kept ls ps ms->Q (.ref t) H'):sp_drums vs H Q xk
structure MadeOk(ls:L4)(ps:N1):Prop where
 dw:Dwn (drsM ls ps)
 lm:LmOk (drsM ls ps) ls.length
 nd:(drsM ls ps).Nodup
 k61:(drsM ls ps).length<=61
 tp:topM ls ps<(drsM ls ps).length
def xw{ls:L4}{ps:N1}(W:WfB ls ps)(a:1<=ps.length):MadeOk ls ps:=by
 have M:=Kf (nmsOf ls) (nmsOf ps) ps.length ps rfl;have d:=j3B W ps.length (vb _);have l:=j5O W ps.length (vb _);rw[v7]at d l;refine⟨d,l,M.nd,vW M.lk W.p61,M.lt _ ?_⟩;unfold topM;rw[vy,vz (by rw[M.ln];lia)];exact getElem_mem _
def Kept.lt{ls:L4}{ps:N1}{ms:L6}(K:Kept ls ps ms)(O:MadeOk ls ps){x:Nat}(h:x∈ms):x<=topM ls ps:=((K.2 x).mp h).le O.dw
def Kept.len{ls:L4}{ps:N1}{ms:L6}(K:Kept ls ps ms)(O:MadeOk ls ps):ms.length<=61:=by
 have:=xB (n:=topM ls ps+1) (j3G K.1) λx a=>by have:=K.lt O a;lia
 have:=O.tp;have:=O.k61;lia
def Kept.sub{ls:L4}{ps:N1}{ms:L6}(K:Kept ls ps ms){x j:Nat}(h:x∈ms)(a:j∈((drsM ls ps).getD x (.hold 0)).ns):j∈ms:=(K.2 j).mpr (.sub ((K.2 x).mp h) a)
def j5E{lx px:L8}{st:List Dm×L6}{p:Str×Fm}:∃j,(stepM lx px st p).2=st.2++[j]/\(stepM lx px st p).1[j]?=some (wiF lx px st.2 p.2)/\∀m,m<j->(stepM lx px st p).1[m]?≠some (wiF lx px st.2 p.2):=by
 unfold stepM;dsimp only;split
 .rename_i hd;refine⟨_,rfl,?_,λm a e=>?_⟩
  .have b:=idxOf_lt_length_of_mem hd;rw[vz b,getElem_idxOf b]
  .obtain⟨d,c⟩:=vx.mp e;have:=List.not_of_lt_findIdx (p:=(· == wiF lx px st.2 p.2)) (xs:=st.1) a;rw[c]at this;simp at this
 .rename_i hd;refine⟨_,rfl,by rw[vC (vb _),Nat.sub_self];rfl,λm a e=>hd ?_⟩;rw[vB a]at e;exact vm e
def j0r{ms:L6}{x:Nat}(h:x∈ms):ms[ms.idxOf x]?=some x/\∀m,m<ms.idxOf x->ms[m]?≠some x:=by
 refine⟨?_,λm c e=>?_⟩
 .have a:=idxOf_lt_length_of_mem h;rw[vz a,getElem_idxOf a]
 .obtain⟨d,b⟩:=vx.mp e;have:=List.not_of_lt_findIdx (p:=(· == x)) (xs:=ms) c;rw[b]at this;simp at this
def j1L(P:Nat->Nat)(d:Dm):(reD P d).ns=d.ns.map P:=by cases d<;>rfl
def j55{ls:L4}{ps:N1}{ms:L6}(O:MadeOk ls ps)(K:Kept ls ps ms):∀d∈keptD (drsM ls ps) ms,d.ns.length<=8:=λd a=>by
 obtain⟨k,b,rfl⟩:=vK.mp a;rw[j1L,vt];have:=K.lt O b;have:=O.tp;rw[vy,vz ⋯];exact O.dw.l8 _ (getElem_mem _)
end Rm
namespace L2
open PySem PySem.Spec PyProof.Rows
end L2
namespace Rm
open PySem PySem.Spec PyProof.Rows L2
noncomputable def nmK(n:Nat):Str:=if n<26 then⟨#[97+n]⟩else⟨#[97+n/26,97+n%26]⟩
def X6:Sp:=λvs H Q _=>∃n:Nat,vs=[.int (n:Nat)]/\n<676/\Q (.str (nmK n)) H
noncomputable def bkF(lx:L8):Dm->Fm
 | .hold n=>.hold n
 | .ring x n=>.ring x n
 | .rise l h n=>.rise (lx.getD l ⟨#[]⟩) h n
 | .row ps=>.row (ps.map nmK)
 | .side ps=>.side (ps.map nmK)
 | .again k p=>.again k (nmK p)
noncomputable def bkP(ls:L4)(ks:List Dm):N1:=(List.range ks.length).map λi=>(nmK i,bkF (nmsOf ls) (ks.getD i (.hold 0)))
def j6(ls:L4)(ks:List Dm):(bkP ls ks).length=ks.length:=by unfold bkP;rw[vt,length_range]
def kh{ls:L4}{ks:List Dm}{i:Nat}{d:Dm}(h:ks[i]?=some d):(bkP ls ks)[i]?=some (nmK i,bkF (nmsOf ls) d):=by
 unfold bkP;rw[vv,List.getElem?_range (vx.mp h).1];show some (nmK i,bkF (nmsOf ls) (ks.getD i _))=_;rw[vy,h];rfl
structure BxOk(ls:L4)(ks:List Dm):Prop where
 dw:Dwn ks
 lm:LmOk ks ls.length
 k61:ks.length<=61
 l8:ls.length<=8
def j61{H:Hp}{l p:Addr}{ls:L4}{d:Dm}{n:Nat}(o:H l=some (.lst ((nmsOf ls).map V.str)))(ep:H p=some (.lst ((List.range n).map λi=>V.str (nmK i))))(t:∀k h b,d = .rise k h b->k<ls.length)(v:∀j∈d.ns,j<n)(e:d.ns.length<=8) :
  GMap H l p (gD d) (gF (bkF (nmsOf ls) d)):=by
 have m:∀j∈d.ns,Itm H p (vN j) (.str (nmK j)):=λj q=>.inl ⟨_,_,ep,rfl,L2.jN (j:=j) (by rw[vv,List.getElem?_range (v j q)];rfl)⟩
 have c:∀(s:Bool) (a:L6),(∀j∈a,j∈d.ns)->a.length<=8->GMap H l p (.many s (a.map vN)) (.many s ((a.map nmK).map V.str)):=λs a w e=>by
  refine⟨_,by rw[vt,vt,vt],λk x y A g=>?_,by rw[vt];exact e,rfl⟩;obtain⟨z,B,rfl,u⟩:=j00 A;rw[vv,vv,B]at g;cases g;exact m z (w z u)
 cases d with
 | hold n=>rfl
 | ring x n=>rfl
 | rise k h b=>
  have r:=t k h b rfl;have f:k<(nmsOf ls).length:=by rw[nmsOf,vt];exact r
  refine⟨.str ((nmsOf ls).getD k ⟨#[]⟩),.inl ⟨_,_,o,rfl,L2.jN (j:=k) ?_⟩,rfl⟩;rw[vv,vy,vz f];rfl
 | row a=>exact c false a (λj h=>h) e
 | side a=>exact c true a (λj h=>h) e
 | again k p=>exact⟨_,m p vq,rfl⟩
inductive sp_bookof(vs:N2)(H:Hp)(Q:VK)(xk:XK):Prop
 | mk (bx l f:Addr) (las das:L7) (ls:L4) (ks:List Dm) (_:vs=[.ref bx]) (_:H bx=some (.tup [.ref l,.ref f])) (_:H l=some (.lst (las.map V.ref))) (_:All2 (LimbAt H) las ls) (_:H f=some (.lst (das.map V.ref))) (_:DrAt H das ks) (_:BxOk ls ks) (_:∀(b pl pp:Addr) (pas:L7) (H':Hp),Same H H'->BookAt H' b pl pp las pas ls (bkP ls ks)->H pl=none->H pp=none->pl≠pp->Q (.ref b) H'):sp_bookof vs H Q xk
def j6e{ms:L6}(h:ms.Pairwise (· < ·)){i n m:Nat}(hi:ms[i]?=some m)(f:n∈ms)(d:n<m):ms.idxOf n<i:=by
 have b:=idxOf_lt_length_of_mem f;have e:=getElem_idxOf b;obtain⟨c,a⟩:=vx.mp hi;rcases Nat.lt_or_ge (ms.idxOf n) i with z | z
 .exact z
 .rcases Nat.lt_or_ge i (ms.idxOf n)with w | w
  .have:=pairwise_iff_getElem.mp h i _ c b w;rw[a,e]at this;lia
  .have:i=ms.idxOf n:=⋯
   subst this;rw[e]at a;lia
def xt{ks:List Dm}{ms:L6}{i m:Nat}(h:ms[i]?=some m):(keptD ks ms)[i]?=some (reD (λn=>ms.idxOf n) (ks.getD m (.hold 0))):=by
 unfold keptD;rw[vv,h];rfl
def wc(ks:List Dm)(ms:L6):(keptD ks ms).length=ms.length:=vt _
def j1t{ls:L4}{ps:N1}{ms:L6}(O:MadeOk ls ps)(r:ls.length<=8)(K:Kept ls ps ms):BxOk ls (keptD (drsM ls ps) ms):=by
 refine⟨⟨λi d c j g=>?_,j55 O K⟩,λd c l h b e=>?_,by rw[wc];exact K.len O,r⟩
 .have f:=(vx.mp c).1;rw[wc]at f;have m:ms[i]?=some ms[i]:=vz f;rw[xt m]at c;cases c;rw[j1L]at g;obtain⟨n,o,rfl⟩:=vK.mp g;exact j6e K.1 m (K.sub (getElem_mem f) o) (O.dw.get o).1
 .obtain⟨k,q,rfl⟩:=vK.mp c;have:=K.lt O q;have:=O.tp;have p:(drsM ls ps).getD k (.hold 0)=(drsM ls ps)[k]:=by rw[vy,vz ⋯];rfl
  rw[p]at e;have a:(drsM ls ps)[k]∈drsM ls ps:=getElem_mem _;generalize(drsM ls ps)[k]=d' at e a;refine O.lm d' a l h b ?_;cases d'<;>first | exact e | cases e
def j0c(lx:L8)(d:Dm):(bkF lx d).ns=d.ns.map nmK:=by cases d<;>rfl
def Rc.inv{ks:List Dm}{t x:Nat}(h:Rc ks t x):x=t\/∃y,Rc ks t y/\x∈(ks.getD y (.hold 0)).ns:=by
 cases h with
 | top=>exact .inl rfl
 | sub h1 h2=>exact .inr ⟨_,h1,h2⟩
section
variable{ls:L4}{ps:N1}{ms:L6}
def Kept.refs(K:Kept ls ps ms)(O:MadeOk ls ps){x:Nat}{d:Dm}(c:x∈ms)(a:(drsM ls ps)[x]?=some d):∀j∈d.ns,j∈ms:=λj b=>K.sub c (by rw[vy,a];exact b)
def Kept.named(K:Kept ls ps ms)(O:MadeOk ls ps):(∃c,ms[c]?=some (topM ls ps)/\c+1=ms.length)/\∀j,j+1<ms.length->∃(i:Nat) (d:Dm),(keptD (drsM ls ps) ms)[i]?=some d/\j∈d.ns:=by
 have g:topM ls ps∈ms:=(K.2 _).mpr .top;have a:ms.idxOf (topM ls ps)+1=ms.length:=by
  have f:=idxOf_lt_length_of_mem g;have h:=getElem_idxOf f;rcases Nat.lt_or_ge (ms.idxOf (topM ls ps)+1) ms.length with z | z
  .have:=pairwise_iff_getElem.mp K.1 (ms.idxOf (topM ls ps)) (ms.idxOf (topM ls ps)+1) f z ⋯;have:=K.lt O (getElem_mem z);rw[h]at *;lia
  .lia
 refine⟨⟨_,(j0r g).1,a⟩,λj p=>?_⟩;have k:ms[j]?=some ms[j]:=vz ⋯;have l:ms[j]∈ms:=getElem_mem _;have b:ms.idxOf ms[j]=j:=(j3G K.1).idxOf_getElem j ⋯;rcases((K.2 _).mp l).inv with e | ⟨y,n,m⟩
 .rw[e]at b;lia
 .have o:=(K.2 y).mpr n;refine⟨_,_,xt (j0r o).1,?_⟩;rw[j1L];exact vK.mpr ⟨_,m,b⟩
end
def j4w{lx px:L8}{st:List Dm×L6}{p:Str×Fm}:∃r,(stepM lx px st p).1=st.1++r:=by
 unfold stepM;dsimp only;split
 .exact⟨[],(append_nil _).symm⟩
 .exact⟨_,rfl⟩
theorem j3C(lx px:L8)(ps:N1)(n:Nat):∀k,∃r,(madeM lx px (ps.take (n+k))).1=(madeM lx px (ps.take n)).1++r
 | 0=>⟨[],(append_nil _).symm⟩
 | k+1=>by
  obtain⟨r,h⟩:=j3C lx px ps n k;rcases Nat.lt_or_ge (n+k) ps.length with z | z
  .rw[show n+(k+1)=(n+k)+1 by lia,take_snoc (vz z),qg];obtain⟨b,a⟩:=j4w (lx:=lx) (px:=px) (st:=madeM lx px (ps.take (n+k))) (p:=ps[n+k]);exact⟨r++b,by rw[a,h,List.append_assoc]⟩
  .have e:ps.take (n+(k+1))=ps.take (n+k):=by rw[take_of_length_le ⋯,take_of_length_le z]
   rw[e];exact⟨r,h⟩
def j6a{ls:L4}{ps:N1}{n x:Nat}{d:Dm}(h:(madeM (nmsOf ls) (nmsOf ps) (ps.take n)).1[x]?=some d):(drsM ls ps)[x]?=some d:=by
 obtain⟨r,e⟩:=j3C (nmsOf ls) (nmsOf ps) ps n ps.length;rw[take_of_length_le ⋯]at e;unfold drsM;rw[e,vB (vx.mp h).1];exact h
def wJ{lx px:L8}{st:List Dm×L6}{p:Str×Fm}:∃j,(stepM lx px st p).2=st.2++[j]/\(stepM lx px st p).1[j]?=some (wiF lx px st.2 p.2)/\((j<st.1.length/\(stepM lx px st p).1=st.1)\/(j=st.1.length/\(stepM lx px st p).1.length=st.1.length+1)):=by
 obtain⟨j,a,b,_⟩:=j5E (lx:=lx) (px:=px) (st:=st) (p:=p);refine⟨j,a,b,?_⟩;unfold stepM at a|-;dsimp only at a|-;split
 .rename_i hd;rw[vd hd]at a;have:st.1.idxOf (wiF lx px st.2 p.2)=j:=by
   have:=List.append_cancel_left a;injection this
  exact .inl ⟨this▸idxOf_lt_length_of_mem hd,rfl⟩
 .rename_i hd;rw[vc hd]at a;have:st.1.length=j:=by
   have:=List.append_cancel_left a;injection this
  exact .inr ⟨this.symm,by rw[vn];rfl⟩
def RenF(R:Str->Str->Prop)(p q:Fm):Prop:=match p with
 | .row ps=>∃qs,q = .row qs/\ps.length=qs.length/\∀(i:Nat) (x y:Str),ps[i]?=some x->qs[i]?=some y->R x y
 | .side ps=>∃qs,q = .side qs/\ps.length=qs.length/\∀(i:Nat) (x y:Str),ps[i]?=some x->qs[i]?=some y->R x y
 | .again k x=>∃y,q = .again k y/\R x y
 | p=>q=p
def RenF.rise{R:Str->Str->Prop}{p:Fm}{x:Str}{a b:Int}(h:RenF R p (.rise x a b)):p = .rise x a b:=by
 cases p with
 | row ps=>obtain⟨_,e,_⟩:=h;cases e
 | side ps=>obtain⟨_,e,_⟩:=h;cases e
 | again k y=>obtain⟨_,e,_⟩:=h;cases e
 | _=>exact h.symm
section
variable{lx px fr:L8}{ps qs:N1}{n:Int}{i:Nat}{nh:List L6}
end
def j5e{i j:Nat}(hi:i<676)(a:j<676)(h:nmK i=nmK j):i=j:=by
 unfold nmK at h;split at h<;>split at h<;>(injection h with h;simp only[Array.mk.injEq,List.cons.injEq,reduceCtorEq,and_true,and_false,false_and]at h)<;>lia
def j3M(ls:L4)(ks:List Dm):nmsOf (bkP ls ks)=(List.range ks.length).map nmK:=by
 unfold nmsOf bkP;rw[v8];rfl
section
variable{ls:L4}{ks:List Dm}
def j5M(B:BxOk ls ks):(nmsOf (bkP ls ks)).Nodup:=by
 rw[j3M];refine pairwise_map.mpr (List.Pairwise.imp_of_mem (λ{a b} d f c e=>c (j5e ?_ ?_ e)) (List.nodup_range (n:=ks.length)))
 .have:=v4.mp d;have:=B.k61;lia
 .have:=v4.mp f;have:=B.k61;lia
def j5N{j:Nat}(h:j<ks.length):(nmsOf (bkP ls ks))[j]?=some (nmK j):=by
 rw[j3M,vv,List.getElem?_range h];rfl
def j6Q(B:BxOk ls ks){j:Nat}(h:j<ks.length):ixOf (nmsOf (bkP ls ks)) (nmK j)=j:=jW (j5M B) (j5N h)
def j6Z(B:BxOk ls ks)(m:(nmsOf ls).Nodup):WfB ls (bkP ls ks):=by
 refine⟨m,B.l8,j5M B,by rw[j6];exact B.k61,λi p a=>?_,λi y x h n a=>?_⟩
 all_goals
  have d:=(vx.mp a).1;rw[j6]at d;have c:ks[i]?=some ks[i]:=vz d;rw[kh c]at a
 .cases a;refine⟨λx f=>?_,?_⟩
  .rw[j0c]at f;obtain⟨j,g,rfl⟩:=vK.mp f;have:=B.dw.lt i _ c j g;exact⟨j,this,j5N ⋯⟩
  .show(bkF _ _).ns.length<=8;rw[j0c,vt];exact B.dw.l8 _ (getElem_mem _)
 .injection a with a;injection a with _ a;cases e:ks[i]with
  | rise l v b=>
   rw[e]at a;injection a with h1;have k:=B.lm _ (vm c) l v b e;exact⟨l,by rw[<-h1,vy,vz (by unfold nmsOf;rw[vt];exact k)];rfl⟩
  | _=>rw[e]at a;cases a
end
theorem j1E(lx px:L8)(ps:N1)(n:Nat):∀k,∃r,(madeM lx px (ps.take (n+k))).2=(madeM lx px (ps.take n)).2++r
 | 0=>⟨[],(append_nil _).symm⟩
 | k+1=>by
  obtain⟨r,h⟩:=j1E lx px ps n k;rcases Nat.lt_or_ge (n+k) ps.length with z | z
  .rw[show n+(k+1)=(n+k)+1 by lia,take_snoc (vz z),qg];obtain⟨j,a,_⟩:=wJ (lx:=lx) (px:=px) (st:=madeM lx px (ps.take (n+k))) (p:=ps[n+k]);exact⟨r++[j],by rw[a,h,List.append_assoc]⟩
  .have e:ps.take (n+(k+1))=ps.take (n+k):=by rw[take_of_length_le ⋯,take_of_length_le z]
   rw[e];exact⟨r,h⟩
noncomputable def numOf(ls:L4)(ps:N1)(i:Nat):Nat:=(madeM (nmsOf ls) (nmsOf ps) ps).2.getD i 0
section
variable{ls:L4}{ps:N1}{ms:L6}
def j0E{n i:Nat}(a:n<=ps.length)(h:i<n):(madeM (nmsOf ls) (nmsOf ps) (ps.take n)).2.getD i 0=numOf ls ps i:=by
 obtain⟨r,e⟩:=j1E (nmsOf ls) (nmsOf ps) ps n ps.length;have M:=Kf (nmsOf ls) (nmsOf ps) n (ps.take n) (by rw[vi];lia);rw[take_of_length_le ⋯]at e;unfold numOf;rw[e,vy,vy,vB (by rw[M.ln];exact h)]
def j2w(W:WfB ls ps){i:Nat}{p:Str×Fm}(b:ps[i]?=some p):(drsM ls ps)[numOf ls ps i]?=some (wiF (nmsOf ls) (nmsOf ps) (madeM (nmsOf ls) (nmsOf ps) ps).2 p.2):=by
 have o:=(vx.mp b).1;have M1:=Kf (nmsOf ls) (nmsOf ps) i (ps.take i) (by rw[vi];lia);have h:madeM (nmsOf ls) (nmsOf ps) (ps.take (i+1))=stepM (nmsOf ls) (nmsOf ps) (madeM (nmsOf ls) (nmsOf ps) (ps.take i)) p:=by rw[take_snoc b,qg]
 obtain⟨j,c,e,_⟩:=wJ (lx:=nmsOf ls) (px:=nmsOf ps) (st:=madeM (nmsOf ls) (nmsOf ps) (ps.take i)) (p:=p);rw[<-h]at c e;have g:numOf ls ps i=j:=by
  rw[<-j0E (n:=i+1) ⋯ ⋯,c];have:=getD_last (l:=(madeM (nmsOf ls) (nmsOf ps) (ps.take i)).2) (x:=j) (d:=0);rw[M1.ln]at this;exact this
 rw[g];have:=j6a e;rw[this];have a:∀x∈p.2.ns,(madeM (nmsOf ls) (nmsOf ps) (ps.take i)).2.getD (ixOf (nmsOf ps) x) 0=(madeM (nmsOf ls) (nmsOf ps) ps).2.getD (ixOf (nmsOf ps) x) 0:=λx m=>j0E ⋯ (W.inP_lt b (vK.mpr ⟨x,m,rfl⟩))
 generalize p.2=f at a;cases f with
 | row qs=>exact congrArg (λz=>some (Dm.row z)) (map_congr_left a)
 | side qs=>exact congrArg (λz=>some (Dm.side z)) (map_congr_left a)
 | again k x=>exact congrArg (λz=>some (Dm.again k z)) (a x vq)
 | _=>rfl
structure Cor(ps qs:N1)(C:Nat->Nat->Prop)(g:Nat->Nat):Prop where
 lt:∀i k,C i k->i<ps.length/\k<qs.length
 ex:∀k,k<qs.length->∃i,C i k
 top:C (ps.length-1) (qs.length-1)
 f:∀(i k:Nat) (p q:Str×Fm),C i k->ps[i]?=some p->qs[k]?=some q->RenF (λ_ _=>True) p.2 q.2/\inP qs q.2=(inP ps p.2).map g/\∀j∈inP ps p.2,j<i/\C j (g j)
theorem j3T(n:Nat):∀(i:Nat),i<=n->∀(x:Nat),x<(madeM (nmsOf ls) (nmsOf ps) (ps.take i)).1.length->i<=ps.length->∃j,j<i/\numOf ls ps j=x
 | 0,_,x,h,_=>by simp[madeM]at h
 | i+1,hn,x,h,hi=>by
  have g:ps[i]?=some ps[i]:=vz hi;have M1:=Kf (nmsOf ls) (nmsOf ps) i (ps.take i) (by rw[vi];lia);obtain⟨j,b,k,c⟩:=wJ (lx:=nmsOf ls) (px:=nmsOf ps) (st:=madeM (nmsOf ls) (nmsOf ps) (ps.take i)) (p:=ps[i]);have e:madeM (nmsOf ls) (nmsOf ps) (ps.take (i+1))=stepM (nmsOf ls) (nmsOf ps) (madeM (nmsOf ls) (nmsOf ps) (ps.take i)) ps[i]:=by rw[take_snoc g,qg]
  rw[<-e]at b c;have a:x<(madeM (nmsOf ls) (nmsOf ps) (ps.take i)).1.length->∃j,j<i+1/\numOf ls ps j=x:=λh=>by
   obtain⟨j,m,f⟩:=j3T n i ⋯ x h ⋯;exact⟨j,⋯,f⟩
  rcases c with⟨_,z⟩ | ⟨o,q⟩
  .exact a (by rw[z]at h;exact h)
  .rcases Nat.lt_or_ge x (madeM (nmsOf ls) (nmsOf ps) (ps.take i)).1.length with y | y
   .exact a y
   .refine⟨i,⋯,?_⟩;rw[<-j0E (n:=i+1) ⋯ ⋯,b];have:=getD_last (l:=(madeM (nmsOf ls) (nmsOf ps) (ps.take i)).2) (x:=j) (d:=0);rw[M1.ln]at this;lia
def j67(W:WfB ls ps)(D:1<=ps.length)(K:Kept ls ps ms):Cor ps (bkP ls (keptD (drsM ls ps) ms)) (λi k=>i<ps.length/\ms[k]?=some (numOf ls ps i)) (λj=>ms.idxOf (numOf ls ps j)):=by
 have O:=xw W D;have B:=j1t O W.l8 K;have z:(keptD (drsM ls ps) ms).length=ms.length:=by unfold keptD;rw[vt]
 have r:(bkP ls (keptD (drsM ls ps) ms)).length=ms.length:=by rw[j6,z]
 refine⟨λi k h=>⟨h.1,by rw[r];exact(vx.mp h.2).1⟩,λk o=>?_,?_,λi k p q h l C=>?_⟩
 .rw[r]at o;have g:ms[k]<(drsM ls ps).length:=vD (K.lt O (getElem_mem o)) O.tp;obtain⟨j,m,u⟩:=j3T (ls:=ls) (ps:=ps) ps.length ps.length (vb _) ms[k] (by rw[v7];exact g) (vb _);exact⟨j,m,by rw[u];exact vz o⟩
 .obtain⟨⟨c,m,u⟩,_⟩:=K.named O;refine⟨⋯,?_⟩;rw[r,show ms.length-1=c by lia];exact m
 .obtain⟨F,g⟩:=h;have v:=j2w W l;have s:=xt (ks:=drsM ls ps) g;rw[vy,v]at s;have t:=kh (ls:=ls) s;rw[C]at t;cases t;have d:∀j∈inP ps p.2,numOf ls ps j∈ms:=λj a=>by
   refine K.refs O (vm g) v _ ?_;obtain⟨x,b,rfl⟩:=vK.mp a;generalize p.2=f at b;cases f with
   | row qs=>exact vK.mpr ⟨x,b,rfl⟩
   | side qs=>exact vK.mpr ⟨x,b,rfl⟩
   | again k y=>rw[vo.mp b];exact vq
   | _=>exact nomatch b
  have w:∀j∈inP ps p.2,ixOf (nmsOf (bkP ls (keptD (drsM ls ps) ms))) (nmK (ms.idxOf (numOf ls ps j)))=ms.idxOf (numOf ls ps j):=λj a=>j6Q B (by rw[z];exact idxOf_lt_length_of_mem (d j a))
  refine⟨?_,?_,λj a=>⟨W.inP_lt l a,by have:=W.inP_lt l a;lia,(j0r (d j a)).1⟩⟩
  .have A:=λx h n (e:p.2 = .rise x h n)=>W.r i p.1 x h n (by rw[l,<-e])
   show RenF _ p.2 (bkF (nmsOf ls) (reD _ (wiF _ _ _ p.2)));generalize p.2=f at A;cases f with
   | hold n=>rfl
   | ring x n=>rfl
   | rise x h n=>
    obtain⟨j,a⟩:=A x h n rfl;show Fm.rise ((nmsOf ls).getD (ixOf (nmsOf ls) x) ⟨#[]⟩) h n = .rise x h n;rw[jW W.ln a,vy,a];rfl
   | row qs=>exact⟨_,rfl,by rw[vt,vt,vt],λ_ _ _ _ _=>trivial⟩
   | side qs=>exact⟨_,rfl,by rw[vt,vt,vt],λ_ _ _ _ _=>trivial⟩
   | again k x=>exact⟨_,rfl,trivial⟩
  .unfold inP at w|-;show(bkF (nmsOf ls) (reD _ (wiF _ _ _ p.2))).ns.map _=_;rw[j0c,j1L,v8,v8];have E:(wiF (nmsOf ls) (nmsOf ps) (madeM (nmsOf ls) (nmsOf ps) ps).2 p.2).ns=p.2.ns.map λx=>numOf ls ps (ixOf (nmsOf ps) x):=by cases p.2<;>rfl
   rw[E,v8];refine Eq.trans ?_ v8.symm;exact map_congr_left λx b=>w _ (vK.mpr ⟨x,b,rfl⟩)
def RenF.rise'{R:Str->Str->Prop}{p q:Fm}{x:Str}{a b:Int}(h:RenF R p q):p = .rise x a b↔q = .rise x a b:=by
 constructor
 .rintro rfl;exact h
 .rintro rfl;exact h.rise
section
variable{qs:N1}{C:Nat->Nat->Prop}{g:Nat->Nat}
def j4W{M N:L1}(R:Cor ps qs C g)(H:M.length=ps.length)(I:N.length=qs.length)(B:MovOk ls ps M)(D:MovOk ls qs N):∀i k,C i k->N.getD k []=M.getD i []:=by
 intro i
 induction i using Nat.strongRecOn with
 | ind i ih=>
  intro k s;obtain⟨E,F⟩:=R.lt i k s;have q:ps[i]?=some ps[i]:=vz E;have r:qs[k]?=some qs[k]:=vz F;have z:M[i]?=some (M.getD i []):=by rw[vy,vz ⋯];rfl
  have A:N[k]?=some (N.getD k []):=by rw[vy,vz ⋯];rfl
  obtain⟨a,b⟩:=B i _ _ q z;obtain⟨w,y⟩:=D k _ _ r A;obtain⟨u,d,t⟩:=R.f i k _ _ s q r;refine Xg w a λv=>(y v).trans (Iff.trans ?_ (b v).symm)
  rw[d];refine or_congr ⟨?_,?_⟩ ⟨?_,?_⟩
  .rintro⟨G,l,m⟩;obtain⟨j,c,rfl⟩:=vK.mp l;obtain⟨o,p⟩:=t j c;exact⟨j,c,by rw[<-ih j o _ p];exact m⟩
  .rintro⟨j,c,m⟩;obtain⟨o,p⟩:=t j c;exact⟨g j,vK.mpr ⟨j,c,rfl⟩,by rw[ih j o _ p];exact m⟩
  .rintro⟨x,h,n,e,f⟩;exact⟨x,h,n,u.rise'.mpr e,f⟩
  .rintro⟨x,h,n,e,f⟩;exact⟨x,h,n,u.rise'.mp e,f⟩
def LastL(Ls:L0)(k v:Int):Prop:=∃pre e post,Ls=pre++e::post/\(k,v)∈e/\∀e'∈post,∀v',(k,v')∉e'
theorem j1y{c b:Type}{f:c->b}:∀{l:List c} {pre:List b} {e:b} {a:List b},l.map f=pre++e::a->∃p x q,l=p++x::q/\p.map f=pre/\f x=e/\q.map f=a
 | [],pre,e,a,h=>by cases pre<;>simp at h
 | y::l,[],e,a,h=>by
  rw[uy,nil_append]at h;injection h with h1 h2;exact⟨[],y,l,rfl,rfl,h1,h2⟩
 | y::l,z::pre,e,a,h=>by
  rw[uy,cons_append]at h;injection h with h1 h2;obtain⟨p,x,q,rfl,d,g,i⟩:=j1y h2;exact⟨y::p,x,q,rfl,by rw[uy,h1,d],g,i⟩
def YC{E:L0}{is:L6}{k v:Int}:LastIn E is k v↔LastL (is.map λj=>E.getD j []) k v:=by
 constructor
 .rintro⟨c,j,a,rfl,d,f⟩;refine⟨c.map λj=>E.getD j [],E.getD j [],a.map λj=>E.getD j [],by rw[vj];rfl,d,λl i=>?_⟩;obtain⟨g,b,rfl⟩:=vK.mp i;exact f g b
 .rintro⟨c,e,a,h,d,f⟩;obtain⟨p,x,q,rfl,rfl,rfl,rfl⟩:=j1y h;exact⟨p,x,q,rfl,d,λg b=>f _ (vK.mpr ⟨g,b,rfl⟩)⟩
def j4V{E F:L0}(R:Cor ps qs C g)(B:E.length=ps.length)(D:F.length=qs.length)(w:EndOk ls ps E)(y:EndOk ls qs F):∀i k,C i k->F.getD k []=E.getD i []:=by
 intro i
 induction i using Nat.strongRecOn with
 | ind i ih=>
  intro k m;obtain⟨z,A⟩:=R.lt i k m;have h:ps[i]?=some ps[i]:=vz z;have l:qs[k]?=some qs[k]:=vz A;have s:E[i]?=some (E.getD i []):=by rw[vy,vz ⋯];rfl
  have t:F[k]?=some (F.getD k []):=by rw[vy,vz ⋯];rfl
  obtain⟨a,b⟩:=w i _ _ h s;obtain⟨q,r⟩:=y k _ _ l t;obtain⟨p,d,o⟩:=R.f i k _ _ m h l;refine Xf q a λx v=>(r x v).trans (Iff.trans ?_ (b x v).symm)
  unfold EndIs;have u:(inP ps ps[i].2).map ((λj=>F.getD j [])∘g)=(inP ps ps[i].2).map λj=>E.getD j []:=map_congr_left λj c=>ih j (o j c).1 _ (o j c).2
  rw[YC,YC,d,v8,u];refine or_congr Iff.rfl ⟨?_,?_⟩
  .rintro⟨x,n,e,f⟩;exact⟨x,n,p.rise'.mpr e,f⟩
  .rintro⟨x,n,e,f⟩;exact⟨x,n,p.rise'.mp e,f⟩
theorem j0A:∀{l:L5},l≠[]->∃g∈l,∀x∈l,x<=g
 | [],h=>ue rfl h
 | [a],_=>⟨a,vq,λx c=>by rw[vo.mp c];exact vA _⟩
 | a::b::r,_=>by
  obtain⟨g,e,d⟩:=j0A (l:=b::r) (λz=>by cases z);rcases Int.le_total a g with z | z
  .exact⟨g,vp _ e,λx c=>by
    rcases mem_cons.mp c with rfl | c
    .exact z
    .exact d x c⟩
  .exact⟨a,vq,λx c=>by
    rcases mem_cons.mp c with rfl | c
    .exact vA _
    .exact Int.le_trans (d x c) z⟩
def j3p{f:Fm}{a:L5}(h:LenPre f a):∃g,LenIs f a g:=by
 cases f with
 | side qs=>exact(j0A h).imp λg h=>h
 | again k x=>obtain⟨y,r,rfl,_⟩:=h;exact⟨k*y,y,rfl,rfl⟩
 | row qs=>exact⟨_,rfl⟩
 | _=>exact⟨_,rfl⟩
def YD{R:Str->Str->Prop}{p q:Fm}(h:RenF R p q){a:L5}:(LenPre p a↔LenPre q a)/\∀g,LenIs p a g↔LenIs q a g:=by
 cases p with
 | row ps=>obtain⟨_,rfl,_⟩:=h;exact⟨Iff.rfl,λg=>Iff.rfl⟩
 | side ps=>obtain⟨_,rfl,_⟩:=h;exact⟨Iff.rfl,λg=>Iff.rfl⟩
 | again k x=>obtain⟨_,rfl,_⟩:=h;exact⟨Iff.rfl,λg=>Iff.rfl⟩
 | _=>rw[show q=_ from h];exact⟨Iff.rfl,λg=>Iff.rfl⟩
def RenF.side'{R:Str->Str->Prop}{p q:Fm}{ys:L8}(h:RenF R p q)(e:q = .side ys):∃xs,p = .side xs:=by
 subst e;cases p with
 | side ps=>exact⟨_,rfl⟩
 | row ps=>obtain⟨_,e,_⟩:=h;cases e
 | again k x=>obtain⟨_,e,_⟩:=h;cases e
 | _=>cases h
def j4X{gs:L5}{w:L1}(S:Snd ls ps gs w)(hl:w.length=ps.length)(W:MovOk ls ps w)(R:Cor ps qs C g)(n1:1<=qs.length)(X:WfB ls qs):∃gs' hs',Snd ls qs gs' hs'/\gs'.getD (qs.length-1) 0=gs.getD (ps.length-1) 0/\hs'.length=qs.length/\MovOk ls qs hs':=by
 have⟨d,hrep⟩:∃d:Nat->Nat,∀k,k<qs.length->C (d k) k:=by
  have h:∀k,∃i,k<qs.length->C i k:=λk=>by
   rcases Nat.lt_or_ge k qs.length with z | z
   .exact(R.ex k z).imp λi h _=>h
   .exact⟨0,λh=>⋯⟩
  exact⟨λk=>(h k).choose,λk s=>(h k).choose_spec s⟩
 have y:∀{α:Type} (v:Nat->α) (k i:Nat) (p q:Str×Fm),C i k->ps[i]?=some p->qs[k]?=some q->(∀f,f<k->∀j,C j f->v j=v (d f))->(inP ps p.2).map v=(inP qs q.2).map λf=>v (d f):=λv k i p q r hp u M=>by
  obtain⟨_,G,l⟩:=R.f i k p q r hp u;rw[G,v8];refine map_congr_left λj A=>M (g j) ?_ j (l j A).2
  exact X.inP_lt u (by rw[G];exact vK.mpr ⟨j,A,rfl⟩)
 have hG:∀k,k<qs.length->∀i,C i k->gs.getD i 0=gs.getD (d k) 0:=by
  intro k
  induction k using Nat.strongRecOn with
  | ind k M=>
   intro s i r;have I:qs[k]?=some qs[k]:=vz s;have D:∀i,C i k->∀g,LenIs qs[k].2 ((inP qs qs[k].2).map λf=>gs.getD (d f) 0) g->g=gs.getD i 0:=λi r g L=>by
    obtain⟨p,t⟩:∃p,ps[i]?=some p:=⟨_,vz (R.lt i k r).1⟩
    have B:=y (λj=>gs.getD j 0) k i _ _ r t I λf o j l=>M f o ⋯ j l
    refine(S.ln i _ t).2 g ?_;rw[B];exact((YD (R.f i k _ _ r t I).1).2 g).mpr L
   obtain⟨p,t⟩:∃p,ps[i]?=some p:=⟨_,vz (R.lt i k r).1⟩
   have B:=y (λj=>gs.getD j 0) k i _ _ r t I λf o j l=>M f o ⋯ j l
   have Q:=(S.ln i _ t).1;rw[B]at Q;obtain⟨g,L⟩:=j3p ((YD (R.f i k _ _ r t I).1).1.mp Q);rw[<-D i r g L,<-D (d k) (hrep k s) g L]
 have Z:∀k,k<qs.length->∀i,C i k->w.getD i []=w.getD (d k) []:=by
  intro k
  induction k using Nat.strongRecOn with
  | ind k M=>
   intro s i r;have I:qs[k]?=some qs[k]:=vz s;have D:∀i,C i k->(w.getD i []).Pairwise (· < ·)/\∀v,v∈w.getD i []↔(∃c∈(inP qs qs[k].2).map (λf=>w.getD (d f) []),v∈c)\/∃x h n,qs[k].2 = .rise x h n/\v=(ixOf (nmsOf ls) x:Nat):=λi r=>by
    have hi:=(R.lt i k r).1;obtain⟨p,t⟩:∃p,ps[i]?=some p:=⟨_,vz hi⟩
    have B:=y (λj=>w.getD j []) k i _ _ r t I λf o j l=>M f o ⋯ j l
    have F:=(R.f i k _ _ r t I).1;obtain⟨a,b⟩:=W i _ (w.getD i []) t (by rw[vy,vz ⋯];rfl);refine⟨a,λv=>(b v).trans (or_congr ?_ ?_)⟩
    .rw[<-B];constructor
     .rintro⟨j,l,H⟩;exact⟨_,vK.mpr ⟨j,l,rfl⟩,H⟩
     .rintro⟨c,a0,H⟩;obtain⟨j,l,rfl⟩:=vK.mp a0;exact⟨j,l,H⟩
    .constructor
     .rintro⟨x,h,n,e,J⟩;exact⟨x,h,n,F.rise'.mp e,J⟩
     .rintro⟨x,h,n,e,J⟩;exact⟨x,h,n,F.rise'.mpr e,J⟩
   have h1:=D i r;have h2:=D (d k) (hrep k s);exact Xg h1.1 h2.1 λv=>(h1.2 v).trans (h2.2 v).symm
 have T:∀k,k<qs.length->((List.range qs.length).map λk=>gs.getD (d k) 0).getD k 0=gs.getD (d k) 0:=λk s=>by
  rw[vy,vv,List.getElem?_range s];rfl
 have O:∀k,k<qs.length->((List.range qs.length).map λk=>w.getD (d k) []).getD k []=w.getD (d k) []:=λk s=>by
  rw[vy,vv,List.getElem?_range s];rfl
 have E:∀{k:Nat} {q:Str×Fm},qs[k]?=some q->∀j∈inP qs q.2,j<qs.length:=λu j l=>by
  have:=X.inP_lt u l;have:=(vx.mp u).1;lia
 refine⟨(List.range qs.length).map λk=>gs.getD (d k) 0,(List.range qs.length).map λk=>w.getD (d k) [],⟨X,by rw[vt,length_range],λk s=>?_,λN nl hN k s=>?_,λk q u=>?_,λk q xs u e=>?_⟩,?_⟩
 .rw[T k s];exact S.gb _ (R.lt _ k (hrep k s)).1
 .rw[O k s];exact j4W R hl nl W hN _ k (hrep k s)
 .have s:=(vx.mp u).1;have r:=hrep k s;obtain⟨p,t⟩:∃p,ps[d k]?=some p:=⟨_,vz (R.lt _ k r).1⟩
  have B:=y (λj=>gs.getD j 0) k _ _ _ r t u λf o j l=>hG f ⋯ j l
  have Y:(inP qs q.2).map (λj=>((List.range qs.length).map λk=>gs.getD (d k) 0).getD j 0)=(inP ps p.2).map λj=>gs.getD j 0:=by
   rw[B];exact map_congr_left λj l=>T j (E u j l)
  have F:=(R.f _ k _ _ r t u).1;rw[Y,T k s];exact⟨(YD F).1.mp (S.ln _ _ t).1,λg L=>(S.ln _ _ t).2 g (((YD F).2 g).mpr L)⟩
 .have s:=(vx.mp u).1;have r:=hrep k s;obtain⟨p,t⟩:∃p,ps[d k]?=some p:=⟨_,vz (R.lt _ k r).1⟩
  have B:=y (λj=>w.getD j []) k _ _ _ r t u λf o j l=>Z f ⋯ j l
  obtain⟨F,G,l⟩:=R.f _ k _ _ r t u;obtain⟨ys,ey⟩:=F.side' e;obtain⟨s1,s2⟩:=S.sd _ _ ys t ey;have Y:(inP qs q.2).map (λj=>((List.range qs.length).map λk=>w.getD (d k) []).getD j [])=(inP ps p.2).map λj=>w.getD j []:=by
   rw[B];exact map_congr_left λj l=>O j (E u j l)
  refine⟨λj A=>?_,by rw[Y];exact s2⟩;rw[O j (E u j A)];rw[G]at A;obtain⟨U,K,rfl⟩:=vK.mp A;rw[<-Z _ (R.lt _ _ (l U K).2).2 U (l U K).2];exact s1 U K
 .refine⟨by rw[T _ ⋯];exact(hG _ ⋯ _ R.top).symm,by rw[vt,length_range],λk q ks u P=>?_⟩;have s:=(vx.mp u).1;have r:=hrep k s;have hi:=(R.lt _ k r).1;obtain⟨p,t⟩:∃p,ps[d k]?=some p:=⟨_,vz hi⟩
  rw[vv,List.getElem?_range s]at P;cases P;have B:=y (λj=>w.getD j []) k _ _ _ r t u λf o j l=>Z f ⋯ j l
  have F:=(R.f _ k _ _ r t u).1;obtain⟨a,b⟩:=W _ _ (w.getD (d k) []) t (by rw[vy,vz ⋯];rfl);refine⟨a,λv=>(b v).trans (or_congr ?_ ?_)⟩
  .constructor
   .rintro⟨j,l,H⟩;have m:w.getD j []∈(inP qs q.2).map λf=>w.getD (d f) []:=by rw[<-B];exact vK.mpr ⟨j,l,rfl⟩
    obtain⟨f,o,e⟩:=vK.mp m;exact⟨f,o,by rw[O f (E u f o),e];exact H⟩
   .rintro⟨f,o,H⟩;rw[O f (E u f o)]at H;have m:w.getD (d f) []∈(inP ps p.2).map λj=>w.getD j []:=by rw[B];exact vK.mpr ⟨f,o,rfl⟩
    obtain⟨j,l,e⟩:=vK.mp m;exact⟨j,l,by rw[e];exact H⟩
  .constructor
   .rintro⟨x,h,n,e,J⟩;exact⟨x,h,n,F.rise'.mp e,J⟩
   .rintro⟨x,h,n,e,J⟩;exact⟨x,h,n,F.rise'.mpr e,J⟩
end
end
structure Sa where
 d:Addr
 f:Addr
 o:Addr
 s:Addr
 l:Addr
 p:Addr
 fb:L7
 la:L7
 pa:L7
noncomputable def fldS(z:Sa):List (Str×V):=putF "pieces" (.ref z.p) (putF "left" (.ref z.l) (putF "sizes" (.ref z.s) (putF "forms" (.ref z.o) (putF "first" (.ref z.f) (putF "limbs" (.ref z.d) [])))))
section
variable{z:Sa}
def Jc(h:¬a=b):(putF b v r).lookup a=r.lookup a:=by rw[zS,vc h]
def zq:(putF a v r).lookup a=some v:=by rw[zS,vd rfl]
def K5:(fldS z).lookup ("pieces" : Str)=some (.ref z.p):=zq
def j3e:(fldS z).lookup ("left" : Str)=some (.ref z.l):=(Jc (by trivial)).trans zq
def za:(fldS z).lookup ("sizes" : Str)=some (.ref z.s):=(Jc (by trivial)).trans ((Jc (by trivial)).trans zq)
def kE:(fldS z).lookup ("forms" : Str)=some (.ref z.o):=(Jc (by trivial)).trans ((Jc (by trivial)).trans ((Jc (by trivial)).trans zq))
def j2b:(fldS z).lookup ("first" : Str)=some (.ref z.f):=(Jc (by trivial)).trans ((Jc (by trivial)).trans ((Jc (by trivial)).trans ((Jc (by trivial)).trans zq)))
def j2c:(fldS z).lookup ("limbs" : Str)=some (.ref z.d):=(Jc (by trivial)).trans ((Jc (by trivial)).trans ((Jc (by trivial)).trans ((Jc (by trivial)).trans ((Jc (by trivial)).trans zq))))
def j0o{m:Str}(a:¬m = "pieces")(b:¬m = "left")(c:¬m = "sizes")(d:¬m = "forms")(e:¬m = "first")(f:¬m = "limbs"):(fldS z).lookup m=none:=(Jc a).trans ((Jc b).trans ((Jc c).trans ((Jc d).trans ((Jc e).trans (Jc f)))))
theorem Jj(f:Str)(v:V):∀r:List (Str×V),(putF f v r).length<=r.length+1
 | []=>vb _
 | (g,u)::r=>by
  unfold putF;split
  .exact Nat.le_succ _
  .rw[vQ,vQ];have:=Jj f v r;lia
end
def BookAt.less{H:Hp}(o:H a=some (.ins C dx fs))(B:BookAt H b pl pp las pas ls ps) :
  ∃i:Hp,(∀H',(∀c u,c≠a->H c=some u->H' c=some u)->Same i H')/\(∀{c u},i c=some u->c≠a)/\BookAt i b pl pp las pas ls ps:=by
 have f:∀{c:Addr} {g:N2},H c=some (.tup g)->(λc=>if c=a then none else H c) c=some (.tup g):=λ{c g} h=>by
  show(if c=a then none else H c)=_;rw[vc (λz=>by rw[z,o]at h;cases h)];exact h
 have p:∀{c:Addr} {g:N2},H c=some (.lst g)->(λc=>if c=a then none else H c) c=some (.lst g):=λ{c g} h=>by
  show(if c=a then none else H c)=_;rw[vc (λz=>by rw[z,o]at h;cases h)];exact h
 refine⟨λc=>if c=a then none else H c,λH' k c u h=>?_,λ{c u} h=>?_,f B.t,p B.l,B.la.mono λa x m=>f m,p B.p,B.pa.mono λa x m=>?_⟩
 .have h:(if c=a then none else H c)=some u:=h;by_cases e:c=a
  .rw[vd e]at h;cases h
  .rw[vc e]at h;exact k c u e h
 .have h:(if c=a then none else H c)=some u:=h;intro e;rw[vd e]at h;cases h
 .obtain⟨q,s,d⟩:=m;refine⟨q,f s,?_⟩;cases hx2:x.2 with
  | row r=>rw[hx2]at d;obtain⟨c,j,l⟩:=d;exact⟨c,f j,f l⟩
  | side r=>rw[hx2]at d;obtain⟨c,j,l⟩:=d;exact⟨c,f j,f l⟩
  | hold n=>rw[hx2]at d;exact f d
  | ring y n=>rw[hx2]at d;exact f d
  | rise y v n=>rw[hx2]at d;exact f d
  | again k y=>rw[hx2]at d;exact f d
def few(h:(putF f v r).length<=n)(k:n<1000):(putF f v r).length<1000:=vD h k
section
variable{a b c d e:Str}{u v w x y:V}
def few3:(putF c w (putF b v (putF a u []))).length<1000:=by
 have:=Jj c w (putF b v (putF a u []));have:=Jj b v (putF a u []);have:=Jj a u [];simp at *;lia
def few4:(putF d x (putF c w (putF b v (putF a u [])))).length<1000:=by
 have:=Jj d x (putF c w (putF b v (putF a u [])));have:=Jj c w (putF b v (putF a u []));have:=Jj b v (putF a u []);have:=Jj a u [];simp at *;lia
def few5:(putF e y (putF d x (putF c w (putF b v (putF a u []))))).length<1000:=by
 have:=Jj e y (putF d x (putF c w (putF b v (putF a u []))));have:=Jj d x (putF c w (putF b v (putF a u [])));have:=Jj c w (putF b v (putF a u []));have:=Jj b v (putF a u []);have:=Jj a u [];simp at *;lia
end
section
variable{L:L8}{fs:List Fn}{M:L1}{gs:L5}{names:L8}{ls:L4}{n:Nat}
end
noncomputable def setE(es:List (Int×Int))(h:L5):L5:=es.foldl (λh q=>h.set q.1.toNat q.2) h
def ze(q:Int×Int)(r:List (Int×Int))(h:L5):setE (q::r) h=setE r (h.set q.1.toNat q.2):=rfl
theorem J0:∀(es:List (Int×Int)) (h:L5),(setE es h).length=h.length
 | [],_=>rfl
 | q::r,h=>by rw[ze,J0 r,length_set]
theorem ZD:∀{es:List (Int×Int)} {h:L5} {i:Nat},(∀q∈es,0<=q.1)->(∀v,((i:Int),v)∉es)->(setE es h)[i]?=h[i]?
 | [],_,_,_,_=>rfl
 | q::r,h,i,p,n=>by
  rw[ze,ZD (λx c=>p x (vp _ c)) (λv b=>n v (vp _ b))];have:q.1.toNat≠i:=λe=>by
   have d:=p q vq;have a:q.1=(i:Int):=⋯
   exact n q.2 (by rw[<-a];exact vq)
  rw[List.getElem?_set_ne this]
theorem yU:∀{es:List (Int×Int)} {h:L5} {i:Nat} {v:Int},(es.map (·.1)).Pairwise (· < ·)->(∀q∈es,0<=q.1)->((i:Int),v)∈es->i<h.length->(setE es h)[i]?=some v
 | [],_,_,_,_,_,m,_=>nomatch m
 | q::r,h,i,v,pw,p,m,hi=>by
  rw[uy,pairwise_cons]at pw;rw[ze];rcases mem_cons.mp m with e | m
  .subst e;rw[ZD (λx a=>p x (vp _ a)) (λw b=>by
    have:=pw.1 _ (vK.mpr ⟨_,b,rfl⟩);exact ue this (Int.lt_irrefl _))]
   show(h.set (i:Int).toNat v)[i]?=_;rw[Int.toNat_natCast,List.getElem?_set_self hi]
  .exact yU pw.2 (λx a=>p x (vp _ a)) m (by rw[length_set];exact hi)
def j4q(d:(es.map (·.1)).Pairwise (· < ·))(p:∀q∈es,0<=q.1)(h:L5):setE es (setE es h)=setE es h:=by
 refine List.ext_getElem? λi=>?_
 by_cases b:i<h.length
 case neg=>rw[vT (by rw[J0,J0];lia),vT (by rw[J0];lia)]
 by_cases c:∃v,((i:Int),v)∈es
 .obtain⟨v,a⟩:=c;rw[yU d p a (by rw[J0];exact b),yU d p a b]
 .rw[ZD p (λv a=>c ⟨v,a⟩)]
section
variable{L:L8}{fs:List Fn}{M:L1}{gs:L5}{names:L8}{ls:L4}{n:Nat}{E:L0}
def WF(h:LastIn E r k v):LastIn E (j::r) k v:=by
 obtain⟨b,i,a,e,c,d⟩:=h;exact⟨j::b,i,a,by rw[e];rfl,c,d⟩
theorem Wz:∀{js:L6} {h:L5} {i:Nat},(∀j∈js,((E.getD j []).map (·.1)).Pairwise (· < ·)/\∀q∈E.getD j [],0<=q.1)->i<h.length->
  (∃v,LastIn E js i v/\(js.foldl (λh j=>setE (E.getD j []) h) h)[i]?=some v)\/((∀v,¬LastIn E js i v)/\(js.foldl (λh j=>setE (E.getD j []) h) h)[i]?=h[i]?)
 | [],h,i,_,_=>.inr ⟨λv ⟨f,j,g,e,_⟩=>by simp at e,rfl⟩
 | j::r,h,i,p,hi=>by
  obtain⟨D,z⟩:=p j vq;rw[v9];rcases Wz (js:=r) (h:=setE (E.getD j []) h) (i:=i) (λk B=>p k (vp _ B)) (by rw[J0];exact hi)with⟨v,a,b⟩ | ⟨a,b⟩
  .exact .inl ⟨v,WF a,b⟩
  .by_cases c:∃v,((i:Int),v)∈E.getD j []
   .obtain⟨v,d⟩:=c;refine .inl ⟨v,⟨[],j,r,rfl,d,λn t o u=>?_⟩,by rw[b];exact yU D z d hi⟩;exact no_last a t u
   .refine .inr ⟨λv d=>?_,by rw[b];exact ZD z λv d=>c ⟨v,d⟩⟩;obtain⟨f,k,g,e,x,A⟩:=d;cases f with
    | nil=>rw[nil_append]at e;cases e;exact c ⟨v,x⟩
    | cons y f=>rw[cons_append]at e;cases e;exact a v ⟨f,k,g,rfl,x,A⟩
where
 no_last:∀{r:L6} {i n:Nat} {o:Int},(∀v,¬LastIn E r i v)->n∈r->((i:Int),o)∈E.getD n []->False
  | [],_,_,_,_,m,_=>nomatch m
  | y::r,i,n,o,a,m,d=>by
   have w:∀v,¬LastIn E r i v:=λv d=>a v (WF d)
   rcases mem_cons.mp m with e | m
   .subst e;exact a o ⟨[],n,r,rfl,d,λC s F l=>no_last w s l⟩
   .exact no_last w m d
theorem yg:∀(js:L6) (h:L5),(js.foldl (λh j=>setE (E.getD j []) h) h).length=h.length
 | [],_=>rfl
 | j::r,h=>by rw[v9,yg r,J0]
end
section
variable{α β:Type}
theorem yM{f:α->List β}{p:α->Bool}:∀{R:List α},(∀x∈R,p x=false->f x=[])->(R.filter p).flatMap f=R.flatMap f
 | [],_=>rfl
 | x::r,k=>by
  cases e:p x with
  | true=>
   rw[List.filter_cons_of_pos e,flatMap_cons,flatMap_cons,yM λy a=>k y (vp _ a)]
  | false=>
   rw[List.filter_cons_of_neg (by simp[e]),flatMap_cons,k x vq e,yM λy a=>k y (vp _ a)];rfl
end
section
variable{ls:L4}{ps:N1}{gs:L5}{hs:L1}{E:L0}{t:Int}
noncomputable def ovB(gs:L5)(x:Nat×Int):Bool:=decide (gs.getD x.1 0<=x.2)
noncomputable def leafB(ps:N1)(gs:L5)(x:Nat×Int):Bool:=(pcB ps gs x.1).isEmpty
def j6N{i:Nat}{p:Str×Fm}(b:ps[i]?=some p){x:Nat×Int}(h:x∈wth gs t (pcB ps gs i)):x.1∈inP ps p.2:=by
 obtain⟨q,a,e⟩:=xA h;unfold pcB at a;rw[b]at a;rw[e];exact YF a
def j4n(N:Sn ls ps gs hs):∀{i:Nat} {t:Int} {x:Nat×Int},i<ps.length->x∈reach ps gs i t->∀k∈hs.getD x.1 [],k∈hs.getD i []:=by
 intro i
 induction i using Nat.strongRecOn with
 | ind i ih=>
  intro t x c a k b;by_cases h:gs.getD i 0<=t\/pcB ps gs i=[]
  .rw[qm h]at a;rw[vo.mp a]at b;exact b
  .rw[Qv N.s.w h]at a;obtain⟨y,e,a⟩:=mem_flatMap.mp a;have f:=Zp N.s.w e;have d:=vz c;exact((N.m i _ _ d (yZ N.s N.hl c)).2 k).mpr (.inl ⟨y.1,j6N d e,ih y.1 f ⋯ a k b⟩)
theorem kP{k:Nat}:∀{es:List (Int×Int)} {h:L5},(∀q∈es,q.1.toNat≠k)->(setE es h).getD k 0=h.getD k 0
 | [],_,_=>rfl
 | q::r,h,n=>by
  rw[ze,kP λy a=>n y (vp _ a),vy,vy,List.getElem?_set_ne (n q vq)]
def j1m(N:Sn ls ps gs hs)(b:E.length=ps.length)(c:EndOk ls ps E)(hi:i<ps.length)(a:q∈E.getD i []):q.1∈hs.getD i []:=by
 have:=N.s.mv _ (by rw[vt];exact b) (j3D b c) i hi;rw[<-this,vy,vv,vz ⋯];rw[vy,vz ⋯]at a;exact vK.mpr ⟨q,a,rfl⟩
noncomputable def strH(ls:L4)(ps:N1)(gs:L5)(E:L0)(t:Int):L5:=((reach ps gs (ps.length-1) t).filter (ovB gs)).foldl (λh x=>setE (E.getD x.1 []) h) (ls.map (·.2))
def j2l{x:Nat×Int}{y:Str}{n:Int}{b:Str}(a:ps[x.1]?=some (b,.ring y n)):leafB ps gs x=true:=by
 unfold leafB pcB;rw[a];rfl
def X7(N:Sn ls ps gs hs){P:L3}(a:P.filter (leafB ps gs)=(reach ps gs (ps.length-1) t).filter λx=>!ovB gs x):P.flatMap (ringX ps)=ringsW ps gs t:=by
 have d:=N.ne;unfold ringsW;rw[<-yM (p:=leafB ps gs) (λx _ c=>?_),a,yM λx b c=>?_]
 .have c:ovB gs x=true:=by simpa using c
  have c:=of_decide_eq_true c;have:=(N.g (XZ N.s.w (show ps.length-1<ps.length by lia) b)).1;unfold ringX;split
  .rw[vc ⋯]
  .rfl
 .unfold ringX;split
  .rename_i hp;rw[j2l hp]at c;cases c
  .rfl
end
structure StageAt(C:Addr)(H:Hp)(a:Addr)(z:Sa)(ls:L4)(ps:N1)(gs:L5)(E:L0):Prop where
 ob:∃dx,H a=some (.ins C dx (fldS z))
 hd:H z.d=some (.dK (numK (nmsOf ls)))
 hf:H z.f=some (.lst ((ls.map (·.2)).map V.int))
 ho:H z.o=some (.lst (z.fb.map V.ref))
 fo:All2 (λa p=>FormAt H a p.2) z.fb ps
 hs:H z.s=some (.lst (gs.map V.int))
 hl:H z.l=some (.lst (z.la.map V.ref))
 el:E.length=ps.length
 ea:EndsAt H z.la E
 eo:EndOk ls ps E
 hp:H z.p=some (.lst (z.pa.map V.ref))
 pa:PssAt H z.pa (ps.map λp=>pcsI gs p.2 (inP ps p.2))
def StageAt.same{C:Addr}{H H':Hp}{a:Addr}{z:Sa}{ls:L4}{ps:N1}{gs:L5}{E:L0}(A:StageAt C H a z ls ps gs E)(s:Same H H'):StageAt C H' a z ls ps gs E:=
 ⟨A.ob.imp λg h=>s _ _ h,s _ _ A.hd,s _ _ A.hf,s _ _ A.ho,All2.mono A.fo λa p h=>FormAt.same s h,s _ _ A.hs,s _ _ A.hl,A.el,All2.mono A.ea λa e ⟨c,d,f⟩=>⟨c,s _ _ d,All2.mono f λb q h=>s _ _ h⟩,A.eo,
  s _ _ A.hp,All2.mono A.pa λa e ⟨c,d,f⟩=>⟨c,s _ _ d,All2.mono f λb q h=>s _ _ h⟩⟩
inductive sp_initS(C:Addr)(vs:N2)(H:Hp)(Q:VK)(xk:XK):Prop
 | mk (a dx b pl pp:Addr) (las pas:L7) (ls:L4) (ps:N1) (gs:L5) (hs:L1) (_:vs=[.ref a,.ref b]) (_:H a=some (.ins C dx [])) (_:BookAt H b pl pp las pas ls ps) (_:Sn ls ps gs hs) (_:∀(z:Sa) (E:L0) (H':Hp),(∀c u,c≠a->H c=some u->H' c=some u)->StageAt C H' a z ls ps gs E->Q .non H'):sp_initS C vs H Q xk
inductive sp_wordsS(C:Addr)(vs:N2)(H:Hp)(Q:VK)(xk:XK):Prop
 | mk (a:Addr) (z:Sa) (ls:L4) (ps:N1) (gs:L5) (hs:L1) (E:L0) (t:Int) (_:vs=[.ref a,.int t]) (_:StageAt C H a z ls ps gs E) (_:Sn ls ps gs hs) (_:0<=t) (_:t<=gs.getD (ps.length-1) 0) (_:∀(l:Addr) (H':Hp),Same H H'->H l=none->H' l=some (.lst ((ringsW ps gs t).map V.str))->(ringsW ps gs t).length<=5000->Q (.ref l) H'):sp_wordsS C vs H Q xk
def FormAt.put{H H':Hp}{a:Addr}{f:Fm}(k:∀b xs,H b=some (.tup xs)->H' b=some (.tup xs))(h:FormAt H a f):FormAt H' a f:=by
 cases f with
 | row ps=>obtain⟨c,d,e⟩:=h;exact⟨c,k _ _ d,k _ _ e⟩
 | side ps=>obtain⟨c,d,e⟩:=h;exact⟨c,k _ _ d,k _ _ e⟩
 | hold n=>exact k _ _ h
 | ring x n=>exact k _ _ h
 | rise x v n=>exact k _ _ h
 | again k' x=>exact k _ _ h
theorem j4B{a:Type}{f:a->Nat}:∀{l:List a},(∀x∈l,1<=f x)->l.length<=(l.map f).sum
 | [],_=>vb _
 | x::r,h=>by
  have c:=h x vq;have d:=j4B (l:=r) λy b=>h y (vp _ b)
  rw[uy,sum_cons,vQ];lia
section
variable{ls:L4}{ps:N1}{gs:L5}{E:L0}{D:L3}{x:Nat×Int}
noncomputable def hOf(ls:L4)(gs:L5)(E:L0)(D:L3):L5:=(D.filter (ovB gs)).foldl (λh x=>setE (E.getD x.1 []) h) (ls.map (·.2))
def K8(h:ovB gs x=false):hOf ls gs E (if leafB ps gs x=true then D++[x]else D)=hOf ls gs E D:=by
 split
 .unfold hOf;rw[filter_append,List.filter_cons_of_neg (by rw[h];decide)];show(D.filter (ovB gs)++[]).foldl _ _=_;rw[append_nil]
 .rfl
def wa(h:ovB gs x=true):hOf ls gs E (D++[x])=setE (E.getD x.1 []) (hOf ls gs E D):=by
 unfold hOf;rw[filter_append,List.filter_cons_of_pos h,foldl_append];rfl
def WJ(W:WfB ls ps){i:Nat}{t:Int}(c:t<gs.getD i 0):1+((wth gs t (pcB ps gs i)).map λx=>nodes ps gs x.1 x.2).sum<=nodes ps gs i t:=by
 by_cases e:pcB ps gs i=[]
 .rw[e,Yi (.inr e)];exact vb _
 .rw[wm W (λh=>h.elim (λz=>⋯) e)];exact vb _
end
structure ScAt(ls:L4)(ps:N1)(gs:L5)(E:L0)(t0:Int)(H H':Hp)(p1 p2 p4:Addr)(pas tas:L7)(D P S:L3):Prop where
 sm:Same H H'
 e1:H' p1=some (.lst ((hOf ls gs E D).map V.int))
 e2:H' p2=some (.lst (pas.map V.ref))
 eT:H' p4=some (.lst (tas.map V.ref))
 gP:GonAt H' pas P
 gT:GonAt H' tas S
 inv:D++S.reverse.flatMap (λx=>reach ps gs x.1 x.2)=reach ps gs (ps.length-1) t0
 hS:∀x∈S,x.1<ps.length/\0<=x.2
 hP:P.filter (leafB ps gs)=D.filter λx=>!ovB gs x
 bP:∀x∈P,x.1<ps.length/\0<=x.2/\x.2<gs.getD x.1 0
 bnd:P.length+(S.map λx=>nodes ps gs x.1 x.2).sum<=5000
 ll:(hOf ls gs E D).length=ls.length
 hb:∀h∈hOf ls gs E D,0<=h/\h<=10^18
section
variable{L:L8}{fs:List Fn}{M:L1}{gs:L5}{names:L8}{n:Nat}{E:L0}
end
noncomputable def mixB(c k:Int):Int:=(c%10^30+k*k+1)*314159265358979323846264338327%(10^30+57)
def YG(c k:Int):0<=mixB c k/\mixB c k<10^30+57:=⟨ve _ nofun,vf _ nofun⟩
def KF:Sp:=λvs H Q _=>∃c k:Int,vs=[.int c,.int k]/\0<=k/\k<=10^20/\Q (.int (mixB c k)) H
noncomputable def tkB(x y m:Int):Int×Int×Int:=if 0<x then(x%m,x/m,y)else(mixB ((y+m)*314159265358979323846264338327%(10^30+57)) m/1000%m,x,mixB ((y+m)*314159265358979323846264338327%(10^30+57)) m)
def Ji(h:1<=m):0<=(tkB x y m).1/\(tkB x y m).1<m:=by
 unfold tkB;split<;>exact⟨ve _ ⋯,vf _ ⋯⟩
inductive sp_takeB(vs:N2)(H:Hp)(Q:VK)(xk:XK):Prop
 | mk (p:Addr) (x y m:Int) (_:vs=[.ref p,.int m]) (_:H p=some (.lst [.int x,.int y])) (_:1<=m) (_:m<=10^20) (_:0<=y) (_:y<10^30+57) (_:∀H',Ex p H H'->H' p=some (.lst [.int (tkB x y m).2.1,.int (tkB x y m).2.2])->Q (.int (tkB x y m).1) H'):sp_takeB vs H Q xk
noncomputable def abB:Str:=Str.ofString "abcdefghijklnopqrstuvwxyz"
noncomputable def wdB(p k:Nat):Str:=Txt.slice "mm" none (some (p:Int))++(⟨#[abB.cps.toList.getD (k%25) 97]⟩:Str)++(⟨#[if k<25 then 110 else 111]⟩:Str)++Txt.slice "mm" (some (p:Int)) none
inductive sp_wordB(vs:N2)(H:Hp)(Q:VK)(xk:XK):Prop
 | mk (p k:Nat) (_:vs=[.int (p:Nat),.int (k:Nat)]) (_:p<3) (_:k<50) (_:Q (.str (wdB p k)) H):sp_wordB vs H Q xk
def Xp:(Txt.slice x a b).length<=x.length:=j4Y
noncomputable def knK(nm:L8)(gs:L5):List (Key×V):=(nm.zip gs).map λp=>(Sum.inr p.1,.int p.2)
def XD(h:nm.length=gs.length):(knK nm gs).map (·.1)=nm.map Sum.inr:=by
 unfold knK;rw[v8];have e:((λx:Key×V=>x.1)∘λp:Str×Int=>((Sum.inr p.1:Key),V.int p.2))=(λx:Str=>(Sum.inr x:Key))∘Prod.fst:=rfl;rw[e,<-v8,List.map_fst_zip ⋯]
def Kx(c:nm.Nodup)(h:nm.length=gs.length)(b:j<nm.length):valV (knK nm gs) (Sum.inr (nm.getD j ⟨#[]⟩))=some (.int (gs.getD j 0)):=by
 refine wP (j:=j) (by rw[XD h];exact pairwise_map.mpr (c.imp λh e=>h (Sum.inr.inj e))) ?_;have a:j<gs.length:=⋯
 have e:(nm.zip gs)[j]?=some (nm[j],gs[j]):=List.getElem?_zip_eq_some.mpr ⟨vz b,vz a⟩;unfold knK;rw[vv,e,vy,vy,vz b,vz a];rfl
inductive sp_longB(vs:N2)(H:Hp)(Q:VK)(xk:XK):Prop
 | mk (fa d:Addr) (f:Fn) (nm:L8) (gs:L5) (L:L8) (M:L1) (_:vs=[.ref fa,.ref d]) (_:FormAt H fa (toldF nm f)) (_:H d=some (.dK (knK nm gs))) (_:nm.Nodup) (_:nm.length=gs.length) (_:PreN L M nm.length f) (_:(∀j,j<nm.length->1<=gs.getD j 0/\gs.getD j 0<=10^60)) (_:∀(g:Int) (H':Hp),Same H H'->LenN gs f g->Q (.int g) H'):sp_longB vs H Q xk
def StrsAt(H:Hp)(as:L7)(Ms:List L8):Prop:=All2 (λa ks=>H a=some (.lst (ks.map V.str))) as Ms
noncomputable def rsB:Fn->L6
 | .row is=>is
 | .side is=>is
 | _=>[]
def MovS(Ms:List L8)(f:Fn)(ks:L8):Prop:=ks.Nodup/\∀s,s∈ks↔(∃j∈f.js,s∈Ms.getD j [])\/∃h n,f = .rise s h n
inductive sp_movesB(vs:N2)(H:Hp)(Q:VK)(xk:XK):Prop
 | mk (fa nl ml:Addr) (mas:L7) (f:Fn) (nm:L8) (Ms:List L8) (L:L8) (M:L1) (_:vs=[.ref fa,.ref nl,.ref ml]) (_:FormAt H fa (toldF nm f)) (_:H nl=some (.lst (nm.map V.str))) (_:H ml=some (.lst (mas.map V.ref))) (_:StrsAt H mas Ms) (_:nm.Nodup) (_:Ms.length=nm.length) (_:nm.length<=20) (_:PreN L M nm.length f) (_:(∀ks∈Ms,ks.length<=8)) (_:∀(l:Addr) (ks:L8) (H':Hp),Same H H'->H l=none->H' l=some (.lst (ks.map V.str))->MovS Ms f ks->ks.length<=80->Q (.ref l) H'):sp_movesB vs H Q xk
theorem xp(n:Str):∀hs:L8,inV (.str n) (hs.map V.str)=decide (n∈hs)
 | []=>by simp[inV]
 | h::r=>by
  have a:=xp n r;unfold inV at a|-;rw[uy,any_cons,a];have e:eqV (.str h) (.str n)=decide (h=n):=by
   show(h==n)=_;by_cases c:h=n
   .subst c;simp
   .rw[vH c];exact beq_eq_false_iff_ne.mpr c
  rw[e,Bool.eq_iff_iff];simp only[Bool.or_eq_true,decide_eq_true_eq,mem_cons];constructor
  .rintro(x | x)
   .exact .inl x.symm
   .exact .inr x
  .rintro(x | x)
   .exact .inl x.symm
   .exact .inr x
theorem flatB:∀hs:L8,(hs.map V.str).all flatV=true
 | []=>rfl
 | h::r=>by rw[uy,all_cons,flatB r];rfl
def lidxB{xs:L8}(d:xs.Nodup){j:Nat}(f:j<xs.length):(xs.map V.str)[j]?=some (.str (xs.getD j ⟨#[]⟩))/\eqV (.str (xs.getD j ⟨#[]⟩)) (.str (xs.getD j ⟨#[]⟩))=true/\∀(n:Nat) (z:V),n<j->(xs.map V.str)[n]?=some z->eqV z (.str (xs.getD j ⟨#[]⟩))=false:=by
 have h:xs[j]?=some (xs.getD j ⟨#[]⟩):=by rw[vy,vz f];rfl
 refine⟨by rw[vv,h];rfl,(by show(xs.getD j ⟨#[]⟩==xs.getD j ⟨#[]⟩)=true;exact beq_self_eq_true _),λn z i c=>?_⟩;rw[vv]at c;obtain⟨w,g,rfl⟩:=vg.mp c;show(w==xs.getD j ⟨#[]⟩)=false;refine beq_eq_false_iff_ne.mpr λe=>?_
 rw[<-e]at h;have a:=jW d g;have b:=jW d h;lia
noncomputable def plB(L ks:L8):L5:=((List.range L.length).filter λi=>decide (L.getD i ⟨#[]⟩∈ks)).map λi:Nat=>(i:Int)
def ZN:k∈plB L ks↔∃(i:Nat) (s:Str),L[i]?=some s/\s∈ks/\k=(i:Int):=by
 unfold plB;constructor
 .intro h;obtain⟨i,d,rfl⟩:=vK.mp h;obtain⟨a,c⟩:=vP.mp d;have b:=v4.mp a;refine⟨i,L[i],vz b,?_,rfl⟩;have:=of_decide_eq_true c;rw[vy,vz b]at this;exact this
 .rintro⟨i,s,a,c,rfl⟩;have b:=(vx.mp a).1;refine vK.mpr ⟨i,vP.mpr ⟨v4.mpr b,vG ?_⟩,rfl⟩;rw[vy,a];exact c
def j6B:(plB L ks).Pairwise (· < ·):=by
 unfold plB;refine pairwise_map.mpr ?_;refine(List.Pairwise.filter _ (List.pairwise_lt_range (n:=L.length))).imp λ{a b} h=>?_
 lia
def InL(L:L8)(Ms:List L8):Prop:=∀ks∈Ms,ks.Nodup/\∀s∈ks,s∈L
def InL.at'(I:InL L Ms)(j:Nat):∀s∈Ms.getD j [],s∈L:=λs a=>by
 rw[vy]at a;cases e:Ms[j]? with
 | none=>rw[e]at a;cases a
 | some ks=>rw[e]at a;exact(I ks (vm e)).2 s a
def j3q{a b:L8}(d:a.Nodup)(h:∀x∈a,x∈b):a.length<=b.length:=by
 induction a generalizing b with
 | nil=>exact va _
 | cons x r ih=>
  rw[um]at d;have f:=h x vq;have:=ih (b:=b.erase x) d.2 λy g=>by
   have c:y≠x:=λe=>d.1 (e▸g)
   exact(List.mem_erase_of_ne c).mpr (h y (vp _ g))
  rw[List.length_erase_of_mem f]at this;have:0<b.length:=length_pos_of_mem f;rw[vQ];lia
def InL.len{L:L8}{Ms:List L8}(I:InL L Ms){ks:L8}(h:ks∈Ms):ks.length<=L.length:=j3q (I ks h).1 (I ks h).2
def YR{L:L8}{Ms:List L8}(j:Nat):(Ms.map (plB L)).getD j []=plB L (Ms.getD j []):=by
 rw[vy,vy,vv];cases Ms[j]? with
 | none=>
  show[]=plB L [];refine(List.eq_nil_iff_forall_not_mem.mpr λk a=>?_).symm;obtain⟨_,_,_,h,_⟩:=ZN.mp a;cases h
 | some x=>rfl
def j6C(h:∀s∈ks,s∈L)(n:ks≠[]):plB L ks≠[]:=λz=>by
 obtain⟨s,a⟩:=List.exists_mem_of_ne_nil ks n;obtain⟨i,b⟩:=List.mem_iff_getElem?.mp (h s a);have:=ZN.mpr ⟨i,s,b,a,rfl⟩;rw[z]at this;cases this
def ApartS(Ms:List L8)(is:L6):Prop:=(∀j∈is,Ms.getD j []≠[])/\is.Pairwise λa b=>∀s∈Ms.getD a [],¬s∈Ms.getD b []
def ApartS.n(I:InL L Ms)(h:ApartS Ms is):ApartN (Ms.map (plB L)) is:=by
 refine⟨λj p=>?_,h.2.imp λ{a b} d k g c=>?_⟩
 .rw[YR];exact j6C (I.at' j) (h.1 j p)
 .rw[YR]at g c;obtain⟨i,s,m,n,rfl⟩:=ZN.mp g;obtain⟨q,r,f,o,e⟩:=ZN.mp c;have l:i=q:=⋯
  subst l;rw[m]at f;cases f;exact d s n o
def MovS.n(h:MovS Ms f ks):MovN L (Ms.map (plB L)) f (plB L ks):=by
 refine⟨j6B,λk=>?_⟩;rw[ZN];constructor
 .rintro⟨i,s,a,b,rfl⟩;rcases(h.2 s).mp b with⟨j,c,g⟩ | ⟨v,n,e⟩
  .exact .inl ⟨j,c,by rw[YR];exact ZN.mpr ⟨i,s,a,g,rfl⟩⟩
  .exact .inr ⟨s,v,n,i,e,a,rfl⟩
 .rintro(⟨j,c,d⟩ | ⟨x,v,n,i,e,a,rfl⟩)
  .rw[YR]at d;obtain⟨i,s,a,b,rfl⟩:=ZN.mp d;exact⟨i,s,a,(h.2 s).mpr (.inl ⟨j,c,b⟩),rfl⟩
  .exact⟨i,x,a,(h.2 x).mpr (.inr ⟨v,n,e⟩),rfl⟩
def MovS.inL{L:L8}{Ms:List L8}{f:Fn}{ks:L8}{M:L1}{n:Nat}(I:InL L Ms)(p:PreN L M n f)(h:MovS Ms f ks):ks.Nodup/\∀s∈ks,s∈L:=by
 refine⟨h.1,λs c=>?_⟩;rcases(h.2 s).mp c with⟨j,_,b⟩ | ⟨v,n,e⟩
 .exact I.at' j s b
 .subst e;obtain⟨⟨i,a⟩,_⟩:=p;exact vm a
def DOk.addN{L:L8}{h:List Fn}{M:L1}{gs:L5}{f:Fn}{ks:L5}{g:Int}(D:DOk L h M gs)(r:PreN L M h.length f)(u:MovN L M f ks)(v:LenN gs f g)(w:1<=g/\g<=10^60):DOk L (h++[f]) (M++[ks]) (gs++[g]):=by
 have s:=D.ml;have o:=D.gl;refine⟨by simp[s],by simp[o],λi q d=>?_,λi l=>?_⟩
 .by_cases l:i<h.length
  .rw[vB l]at d;obtain⟨a,b,c⟩:=D.f i q d;have m:=a.js.2;rw[Qd ⋯,Qd ⋯];exact⟨a.ext ⋯,b.ext λj k=>by have:=m j k;lia,c.ext λj k=>by have:=m j k;lia⟩
  .rw[vC ⋯]at d;have p:i=h.length:=by
    have:=(vx.mp d).1;simp at this;lia
   subst p;rw[Nat.sub_self]at d;have e:q=f:=(vL d).symm;subst e;have m:=r.js.2;have t:(M++[ks]).getD h.length []=ks:=by rw[<-s];exact zr
   have n:(gs++[g]).getD h.length 0=g:=by rw[<-o];exact zr
   rw[t,n];exact⟨r.ext ⋯,u.ext λj k=>by have:=m j k;lia,v.ext λj k=>by have:=m j k;lia⟩
 .rw[vn]at l;have l:i<h.length+1:=l;by_cases c:i<h.length
  .rw[Qd ⋯];exact D.g i c
  .have e:i=h.length:=⋯
   subst e;have n:(gs++[g]).getD h.length 0=g:=by rw[<-o];exact zr
   rw[n];exact w
def j57(p:PreN L M n f)(l:LenN gs f g)(b:∀j,j<n->1<=gs.getD j 0):1<=g:=by
 cases f with
 | hold m=>obtain⟨c,o⟩:=p;have e:g=m:=l;lia
 | ring x m=>obtain⟨c,o,_⟩:=p;have e:g=m:=l;lia
 | rise x v m=>obtain⟨_,_,_,c,o⟩:=p;have e:g=m:=l;lia
 | row is=>
  obtain⟨c,o,d⟩:=p;have e:g=(is.map λj=>gs.getD j 0).sum:=l;have q:∀a:L6,(∀j∈a,j<n)->0<=(a.map λj=>gs.getD j 0).sum:=λa=>by
   induction a with
   | nil=>exact λ_=>vA _
   | cons j a ih=>
    intro h;rw[uy,sum_cons];have:=b j (h j vq);have:=ih λi r=>h i (vp _ r)
    lia
  cases is with
  | nil=>exact ue rfl c
  | cons j a=>
   rw[e,uy,sum_cons];have u:=b j (d j vq);have:=q a λi r=>d i (vp _ r)
   lia
 | side is=>
  obtain⟨_,_,d,_⟩:=p;obtain⟨⟨j,t,e⟩,_⟩:=l;have:=b j (d j t);lia
 | again k j=>
  obtain⟨c,o,d⟩:=p;have e:g=k*gs.getD j 0:=l;have s:=b j d;have:=Int.mul_le_mul c s nofun ⋯;lia
def LenN.uniq(h:LenN gs f g)(h':LenN gs f g'):g=g':=by
 cases f with
 | side is=>
  obtain⟨⟨j,b,e⟩,m⟩:=h;obtain⟨⟨c,a,i⟩,d⟩:=h';have:=m c a;have:=d j b;lia
 | hold n=>exact Eq.trans h (Eq.symm h')
 | ring x n=>exact Eq.trans h (Eq.symm h')
 | rise x v n=>exact Eq.trans h (Eq.symm h')
 | row is=>exact Eq.trans h (Eq.symm h')
 | again k j=>exact Eq.trans h (Eq.symm h')
def eqvB(xs:L8):PyData.eqv (.list (xs.map PyData.str)) (.list [])=decide (xs=[]):=by
 cases xs<;>simp[PyData.eqv,PyData.eqvAll]
def shpB{xs:L8}(h:∀x∈xs,Ws.isW x=true):SeqAt.shaped (.list (xs.map PyData.str))=true:=(Shp.lst (n:=0) (j4r h)).ok nofun
def inB(n:Str)(a:L8):(if false=true then !inV (.str n) (a.map V.str)else inV (.str n) (a.map V.str))=decide (n∈a):=by rw[vc nofun,xp]
def Xj{xs:N2}{k:Int}(h:∀v∈xs,∃w:Str,v = .str w/\Ws.isW w=true)(c:0<=k)(d:k<(xs.length:Int)):∃w:Str,atI xs k=some (.str w)/\Ws.isW w=true:=by
 obtain⟨j,rfl⟩:∃j:Nat,k=(j:Int):=⟨k.toNat,⋯⟩
 have a:j<xs.length:=⋯
 obtain⟨w,e,b⟩:=h xs[j] (getElem_mem a);exact⟨w,L2.jN (by rw[vz a,e]),b⟩
def j1b{xs:N2}{lo hi:Option Int}{v:V}(h:v∈cutV xs lo hi):v∈xs:=List.mem_of_mem_drop (mem_of_mem_take h)
def zL{a:L8}{j:Nat}(h:j<a.length):atI (a.map V.str) ((j:Nat):Int)=some (.str (a.getD j ⟨#[]⟩)):=by
 refine L2.jN ?_;rw[vv,vy,vz h];rfl
structure NmB(nl ml:Addr)(mas:L7)(L nm:L8)(Ms:List L8)(H:Hp):Prop where
 en:H nl=some (.lst (nm.map V.str))
 em:H ml=some (.lst (mas.map V.ref))
 am:StrsAt H mas Ms
 il:InL L Ms
 ml:Ms.length=nm.length
 n20:nm.length<=20
 l8:L.length<=8
 w:∀x∈nm,Ws.isW x=true
 lw:∀x∈L,Ws.isW x=true
def NmB.same{d c:Addr}{b:L7}{L e:L8}{Ms:List L8}{H H':Hp}(N:NmB d c b L e Ms H)(s:Same H H'):NmB d c b L e Ms H':=
 ⟨s _ _ N.en,s _ _ N.em,N.am.mono λa x h=>s _ _ h,N.il,N.ml,N.n20,N.l8,N.w,N.lw⟩
def NmB.mv{k i:Addr}{a:L7}{L c:L8}{Ms:List L8}{H:Hp}(N:NmB k i a L c Ms H){j:Nat}(g:j<c.length):∃b,a[j]?=some b/\H b=some (.lst ((Ms.getD j []).map V.str))/\(Ms.getD j []).length<=8/\∀x∈Ms.getD j [],Ws.isW x=true:=by
 have e:Ms[j]?=some (Ms.getD j []):=by rw[vy,vz (by rw[N.ml];exact g)];rfl
 obtain⟨b,d,f⟩:=N.am.get e;have:=N.il.len (vm e);have:=N.l8;exact⟨b,d,f,⋯,λx h=>N.lw x (N.il.at' j x h)⟩
def BdB(H:Hp)(bd:Addr)(b0 b1 b2 b3 b4:Int):Prop:=H bd=some (.lst [.int b0,.int b1,.int b2,.int b3,.int b4])/\1<=b0/\b0<=10^18/\1<=b1/\b1<=10^18/\1<=b2/\b2<=10^18+1/\1<=b3/\b3<=10^18/\1<=b4/\b4<=10^60
def at01{a c b2 b3 b4 i:Int}(d:1<=a/\a<=10^18)(e:1<=c/\c<=10^18)(f:0<=i)(g:i<2):∃b:Int,atI [V.int a,V.int c,V.int b2,V.int b3,V.int b4] i=some (V.int b)/\1<=b/\b<=10^18:=by
 have:i=0\/i=1:=⋯
 rcases this with rfl | rfl
 .exact⟨a,rfl,d⟩
 .exact⟨c,rfl,e⟩
structure LmB(pl:Addr)(las:L7)(ls:L4)(H:Hp):Prop where
 el:H pl=some (.lst (las.map V.ref))
 la:All2 (LimbAt H) las ls
 l1:1<=ls.length
def LmB.same{H H':Hp}(N:LmB pl las ls H)(s:Same H H'):LmB pl las ls H':=⟨s _ _ N.el,N.la.mono λa x h=>s _ _ h,N.l1⟩
def j4m{H:Hp}(h:Q (.int (10^12)) H):rI CPow (λi j=>.int (i^j.toNat)) (.int 10) (.int 12) H Q:=⟨10,12,rfl,rfl,⟨by decide,by decide,by decide⟩,h⟩
inductive sp_lastB(vs:N2)(H:Hp)(Q:VK)(xk:XK):Prop
 | mk (nl d:Addr) (nm:L8) (gs:L5) (most:Int) (_:vs=[.ref nl,.ref d,.int most]) (_:H nl=some (.lst (nm.map V.str))) (_:H d=some (.dK (knK nm gs))) (_:nm.Nodup) (_:nm.length=gs.length) (_:1<=nm.length) (_:nm.length<=20) (_:(∀j,j<nm.length->1<=gs.getD j 0/\gs.getD j 0<=most)) (_:∀(b:Addr) (is:L6) (H':Hp),Same H H'->H' b=some (.tup ((is.map λj=>nm.getD j ⟨#[]⟩).map V.str))->is≠[]->is.length<=5->(∀j∈is,j<nm.length)->Q (.ref b) H'):sp_lastB vs H Q xk
noncomputable def atB(n:Int)(len t:Nat):Nat:=(((len:Int)-1-(t:Int)*(1+n%3))%(len:Int)).toNat
noncomputable def nmS(n:Int)(len:Nat)(Ms:List L8)(ro:Bool):Nat->L6×L8
 | 0=>([],[])
 | t+1=>if ro=true then(if(t:Int)<1+n/3%5 then((nmS n len Ms ro t).1++[atB n len t],(nmS n len Ms ro t).2)else nmS n len Ms ro t)
  else if Ms.getD (atB n len t) []≠[]/\((Ms.getD (atB n len t) []).filter λs=>decide (s∈(nmS n len Ms ro t).2))=[]/\(nmS n len Ms ro t).1.length<4 then((nmS n len Ms ro t).1++[atB n len t],(nmS n len Ms ro t).2++Ms.getD (atB n len t) [])else nmS n len Ms ro t
section
variable{n:Int}{len:Nat}{Ms:List L8}{ro:Bool}
def j0a(h:1<=len):atB n len t<len:=by
 unfold atB;have a:=ve ((len:Int)-1-(t:Int)*(1+n%3)) (show(len:Int)≠0 by lia);have b:=vf ((len:Int)-1-(t:Int)*(1+n%3)) (show(0:Int)<(len:Int) by lia);lia
def j3K(t:Nat):nmS n len Ms ro (t+1)=if ro=true then(if(t:Int)<1+n/3%5 then((nmS n len Ms ro t).1++[atB n len t],(nmS n len Ms ro t).2)else nmS n len Ms ro t)
  else if Ms.getD (atB n len t) []≠[]/\((Ms.getD (atB n len t) []).filter λs=>decide (s∈(nmS n len Ms ro t).2))=[]/\(nmS n len Ms ro t).1.length<4 then((nmS n len Ms ro t).1++[atB n len t],(nmS n len Ms ro t).2++Ms.getD (atB n len t) [])else nmS n len Ms ro t:=rfl
theorem j0D(h:1<=len):∀(t:Nat) (j:Nat),j∈(nmS n len Ms ro t).1->j<len
 | 0,j,hj=>nomatch hj
 | t+1,j,hj=>by
  have a:=j0D h t j;unfold nmS at hj;split at hj
  .split at hj
   .rcases vh.mp hj with z | z
    .exact a z
    .rw[vo.mp z];exact j0a h
   .exact a hj
  .split at hj
   .rcases vh.mp hj with z | z
    .exact a z
    .rw[vo.mp z];exact j0a h
   .exact a hj
theorem j3L(b:∀j,(Ms.getD j []).length<=8):∀t:Nat,(nmS n len Ms ro t).2.length<=8*(nmS n len Ms ro t).1.length
 | 0=>vb _
 | t+1=>by
  have a:=j3L b t;have c:=b (atB n len t);unfold nmS;split
  .split
   .rw[vn];show(nmS n len Ms ro t).2.length<=8*(_+1);lia
   .exact a
  .split
   .rw[vn,vn];show _<=8*(_+1);lia
   .exact a
theorem Ky:∀t:Nat,(nmS n len Ms ro t).1.length<=t/\(nmS n len Ms ro t).1.length<=5
 | 0=>⟨vb _,va _⟩
 | t+1=>by
  obtain⟨a,b⟩:=Ky t;have d:=vf (n/3) (show(0:Int)<5 by decide);unfold nmS;split
  .split
   .rename_i c;rw[vn];exact⟨by show _+1<=_;lia,by show _+1<=5;lia⟩
   .lia
  .split
   .rename_i c;rw[vn];have:=c.2.2;exact⟨by show _+1<=_;lia,by show _+1<=5;lia⟩
   .lia
theorem j3J(a:ro=true):∀t:Nat,0<t->(nmS n len Ms ro t).1≠[]
 | 0,h=>ue h ⋯
 | t+1,_=>by
  have b:=ve (n/3) (show(5:Int)≠0 by decide);unfold nmS;rw[vd a];split
  .intro z;have:=congrArg List.length z;rw[vn]at this;simp at this
  .rename_i c;exact j3J a t ⋯
theorem j3I(k:ro=false):∀t:Nat,ApartS Ms (nmS n len Ms ro t).1/\∀s,s∈(nmS n len Ms ro t).2↔∃j∈(nmS n len Ms ro t).1,s∈Ms.getD j []
 | 0=>⟨⟨(λj h=>nomatch h),.nil⟩,λs=>⟨(λh=>nomatch h),λ⟨j,h,_⟩=>nomatch h⟩⟩
 | t+1=>by
  obtain⟨g,i⟩:=j3I k t;unfold nmS;rw[vc (by rw[k];exact vF)];split
  .rename_i c;obtain⟨l,m,_⟩:=c;refine⟨⟨λj e=>?_,List.pairwise_append.mpr ⟨g.2,pairwise_singleton ..,λa o b p s d f=>?_⟩⟩,λs=>?_⟩
   .rcases vh.mp e with z | z
    .exact g.1 j z
    .rw[vo.mp z];exact l
   .rw[vo.mp p]at f;have:s∈(Ms.getD (atB n len t) []).filter λs=>decide (s∈(nmS n len Ms ro t).2):=vP.mpr ⟨f,vG ((i s).mpr ⟨a,o,d⟩)⟩
    rw[m]at this;cases this
   .rw[vh,i];constructor
    .rintro(⟨j,e,d⟩ | d)
     .exact⟨j,mem_append_left _ e,d⟩
     .exact⟨_,mem_append_right _ vq,d⟩
    .rintro⟨j,e,d⟩;rcases vh.mp e with z | z
     .exact .inl ⟨j,z,d⟩
     .rw[vo.mp z]at d;exact .inr d
  .exact⟨g,i⟩
end
inductive sp_namedB(vs:N2)(H:Hp)(Q:VK)(xk:XK):Prop
 | mk (n:Int) (nl ml:Addr) (mas:L7) (L nm:L8) (Ms:List L8) (kd:Str) (_:vs=[.int n,.ref nl,.ref ml,.str kd]) (_:NmB nl ml mas L nm Ms H) (_:1<=nm.length) (_:0<=n) (_:n<=10^40) (_:(kd = "row"\/kd = "side")) (_:∀(b:Addr) (H':Hp),Same H H'->H' b=some (.tup (((nmS n nm.length Ms (decide (kd = "row")) nm.length).1.map λj=>nm.getD j ⟨#[]⟩).map V.str))->Q (.ref b) H'):sp_namedB vs H Q xk
inductive sp_formB(vs:N2)(H:Hp)(Q:VK)(xk:XK):Prop
 | mk (n:Int) (nl ml pl bd:Addr) (mas las:L7) (ls:L4) (nm:L8) (Ms:List L8) (b0 b1 b2 b3 b4:Int) (_:vs=[.int n,.ref nl,.ref ml,.ref pl,.ref bd]) (_:NmB nl ml mas (nmsOf ls) nm Ms H) (_:LmB pl las ls H) (_:BdB H bd b0 b1 b2 b3 b4) (_:0<=n) (_:n<=10^40) (_:∀(a:Addr) (f:Fn) (H':Hp),Same H H'->FormAt H' a (toldF nm f)->PreN (nmsOf ls) (Ms.map (plB (nmsOf ls))) nm.length f->Q (.ref a) H'):sp_formB vs H Q xk
def JC(a:0<=y)(b:y<10^30+57):0<=(tkB x y m).2.2/\(tkB x y m).2.2<10^30+57:=by
 unfold tkB;split
 .exact⟨a,b⟩
 .exact YG _ _
def Off(p:Addr)(H0 H:Hp):Prop:=∀c u,H0 c=some u->c≠p/\H c=some u
def Off.ex{a H H':Hp}(o:Off p a H)(x:Ex p H H'):Off p a H':=λc u h=>⟨(o c u h).1,x c u (o c u h).1 (o c u h).2⟩
def Off.same{a H:Hp}(o:Off p a H):Same a H:=λc u h=>(o c u h).2
inductive sp_namingB(vs:N2)(H:Hp)(Q:VK)(xk:XK):Prop
 | mk (p nl ml bd:Addr) (x y kd:Int) (H0:Hp) (mas:L7) (L nm:L8) (Ms:List L8) (b0 b1 b2 b3 b4:Int) (_:vs=[.ref p,.int kd,.ref nl,.ref ml,.ref bd]) (_:H p=some (.lst [.int x,.int y])) (_:0<=y) (_:y<10^30+57) (_:Off p H0 H) (_:NmB nl ml mas L nm Ms H0) (_:1<=nm.length) (_:BdB H0 bd b0 b1 b2 b3 b4) (_:∀(a:Addr) (f:Fn) (H':Hp),Ex p H H'->FormAt H' a (toldF nm f)->PreN L (Ms.map (plB L)) nm.length f->Q (.ref a) H'):sp_namingB vs H Q xk
inductive sp_formT(vs:N2)(H:Hp)(Q:VK)(xk:XK):Prop
 | mk (p nl ml pl bd:Addr) (x y:Int) (H0:Hp) (mas las:L7) (ls:L4) (nm:L8) (Ms:List L8) (b0 b1 b2 b3 b4:Int) (_:vs=[.ref p,.ref nl,.ref ml,.ref pl,.ref bd]) (_:H p=some (.lst [.int x,.int y])) (_:0<=y) (_:y<10^30+57) (_:Off p H0 H) (_:NmB nl ml mas (nmsOf ls) nm Ms H0) (_:LmB pl las ls H0) (_:BdB H0 bd b0 b1 b2 b3 b4) (_:∀(a:Addr) (f:Fn) (H':Hp),Ex p H H'->FormAt H' a (toldF nm f)->PreN (nmsOf ls) (Ms.map (plB (nmsOf ls))) nm.length f->Q (.ref a) H'):sp_formT vs H Q xk
def j1W:∀p,p<3->(decide ((List.range 50).map (wdB p)).Nodup&&((List.range 50).map (wdB p)).all λx=>Ws.isW x)=true:=by trivial
def j1X(d:p<3)(hi:i<50)(c:j<50)(e:wdB p i=wdB p j):i=j:=by
 have h:=j1W p d;rw[Bool.and_eq_true,decide_eq_true_eq]at h;have a:((List.range 50).map (wdB p))[i]?=some (wdB p i):=by rw[vv,List.getElem?_range hi];rfl
 have b:((List.range 50).map (wdB p))[j]?=some (wdB p i):=by rw[vv,List.getElem?_range c,e];rfl
 have f:=jW h.1 a;have g:=jW h.1 b;lia
def j5T(a:p<3)(hi:i<50):Ws.isW (wdB p i)=true:=by
 have h:=j1W p a;rw[Bool.and_eq_true,all_eq_true]at h;exact h.2 _ (vK.mpr ⟨i,v4.mpr hi,rfl⟩)
noncomputable def lmB(p m:Nat):L8:=(List.range m).map (wdB p)
def j3t(h:j<m):(lmB p m)[j]?=some (wdB p j):=by unfold lmB;rw[vv,List.getElem?_range h];rfl
def XI:lmB p (m+1)=lmB p m++[wdB p m]:=by unfold lmB;rw[range_succ,vj];rfl
def j3u(c:p<3)(j:m<=9):(lmB p m).Nodup/\∀x∈lmB p m,Ws.isW x=true:=by
 unfold lmB;refine⟨pairwise_map.mpr (List.nodup_range.imp_of_mem λ{a b} d f n e=>n (j1X c (by have:=v4.mp d;lia) (by have:=v4.mp f;lia) e)),λx h=>?_⟩
 .obtain⟨i,g,rfl⟩:=vK.mp h;have:=v4.mp g;exact j5T c ⋯
noncomputable def ixB(st c m k:Nat):Nat:=if k=c then k%m else st+k
noncomputable def nmB(p st c m:Nat):L8:=(List.range 17).map λk=>wdB p (ixB st c m k)
def j1D{p st c m:Nat}:(nmB p st c m).length=17:=by unfold nmB;rw[vt,length_range]
def j1C{p st c m k:Nat}(h:k<17):(nmB p st c m).getD k ⟨#[]⟩=wdB p (ixB st c m k):=by
 unfold nmB;rw[vy,vv,List.getElem?_range h];rfl
def j3H{p st c m:Nat}(f:p<3)(q:1<=m)(r:m<=st)(h:st<=9):(nmB p st c m).Nodup/\∀x∈nmB p st c m,Ws.isW x=true:=by
 have b:∀k,k<17->ixB st c m k<50:=λk o=>by
  unfold ixB;have:=Nat.mod_lt k (show 0<m by lia);split<;>lia
 unfold nmB;refine⟨pairwise_map.mpr (List.nodup_range.imp_of_mem λ{x y} a d n e=>?_),λx a=>?_⟩
 .have a:=v4.mp a;have d:=v4.mp d;have:=j1X f (b x a) (b y d) e;unfold ixB at this;have j:=Nat.mod_lt x (show 0<m by lia);have l:=Nat.mod_lt y (show 0<m by lia);refine n ?_;split at this<;>split at this<;>lia
 .obtain⟨i,g,rfl⟩:=vK.mp a;exact j5T f (b i (v4.mp g))
def Xs{a:L8}{b:List Fn}{f:Fn}:drawnPs a (b++[f])=drawnPs a b++[(a.getD b.length ⟨#[]⟩,toldF a f)]:=by
 unfold drawnPs;rw[vn,vS,range_succ,vj];congr 1
 .refine map_congr_left λj c=>?_
  rw[Qd (v4.mp c)]
 .rw[uy,zr];rfl
def wL(h:PreN L M n f):toldF (names.take n) f=toldF names f:=by
 have g:∀j,j<n->(names.take n).getD j ⟨#[]⟩=names.getD j ⟨#[]⟩:=λj a=>by
  rw[vy,vy,uo a]
 have b:=h.js.2;cases f with
 | row is=>exact congrArg Fm.row (map_congr_left λj a=>g j (b j a))
 | side is=>exact congrArg Fm.side (map_congr_left λj a=>g j (b j a))
 | again k j=>exact congrArg (Fm.again k) (g j (b j vq))
 | hold n=>rfl
 | ring x n=>rfl
 | rise x v n=>rfl
def j3l(h:nm.length=gs.length):knK (nm++[x]) (gs++[g])=knK nm gs++[(Sum.inr x,.int g)]:=by
 unfold knK;rw[List.zip_append h,vj];rfl
def j1v(h:nm.length=gs.length)(n:x∉nm):putK (knK nm gs) (Sum.inr x) (.int g)=knK (nm++[x]) (gs++[g]):=by
 rw[j3l h,yv];rw[XD h];intro z;obtain⟨y,a,e⟩:=vK.mp z;exact n (Sum.inr.inj e▸a)
def j1u(h:nm.length=gs.length):(knK nm gs).length=nm.length:=by
 unfold knK;rw[vt,length_zip];lia
structure BkB(pl nl ml d pp:Addr)(las pas mas:L7)(ls:L4)(names:L8)(fs:List Fn)(Ms:List L8)(gs:L5)(b4:Int)(H:Hp):Prop where
 n:NmB nl ml mas (nmsOf ls) (names.take fs.length) Ms H
 l:LmB pl las ls H
 ed:H d=some (.dK (knK (names.take fs.length) gs))
 ep:H pp=some (.lst (pas.map V.ref))
 pa:All2 (PartAt H) pas (drawnPs names fs)
 dk:DOk (nmsOf ls) fs (Ms.map (plB (nmsOf ls))) gs
 gb:∀j,j<fs.length->gs.getD j 0<=b4
 fl:fs.length<=names.length
def BkB.same{H H':Hp}(B:BkB pl nl ml d pp las pas mas ls names fs Ms gs b4 H)(s:Same H H'):BkB pl nl ml d pp las pas mas ls names fs Ms gs b4 H':=
 ⟨B.n.same s,B.l.same s,s _ _ B.ed,s _ _ B.ep,B.pa.mono λa x h=>PartAt.same s h,B.dk,B.gb,B.fl⟩
structure SpB(pl nl ml pp bd:Addr)(mas:L7):Prop where
 ln:pl≠nl
 lm:pl≠ml
 lp:pl≠pp
 nm:nl≠ml
 np:nl≠pp
 mp:ml≠pp
 bn:bd≠nl
 bm:bd≠ml
 bp:bd≠pp
 ma:∀a∈mas,a≠nl/\a≠ml/\a≠pp
def SpB.add(S:SpB pl nl ml pp bd mas)(h:l≠nl/\l≠ml/\l≠pp):SpB pl nl ml pp bd (mas++[l]):=
 ⟨S.ln,S.lm,S.lp,S.nm,S.np,S.mp,S.bn,S.bm,S.bp,λa b=>by
  rcases vh.mp b with z | z
  .exact S.ma a z
  .rw[vo.mp z];exact h⟩
def BkB.add{pl p o d q L fa l c:Addr}{s n m:L7}{ls:L4}{b:L8}{i:List Fn}{Ms:List L8}{gs:L5}{b4 g:Int}{f:Fn}{ks:L8}{H H':Hp}(B:BkB pl p o d q s n m ls b i Ms gs b4 H)(S:SpB pl p o q L m)
  (X:FormAt H fa (toldF b f)) (pre:PreN (nmsOf ls) (Ms.map (plB (nmsOf ls))) i.length f) (J:MovS Ms f ks) (I:LenN gs f g) (Q:g<=b4) (K:b4<=10^60) (fn:i.length<b.length) (a0:i.length<20) (nw:∀x∈b,Ws.isW x=true)
  (k:∀x u,x≠o->x≠p->x≠q->x≠d->H x=some u->H' x=some u) (v:H' o=some (.lst ((m++[l]).map V.ref))) (P:H' l=some (.lst (ks.map V.str))) (w:H' p=some (.lst ((b.take (i.length+1)).map V.str)))
  (y:H' q=some (.lst ((n++[c]).map V.ref))) (M:H' c=some (.tup [.str (b.getD i.length ⟨#[]⟩),.ref fa])) (O:H' d=some (.dK (knK (b.take (i.length+1)) (gs++[g])))) :
  BkB pl p o d q s (n++[c]) (m++[l]) ls b (i++[f]) (Ms++[ks]) (gs++[g]) b4 H':=by
 have N:=B.n;have F:∀c r,H c=some (.tup r)->H' c=some (.tup r):=λc r h=>k c _ (jZ h N.em λz=>by cases z) (jZ h N.en λz=>by cases z) (jZ h B.ep λz=>by cases z) (jZ h B.ed λz=>by cases z) h
 have G:∀{c r},c≠o->c≠p->c≠q->H c=some (.lst r)->H' c=some (.lst r):=λT U W h=>k _ _ T U W (jZ h B.ed λz=>by cases z) h
 have t:(i++[f]).length=i.length+1:=by rw[vn];rfl
 have D:=B.dk;have mi:=J.inL N.il pre;have R:=j57 pre I λj C=>(D.g j C).1
 have gl:=D.gl;refine⟨⟨?_,v,?_,?_,?_,?_,N.l8,λx Z=>nw x (mem_of_mem_take Z),N.lw⟩,⟨G S.lm S.ln S.lp B.l.el,B.l.la.mono λa x h=>F _ _ h,B.l.l1⟩,?_,y,?_,?_,λj C=>?_,⋯⟩
 .rw[t];exact w
 .refine All2.snoc ?_ P;exact All2.monoM N.am λa A ks h=>G (S.ma a A).2.1 (S.ma a A).1 (S.ma a A).2.2 h
 .intro E Y;rcases vh.mp Y with z | z
  .exact N.il E z
  .rw[vo.mp z];exact mi
 .have:=N.ml;rw[vi]at this|-;rw[vn,t];show _+1=_;lia
 .rw[vi];lia
 .rw[t];exact O
 .rw[Xs];exact All2.snoc (B.pa.mono λa x h=>PartAt.keep F h) ⟨fa,M,FormAt.keep F X⟩
 .rw[vj];exact D.addN pre J.n I ⟨R,⋯⟩
 .rw[t]at C;by_cases z:j<i.length
  .rw[Qd ⋯];exact B.gb j z
  .have e:j=gs.length:=⋯
   subst e;rw[zr];exact Q
inductive sp_bookB(K:Frg)(vs:N2)(H:Hp)(Q:VK)(xk:XK):Prop
 | mk (a bd:Addr) (ns:L5) (many:Nat) (b0 b1 b2 b3 b4:Int) (_:vs=[.ref a,.int (many:Nat),.ref bd]) (_:SqL K H a (ns.map V.int)) (_:ns.length<=63) (_:2<=many) (_:many<=16) (_:BdB H bd b0 b1 b2 b3 b4) (_:∀(r b pl pp:Addr) (las pas:L7) (names:L8) (ls:L4) (fs:List Fn) (M:L1) (gs:L5) (H':Hp),Same H H'->H' r=some (.tup [.ref b,.int (gs.getD (fs.length-1) 0)])->BookAt H' b pl pp las pas ls (drawnPs names fs)->DOk (nmsOf ls) fs M gs->Sn ls (drawnPs names fs) gs M->fs.length=many+1->names.length=17->names.Nodup->(∀x∈names,Ws.isW x=true)->1<=ls.length->ls.length<=8->(nmsOf ls).Nodup->(∀x∈nmsOf ls,Ws.isW x=true)->pl≠pp->(∀j,j<fs.length->gs.getD j 0<=b4)->Q (.ref r) H'):sp_bookB K vs H Q xk
def BkB.book{H:Hp}(B:BkB pl nl ml d pp las pas mas ls names fs Ms gs b4 H)(a:H b=some (.tup [.ref pl,.ref pp])):BookAt H b pl pp las pas ls (drawnPs names fs):=⟨a,B.l.el,B.l.la,B.ep,B.pa⟩
end Rm
namespace L2
open PySem PySem.Spec PySem.W PyProof.Rows
section
variable{X:Cx}{pins:List (Addr×Obj)}{σ:St}{H:Hp}{s:Shared}{tg:Expr}
end
section
variable{σ:St}{H:Hp}{Q:VK}
end
section
variable{prog:Program}{w:World}{A:Around}{E:Value->Shared->Prop}{s:Shared}
end
section
variable{X:Cx}
end
end L2
namespace Rm
open PySem PySem.Spec PyProof.Rows L2
def DOk.bkok{ls:L4}{a:L8}{d:List Fn}{M:L1}{gs:L5}(D:DOk (nmsOf ls) d M gs)(B:ls.length<=8)(w:∀q∈ls,0<=q.2/\q.2<=10^18)(u:∀x∈nmsOf ls,Ws.isW x=true)
  (C:∀x∈a,Ws.isW x=true) (E:d.length<=a.length) (o:d.length<=61):BkOk ls (drawnPs a d):=by
 have n:∀{j:Nat},j<d.length->Ws.isW (a.getD j ⟨#[]⟩)=true:=λh=>C _ (getD_in ⋯)
 refine⟨B,λp l=>⟨u _ (vK.mpr ⟨p,l,rfl⟩),(w p l).1,(w p l).2⟩,by rw[Qt];exact o,λp l=>?_⟩;obtain⟨i,z⟩:=List.mem_iff_getElem?.mp l;obtain⟨f,t,rfl⟩:=qR z;have A:=(vx.mp t).1;have b:=(D.f i f t).1;refine⟨n A,?_⟩;cases f with
 | hold m=>exact⟨by have:=b.1;lia,b.2⟩
 | ring x m=>exact⟨b.2.2,by have:=b.1;lia,b.2.1⟩
 | rise x v m=>
  obtain⟨⟨j,g⟩,s,c,e,y⟩:=b;exact⟨u x (vm g),s,c,⋯,y⟩
 | row is=>
  obtain⟨_,c,e⟩:=b;refine⟨by rw[vt];exact c,λx r=>?_⟩;obtain⟨j,g,rfl⟩:=vK.mp r;exact n (by have:=e j g;lia)
 | side is=>
  obtain⟨_,c,e,_⟩:=b;refine⟨by rw[vt];exact c,λx r=>?_⟩;obtain⟨j,g,rfl⟩:=vK.mp r;exact n (by have:=e j g;lia)
 | again k j=>
  obtain⟨s,c,e⟩:=b;exact⟨⋯,c,n ⋯⟩
section
variable{ls:L4}{ps qs:N1}{C:Nat->Nat->Prop}{g:Nat->Nat}{gs gs':L5}{hs hs':L1}
def xb(S:Snd ls ps gs hs)(m:Snd ls qs gs' hs')(R:Cor ps qs C g):∀i k,C i k->gs'.getD k 0=gs.getD i 0:=by
 intro i
 induction i using Nat.strongRecOn with
 | ind i ih=>
  intro k e;obtain⟨o,p⟩:=R.lt i k e;have c:ps[i]?=some ps[i]:=vz o;have d:qs[k]?=some qs[k]:=vz p;obtain⟨t,a,f⟩:=R.f i k _ _ e c d;have n:(inP qs qs[k].2).map (λj=>gs'.getD j 0)=(inP ps ps[i].2).map λj=>gs.getD j 0:=by
   rw[a,v8];exact map_congr_left λj h=>ih j (f j h).1 (g j) (f j h).2
  obtain⟨q,s⟩:=S.ln i _ c;obtain⟨r,b⟩:=m.ln k _ d;obtain⟨v,l⟩:=j3p q;rw[<-s v l];exact(b v (by rw[n];exact((YD t).2 v).mp l)).symm
noncomputable def mvG(g:Nat->Nat)(q:Pc):Pc:=(g q.1,q.2)
def j2G{is:L6}(h:∀j∈is,gs'.getD (g j) 0=gs.getD j 0):∀b,rowPc gs' (is.map g) b=(rowPc gs is b).map (mvG g):=by
 induction is with
 | nil=>exact λ_=>rfl
 | cons j r ih=>
  intro b;rw[uy,rowPc,rowPc,h j vq,ih (λj a=>h j (vp _ a))];rfl
def j5m{p q:Fm}{is:L6}(a:RenF (λ_ _=>True) p q)(h:∀j∈is,gs'.getD (g j) 0=gs.getD j 0):pcsI gs' q (is.map g)=(pcsI gs p is).map (mvG g):=by
 cases p with
 | row xs=>
  obtain⟨b,rfl,_⟩:=a;exact j2G h 0
 | side xs=>
  obtain⟨b,rfl,_⟩:=a;show(is.map g).map _=(is.map _).map _;rw[v8,v8];rfl
 | again m x=>
  obtain⟨y,rfl,_⟩:=a;cases is with
  | nil=>rfl
  | cons j r=>
   show(g j,1,0)::(if 1<m then[(g j,m-1,gs'.getD (g j) 0)]else[])=((j,1,0)::(if 1<m then[(j,m-1,gs.getD j 0)]else[])).map (mvG g);rw[h j vq,uy];split<;>rfl
 | hold n=>
  have:q = .hold n:=a;subst this;show(is.map g).map _=(is.map _).map _;rw[v8,v8];rfl
 | ring x n=>
  have:q = .ring x n:=a;subst this;show(is.map g).map _=(is.map _).map _;rw[v8,v8];rfl
 | rise x v n=>
  have:q = .rise x v n:=a;subst this;show(is.map g).map _=(is.map _).map _;rw[v8,v8];rfl
noncomputable def mv2(g:Nat->Nat)(x:Nat×Int):Nat×Int:=(g x.1,x.2)
theorem j1Z{t:Int}:∀{l:List Pc},(∀q∈l,gs'.getD (g q.1) 0=gs.getD q.1 0)->wth gs' t (l.map (mvG g))=(wth gs t l).map (mv2 g)
 | [],_=>rfl
 | q::r,h=>by
  have a:=h q vq;have b:=j1Z (t:=t) (l:=r) λy e=>h y (vp _ e)
  have d:ov gs' t (mvG g q)=ov gs t q:=by
   unfold ov mvG;dsimp only;rw[a]
  have c:prg1 gs' t (mvG g q)=(prg1 gs t q).map λy=>(g y.1,y.2):=by
   unfold prg1;rw[d];unfold mvG;dsimp only;rw[a];split<;>rfl
  unfold wth prg at b|-;rw[uy,filterMap_cons,c,filterMap_cons];cases hp:prg1 gs t q with
  | none=>exact b
  | some y=>
   have f:y.1=q.1:=yt hp;show((g y.1,y.2)::_).flatMap (wth1 gs')=((y::_).flatMap (wth1 gs)).map (mv2 g);rw[flatMap_cons,flatMap_cons,vj,b];congr 1;unfold wth1;dsimp only;rw[f,a,vj];congr 1
   .split<;>rfl
   .split<;>rfl
def j28(N:Sn ls ps gs hs)(w:Sn ls qs gs' hs')(R:Cor ps qs C g):∀i k,C i k->∀t,∃zs:List ((Nat×Nat)×Int),reach ps gs i t=zs.map (λz=>(z.1.1,z.2))/\reach qs gs' k t=zs.map (λz=>(z.1.2,z.2))/\∀z∈zs,C z.1.1 z.1.2:=by
 have n:=xb N.s w.s R;intro i
 induction i using Nat.strongRecOn with
 | ind i ih=>
  intro k d t;obtain⟨K,L⟩:=R.lt i k d;have s:ps[i]?=some ps[i]:=vz K;have A:qs[k]?=some qs[k]:=vz L;obtain⟨Q,p,u⟩:=R.f i k _ _ d s A;have a:pcB qs gs' k=(pcB ps gs i).map (mvG g):=by
   unfold pcB;rw[s,A];show pcsI gs' qs[k].2 (inP qs qs[k].2)=_;rw[p];exact j5m Q λj M=>n j (g j) (u j M).2
  have m:∀q∈pcB ps gs i,q.1∈inP ps ps[i].2:=λq b=>by
   unfold pcB at b;rw[s]at b;exact YF b
  have H:wth gs' t (pcB qs gs' k)=(wth gs t (pcB ps gs i)).map (mv2 g):=by
   rw[a];exact j1Z λq b=>n _ _ (u _ (m q b)).2
  by_cases c:gs.getD i 0<=t\/pcB ps gs i=[]
  .have o:gs'.getD k 0<=t\/pcB qs gs' k=[]:=by
    rw[n i k d,a];rcases c with c | c
    .exact .inl c
    .exact .inr (by rw[c];rfl)
   rw[qm c,qm o];exact⟨[((i,k),t)],rfl,rfl,λz f=>by rw[vo.mp f];exact d⟩
  .have o:¬(gs'.getD k 0<=t\/pcB qs gs' k=[]):=by
    rw[n i k d,a];rintro(z | z)
    .exact c (.inl z)
    .exact c (.inr (List.map_eq_nil_iff.mp z))
   rw[Qv N.s.w c,Qv w.s.w o,H];have v:∀l:L3,(∀x∈l,x.1<i/\C x.1 (g x.1))->∃zs:List ((Nat×Nat)×Int),(l.flatMap λx=>reach ps gs x.1 x.2)=zs.map (λz=>(z.1.1,z.2))/\((l.map (mv2 g)).flatMap λx=>reach qs gs' x.1 x.2)=zs.map (λz=>(z.1.2,z.2))/\∀z∈zs,C z.1.1 z.1.2:=λl=>by
    induction l with
    | nil=>exact λ_=>⟨[],rfl,rfl,λz f=>nomatch f⟩
    | cons x r ihl=>
     intro h;obtain⟨I,J⟩:=h x vq;obtain⟨S,B,U,D⟩:=ih x.1 I (g x.1) J x.2;obtain⟨T,E,F,G⟩:=ihl λy P=>h y (vp _ P)
     refine⟨S++T,by rw[flatMap_cons,B,E,vj],?_,λz f=>(vh.mp f).elim (D z) (G z)⟩;rw[uy,flatMap_cons,F,vj];congr 1
   refine v _ λx O=>?_
   obtain⟨q,b,e⟩:=xA O;rw[e];exact u _ (m q b)
def j68(N:Sn ls ps gs hs)(R:Cor ps qs C g)(t:1<=qs.length)(B:WfB ls qs):∃gs' hs',Sn ls qs gs' hs'/\gs'.getD (qs.length-1) 0=gs.getD (ps.length-1) 0:=by
 obtain⟨gs',hs',o,e,j,A⟩:=j4X N.s N.hl N.m R t B;have u:=xb N.s o R;have r:∀(k:Nat) (q:Str×Fm),qs[k]?=some q->∃(i:Nat) (p:Str×Fm),ps[i]?=some p/\RenF (λ_ _=>True) p.2 q.2:=λk q b=>by
  have h:=(vx.mp b).1;obtain⟨i,d⟩:=R.ex k h;have s:=(R.lt i k d).1;exact⟨i,_,vz s,(R.f i k _ _ d (vz s) b).1⟩
 refine⟨gs',hs',⟨o,j,A,λk h=>?_,t,N.l18,λk y x v n b=>?_,λk y x m b=>?_⟩,e⟩
 .obtain⟨i,d⟩:=R.ex k h;rw[u i k d];exact N.g1 i (R.lt i k d).1
 .obtain⟨i,p,l,a⟩:=r k _ b;have D:=a.rise'.mpr rfl;exact N.r18 i p.1 x v n (by rw[l];exact congrArg some (Prod.ext rfl D))
 .obtain⟨i,p,l,a⟩:=r k _ b;obtain⟨z,f⟩:=p;cases f with
  | again m' x'=>
   obtain⟨E,c,_⟩:=a;cases c;exact N.a18 i z x' _ l
  | row xs=>obtain⟨_,c,_⟩:=a;cases c
  | side xs=>obtain⟨_,c,_⟩:=a;cases c
  | hold n=>exact ue (show Fm.again m x = .hold n from a) (λz=>nomatch z)
  | ring w n=>exact ue (show Fm.again m x = .ring w n from a) (λz=>nomatch z)
  | rise w v n=>exact ue (show Fm.again m x = .rise w v n from a) (λz=>nomatch z)
def j35(N:Sn ls ps gs hs)(i:Sn ls qs gs' hs')(R:Cor ps qs C g){E F:L0}(u:E.length=ps.length)(A:F.length=qs.length)(B:EndOk ls ps E)(D:EndOk ls qs F)(t:Int) :
  standH ls qs gs' F t=standH ls ps gs E t/\ringsW qs gs' t=ringsW ps gs t:=by
 have o:=xb N.s i.s R;have CE:=j4V R u A B D;obtain⟨J,j,k,l⟩:=j28 N i R _ _ R.top t;unfold standH ringsW;rw[j,k];clear j k;generalize ls.map (·.2)=h
 induction J generalizing h with
 | nil=>exact⟨rfl,rfl⟩
 | cons z r c=>
  have b:=l z vq;have c:=c λy I=>l y (vp _ I)
  obtain⟨G,H⟩:=R.lt _ _ b;have d:ps[z.1.1]?=some ps[z.1.1]:=vz G;have e:qs[z.1.2]?=some qs[z.1.2]:=vz H;obtain⟨a,_⟩:=R.f _ _ _ _ b d e;have s:appH ls qs gs' F h (z.1.2,z.2)=appH ls ps gs E h (z.1.1,z.2):=by
   unfold appH;dsimp only;rw[o _ _ b,CE _ _ b,d,e];split
   .rfl
   .generalize ps[z.1.1]=p at a;generalize qs[z.1.2]=q at a;obtain⟨x,p⟩:=p;obtain⟨y,q⟩:=q;dsimp only at a|-;cases p with
    | row xs=>obtain⟨f,rfl,_⟩:=a;rfl
    | side xs=>obtain⟨f,rfl,_⟩:=a;rfl
    | again m x=>obtain⟨y,rfl,_⟩:=a;rfl
    | hold n=>have:q = .hold n:=a;subst this;rfl
    | ring x n=>have:q = .ring x n:=a;subst this;rfl
    | rise x v n=>have:q = .rise x v n:=a;subst this;rfl
  have w:ringX qs (z.1.2,z.2)=ringX ps (z.1.1,z.2):=by
   unfold ringX;dsimp only;rw[d,e];generalize ps[z.1.1]=p at a;generalize qs[z.1.2]=q at a;obtain⟨x,p⟩:=p;obtain⟨y,q⟩:=q;dsimp only at a|-;cases p with
   | row xs=>obtain⟨f,rfl,_⟩:=a;rfl
   | side xs=>obtain⟨f,rfl,_⟩:=a;rfl
   | again m x=>obtain⟨y,rfl,_⟩:=a;rfl
   | hold n=>have:q = .hold n:=a;subst this;rfl
   | ring x n=>have:q = .ring x n:=a;subst this;rfl
   | rise x v n=>have:q = .rise x v n:=a;subst this;rfl
  rw[uy,uy,v9,v9,flatMap_cons,flatMap_cons,s,w];exact⟨(c _).1,by rw[(c h).2]⟩
end
end Rm
namespace L2
open PySem PySem.Spec PyProof.Rows
def j1o{K:Frg}{n i j k l:Nat}(hi:i<n)(C:j<n)(D:k<n)(E:l<n):GKeeps n (gTup K 4 (gCons (gName i) (gCons (gName j) (gCons (gName k) (gCons (gName l) gNil))))):=λx G H Q q=>by
 obtain⟨a,B,d,f,g,v,r,h,z,w,o,c,b,p,A,y,s,t,q⟩:=q;refine⟨a,B,d,f,g,v,r,h,z,w,o,c,b,p,A,y,s,t,λm u F e=>?_,q⟩;rw[List.getElem?_set_ne ⋯,List.getElem?_set_ne ⋯,List.getElem?_set_ne ⋯,List.getElem?_set_ne ⋯];exact e
section
variable{X:Cx}{tg:Expr}
def iBoth(K:Frg)(tl:TE):TI:=λσ H R=>tl σ H λx H1=>∃a,x = .ref a/\((∃xs,SqL K H1 a xs)/\R (Itl K a) H1\/(∃xs,SqT K H1 a xs)/\R (Itt K a) H1)
def j4l{K:Frg}{b:TE}{c:St}{H:Hp}{R:It->Hp->Prop}(h:b c H λx H1=>∃a,x = .ref a/\((∃xs,SqL K H1 a xs)/\R (Itl K a) H1\/(∃xs,SqT K H1 a xs)/\R (Itt K a) H1)):iBoth K b c H R:=h
def j5q(n:PE X l tl):PI X tg l (iBoth X.K tl):=by
 intro g s y H R I h;refine thn (n g s y H _ I h) λv c z_=>?_;obtain⟨x,k,d,m,t⟩:=z_
 obtain⟨a,e,⟨⟨w,j⟩,q⟩ | ⟨⟨w,j⟩,q⟩⟩:=t
 .subst e;cases m;obtain⟨f,u,p,r⟩:=d.list j;refine wpAny_pyIter_list p.isList ?_;refine⟨c.heap.objs.size,[c.heap.objs.size],_,_,k,rfl,d.kept (t':=c.toks) λb o e=>vJ _ e,WV a _,⟨_,Heap.get?_push_size _ rfl,rfl,rfl⟩,λb i=>?_,q⟩;have e:b=c.heap.objs.size:=by simpa using i
  subst e;exact d.fpOk (vb _) (d.hok.fresh (vb _))
 .subst e;cases m;obtain⟨f,u,p,r⟩:=d.tuple j;refine wpAny_pyIter_tuple (show c.heap.IsTuple a f.toArray from p) ?_;refine⟨c.heap.objs.size,[c.heap.objs.size],_,_,k,rfl,d.kept (t':=c.toks) λb o e=>vJ _ e,wM a _,⟨_,Heap.get?_push_size _ rfl,rfl,rfl⟩,λb i=>?_,q⟩;have e:b=c.heap.objs.size:=by simpa using i
  subst e;exact d.fpOk (vb _) (d.hok.fresh (vb _))
end
open PySem PySem.Spec PySem.W PyProof.Rows
noncomputable abbrev KO:=Option Int
noncomputable def koIs:KO->Value->Bool
 | some k,v=>Value.isInt k v
 | none,.none=>true
 | none,_=>false
def JW:∀{k:KO} {v:Value},koIs k v=true->(∃i t,k=some i/\v=Value.int i t)\/(k=none/\v=Value.none)
 | some i,v,h=>by
  obtain⟨t,e⟩:=Value.isInt_shape (k:=i) (v:=v) h;exact .inl ⟨i,t,rfl,e⟩
 | none,v,h=>by
  cases v<;>first | exact .inr ⟨rfl,rfl⟩ | cases h
noncomputable def koH:KO->Int
 | some k=>hashInt k
 | none=>4238894112
def j2e{P:Program}{w:World}{A:Around}{E:Value->Shared->Prop}{s:Shared}{Q:Int->Shared->Prop}(h:Q 4238894112 {s with toks:=s.toks+1}):wpAny (model P w) A (pyHash .none) Q E s:=by
 have T:s.TypeIs .none "NoneType":=rfl;have a:[Value.none].any Value.onHeap=false:=rfl;unfold pyHash;refine ug ?_;rw[cRoomFor,vc (by rw[a];exact vF)];refine uf ?_;refine ug (wpAny_specialOf T F.slot_NoneType_hash.lookup ?_);show wpAny _ _ (if(some (Value.builtin "NoneType.__hash__")==some Value.none)=true then _ else _) Q E s;rw[vc (by rw[beq_builtin_none];exact vF)];refine ug (wpAny_specialOf T F.slot_NoneType_hash.lookup ?_);refine ug (wpAny_callSpecialIfBoundUnlessNone?_slot T F.slot_NoneType_hash (wpAny_call_entry F.slot_NoneType_hash T F.entry_NoneType_hash ?_ (F.args_NoneType_hash_1 _)));show wpAny _ _ (retInt 4238894112) _ _ s;refine wpAny_ret_mkInt ?_;show wpAny _ _ (if(decide (-(2:Int)^63<=4238894112)&&decide ((4238894112:Int)<2^63))=true then _ else _) Q E _;rw[vd nofun];exact uf h
noncomputable def onKind(P:Program)(w:World):KeyKind P w KO where
 is:=koIs
 hash:=koH
 inj:=λv a b ha hb=>by
  rcases JW ha with⟨i,t,rfl,rfl⟩ | ⟨rfl,rfl⟩
  .rcases JW hb with⟨j,u,rfl,e⟩ | ⟨rfl,e⟩
   .injection e with e1 _;rw[e1]
   .exact nomatch e
  .rcases JW hb with⟨j,u,rfl,e⟩ | ⟨rfl,e⟩
   .exact nomatch e
   .rfl
 byValue:=λk v h=>by
  rcases JW h with⟨i,t,rfl,rfl⟩ | ⟨rfl,rfl⟩<;>rfl
 pyHash:=λhv h=>by
  rcases JW hv with⟨i,t,rfl,rfl⟩ | ⟨rfl,rfl⟩
  .exact wpAny_pyHash_int h
  .exact j2e h
 eqBool:=λhu hv h=>by
  rcases JW hu with⟨i,t,rfl,rfl⟩ | ⟨rfl,rfl⟩
  .rcases JW hv with⟨j,u,rfl,rfl⟩ | ⟨rfl,rfl⟩
   .refine wpAny_eqBool_int ?_;rw[show(i==j)=decide ((some i:KO)=some j) by
     by_cases e:i=j
     .subst e;simp
     .rw[vH (λz=>e (vL z))];exact beq_eq_false_iff_ne.mpr e]
    exact h
   .rw[vH (λz=>nomatch z)]at h;exact SeqAt.EqAt.int_none i t _ _ _ _ h
  .rcases JW hv with⟨j,u,rfl,rfl⟩ | ⟨rfl,rfl⟩
   .rw[vH (λz=>nomatch z)]at h;exact SeqAt.EqAt.none_int j u _ _ _ _ h
   .rw[vG rfl]at h;exact SeqAt.EqAt.same _ _ _ _ _ h
 «strs»:=λk x t v h=>by
  rcases JW h with⟨i,u,rfl,e⟩ | ⟨rfl,e⟩<;>exact nomatch e
noncomputable def kO:KO->V
 | some i=>.int i
 | none=>.non
def j6V{k:KO}{u:Value}(r:RelV (kO k) u):koIs k u=true:=by
 cases k with
 | some i=>obtain⟨t,rfl⟩:=(show∃t,u=Value.int i t from r);simp[koIs,Value.isInt]
 | none=>cases(show u=Value.none from r);rfl
theorem XB{P:Program}{w:World}:∀{ks:List KO} {us:L9},Vals (ks.map kO) us->ItemsAre (onKind P w) ks us
 | [],_,r=>by rw[map_nil]at r;cases r;exact .nil
 | k::ks,_,r=>by
  rw[uy]at r;cases r with
  | cons h t=>exact .cons (j6V h) (XB t)
def KAt(H:Hp)(b:Addr)(ks:List KO):Prop:=H b=some (.tup (ks.map kO))
def j3m{P:Program}{w:World}{H:Hp}{h:Heap}{b:Addr}{ks:List KO}(g:HOk P w H h)(e:KAt H b ks):(tupleKind (onKind P w)).is h ks b:=by
 obtain⟨_,a,r,o,c,d,n,f⟩:=(show ObjOk P w H h b (.tup (ks.map kO))from g b _ e)
 exact⟨o,a.toArray,n,c,d,f,by simpa using XB r⟩
noncomputable abbrev OE:=List KO×Addr×V
def PNO(xs:List OE)(ys:List (List KO×Addr×Value)):Prop:=Paired (λ(p:OE) (q:List KO×Addr×Value)=>p.1=q.1/\p.2.1=q.2.1/\RelV p.2.2 q.2.2) xs ys
noncomputable def DOx(P:Program)(w:World)(a:Addr)(xs:List OE):HO:=.ext λh=>xs.length<=sizeLine/\(a==sysModules)=false/\∃ys:List (List KO×Addr×Value),
 PNO xs ys/\(ys.map (·.1)).Nodup/\∃es ep,RawD h a es ep/\es.toList=ys.map (entryOfKey (tupleKind (onKind P w)))
noncomputable def fndO(xs:List OE)(k:List KO):Option OE:=xs.find? λp=>decide (p.1=k)
noncomputable def getO(xs:List OE)(k:List KO):V:=((fndO xs k).map (·.2.2)).getD .non
noncomputable def putO(xs:List OE)(k:List KO)(b:Addr)(v:V):List OE:=if(fndO xs k).isSome then xs.map λp=>if p.1=k then(p.1,p.2.1,v)else p else xs++[(k,b,v)]
theorem PNO.length:∀{xs:List OE} {ys:List (List KO×Addr×Value)},PNO xs ys->xs.length=ys.length
 | _,_,.nil=>rfl
 | _,_,.cons _ t=>by rw[vQ,vQ,PNO.length t]
theorem PNO.all{F:List KO->Addr->Prop}:∀{xs:List OE} {ys:List (List KO×Addr×Value)},PNO xs ys->(∀p∈xs,F p.1 p.2.1)->∀q∈ys,F q.1 q.2.1
 | _,_,.nil,_=>λq b=>nomatch b
 | _,_,.cons (a:=x) r t,h=>λq b=>by
  rcases mem_cons.mp b with rfl | b
  .have:=h _ vq;rw[r.1,r.2.1]at this;exact this
  .exact PNO.all t (λp c=>h p (vp _ c)) q b
theorem PNO.fnd{k:List KO}:∀{xs:List OE} {ys:List (List KO×Addr×Value)},PNO xs ys->RelV (getO xs k) (((atKey ys k).map (·.2)).getD .none)/\(fndO xs k).isSome=(atKey ys k).isSome
 | _,_,.nil=>⟨rfl,rfl⟩
 | _,_,.cons (a:=x) (b:=y) (l₂:=m) (l₁:=l) r t=>by
  obtain⟨d,f⟩:=PNO.fnd (k:=k) t;unfold getO fndO atKey at *;by_cases e:x.1=k
  .have c:y.1=k:=r.1▸e;rw[List.find?_cons,List.find?_cons,vG e,vG c];exact⟨r.2.2,rfl⟩
  .have c:¬y.1=k:=r.1▸e;rw[List.find?_cons,List.find?_cons,vH e,vH c];exact⟨d,f⟩
theorem PNO.mapped{k:List KO}{v:V}{u:Value}(c:RelV v u):∀{xs:List OE} {ys:List (List KO×Addr×Value)},PNO xs ys->PNO (xs.map λp=>if p.1=k then(p.1,p.2.1,v)else p) (ys.map (putAt k u))
 | _,_,.nil=>.nil
 | _,_,.cons (a:=x) (b:=y) r t=>by
  refine .cons ?_ (PNO.mapped c t);unfold putAt;dsimp only;by_cases e:x.1=k
  .rw[vd e,vd (r.1▸e)];exact⟨r.1,r.2.1,c⟩
  .rw[vc e,vc (r.1▸e)];exact r
theorem PNO.snoc{k:List KO}{b:Addr}{v:V}{u:Value}(a:RelV v u):∀{xs:List OE} {ys:List (List KO×Addr×Value)},PNO xs ys->PNO (xs++[(k,b,v)]) (ys++[(k,b,u)])
 | _,_,.nil=>.cons ⟨rfl,rfl,a⟩ .nil
 | _,_,.cons r t=>.cons r (PNO.snoc a t)
def PNO.put{k:List KO}{b:Addr}{v:V}{u:Value}{xs:List OE}{ys:List (List KO×Addr×Value)}(a:RelV v u)(p:PNO xs ys):PNO (putO xs k b v) (storedH ys k b u):=by
 unfold putO storedH;rw[(p.fnd (k:=k)).2];split
 .exact p.mapped a
 .exact p.snoc a
def XY{k:List KO}{b:Addr}{v:V}{xs:List OE}:(putO xs k b v).length<=xs.length+1:=by
 unfold putO;split
 .rw[vt];lia
 .rw[vn];exact vb _
section
variable{P:Program}{w:World}{H:Hp}{h:Heap}{a:Addr}{xs:List OE}
def j38(z:xs.length<=sizeLine)(c:(a==sysModules)=false){ys:List (List KO×Addr×Value)}(r:PNO xs ys)(d:(ys.map (·.1)).Nodup){es:Array DictEntry}{ep:Nat}(b:RawD h a es ep)(e:es.toList=ys.map (entryOfKey (tupleKind (onKind P w)))):ObjOk P w H h a (DOx P w a xs):=by
 refine⟨⟨z,c,ys,r,d,es,ep,b,e⟩,let ⟨o,ho,_⟩:=b;⟨o,ho⟩,?_⟩;rintro f g ⟨z,c,ys,r,d,es,ep,b,e⟩ k;exact⟨z,c,ys,r,d,es,ep,b.at' k,e⟩
end
section
variable{X:Cx}
def tDNewO(P:Program)(w:World):TE:=λ_ H Q=>∀p,H p=none->Q (.ref p) (upd H p (DOx P w p []))
def j42{b:Pos}:PE X (.Dict [] [] b) (tDNewO X.prog X.w):=λc s d H Q I h=>
 wpAny_Dict_empty ⟨.ref s.heap.objs.size,_,I.laid (a:=s.heap.objs.size) (o:=DOx X.prog X.w s.heap.objs.size []) (t':=s.toks) (λ_ _ q=>vJ _ q) (vb _)
  (j38 (va _) (beq_eq_false_iff_ne.mpr (Ne.symm (vE I.big))) .nil nodup_nil (es:=#[]) (ep:=0) ⟨_,Heap.get?_push_size _ rfl,⟨rfl,rfl,rfl⟩,rfl⟩ rfl),rfl,h _ (I.hok.fresh (vb _))⟩
def DOAt(P:Program)(w:World)(H:Hp)(a:Addr)(xs:List OE):Prop:=H a=some (DOx P w a xs)/\∀p∈xs,KAt H p.2.1 p.1
def j39{d:List (Addr×Obj)}{v:St}{H:Hp}{s:Shared}{a:Addr}{xs:List OE}(I:Inv X d v H s)(e:DOAt X.prog X.w H a xs):xs.length<=sizeLine/\(a==sysModules)=false/\∃ys,PNO xs ys/\s.heap.DictOfH (tupleKind (onKind X.prog X.w)) a ys:=by
 obtain⟨e,f⟩:=e;obtain⟨z,l,ys,g,n,i,h,⟨o,r,j,c⟩,m⟩:=(show ObjOk X.prog X.w H s.heap a (DOx X.prog X.w a xs)from I.hok a _ e).1;exact⟨z,l,ys,g,o,i,h,r,j,c,m,λq u=>g.all (F:=λk b=>(tupleKind (onKind X.prog X.w)).is s.heap k b) (λp t=>j3m I.hok (f p t)) q u,n⟩
def tGetO(P:Program)(w:World)(to ty:TE):TE:=λσ H Q=>to σ H λx H1=>∃a xs,x = .ref a/\DOAt P w H1 a xs/\ty σ H1 λy H2=>∃b k xs,y = .ref b/\DOAt P w H2 a xs/\KAt H2 b k/\Q (getO xs k) H2
def j1G{o e:Expr}{t v:TE}{c f:Pos}(L:X.A.units+1<cLine)(K:PE X o t)(J:PE X e v)(m:M1 X o "get" c e f):PE X (.Call (.Attribute o "get" c) [e] [] f) (tGetO X.prog X.w t v):=by
 intro g s w H Q I h;refine wpAny_Call_method m.base m.few m.line q7 PySem.F.slot_dict_get PySem.F.type_dict_get (thn (K g s w H _ I h) λu W z_=>?_);obtain⟨x,z,p,T,a,Z,C,d,R⟩:=z_;subst C;obtain rfl:u=Value.ref a:=T;obtain⟨_,_,ys,_,r⟩:=j39 p d;refine⟨r.typeIs,λb q=>?_,?_⟩
 .cases q;obtain⟨O,_,_,E,F,_⟩:=r;exact⟨O,E,F.2.1⟩
 rw[m.trees];refine Calls.callWith_builtin rfl (Calls.evalArgs_plain (Calls.spliced_cons (thn (J g W w z _ p R) λM Y ⟨y,A,j,U,b,k,l,D,B,N,S⟩=>Calls.spliced_nil ?_)));subst D;cases(show M=Value.ref b from U);obtain⟨_,G,n,P,i⟩:=j39 j B;refine call_meetsIn PySem.F.slot_dict_get i.typeIs PySem.F.entry_dict_get (PySem.F.args_dict_get_2 _ _) (meetsH_dict_get (tupleKind (onKind X.prog X.w)) a b G) ⟨tupleKind_room_in1 L,k,n,j3m j.hok N,i,⟨getO l k,A,j.tok _,?_,S⟩⟩;exact(P.fnd (k:=k)).1
def j43{P:Program}{w:World}(f:X.prog=P)(g:X.w=w){o e:Expr}{c d:TE}{a b:Pos}(j:X.A.units+1<cLine)(i:PE X o c)(h:PE X e d)(m:M1 X o "get" a e b):PE X (.Call (.Attribute o "get" a) [e] [] b) (tGetO P w c d):=by
 subst f g;exact j1G j i h m
def j1K{P:Program}{w:World}{d e:TE}{c:St}{H:Hp}{Q:VK}(h:d c H λx H1=>∃a xs,x = .ref a/\DOAt P w H1 a xs/\e c H1 λy H2=>∃b k xs,y = .ref b/\DOAt P w H2 a xs/\KAt H2 b k/\Q (getO xs k) H2):tGetO P w d e c H Q:=h
def j6J(y:X.A.units+1<cLine):PSet X (λo i v H Q=>∃a b k xs,o = .ref a/\i = .ref b/\DOAt X.prog X.w H a xs/\KAt H b k/\xs.length<sizeLine/\Q (upd H a (DOx X.prog X.w a (putO xs k b v)))):=by
 intro g s M H o i v ov L u Q I D C E h;obtain⟨a,b,k,xs,rfl,rfl,d,B,l,q⟩:=h;cases D;cases C;obtain⟨z,w,F,j,m⟩:=j39 I d;have A:F.length<=sizeLine:=by rw[<-j.length];exact z
 refine wpAny_setItem_heap (hsz:=A) (tupleKind_room_in1 y) (j3m I.hok B) m λK c x=>⟨_,?_,q⟩
 obtain⟨f,J,G,e,n,p,r,_,t⟩:=c;have:=XY (xs:=xs) (k:=k) (b:=b) (v:=v);exact yL I (by rw[d.1];exact True.intro) x ⟨f,e⟩ (j38 ⋯ w (j.put E) t ⟨f,e,n,p⟩ r)
mutual
theorem DV.but2{H:Hp}{d:Addr}{o:HO}(n:(∀ys,H d≠some (.lst ys))/\∀ys,H d≠some (.tup ys)):∀{v:V} {D:PyData},DV H v D->DV (upd H d o) v D
 | _,_,.non=>.non
 | _,_,.bl b=>.bl b
 | _,_,.int i=>.int i
 | _,_,.str x=>.str x
 | _,_,.lst e r=>.lst ((jo (λz=>n.1 _ (z▸e))).trans e) (DVs.but2 n r)
 | _,_,.tup e r=>.tup ((jo (λz=>n.2 _ (z▸e))).trans e) (DVs.but2 n r)
theorem DVs.but2{H:Hp}{d:Addr}{o:HO}(n:(∀ys,H d≠some (.lst ys))/\∀ys,H d≠some (.tup ys)):∀{vs:N2} {ds:List PyData},DVs H vs ds->DVs (upd H d o) vs ds
 | _,_,.nil=>.nil
 | _,_,.cons a r=>.cons (DV.but2 n a) (DVs.but2 n r)
end
def Xw{xs:List OE}{k a:List KO}{b:Addr}{v:V}:getO (putO xs k b v) a=if a=k then v else getO xs a:=by
 unfold putO;by_cases z:(fndO xs k).isSome=true
 .rw[vd z];unfold getO fndO at *;have e:∀l:List OE,((l.map λp=>if p.1=k then(p.1,p.2.1,v)else p).find? λp=>decide (p.1=a))=(l.find? λp=>decide (p.1=a)).map λp=>if p.1=k then(p.1,p.2.1,v)else p:=λl=>by
   induction l with
   | nil=>rfl
   | cons x r ih=>
    have d:(if x.1=k then(x.1,x.2.1,v)else x).1=x.1:=by split<;>rfl
    rw[uy,List.find?_cons,List.find?_cons,d,ih];by_cases c:x.1=a
    .rw[vG c];rfl
    .rw[vH c]
  rw[e,Option.map_map];by_cases c:a=k
  .subst c;rw[vd rfl];cases f:xs.find? λp=>decide (p.1=a)with
   | none=>rw[f]at z;cases z
   | some p=>
    have this:=List.find?_some f;have this:=of_decide_eq_true this;show(if p.1=a then(p.1,p.2.1,v)else p).2.2=v;rw[vd this]
  .rw[vc c];cases f:xs.find? λp=>decide (p.1=a)with
   | none=>rfl
   | some p=>
    have this:=List.find?_some f;have this:=of_decide_eq_true this;show(if p.1=k then(p.1,p.2.1,v)else p).2.2=p.2.2;rw[vc (λz=>c (this.symm.trans z))]
 .rw[vc z];have g:fndO xs k=none:=by cases f:fndO xs k with | none=>rfl | some p=>rw[f]at z;exact ue rfl z
  unfold getO fndO at *;rw[List.find?_append];by_cases c:a=k
  .subst c;rw[g,vd rfl,Option.none_or,List.find?_cons,vG rfl];rfl
  .rw[vc c,List.find?_cons,vH (λz=>c z.symm),List.find?_nil,Option.or_none]
def j4f{H H':Hp}{xs:List OE}{k:List KO}{b:Addr}{v:V}(h:∀p∈xs,KAt H p.2.1 p.1)(d:KAt H b k)(t:∀c ys,H c=some (.tup ys)->H' c=some (.tup ys)):∀p∈putO xs k b v,KAt H' p.2.1 p.1:=λp a=>by
 unfold putO at a;split at a
 .obtain⟨q,e,rfl⟩:=vK.mp a;have:=t _ _ (h q e);split<;>exact this
 .rcases vh.mp a with z | z
  .exact t _ _ (h p z)
  .rw[vo.mp z];exact t _ _ d
end
end L2
namespace Rm
open PySem PySem.Spec PyProof.Rows L2
section
variable{L:L8}{fs:List Fn}{M:L1}{gs:L5}{names:L8}{E:L0}
end
noncomputable def plyL(pc:Nat->List Pc)(gs:L5):Nat->Nat->Int->L3
 | 0,_,_=>[]
 | n+1,i,t=>if gs.getD i 0<=t then[]else(i,t)::(wth gs t (pc i)).flatMap λx=>plyL pc gs n x.1 x.2
noncomputable def ply(ps:N1)(gs:L5)(i:Nat)(t:Int):L3:=plyL (pcB ps gs) gs (i+1) i t
section
variable{ls:L4}{ps:N1}{gs:L5}{hs:L1}
theorem XW(W:WfB ls ps):∀{n m i:Nat} {t:Int},i<n->i<m->plyL (pcB ps gs) gs n i t=plyL (pcB ps gs) gs m i t
 | 0,_,_,_,h,_=>ue h (Nat.not_lt_zero _)
 | _,0,_,_,_,h=>ue h (Nat.not_lt_zero _)
 | n+1,m+1,i,t,h1,h2=>by
  unfold plyL;split
  .rfl
  .congr 1;exact qH λx a=>by
    have:=Zp W a;exact XW W ⋯ ⋯
def wy{i:Nat}{t:Int}(h:gs.getD i 0<=t):ply ps gs i t=[]:=by
 unfold ply plyL;rw[vd h]
def xU(W:WfB ls ps){i:Nat}{t:Int}(h:¬gs.getD i 0<=t):ply ps gs i t=(i,t)::(wth gs t (pcB ps gs i)).flatMap λx=>ply ps gs x.1 x.2:=by
 unfold ply;rw[plyL,vc h];congr 1;exact qH λx a=>by
  have:=Zp W a;exact XW W ⋯ ⋯
theorem K2{p n:Type}{f:p->List n}{x:n}:∀{l:List p} {pre e:List n},l.flatMap f=pre++x::e->∃c∈l,∃a b r,f c=a++x::b/\e=b++r
 | [],pre,e,h=>by cases pre<;>simp at h
 | c::l,pre,e,h=>by
  rw[flatMap_cons]at h;rcases List.append_eq_append_iff.mp h with⟨i,o,g⟩ | ⟨i,o,g⟩
  .obtain⟨d,m,a,b,r,j,k⟩:=K2 g;exact⟨d,vp _ m,a,b,r,j,k⟩
  .cases i with
   | nil=>
    rw[nil_append]at g;obtain⟨d,m,a,b,r,j,k⟩:=K2 (pre:=[]) (show l.flatMap f=[]++x::e from g.symm);exact⟨d,vp _ m,a,b,r,j,k⟩
   | cons y i=>
    rw[cons_append]at g;injection g with e3 e4;exact⟨c,vq,pre,i,l.flatMap f,by rw[o,e3],e4⟩
def j5A{q:Pc}{t r:Int}{y:Pr4}(e:PcOk gs q)(h:prg1 gs t q=some y)(a:y.2.2.2=some r):0<=r/\r<gs.getD y.1 0:=by
 unfold prg1 at h;split at h
 .rename_i c;cases h;dsimp only at a|-;split at a
  .rename_i d;cases a;obtain⟨_,f,_⟩:=e;have b:ov gs t q=(t-q.2.2)/gs.getD q.1 0:=by
    unfold ov at d|-;split
    .rename_i z;rw[vd z]at d;lia
    .rfl
   rw[b,Int.mul_comm];have g:=ve (t-q.2.2) (show gs.getD q.1 0≠0 by lia);have i:=vf (t-q.2.2) (show 0<gs.getD q.1 0 by lia);have j:=Int.emod_add_mul_ediv (t-q.2.2) (gs.getD q.1 0);lia
  .cases a
 .cases h
def j5t(N:Sn ls ps gs hs):∀{i:Nat} {t:Int} {pre d:L3} {x:Nat×Int},ply ps gs i t=pre++x::d->∀y∈prg gs x.2 (pcB ps gs x.1),∀r,y.2.2.2=some r->(y.1,r)∈d:=by
 have W:=N.s.w;intro i
 induction i using Nat.strongRecOn with
 | ind i ih=>
  intro t pre d x h y g r f;by_cases c:gs.getD i 0<=t
  .rw[wy c]at h;cases pre<;>simp at h
  .rw[xU W c]at h;cases pre with
   | nil=>
    rw[nil_append]at h;injection h with h1 h2;subst h1;obtain⟨q,n,e⟩:=yO g;have u:=j5A (N.pcOk n) e f;have o:(y.1,r)∈wth gs t (pcB ps gs i):=by
     unfold wth;refine mem_flatMap.mpr ⟨y,g,?_⟩;unfold wth1;rw[f];exact mem_append_right _ (vo.mpr rfl)
    rw[<-h2];refine mem_flatMap.mpr ⟨_,o,?_⟩;show(y.1,r)∈ply ps gs y.1 r;rw[xU W ⋯];exact vq
   | cons p pre=>
    rw[cons_append]at h;injection h with h1 h2;obtain⟨j,m,a,b,s,k,l⟩:=K2 h2;have:=ih j.1 (Zp W m) k y g r f;rw[l];exact mem_append_left _ this
inductive sp_sceneM(C:Addr)(vs:N2)(H:Hp)(Q:VK)(xk:XK):Prop
 | mk (a:Addr) (z:Sa) (ls:L4) (ps:N1) (gs:L5) (hs:L1) (E:L0) (t:Int) (_:vs=[.ref a,.int t]) (_:StageAt C H a z ls ps gs E) (_:Sn ls ps gs hs) (_:0<=t) (_:t<=gs.getD (ps.length-1) 0) (_:∀(r l1 l2:Addr) (as:L7) (P:L3) (H':Hp),Same H H'->H l1=none->H l2=none->H' r=some (.tup [.ref l1,.ref l2])->H' l1=some (.lst ((strH ls ps gs E t).map V.int))->(strH ls ps gs E t).length=ls.length->(∀h∈strH ls ps gs E t,0<=h/\h<=10^18)->H' l2=some (.lst (as.map V.ref))->l1≠l2->GonAt H' as P->P.length<=5000->(∀x∈P,x.1<ps.length/\0<=x.2/\x.2<gs.getD x.1 0)->P.filter (leafB ps gs)=((reach ps gs (ps.length-1) t).filter λx=>!ovB gs x)->P=ply ps gs (ps.length-1) t->Q (.ref r) H'):sp_sceneM C vs H Q xk
noncomputable def subP(f:Nat->Int->PyData)(y:Pr4):PyData:=match y.2.2.2 with | some r=>f y.1 r | none=>.none
noncomputable def pinL(ls:L4)(ps:N1)(gs:L5)(st:L5):Nat->Nat->Int->PyData
 | 0,_,_=>.none
 | n+1,i,t=>match ps[i]? with
  | some (_,.rise x _ _)=>.tuple [.int t,.int (st.getD (ixOf (nmsOf ls) x) 0)]
  | some (_,.hold _)=>.tuple [.int t]
  | some (_,.ring _ _)=>.tuple [.int t]
  | some (_,.side _)=>.tuple ((prg gs t (pcB ps gs i)).map (subP (pinL ls ps gs st n)))
  | some (_,_)=>.tuple [.int ((prg gs t (pcB ps gs i)).map λy=>y.2.2.1).sum,(((prg gs t (pcB ps gs i)).map (subP (pinL ls ps gs st n))).getLast?).getD .none]
  | none=>.none
noncomputable def pinF(ls:L4)(ps:N1)(gs:L5)(st:L5)(i:Nat)(t:Int):PyData:=pinL ls ps gs st (i+1) i t
def wA(W:WfB ls ps){i:Nat}{t:Int}{y:Pr4}(h:y∈prg gs t (pcB ps gs i)):y.1<i:=by
 obtain⟨q,a,e⟩:=yO h;rw[yt e];exact j0M W a
theorem XV{st:L5}(W:WfB ls ps):∀{n m i:Nat} {t:Int},i<n->i<m->pinL ls ps gs st n i t=pinL ls ps gs st m i t
 | 0,_,_,_,h,_=>ue h (Nat.not_lt_zero _)
 | _,0,_,_,_,h=>ue h (Nat.not_lt_zero _)
 | n+1,m+1,i,t,h1,h2=>by
  have e:(prg gs t (pcB ps gs i)).map (subP (pinL ls ps gs st n))=(prg gs t (pcB ps gs i)).map (subP (pinL ls ps gs st m)):=map_congr_left λy a=>by
   have:=wA W a;unfold subP;split
   .exact XV W ⋯ ⋯
   .rfl
  unfold pinL;split<;>first | rfl | rw[e]
def xT{st:L5}(W:WfB ls ps){i:Nat}{t:Int}:(prg gs t (pcB ps gs i)).map (subP (pinL ls ps gs st i))=(prg gs t (pcB ps gs i)).map (subP (pinF ls ps gs st)):=map_congr_left λy a=>by
 have:=wA W a;unfold subP;split
 .exact XV W ⋯ ⋯
 .rfl
def Zy{st:L5}{i:Nat}{t:Int}{a x:Str}{v n:Int}(h:ps[i]?=some (a,.rise x v n)):pinF ls ps gs st i t = .tuple [.int t,.int (st.getD (ixOf (nmsOf ls) x) 0)]:=by unfold pinF pinL;rw[h]
def Zw{st:L5}{i:Nat}{t:Int}{a:Str}{n:Int}(h:ps[i]?=some (a,.hold n)):pinF ls ps gs st i t = .tuple [.int t]:=by unfold pinF pinL;rw[h]
def Zx{st:L5}{i:Nat}{t:Int}{a x:Str}{n:Int}(h:ps[i]?=some (a,.ring x n)):pinF ls ps gs st i t = .tuple [.int t]:=by unfold pinF pinL;rw[h]
def Zz{st:L5}(W:WfB ls ps){i:Nat}{t:Int}{a:Str}{xs:L8}(h:ps[i]?=some (a,.side xs)):pinF ls ps gs st i t = .tuple ((prg gs t (pcB ps gs i)).map (subP (pinF ls ps gs st))):=by
 rw[<-xT W];unfold pinF pinL;rw[h]
noncomputable def seqP(Y:List Pr4)(F:Nat->Int->PyData):PyData:=.tuple [.int (Y.map λy=>y.2.2.1).sum,((Y.map (subP F)).getLast?).getD .none]
def yQ{st:L5}(W:WfB ls ps){i:Nat}{t:Int}{a:Str}{xs:L8}(h:ps[i]?=some (a,.row xs)):pinF ls ps gs st i t=seqP (prg gs t (pcB ps gs i)) (pinF ls ps gs st):=by
 unfold seqP;rw[<-xT W];unfold pinF pinL;rw[h]
def zb{st:L5}(W:WfB ls ps){i:Nat}{t:Int}{a x:Str}{k:Int}(h:ps[i]?=some (a,.again k x)):pinF ls ps gs st i t=seqP (prg gs t (pcB ps gs i)) (pinF ls ps gs st):=by
 unfold seqP;rw[<-xT W];unfold pinF pinL;rw[h]
def Shp.none{n:Nat}:Shp n .none:=⟨rfl,va _⟩
def j5D{f:Nat->Int->PyData}{n:Nat}{y:Pr4}(h:∀r,Shp n (f y.1 r)):Shp n (subP f y):=by
 unfold subP;split
 .exact h _
 .exact Shp.none
def j1Q{n:Nat}{a b:PyData}(c:Shp n a)(d:Shp n b):Shp (n+1) (.tuple [a,b]):=Shp.tup (forall_mem_cons.mpr ⟨c,forall_mem_cons.mpr ⟨d,λ_ h=>nomatch h⟩⟩)
def j5s{st:L5}(W:WfB ls ps):∀{i:Nat} {t:Int},Shp (i+1) (pinF ls ps gs st i t):=by
 intro i
 induction i using Nat.strongRecOn with
 | ind i ih=>
  intro t;have c:Shp (i+1) (.tuple [.int t]):=(show Shp 1 (.tuple [.int t])from Shp.tup (n:=0) (forall_mem_cons.mpr ⟨Shp.int,λ_ h=>nomatch h⟩)).mono ⋯;have b:∀y∈prg gs t (pcB ps gs i),Shp i (subP (pinF ls ps gs st) y):=λy a=>by
   have:=wA W a;exact j5D λr=>(ih y.1 this).mono ⋯
  have g:Shp (i+1) (seqP (prg gs t (pcB ps gs i)) (pinF ls ps gs st)):=by
   refine j1Q (Shp.int.mono (va _)) ?_;cases e:((prg gs t (pcB ps gs i)).map (subP (pinF ls ps gs st))).getLast? with
   | none=>exact Shp.none
   | some d=>
    obtain⟨y,a,rfl⟩:=vK.mp (List.mem_of_getLast? e);exact b y a
  cases e:ps[i]? with
  | none=>unfold pinF pinL;rw[e];exact Shp.none
  | some p=>
   obtain⟨l,f⟩:=p;cases f with
   | hold n=>rw[Zw e];exact c
   | ring x n=>rw[Zx e];exact c
   | rise x v n=>rw[Zy e];exact(j1Q (n:=0) Shp.int Shp.int).mono ⋯
   | side xs=>
    rw[Zz W e];exact Shp.tup λd j=>by
     obtain⟨y,a,rfl⟩:=vK.mp j;exact b y a
   | row xs=>rw[yQ W e];exact g
   | again k x=>rw[zb W e];exact g
noncomputable def pinD(ls:L4)(ps:N1)(gs:L5)(E:L0)(t:Int):PyData:=if gs.getD (ps.length-1) 0<=t then .none else pinF ls ps gs (strH ls ps gs E t) (ps.length-1) t
def j47{E:L0}{t:Int}(W:WfB ls ps)(a:1<=ps.length):Shp 61 (pinD ls ps gs E t):=by
 unfold pinD;split
 .exact Shp.none
 .have:=W.p61;exact(j5s W).mono ⋯
def KidsP(H:Hp)(xs:List OE)(F:Nat->Int->PyData)(Y:List Pr4):Prop:=∀y∈Y,DV H (getO xs [some (y.1:Int),y.2.2.2]) (subP F y)
end
def j4b{ls:L4}{ps:N1}{gs:L5}{g:L1}(N:Sn ls ps gs g){i:Nat}{t:Int}{l:Str}{f:Fm}(a:ps[i]?=some (l,f))(m:0<=t)(c:(∃xs,f = .row xs)\/∃k x,f = .again k x):prg gs t (pcB ps gs i)≠[]:=by
 have d:=(vx.mp a).1;have n:=N.g1 i d;obtain⟨j,r,e⟩:∃(j:Nat) (r:List Pc),pcB ps gs i=(j,1,0)::r:=by
  unfold pcB;rw[a];rcases c with⟨xs,rfl⟩ | ⟨k,x,rfl⟩
  .cases ei:inP ps (.row xs)with
   | nil=>
    have h:=(N.s.ln i _ a).2 0 (by show(0:Int)=_;dsimp only;rw[ei];rfl);lia
   | cons j r=>
    refine⟨j,rowPc gs r (0+gs.getD j 0),?_⟩;show rowPc gs (inP ps (.row xs)) 0=_;rw[ei];rfl
  .exact⟨_,_,rfl⟩
 rw[e];unfold prg;have b:prg1 gs t (j,1,0)=some (j,0,ov gs t (j,1,0),if ov gs t (j,1,0)<1 then some (t-0-ov gs t (j,1,0)*gs.getD j 0)else none):=by
  unfold prg1;rw[vd m]
 rw[filterMap_cons,b];exact λz=>nomatch z
def cutG{C G:Prop}(a:C->G)(b:(C->G)->G):G:=b a
def j3n{a:Type}{l:List a}{d:a}(h:l≠[]):∃x,l.getLast?=some x/\l[l.length-1]?=some x:=by
 refine⟨l.getLast h,List.getLast?_eq_some_getLast h,?_⟩;rw[<-List.getLast?_eq_getElem?];exact List.getLast?_eq_some_getLast h
theorem Xt{H:Hp}:∀{xs:N2} {ds:List PyData} {v:V} {d:PyData},DVs H xs ds->DV H v d->DVs H (xs++[v]) (ds++[d])
 | _,_,_,_,.nil,k=>.cons k .nil
 | _,_,_,_,.cons a r,k=>.cons a (Xt r k)
theorem j3b{H:Hp}:∀{xs:N2} {ds:List PyData} {i:Nat} {d:PyData},DVs H xs ds->ds[i]?=some d->∃v,xs[i]?=some v/\DV H v d
 | _,_,i,_,.nil,h=>by simp at h
 | _,_,0,_,.cons a r,h=>by
  simp at h;subst h;exact⟨_,rfl,a⟩
 | _,_,i+1,_,.cons a r,h=>by
  obtain⟨v,b,c⟩:=j3b r (by simpa using h);exact⟨v,by simpa using b,c⟩
theorem j0m{H:Hp}:∀{xs:N2} {ds:List PyData},DVs H xs ds->xs.length=ds.length
 | _,_,.nil=>rfl
 | _,_,.cons _ r=>by rw[vQ,vQ,j0m r]
inductive sp_pinsof(P:Program)(w:World)(C:Addr)(vs:N2)(H:Hp)(Q:VK)(xk:XK):Prop
 | mk (a l d:Addr) (z:Sa) (ls:L4) (ps:N1) (gs:L5) (hs:L1) (E:L0) (st:L5) (xs:List OE) (i:Nat) (t:Int) (_:vs=[.ref a,.ref l,.ref d,.int (i:Nat),.int t]) (_:StageAt C H a z ls ps gs E) (_:Sn ls ps gs hs) (_:H l=some (.lst (st.map V.int))) (_:st.length=ls.length) (_:DOAt P w H d xs) (_:i<ps.length) (_:0<=t) (_:t<gs.getD i 0) (_:KidsP H xs (pinF ls ps gs st) (prg gs t (pcB ps gs i))) (_:∀(v:V) (H':Hp),Same H H'->DV H' v (pinF ls ps gs st i t)->Q v H'):sp_pinsof P w C vs H Q xk
inductive sp_pinsat(C:Addr)(vs:N2)(H:Hp)(Q:VK)(xk:XK):Prop
 | mk (a:Addr) (z:Sa) (ls:L4) (ps:N1) (gs:L5) (hs:L1) (E:L0) (t:Int) (_:vs=[.ref a,.int t]) (_:StageAt C H a z ls ps gs E) (_:Sn ls ps gs hs) (_:0<=t) (_:t<=gs.getD (ps.length-1) 0) (_:∀(v:V) (H':Hp),Same H H'->DV H' v (pinD ls ps gs E t)->Q v H'):sp_pinsat C vs H Q xk
noncomputable def fldM(st:Addr)(L t:Int):List (Str×V):=putF "now" (.int t) (putF "last" (.int L) (putF "stage" (.ref st) []))
def K4{st:Addr}{L t:Int}:(fldM st L t).lookup ("stage" : Str)=some (.ref st):=(Jc (by trivial)).trans ((Jc (by trivial)).trans zq)
def Wy{st:Addr}{L t:Int}:(fldM st L t).lookup ("last" : Str)=some (.int L):=(Jc (by trivial)).trans zq
def Yy{st:Addr}{L t:Int}:(fldM st L t).lookup ("now" : Str)=some (.int t):=zq
def Xv{st:Addr}{L t u:Int}:putF "now" (.int u) (fldM st L t)=fldM st L u:=by
 have a:¬(("stage" : Str) = "now"):=by trivial
 have b:¬(("last" : Str) = "now"):=by trivial
 have c:¬(("stage" : Str) = "last"):=by trivial
 unfold fldM;simp only[putF,if_neg a,if_neg b,if_neg c,if_true]
def Yx{st:Addr}{L t:Int}{m:Str}(a:¬m = "now")(b:¬m = "last")(c:¬m = "stage"):(fldM st L t).lookup m=none:=(Jc a).trans ((Jc b).trans ((Jc c).trans rfl))
structure MaAt(CM CS:Addr)(H:Hp)(m st:Addr)(z:Sa)(ls:L4)(ps:N1)(gs:L5)(E:L0)(t:Int):Prop where
 ob:∃dx,H m=some (.ins CM dx (fldM st (gs.getD (ps.length-1) 0) t))
 sg:StageAt CS H st z ls ps gs E
 ne:m≠st
def StageAt.but{o:Addr}{H H':Hp}{m st:Addr}{z:Sa}{ls:L4}{ps:N1}{gs:L5}{E:L0}{C r:Addr}{s:List (Str×V)}(l:H m=some (.ins C r s))(t:m≠st)(A:StageAt o H st z ls ps gs E)(k:∀c u,c≠m->H c=some u->H' c=some u):StageAt o H' st z ls ps gs E:=by
 have n:∀{c:Addr} {f:N2},H c=some (.tup f)->H' c=some (.tup f):=λh=>k _ _ (λz=>by rw[z,l]at h;cases h) h
 have d:∀{c:Addr} {f:N2},H c=some (.lst f)->H' c=some (.lst f):=λh=>k _ _ (λz=>by rw[z,l]at h;cases h) h
 refine⟨A.ob.imp λr h=>k _ _ (Ne.symm t) h,k _ _ (λz=>by have:=A.hd;rw[z,l]at this;cases this) A.hd,d A.hf,d A.ho,All2.mono A.fo λa p h=>Xy.mpr (GAt.tups (λ_ _ e=>n e) (Xy.mp h)),d A.hs,d A.hl,A.el,All2.mono A.ea λa e ⟨g,i,j⟩=>⟨g,d i,All2.mono j λb q h=>n h⟩,A.eo,d A.hp,All2.mono A.pa λa e ⟨g,i,j⟩=>⟨g,d i,All2.mono j λb q h=>n h⟩⟩
def MaAt.same{a b:Addr}{H H':Hp}{m st:Addr}{z:Sa}{ls:L4}{ps:N1}{gs:L5}{E:L0}{t:Int}(A:MaAt a b H m st z ls ps gs E t)(s:Same H H'):MaAt a b H' m st z ls ps gs E t:=⟨A.ob.imp λc h=>s _ _ h,A.sg.same s,A.ne⟩
def MaAt.but{a b:Addr}{H H':Hp}{m n st:Addr}{z:Sa}{ls:L4}{ps:N1}{gs:L5}{E:L0}{t:Int}{C d:Addr}{e:List (Str×V)}(A:MaAt a b H m st z ls ps gs E t)(f:H n=some (.ins C d e))(g:m≠n)(i:n≠st)(k:∀c u,c≠n->H c=some u->H' c=some u):MaAt a b H' m st z ls ps gs E t:=⟨A.ob.imp λd h=>k _ _ g h,A.sg.but f i k,A.ne⟩
inductive sp_initM(CM CS:Addr)(vs:N2)(H:Hp)(Q:VK)(xk:XK):Prop
 | mk (m dx bx l f:Addr) (las das:L7) (ls:L4) (ks:List Dm) (gs:L5) (hs:L1) (_:vs=[.ref m,.ref bx]) (_:H m=some (.ins CM dx [])) (_:H bx=some (.tup [.ref l,.ref f])) (_:H l=some (.lst (las.map V.ref))) (_:All2 (LimbAt H) las ls) (_:H f=some (.lst (das.map V.ref))) (_:DrAt H das ks) (_:BxOk ls ks) (_:Sn ls (bkP ls ks) gs hs) (_:∀(st:Addr) (z:Sa) (E:L0) (H':Hp),(∀c u,c≠m->H c=some u->H' c=some u)->H st=none->MaAt CM CS H' m st z ls (bkP ls ks) gs E 0->Q .non H'):sp_initM CM CS vs H Q xk
inductive sp_stepM(CM CS:Addr)(vs:N2)(H:Hp)(Q:VK)(xk:XK):Prop
 | mk (m st:Addr) (z:Sa) (ls:L4) (ps:N1) (gs:L5) (hs:L1) (E:L0) (t:Int) (_:vs=[.ref m]) (_:MaAt CM CS H m st z ls ps gs E t) (_:Sn ls ps gs hs) (_:0<=t) (_:t<gs.getD (ps.length-1) 0) (_:∀(l:Addr) (H':Hp),(∀c u,c≠m->H c=some u->H' c=some u)->H l=none->MaAt CM CS H' m st z ls ps gs E (t+1)->H' l=some (.lst ((ringsW ps gs (t+1)).map V.str))->Q (.ref l) H'):sp_stepM CM CS vs H Q xk
inductive sp_jumpM(CM CS:Addr)(vs:N2)(H:Hp)(Q:VK)(xk:XK):Prop
 | mk (m st:Addr) (z:Sa) (ls:L4) (ps:N1) (gs:L5) (E:L0) (t b:Int) (_:vs=[.ref m,.int b]) (_:MaAt CM CS H m st z ls ps gs E t) (_:0<=b) (_:b<=gs.getD (ps.length-1) 0) (_:∀(H':Hp),(∀c u,c≠m->H c=some u->H' c=some u)->MaAt CM CS H' m st z ls ps gs E b->Q .non H'):sp_jumpM CM CS vs H Q xk
inductive sp_pinsM(CM CS:Addr)(vs:N2)(H:Hp)(Q:VK)(xk:XK):Prop
 | mk (m st:Addr) (z:Sa) (ls:L4) (ps:N1) (gs:L5) (hs:L1) (E:L0) (t:Int) (_:vs=[.ref m]) (_:MaAt CM CS H m st z ls ps gs E t) (_:Sn ls ps gs hs) (_:0<=t) (_:t<=gs.getD (ps.length-1) 0) (_:∀(v:V) (H':Hp),Same H H'->DV H' v (pinD ls ps gs E t)->Q v H'):sp_pinsM CM CS vs H Q xk
def j3c{ls:L4}{ps:N1}{E F:L0}(W:WfB ls ps)(r:E.length=ps.length)(s:F.length=ps.length)(n:EndOk ls ps E)(o:EndOk ls ps F):F=E:=by
 have d:∀i,i<ps.length->F.getD i []=E.getD i []:=by
  intro i
  induction i using Nat.strongRecOn with
  | ind i ih=>
   intro p;have c:ps[i]?=some ps[i]:=vz p;have g:E[i]?=some (E.getD i []):=by rw[vy,vz ⋯];rfl
   have h:F[i]?=some (F.getD i []):=by rw[vy,vz ⋯];rfl
   obtain⟨a,b⟩:=n i _ _ c g;obtain⟨e,f⟩:=o i _ _ c h;refine Xf e a λx v=>(f x v).trans (Iff.trans ?_ (b x v).symm)
   unfold EndIs;have k:(inP ps ps[i].2).map (λj=>F.getD j [])=(inP ps ps[i].2).map λj=>E.getD j []:=map_congr_left λj q=>by
    have:=W.inP_lt c q;exact ih j this ⋯
   rw[YC,YC,k]
 refine ext_getElem ⋯ λi l m=>?_
 have:=d i ⋯;rw[vy,vy,vz l,vz m]at this;exact this
section
variable{ls:L4}{ps:N1}{gs:L5}{hs:L1}{E:L0}
structure EnO(ls:L4)(ps:N1)(gs:L5)(hs:L1)(E:L0):Prop where
 N:Sn ls ps gs hs
 l:E.length=ps.length
 o:EndOk ls ps E
def EnO.at'(A:EnO ls ps gs hs E){i:Nat}(hi:i<ps.length):E[i]?=some (E.getD i []):=by
 have:=A.l;rw[vy,vz ⋯];rfl
def EnO.pw(A:EnO ls ps gs hs E){i:Nat}(hi:i<ps.length):((E.getD i []).map (·.1)).Pairwise (· < ·):=(A.o i _ _ (vz hi) (A.at' hi)).1
def EnO.pos(A:EnO ls ps gs hs E){i:Nat}:∀q∈E.getD i [],0<=q.1:=λq a=>(Yv A.N.s.w (by have:=A.l;lia) A.o i q a).1
def EnO.two(A:EnO ls ps gs hs E){i:Nat}(hi:i<ps.length)(h:L5):setE (E.getD i []) (setE (E.getD i []) h)=setE (E.getD i []) h:=j4q (A.pw hi) A.pos h
def EnO.all(A:EnO ls ps gs hs E){i:Nat}{p:Str×Fm}(c:ps[i]?=some p)(n:∀x v m,p.2≠.rise x v m)(h:L5):setE (E.getD i []) h=(inP ps p.2).foldl (λh j=>setE (E.getD j []) h) h:=by
 have e:=(vx.mp c).1;obtain⟨a,b⟩:=A.o i p _ c (A.at' e);have o:∀j∈inP ps p.2,((E.getD j []).map (·.1)).Pairwise (· < ·)/\∀q∈E.getD j [],0<=q.1:=λj f=>⟨A.pw (by have:=A.N.s.w.inP_lt c f;lia),A.pos⟩
 refine List.ext_getElem? λk=>?_
 by_cases d:k<h.length
 case neg=>rw[vT (by rw[J0];lia),vT (by rw[yg];lia)]
 rcases Wz o d with⟨v,l,q⟩ | ⟨l,q⟩
 .rw[q];exact yU a A.pos ((b _ _).mpr (.inl l)) d
 .rw[q];refine ZD A.pos λv g=>?_
  rcases(b _ _).mp g with z | ⟨x,m,z,_⟩
  .exact l v z
  .exact n x v m z
def EnO.rise(A:EnO ls ps gs hs E){i:Nat}{g x:Str}{v n:Int}(f:ps[i]?=some (g,.rise x v n))(h:L5):setE (E.getD i []) h=h.set (ixOf (nmsOf ls) x) v:=by
 have p:=(vx.mp f).1;obtain⟨a,b⟩:=A.o i _ _ f (A.at' p);have m:∀k w,(k,w)∈E.getD i []↔k=((ixOf (nmsOf ls) x:Nat):Int)/\w=v:=λk w=>by
  rw[b];constructor
  .rintro(⟨r,j,l,e,_⟩ | ⟨y,s,e,o⟩)
   .have:inP ps (Fm.rise x v n)=[]:=rfl;rw[show inP ps ((g,Fm.rise x v n):Str×Fm).2=[]from this]at e;simp at e
   .cases e;exact⟨o,rfl⟩
  .rintro⟨rfl,rfl⟩;exact .inr ⟨x,n,rfl,rfl⟩
 refine List.ext_getElem? λk=>?_
 by_cases d:k<h.length
 case neg=>rw[vT (by rw[J0];lia),vT (by rw[length_set];lia)]
 by_cases c:k=ixOf (nmsOf ls) x
 .rw[<-c,List.getElem?_set_self d];exact yU a A.pos ((m _ _).mpr ⟨by rw[c],rfl⟩) d
 .rw[List.getElem?_set_ne (λe=>c e.symm)];exact ZD A.pos λw q=>c (by have:=((m _ _).mp q).1;lia)
theorem WR{k:Nat}:∀{es:List (Int×Int)} {h1 h2:L5},h1.length=h2.length->h1.getD k 0=h2.getD k 0->(setE es h1).getD k 0=(setE es h2).getD k 0
 | [],_,_,_,e=>e
 | q::r,h1,h2,l,e=>by
  rw[ze,ze];refine WR (by rw[length_set,length_set,l]) ?_;rw[vy,vy,List.getElem?_set,List.getElem?_set,l];split
  .rfl
  .rw[vy,vy]at e;exact e
noncomputable def strL(gs:L5)(E:L0)(l:L3)(st:L5):L5:=(l.filter (ovB gs)).foldl (λh x=>setE (E.getD x.1 []) h) st
noncomputable def strI(ps:N1)(gs:L5)(E:L0)(i:Nat)(t:Int)(st:L5):L5:=strL gs E (reach ps gs i t) st
def j4y(a b:L3)(st:L5):strL gs E (a++b) st=strL gs E b (strL gs E a st):=by
 unfold strL;rw[filter_append,foldl_append]
theorem WU(f:Nat×Int->L3):∀(l:L3) (st:L5),strL gs E (l.flatMap f) st=l.foldl (λh x=>strL gs E (f x) h) st
 | [],_=>rfl
 | x::r,st=>by rw[flatMap_cons,j4y,WU f r,v9]
def j4z:∀(l:L3) (st:L5),(strL gs E l st).length=st.length:=by
 have a:∀(l:L3) (st:L5),(l.foldl (λh x=>setE (E.getD x.1 []) h) st).length=st.length:=λl=>by
  induction l with
  | nil=>exact λ_=>rfl
  | cons x r ih=>intro st;rw[v9,ih,J0]
 exact λl st=>a _ _
def j4A{k:Nat}:∀{l:L3} {st:L5},(∀x∈l,∀q∈E.getD x.1 [],q.1.toNat≠k)->(strL gs E l st).getD k 0=st.getD k 0:=by
 have a:∀(l:L3) (st:L5),(∀x∈l,∀q∈E.getD x.1 [],q.1.toNat≠k)->(l.foldl (λh x=>setE (E.getD x.1 []) h) st).getD k 0=st.getD k 0:=λl=>by
  induction l with
  | nil=>exact λ_ _=>rfl
  | cons x r ih=>intro st h;rw[v9,ih _ λy c=>h y (vp _ c),kP (h x vq)]
 exact λ{l st} h=>a _ _ λx b=>h x (vP.mp b).1
def WT{k:Nat}{l:L3}{a b:L5}(c:a.length=b.length)(e:a.getD k 0=b.getD k 0):(strL gs E l a).getD k 0=(strL gs E l b).getD k 0:=by
 unfold strL;generalize l.filter (ovB gs)=m
 induction m generalizing a b with
 | nil=>exact e
 | cons x r ih=>
  rw[v9,v9];exact ih (by rw[J0,J0,c]) (WR c e)
def kS{i:Nat}{t:Int}{st:L5}(h:gs.getD i 0<=t):strI ps gs E i t st=setE (E.getD i []) st:=by
 unfold strI strL;rw[qm (.inl h)];have:ovB gs (i,t)=true:=vG h;rw[uz,vd this];rfl
def j2L{i:Nat}{t:Int}{st:L5}(h:¬gs.getD i 0<=t)(c:pcB ps gs i=[]):strI ps gs E i t st=st:=by
 unfold strI strL;rw[qm (.inr c)];have:¬ovB gs (i,t)=true:=λz=>h (of_decide_eq_true z)
 rw[uz,vc this];rfl
def kR(W:WfB ls ps){i:Nat}{t:Int}{st:L5}(h:¬gs.getD i 0<=t)(c:pcB ps gs i≠[]):strI ps gs E i t st=(wth gs t (pcB ps gs i)).foldl (λh x=>strI ps gs E x.1 x.2 h) st:=by
 unfold strI;rw[Qv W (λz=>z.elim h c),WU]
def j4x(A:EnO ls ps gs hs E){i:Nat}(hi:i<ps.length){t:Int}{k:Nat}(c:((k:Nat):Int)∉hs.getD i []){st:L5}:(strI ps gs E i t st).getD k 0=st.getD k 0:=by
 refine j4A λx b q a e=>c ?_
 have d:x.1<ps.length:=by
  have:=XZ A.N.s.w hi b;lia
 have m:=j4n A.N hi b _ (j1m A.N A.l A.o d a);have p:=A.pos q a;rw[show((k:Nat):Int)=q.1 by lia];exact m
def j1H(N:Sn ls ps gs hs):∀{i:Nat},i<ps.length->∀{t:Int} {c d:L5},(∀k:Nat,(k:Int)∈hs.getD i []->c.getD k 0=d.getD k 0)->pinF ls ps gs c i t=pinF ls ps gs d i t:=by
 intro i
 induction i using Nat.strongRecOn with
 | ind i ih=>
  intro b t c d h;have W:=N.s.w;have a:(prg gs t (pcB ps gs i)).map (subP (pinF ls ps gs c))=(prg gs t (pcB ps gs i)).map (subP (pinF ls ps gs d)):=map_congr_left λy o=>by
   have s:=wA W o;obtain⟨q,g,e⟩:=yO o;have r:=yt e;unfold subP;split
   .refine ih y.1 s ⋯ λk l=>h k ?_
    rw[r]at l;have m:ps[i]?=some ps[i]:=vz b;have j:q.1∈inP ps ps[i].2:=by
     unfold pcB at g;rw[m]at g;exact YF g
    exact((N.m i _ _ m (yZ N.s N.hl b)).2 _).mpr (.inl ⟨q.1,j,l⟩)
   .rfl
  cases e:ps[i]? with
  | none=>rw[vz b]at e;cases e
  | some p=>
   obtain⟨u,f⟩:=p;cases f with
   | hold n=>rw[Zw e,Zw e]
   | ring x n=>rw[Zx e,Zx e]
   | rise x v n=>
    rw[Zy e,Zy e,h _ (((N.m i _ _ e (yZ N.s N.hl b)).2 _).mpr (.inr ⟨x,v,n,rfl,rfl⟩))]
   | side xs=>rw[Zz W e,Zz W e,a]
   | row xs=>rw[yQ W e,yQ W e];unfold seqP;rw[a]
   | again k x=>rw[zb W e,zb W e];unfold seqP;rw[a]
end
noncomputable def wkR(gs:L5):L6->Int->Nat×Int
 | [],t=>(0,t)
 | j::r,t=>if gs.getD j 0<=t then((wkR gs r (t-gs.getD j 0)).1+1,(wkR gs r (t-gs.getD j 0)).2)else(0,t)
section
variable{ls:L4}{ps:N1}{gs:L5}{hs:L1}{E:L0}
theorem j5V:∀{is:L6} {t:Int},0<=t->t<(is.map λj=>gs.getD j 0).sum->∃j,is[(wkR gs is t).1]?=some j/\0<=(wkR gs is t).2/\(wkR gs is t).2<gs.getD j 0
 | [],t,h0,h1=>by
  have:t<0:=h1;lia
 | j::r,t,h0,h1=>by
  rw[uy,sum_cons]at h1;unfold wkR;split
  .rename_i c;exact j5V (is:=r) ⋯ ⋯
  .exact⟨j,rfl,h0,by dsimp only;lia⟩
theorem wz{t:Int}:∀{qs:List Pc},(∀q∈qs,t<q.2.2)->prg gs t qs=[]
 | [],_=>rfl
 | q::r,h=>by
  have b:=h q vq;unfold prg;rw[filterMap_cons];have:prg1 gs t q=none:=vc ⋯;rw[this];exact wz λx a=>h x (vp _ a)
def YS{t b:Int}{j:Nat}(a:1<=gs.getD j 0)(h:b<=t):prg1 gs t (j,1,b)=some (if gs.getD j 0<=t-b then(j,b,1,none)else(j,b,0,some (t-b))):=by
 unfold prg1;rw[vd (show((j,1,b):Pc).2.2<=t from h)];have o:ov gs t (j,1,b)=if gs.getD j 0<=t-b then 1 else 0:=by
  unfold ov;by_cases c:gs.getD j 0<=t-b
  .rw[vd c];have:1<=(t-b)/gs.getD j 0:=by
    have:=Int.ediv_le_ediv (show 0<gs.getD j 0 by lia) c;rw[Int.ediv_self ⋯]at this;exact this
   dsimp only;split
   .rfl
   .lia
  .rw[vc c];have:(t-b)/gs.getD j 0=0:=Int.ediv_eq_zero_of_lt ⋯ ⋯;dsimp only;rw[this,vc nofun]
 rw[o];by_cases c:gs.getD j 0<=t-b
 .rw[vd c,vd c,vc (show¬(1:Int)<((j,1,b):Pc).2.1 from Int.lt_irrefl 1)]
 .rw[vc c,vc c,vd (show(0:Int)<((j,1,b):Pc).2.1 from Int.zero_lt_one)];dsimp only;rw[show t-b-0*gs.getD j 0=t-b by lia]
def j5B{t b:Int}{j:Nat}{r:L6}(a:∀k∈j::r,1<=gs.getD k 0/\gs.getD k 0<=10^60)(h:b<=t):prg gs t (rowPc gs (j::r) b)=if gs.getD j 0<=t-b then(j,b,1,none)::prg gs t (rowPc gs r (b+gs.getD j 0))else[(j,b,0,some (t-b))]:=by
 show((j,1,b)::rowPc gs r (b+gs.getD j 0)).filterMap (prg1 gs t)=_;rw[filterMap_cons,YS (a j vq).1 h];by_cases c:gs.getD j 0<=t-b
 .rw[vd c,vd c];rfl
 .rw[vc c,vc c];have:prg gs t (rowPc gs r (b+gs.getD j 0))=[]:=wz λq e=>by
   have:=(yw (λk d=>⟨by have:=(a k (vp _ d)).1;lia,(a k (vp _ d)).2⟩) e).1;lia
  show _::prg gs t _=_;rw[this]
theorem j1N(F:Nat->Int->PyData):∀{is:L6} {b t:Int},(∀k∈is,1<=gs.getD k 0/\gs.getD k 0<=10^60)->b<=t->t-b<(is.map λj=>gs.getD j 0).sum->∀j,is[(wkR gs is (t-b)).1]?=some j->
  ((prg gs t (rowPc gs is b)).map λy=>y.2.2.1).sum=((wkR gs is (t-b)).1:Int)/\((prg gs t (rowPc gs is b)).map (subP F)).getLast?=some (F j (wkR gs is (t-b)).2)
 | [],b,t,_,h,h1,_,_=>by
  have:t-b<0:=h1;lia
 | i::r,b,t,hg,h,h1,j,hj=>by
  rw[uy,sum_cons]at h1;rw[j5B hg h];by_cases c:gs.getD i 0<=t-b
  .rw[vd c];have e:wkR gs (i::r) (t-b)=((wkR gs r (t-(b+gs.getD i 0))).1+1,(wkR gs r (t-(b+gs.getD i 0))).2):=by
    show(if _ then _ else _)=_;rw[vd c,show t-b-gs.getD i 0=t-(b+gs.getD i 0) by lia]
   rw[e]at hj|-;obtain⟨s,l⟩:=j1N F (is:=r) (b:=b+gs.getD i 0) (t:=t) (λk a=>hg k (vp _ a)) ⋯ ⋯ j hj;rw[uy,sum_cons,s,uy];refine⟨by dsimp only;lia,?_⟩;rw[List.getLast?_cons,l];rfl
  .rw[vc c];have e:wkR gs (i::r) (t-b)=(0,t-b):=vc c;rw[e]at hj|-;cases hj;exact⟨rfl,rfl⟩
theorem j1O:∀{is:L6} {b t:Int} {st:L5},(∀k∈is,1<=gs.getD k 0/\gs.getD k 0<=10^60)->b<=t->t-b<(is.map λj=>gs.getD j 0).sum->∀j,is[(wkR gs is (t-b)).1]?=some j->
  (wth gs t (rowPc gs is b)).foldl (λh x=>strI ps gs E x.1 x.2 h) st=strI ps gs E j (wkR gs is (t-b)).2 ((is.take (wkR gs is (t-b)).1).foldl (λh j=>setE (E.getD j []) h) st)
 | [],b,t,_,_,h,h1,_,_=>by
  have:t-b<0:=h1;lia
 | i::r,b,t,st,hg,h,h1,j,hj=>by
  rw[uy,sum_cons]at h1;rw[X0 hg h];by_cases c:gs.getD i 0<=t-b
  .rw[vd c];have e:wkR gs (i::r) (t-b)=((wkR gs r (t-(b+gs.getD i 0))).1+1,(wkR gs r (t-(b+gs.getD i 0))).2):=by
    show(if _ then _ else _)=_;rw[vd c,show t-b-gs.getD i 0=t-(b+gs.getD i 0) by lia]
   rw[e]at hj|-;rw[v9,kS (vA _)];have d:=j1O (is:=r) (b:=b+gs.getD i 0) (t:=t) (st:=setE (E.getD i []) st) (λk a=>hg k (vp _ a)) ⋯ ⋯ j hj;rw[d];rfl
  .rw[vc c];have e:wkR gs (i::r) (t-b)=(0,t-b):=vc c;rw[e]at hj|-;cases hj;rfl
def j48(A:EnO ls ps gs hs E){i:Nat}{o:Str}{xs:L8}(d:ps[i]?=some (o,.row xs)){t:Int}(g:0<=t)(y:t<gs.getD i 0)(st:L5):∃j,(inP ps (.row xs))[(wkR gs (inP ps (.row xs)) t).1]?=some j/\0<=(wkR gs (inP ps (.row xs)) t).2/\(wkR gs (inP ps (.row xs)) t).2<gs.getD j 0/\
  pinF ls ps gs (strI ps gs E i t st) i t = .tuple [.int ((wkR gs (inP ps (.row xs)) t).1:Int),pinF ls ps gs (strI ps gs E j (wkR gs (inP ps (.row xs)) t).2 (((inP ps (.row xs)).take (wkR gs (inP ps (.row xs)) t).1).foldl (λh j=>setE (E.getD j []) h) st)) j (wkR gs (inP ps (.row xs)) t).2]:=by
 have w:=(vx.mp d).1;have W:=A.N.s.w;have f:pcB ps gs i=rowPc gs (inP ps (.row xs)) 0:=by unfold pcB;rw[d];rfl
 have x:gs.getD i 0=((inP ps (.row xs)).map λj=>gs.getD j 0).sum:=((A.N.s.ln i _ d).2 _ rfl).symm;have l:∀k∈inP ps (.row xs),1<=gs.getD k 0/\gs.getD k 0<=10^60:=λk m=>A.N.g (by have:=W.inP_lt d m;lia)
 obtain⟨j,c,p,q⟩:=j5V (gs:=gs) (is:=inP ps (.row xs)) g ⋯;refine⟨j,c,p,q,?_⟩;have n:pcB ps gs i≠[]:=by
  rw[f];cases e:inP ps (.row xs)with
  | nil=>rw[e]at c;simp at c
  | cons a r=>exact λz=>by cases z
 have z:t-0=t:=⋯
 have s:=j1N (gs:=gs) (pinF ls ps gs (strI ps gs E i t st)) (b:=0) (t:=t) l g (by rw[z];lia) j (by rw[z];exact c);have u:=j1O (ps:=ps) (gs:=gs) (E:=E) (b:=0) (t:=t) (st:=st) l g (by rw[z];lia) j (by rw[z];exact c);rw[z]at s u;have v:strI ps gs E i t st=strI ps gs E j (wkR gs (inP ps (.row xs)) t).2 (((inP ps (.row xs)).take (wkR gs (inP ps (.row xs)) t).1).foldl (λh j=>setE (E.getD j []) h) st):=by
  rw[kR W ⋯ n,f,u]
 rw[yQ W d,f];unfold seqP;rw[s.1,s.2,v];rfl
def j2y(A:EnO ls ps gs hs E){i:Nat}{O:Str}{xs:L8}(m:ps[i]?=some (O,.side xs)){t:Int}(F:0<=t)(X:t<gs.getD i 0)(st:L5)(w:Nat->L5)
  (q:∀j∈inP ps (.side xs),(w j).length=st.length/\∀k:Nat,(k:Int)∈hs.getD j []->(w j).getD k 0=st.getD k 0):pinF ls ps gs (strI ps gs E i t st) i t = .tuple ((inP ps (.side xs)).map λj=>if gs.getD j 0<=t then .none else pinF ls ps gs (strI ps gs E j t (w j)) j t):=by
 have U:=(vx.mp m).1;have W:=A.N.s.w;have p:pcB ps gs i=(inP ps (.side xs)).map λj=>(j,1,0):=by unfold pcB;rw[m];rfl
 have s:∀j∈inP ps (.side xs),j<ps.length:=λj d=>by have:=W.inP_lt m d;lia
 have B:∀j∈inP ps (.side xs),1<=gs.getD j 0:=λj d=>(A.N.g (s j d)).1
 have P:∀f:L6,(∀j∈f,1<=gs.getD j 0)->(prg gs t (f.map λj=>(j,1,0)))=f.map λj=>if gs.getD j 0<=t then(j,0,1,none)else(j,0,0,some t):=λf=>by
  induction f with
  | nil=>exact λ_=>rfl
  | cons a r ih=>
   intro h;show((a,1,0)::r.map λj=>(j,1,0)).filterMap (prg1 gs t)=_;rw[filterMap_cons,YS (h a vq) F,Int.sub_zero];show _::prg gs t (r.map λj=>(j,1,0))=_;rw[ih λj d=>h j (vp _ d)];rfl
 rw[Zz W m,p,P _ B,v8];congr 1;refine map_congr_left λj d=>?_
 show subP (pinF ls ps gs (strI ps gs E i t st)) (if gs.getD j 0<=t then(j,0,1,none)else(j,0,0,some t))=_;by_cases c:gs.getD j 0<=t
 .rw[vd c,vd c];rfl
 .rw[vc c,vc c];show pinF ls ps gs (strI ps gs E i t st) j t=_;refine j1H A.N (s j d) λk C=>?_
  obtain⟨R,Q⟩:=q j d;have N:pcB ps gs i≠[]:=by
   rw[p];exact λz=>by rw[List.map_eq_nil_iff]at z;rw[z]at d;exact nomatch d
  rw[kR W ⋯ N,p,X4 B F];obtain⟨a,b,e⟩:=List.append_of_mem d;have n:∀g∈a++b,g∈inP ps (.side xs)/\(k:Int)∉hs.getD g []:=λg l=>by
   refine⟨by rw[e];rcases vh.mp l with h | h;exact vh.mpr (.inl h);exact vh.mpr (.inr (vp _ h)),λJ=>?_⟩;have c:(((inP ps (.side xs)).map λj=>hs.getD j []).filter λu=>decide ((k:Int)∈u)).length<=1:=(A.N.s.sd i _ xs m rfl).2 k;have v:1<=(((a++b).map λj=>hs.getD j []).filter λu=>decide ((k:Int)∈u)).length:=length_pos_of_mem (vP.mpr ⟨vK.mpr ⟨g,l,rfl⟩,vG J⟩);rw[e,vj,filter_append,vn,uy,uz,vd (vG C),vQ]at c;rw[vj,filter_append,vn]at v;lia
  have o:∀(f:L6) (h:L5),(∀g∈f,g∈inP ps (.side xs)/\(k:Int)∉hs.getD g [])->((f.map λj=>if gs.getD j 0<=t then(j,gs.getD j 0)else(j,t)).foldl (λh x=>strI ps gs E x.1 x.2 h) h).getD k 0=h.getD k 0/\((f.map λj=>if gs.getD j 0<=t then(j,gs.getD j 0)else(j,t)).foldl (λh x=>strI ps gs E x.1 x.2 h) h).length=h.length:=λf=>by
   induction f with
   | nil=>exact λ_ _=>⟨rfl,rfl⟩
   | cons y r ih=>
    intro h D;obtain⟨S,T⟩:=D y vq;rw[uy,v9];obtain⟨L,M⟩:=ih (strI ps gs E (if gs.getD y 0<=t then(y,gs.getD y 0)else(y,t)).1 (if gs.getD y 0<=t then(y,gs.getD y 0)else(y,t)).2 h) λz K=>D z (vp _ K)
    rw[L,M];have I:(if gs.getD y 0<=t then(y,gs.getD y 0)else(y,t)).1=y:=by split<;>rfl
    rw[I];exact⟨j4x A (s y S) T,j4z _ _⟩
  rw[e,vj,foldl_append,uy,v9,vc c];obtain⟨G,H⟩:=o a st λg h=>n g (vh.mpr (.inl h))
  rw[(o b _ λg h=>n g (vh.mpr (.inr h))).1];exact WT (by rw[H,R]) (by rw[G,Q k C])
theorem j4N{j:Nat}(d:1<=gs.getD j 0):∀(n:Nat) {t:Int},0<=t->t<n*gs.getD j 0->wkR gs (List.replicate n j) t=((t/gs.getD j 0).toNat,t%gs.getD j 0)
 | 0,t,h0,h1=>by
  have:t<0:=by simpa using h1
  lia
 | n+1,t,h0,h1=>by
  have f:((n+1:Nat):Int)*gs.getD j 0=n*gs.getD j 0+gs.getD j 0:=by
   rw[Int.natCast_add,Int.add_mul];show _+1*_=_;rw[Int.one_mul]
  rw[replicate_succ];show(if gs.getD j 0<=t then _ else _)=_;by_cases c:gs.getD j 0<=t
  .rw[vd c,j4N d n ⋯ ⋯];have a:(t-gs.getD j 0)/gs.getD j 0=t/gs.getD j 0-1:=by
    have:=Int.add_mul_ediv_right t (-1) (show gs.getD j 0≠0 by lia);rw[show t-gs.getD j 0=t + -1*gs.getD j 0 by lia,this];lia
   have b:(t-gs.getD j 0)%gs.getD j 0=t%gs.getD j 0:=Int.sub_emod_right t _;have e:1<=t/gs.getD j 0:=by
    have:=Int.ediv_le_ediv (show 0<gs.getD j 0 by lia) c;rw[Int.ediv_self ⋯]at this;exact this
   dsimp only;rw[a,b,show(t/gs.getD j 0-1).toNat+1=(t/gs.getD j 0).toNat by lia]
  .rw[vc c,Int.ediv_eq_zero_of_lt h0 ⋯,Int.emod_eq_of_lt h0 ⋯];rfl
theorem j1M(A:EnO ls ps gs hs E){j:Nat}(a:j<ps.length):∀(n:Nat) (st:L5),(List.replicate (n+1) j).foldl (λh j=>setE (E.getD j []) h) st=setE (E.getD j []) st
 | 0,_=>rfl
 | n+1,st=>by rw[replicate_succ,v9,j1M A a n,A.two a]
def j0Q(A:EnO ls ps gs hs E){i:Nat}{D x:Str}{k:Int}(d:ps[i]?=some (D,.again k x)){t:Int}(a:0<=t)(T:t<gs.getD i 0)(st:L5):∃j,inP ps (.again k x)=[j]/\gs.getD i 0=k*gs.getD j 0/\
  pinF ls ps gs (strI ps gs E i t st) i t = .tuple [.int (t/gs.getD j 0),pinF ls ps gs (strI ps gs E j (t%gs.getD j 0) ((List.replicate (t/gs.getD j 0).toNat j).foldl (λh j=>setE (E.getD j []) h) st)) j (t%gs.getD j 0)]:=by
 have P:=(vx.mp d).1;have W:=A.N.s.w;obtain⟨j,m⟩:∃j,inP ps (.again k x)=[j]:=⟨_,rfl⟩
 have v:j<ps.length:=by have:=W.inP_lt d (j:=j) (by show j∈inP ps (.again k x);rw[m];simp);lia
 have I:k*gs.getD j 0=gs.getD i 0:=(A.N.s.ln i _ d).2 _ ⟨gs.getD j 0,by show((inP ps (.again k x)).map λj=>gs.getD j 0).head?=_;rw[m];rfl,rfl⟩;have Q:=A.N.a18 i D x k d;obtain⟨u,H⟩:=A.N.g v;have g:pcB ps gs i=(j,1,0)::(if 1<k then[(j,k-1,gs.getD j 0)]else[]):=by unfold pcB;rw[d];show pcsI gs (.again k x) (inP ps (.again k x))=_;rw[m];rfl
 have K:pcB ps gs i≠[]:=by rw[g];exact λz=>by cases z
 refine⟨j,m,I.symm,?_⟩;have R:0<=t/gs.getD j 0:=Int.ediv_nonneg a ⋯;have S:t/gs.getD j 0<k:=Int.ediv_lt_of_lt_mul ⋯ ⋯;have O:=Int.emod_add_mul_ediv t (gs.getD j 0);have N:gs.getD j 0*(t/gs.getD j 0)=t/gs.getD j 0*gs.getD j 0:=Int.mul_comm ..;have G:(t-gs.getD j 0)/gs.getD j 0=t/gs.getD j 0-1:=by
  have:=Int.add_mul_ediv_right t (-1) (show gs.getD j 0≠0 by lia);rw[show t-gs.getD j 0=t + -1*gs.getD j 0 by lia,this];lia
 have f:gs.getD j 0<=t->1<=t/gs.getD j 0/\1<k/\ov gs t (j,k-1,gs.getD j 0)=t/gs.getD j 0-1/\t-gs.getD j 0-(t/gs.getD j 0-1)*gs.getD j 0=t%gs.getD j 0:=λc=>by
  have p:1<=t/gs.getD j 0:=by
   have:=Int.ediv_le_ediv (show 0<gs.getD j 0 by lia) c;rw[Int.ediv_self ⋯]at this;exact this
  refine⟨p,⋯,?_,?_⟩
  .unfold ov;dsimp only;rw[G,vc ⋯]
  .rw[Int.sub_mul,Int.one_mul];lia
 have B:∀F:Nat->Int->PyData,((prg gs t (pcB ps gs i)).map λy=>y.2.2.1).sum=t/gs.getD j 0/\((prg gs t (pcB ps gs i)).map (subP F)).getLast?=some (F j (t%gs.getD j 0)):=λF=>by
  by_cases c:gs.getD j 0<=t
  .obtain⟨p,w,o,r⟩:=f c;have e:prg gs t (pcB ps gs i)=[(j,0,1,none),(j,gs.getD j 0,t/gs.getD j 0-1,some (t%gs.getD j 0))]:=by
    rw[g,vd w];show((j,1,0)::[(j,k-1,gs.getD j 0)]).filterMap (prg1 gs t)=_;have L:prg1 gs t (j,k-1,gs.getD j 0)=some (j,gs.getD j 0,t/gs.getD j 0-1,some (t%gs.getD j 0)):=by
     unfold prg1;rw[vd (show((j,k-1,gs.getD j 0):Pc).2.2<=t from c),o,vd (show t/gs.getD j 0-1<((j,k-1,gs.getD j 0):Pc).2.1 by show _<k-1;lia)];dsimp only;rw[r]
    rw[filterMap_cons,YS u a,Int.sub_zero,vd c,filterMap_cons,L];rfl
   rw[e];refine⟨?_,rfl⟩;show(1:Int)+((t/gs.getD j 0-1)+0)=_;lia
  .have e:prg gs t (pcB ps gs i)=[(j,0,0,some t)]:=by
    rw[g];have C:prg gs t (if 1<k then[(j,k-1,gs.getD j 0)]else[])=[]:=wz λq b=>by
     split at b
     .rw[vo.mp b];show t<gs.getD j 0;lia
     .exact nomatch b
    show((j,1,0)::(if 1<k then[(j,k-1,gs.getD j 0)]else[])).filterMap (prg1 gs t)=_;rw[filterMap_cons,YS u a,Int.sub_zero,vc c];show _::prg gs t _=_;rw[C]
   rw[e,Int.ediv_eq_zero_of_lt a ⋯,Int.emod_eq_of_lt a ⋯];exact⟨rfl,rfl⟩
 have M:strI ps gs E i t st=strI ps gs E j (t%gs.getD j 0) ((List.replicate (t/gs.getD j 0).toNat j).foldl (λh j=>setE (E.getD j []) h) st):=by
  rw[kR W ⋯ K,g,zG,Xh u a,Int.sub_zero];by_cases c:gs.getD j 0<=t
  .obtain⟨p,w,o,r⟩:=f c;rw[vd c,vd w,zG,j20,append_nil,j1Y (show((j,k-1,gs.getD j 0):Pc).2.2<=t from c),o,vd (show t/gs.getD j 0-1<((j,k-1,gs.getD j 0):Pc).2.1 by show _<k-1;lia)];dsimp only;rw[r];obtain⟨n,J⟩:∃n:Nat,(t/gs.getD j 0).toNat=n+1:=⟨(t/gs.getD j 0).toNat-1,⋯⟩
   rw[J,j1M A v n];show((if 0<t/gs.getD j 0-1 then[(j,gs.getD j 0)]else[])++[(j,t%gs.getD j 0)]).foldl _ (strI ps gs E j (gs.getD j 0) st)=_;rw[kS (vA _),foldl_append];split
   .show strI ps gs E j _ (strI ps gs E j (gs.getD j 0) _)=_;rw[kS (vA _),A.two v]
   .rfl
  .rw[vc c,Int.ediv_eq_zero_of_lt a ⋯,Int.emod_eq_of_lt a ⋯];have C:wth gs t (if 1<k then[(j,k-1,gs.getD j 0)]else[])=[]:=YW λq b=>by
    split at b
    .rw[vo.mp b];show t<gs.getD j 0;lia
    .exact nomatch b
   rw[C];rfl
 obtain⟨s,l⟩:=B (pinF ls ps gs (strI ps gs E i t st));rw[zb W d];unfold seqP;rw[s,l,<-M];rfl
end
def j6W(lx:L8)(d:Dm):(bkF lx d).ns=d.ns.map nmK:=by cases d<;>rfl
def j5f(ls:L4)(ks:List Dm):nmsOf (bkP ls ks)=(List.range ks.length).map nmK:=by
 unfold nmsOf bkP;rw[v8];rfl
def j0s{ls:L4}{ks:List Dm}(W:WfB ls (bkP ls ks)){d:Dm}(a:∀j∈d.ns,j<ks.length):inP (bkP ls ks) (bkF (nmsOf ls) d)=d.ns:=by
 unfold inP;rw[j6W,v8];have:∀j∈d.ns,(ixOf (nmsOf (bkP ls ks))∘nmK) j=id j:=λj b=>jW (j:=j) W.pn (by rw[j5f,vv,List.getElem?_range (a j b)];rfl)
 rw[map_congr_left this,List.map_id]
structure BoxA(H:Hp)(bx l f:Addr)(las das:L7)(ls:L4)(ks:List Dm):Prop where
 t:H bx=some (.tup [.ref l,.ref f])
 l:H l=some (.lst (las.map V.ref))
 la:All2 (LimbAt H) las ls
 f:H f=some (.lst (das.map V.ref))
 d:DrAt H das ks
def GAt.keepT{H H':Hp}{a:Addr}{g:Gv}(k:∀c xs,H c=some (.tup xs)->H' c=some (.tup xs))(h:GAt H a g):GAt H' a g:=by
 cases g with
 | smp r vs=>exact k _ _ h
 | rise x g n=>exact k _ _ h
 | again j x=>exact k _ _ h
 | many s xs=>obtain⟨b,d,e⟩:=h;exact⟨b,k _ _ d,k _ _ e⟩
def BoxA.but{H H':Hp}{n l f i:Addr}{g b:L7}{ls:L4}{ks:List Dm}{xs:N2}(B:BoxA H n l f g b ls ks)(o:H i=some (.lst xs))(p:l≠i)(q:f≠i)(k:∀c u,c≠i->H c=some u->H' c=some u):BoxA H' n l f g b ls ks:=by
 have j:∀c m,H c=some (.tup m)->H' c=some (.tup m):=λc m h=>k _ _ (jZ h o (λe=>by cases e)) h
 exact⟨j _ _ B.t,k _ _ p B.l,B.la.mono λa x h=>j _ _ h,k _ _ q B.f,All2.mono B.d λa d h=>GAt.keepT j h⟩
def BoxA.same{H H':Hp}{e l f:Addr}{c b:L7}{ls:L4}{ks:List Dm}(B:BoxA H e l f c b ls ks)(s:Same H H'):BoxA H' e l f c b ls ks:=
 ⟨s _ _ B.t,s _ _ B.l,B.la.mono λa x h=>s _ _ h,s _ _ B.f,All2.mono B.d λa d h=>h.same s⟩
def BoxA.at'{H:Hp}{h l f:Addr}{c b:L7}{ls:L4}{ks:List Dm}(B:BoxA H h l f c b ls ks){i:Nat}{d:Dm}(g:ks[i]?=some d):∃a,atI (b.map V.ref) (i:Int)=some (.ref a)/\GAt H a (gD d):=by
 have k:=B.d.1;have j:=(vx.mp g).1;obtain⟨a,e⟩:∃a,b[i]?=some a:=⟨_,vz ⋯⟩
 exact⟨a,L2.jN (by rw[vv,e];rfl),B.d.2 i a d e g⟩
structure BoxE(ls:L4)(ks:List Dm)(gs:L5)(hs:L1)(E:L0):Prop where
 x:BxOk ls ks
 a:EnO ls (bkP ls ks) gs hs E
def BoxE.at'{ls:L4}{ks:List Dm}{gs:L5}{f:L1}{E:L0}(B:BoxE ls ks gs f E){i:Nat}{d:Dm}(a:ks[i]?=some d):(bkP ls ks)[i]?=some (nmK i,bkF (nmsOf ls) d)/\inP (bkP ls ks) (bkF (nmsOf ls) d)=d.ns/\∀j∈d.ns,j<i:=by
 have e:=kh (ls:=ls) a;have g:=(vx.mp a).1;have W:=B.a.N.s.w;have c:∀j∈d.ns,j<i:=λj b=>B.x.dw.lt i d a j b
 exact⟨e,j0s W λj b=>by have:=c j b;lia,c⟩
def DVT(H:Hp)(v:V)(d:PyData):Prop:=∀H2,(∀a xs,H a=some (.tup xs)->H2 a=some (.tup xs))->DV H2 v d
def DVT.keep{H H':Hp}{v:V}{d:PyData}(h:DVT H v d)(k:∀a xs,H a=some (.tup xs)->H' a=some (.tup xs)):DVT H' v d:=λb c=>h b λa xs z=>c _ _ (k _ _ z)
inductive sp_longsP(vs:N2)(H:Hp)(Q:VK)(xk:XK):Prop
 | mk (bx l f:Addr) (las das:L7) (ls:L4) (ks:List Dm) (gs:L5) (hs:L1) (_:vs=[.ref bx]) (_:BoxA H bx l f las das ls ks) (_:BxOk ls ks) (_:Sn ls (bkP ls ks) gs hs) (_:∀(p:Addr) (H':Hp),Same H H'->H p=none->H' p=some (.lst (gs.map V.int))->Q (.ref p) H'):sp_longsP vs H Q xk
inductive sp_behindP(n:Nat)(vs:N2)(H:Hp)(Q:VK)(xk:XK):Prop
 | mk (bx l f sl:Addr) (las das:L7) (ls:L4) (ks:List Dm) (gs:L5) (hs:L1) (E:L0) (i:Nat) (st:L5) (_:vs=[.ref bx,.int (i:Nat),.ref sl]) (_:BoxA H bx l f las das ls ks) (_:BoxE ls ks gs hs E) (_:i<ks.length) (_:i<n) (_:H sl=some (.lst (st.map V.int))) (_:st.length=ls.length) (_:l≠sl) (_:f≠sl) (_:∀H',(∀c u,c≠sl->H c=some u->H' c=some u)->H' sl=some (.lst ((setE (E.getD i []) st).map V.int))->Q .non H'):sp_behindP n vs H Q xk
structure PinA(H:Hp)(bx l f gl sl:Addr)(las das:L7)(ls:L4)(ks:List Dm)(gs:L5)(hs:L1)(E:L0)(st:L5):Prop where
 b:BoxA H bx l f las das ls ks
 e:BoxE ls ks gs hs E
 g:H gl=some (.lst (gs.map V.int))
 s:H sl=some (.lst (st.map V.int))
 n:st.length=ls.length
 n1:l≠sl
 n2:f≠sl
 n3:gl≠sl
def PinQ(H:Hp)(sl:Addr)(hs:L1)(i:Nat)(st:L5)(d:PyData)(Q:VK):Prop:=∀(v:V) (st':L5) (H':Hp),(∀c u,c≠sl->H c=some u->H' c=some u)->H' sl=some (.lst (st'.map V.int))->st'.length=st.length->(∀k:Nat,(k:Int)∉hs.getD i []->st'.getD k 0=st.getD k 0)->DVT H' v d->Q v H'
inductive sp_pinsP(n:Nat)(vs:N2)(H:Hp)(Q:VK)(xk:XK):Prop
 | mk (bx l f gl sl:Addr) (las das:L7) (ls:L4) (ks:List Dm) (gs:L5) (hs:L1) (E:L0) (i:Nat) (t:Int) (st:L5) (_:vs=[.ref bx,.ref gl,.int (i:Nat),.int t,.ref sl]) (_:PinA H bx l f gl sl las das ls ks gs hs E st) (_:i<ks.length) (_:i<n) (_:0<=t) (_:t<gs.getD i 0) (_:gs.getD i 0<=10^6) (_:PinQ H sl hs i st (pinF ls (bkP ls ks) gs (strI (bkP ls ks) gs E i t st) i t) Q):sp_pinsP n vs H Q xk
inductive sp_besideP(n:Nat)(vs:N2)(H:Hp)(Q:VK)(xk:XK):Prop
 | mk (bx l f gl sl:Addr) (las das:L7) (ls:L4) (ks:List Dm) (gs:L5) (hs:L1) (E:L0) (i:Nat) (t:Int) (st:L5) (_:vs=[.ref bx,.ref gl,.int (i:Nat),.int t,.ref sl]) (_:PinA H bx l f gl sl las das ls ks gs hs E st) (_:i<ks.length) (_:i<n) (_:0<=t) (_:gs.getD i 0<=10^6) (_:PinQ H sl hs i st (if gs.getD i 0<=t then .none else pinF ls (bkP ls ks) gs (strI (bkP ls ks) gs E i t st) i t) Q):sp_besideP n vs H Q xk
inductive sp_dueP(vs:N2)(H:Hp)(Q:VK)(xk:XK):Prop
 | mk (bx l f gl:Addr) (las das:L7) (ls:L4) (ks:List Dm) (gs:L5) (hs:L1) (E:L0) (t:Int) (_:vs=[.ref bx,.ref gl,.int t]) (_:BoxA H bx l f las das ls ks) (_:BoxE ls ks gs hs E) (_:H gl=some (.lst (gs.map V.int))) (_:0<=t) (_:t<=gs.getD (ks.length-1) 0) (_:gs.getD (ks.length-1) 0<=10^6) (_:∀(v:V) (H':Hp),Same H H'->DVT H' v (pinD ls (bkP ls ks) gs E t)->Q v H'):sp_dueP vs H Q xk
def j5Y{b:Bool}{A R:Prop}(h:b=true->R->A)(r:R):if b=true then A else R:=by
 split
 .rename_i c;exact h c r
 .exact r
theorem j1k{H:Hp}:∀{xs:N2} {ds:List PyData},ds.length=xs.length->(∀(m:Nat) (v:V) (d:PyData),xs[m]?=some v->ds[m]?=some d->DV H v d)->DVs H xs ds
 | [],[],_,_=>.nil
 | v::xs,d::ds,l,h=>.cons (h 0 v d rfl rfl) (j1k (Nat.succ.inj l) λm v d a b=>h (m+1) v d a b)
inductive PlD:Nat->PyData->Prop
 | int (n:Nat) (i:Int):PlD n (.int i)
 | non (n:Nat):PlD n .none
 | tup (n:Nat) (ds:List PyData):ds.length<=8->(∀d∈ds,PlD n d)->PlD (n+1) (.tuple ds)
def wg{vs:N2}{H:Hp}{Q:VK}{E:XK}:¬sp_behindP 0 vs H Q E:=λz=>by
 rcases z with⟨_,_,_,_,_,_,_,_,_,_,_,_,_,_,_,_,_,h,_⟩
 exact ue h (Nat.not_lt_zero _)
def XM{vs:N2}{H:Hp}{Q:VK}{E:XK}:¬sp_pinsP 0 vs H Q E:=λz=>by
 rcases z with⟨_,_,_,_,_,_,_,_,_,_,_,_,_,_,_,_,_,_,h,_⟩
 exact ue h (Nat.not_lt_zero _)
inductive sp_plainP(n:Nat)(vs:N2)(H:Hp)(Q:VK)(xk:XK):Prop
 | mk (v:V) (d:PyData) (m:Nat) (_:vs=[v]) (_:DV H v d) (_:PlD m d) (_:m<n) (_:∀H',Same H H'->Q (.bl true) H'):sp_plainP n vs H Q xk
def WI{vs:N2}{H:Hp}{Q:VK}{E:XK}:¬sp_plainP 0 vs H Q E:=λz=>by
 rcases z with⟨_,_,_,_,_,_,h,_⟩
 exact ue h (Nat.not_lt_zero _)
theorem Xx{ls:L4}{ps:N1}{gs:L5}{b:L1}{E:L0}(A:EnO ls ps gs b E){k:Nat}:∀{is:L6} {st:L5},(∀m∈is,m<ps.length/\((k:Nat):Int)∉b.getD m [])->(is.foldl (λh j=>setE (E.getD j []) h) st).getD k 0=st.getD k 0
 | [],_,_=>rfl
 | m::is,st,h=>by
  obtain⟨f,d⟩:=h m vq;rw[v9,Xx A λx c=>h x (vp _ c)];refine kP λq a e=>d ?_
  have p:=A.pos q a;rw[show((k:Nat):Int)=q.1 by lia];exact j1m A.N A.l A.o f a
theorem j1A{g:Nat->Int}{m:Nat}:∀{is:L6},(∀i∈is,1<=g i)->(0<=(is.map g).sum)/\(m∈is->g m<=(is.map g).sum)
 | [],_=>⟨vA _,λh=>nomatch h⟩
 | i::is,h=>by
  obtain⟨a,b⟩:=j1A (m:=m) (is:=is) λx d=>h x (vp _ d)
  have e:=h i vq;rw[uy,sum_cons];refine⟨⋯,λc=>?_⟩;rcases mem_cons.mp c with rfl | c
  .lia
  .have:=b c;lia
inductive sp_wholeP(vs:N2)(H:Hp)(Q:VK)(xk:XK):Prop
 | mk (v:V) (b:Bool) (_:vs=[v]) (_:((∃i,v = .int i/\b=true)\/∃(a:Addr) (xs:N2),v = .ref a/\H a=some (.tup xs)/\b=false)) (_:Q (.bl b) H):sp_wholeP vs H Q xk
theorem xi{H:Hp}:∀{xs:N2} {ds:List PyData},DVs H xs ds->xs.length=ds.length/\∀{i:Nat} {v:V},xs[i]?=some v->∃d∈ds,DV H v d
 | _,_,.nil=>⟨rfl,λh=>by simp at h⟩
 | _,_,.cons a r=>⟨congrArg Nat.succ (xi r).1,λ{i} v h=>by
  cases i with
  | zero=>cases h;exact⟨_,vq,a⟩
  | succ i=>
   obtain⟨d,b,c⟩:=(xi r).2 h;exact⟨d,vp _ b,c⟩⟩
def PlD.mono:∀{n:Nat} {d:PyData},PlD n d->∀{m:Nat},n<=m->PlD m d
 | _,_,.int _ i,_,_=>.int _ i
 | _,_,.non _,_,_=>.non _
 | _,_,.tup n ds l h,0,z=>ue z ⋯
 | _,_,.tup n ds l h,m+1,z=>.tup m ds l λd a=>(h d a).mono ⋯
section
variable{ls:L4}{ps:N1}{gs:L5}
def j49{n:Nat}{a b:PyData}(c:PlD n a)(d:PlD n b):PlD (n+1) (.tuple [a,b]):=.tup n _ (by show 2<=8;decide) (forall_mem_cons.mpr ⟨c,forall_mem_cons.mpr ⟨d,λ_ h=>nomatch h⟩⟩)
def j6A{st:L5}(W:WfB ls ps)(l:∀(i:Nat) (nm:Str) (xs:L8) (t:Int),ps[i]?=some (nm,.side xs)->(prg gs t (pcB ps gs i)).length<=8):∀{i:Nat} {t:Int},PlD (i+1) (pinF ls ps gs st i t):=by
 intro i
 induction i using Nat.strongRecOn with
 | ind i ih=>
  intro t;have c:PlD (i+1) (.tuple [.int t]):=.tup i _ (by show 1<=8;decide) (forall_mem_cons.mpr ⟨.int _ _,λ_ h=>nomatch h⟩);have b:∀y∈prg gs t (pcB ps gs i),PlD i (subP (pinF ls ps gs st) y):=λy a=>by
   have:=wA W a;unfold subP;split
   .exact(ih y.1 this).mono ⋯
   .exact .non _
  have g:PlD (i+1) (seqP (prg gs t (pcB ps gs i)) (pinF ls ps gs st)):=by
   refine j49 (.int _ _) ?_;cases e:((prg gs t (pcB ps gs i)).map (subP (pinF ls ps gs st))).getLast? with
   | none=>exact .non _
   | some d=>
    obtain⟨y,a,rfl⟩:=vK.mp (List.mem_of_getLast? e);exact b y a
  cases e:ps[i]? with
  | none=>unfold pinF pinL;rw[e];exact .non _
  | some p=>
   obtain⟨nm,f⟩:=p;cases f with
   | hold n=>rw[Zw e];exact c
   | ring x n=>rw[Zx e];exact c
   | rise x v n=>rw[Zy e];exact j49 (.int _ _) (.int _ _)
   | side xs=>
    rw[Zz W e];refine .tup i _ (by rw[vt];exact l i nm xs t e) λd j=>?_
    obtain⟨y,a,rfl⟩:=vK.mp j;exact b y a
   | row xs=>rw[yQ W e];exact g
   | again k x=>rw[zb W e];exact g
end
def j5r{ls:L4}{ks:List Dm}{gs:L5}{E:L0}{t:Int}(W:WfB ls (bkP ls ks))(X:BxOk ls ks)(k:1<=ks.length):PlD 61 (pinD ls (bkP ls ks) gs E t):=by
 unfold pinD;split
 .exact .non _
 .have g:=X.k61;refine PlD.mono (j6A W λi m h t e=>?_) (by rw[j6];lia);have b:=(vx.mp e).1;rw[j6]at b;have a:ks[i]?=some ks[i]:=vz b;have c:=kh (ls:=ls) a;rw[c]at e;have d:bkF (nmsOf ls) ks[i] = .side h:=(Prod.mk.inj (vL e)).2;have l:=X.dw.l8 ks[i] (vm a);refine vW (List.length_filterMap_le _ _) ?_;unfold pcB;rw[c];show(pcsI gs (bkF (nmsOf ls) ks[i]) (inP (bkP ls ks) (bkF (nmsOf ls) ks[i]))).length<=8;rw[j0s W λj f=>by have:=X.dw.lt i _ a j f;lia,d];show(ks[i].ns.map _).length<=8;rw[vt];exact l
def j3X{c:Prop}[Decidable c]{A B:Prop}(a:A)(b:A->B):if c then A else B:=by
 split
 .exact a
 .exact b a
end Rm
namespace L2
inductive IvA2(a0 a1:Prop):Prop | mk:a0->a1->IvA2 a0 a1
inductive IvA3(a0 a1 a2:Prop):Prop | mk:a0->a1->a2->IvA3 a0 a1 a2
inductive IvA4(a0 a1 a2 a3:Prop):Prop | mk:a0->a1->a2->a3->IvA4 a0 a1 a2 a3
inductive IvA5(a0 a1 a2 a3 a4:Prop):Prop | mk:a0->a1->a2->a3->a4->IvA5 a0 a1 a2 a3 a4
inductive IvA6(a0 a1 a2 a3 a4 a5:Prop):Prop | mk:a0->a1->a2->a3->a4->a5->IvA6 a0 a1 a2 a3 a4 a5
inductive IvA7(a0 a1 a2 a3 a4 a5 a6:Prop):Prop | mk:a0->a1->a2->a3->a4->a5->a6->IvA7 a0 a1 a2 a3 a4 a5 a6
inductive IvA9(a0 a1 a2 a3 a4 a5 a6 a7 a8:Prop):Prop | mk:a0->a1->a2->a3->a4->a5->a6->a7->a8->IvA9 a0 a1 a2 a3 a4 a5 a6 a7 a8
inductive IvA14(a0 a1 a2 a3 a4 a5 a6 a7 a8 a9 a10 a11 a12 a13:Prop):Prop | mk:a0->a1->a2->a3->a4->a5->a6->a7->a8->a9->a10->a11->a12->a13->IvA14 a0 a1 a2 a3 a4 a5 a6 a7 a8 a9 a10 a11 a12 a13
inductive IvE1{α0:Type}(p:α0->Prop):Prop | mk (x0) (h:p x0):IvE1 p
inductive IvE2{α0 α1:Type}(p:α0->α1->Prop):Prop | mk (x0 x1) (h:p x0 x1):IvE2 p
inductive IvE3{α0 α1 α2:Type}(p:α0->α1->α2->Prop):Prop | mk (x0 x1 x2) (h:p x0 x1 x2):IvE3 p
inductive IvE4{α0 α1 α2 α3:Type}(p:α0->α1->α2->α3->Prop):Prop | mk (x0 x1 x2 x3) (h:p x0 x1 x2 x3):IvE4 p
inductive IvE5{α0 α1 α2 α3 α4:Type}(p:α0->α1->α2->α3->α4->Prop):Prop | mk (x0 x1 x2 x3 x4) (h:p x0 x1 x2 x3 x4):IvE5 p
inductive IvE6{α0 α1 α2 α3 α4 α5:Type}(p:α0->α1->α2->α3->α4->α5->Prop):Prop | mk (x0 x1 x2 x3 x4 x5) (h:p x0 x1 x2 x3 x4 x5):IvE6 p
inductive IvE7{α0 α1 α2 α3 α4 α5 α6:Type}(p:α0->α1->α2->α3->α4->α5->α6->Prop):Prop | mk (x0 x1 x2 x3 x4 x5 x6) (h:p x0 x1 x2 x3 x4 x5 x6):IvE7 p
inductive IvE8{α0 α1 α2 α3 α4 α5 α6 α7:Type}(p:α0->α1->α2->α3->α4->α5->α6->α7->Prop):Prop | mk (x0 x1 x2 x3 x4 x5 x6 x7) (h:p x0 x1 x2 x3 x4 x5 x6 x7):IvE8 p
inductive IvE9{α0 α1 α2 α3 α4 α5 α6 α7 α8:Type}(p:α0->α1->α2->α3->α4->α5->α6->α7->α8->Prop):Prop | mk (x0 x1 x2 x3 x4 x5 x6 x7 x8) (h:p x0 x1 x2 x3 x4 x5 x6 x7 x8):IvE9 p
inductive IvE10{α0 α1 α2 α3 α4 α5 α6 α7 α8 α9:Type}(p:α0->α1->α2->α3->α4->α5->α6->α7->α8->α9->Prop):Prop | mk (x0 x1 x2 x3 x4 x5 x6 x7 x8 x9) (h:p x0 x1 x2 x3 x4 x5 x6 x7 x8 x9):IvE10 p
end L2
def L2.fsc(a:sc.kind = .function:=by rfl)(b:sc.isCoroutine=false:=by rfl)(c:sc.isGenerator=false:=by rfl)(d:N.Nodup:=by trivial)(e:N.take P.length=P:=by rfl)(f:∀x∈P,sc.names.lookup x=some .local\/sc.names.lookup x=some .cell:=by trivial)(g:∀y∈sc.names,y.2≠.free:=by trivial):L2.FnScope N P sc:=⟨a,b,c,d,e,f,g⟩
structure PySem.W.Fast:Prop where
  (tw15217331396962399506 tw1957397572980700776 tw11967831608994773318 tw14757777778470521581 tw13076752477806965911 tw6807982768143537285 tw11261588194263118257 tw15947447510080586971 tw4780160569120779714 tw5203660294008956105 tw4764519115421732062 tw15181602271883331932 tw16003341192735223373 tw14640298978125530379 tw2766219272144328221 tw16539424793209232885 tw4524932135813287325 tw14196207935785921992 tw8094742672268137787 tw13178081972098122312 tw5904952373177567797 tw8161895102443096794 tw9897053133891746179 tw11157707246779903905 tw2966136922229491837 tw1210383113315918596 tw17958730082441262043 tw8673063800037353549 tw14872559566482255596 tw8724482244433743889 tw7086448670694579630 tw13525068246450459084 tw10037714789666463608 tw9663332248603675387 tw9304476203937810347 tw15679232719779264837 tw9477826662951549699 tw5157847782276100699 tw1195706671706523570 tw10276365299296416546 tw16149165375632553284 tw5474726713080991101 tw16724048782160337658 tw14016213169868534594 tw1007157081707368353 tw9769728496973080414 tw513933316063652066 tw15428085661369789336 tw2754742009471549693 tw14926271246399819503 tw693629891395851252 tw573804797440033585 tw4719769438511896113 tw13918741688302053393 tw15485380528179734253 tw789748559867445467 tw13038580224059116956 tw13146742178317235994 tw16335014570881912967 tw7736287713595655289 tw16311409827433645709 tw18297645878222337447 tw13933197037687555848 tw8259651241558867511 tw3229064689191902431 tw15521725238453492696 tw7538527868503215590 tw6435643446969424369 tw13598948781623440970 tw6047073944101865378 tw2391176008325318415 tw9916050849601561721 tw12007259979523710717 tw12408824365942254375 tw7259334336742182814 tw3280433466402469336 tw14455293099058990011 tw9764424548938146030 tw1272677966100517979 tw1909396589872431080 tw4577978556912070091 tw1685024184296702459 tw2915301229550413902 tw9363191325794743476 tw18369887374573664273 tw574942543620267405 tw5509751088233761433 tw15777255894903545222 tw12669730529730115896 tw14885245859705936595 tw4551945904466619932 tw7261730399977720282 tw1268363554760624947 tw6571701764074069392 tw5179353972268519076 tw3469253172238358192 tw12647558912694055494 tw1431346598440079449 tw1242884056873844445 tw9610383204273420340 tw15877343629832596783 tw10366152723778169239 tw2828051714707362128 tw14303875886398374101 tw11111352968641121195 tw12591246895334740223 tw4811648358059939308 tw16245198353723522589 tw3898772129804016760 tw10087958167809273941 tw13034315106133090400 tw15350022525021337649 tw1796737128243789564 tw11750229421511999928 tw4277257459181951364 tw8778670044052403948 tw7701398337908096151 tw10324424487650008497 tw12538930647981551627 tw10054919256912263395 tw17687174678135327572 tw16350130837712113066 tw9816005743028340014 tw13061013371699326923 tw3037265760165643173 tw6482383866452231308 tw15229083239975666584 tw2666684618280325779 tw13275261301948958341 tw10740515450996188428 tw6676625547216859624 tw10635576687532640469 tw17658054260301145035 tw5596842631469401290 tw2847618120071242716 tw2562442311083356556 tw5968872916386943109 tw144017089282479421 tw17089012189951283085 tw9874313219133900957 tw1414207344750026940 tw3343505480352683906 tw10853372808303553975 tw7794032689022370193 tw6512003722884023370 tw1005028121573947147 tw1317013099447534336 tw18073469088579748367 tw4297383924631875584 tw14125668981074570502 tw11860736704487670631 tw4064689809999744858 tw6368459897482974270 tw1502046013731306022 tw13915447893063061385 tw13475983082779023432 tw6215321092462397051 tw1630860447106253158 tw17020955800101292519 tw2327847640776711764 tw14751176849661259452 tw15844088903193956430 tw2973938591339835730 tw10342925525818469320 tw14078674088420364273 tw18010429185243769493 tw15444751565632917186 tw16035673506885683516 tw1015019954259067189 tw12180047916498267931 tw16559908221264394635 tw13820203980589844442 tw9343472139269023576 tw1804636738987632427 tw7189856117729009540 tw417615528004626269 tw13352163340922357446 tw15225485642554781862 tw16576930853830687607 tw14875212191082997573 tw1259727033525205868 tw14731837062490231088 tw4351821739515597496 tw5445265258031987043 tw2568999505358738212 tw8902258903709439421 tw6089967815257816907 tw18040318009065253197 tw8834838378023294144 tw1460814898872136507 tw12543948947122327317 tw16614378273970828860 tw6812357552628688553 tw2226674812652283670 tw15752399255024488146 tw17606685372127193949 tw6625404771837730195 tw13224262980946828548 tw12719388754351867409 tw10524326239471748776 tw17996658689728906238 tw6408258966037157713 tw925293646580503037 tw11777890360457444827 tw3681680544402085091 tw4584887145353533311 tw13303647414142693779 tw15277903805555919755 tw13832405865624690977 tw7321767611837681378 tw14499160349682061254 tw3049399663326140006 tw10586573604460802035 tw17429968404714602769 tw6966809873983685443 tw12225054697410195544 tw1995869278448284717 tw14315815958211344485 tw14687319532910915820 tw251077699146765327 tw1693209751969718518 tw3161255838419254068 tw1392363766786522478 tw3667203438105456810 tw15902854582648776186 tw10136896426463486666 tw13148240952664935703 tw3831397052957571763 tw6167397418276869336 tw16616821520352229462 tw10937413706385266808 tw8106350238294123043 tw7835667863839572276 tw13417458044809363305 tw5400038554679340722 tw16209650351217340002 tw7775666882508866599 tw6739907473400521768 tw783637881948204571 tw818314490550899853 tw17051168847151274583 tw12904434153212030386 tw5403091291472826054 tw7449960406410870851 tw9476463613249046042 tw10176965968290295839 tw263410745654628110 tw8572937949558436122 tw3065632669713417653 tw9675045897544498577 tw8714941444740730267 tw3287468871953166296 tw18026071476390457939 tw6932868004116524150 tw1955965560903719381 tw3844229842107712096 tw128160403835477293 tw4731161781836273829 tw8052988123672906378 tw9321014464155427823 tw10764025738485540847 tw17992321022677715375 tw6927690278778731908 tw1746373674398339473 tw17143820674484429146 tw15485769438786861717 tw14266411885378643769 tw15706590069116855135 tw735518553848452904 tw9894440257516671335 tw11767723559862790716:True)
namespace L2
open PySem PySem.Spec PyProof.Rows
structure Dfn(K:Frg)(mg:Str->Option Value)(x:Str)(st:Stmt)(f:Addr)(d:FuncData)(ps:L8):Prop where
  F:Fun K x x st f d
  m:mg x=some (.ref f)
  B:Binds K d ps []
def jt{X:Cx}{x:Str}{st:Stmt}{f:Addr}{d:FuncData}{ps:L8}{j k:Nat}{sp:Sp}{e:Expr}{es:List Expr}{p a:Pos}{t:TA}(D:Dfn X.K X.mg x st f d ps)(F:FnOk X.prog X.w X.K X.mg X.base CX0 j f d ps sp)(n:Room k X.A)(g:PA X (e::es) t)(m:j<=k:=by decide)(l:Gl X x:=by rfl)(b:(x==("__debug__" : Str))=false:=by decide)(i:starEach (e::es) X.env=(false,eval e X.env)::starEach es X.env:=by rfl)(c:(backTo a (starEach es X.env)).any (·.1)=false:=by rfl):PE X (.Call (.Name x p) (e::es) [] a) (tCall sp [] E0 t):=zT (F.mono m) n l D.m D.F.kp D.B .nil pass0 g b i c
end L2
local macro_rules | `(tactic| specialize $e) => do
  let i:=λ(k:String)=>Lean.mkIdent (Lean.Name.mkSimple k)
  `(tactic| (refine $e (fun $(i "vs") $(i "H") $(i "Q") $(i "E") $(i "h")=>?_) (fun $(i "cdv") $(i "A") $(i "outer") $(i "s") $(i "H") $(i "vs") $(i "Q") $(i "E") $(i "hr") $(i "h")=>?_);(focus cases $(i "h"):ident;subst_vars;rfl);have $(i "sz"):ident:(10000:Nat)<PySem.sizeLine:=by decide))
def Rm.iteE0{b:Bool}{A B:Prop}(h:B)(e:b=false:=by trivial):if b=true then A else B:=Rm.iteB0 e h
def Rm.iteE1{b:Bool}{A B:Prop}(h:A)(e:b=true:=by trivial):if b=true then A else B:=Rm.iteB1 e h
namespace K39
set_option hygiene false
local macro_rules | `($n <* $f $as*) => `(FnOk P w K mg base CX0 $n $f $as*)
set_option hygiene true
open PySem L2 Rm
noncomputable def top(i:Nat):Stmt:=PySem.Challenge.pw_camplay_k39_pins.main.body.getD i (.Pass ⟨0,0,0,0⟩)
noncomputable abbrev ZT:Stmt:=top 9
def QD:FnScope ["named","numbers","number","one"] ["named"] (defScope ZT):=fsc
noncomputable abbrev Yl:Stmt:=top 10
def X3:FnScope ["form"] ["form"] (defScope Yl):=fsc
noncomputable abbrev zW:Stmt:=top 13
def xZ:FnScope ["form","limbs","parts"] ["form","limbs","parts"] (defScope zW):=fsc
noncomputable abbrev j0W:Stmt:=top 14
def yT:FnScope ["book","limbs","numbers","known","name","form"] ["book"] (defScope j0W):=fsc
noncomputable abbrev kL:Stmt:=top 15
def ZU:FnScope ["forms","drum","needed","number","other"] ["forms","drum"] (defScope kL):=fsc
noncomputable abbrev KB:Stmt:=top 16
def QQ:FnScope ["book","found","forms","kept","limbs","anew","place","number"] ["book"] (defScope KB):=fsc
noncomputable abbrev kM:Stmt:=top 17
def ZV:FnScope ["number","name"] ["number"] (defScope kM):=fsc
noncomputable abbrev zc:Stmt:=top 18
def Yn:FnScope ["box","limbs","names"] ["box"] (defScope zc):=fsc
noncomputable abbrev KC:Stmt:=top 20
def yF:FnScope ["book","numbers","found","name","form"] ["book"] (defScope KC):=fsc
noncomputable abbrev j0V:Stmt:=top 21
def zY:FnScope ["book","limbs","found","part","inside","form","left","other"] ["book"] (defScope j0V):=fsc
noncomputable abbrev KD:Stmt:=top 22
def wH:FnScope ["book","found","left"] ["book"] (defScope KD):=fsc
noncomputable abbrev Q9:Stmt:=top 23
def Zn:FnScope ["row","moves","limbs","number","limb"] ["row","moves","limbs"] (defScope Q9):=fsc
noncomputable abbrev yD:Stmt:=top 24
def Xa:FnScope ["form","inside"] ["form","inside"] (defScope yD):=fsc
noncomputable abbrev ZB:Stmt:=top 25
def qN:FnScope ["book","moves","found","row","inside","form","length"] ["book"] (defScope ZB):=fsc
noncomputable abbrev j0X:Stmt:=top 27
def j70:FnScope ["start","goal","beats","j"] ["start","goal","beats","j"] (defScope j0X):=fsc
noncomputable abbrev yE:Stmt:=top 29
def JY:FnScope ["form","inside","sizes","part","later","found","begin"] ["form","inside","sizes"] (defScope yE):=fsc
noncomputable abbrev zX:Stmt:=top 30
def Xb:FnScope ["book","sizes"] ["book","sizes"] (defScope zX):=fsc
noncomputable abbrev Ym:Stmt:=top 31
def qo:FnScope ["pieces","sizes","gone","found","part","turns","begin","over","rest"] ["pieces","sizes","gone"] (defScope Ym):=fsc
noncomputable abbrev wF:Stmt:=top 33
def zd:FnScope ["pieces","sizes","gone","found","part","begin","over","rest"] ["pieces","sizes","gone"] (defScope wF):=fsc
noncomputable abbrev JM:Stmt:=(inClass (top 34) 0)
def YT:FnScope ["self","book"] ["self","book"] (defScope JM):=fsc
noncomputable abbrev Zj:Stmt:=(inClass (top 34) 1)
def Jq:FnScope ["self","beat","starts","playing","todo","now","limb","height"] ["self","beat"] (defScope Zj):=fsc
noncomputable abbrev qM:Stmt:=(inClass (top 34) 2)
def j03:FnScope ["self","beat","scene","heights","part","gone","form","limb"] ["self","beat"] (defScope qM):=fsc
noncomputable abbrev Qw:Stmt:=(inClass (top 34) 3)
def Jz:FnScope ["self","beat","words","part","gone","form"] ["self","beat"] (defScope Qw):=fsc
noncomputable abbrev ZC:Stmt:=top 36
def ZW:FnScope ["stage","starts","inside","part","gone","form","found","pins"] ["stage","starts","inside","part","gone"] (defScope ZC):=fsc
noncomputable abbrev kN:Stmt:=top 37
def zE:FnScope ["stage","beat","scene","found","part","gone"] ["stage","beat"] (defScope kN):=fsc
noncomputable abbrev qL:Stmt:=(inClass (top 38) 0)
def yW:FnScope ["self","box"] ["self","box"] (defScope qL):=fsc
noncomputable abbrev zC:Stmt:=(inClass (top 38) 1)
def Kr:FnScope ["self"] ["self"] (defScope zC):=fsc
noncomputable abbrev zx:Stmt:=(inClass (top 38) 2)
def Ko:FnScope ["self","beat"] ["self","beat"] (defScope zx):=fsc
noncomputable abbrev zw:Stmt:=(inClass (top 38) 3)
def j2Q:FnScope ["self"] ["self"] (defScope zw):=fsc
noncomputable abbrev Qg:Stmt:=(inClass (top 38) 4)
def j0Y:FnScope ["self"] ["self"] (defScope Qg):=fsc
noncomputable abbrev zB:Stmt:=(inClass (top 38) 5)
def Kq:FnScope ["self"] ["self"] (defScope zB):=fsc
noncomputable abbrev zA:Stmt:=(inClass (top 38) 6)
def j2R:FnScope ["self"] ["self"] (defScope zA):=fsc
noncomputable abbrev zD:Stmt:=top 40
def Ks:FnScope ["_law_script","_law_k"] ["_law_script","_law_k"] (defScope zD):=fsc
noncomputable abbrev ZQ:Stmt:=top 41
def Wa:FnScope ["_law_cell","_law_k"] ["_law_cell","_law_k"] (defScope ZQ):=fsc
noncomputable abbrev ZS:Stmt:=top 42
def Wb:FnScope ["_law_found"] ["_law_found"] (defScope ZS):=fsc
noncomputable abbrev yC:Stmt:=top 43
def xY:FnScope ["_law_place","_law_k"] ["_law_place","_law_k"] (defScope yC):=fsc
noncomputable abbrev Q7:Stmt:=top 44
def JI:FnScope ["_law_number","_law_names","_law_movers","_law_kind","_law_some","_law_used","_law_j","_law_at","_law_twice"] ["_law_number","_law_names","_law_movers","_law_kind"] (defScope Q7):=fsc
noncomputable abbrev yz:Stmt:=top 45
def qB:FnScope ["_law_number","_law_names","_law_movers","_law_limbs","_law_bounds","_law_kind","_law_more","_law_beats","_law_at"] ["_law_number","_law_names","_law_movers","_law_limbs","_law_bounds"] (defScope yz):=fsc
noncomputable abbrev QP:Stmt:=top 46
def xW:FnScope ["_law_form_here","_law_known"] ["_law_form_here","_law_known"] (defScope QP):=fsc
noncomputable abbrev ZR:Stmt:=top 47
def JH:FnScope ["_law_form_here","_law_names","_law_movers","_law_inner","_law_found","_law_name","_law_one"] ["_law_form_here","_law_names","_law_movers"] (defScope ZR):=fsc
noncomputable abbrev yA:Stmt:=top 48
def Qi:FnScope ["_law_names","_law_known","_law_most","_law_some","_law_total","_law_name"] ["_law_names","_law_known","_law_most"] (defScope yA):=fsc
noncomputable abbrev yB:Stmt:=top 49
def YU:FnScope ["_law_pool","_law_many","_law_found"] ["_law_pool","_law_many"] (defScope yB):=fsc
noncomputable abbrev qI:Stmt:=top 50
def j9:FnScope ["_law_pool","_law_kind","_law_names","_law_movers","_law_bounds","_law_times","_law_many","_law_some","_law_used","_law_j","_law_at","_law_twice"] ["_law_pool","_law_kind","_law_names","_law_movers","_law_bounds"] (defScope qI):=fsc
noncomputable abbrev Qy:Stmt:=top 51
def JA:FnScope ["_law_pool","_law_names","_law_movers","_law_limbs","_law_bounds","_law_kind","_law_beats","_law_limb","_law_some"] ["_law_pool","_law_names","_law_movers","_law_limbs","_law_bounds"] (defScope Qy):=fsc
noncomputable abbrev Qx:Stmt:=top 52
def jB:FnScope ["_law_script","_law_many","_law_bounds","_law_pool","_law_place","_law_limbs","_law_k","_law_called","_law_ended","_law_names","_law_movers","_law_known","_law_parts","_law_cell","_law_own","_law_form_here","_law_name"] ["_law_script","_law_many","_law_bounds"] (defScope Qx):=fsc
noncomputable abbrev yx:Stmt:=top 53
def jQ:FnScope ["_law_script","_law_many","_law_bounds","_law_head","_law_limbs","_law_k","_law_height","_law_names","_law_movers","_law_known","_law_parts","_law_number","_law_form_here","_law_name"] ["_law_script","_law_many","_law_bounds"] (defScope yx):=fsc
noncomputable abbrev Qh:Stmt:=top 54
def Zm:FnScope ["_law_box","_law_longs_here","_law_form_here"] ["_law_box"] (defScope Qh):=fsc
noncomputable abbrev Zk:Stmt:=top 55
def Jr:FnScope ["_law_box","_law_number","_law_stands","_law_form_here","_law_inner","_law_one"] ["_law_box","_law_number","_law_stands"] (defScope Zk):=fsc
noncomputable abbrev Zl:Stmt:=top 56
def wG:FnScope ["_law_box","_law_longs_here","_law_number","_law_gone","_law_stands"] ["_law_box","_law_longs_here","_law_number","_law_gone","_law_stands"] (defScope Zl):=fsc
noncomputable abbrev zV:Stmt:=top 57
def JB:FnScope ["_law_box","_law_longs_here","_law_number","_law_gone","_law_stands","_law_form_here","_law_inner","_law_place"] ["_law_box","_law_longs_here","_law_number","_law_gone","_law_stands"] (defScope zV):=fsc
noncomputable abbrev ZP:Stmt:=top 58
def X2:FnScope ["_law_box","_law_longs_here","_law_beat"] ["_law_box","_law_longs_here","_law_beat"] (defScope ZP):=fsc
noncomputable abbrev Q8:Stmt:=top 59
def y9:FnScope ["_law_found"] ["_law_found"] (defScope Q8):=fsc
noncomputable abbrev j4p:Stmt:=top 60
def Zo:FnScope ["_law_script","_law_many","_law_book_here","_law_beats","_law_box","_law_longs_here","_law_machine","_law_other","_law_beat","_law_due_here"] ["_law_script"] (defScope j4p):=fsc
set_option genInjectivity false in
set_option genSizeOf false in
structure Ad where
 JT:Addr
 JV:FuncData
 zk:Addr
 zn:FuncData
 qP:Addr
 qQ:FuncData
 j08:Addr
 j0l:FuncData
 Y9:Addr
 kx:FuncData
 W0:Addr
 xc:FuncData
 yH:Addr
 yK:FuncData
 Y8:Addr
 ku:FuncData
 Yq:Addr
 Yu:FuncData
 W1:Addr
 xf:FuncData
 W2:Addr
 xg:FuncData
 QZ:Addr
 Q4:FuncData
 zJ:Addr
 zQ:FuncData
 ka:Addr
 kz:FuncData
 j5W:Addr
 j69:FuncData
 zK:Addr
 zR:FuncData
 Z8:Addr
 yf:FuncData
 zl:Addr
 zo:FuncData
 KN:Addr
 KZ:FuncData
 JL:Addr
 qv:FuncData
 qF:Addr
 qG:FuncData
 zj:Addr
 zm:FuncData
 qr:Addr
 qw:FuncData
 ke:Addr
 kB:FuncData
 kc:Addr
 kA:FuncData
 Jo:Addr
 JU:FuncData
 qW:Addr
 Qb:FuncData
 qb:Addr
 qd:FuncData
 Z4:Addr
 Z9:FuncData
 zI:Addr
 zP:FuncData
 qV:Addr
 Qa:FuncData
 Z5:Addr
 ya:FuncData
 qc:Addr
 qf:FuncData
 qt:Addr
 qx:FuncData
 QY:Addr
 Q3:FuncData
 QJ:Addr
 QO:FuncData
 QX:Addr
 Q2:FuncData
 Z7:Addr
 ye:FuncData
 QH:Addr
 QM:FuncData
 qX:Addr
 Qc:FuncData
 QG:Addr
 QL:FuncData
 QI:Addr
 QN:FuncData
 Zb:Addr
 Ze:FuncData
 Qq:Addr
 Qs:FuncData
 Qp:Addr
 Qr:FuncData
 Z6:Addr
 yc:FuncData
 QW:Addr
 Q1:FuncData
 JD:Addr
 JF:FuncData
 Za:Addr
 Zd:FuncData
 JP:Addr
 JQ:FuncData
 Yf:Addr
 Yg:FuncData
 qu:Addr
 qy:FuncData
 j2Y:Addr
 j1c:FuncData
 jJ:Addr
 jG:Addr
 WW:Value
 qC:Addr
structure Txt(K:Frg)(mg:Str->Option Value)(t:Ad):Prop where
 qS:Dfn K mg "numbers_of" ZT t.JT t.JV ["named"]
 Ya:Dfn K mg "names_in" Yl t.zk t.zn ["form"]
 zH:Dfn K mg "form_with" zW t.qP t.qQ ["form","limbs","parts"]
 j2V:Dfn K mg "made" j0W t.j08 t.j0l ["book"]
 We:Dfn K mg "come_to" kL t.Y9 t.kx ["forms","drum"]
 j15:Dfn K mg "drums" KB t.W0 t.xc ["book"]
 Wg:Dfn K mg "name_of" kM t.yH t.yK ["number"]
 Wd:Dfn K mg "book_of" zc t.Y8 t.ku ["box"]
 Kt:Dfn K mg "inner" KC t.Yq t.Yu ["book"]
 j05:Dfn K mg "ends" j0V t.W1 t.xf ["book"]
 j16:Dfn K mg "moved" KD t.W2 t.xg ["book"]
 Yp:Dfn K mg "check_side" Q9 t.QZ t.Q4 ["row","moves","limbs"]
 kY:Dfn K mg "length_of" yD t.zJ t.zQ ["form","inside"]
 Wf:Dfn K mg "lengths" ZB t.ka t.kz ["book"]
 j71:Dfn K mg "ramp" j0X t.j5W t.j69 ["start","goal","beats","j"]
 kZ:Dfn K mg "pieces_in" yE t.zK t.zR ["form","inside","sizes"]
 Ka:Dfn K mg "pieces_of" zX t.Z8 t.yf ["book","sizes"]
 Yb:Dfn K mg "progress" Ym t.zl t.zo ["pieces","sizes","gone"]
 Xi:Dfn K mg "within" wF t.KN t.KZ ["pieces","sizes","gone"]
 YZ:Fun K "__init__" "Stage.__init__" JM t.JL t.qv
 j1z:Meth K t.jJ "__init__" t.JL
 YX:Binds K t.qv ["self","book"] []
 wQ:Fun K "scene" "Stage.scene" Zj t.qF t.qG
 yp:Meth K t.jJ "scene" t.qF
 yX:Binds K t.qG ["self","beat"] []
 j06:Fun K "heights_at" "Stage.heights_at" qM t.zj t.zm
 j02:Meth K t.jJ "heights_at" t.zj
 j04:Binds K t.zm ["self","beat"] []
 Y0:Fun K "words_at" "Stage.words_at" Qw t.qr t.qw
 YE:Meth K t.jJ "words_at" t.qr
 YY:Binds K t.qw ["self","beat"] []
 Wi:Dfn K mg "pins_of" ZC t.ke t.kB ["stage","starts","inside","part","gone"]
 Wh:Dfn K mg "pins_at" kN t.kc t.kA ["stage","beat"]
 Yd:Fun K "__init__" "Machine.__init__" qL t.Jo t.JU
 j01:Meth K t.jG "__init__" t.Jo
 zf:Binds K t.JU ["self","box"] []
 KL:Fun K "step" "Machine.step" zC t.qW t.Qb
 Kj:Meth K t.jG "step" t.qW
 KH:Binds K t.Qb ["self"] []
 KJ:Fun K "jump" "Machine.jump" zx t.qb t.qd
 Ki:Meth K t.jG "jump" t.qb
 KG:Binds K t.qd ["self","beat"] []
 j2W:Fun K "beat" "Machine.beat" zw t.Z4 t.Z9
 j2O:Meth K t.jG "beat" t.Z4
 j2S:Binds K t.Z9 ["self"] []
 j17:Fun K "heights" "Machine.heights" Qg t.zI t.zP
 j0B:Meth K t.jG "heights" t.zI
 j14:Binds K t.zP ["self"] []
 KK:Fun K "pins" "Machine.pins" zB t.qV t.Qa
 QR:Meth K t.jG "pins" t.qV
 zg:Binds K t.Qa ["self"] []
 j2X:Fun K "kept" "Machine.kept" zA t.Z5 t.ya
 j2P:Meth K t.jG "kept" t.Z5
 j2T:Binds K t.ya ["self"] []
 JK:Dfn K mg "_law_cell_at" zD t.qc t.qf ["_law_script","_law_k"]
 JR:Dfn K mg "_law_mixed" ZQ t.qt t.qx ["_law_cell","_law_k"]
 QU:Dfn K mg "_law_whole" ZS t.QY t.Q3 ["_law_found"]
 QF:Dfn K mg "_law_word" yC t.QJ t.QO ["_law_place","_law_k"]
 QT:Dfn K mg "_law_named" Q7 t.QX t.Q2 ["_law_number","_law_names","_law_movers","_law_kind"]
 kW:Dfn K mg "_law_form" yz t.Z7 t.ye ["_law_number","_law_names","_law_movers","_law_limbs","_law_bounds"]
 QE:Dfn K mg "_law_long" QP t.QH t.QM ["_law_form_here","_law_known"]
 ZE:Dfn K mg "_law_moves" ZR t.qX t.Qc ["_law_form_here","_law_names","_law_movers"]
 ZY:Dfn K mg "_law_last" yA t.QG t.QL ["_law_names","_law_known","_law_most"]
 jM:Dfn K mg "_law_take" yB t.QI t.QN ["_law_pool","_law_many"]
 yY:Dfn K mg "_law_naming" qI t.Zb t.Ze ["_law_pool","_law_kind","_law_names","_law_movers","_law_bounds"]
 Zr:Dfn K mg "_law_form_told" Qy t.Qq t.Qs ["_law_pool","_law_names","_law_movers","_law_limbs","_law_bounds"]
 Zq:Dfn K mg "_law_book_told" Qx t.Qp t.Qr ["_law_script","_law_many","_law_bounds"]
 kU:Dfn K mg "_law_book" yx t.Z6 t.yc ["_law_script","_law_many","_law_bounds"]
 Yo:Dfn K mg "_law_longs" Qh t.QW t.Q1 ["_law_box"]
 Jk:Dfn K mg "_law_behind" Zk t.JD t.JF ["_law_box","_law_number","_law_stands"]
 Qz:Dfn K mg "_law_beside" Zl t.Za t.Zd ["_law_box","_law_longs_here","_law_number","_law_gone","_law_stands"]
 Jv:Dfn K mg "_law_pins" zV t.JP t.JQ ["_law_box","_law_longs_here","_law_number","_law_gone","_law_stands"]
 KI:Dfn K mg "_law_due" ZP t.Yf t.Yg ["_law_box","_law_longs_here","_law_beat"]
 qp:Dfn K mg "_law_plain" Q8 t.qu t.qy ["_law_found"]
 j2U:Dfn K mg "law" j4p t.j2Y t.j1c ["_law_script"]
 jV:Cls K t.jJ
 j4O:Mk K t.jJ t.JL
 j3A:mg "Stage"= some (.ref t.jJ)
 QC:NoAttr K t.jJ "limbs"
 QB:NoAttr K t.jJ "first"
 J2:NoAttr K t.jJ "forms"
 j4:NoAttr K t.jJ "sizes"
 Q5:NoAttr K t.jJ "left"
 qi:NoAttr K t.jJ "pieces"
 jU:Cls K t.jG
 Wj:Mk K t.jG t.Jo
 we:mg "Machine"= some (.ref t.jG)
 Ju:NoAttr K t.jG "stage"
 qh:NoAttr K t.jG "last"
 Jl:NoAttr K t.jG "now"
 j32:mg "abs"= none
 j6O:mg "all"= none
 j5Z:mg "bool"= none
 j60:mg "dict"= none
 zM:mg "enumerate"= none
 j6P:mg "int"= none
 ZI:mg "isinstance"= none
 JJ:mg "len"= none
 kf:mg "list"= none
 j18:mg "max"= none
 j33:mg "min"= none
 qY:mg "range"= none
 j0b:mg "reversed"= none
 Xk:mg "sorted"= none
 j19:mg "sum"= none
 zN:mg "tuple"= none
 j34:mg "zip"= none
 Wr:mg "FIGURES"= some t.WW
 WQ:RelV (.str "abcdefghijklmnopqrstuvwxyz") t.WW
 W8:mg "MOST_NAMES"= some (.ref t.qC)
 qz:TabK K t.qC [("row",.flat (.int 8)),("side",.flat (.int 4))]
section
variable{P:Program}{w:World}{K:Frg}{mg:Str->Option Value}{base:Heap}{t:Ad}
def xJ(T:Txt K mg t):1<*t.qP t.qQ ["form","limbs","parts"] (sp_formW):=by
 specialize T.zH.F.ok xZ;obtain⟨a,l,p,g,G,rfl,f,v,q⟩:=h;refine⟨_,(jb (jP (jp jS (jk jr (pv 0) jd) jE (nomark _))
   (jf (jy (jw j5k (jI (ja (jk jr (pv 0) jd) (ja (jk (j0v (K:=K) rfl (JZ hr)) (pv 1) (jk jr (pv 0) jd)) jc))) (Zv j4u (pv 0) (zU jd) yS))))
   jx)
  (jb (jP (jp jS (jk jr (pv 0) jd) jE (nomark _))
   (jf (jy (jI (ja (jk jr (pv 0) jd) (ja (jk jr (pv 0) jd) (ja (jk (j0v (K:=K) rfl (JZ hr)) (pv 2) (jk jr (pv 0) jd)) jc))))))
   jx)
  (jb (jP (jp kK (jk jr (pv 0) jd) (jI (ja jE (ja jE jc))) (by with_unfolding_all rfl))
   (jf (jy (jI (ja (jk jr (pv 0) jd) (ja (Jn JE (by rfl) T.zN QK (ja (Jd (ow:=["other"]) (ci:=[2]) rfl (CompScope.of (defScope zW) ["form","limbs","parts"] rfl rfl (by trivial)) (Jy nofun) (ZM (jk jr (pv 0) jd)) (λ_ _ _ _ _=>⟨(ju' 0 (jT ["form","limbs","parts"] rfl (by trivial))),Jt,(jk (j0v (K:=K) rfl (JZ hr)) (pv 1) (pv 0))⟩)) jc)) jc)))))
   jx)
  (jf (jy (pv 0)))))),?_⟩
 refine jD (S':=[some _,some _,some _]) rfl ?_
 try dsimp only[cxOf,Cx.nox]
 have I:(200:Nat)<sizeLine:=by decide
 cases g with
 | smp r vs=>
  cases v;cases r with
  | false=>
   have c:H a=some (.tup (.str "hold"::vs)):=f;apply ixTm (SqT.of c) (at0) ?_;apply iteE0 ?_;apply ixTm (SqT.of c) (at0) ?_;apply iteE0 ?_;apply ixTm (SqT.of c) (at0) ?_;apply⟨uc,?_⟩;sleep 1;refine⟨p1,_,rfl,.inr (SqT.of t1),rfl,rfl,_,rfl,?_⟩;refine iteE0 ?_;left;exact q a H1 s1 (s1 _ _ c)
  | true=>
   have c:H a=some (.tup (.str "ring"::vs)):=f;apply ixTm (SqT.of c) (at0) ?_;apply iteE0 ?_;apply ixTm (SqT.of c) (at0) ?_;apply iteE0 ?_;apply ixTm (SqT.of c) (at0) ?_;apply⟨uc,?_⟩;sleep 1;refine⟨p1,_,rfl,.inr (SqT.of t1),rfl,rfl,_,rfl,?_⟩;refine iteE0 ?_;left;exact q a H1 s1 (s1 _ _ c)
 | rise x h n=>
  have c:H a=some (.tup [.str "raise",x,h,n]):=f;obtain⟨y,B,rfl⟩:=v;apply zTu c ?_;apply iteE1 ?_;apply zTu c ?_;apply zTu c ?_;refine xq B ?_;apply⟨uc,?_⟩;sleep 1;apply⟨a,_,rfl,SqT.of (s1 _ _ c),(by show¬(HT.sIx 4 0 (some 2)=0/\HT.sIx 4 4 none=4);decide),?_⟩;sleep 2;refine⟨p1,p2,_,_,rfl,rfl,SqT.of (s2 _ _ t1),SqT.of t2,(λz=>by cases z),?_,?_,?_⟩
  .show 2+2<=sizeLine;lia
  .intro z;cases z
  intro _;sleep 3;exact q p3 H3 (s1.trans (s2.trans s3)) t3
 | again k x=>
  have c:H a=some (.tup [.str "again",k,x]):=f;obtain⟨y,B,rfl⟩:=v;apply zTu c ?_;apply iteE0 ?_;apply zTu c ?_;apply iteE1 ?_;apply zTu c ?_;apply zTu c ?_;apply zTu c ?_;refine xq B ?_;apply⟨ub,?_⟩;sleep 1;exact q p1 H1 s1 t1
 | many s xs=>
  obtain⟨j,D,C,J,rfl⟩:=v;cases s with
  | false=>
   obtain⟨b,c,m⟩:=f;have c:H a=some (.tup [.str "row",.ref b]):=c;apply zTu c ?_;apply iteE0 ?_;apply zTu c ?_;apply iteE0 ?_;apply zTu c ?_;apply⟨uc,?_⟩;sleep 1;refine⟨p1,_,rfl,.inr (SqT.of t1),rfl,rfl,_,rfl,?_⟩;refine iteE1 ?_;apply zTu (s1 _ _ c) ?_;apply zTu (s1 _ _ c) ?_;refine⟨b,rfl,⟨_,SqT.of (s1 _ _ m)⟩,?_⟩;refine qZ (xs:=xs) (λi e d=>e=j.take i/\H1=d) ⟨rfl,rfl⟩ ?_ ?_ ?_
   .rintro i e d _ ⟨rfl,rfl⟩;exact SqT.of (s1 _ _ m)
   .rintro i x e d o ⟨rfl,rfl⟩;have F:=(vx.mp o).1;have u:j[i]?=some j[i]:=vz ⋯;refine Jh (S':=[none,some _]) rfl ?_;apply iteT ?_;apply xq ((C i x _ o u).same s1) ?_;refine⟨by rw[vi];lia,?_,rfl⟩;rw[take_snoc u]
   rintro e d ⟨rfl,rfl⟩;rw[<-D,v7];refine⟨⋯,?_⟩;sleep 2;apply⟨p2,_,rfl,.inl ⟨SqL.of t2,?_⟩⟩;sleep 3;apply⟨uc,?_⟩;sleep 4;exact q p4 H4 (s1.trans (s2.trans (s3.trans s4))) ⟨p3,t4,s4 _ _ t3⟩
  | true=>
   obtain⟨b,c,m⟩:=f;have c:H a=some (.tup [.str "side",.ref b]):=c;apply zTu c ?_;apply iteE0 ?_;apply zTu c ?_;apply iteE0 ?_;apply zTu c ?_;apply⟨uc,?_⟩;sleep 1;refine⟨p1,_,rfl,.inr (SqT.of t1),rfl,rfl,_,rfl,?_⟩;refine iteE1 ?_;apply zTu (s1 _ _ c) ?_;apply zTu (s1 _ _ c) ?_;refine⟨b,rfl,⟨_,SqT.of (s1 _ _ m)⟩,?_⟩;refine qZ (xs:=xs) (λi e d=>e=j.take i/\H1=d) ⟨rfl,rfl⟩ ?_ ?_ ?_
   .rintro i e d _ ⟨rfl,rfl⟩;exact SqT.of (s1 _ _ m)
   .rintro i x e d o ⟨rfl,rfl⟩;have F:=(vx.mp o).1;have u:j[i]?=some j[i]:=vz ⋯;refine Jh (S':=[none,some _]) rfl ?_;apply iteT ?_;apply xq ((C i x _ o u).same s1) ?_;refine⟨by rw[vi];lia,?_,rfl⟩;rw[take_snoc u]
   rintro e d ⟨rfl,rfl⟩;rw[<-D,v7];refine⟨⋯,?_⟩;sleep 2;apply⟨p2,_,rfl,.inl ⟨SqL.of t2,?_⟩⟩;sleep 3;apply⟨uc,?_⟩;sleep 4;exact q p4 H4 (s1.trans (s2.trans (s3.trans s4))) ⟨p3,t4,s4 _ _ t3⟩
def w6(T:Txt K mg t):1<*t.JT t.JV ["named"] (sp_numbers_of):=by
 specialize T.qS.F.ok QD;obtain⟨l,M,xs,rfl,B,U,R,X,D,q⟩:=h;refine⟨_,(jb (jq' 1 QD.nd Zu)
  (jb (j7 PassesOwn.never rfl (KA (by rfl) T.zM (ja (pv 0) jc)) (JG rfl (jA (ju' 2 QD.nd) (jA (ju' 3 QD.nd) Jg)))
   (jf (ZO (JZ hr) (pv 1) (jk jr (pv 3) jd) (pv 2) rfl)))
  (jf (jy (pv 1))))),?_⟩
 refine jD (S':=[some _,none,none,none]) rfl ?_
 try dsimp only[cxOf,Cx.nox]
 left;walk_at"f d hd H1 s1 t1";apply⟨l,_,rfl,SqL.of (s1 _ _ B),?_⟩;refine Yz (xs:=M.map V.ref) (λi p c=>IvE2 λ(m n:N3)=>IvA2 (p=[some (.ref l),some (.ref d),m,n]) (Same H c/\c d=some (.dK (numK (xs.take i))))) ⟨_,_,rfl,s1,t1⟩ ?_ ?_ ?_
 .rintro i p c _ ⟨m,n,rfl,g,f⟩;exact SqL.of (g _ _ B)
 .rintro i v p c P L G ⟨m,n,rfl,g,f⟩ J Y;rw[vv]at G;obtain⟨a,x,rfl⟩:=vg.mp G;have Z:=(vx.mp x).1;have C:xs[i]?=some xs[i]:=vz ⋯;obtain⟨r,O⟩:=R i a _ x C;have I:=g.trans J;have o:(xs.take i).length=i:=by rw[vi];lia
  refine qj (SqT.of Y) ?_;apply zTu (I _ _ O) ?_;refine⟨d,_,rfl,DPut.k (k:=Sum.inr xs[i]) (J _ _ f) (by rw[j3R,o];lia),?_⟩;have S:(Sum.inr xs[i]:Key)∉(numK (xs.take i)).map (·.1):=λz=>by
   rw[WM]at z;obtain⟨y,W,e⟩:=vK.mp z;have N:y=xs[i]:=Sum.inr.inj e;subst N;obtain⟨j,F,e⟩:=mem_iff_getElem.mp W;rw[getElem_take]at e;rw[o]at F;exact ue e (pairwise_iff_getElem.mp X j i ⋯ ⋯ F)
  refine⟨_,_,rfl,λb u h=>(jo (je h hd)).trans (I _ _ h),?_⟩;rw[jz,yv S,take_snoc C,j2t,o]
 rintro S' c ⟨m,n,rfl,g,f⟩;rw[vt,U,v7]at f;left;exact q d c g hd f
def j5j(T:Txt K mg t)(j1:1<*t.JT t.JV ["named"] (sp_numbers_of))(Jw:1<*t.qP t.qQ ["form","limbs","parts"] (sp_formW)):2<*t.j08 t.j0l ["book"] (sp_made):=by
 specialize T.j2V.F.ok yT;obtain⟨b,pl,pp,a1,a2,l,f,rfl,B,W,n1,q⟩:=h;refine⟨_,(jb (jq' 1 yT.nd (jt T.qS j1 hr (ja (jk jr (pv 0) jd) jc)))
  (jb (jq' 2 yT.nd Zu)
  (jb (jq' 3 yT.nd j41)
  (jb (j7 PassesOwn.never rfl (jX (jk jr (pv 0) jd)) (JG rfl (jA (ju' 4 yT.nd) (jA (ju' 5 yT.nd) Jg)))
   (jf (ZO (JZ hr) (pv 2) (pv 4) (j5p hr.units (pv 3) (ja (jt T.zH Jw hr (ja (pv 5) (ja (pv 1) (ja (pv 2) jc)))) (ja (jC j26 (by rfl) T.JJ Jb (ja (pv 3) jc)) jc))) rfl)))
  (jf (jy (jI (ja (Jn (j0g rfl) (by rfl) T.kf yI (ja (pv 3) jc)) (ja (Qe (JZ hr) (pv 2) (jk jr (jk jv (jk jr (pv 0) jd) (yr zF jd)) jd)) jc))))))))),?_⟩
 refine jD (S':=[some _,none,none,none,none,none]) rfl ?_
 try dsimp only[cxOf,Cx.nox]
 have a3:=W.p61;have pa:=B.pa.1;have la:=B.la.1;have l8:=W.l8;have R:(nmsOf f).length=f.length:=vt _;apply zTu B.t ?_;apply⟨pl,a1,nmsOf l,rfl,B.l,by rw[nmsOf,vt];exact la,λi a x ea ex=>?_,W.ln,by rw[nmsOf,vt];lia,λd H1 U hd ed=>?_⟩
 .unfold nmsOf at ex;rw[vv]at ex;obtain⟨p,ep,rfl⟩:=vg.mp ex;exact⟨_,B.la.2 i a p ea ep⟩
 left;walk_at"f d2 hd2 H2 s2 t2";apply j4k ?_;walk_at"f d3 hd3 H3 s3 t3";have n3:=none_of s2 hd3;have L:=s2.trans s3;have I:d2≠d3:=je t2 hd3;apply zTu (L _ _ (U _ _ B.t)) ?_;refine⟨pp,rfl,⟨_,SqL.of (L _ _ (U _ _ B.p))⟩,?_⟩;refine Jx (xs:=a2.map V.ref) (λi σ v=>IvE3 λ(Z o5:N3) (xs:List NE)=>IvA4 (σ=[some (.ref b),some (.ref d),some (.ref d2),some (.ref d3),Z,o5]) (Same H1 v) (v d2=some (.dK (numV ((nmsOf f).take i) (madeM (nmsOf l) (nmsOf f) (f.take i)).2))) (v d3=some (DNx P w d3 xs)/\EnAt v xs (madeM (nmsOf l) (nmsOf f) (f.take i)).1))
  ⟨_,_,[],rfl,L,s3 _ _ t2,t3,⟨rfl,λi d h=>by simp[madeM]at h⟩⟩ ?_ ?_ ?_
 .rintro i σ v _ ⟨Z,o5,xs,rfl,C,_⟩;exact SqL.of (C _ _ (U _ _ B.p))
 .rintro i x σ v hx ⟨Z,o5,xs,rfl,C,m,D,N⟩;obtain⟨a,p,rfl,Y,fb,G,hf⟩:=B.pa.at_ref hx;have hi:=(vx.mp Y).1;have S:=U.trans C;have M:=Kf (nmsOf l) (nmsOf f) i (f.take i) (by rw[vi];lia);have mp:=j3v (H:=v) W Y M.ln (C _ _ ed) m;have F:=N.1;have lk:=M.lk;have O:(nmsOf f)[i]?=some p.1:=by unfold nmsOf;rw[vv,Y];rfl
  have hk:(Sum.inr p.1:Key)∉(numV ((nmsOf f).take i) (madeM (nmsOf l) (nmsOf f) (f.take i)).2).map (·.1):=λz=>by
   rw[WN (by rw[vi,M.ln];lia)]at z;obtain⟨y,hy,e⟩:=vK.mp z;have e':y=p.1:=Sum.inr.inj e;subst e';obtain⟨j,hj,e⟩:=mem_iff_getElem.mp hy;rw[vi]at hj;rw[getElem_take]at e;obtain⟨h2,m⟩:=vx.mp O;exact ue (e.trans m.symm) (pairwise_iff_getElem.mp W.pn j i ⋯ h2 ⋯)
  have nl:(numV ((nmsOf f).take i) (madeM (nmsOf l) (nmsOf f) (f.take i)).2).length<sizeLine:=by
   rw[j3S (by rw[vi,M.ln];lia),vi];lia
  have et:(nmsOf f).take (i+1)=(nmsOf f).take i++[p.1]:=take_snoc O;have em:madeM (nmsOf l) (nmsOf f) (f.take (i+1))=stepM (nmsOf l) (nmsOf f) (madeM (nmsOf l) (nmsOf f) (f.take i)) p:=by rw[take_snoc Y,qg]
  rw[et,em];have ll:((nmsOf f).take i).length=(madeM (nmsOf l) (nmsOf f) (f.take i)).2.length:=by rw[vi,M.ln];lia
  generalize madeM (nmsOf l) (nmsOf f) (f.take i)=st at *;refine qj (SqT.of (S _ _ G)) ?_;apply j5z ?_;apply⟨d3,xs,rfl,D,?_⟩;apply⟨fb,d,d2,_,_,rfl,Xy.mp (FormAt.same S hf),mp,λc H4 o gc=>?_⟩;apply⟨d3,xs,rfl,o _ _ D,?_⟩;left;have r:=N.tups λb xs h=>o b (.tup xs) h
  obtain⟨f1,f2⟩:=r.found (d:=wiF (nmsOf l) (nmsOf f) st.2 p.2) M.nd;refine⟨xs,c,_,_,rfl,o _ _ D,r.nat,j3F gc,⋯,λp' a0=>?_,λhn=>?_⟩
  .obtain⟨hm,hv⟩:=f1 p' a0;rw[hv];apply⟨d2,_,rfl,DPut.k (k:=Sum.inr p.1) (o _ _ m) nl,?_⟩;unfold stepM;dsimp only;rw[vd hm];refine⟨_,_,xs,rfl,λc u h=>(jo (je h hd2)).trans ((C.trans o) _ _ h),?_,(jo I.symm).trans (o _ _ D),r.tups λb xs h=>(jo (jZ h (o _ _ m) (λz=>by cases z))).trans h⟩;rw[jz,yv hk,WO ll];rfl
  .have hm:=f2 hn;apply⟨d2,_,rfl,DPut.k (k:=Sum.inr p.1) ((jo I).trans (o _ _ m)) nl,?_⟩;unfold stepM;dsimp only;rw[vc hm];have tk:∀b ys,H4 b=some (.tup ys)->upd (upd H4 d3 (DNx P w d3 (xs++[(kD (wiF (nmsOf l) (nmsOf f) st.2 p.2),c,.int (xs.length:Nat))]))) d2 (.dK (putK (numV ((nmsOf f).take i) st.2) (Sum.inr p.1) (.int (xs.length:Nat)))) b=some (.tup ys):=λb ys h=>(jo (jZ h (o _ _ m) (λz=>by cases z))).trans ((jo (jZ h (o _ _ D) (λz=>by cases z))).trans h)
   refine⟨_,_,xs++[(kD (wiF (nmsOf l) (nmsOf f) st.2 p.2),c,.int (xs.length:Nat))],rfl,λc u h=>(jo (je h hd2)).trans ((jo (je h n3)).trans ((C.trans o) _ _ h)),?_,(jo I.symm).trans jz,?_⟩
   .rw[jz,yv hk,WO ll,F];rfl
   .rw[F];rw[F]at tk;exact(r.tups tk).snoc (GAt.tups tk gc)
 rintro S' v ⟨Z,o5,xs,rfl,C,m,D,N⟩;rw[vt,pa,v7]at m N;rw[<-R,v7]at m;have S:=U.trans C;apply⟨d3,xs,rfl,D,?_⟩;walk_at"f l5 hl5 H5 s5 t5";left;have J:=S.trans s5;obtain⟨a,ha,fb,G,hf⟩:=B.pa.get (i:=f.length-1) (x:=f[f.length-1]) (vz ⋯);refine zTu (J _ _ B.t) ?_;apply ixLm (SqL.of (J _ _ B.p)) (j31 (n:=f.length) n1 (by rw[vt];exact pa) (by rw[vv,ha];rfl)) ?_;apply zTu (J _ _ G) ?_;have M:=Kf (nmsOf l) (nmsOf f) f.length f rfl;have g:DGet H5 d2 (.str f[f.length-1].1) (some (vN ((madeM (nmsOf l) (nmsOf f) f).2.getD (f.length-1) 0))):=by
  have g:=DGet.k (k:=Sum.inr f[f.length-1].1) (s5 _ _ m);rw[XO (j:=f.length-1) (R.trans M.ln.symm) W.pn (by unfold nmsOf;rw[vv,vz ⋯];rfl)]at g;exact g
 refine⟨d2,_,rfl,g,?_⟩;apply⟨uc,?_⟩;sleep 6;have X:=s5.trans s6;exact q p6 l5 (xs.map λq=>q.2.1) H6 (S.trans X) t6 (by rw[v8];exact s6 _ _ t5) (DrAt.of (N.tups λb xs h=>X _ _ h))
def XR(T:Txt K mg t):1<*t.zk t.zn ["form"] (sp_namesG):=by
 specialize T.Ya.F.ok X3;obtain⟨a,g,rfl,d,q⟩:=h;refine⟨_,(jb (jP (jp j6t (jk jr (pv 0) jd) (xR (v:=.ref t.qC) (by rfl) T.W8 rfl) (by with_unfolding_all rfl))
   (jf (jy (jk jr (pv 0) jd)))
   jx)
  (jf (jy (wv (jp jS (jk jr (pv 0) jd) jE (nomark _)) (Zv j4u (pv 0) (zU jd) yS) (jI jc))))),?_⟩
 refine jD (S':=[some _]) rfl ?_
 try dsimp only[cxOf,Cx.nox]
 have f:(200:Nat)<sizeLine:=by decide
 cases g with
 | smp r vs=>
  cases r with
  | false=>
   have c:H a=some (.tup (.str "hold"::vs)):=d;apply ixTm (SqT.of c) (at0) ?_;apply⟨_,_,_,rfl,rfl,T.qz,?_⟩;apply iteE0 ?_;apply ixTm (SqT.of c) (at0) ?_;apply iteE0 ?_;apply⟨va _,?_⟩;walk_at"f b hb H1 s1 t1";exact q b H1 s1 t1
  | true=>
   have c:H a=some (.tup (.str "ring"::vs)):=d;apply ixTm (SqT.of c) (at0) ?_;apply⟨_,_,_,rfl,rfl,T.qz,?_⟩;apply iteE0 ?_;apply ixTm (SqT.of c) (at0) ?_;apply iteE0 ?_;apply⟨va _,?_⟩;walk_at"f b hb H1 s1 t1";exact q b H1 s1 t1
 | rise x h n=>
  have c:H a=some (.tup [.str "raise",x,h,n]):=d;apply zTu c ?_;apply⟨_,_,_,rfl,rfl,T.qz,?_⟩;apply iteE0 ?_;apply zTu c ?_;apply iteE0 ?_;apply⟨va _,?_⟩;walk_at"f b hb H1 s1 t1";exact q b H1 s1 t1
 | again k x=>
  have c:H a=some (.tup [.str "again",k,x]):=d;apply zTu c ?_;apply⟨_,_,_,rfl,rfl,T.qz,?_⟩;apply iteE0 ?_;apply zTu c ?_;apply iteE1 ?_;apply⟨a,_,rfl,SqT.of c,(by show¬(HT.sIx 3 0 (some 2)=0/\HT.sIx 3 3 none=3);decide),?_⟩;walk_at"f b hb H1 s1 t1";exact q b H1 s1 t1
 | many s xs=>
  obtain⟨b,c,e⟩:=d;cases s with
  | false=>
   have c:H a=some (.tup [.str "row",.ref b]):=c;apply zTu c ?_;apply⟨_,_,_,rfl,rfl,T.qz,?_⟩;apply iteE1 ?_;apply zTu c ?_;exact q b H (Same.refl _) e
  | true=>
   have c:H a=some (.tup [.str "side",.ref b]):=c;apply zTu c ?_;apply⟨_,_,_,rfl,rfl,T.qz,?_⟩;apply iteE1 ?_;apply zTu c ?_;exact q b H (Same.refl _) e
def j0G(T:Txt K mg t)(Qn:1<*t.zk t.zn ["form"] (sp_namesG)):2<*t.Y9 t.kx ["forms","drum"] (sp_come):=by
 specialize T.We.F.ok ZU;obtain⟨f,a0,o,e,rfl,ef,dr,D,tl,a2,q⟩:=h;refine⟨_,(jb (jq' 2 ZU.nd (j5o (j4a (pv 1) XU j5u) rfl rfl (by simp) nofun))
  (jb (j7 PassesOwn.never rfl (j2x (by rfl) T.qY (ja (pv 1) (ja (yr zF jd) (ja (yr zF jd) jc)))) (ju' 3 ZU.nd)
   (jf (jP (j6E (j6w (JZ hr) (pv 3) (pv 2)))
    (jf (j7 PassesOwn.never rfl (ZM (jt T.Ya Qn hr (ja (jk jv (pv 0) (pv 3)) jc))) (ju' 4 ZU.nd)
     (jf (ZO (JZ hr) (pv 2) (pv 4) XU rfl))))
    jx)))
  (jf (jy (jC (wS rfl) (by rfl) T.Xk Wp (ja (pv 2) jc)))))),?_⟩
 refine jD (S':=[some _,some _,none,none,none]) rfl ?_
 try dsimp only[cxOf,Cx.nox]
 have fl:=dr.1;apply j5y λd hd=>?_
 apply⟨jz,[(iK e,.bl true)],rfl,(by show 1<=15;decide),?_⟩;rw[j5I];have O:Same H (upd H d (.dK (mergeK [] [(iK e,.bl true)]))):=KE hd rfl;have e0:upd H d (.dK (mergeK [] [(iK e,.bl true)])) d=some (.dK [(iK e,.bl true)]):=jz;generalize upd H d (.dK (mergeK [] [(iK e,.bl true)]))=H0 at O e0|-;apply⟨(e:Int),-1,rfl,⟨⋯,⋯,⋯,⋯⟩,?_⟩;have en:((e:Int) - -1).toNat=e+1:=⋯
 rw[en];refine j3f (λi r R=>IvE4 λ(o3 p:N3) (m:List (Key×V)) (S:L6)=>IvA4 (r=[some (.ref f),some (vN e),some (.ref d),o3,p]) (Same H R) (R d=some (.dK m)) (KySet m S/\CmOk o e i S))
  ⟨_,_,_,[e],rfl,O,e0,⟨rfl,by simp⟩,⟨λx v=>by rw[vo.mp v];exact .top,vo.mpr rfl,λy Z hi=>ue hi (by rw[vo.mp Z];lia)⟩⟩ ?_ ?_
 .rintro i r R hi ⟨o3,p,m,S,rfl,F,J,C,G⟩;obtain⟨y,Z⟩:∃y:Nat,(e:Int)-(i:Int)=(y:Int):=⟨e-i,⋯⟩
  have yi:y+i=e:=⋯
  rw[Z];have yk:o[y]?=some o[y]:=vz ⋯;obtain⟨fa,Y,X⟩:=dr.get yk;left;have g:=DGet.k (k:=iK y) J;refine⟨d,_,rfl,g,?_⟩;rw[C.mem];refine⟨_,rfl,?_⟩;refine iteD (λW=>?_) (λW=>?_)
  .apply ixLm (SqL.of (F _ _ ef)) (jN (j:=y) (by rw[vv,Y];rfl)) ?_;apply⟨fa,_,rfl,X.same F,λb H1 s1 U=>?_⟩;rw[j6U]at U;have eg:o.getD y (.hold 0)=o[y]:=by rw[vy,yk];rfl
   have cy:=G.yes D W yi;rw[eg]at cy;have n8:=D.l8 _ (getElem_mem ⋯:o[y]∈o);refine⟨b,rfl,⟨_,SqT.of U⟩,?_⟩;refine j1n (xs:=o[y].ns.map vN) (λj r L=>IvE2 λ(p:N3) (a:List (Key×V))=>IvA3 (r=[some (.ref f),some (vN e),some (.ref d),some (.int (y:Nat)),p]) (∀c u,c≠d->H1 c=some u->L c=some u) (L d=some (.dK a)/\KySet a (addS S (o[y].ns.take j))))
    ⟨_,m,rfl,λc u _ h=>h,s1 _ _ J,C⟩ ?_ ?_ ?_
   .rintro j r L _ ⟨p,a,rfl,N,I,B⟩;exact SqT.of (N _ _ (jZ U (s1 _ _ J) (λz=>by cases z)) U)
   .rintro j x r L v ⟨p,a,rfl,N,I,B⟩;obtain⟨z,M,rfl,a1⟩:=j00 v;have hj:=(vx.mp M).1;have kl:=B.len;have sl:(addS S (o[y].ns.take j)).length<=e+1:=xB B.2 λx v=>by
     rcases zu.mp v with h | h
     .have:=(G.rc x h).le D;lia
     .have:=D.lt y _ yk x (mem_of_mem_take h);lia
    apply⟨d,_,rfl,DPut.k (k:=iK z) I ⋯,?_⟩;refine⟨_,_,rfl,λc u n h=>(jo n).trans (N _ _ n h),jz,?_⟩;rw[take_snoc M,j21];exact B.put z _
   rintro r L ⟨p,a,rfl,N,I,B⟩;rw[vt,v7]at B;exact⟨_,_,a,_,rfl,λc u h=>N _ _ (je h hd) (s1 _ _ (F _ _ h)),I,B,cy⟩
  .left;exact⟨_,_,m,S,rfl,F,J,C,G.no W yi⟩
 rintro r R ⟨o3,p,m,S,rfl,F,J,C,G⟩;have sl:S.length<=e+1:=xB C.2 λx v=>by have:=(G.rc x v).le D;lia
 apply⟨d,m,S.map (λn:Nat=>(n:Int)),rfl,J,by rw[C.1,v8];rfl,by rw[vt];lia,λl ms hl pm od=>?_⟩;obtain⟨ns,e1,I,e3⟩:=X5 pm od C.2;rw[e1];exact q l ns _ (F.trans (KE hl rfl)) (none_of F hl) jz I λx=>(e3 x).trans G.all
def j3U(T:Txt K mg t)(Jw:1<*t.qP t.qQ ["form","limbs","parts"] (sp_formW))(a3:2<*t.j08 t.j0l ["book"] (sp_made))(Y2:2<*t.Y9 t.kx ["forms","drum"] (sp_come)):3<*t.W0 t.xc ["book"] (sp_drums):=by
 specialize T.j15.F.ok QQ;obtain⟨b,pl,pp,a5,a6,r,D,rfl,B,W,n1,q⟩:=h;refine⟨_,(jb (jq' 1 QQ.nd (jt T.j2V a3 hr (ja (pv 0) jc)))
  (jb (jq (i:=2) QQ.nd rfl (.inr rfl) (jk jr (pv 1) jd))
  (jb (jq' 3 QQ.nd (jt T.We Y2 hr (ja (pv 2) (ja (jk jr (pv 1) jd) jc))))
  (jb (jq (i:=4) QQ.nd rfl (.inr rfl) (j0N rfl (by rfl) T.kf (by rfl) T.qY (ja (jC jR (by rfl) T.JJ Jb (ja (jk jr (pv 0) jd) jc)) jc)))
  (jb (jq (i:=5) QQ.nd rfl (.inr rfl) Zu)
  (jb (j7 PassesOwn.never rfl (KA (by rfl) T.zM (ja (pv 3) jc)) (JG rfl (jA (ju' 6 QQ.nd) (jA (ju' 7 QQ.nd) Jg)))
   (jf (ZO (JZ hr) (pv 5) (pv 7) (pv 6) rfl)))
  (jf (jy (jI (ja (Jn Q0 (by rfl) T.kf yI (ja (jk jr (pv 0) jd) jc)) (ja (Jd (ow:=["number"]) (ci:=[4,5,2]) rfl (CompScope.of (defScope KB) ["book","found","forms","kept","limbs","anew","place","number"] rfl rfl (by trivial)) (Jy nofun) (jX (pv 3)) (λ_ _ _ _ _=>⟨(ju' 0 (jT ["book","found","forms","kept","limbs","anew","place","number"] rfl (by trivial))),Jt,(jt T.zH Jw hr (ja (jk (Zs (K:=K) rfl) (pv 3) (pv 0)) (ja (pv 1) (ja (pv 2) jc))))⟩)) jc))))))))))),?_⟩
 refine jD (S':=[some _,none,none,none,none,none,none,none]) rfl ?_
 try dsimp only[cxOf,Cx.nox]
 have O:=xw W n1;have a4:=O.k61;have tp:=O.tp;have la:=B.la.1;have l8:=W.l8;apply⟨b,pl,pp,a5,a6,r,D,rfl,B,W,n1,λtt f a0 H1 s1 et ef dr=>?_⟩;apply zTu et ?_;apply zTu et ?_;apply⟨f,a0,drsM r D,topM r D,rfl,ef,dr,O.dw,tp,a4,λl2 ms H2 s2 a8 N m1 m2=>?_⟩;have Z:Kept r D ms:=⟨m1,m2⟩
 have a9:=Z.len O;have nd:=j3G m1;have J:=s1.trans s2;apply j6Y ?_;apply zTu (J _ _ B.t) ?_;refine⟨_,_,rfl,.inl ⟨_,SqL.of (J _ _ B.l),rfl⟩,?_⟩;rw[vt,la];apply⟨r.length,rfl,⋯,?_⟩;sleep 3;left;walk_at"f d4 hd4 H4 s4 t4";apply⟨l2,_,rfl,SqL.of (s4 _ _ (s3 _ _ N)),?_⟩;refine Yz (xs:=ms.map vN) (λi σ F=>IvE2 λ(o6 o7:N3)=>IvA2 (σ=[some (.ref b),some (.ref tt),some (.ref f),some (.ref l2),some (.ref p3),some (.ref d4),o6,o7]) (Same H3 F/\F d4=some (.dK (numI (ms.take i))))) ⟨_,_,rfl,s4,t4⟩ ?_ ?_ ?_
 .rintro i σ F _ ⟨o6,o7,rfl,R,S⟩;exact SqL.of (R _ _ (s3 _ _ N))
 .rintro i v σ F T' a7 hx ⟨o6,o7,rfl,R,S⟩ sP tP;obtain⟨m,C,rfl,I⟩:=j00 hx;have hi:=(vx.mp C).1;have tl:(ms.take i).length=i:=by rw[vi];lia
  refine qj (SqT.of tP) ?_;apply⟨d4,_,rfl,DPut.k (k:=iK m) (sP _ _ S) (by rw[j3P,tl];lia),?_⟩;have hk:iK m∉(numI (ms.take i)).map (·.1):=λz=>by
   rw[WL]at z;obtain⟨y,hy,e⟩:=vK.mp z;have e':=j0p e;subst e';obtain⟨j,hj,e⟩:=mem_iff_getElem.mp hy;rw[tl]at hj;rw[getElem_take]at e;obtain⟨h2,N⟩:=vx.mp C;exact ue (e.trans N.symm) (pairwise_iff_getElem.mp nd j i ⋯ h2 hj)
  refine⟨_,_,rfl,λc u h=>(jo (je h hd4)).trans (sP _ _ (R _ _ h)),?_⟩;rw[jz,yv hk,take_snoc C,j2s,tl];rfl
 rintro S' H5 ⟨o6,o7,rfl,R,S⟩;rw[vt,v7]at S;have Y:=s3.trans R;have G:=J.trans Y;apply zTu (G _ _ B.t) ?_;refine⟨pl,_,rfl,.inl (SqL.of (G _ _ B.l)),?_⟩;sleep 6;have L:=Y.trans s6;have X:=G.trans s6;apply⟨l2,rfl,⟨_,SqL.of (L _ _ N)⟩,?_⟩;refine Jm (xs:=ms.map vN) (λi ys F=>IvE1 λ(o:L7)=>IvA2 (ys=o.map V.ref) (Same H6 F/\DrAt F o ((keptD (drsM r D) ms).take i))) ⟨[],rfl,Same.refl _,.nil⟩ ?_ ?_ ?_
 .rintro i ys F _ ⟨o,rfl,g,p⟩;exact SqL.of (g _ _ (L _ _ N))
 .rintro i x ys F hx ⟨o,rfl,g,p⟩;obtain⟨m,C,rfl,I⟩:=j00 hx;have hi:=(vx.mp C).1;have mt:=Z.lt O I;have mk:(drsM r D)[m]?=some (drsM r D)[m]:=vz ⋯;have eg:(drsM r D).getD m (.hold 0)=(drsM r D)[m]:=by rw[vy,mk];rfl
  obtain⟨fa,a2,a1⟩:=dr.get mk;have sH:=L.trans g;have U:=getElem_mem ⋯ (l:=drsM r D) (n:=m);have gm:=j6H (H:=F) (l:=p3) (an:=d4) (n:=r.length) (ms:=ms) (d:=(drsM r D)[m]) (g _ _ (s6 _ _ (R _ _ t3))) (g _ _ (s6 _ _ S)) nd (O.lm _ U) (λj hj=>Z.sub I (by rw[eg];exact hj)) (O.dw.l8 _ U);refine Jh (S':=[none,some _,some _,some _]) rfl ?_;apply iteT ?_;apply ixLm (SqL.of (sH _ _ (s2 _ _ ef))) (jN (j:=m) (by rw[vv,a2];rfl)) ?_;apply⟨fa,p3,d4,_,_,rfl,(a1.same s2).same sH,gm,λc H7 s7 gc=>?_⟩;have dl:=p.1;rw[vi]at dl;refine⟨by rw[vt];lia,o++[c],by rw[vj];rfl,g.trans s7,?_⟩;rw[take_snoc (x:=reD (λn=>ms.idxOf n) (drsM r D)[m]) (by unfold keptD;rw[vv,C,<-eg];rfl)];exact All2.snoc (All2.mono p λa d h=>h.same s7) gc
 rintro ys F ⟨o,rfl,g,p⟩;have kl:(keptD (drsM r D) ms).length=(ms.map vN).length:=by unfold keptD;rw[vt,vt]
 rw[<-kl,v7]at p;have dl:=p.1;rw[kl,vt]at dl;refine⟨by rw[vt];lia,?_⟩;sleep 8;apply⟨uc,?_⟩;sleep 9;have aa:=g.trans s8;have M:=s8.trans s9;exact q p9 p6 p8 o ms H9 (X.trans (g.trans M)) t9 (M _ _ (g _ _ t6)) (s9 _ _ t8) (none_of G hp6) (none_of (X.trans g) hp8) (je (g _ _ t6) hp8) (All2.mono p λa d h=>h.same M) Z
def j0I(T:Txt K mg t):1<*t.yH t.yK ["number"] (X6):=by
 refine T.Wg.F.ok ZV (λl H Q E h=>?_) (λf A e s H l Q E p h=>?_)
 .obtain⟨N,rfl,k,q⟩:=h;rfl
 obtain⟨N,rfl,k,q⟩:=h;refine⟨_,(jb (jq' 1 ZV.nd (jk xr (xR (by rfl) T.Wr T.WQ) (jw j3 (pv 0) jd)))
  (jb (wB PassesOwn.never (jp j1F (pv 0) jd (nomark _))
   (jb (jq' 0 ZV.nd (jw Je (pv 0) jd))
   (jf (jq' 1 ZV.nd (jw ZL (jk xr (xR (by rfl) T.Wr T.WQ) (jw j3 (pv 0) jd)) (pv 1))))))
  (jf (jy (pv 1))))),?_⟩
 refine jD (S':=[some _,none]) rfl ?_
 try dsimp only[cxOf,Cx.nox]
 have r:(200:Nat)<sizeLine:=by decide
 apply⟨_,_,_,rfl,rfl,(by trivial),j3s ⋯ ⋯,?_⟩;apply⟨λn S' d=>IvE2 λ(a:Nat) (b:Str)=>IvA4 (S'=[some (.int (a:Nat)),some (.str b)]) (d=H) (n=a) ((a<26->b=nmK N)/\(26<=a->a=N/\b=⟨#[97+N%26]⟩)),⟨N,N,_,rfl,rfl,rfl,λh=>?_,λh=>⟨rfl,?_⟩⟩,?_⟩
 .unfold nmK;rw[vd h,show((N:Int)%26).toNat=N by lia]
 .rw[show((N:Int)%26).toNat=N%26 by lia]
 rintro n S' d ⟨a,b,rfl,rfl,m,g,j⟩;apply iteD (λc=>?_) (λc=>?_)
 .obtain⟨o,rfl⟩:=j ⋯;refine⟨_,λS' d h=>h,?_⟩;apply⟨_,_,_,rfl,rfl,(by trivial),j3s ⋯ ⋯,?_⟩;apply⟨_,_,rfl,rfl,(by show 1+1<=sizeLine;lia),?_⟩;refine⟨a/26,⋯,a/26,_,rfl,rfl,rfl,λh=>?_,λh=>ue h ⋯⟩;unfold nmK;rw[vc ⋯,show((a:Int)/26%26).toNat=N/26 by lia];rfl
 .rw[g ⋯];left;exact q
def j0F(T:Txt K mg t)(Jw:1<*t.qP t.qQ ["form","limbs","parts"] (sp_formW))(Y5:1<*t.yH t.yK ["number"] (X6)):2<*t.Y8 t.ku ["box"] (sp_bookof):=by
 specialize T.Wd.F.ok Yn;obtain⟨bx,l,f,D,N,ls,y,rfl,L,S,la,R,dr,O,q⟩:=h;refine⟨_,(jb (jq (i:=1) Yn.nd rfl (.inr rfl) (Jd (ow:=["name","height"]) (ci:=[]) rfl (CompScope.of (defScope zc) ["box","limbs","names"] rfl rfl (by trivial)) (yN nofun nofun) (jX (jk jr (pv 0) jd)) (λ_ _ _ _ _=>⟨(JG rfl (jA (ju' 0 (jT ["box","limbs","names"] rfl (by trivial))) (jA (ju' 1 (jT ["box","limbs","names"] rfl (by trivial))) Jg))),Jt,(pv 0)⟩)))
  (jb (jq (i:=2) Yn.nd rfl (.inr rfl) (Jd (ow:=["number"]) (ci:=[]) rfl (CompScope.of (defScope zc) ["box","limbs","names"] rfl rfl (by trivial)) (Jy nofun) (qA (by rfl) T.qY (ja (jC jR (by rfl) T.JJ Jb (ja (jk jr (pv 0) jd) jc)) jc)) (λ_ _ _ _ _=>⟨(ju' 0 (jT ["box","limbs","names"] rfl (by trivial))),Jt,(jt T.Wg Y5 hr (ja (pv 0) jc))⟩)))
  (jf (jy (jI (ja (Jn Q0 (by rfl) T.kf yI (ja (jk jr (pv 0) jd) jc)) (ja (Jd (ow:=["name","form"]) (ci:=[1,2]) rfl (CompScope.of (defScope zc) ["box","limbs","names"] rfl rfl (by trivial)) (yN nofun nofun) (j0P (by rfl) T.j34 (ja (pv 2) (ja (jk jr (pv 0) jd) jc))) (λ_ _ _ _ _=>⟨(JG rfl (jA (ju' 0 (jT ["box","limbs","names"] rfl (by trivial))) (jA (ju' 1 (jT ["box","limbs","names"] rfl (by trivial))) Jg))),Jt,(jI (ja (pv 0) (ja (jt T.zH Jw hr (ja (pv 1) (ja (pv 2) (ja (pv 3) jc)))) jc)))⟩)) jc))))))),?_⟩
 refine jD (S':=[some _,none,none]) rfl ?_
 try dsimp only[cxOf,Cx.nox]
 have a2:=O.k61;have l8:=O.l8;have a0:=la.1;have dl:=dr.1;have F:(nmsOf ls).length=ls.length:=vt _;apply zTu L ?_;refine⟨l,rfl,⟨_,SqL.of S⟩,?_⟩;refine Jm (xs:=D.map V.ref) (λi m e=>m=((nmsOf ls).take i).map V.str/\H=e) ⟨rfl,rfl⟩ ?_ ?_ ?_
 .rintro i m e _ ⟨rfl,rfl⟩;exact SqL.of S
 .rintro i x m e hx ⟨rfl,rfl⟩;obtain⟨a,p,rfl,hp,W⟩:=la.at_ref hx;have Y:=(vx.mp hp).1;refine Jh (S':=[none,none]) rfl ?_;refine qj (SqT.of W) ?_;apply iteT ?_;apply⟨by rw[vt,vi];lia,?_,rfl⟩;rw[take_snoc (x:=p.1) (by unfold nmsOf;rw[vv,hp];rfl),vj];rfl
 rintro m e ⟨rfl,rfl⟩;have U:(D.map V.ref).length=(nmsOf ls).length:=by rw[vt,F];exact a0
 rw[U,v7];refine⟨by rw[vt,F];lia,?_⟩;sleep 1;apply zTu (s1 _ _ L) ?_;refine⟨_,_,rfl,.inl ⟨_,SqL.of (s1 _ _ R),rfl⟩,?_⟩;rw[vt,dl];apply⟨_,rfl,⋯,⋯,?_⟩;refine KY (λi m e=>m=(List.range i).map (λk=>V.str (nmK k))/\H1=e) ⟨rfl,rfl⟩ ?_ ?_
 .rintro i m e Y ⟨rfl,rfl⟩;rw[show(0:Int)+(i:Nat)=(i:Nat)from uv _];refine Jh (S':=[none]) rfl ?_;apply iteT ?_;apply⟨i,rfl,⋯,?_⟩;refine⟨by rw[vt,length_range];lia,?_,rfl⟩;rw[range_succ,vj];rfl
 rintro m e ⟨rfl,rfl⟩;rw[show((y.length:Nat):Int).toNat=y.length from Int.toNat_natCast _];refine⟨by rw[vt,length_range];lia,?_⟩;sleep 2;have o:=s1.trans s2;apply zTu (o _ _ L) ?_;refine⟨l,_,rfl,.inl (SqL.of (o _ _ S)),?_⟩;sleep 3;have g:=o.trans s3;apply zTu (g _ _ L) ?_;left;have z:=s3 _ _ t2;refine⟨p2,f,_,_,rfl,SqL.of z,SqL.of (g _ _ R),?_⟩;refine Xo (xs:=(List.range y.length).map λk=>V.str (nmK k)) (zs:=N.map V.ref) (λi m e=>IvE1 λ(b:L7)=>IvA2 (m=b.map V.ref) (Same H3 e/\All2 (PartAt e) b ((bkP ls y).take i))) (by rw[vt,vt,length_range];exact dl.symm) ⟨[],rfl,Same.refl _,.nil⟩ ?_ ?_ ?_
 .rintro i m e _ ⟨b,rfl,r,_⟩;exact⟨SqL.of (r _ _ z),SqL.of (r _ _ (g _ _ R))⟩
 .rintro i u v m e T' M hu hv ⟨b,rfl,r,B⟩ sP tP;rw[vv]at hu;obtain⟨k,Z,rfl⟩:=vg.mp hu;have Y:i<y.length:=by
   have:=(vx.mp Z).1;rw[length_range]at this;exact this
  rw[List.getElem?_range Y]at Z;cases Z;obtain⟨a,d,rfl,X,gd⟩:=dr.at_ref hv;have sA:=r.trans sP;have a1:=g.trans sA;have C:=vm X;have pl:=B.1;rw[vi,j6]at pl;have gm:=j61 (H:=M) (l:=p1) (p:=p2) (ls:=ls) (d:=d) (n:=y.length) (sA _ _ (s3 _ _ (s2 _ _ t1))) (sA _ _ z) (O.lm d C) (λj hj=>by have:=O.dw.lt i d X j hj;lia) (O.dw.l8 d C);refine Jh (S':=[none,none,some _,some _]) rfl ?_;refine qj (SqT.of tP) ?_;apply iteT ?_;apply⟨a,p1,p2,_,_,rfl,gd.same a1,gm,λc H4 s4 gc=>?_⟩;apply⟨uc,?_⟩;sleep 5;have sB:=sP.trans (s4.trans s5);refine⟨by rw[vt];lia,b++[p5],by rw[vj];rfl,r.trans sB,?_⟩;rw[take_snoc (kh X)];exact All2.snoc (All2.mono B λa x h=>PartAt.same sB h) ⟨c,t5,Xy.mpr (gc.same s5)⟩
 rintro m e ⟨b,rfl,r,B⟩;have kl:(bkP ls y).length=((List.range y.length).map λk=>V.str (nmK k)).length:=by rw[j6,vt,length_range]
 rw[<-kl,v7]at B;have pl:=B.1;rw[j6]at pl;refine⟨by rw[vt];lia,?_⟩;sleep 6;apply⟨uc,?_⟩;sleep 7;have J:=s6.trans s7;have I:=r.trans J;have G:=g.trans I;exact q p7 p3 p6 b H7 G ⟨t7,I _ _ t3,la.mono λa x h=>G _ _ h,s7 _ _ t6,B.mono λa x h=>PartAt.same J h⟩ (none_of o hp3) (none_of (g.trans r) hp6) (je (r _ _ t3) hp6)
def j3V(T:Txt K mg t)(j1:1<*t.JT t.JV ["named"] (sp_numbers_of))(Qn:1<*t.zk t.zn ["form"] (sp_namesG)):2<*t.Yq t.Yu ["book"] (sp_inner):=by
 specialize T.Kt.F.ok yF;obtain⟨b,pl,pp,a1,I,ls,o,rfl,B,W,q⟩:=h;refine⟨_,(jb (jq (i:=1) yF.nd rfl (.inr rfl) (jt T.qS j1 hr (ja (jk jr (pv 0) jd) jc)))
  (jb (jq' 2 yF.nd (jL jc))
  (jb (j7 PassesOwn.never rfl (jX (jk jr (pv 0) jd)) (JG rfl (jA (ju' 3 yF.nd) (jA (ju' 4 yF.nd) Jg)))
   (jf (jO (Js q3 q4 q5 jK (pv 2) (ja (Jd (ow:=["other"]) (ci:=[1]) rfl (CompScope.of (defScope KC) ["book","numbers","found","name","form"] rfl rfl (by trivial)) (Jy nofun) (ZM (jt T.Ya Qn hr (ja (pv 4) jc))) (λ_ _ _ _ _=>⟨(ju' 0 (jT ["book","numbers","found","name","form"] rfl (by trivial))),Jt,(Qe (JZ hr) (pv 1) (pv 0))⟩)) jc)))))
  (jf (jy (pv 2)))))),?_⟩
 refine jD (S':=[some _,none,none,none,none]) rfl ?_
 try dsimp only[cxOf,Cx.nox]
 have a2:=W.p61;have pa:=B.pa.1;apply zTu B.t ?_;apply⟨pp,I,nmsOf o,rfl,B.p,by rw[nmsOf,vt];exact pa,λi a x ea X=>?_,W.pn,by rw[nmsOf,vt];lia,λd H1 J hd ed=>?_⟩
 .unfold nmsOf at X;rw[vv]at X;obtain⟨p,ep,rfl⟩:=vg.mp X;obtain⟨fb,hb,_⟩:=B.pa.2 i a p ea ep;exact⟨_,hb⟩
 apply⟨va _,?_⟩;walk_at"f l hl H2 s2 t2";have nl:=none_of J hl;have L:=J.trans s2;apply zTu (L _ _ B.t) ?_;refine⟨pp,rfl,⟨_,SqL.of (L _ _ B.p)⟩,?_⟩;refine Jx (xs:=I.map V.ref) (λi σ f=>IvE3 λ(m:L7) (O R:N3)=>IvA4 (σ=[some (.ref b),some (.ref d),some (.ref l),O,R]) (Same H1 f) (f l=some (.lst (m.map V.ref))) ((∀a∈m,H a=none/\a≠l)/\ListsAt f m ((o.take i).map λp=>(inP o p.2).map λj:Nat=>(j:Int))))
  ⟨[],_,_,rfl,s2,t2,(λa h=>nomatch h),.nil⟩ ?_ ?_ ?_
 .rintro i σ f _ ⟨m,O,R,rfl,v,z,G,C⟩;exact SqL.of ((J.trans v) _ _ B.p)
 .rintro i x σ f N ⟨m,O,R,rfl,v,z,G,C⟩;obtain⟨a,p,rfl,hp,fb,Z,hf⟩:=B.pa.at_ref N;have hi:=(vx.mp hp).1;have s0:=J.trans v;obtain⟨wn,w8⟩:=W.f i p hp;have a0:=C.1;rw[vt,vi]at a0;refine qj (SqT.of (s0 _ _ Z)) ?_;apply⟨.inl ⟨rfl,_,SqL.of z⟩,?_⟩;apply⟨fb,gF p.2,rfl,Xy.mp (FormAt.same s0 hf),λc D S M=>?_⟩;have M:D c=some (.tup (p.2.ns.map V.str)):=by rw[M];cases p.2<;>rfl
  refine⟨c,rfl,⟨_,SqT.of M⟩,?_⟩;refine qZ (xs:=p.2.ns.map V.str) (λj U f=>U=((p.2.ns.take j).map λx=>(ixOf (nmsOf o) x:Int)).map V.int/\D=f) ⟨rfl,rfl⟩ ?_ ?_ ?_
  .rintro j U f _ ⟨rfl,rfl⟩;exact SqT.of M
  .rintro j x U f N ⟨rfl,rfl⟩;rw[vv]at N;obtain⟨y,Y,rfl⟩:=vg.mp N;have hj:=(vx.mp Y).1;obtain⟨k,hk,ek⟩:=wn y (vm Y);refine Jh (S':=[none,some _]) rfl ?_;apply iteT ?_;left;have g:DGet D d (.str y) (some (.int (k:Nat))):=by
    have g:=DGet.k (k:=Sum.inr y) ((v.trans S) _ _ ed);rw[YI W.pn ek]at g;exact g
   refine⟨d,_,rfl,g,?_⟩;refine⟨by rw[vt,vt,vi];lia,?_,rfl⟩;rw[take_snoc Y,vj,vj,<-jW W.pn ek];rfl
  rintro U f ⟨rfl,rfl⟩;rw[show(p.2.ns.map V.str).length=p.2.ns.length from vt _,v7];refine⟨by rw[vt,vt];lia,?_⟩;sleep 4;have r:=S.trans s4;apply⟨l,_,_,rfl,rfl,r _ _ z,by rw[vt];lia,?_⟩;have F:p4≠l:=(je (S _ _ z) hp4).symm;have n4:H p4=none:=none_of (s0.trans S) hp4;refine⟨m++[p4],_,_,rfl,λc u h=>(jo (je h hl)).trans ((v.trans r) _ _ h),?_,λc n=>?_,?_⟩
  .rw[jz,vj];rfl
  .rcases vh.mp n with e | e
   .exact G c e
   .rw[vo.mp e];exact⟨n4,F⟩
  .rw[take_snoc hp,vj];refine All2.snoc (All2.monoM C λc n ks h=>(jo (G c n).2).trans (r _ _ h)) ?_;have eq:List.map (λj:Nat=>(j:Int)) (inP o p.2)=p.2.ns.map λx=>(ixOf (nmsOf o) x:Int):=by
    unfold inP;rw[v8];rfl
   show upd H4 l _ p4=some (.lst (List.map V.int (List.map (λj:Nat=>(j:Int)) (inP o p.2))));rw[jo F,t4,eq]
 rintro S' D ⟨m,O,R,rfl,v,z,G,C⟩;rw[vt,pa,v7]at C;left;exact q l m D (J.trans v) nl z (λa ha=>(G a ha).1) C
def j5i(T:Txt K mg t)(j1:1<*t.JT t.JV ["named"] (sp_numbers_of))(QV:2<*t.Yq t.Yu ["book"] (sp_inner)):3<*t.W1 t.xf ["book"] (sp_ends):=by
 specialize T.j05.F.ok zY;obtain⟨b,pl,pp,an,au,ls,ps,rfl,B,W,q⟩:=h;refine⟨_,(jb (jq' 1 zY.nd (jt T.qS j1 hr (ja (jk jr (pv 0) jd) jc)))
  (jb (jq' 2 zY.nd (jL jc))
  (jb (j7 PassesOwn.never rfl (j0P (by rfl) T.j34 (ja (jk jr (pv 0) jd) (ja (jt T.Kt QV hr (ja (pv 0) jc)) jc))) (JG rfl (jA (ju' 3 zY.nd) (jA (ju' 4 zY.nd) Jg)))
   (jb (jq' 5 zY.nd (jk jr (pv 3) jd))
   (jb (jq' 6 zY.nd Zu)
   (jb (JX (jp jS (jk jr (pv 5) jd) jE (nomark _))
    (jf (ZO (JZ hr) (pv 6) (Qe (JZ hr) (pv 1) (jk jr (pv 5) jd)) (jk jr (pv 5) jd) rfl))
    jx)
   (jb (j7 PassesOwn.never rfl (jX (pv 4)) (ju' 7 zY.nd)
    (jf (jO (Js q7 PySem.F.slot_dict_update PySem.F.type_dict_update j2r (pv 6) (ja (Jn (j0f rfl) (by rfl) T.j60 j4T (ja (jk jv (pv 2) (pv 7)) jc)) jc)))))
   (jf (jO (Js q3 q4 q5 jK (pv 2) (ja (jC (W9 rfl) (by rfl) T.Xk Wp (ja (j40 q7 PySem.F.slot_dict_items PySem.F.type_dict_items j3E (pv 6)) jc)) jc)))))))))
  (jf (jy (pv 2)))))),?_⟩
 refine jD (S':=[some _,none,none,none,none,none,none,none]) rfl ?_
 try dsimp only[cxOf,Cx.nox]
 have aK:=W.p61;have l8:=W.l8;have pa:=B.pa.1;have la:=B.la.1;apply zTu B.t ?_;apply⟨pl,an,nmsOf ls,rfl,B.l,by rw[nmsOf,vt];exact la,λi a x ea ex=>?_,W.ln,by rw[nmsOf,vt];lia,λd H1 s1 hd ed=>?_⟩
 .unfold nmsOf at ex;rw[vv]at ex;obtain⟨p,ep,rfl⟩:=vg.mp ex;exact⟨_,B.la.2 i a p ea ep⟩
 apply⟨va _,?_⟩;walk_at"f l hl H2 s2 t2";have nl:=none_of s1 hl;have ac:=s1.trans s2;have aD:d≠l:=je ed hl;apply zTu (ac _ _ B.t) ?_;apply⟨b,pl,pp,an,au,ls,ps,rfl,B.same ac,W,λli am H3 s3 al af aF lia=>?_⟩;left;have F:=ac.trans s3;have ao:=lia.1;rw[vt]at ao;have aG:li≠l:=λz=>by rw[z,t2]at al;cases al
 refine⟨pp,li,_,_,rfl,SqL.of (F _ _ B.p),SqL.of af,?_⟩;have a9:∀{c u},H c=some u->c≠l:=λh=>je h nl
 have t3:H3 l=some (.lst []):=s3 _ _ t2;refine j51 (xs:=au.map V.ref) (ys:=am.map V.ref) (λi σ H'=>IvE7 λ(X:L7) (E:L0) (o3 o4 o5 o6 O:N3)=>IvA6 (σ=[some (.ref b),some (.ref d),some (.ref l),o3,o4,o5,o6,O]) (∀c u,c≠l->H3 c=some u->H' c=some u) (H' l=some (.lst (X.map V.ref))) (∀a∈X,H a=none/\a≠l) (E.length=i) (EndsAt H' X E/\EndOk ls ps E))
  (by rw[vt,vt];lia) ⟨[],[],_,_,_,_,_,rfl,λc u _ h=>h,t3,(λa h=>nomatch h),rfl,.nil,λi p e _ h=>by simp at h⟩ ?_ ?_ ?_
 .rintro i σ H' _ ⟨X,E,o3,o4,o5,o6,O,rfl,sm,e1,na,lE,aE,oE⟩;exact⟨SqL.of (sm _ _ (a9 B.p) (F _ _ B.p)),SqL.of (sm _ _ aG af)⟩
 .rintro i u v σ H' P U hu hv ⟨X,E,o3,o4,o5,o6,O,rfl,sm,e1,na,lE,aE,oE⟩ sP tP;obtain⟨a,p,rfl,hp,fb,ag,hf⟩:=B.pa.at_ref hu;obtain⟨ia,is,rfl,ak,ay⟩:=lia.at_ref hv;rw[vv,hp]at ak;cases ak;have hi:=(vx.mp hp).1;have aA:ia∈am:=by
   rw[vv]at hv;obtain⟨a',ea,e'⟩:=vg.mp hv;injection e' with e';subst e';exact vm ea
  have aq:ia≠l:=λz=>by have:=aF ia aA;rw[z,t2]at this;cases this
  have C:∀c u,c≠l->H3 c=some u->U c=some u:=λc u Y h=>sP _ _ (sm _ _ Y h)
  have ah:U a=_:=C _ _ (a9 ag) (F _ _ ag);have Z:U ia=_:=C _ _ aq ay;have aw:U d=_:=C _ _ aD (s3 _ _ (s2 _ _ ed));have I:=sP _ _ e1;have a3:FormAt U fb p.2:=by
   have J:=FormAt.same F hf;generalize p.2=f at J;have np:∀{c:Addr} {xs:N2},H3 c=some (.tup xs)->c≠l:=λh=>jZ h t3 (λz=>by cases z)
   cases f with
   | row ps=>obtain⟨c,y,M⟩:=J;exact⟨c,C _ _ (np y) y,C _ _ (np M) M⟩
   | side ps=>obtain⟨c,y,M⟩:=J;exact⟨c,C _ _ (np y) y,C _ _ (np M) M⟩
   | hold n=>exact C _ _ (np J) J
   | ring x n=>exact C _ _ (np J) J
   | rise x g n=>exact C _ _ (np J) J
   | again x n=>exact C _ _ (np J) J
  have w8:=(W.f i p hp).2;have wr:=λx h n (e:p.2 = .rise x h n)=>W.r i p.1 x h n (by rw[hp,<-e])
  have aB:=λj=>W.inP_lt (j:=j) hp
  have ad:=Yv W ⋯ oE;have ae:∀(j:Nat) (e:List (Int×Int)),E[j]?=some e->e.length<=8:=λj e h=>Xu W ⋯ oE h
  refine qj (SqT.of tP) ?_;apply zTu ah ?_;left;walk_at"f dl hdl H5 s5 t5";apply⟨λS' H6=>S'=[some (.ref b),some (.ref d),some (.ref l),some (.ref a),some (.ref ia),some (.ref fb),some (.ref dl),O]/\Same U H6/\H6 dl=some (.dK ((kv0 ls p.2).map iiK)),?_,?_⟩
  rotate_left
  .by_cases a6:∃x h n,p.2 = .rise x h n
   .obtain⟨x,h,n,e⟩:=a6;rw[e]at a3;have a4:H5 fb=some (.tup [.str "raise",.str x,.int h,.int n]):=s5 _ _ a3;obtain⟨j,N⟩:=wr x h n e;apply zTu a4 ?_;apply iteE1 ?_;apply zTu a4 ?_;apply zTu a4 ?_;have g:DGet H5 d (.str x) (some (.int (j:Nat))):=by
     have g:=DGet.k (k:=Sum.inr x) (s5 _ _ aw);rw[YI W.ln N]at g;exact g
    refine⟨d,_,rfl,g,?_⟩;refine⟨dl,_,rfl,DPut.k (k:=Sum.inl (j:Int)) t5 (by show 0<sizeLine;lia),?_⟩;refine⟨rfl,λc u h=>(jo (je h hdl)).trans (s5 _ _ h),?_⟩;rw[jz,e];show _=some (HO.dK [iiK ((ixOf (nmsOf ls) x:Nat),h)]);rw[jW W.ln N];rfl
   .obtain⟨k,xs,hk,dk⟩:=j3k a3 λx v n e=>a6 ⟨x,v,n,e⟩
    apply ixTm (SqT.of (s5 _ _ hk)) (at0) ?_;apply iteB0 dk ?_;apply⟨rfl,s5,?_⟩;rw[j56 λx v n e=>a6 ⟨x,v,n,e⟩];exact t5
  rintro S' H6 ⟨rfl,s6,t6⟩;left;have ai:=s6 _ _ Z;have a8:∀{c u},U c=some u->c≠dl:=λh=>je h hdl
  refine⟨ia,rfl,⟨_,SqL.of ai⟩,?_⟩;refine Jx (xs:=((inP ps p.2).map λj:Nat=>(j:Int)).map V.int) (λt σ H7=>IvE2 λ(m:List (Int×Int)) (O:N3)=>IvA5 (σ=[some (.ref b),some (.ref d),some (.ref l),some (.ref a),some (.ref ia),some (.ref fb),some (.ref dl),O]) (Same U H7) (H7 dl=some (.dK (m.map iiK))) ((m.map (·.1)).Nodup) (∀k v,(k,v)∈m↔LastIn E ((inP ps p.2).take t) k v\/(k,v)∈kv0 ls p.2))
   ⟨_,_,rfl,s6,t6,j6n _,λk v=>⟨.inr,λh=>h.elim (λ⟨ab,j,a1,e,_⟩=>by cases ab<;>simp at e) id⟩⟩ ?_ ?_ ?_
  .rintro t σ H7 _ ⟨m,O,rfl,G,t7,D,m7⟩;exact SqL.of (G _ _ Z)
  .rintro t x σ H7 hx ⟨m,O,rfl,G,t7,D,m7⟩;rw[vv,vv]at hx;obtain⟨jj,az,rfl⟩:=vg.mp hx;obtain⟨j,N,rfl⟩:=vg.mp az;have aI:=aB j (vm N);have e0:kv0 ls p.2=[]:=by
    rcases j6m (ps:=ps) (ls:=ls) p.2 with z | z
    .rw[z]at N;simp at N
    .exact z
   rw[e0]at m7;have hE:E[j]?=some (E.getD j []):=by rw[vy,vz ⋯];rfl
   obtain⟨aj,ax,bs,a2,R⟩:=aE.get hE;have ap:((E.getD j []).map (·.1)).Nodup:=((oE j _ _ (vz ⋯) hE).1).imp λh=>Int.ne_of_lt h
   have e8:=ae j _ hE;have k8:m.length<=8:=by
    have z:=yP (n:=ls.length) D λk hk=>by
     obtain⟨L,a5,rfl⟩:=vK.mp hk;rcases(m7 L.1 L.2).mp a5 with⟨ab,i',a1,_,o,_⟩ | o
     .exact ad i' _ o
     .exact nomatch o
    rw[vt]at z;lia
   apply⟨.inr (.inr (.inl ⟨rfl,.inl ⟨_,t7⟩⟩)),?_⟩;apply ixLm (SqL.of (G _ _ I)) (ZH (i:=(j:Int)) ⋯ ax) ?_;apply⟨aj,bs,E.getD j [],rfl,G _ _ (sP _ _ a2),R.1,λi' c L y M=>G _ _ (sP _ _ (R.2 i' c L y M)),?_⟩;walk_at"f d2 hd2 H8 s8 t8";left;rw[show([]:List (Key×V))=([]:List (Int×Int)).map iiK from rfl,Yh,j0C ap]at t8;have n2:dl≠d2:=je t7 hd2;refine⟨dl,d2,_,_,rfl,rfl,s8 _ _ t7,t8,n2,by rw[vt,vt];lia,?_⟩;rw[Yh];obtain⟨mn,mm⟩:=WH D ap;refine⟨mergeI m (E.getD j []),_,rfl,λc u h=>(jo (a8 h)).trans (s8 _ _ (G _ _ h)),jz,mn,λk v=>?_⟩;rw[mm,m7,e0,take_snoc N,j2k];constructor
   .rintro(h | ⟨y,h | h⟩)
    .exact .inl (.inl h)
    .exact .inl (.inr ⟨y,h⟩)
    .exact nomatch h
   .rintro((h | ⟨y,h⟩) | h)
    .exact .inl h
    .exact .inr ⟨y,.inl h⟩
    .exact nomatch h
  rintro S' H7 ⟨m,aJ,rfl,G,t7,D,m7⟩;rw[vt,vt,v7]at m7;have k8:m.length<=8:=by
   have z:=yP (n:=ls.length) D λk hk=>by
    obtain⟨L,a5,rfl⟩:=vK.mp hk;rcases(m7 L.1 L.2).mp a5 with⟨ab,i',a1,_,o,_⟩ | o
    .exact ad i' _ o
    .obtain⟨x,n,e,ek⟩:=xz.mp o;obtain⟨j,N⟩:=wr x _ n e;have h3:=j1r (vm N);have h4:(nmsOf ls).length=ls.length:=vt _;rw[ek];lia
   rw[vt]at z;lia
  apply⟨.inl ⟨rfl,_,SqL.of (G _ _ I)⟩,?_⟩;apply⟨.inr (.inr (.inl ⟨rfl,.inl ⟨_,t7⟩⟩)),dl,_,rfl,rfl,t7,?_⟩;walk_at"f vw hvw H8 s8 t8";apply⟨vw,dl,m,rfl,t8,s8 _ _ t7,⋯,λr cs ms H9 s9 a7 e9 n9 a0 pw aC av=>?_⟩;left;have aH:=aE.1;refine⟨l,_,_,rfl,rfl,s9 _ _ (s8 _ _ (G _ _ I)),by rw[vt];lia,?_⟩;have S:=G.trans (s8.trans s9);have aa:r≠l:=(je (s8 _ _ (G _ _ I)) a7).symm;have nr:H r=none:=by
   cases z:H r with
   | none=>rfl
   | some u=>rw[s8 _ _ (G _ _ (C _ _ aa (F _ _ z)))]at a7;cases a7
  have ar:∀{c:Addr} {xs:N2},H9 c=some (.tup xs)->c≠l:=λh=>jZ h (S _ _ I) (λz=>by cases z)
  refine⟨X++[r],E++[ms],_,_,_,_,_,rfl,λc u Y h=>(jo Y).trans (S _ _ (C _ _ Y h)),?_,λc Y=>?_,by rw[vn,lE];rfl,?_,?_⟩
  .rw[jz,vj];rfl
  .rcases vh.mp Y with z | z
   .exact na c z
   .rw[vo.mp z];exact⟨nr,aa⟩
  .refine All2.snoc (All2.monoM aE λc Y e h=>?_) ?_
   .obtain⟨bs,a2,R⟩:=h;refine⟨bs,(jo (na c Y).2).trans (S _ _ (sP _ _ a2)),All2.mono R λc' L h'=>?_⟩;have h9:=S _ _ (sP _ _ h');exact(jo (ar h9)).trans h9
   .exact⟨cs,(jo aa).trans e9,aC,λi' c L y M=>(jo (ar (av i' c L y M))).trans (av i' c L y M)⟩
  .refine EndOk.snoc W oE (p:=p) (by rw[lE];exact hp) ?_ λk v=>?_
   .exact j2K (a0.map _) D pw
   .rw[a0.mem_iff,m7];exact⟨λh=>h.imp id xz.mp,λh=>h.imp id xz.mpr⟩
 rintro S' H' ⟨X,E,o3,o4,o5,o6,O,rfl,sm,e1,na,lE,aE,oE⟩;rw[vt]at lE;left;exact q l X E H' (λc u h=>sm _ _ (a9 h) (F _ _ h)) nl e1 (λa ha=>(na a ha).1) ⋯ aE oE
def j3W(T:Txt K mg t)(Y3:3<*t.W1 t.xf ["book"] (sp_ends)):4<*t.W2 t.xg ["book"] (sp_moved):=by
 specialize T.j16.F.ok wH;obtain⟨b,pl,pp,Y,a2,ls,ps,rfl,B,W,q⟩:=h;refine⟨_,(jb (jq' 1 wH.nd (jL jc))
  (jb (j7 PassesOwn.never rfl (jX (jt T.j05 Y3 hr (ja (pv 0) jc))) (ju' 2 wH.nd)
   (jf (jO (Js q3 q4 q5 jK (pv 1) (ja (Jd (ow:=["limb","height"]) (ci:=[]) rfl (CompScope.of (defScope KD) ["book","found","left"] rfl rfl (by trivial)) (yN nofun nofun) (jX (pv 2)) (λ_ _ _ _ _=>⟨(JG rfl (jA (ju' 0 (jT ["book","found","left"] rfl (by trivial))) (jA (ju' 1 (jT ["book","found","left"] rfl (by trivial))) Jg))),Jt,(pv 0)⟩)) jc)))))
  (jf (jy (pv 1))))),?_⟩
 refine jD (S':=[some _,none,none]) rfl ?_
 try dsimp only[cxOf,Cx.nox]
 have a5:=W.p61;apply⟨va _,?_⟩;walk_at"f l hl H1 s1 t1";apply⟨b,pl,pp,Y,a2,ls,ps,rfl,B.same s1,W,λe as E H2 s2 he ee ne lE aE oE=>?_⟩;have I:=aE.1;have a3:=s1.trans s2;have l2:H2 l=some (.lst []):=s2 _ _ t1;have a1:l≠e:=λz=>by rw[z,he]at t1;cases t1
 refine⟨e,rfl,⟨_,SqL.of ee⟩,?_⟩;refine Jx (xs:=as.map V.ref) (λi σ n=>IvE2 λ(g:L7) (F:N3)=>IvA4 (σ=[some (.ref b),some (.ref l),F]) (∀c u,c≠l->H2 c=some u->n c=some u) (n l=some (.lst (g.map V.ref))) ((∀c∈g,H1 c=none/\c≠l)/\ListsAt n g ((E.take i).map λe=>e.map (·.1))))
  ⟨[],_,rfl,λc u _ h=>h,l2,(λc h=>nomatch h),.nil⟩ ?_ ?_ ?_
 .rintro i σ n _ ⟨g,F,rfl,m,p,C,r⟩;exact SqL.of (m _ _ a1.symm ee)
 .rintro i x σ n S ⟨g,F,rfl,m,p,C,r⟩;obtain⟨a,M,rfl,f,J,O,D⟩:=aE.at_ref S;have hi:=(vx.mp f).1;have X:=r.1;rw[vt,vi]at X;have am:a∈as:=by
   rw[vv]at S;obtain⟨a',ea,L⟩:=vg.mp S;injection L with L;subst L;exact vm ea
  have Z:a≠l:=λz=>by have:=ne a am;rw[z,t1]at this;cases this
  have v:n a=some (.lst (J.map V.ref)):=m _ _ Z O;have a4:=(oE i _ M (vz ⋯) f).1;have N:=Xu W ⋯ oE f;apply⟨.inl ⟨rfl,_,SqL.of p⟩,?_⟩;apply⟨a,rfl,⟨_,SqL.of v⟩,?_⟩;refine Jm (xs:=J.map V.ref) (λj G d=>G=((M.take j).map (·.1)).map V.int/\n=d) ⟨rfl,rfl⟩ ?_ ?_ ?_
  .rintro j G d _ ⟨rfl,rfl⟩;exact SqL.of v
  .rintro j x G d U ⟨rfl,rfl⟩;obtain⟨c,kv,rfl,y,R⟩:=D.at_ref U;have hj:=(vx.mp y).1;have a0:c≠l:=λz=>by rw[z,l2]at R;cases R
   refine Jh (S':=[none,none]) rfl ?_;refine qj (SqT.of (m _ _ a0 R)) ?_;apply iteT ?_;apply⟨by rw[vt,vt,vi];lia,?_,rfl⟩;rw[take_snoc y,vj,vj];rfl
  rintro G d ⟨rfl,rfl⟩;rw[show(J.map V.ref).length=M.length by rw[vt];exact D.1,v7];refine⟨by rw[vt,vt];lia,?_⟩;sleep 4;apply⟨l,_,_,rfl,rfl,s4 _ _ p,by rw[vt];lia,?_⟩;have o:p4≠l:=(je p hp4).symm;have n4:H1 p4=none:=by
   cases z:H1 p4 with
   | none=>rfl
   | some u=>rw[m _ _ o (s2 _ _ z)]at hp4;cases hp4
  refine⟨g++[p4],_,rfl,λc u k h=>(jo k).trans (s4 _ _ (m _ _ k h)),?_,λc k=>?_,?_⟩
  .rw[jz,vj];rfl
  .rcases vh.mp k with z | z
   .exact C c z
   .rw[vo.mp z];exact⟨n4,o⟩
  .rw[take_snoc f,vj];exact All2.snoc (All2.monoM r λc k ks h=>(jo (C c k).2).trans (s4 _ _ h)) ((jo o).trans t4)
 rintro S' H3 ⟨g,F,rfl,m,p,C,r⟩;rw[vt,I,v7]at r;apply q l g (E.map λe=>e.map (·.1)) H3 (λc u h=>m _ _ (je h hl) (a3 _ _ h)) hl p (λc k=>none_of s1 (C c k).1) (by rw[vt];exact lE) r (j3D lE oE)
def wZ(T:Txt K mg t):1<*t.QZ t.Q4 ["row","moves","limbs"] (sp_check_side):=by
 specialize T.Yp.F.ok Zn;obtain⟨r,l,L,J,F,M,rfl,B,D,X,O,g,G,q⟩:=h;refine⟨_,(jb (jP (jp (j6s hr.units) (jL jc) (pv 1) (by with_unfolding_all rfl))
   (jf ZA)
   jx)
  (jf (j7 PassesOwn.never rfl (KA (by rfl) T.zM (ja (pv 2) jc)) (JG rfl (jA (ju (i:=3) Zn.nd rfl (.inr rfl)) (jA (ju' 4 Zn.nd) Jg)))
   (jf (jP (jp y6 (jC jR (by rfl) T.JJ Jb (ja (Jd (ow:=["move"]) (ci:=[3]) rfl (CompScope.of (defScope Q9) ["row","moves","limbs","number","limb"] rfl rfl (by trivial)) (Jy nofun) (jX (pv 1)) (λ_ _ _ _ _=>⟨(ju' 0 (jT ["row","moves","limbs","number","limb"] rfl (by trivial))),(j0O (jp (Yj (K:=K) rfl) (pv 1) (pv 0) (by with_unfolding_all rfl))),XU⟩)) jc)) jd (nomark _))
    (jf ZA)
    jx))))),?_⟩
 refine jD (S':=[some _,some _,some _,none,none]) rfl ?_
 try dsimp only[cxOf,Cx.nox]
 have m:=D.1;apply⟨va _,?_⟩;sleep 0;apply⟨p0,l,J,M,rfl,rfl,t0,s0 _ _ B,m,λi b e R S=>s0 _ _ (D.2 i b e R S),?_⟩;apply iteB0 (any_empty X) ?_;apply⟨L,_,rfl,SqL.of (s0 _ _ g),?_⟩;refine Yz (xs:=F.map V.ref) (λi I f=>IvE2 λ(p u:N3)=>I=[some (.int r),some (.ref l),some (.ref L),p,u]/\Same H f) ⟨_,_,rfl,s0⟩ ?_ ?_ ?_
 .rintro i I f _ ⟨p,u,rfl,n⟩;exact SqL.of (n _ _ g)
 .rintro i v I f P N hx ⟨p,u,rfl,n⟩ Y Z;have y:=n.trans Y;refine qj (SqT.of Z) ?_;apply⟨l,rfl,⟨_,SqL.of (y _ _ B)⟩,?_⟩;refine Jm (xs:=J.map V.ref) (λj z c=>z.length=((M.take j).filter λe=>decide ((i:Int)∈e)).length/\N=c) ⟨rfl,rfl⟩ ?_ ?_ ?_
  .rintro j z c _ ⟨_,rfl⟩;exact SqL.of (y _ _ B)
  .rintro j x z c C ⟨o,rfl⟩;obtain⟨a,e,rfl,k,U⟩:=D.at_ref C;refine Jh (S':=[none,some _]) rfl ?_;apply⟨a,_,rfl,.inl (SqL.of (y _ _ U)),rfl,flats e,?_⟩;rw[inI];left;have W:((M.take j).filter λe=>decide ((i:Int)∈e)).length<=8:=vW (length_filter_le _ _) (vW (List.length_take_le' _ _) O);refine iteD (λd=>?_) (λd=>?_)
   .apply⟨⋯,?_,rfl⟩;rw[take_snoc k,filter_append,uz,vd (vG d),vn,vn,o];rfl
   .refine⟨?_,rfl⟩;rw[take_snoc k,filter_append,uz,vc (by simpa using d),vn,o];rfl
  rintro z c ⟨o,rfl⟩;rw[vt,m,v7]at o;have o1:=G (i:Int);refine⟨⋯,?_⟩;sleep 2;apply⟨_,_,rfl,.inl ⟨_,SqL.of t2,rfl⟩,?_⟩;apply iteD (λd=>?_) (λd=>?_)
  .exfalso;lia
  .left;exact⟨_,_,rfl,y.trans s2⟩
 rintro S' f ⟨p,u,rfl,n⟩;exact q f n
def xK(T:Txt K mg t):1<*t.zJ t.zQ ["form","inside"] (sp_length_of):=by
 specialize T.kY.F.ok Xa;obtain⟨a,l,f,j,rfl,d,i,e,q⟩:=h;refine⟨_,(jb (jP (jp jS (jk jr (pv 0) jd) jE (nomark _))
   (jf (jy (jC (yJ rfl) (by rfl) T.j19 W7 (ja (pv 1) jc))))
   jx)
  (jb (jP (jp jS (jk jr (pv 0) jd) jE (nomark _))
   (jf (jy (jC (kj rfl) (by rfl) T.j18 W6 (ja (pv 1) jc))))
   jx)
  (jb (jP (jp jS (jk jr (pv 0) jd) jE (nomark _))
   (jf (jy (jw Q6 (jk jr (pv 0) jd) (jk jv (pv 1) jd))))
   jx)
  (jf (jy (jk jr (pv 0) (yr zF jd))))))),?_⟩
 refine jD (S':=[some _,some _]) rfl ?_
 try dsimp only[cxOf,Cx.nox]
 have B:(200:Nat)<sizeLine:=by decide
 cases f with
 | hold n=>
  have c:H a=some (.tup _):=d;apply zTu c ?_;apply iteE0 ?_;apply zTu c ?_;apply iteE0 ?_;apply zTu c ?_;apply iteE0 ?_;apply zTu c ?_;exact q _ rfl
 | ring x n=>
  have c:H a=some (.tup _):=d;apply zTu c ?_;apply iteE0 ?_;apply zTu c ?_;apply iteE0 ?_;apply zTu c ?_;apply iteE0 ?_;apply zTu c ?_;exact q _ rfl
 | rise x v n=>
  have c:H a=some (.tup _):=d;apply zTu c ?_;apply iteE0 ?_;apply zTu c ?_;apply iteE0 ?_;apply zTu c ?_;apply iteE0 ?_;apply zTu c ?_;exact q _ rfl
 | row ps=>
  obtain⟨b,c,p⟩:=d;apply zTu c ?_;apply iteE1 ?_;apply⟨l,j,rfl,SqL.of i,?_⟩;exact q _ rfl
 | side ps=>
  obtain⟨b,c,p⟩:=d;apply zTu c ?_;apply iteE0 ?_;apply zTu c ?_;apply iteE1 ?_;apply⟨l,j,rfl,SqL.of i,length_pos_iff.mpr e,λg m o=>?_⟩;exact q g ⟨m,o⟩
 | again k x=>
  have c:H a=some (.tup _):=d;obtain⟨y,r,rfl,u,z,C,D⟩:=e;apply zTu c ?_;apply iteE0 ?_;apply zTu c ?_;apply iteE0 ?_;apply zTu c ?_;apply iteE1 ?_;apply zTu c ?_;apply ixLm (SqL.of i) (at0) ?_;left;exact q _ ⟨y,rfl,rfl⟩
def j0H(T:Txt K mg t)(QV:2<*t.Yq t.Yu ["book"] (sp_inner))(WZ:4<*t.W2 t.xg ["book"] (sp_moved))(ZG:1<*t.QZ t.Q4 ["row","moves","limbs"] (sp_check_side))(Z1:1<*t.zJ t.zQ ["form","inside"] (sp_length_of)):5<*t.ka t.kz ["book"] (sp_lengths):=by
 specialize T.Wf.F.ok qN;obtain⟨b,pl,pp,Z,a7,ls,F,gs,hs,rfl,B,S,q⟩:=h;refine⟨_,(jb (jq (i:=1) qN.nd rfl (.inr rfl) (jt T.j16 WZ hr (ja (pv 0) jc)))
  (jb (jq (i:=2) qN.nd rfl (.inr rfl) (jL jc))
  (jb (j7 PassesOwn.never rfl (KA (by rfl) T.zM (ja (jt T.Kt QV hr (ja (pv 0) jc)) jc)) (JG rfl (jA (ju' 3 qN.nd) (jA (ju' 4 qN.nd) Jg)))
   (jb (jq' 5 qN.nd (jk jr (jk jv (jk jr (pv 0) jd) (pv 3)) jd))
   (jb (JX (jp jS (jk jr (pv 5) jd) jE (nomark _))
    (jf (jO (jt T.Yp ZG hr (ja (pv 3) (ja (Jd (ow:=["part"]) (ci:=[1]) rfl (CompScope.of (defScope ZB) ["book","moves","found","row","inside","form","length"] rfl rfl (by trivial)) (Jy nofun) (jX (pv 4)) (λ_ _ _ _ _=>⟨(ju' 0 (jT ["book","moves","found","row","inside","form","length"] rfl (by trivial))),Jt,(jk (Zs (K:=K) rfl) (pv 1) (pv 0))⟩)) (ja (jk jr (pv 0) jd) jc))))))
    jx)
   (jb (jq' 6 qN.nd (jt T.kY Z1 hr (ja (pv 5) (ja (Jd (ow:=["part"]) (ci:=[2]) rfl (CompScope.of (defScope ZB) ["book","moves","found","row","inside","form","length"] rfl rfl (by trivial)) (Jy nofun) (jX (pv 4)) (λ_ _ _ _ _=>⟨(ju' 0 (jT ["book","moves","found","row","inside","form","length"] rfl (by trivial))),Jt,(jk (Zs (K:=K) rfl) (pv 1) (pv 0))⟩)) jc))))
   (jb (jP (jp y6 (pv 6) (jw yq jd jd) (nomark _))
    (jf ZA)
    jx)
   (jf (jO (Js q3 q4 q5 jK (pv 2) (ja (pv 6) jc)))))))))
  (jf (jy (pv 2)))))),?_⟩
 refine jD (S':=[some _,none,none,none,none,none,none]) rfl ?_
 try dsimp only[cxOf,Cx.nox]
 have W:=S.w;have pa:=B.pa.1;have gl:=S.gl;have aw:=W.p61;apply⟨b,pl,pp,Z,a7,_,_,rfl,B,W,λlm ab M H1 s1 ar ae av Ml aM oM=>?_⟩;have mg:=S.mv M Ml oM;have aq:=aM.1;apply⟨va _,?_⟩;walk_at"f l hl H2 s2 t2";have nl:=none_of s1 hl;have a8:=s1.trans s2;apply⟨b,pl,pp,Z,a7,_,_,rfl,B.same a8,W,λli a3 H3 s3 a2 a1 al lia=>?_⟩;left;have a9:=a8.trans s3;have ao:=s2.trans s3;have J:=lia.1;rw[vt]at J;have am:li≠l:=λz=>by rw[z,t2]at a2;cases a2
 have t3:H3 l=some (.lst []):=s3 _ _ t2;have a6:∀{c u},H c=some u->c≠l:=λh=>je h nl
 have an:∀{c u},H1 c=some u->c≠l:=λh=>je h hl
 refine⟨li,_,rfl,SqL.of a1,?_⟩;refine Yz (xs:=a3.map V.ref) (λi σ r=>IvE4 λ(o3 o4 o5 o6:N3)=>IvA2 (σ=[some (.ref b),some (.ref lm),some (.ref l),o3,o4,o5,o6]) ((∀c u,c≠l->H3 c=some u->r c=some u)/\r l=some (.lst ((gs.take i).map V.int))))
  ⟨_,_,_,_,rfl,λc u _ h=>h,t3⟩ ?_ ?_ ?_
 .rintro i σ r _ ⟨o3,o4,o5,o6,rfl,sm,e1⟩;exact SqL.of (sm _ _ am a1)
 .rintro i v σ r P C hv ⟨o3,o4,o5,o6,rfl,sm,e1⟩ sP tP;obtain⟨X,as,rfl,O,ah⟩:=lia.at_ref hv;have hi:i<F.length:=by
   have:=(vx.mp O).1;rw[vt]at this;exact this
  obtain⟨p,hp⟩:∃p,F[i]?=some p:=⟨_,vz hi⟩
  rw[vv,hp]at O;cases O;obtain⟨a,ea,fb,af,hf⟩:=B.pa.get hp;have aj:X∈a3:=by
   rw[vv]at hv;obtain⟨a',ad,e'⟩:=vg.mp hv;injection e' with e';subst e';exact vm ad
  have a5:X≠l:=λz=>by have:=al X aj;rw[z,t2]at this;cases this
  have k4:∀c u,c≠l->H3 c=some u->C c=some u:=λc u I h=>sP _ _ (sm _ _ I h)
  have y:∀c u,H c=some u->C c=some u:=λc u h=>k4 _ _ (a6 h) (a9 _ _ h)
  have a4:∀c u,H1 c=some u->C c=some u:=λc u h=>k4 _ _ (an h) (ao _ _ h)
  have o:C X=some (.lst (((inP F p.2).map λj:Nat=>(j:Int)).map V.int)):=k4 _ _ a5 ah;have ac:=sP _ _ e1;have m:FormAt C fb p.2:=FormAt.same y hf;have Y:=λj=>W.inP_lt (j:=j) hp
  have w8:(inP F p.2).length<=8:=by unfold inP;rw[vt];exact(W.f i p hp).2
  obtain⟨lp,ak⟩:=S.ln i p hp;have au:=S.gb i hi;refine qj (SqT.of tP) ?_;apply zTu (y _ _ B.t) ?_;apply ixLm (SqL.of (y _ _ B.p)) (ZH (i:=(i:Int)) ⋯ ea) ?_;apply zTu (y _ _ af) ?_;apply⟨λS' H5=>S'=[some (.ref b),some (.ref lm),some (.ref l),some (.int i),some (.ref X),some (.ref fb),o6]/\Same C H5,?_,?_⟩
  rotate_left
  .by_cases U:∃qs,p.2 = .side qs
   .obtain⟨qs,e⟩:=U;have ap:=S.sd i p qs hp e;generalize inP F p.2=is at o Y ap w8;rw[e]at m;obtain⟨nb,ag,_⟩:=m;apply zTu ag ?_;apply iteE1 ?_;apply⟨X,rfl,⟨_,SqL.of o⟩,?_⟩;have aa:∀j∈is,∃c,ab[j]?=some c/\C c=some (.lst ((hs.getD j []).map V.int)):=λj D=>by
     have jl:=Y j D;obtain⟨c,I,h1⟩:=aM.get (i:=j) (x:=M.getD j []) (by rw[vy,vz ⋯];rfl);rw[mg j ⋯]at h1;exact⟨c,I,a4 _ _ h1⟩
    refine Jm (xs:=(is.map λj:Nat=>(j:Int)).map V.int) (λt G r=>IvE1 λ(L:L7)=>IvA2 (G=L.map V.ref) (ListsAt C L ((is.take t).map λj=>hs.getD j [])/\C=r)) ⟨[],rfl,.nil,rfl⟩ ?_ ?_ ?_
    .rintro t G r _ ⟨L,rfl,lc,rfl⟩;exact SqL.of o
    .rintro t x G r hx ⟨L,rfl,lc,rfl⟩;rw[vv,vv]at hx;obtain⟨jj,R,rfl⟩:=vg.mp hx;obtain⟨j,D,rfl⟩:=vg.mp R;obtain⟨c,I,h1⟩:=aa j (vm D);have a0:=lc.1;rw[vt,vi]at a0;refine Jh (S':=[none,some _]) rfl ?_;apply iteT ?_;apply ixLm (SqL.of (a4 _ _ ae)) (ZH (i:=(j:Int)) ⋯ I) ?_;refine⟨by rw[vt];lia,L++[c],by rw[vj];rfl,?_,rfl⟩;rw[take_snoc D,vj];exact All2.snoc lc h1
    rintro G r ⟨L,rfl,lc,rfl⟩;rw[vt,vt,v7]at lc;have a0:=lc.1;rw[vt]at a0;refine⟨by rw[vt];lia,?_⟩;sleep 5;apply zTu (s5 _ _ (y _ _ B.t)) ?_;apply⟨_,p5,pl,L,Z,(is.map λj=>hs.getD j []),rfl,t5,All2.mono lc λc ks h=>s5 _ _ h,λks ai=>?_,by rw[vt];lia,s5 _ _ (y _ _ B.l),ap.2,λH6 s6=>?_⟩
    .obtain⟨j,D,rfl⟩:=vK.mp ai;exact ap.1 j D
    left;exact⟨rfl,s5.trans s6⟩
   .have kd:∃k xs,C fb=some (.tup (.str k::xs))/\decide (k=("side" : Str))=false:=by
     generalize p.2=f at m U;cases f with
     | side qs=>exact ue ⟨qs,rfl⟩ U
     | hold n=>exact⟨_,_,m,by trivial⟩
     | ring x n=>exact⟨_,_,m,by trivial⟩
     | rise x v n=>exact⟨_,_,m,by trivial⟩
     | row qs=>obtain⟨_,h1,_⟩:=m;exact⟨_,_,h1,by trivial⟩
     | again k x=>exact⟨_,_,m,by trivial⟩
    obtain⟨k,xs,hk,dk⟩:=kd;apply ixTm (SqT.of hk) (at0) ?_;apply iteB0 dk ?_;left;exact⟨rfl,Same.refl _⟩
  rintro S' H5 ⟨rfl,s5⟩;apply⟨X,rfl,⟨_,SqL.of (s5 _ _ o)⟩,?_⟩;have N:=s5 _ _ ac;refine Jm (xs:=((inP F p.2).map λj:Nat=>(j:Int)).map V.int) (λt G r=>G=(((inP F p.2).take t).map λj=>gs.getD j 0).map V.int/\H5=r) ⟨rfl,rfl⟩ ?_ ?_ ?_
  .rintro t G r _ ⟨rfl,rfl⟩;exact SqL.of (s5 _ _ o)
  .rintro t x G r hx ⟨rfl,rfl⟩;rw[vv,vv]at hx;obtain⟨jj,R,rfl⟩:=vg.mp hx;obtain⟨j,D,rfl⟩:=vg.mp R;have jl:=Y j (vm D);refine Jh (S':=[none,some _]) rfl ?_;apply iteT ?_;apply ixLm (SqL.of N) (j3h ⋯ jl) ?_;refine⟨by rw[vt,vt,vi];lia,?_,rfl⟩;rw[take_snoc D,vj,vj];rfl
  rintro G r ⟨rfl,rfl⟩;rw[show(((inP F p.2).map λj:Nat=>(j:Int)).map V.int).length=(inP F p.2).length by rw[vt,vt],v7];refine⟨by rw[vt,vt];lia,?_⟩;sleep 6;apply⟨fb,p6,p.2,_,rfl,FormAt.same (s5.trans s6) m,t6,lp,λg hg=>?_⟩;have eg:=ak g hg;subst eg;apply iteD (λd=>?_) (λd=>?_)
  .exfalso;lia
  apply⟨.inl ⟨rfl,_,SqL.of (s6 _ _ N)⟩,?_⟩;apply⟨l,_,_,rfl,rfl,s6 _ _ N,by rw[vt,vi];lia,?_⟩;refine⟨_,_,_,_,rfl,λc u I h=>(jo I).trans (s6 _ _ (s5 _ _ (k4 _ _ I h))),?_⟩;rw[jz,j53 ⋯,vj];rfl
 rintro S' r ⟨o3,o4,o5,o6,rfl,sm,e1⟩;rw[vt,J,<-gl,v7]at e1;left;exact q l r (λc u h=>sm _ _ (a6 h) (a9 _ _ h)) nl e1
def xL(T:Txt K mg t):1<*t.zK t.zR ["form","inside","sizes"] (sp_pieces_in):=by
 specialize T.kZ.F.ok JY;obtain⟨a,l,s0,f,g,C,rfl,o,el,es,i8,hj,a2,q⟩:=h;refine⟨_,(jb (jP (jp jS (jk jr (pv 0) jd) jE (nomark _))
   (jb (jq' 3 JY.nd (jk jv (pv 1) jd))
   (jb (jq' 4 JY.nd (wv (jp y6 (jk jr (pv 0) jd) jd (nomark _)) (jL (ja (jI (ja (pv 3) (ja (jw qK (jk jr (pv 0) jd) jd) (ja (jk jv (pv 2) (pv 3)) jc)))) jc)) (jL jc)))
   (jf (jy (jw kJ (jL (ja (jI (ja (pv 3) (ja jd (ja jd jc)))) jc)) (pv 4))))))
   jx)
  (jb (jq' 5 JY.nd (jL jc))
  (jb (jq' 6 JY.nd jd)
  (jb (j7 PassesOwn.never rfl (jX (pv 1)) (ju' 3 JY.nd)
   (jb (jO (Js q3 q4 q5 jK (pv 5) (ja (jI (ja (pv 3) (ja jd (ja (pv 6) jc)))) jc)))
   (jf (jP (jp jS (jk jr (pv 0) jd) jE (nomark _))
    (jf (j6D (i:=6) JY.nd rfl (.inl rfl) (jk jv (pv 2) (pv 3)) j6g))
    jx))))
  (jf (jy (pv 5))))))),?_⟩
 refine jD (S':=[some _,some _,some _,none,none,none,none]) rfl ?_
 try dsimp only[cxOf,Cx.nox]
 have S:∀j,j<C.length->C[j]?=some (C.getD j 0):=λj h=>by
  rw[vy,vz h];rfl
 by_cases ha:∃k x,f = .again k x
 .obtain⟨k,x,rfl⟩:=ha;have o:H a=some (.tup [.str "again",.int k,.str x]):=o;obtain⟨j,r,rfl⟩:=List.exists_cons_of_ne_nil (a2 k x rfl);have lj:=hj j vq;apply zTu o ?_;apply iteE1 ?_;apply ixLm (SqL.of el) (at0) ?_;apply zTu o ?_;apply iteD (λc=>?_) (λc=>?_)
  .apply zTu o ?_;apply ixLm (SqL.of es) (jN (j:=j) (by rw[vv,S j lj];rfl)) ?_;apply⟨ub,?_⟩;sleep 1;apply⟨ud,?_⟩;sleep 2;apply⟨ub,?_⟩;sleep 3;apply⟨ud,?_⟩;sleep 4;apply⟨p4,p2,_,_,rfl,rfl,t4,s4 _ _ (s3 _ _ t2),uc,?_⟩;sleep 5;have O:=s1.trans (s2.trans (s3.trans (s4.trans s5)));refine q p5 [p3,p1] _ O (none_of (s1.trans (s2.trans (s3.trans s4))) hp5) t5 ?_;show PcsAt H5 _ ((j,1,0)::(if 1<k then[(j,k-1,C.getD j 0)]else[]));rw[vd c];exact .cons (s5 _ _ (s4 _ _ t3)) (.cons (s5 _ _ (s4 _ _ (s3 _ _ (s2 _ _ t1)))) .nil)
  .apply⟨va _,?_⟩;sleep 2;apply⟨ub,?_⟩;sleep 3;apply⟨ud,?_⟩;sleep 4;apply⟨p4,p2,_,_,rfl,rfl,t4,s4 _ _ (s3 _ _ t2),ud,?_⟩;sleep 5;have O:=s2.trans (s3.trans (s4.trans s5));refine q p5 [p3] _ O (none_of (s2.trans (s3.trans s4)) hp5) t5 ?_;show PcsAt H5 _ ((j,1,0)::(if 1<k then[(j,k-1,C.getD j 0)]else[]));rw[vc c];exact .cons (s5 _ _ (s4 _ _ t3)) .nil
 have a3:∃W xs,H a=some (.tup (.str W::xs))/\decide (W=("again" : Str))=false/\((decide (W=("row" : Str))=true/\∃xs,f = .row xs)\/(decide (W=("row" : Str))=false/\∀g,pcsI C f g=g.map λj=>(j,1,0))):=by
  cases f with
  | hold n=>exact⟨_,_,o,by trivial,.inr ⟨by trivial,λ_=>rfl⟩⟩
  | ring x n=>exact⟨_,_,o,by trivial,.inr ⟨by trivial,λ_=>rfl⟩⟩
  | rise x v n=>exact⟨_,_,o,by trivial,.inr ⟨by trivial,λ_=>rfl⟩⟩
  | row ps=>obtain⟨b,F,_⟩:=o;exact⟨_,_,F,by trivial,.inl ⟨by trivial,_,rfl⟩⟩
  | side ps=>obtain⟨b,F,_⟩:=o;exact⟨_,_,F,by trivial,.inr ⟨by trivial,λ_=>rfl⟩⟩
  | again k x=>exact ue ⟨k,x,rfl⟩ ha
 obtain⟨W,xs,Z,dk,y⟩:=a3;apply ixTm (SqT.of Z) (at0) ?_;apply iteB0 dk ?_;apply⟨va _,?_⟩;walk_at"f p hp H1 s1 t1";left;have np:∀{c u},H c=some u->c≠p:=λh=>je h hp
 refine⟨l,rfl,⟨_,SqL.of (s1 _ _ el)⟩,?_⟩;refine Jx (xs:=(g.map λj:Nat=>(j:Int)).map V.int) (λi σ I=>IvE4 λ(o3:N3) (D:Int) (d:L7) (B:List Pc)=>IvA6 (σ=[some (.ref a),some (.ref l),some (.ref s0),o3,none,some (.ref p),some (.int D)]) (Same H I) (I p=some (.lst (d.map V.ref))) (d.length=i) (PcsAt I d B) (((∃xs,f = .row xs)->rowPc C g 0=B++rowPc C (g.drop i) D)/\(¬(∃xs,f = .row xs)->D=0/\B=(g.take i).map λj=>(j,1,0))))
  ⟨_,0,[],[],rfl,s1,t1,rfl,.nil,λ_=>rfl,λ_=>⟨rfl,rfl⟩⟩ ?_ ?_ ?_
 .rintro i σ I _ ⟨o3,D,d,B,rfl,X,J,la,hq,F,U⟩;exact SqL.of (X _ _ el)
 .rintro i v σ I hv ⟨o3,D,d,B,rfl,X,J,la,hq,F,U⟩;rw[vv,vv]at hv;obtain⟨jj,a1,rfl⟩:=vg.mp hv;obtain⟨j,G,rfl⟩:=vg.mp a1;have il:=(vx.mp G).1;have ed:g.drop i=j::g.drop (i+1):=by
   obtain⟨h,rfl⟩:=vx.mp G;exact drop_eq_getElem_cons h
  have lj:=hj j (vm G);apply⟨.inl ⟨rfl,_,SqL.of J⟩,?_⟩;apply⟨ub,?_⟩;sleep 2;apply⟨p,_,_,rfl,rfl,s2 _ _ J,by rw[vt];lia,?_⟩;have n2:p2≠p:=λz=>by rw[z,s2 _ _ J]at t2;cases t2
  have s3:Same H (upd H2 p (.lst (d.map V.ref++[.ref p2]))):=λc u h=>(jo (np h)).trans (s2 _ _ (X _ _ h))
  have e3:upd H2 p (.lst (d.map V.ref++[.ref p2])) p=some (.lst ((d++[p2]).map V.ref)):=by rw[jz,vj];rfl
  have M:PcsAt (upd H2 p (.lst (d.map V.ref++[.ref p2]))) (d++[p2]) (B++[(j,1,D)]):=by
   refine All2.snoc (All2.mono hq λc x h=>?_) ((jo n2).trans t2);exact(jo (λz=>by rw[z,J]at h;cases h)).trans (s2 _ _ h)
  generalize upd H2 p (.lst (d.map V.ref++[.ref p2]))=H3 at s3 e3 M|-;apply ixTm (SqT.of (s3 _ _ Z)) (at0) ?_;left;rcases y with⟨Y,m,R⟩ | ⟨Y,L⟩
  .refine iteB1 Y ?_;apply ixLm (SqL.of (s3 _ _ es)) (jN (j:=j) (by rw[vv,S j lj];rfl)) ?_;apply⟨_,_,d++[p2],B++[(j,1,D)],rfl,s3,e3,by rw[vn,la];rfl,M,λh=>?_,λh=>ue ⟨m,R⟩ h⟩;rw[F h,ed,List.append_assoc];rfl
  .refine iteB0 Y ?_;apply⟨_,_,d++[p2],B++[(j,1,D)],rfl,s3,e3,by rw[vn,la];rfl,M,λh=>?_,λh=>?_⟩
   .obtain⟨m,R⟩:=h;subst R;have:=L [0,0];obtain⟨bb,a0,_⟩:=o;rw[a0]at Z;cases Z;exact ue Y (by trivial)
   .obtain⟨b0,eq⟩:=U h;refine⟨b0,?_⟩;rw[take_snoc G,vj,eq,b0];rfl
 rintro S' I ⟨o3,D,d,B,rfl,X,J,la,hq,F,U⟩;rw[show((g.map λj:Nat=>(j:Int)).map V.int).length=g.length by rw[vt,vt]]at F U;apply q p d I X hp J ?_;have e:pcsI C f g=B:=by
  by_cases N:∃xs,f = .row xs
  .obtain⟨m,rfl⟩:=N;show rowPc C g 0=B;rw[F ⟨m,rfl⟩,List.drop_length];exact append_nil _
  .rcases y with⟨_,m,R⟩ | ⟨_,L⟩
   .exact ue ⟨m,R⟩ N
   .rw[L,(U N).2,v7]
 rw[e];exact hq
def xM(T:Txt K mg t)(QV:2<*t.Yq t.Yu ["book"] (sp_inner))(Z2:1<*t.zK t.zR ["form","inside","sizes"] (sp_pieces_in)):3<*t.Z8 t.yf ["book","sizes"] (sp_pieces_of):=by
 specialize T.Ka.F.ok Xb;obtain⟨b,pl,pp,s0,Z,C,ls,D,gs,rfl,B,W,es,gl,q⟩:=h;refine⟨_,(jf (jy (Jd (ow:=["part","inside"]) (ci:=[1]) rfl (CompScope.of (defScope zX) ["book","sizes"] rfl rfl (by trivial)) (yN nofun nofun) (j0P (by rfl) T.j34 (ja (jk jr (pv 0) jd) (ja (jt T.Kt QV hr (ja (pv 0) jc)) jc))) (λ_ _ _ _ _=>⟨(JG rfl (jA (ju' 0 (jT ["book","sizes"] rfl (by trivial))) (jA (ju' 1 (jT ["book","sizes"] rfl (by trivial))) Jg))),Jt,(jt T.kZ Z2 hr (ja (jk (j1s (K:=K) rfl) (pv 0) jd) (ja (pv 1) (ja (pv 2) jc))))⟩)))),?_⟩;refine jD (S':=[some _,some _]) rfl ?_
 try dsimp only[cxOf,Cx.nox]
 have a3:=W.p61;have pa:=B.pa.1;apply zTu B.t ?_;apply⟨b,pl,pp,Z,C,ls,D,rfl,B,W,λli Y H3 F a0 n a2 lia=>?_⟩;left;have y:=lia.1;rw[vt]at y;refine⟨pp,li,_,_,rfl,SqL.of (F _ _ B.p),SqL.of n,?_⟩;refine Xo (xs:=C.map V.ref) (zs:=Y.map V.ref) (λi J m=>IvE1 λ(d:L7)=>IvA4 (J=d.map V.ref) (d.length=i) (Same H3 m) ((∀a∈d,H a=none)/\PssAt m d ((D.take i).map λp=>pcsI gs p.2 (inP D p.2)))) (by rw[vt,vt];lia) ⟨[],rfl,rfl,Same.refl _,(λa h=>nomatch h),.nil⟩ ?_ ?_ ?_
 .rintro i J m _ ⟨d,rfl,G,g,I,l⟩;exact⟨SqL.of (g _ _ (F _ _ B.p)),SqL.of (g _ _ n)⟩
 .rintro i u v J m T0 H4 hu hv ⟨d,rfl,G,g,I,l⟩ sP tP;have hi:=(vx.mp hu).1;rw[vt]at hi;obtain⟨a,p,rfl,r,fb,R,hf⟩:=B.pa.at_ref hu;obtain⟨ia,is,rfl,o,S⟩:=lia.at_ref hv;rw[vv,r]at o;cases o;have a1:=(vx.mp r).1;have s4:=g.trans sP;have f:=F.trans s4;have i8:(inP D p.2).length<=8:=by unfold inP;rw[vt];exact(W.f i p r).2
  refine Jh (S':=[none,none,some _]) rfl ?_;refine qj (SqT.of tP) ?_;apply iteT ?_;apply zTu (f _ _ R) ?_;apply⟨fb,ia,s0,p.2,inP D p.2,gs,rfl,FormAt.same f hf,s4 _ _ S,f _ _ es,i8,λj hj=>by have:=W.inP_lt r hj;lia,λk x e=>by rw[e];exact List.cons_ne_nil _ _,λp5 L H5 s5 U e5 X=>?_⟩;refine⟨by rw[vt];lia,d++[p5],by rw[vj];rfl,by rw[vn,G];rfl,s4.trans s5,λc hc=>(vh.mp hc).elim (I c) λz=>by rw[vo.mp z];exact none_of f U,?_⟩;rw[take_snoc r,vj];refine All2.snoc (All2.mono l λc x h=>?_) ⟨L,e5,X⟩;obtain⟨M,N,O⟩:=h;exact⟨M,s5 _ _ (sP _ _ N),All2.mono O λc x h=>s5 _ _ (sP _ _ h)⟩
 rintro J m ⟨d,rfl,G,g,I,l⟩;rw[vt]at G l;refine⟨by rw[vt];lia,?_⟩;sleep 4;refine q _ d _ (F.trans (g.trans s4)) (none_of (F.trans g) hp4) t4 ?_ I;rw[pa,v7]at l;refine All2.mono l λc x h=>?_
 obtain⟨M,N,O⟩:=h;exact⟨M,s4 _ _ N,All2.mono O λc x h=>s4 _ _ h⟩
def YJ(T:Txt K mg t)(j1:1<*t.JT t.JV ["named"] (sp_numbers_of))(Y3:3<*t.W1 t.xf ["book"] (sp_ends))(Y4:5<*t.ka t.kz ["book"] (sp_lengths))(Z3:3<*t.Z8 t.yf ["book","sizes"] (sp_pieces_of)):6<*t.JL t.qv ["self","book"] (sp_initS t.jJ):=by
 specialize T.YZ.ok YT;obtain⟨a,m,b,pl,pp,g,C,R,ps,gs,hs,rfl,ha,B,N,q⟩:=h;refine⟨_,(jb (Zh (pv 0) (jt T.qS j1 hr (ja (jk jr (pv 1) jd) jc)) rfl)
  (jb (Zh (pv 0) (Jd (ow:=["name","height"]) (ci:=[]) rfl (CompScope.of (defScope JM) ["self","book"] rfl rfl (by trivial)) (yN nofun nofun) (jX (jk jr (pv 1) jd)) (λ_ _ _ _ _=>⟨(JG rfl (jA (ju' 0 (jT ["self","book"] rfl (by trivial))) (jA (ju' 1 (jT ["self","book"] rfl (by trivial))) Jg))),Jt,(pv 1)⟩)) rfl)
  (jb (Zh (pv 0) (Jd (ow:=["name","form"]) (ci:=[]) rfl (CompScope.of (defScope JM) ["self","book"] rfl rfl (by trivial)) (yN nofun nofun) (jX (jk jr (pv 1) jd)) (λ_ _ _ _ _=>⟨(JG rfl (jA (ju' 0 (jT ["self","book"] rfl (by trivial))) (jA (ju' 1 (jT ["self","book"] rfl (by trivial))) Jg))),Jt,(pv 1)⟩)) rfl)
  (jb (Zh (pv 0) (jt T.Wf Y4 hr (ja (pv 1) jc)) rfl)
  (jb (Zh (pv 0) (jt T.j05 Y3 hr (ja (pv 1) jc)) rfl)
  (jf (Zh (pv 0) (jt T.Ka Z3 hr (ja (pv 1) (ja (Jp (pv 0) rfl) jc))) rfl))))))),?_⟩
 refine jD (S':=[some _,some _]) rfl ?_
 try dsimp only[cxOf,Cx.nox]
 have W:=N.s.w;have gl:=N.s.gl;have l8:=W.l8;have ae:=W.p61;have la:=B.la.1;have ac:=B.pa.1;obtain⟨S,I,n0,X⟩:=B.less ha;have z0:Same S H:=I H λc u _ h=>h
 apply zTu B.t ?_;apply⟨pl,g,nmsOf R,rfl,B.l,by rw[nmsOf,vt];exact la,λi a x ea ex=>?_,W.ln,by rw[nmsOf,vt];lia,λd H1 s1 hd ed=>?_⟩
 .unfold nmsOf at ex;rw[vv]at ex;obtain⟨p,ep,rfl⟩:=vg.mp ex;exact⟨_,B.la.2 i a p ea ep⟩
 apply⟨a,_,m,[],rfl,s1 _ _ ha,T.jV,T.QC,(by show 0<1000;decide),?_⟩;have nd:d≠a:=λz=>by rw[z,ha]at hd;cases hd
 generalize e2:upd H1 a _=H2;have k2:∀c u,c≠a->H1 c=some u->H2 c=some u:=λc u n h=>e2▸(jo n).trans h
 have a2:=qD e2;clear e2;have z2:Same S H2:=I H2 λc u n h=>k2 _ _ n (s1 _ _ h)
 have B2:=X.same z2;apply zTu B2.t ?_;apply⟨pl,rfl,⟨_,SqL.of B2.l⟩,?_⟩;refine Jm (xs:=g.map V.ref) (λi F o=>F=((R.map (·.2)).take i).map V.int/\H2=o) ⟨rfl,rfl⟩ ?_ ?_ ?_
 .rintro i F o _ ⟨rfl,rfl⟩;exact SqL.of B2.l
 .rintro i v F o hv ⟨rfl,rfl⟩;obtain⟨a,p,rfl,hp,M⟩:=B2.la.at_ref hv;have hi:=(vx.mp hp).1;refine Jh (S':=[none,none]) rfl ?_;refine qj (SqT.of M) ?_;apply iteT ?_;apply⟨by rw[vt,vi,vt];lia,?_,rfl⟩;rw[take_snoc (show(R.map (·.2))[i]?=some p.2 by rw[vv,hp];rfl),vj];rfl
 rintro F o ⟨rfl,rfl⟩;rw[show(g.map V.ref).length=(R.map (·.2)).length by rw[vt,vt];exact la,v7];refine⟨by rw[vt,vt];lia,?_⟩;sleep 3;apply⟨a,_,m,_,rfl,s3 _ _ a2,T.jV,T.QB,few (Jj _ _ _) nofun,?_⟩;have n3:p3≠a:=λz=>by rw[z,a2]at hp3;cases hp3
 generalize e4:upd H3 a _=H4;have k4:∀c u,c≠a->H3 c=some u->H4 c=some u:=λc u n h=>e4▸(jo n).trans h
 have a4:=qD e4;clear e4;have z4:Same S H4:=λc u h=>k4 _ _ (n0 h) (s3 _ _ (z2 _ _ h))
 have B4:=X.same z4;apply zTu B4.t ?_;apply⟨pp,rfl,⟨_,SqL.of B4.p⟩,?_⟩;refine Jm (xs:=C.map V.ref) (λi F o=>IvE1 λ(f:L7)=>IvA2 (F=f.map V.ref) (All2 (λa p=>FormAt H4 a p.2) f (ps.take i)/\H4=o)) ⟨[],rfl,.nil,rfl⟩ ?_ ?_ ?_
 .rintro i F o _ ⟨f,rfl,J,rfl⟩;exact SqL.of B4.p
 .rintro i v F o hv ⟨f,rfl,J,rfl⟩;obtain⟨a',p,rfl,hp,fb,M,hf⟩:=B4.pa.at_ref hv;have hi:=(vx.mp hp).1;have a5:=J.1;rw[vi]at a5;refine Jh (S':=[none,none]) rfl ?_;refine qj (SqT.of M) ?_;apply iteT ?_;apply⟨by rw[vt];lia,f++[fb],by rw[vj];rfl,?_,rfl⟩;rw[take_snoc hp];exact All2.snoc J hf
 rintro F o ⟨f,rfl,J,rfl⟩;rw[vt,ac,v7]at J;have fl:=J.1;refine⟨by rw[vt];lia,?_⟩;sleep 5;apply⟨a,_,m,_,rfl,s5 _ _ a4,T.jV,T.J2,vD (Jj _ _ _) (vD (Nat.succ_le_succ (Jj _ _ _)) nofun),?_⟩;have n5:p5≠a:=λz=>by rw[z,a4]at hp5;cases hp5
 generalize e6:upd H5 a _=H6;have k6:∀c u,c≠a->H5 c=some u->H6 c=some u:=λc u n h=>e6▸(jo n).trans h
 have a6:=qD e6;clear e6;have z6:Same S H6:=λc u h=>k6 _ _ (n0 h) (s5 _ _ (z4 _ _ h))
 apply⟨b,pl,pp,g,C,R,ps,gs,hs,rfl,X.same z6,N.s,λl7 H7 s7 a1 e7=>?_⟩;apply⟨a,_,m,_,rfl,s7 _ _ a6,T.jV,T.j4,few3,?_⟩;have n7:l7≠a:=λz=>by rw[z,a6]at a1;cases a1
 generalize e8:upd H7 a _=H8;have k8:∀c u,c≠a->H7 c=some u->H8 c=some u:=λc u n h=>e8▸(jo n).trans h
 have a8:=qD e8;clear e8;have z8:Same S H8:=λc u h=>k8 _ _ (n0 h) (s7 _ _ (z6 _ _ h))
 apply⟨b,pl,pp,g,C,R,ps,rfl,X.same z8,W,λl9 as E Y U a3 e9 na lE aE oE=>?_⟩;apply⟨a,_,m,_,rfl,U _ _ a8,T.jV,T.Q5,few4,?_⟩;have n9:l9≠a:=λz=>by rw[z,a8]at a3;cases a3
 generalize L:upd Y a _=H10;have O:∀c u,c≠a->Y c=some u->H10 c=some u:=λc u n h=>L▸(jo n).trans h
 have k:=qD L;clear L;have ad:Same S H10:=λc u h=>O _ _ (n0 h) (U _ _ (z8 _ _ h))
 have w7:∀c u,c≠a->H7 c=some u->H10 c=some u:=λc u n h=>O _ _ n (U _ _ (k8 _ _ n h))
 apply⟨a,_,m,_,_,rfl,k,T.jV,T.j4,(Jc (by trivial)).trans zq,?_⟩;apply⟨b,pl,pp,l7,g,C,R,ps,gs,rfl,X.same ad,W,w7 _ _ n7 e7,gl,λy l j D G a7 a0 _=>?_⟩;apply⟨a,_,m,_,rfl,D _ _ k,T.jV,T.qi,few5,?_⟩;have a9:y≠a:=λz=>by rw[z,k]at G;cases G
 have r:∀c u,c≠a->j c=some u->upd j a (.ins t.jJ m (fldS ⟨d,p3,p5,l7,l9,y,f,as,l⟩)) c=some u:=λc u n h=>(jo n).trans h
 have u9:∀c u,c≠a->Y c=some u->upd j a (.ins t.jJ m (fldS ⟨d,p3,p5,l7,l9,y,f,as,l⟩)) c=some u:=λc u n h=>r _ _ n (D _ _ (O _ _ n h))
 have u7:∀c u,c≠a->H7 c=some u->_=some u:=λc u n h=>u9 _ _ n (U _ _ (k8 _ _ n h))
 have u5:∀c u,c≠a->H5 c=some u->_=some u:=λc u n h=>u7 _ _ n (s7 _ _ (k6 _ _ n h))
 have u3:∀c u,c≠a->H3 c=some u->_=some u:=λc u n h=>u5 _ _ n (s5 _ _ (k4 _ _ n h))
 have u1:∀c u,c≠a->H1 c=some u->_=some u:=λc u n h=>u3 _ _ n (s3 _ _ (k2 _ _ n h))
 have nq:∀{c:Addr} {xs:N2},j c=some (.lst xs)->c≠a:=λh z=>by rw[z,D _ _ k]at h;cases h
 have ab:∀{c:Addr} {xs:N2},j c=some (.tup xs)->c≠a:=λh z=>by rw[z,D _ _ k]at h;cases h
 have nt:∀{c:Addr} {xs:N2},Y c=some (.tup xs)->c≠a:=λh z=>by rw[z,U _ _ a8]at h;cases h
 have nl:∀{c:Addr} {xs:N2},Y c=some (.lst xs)->c≠a:=λh z=>by rw[z,U _ _ a8]at h;cases h
 have aa:∀{c:Addr} {xs:N2},H4 c=some (.tup xs)->c≠a:=λh z=>by rw[z,a4]at h;cases h
 exact q ⟨d,p3,p5,l7,l9,y,f,as,l⟩ E _ (λc u n h=>u1 _ _ n (s1 _ _ h)) ⟨⟨m,jz⟩,u1 _ _ nd ed,u3 _ _ n3 t3,u5 _ _ n5 t5,All2.mono J λc p h=>FormAt.put (λb xs hb=>u5 _ _ (aa hb) (s5 _ _ hb)) h,u7 _ _ n7 e7,u9 _ _ n9 e9,lE,
  All2.mono aE λc e ⟨bs,Z,h2⟩=>⟨bs,u9 _ _ (nl Z) Z,All2.mono h2 λb q h=>u9 _ _ (nt h) h⟩,oE,r _ _ a9 a7,All2.mono a0 λc e ⟨bs,Z,h2⟩=>⟨bs,r _ _ (nq Z) Z,All2.mono h2 λb q h=>r _ _ (ab h) h⟩⟩
def yV(T:Txt K mg t)(Y1:2<*t.Y8 t.ku ["box"] (sp_bookof))(Qj:6<*t.JL t.qv ["self","book"] (sp_initS t.jJ)):8<*t.Jo t.JU ["self","box"] (sp_initM t.jG t.jJ):=by
 specialize T.Yd.ok yW;obtain⟨m,a,bx,l,f,g,x,G,Y,O,hs,rfl,R,et,el,la,ef,dr,Bx,N,q⟩:=h;refine⟨_,(jb (Zh (pv 0) (xS T.j4O (Qj.mono nofun) hr (by rfl) T.j3A T.YX .nil pass0 (ja (jt T.Wd Y1 hr (ja (pv 1) jc)) jc)) rfl)
  (jb (Zh (pv 0) (jk jv (Jp (Jp (pv 0) rfl) rfl) (yr zF jd)) rfl)
  (jf (Zh (pv 0) jd rfl)))),?_⟩
 refine jD (S':=[some _,some _]) rfl ?_
 try dsimp only[cxOf,Cx.nox]
 have nm:∀{c:Addr} {xs:N2},H c=some (.lst xs)->c≠m:=λh z=>by rw[z,R]at h;cases h
 apply⟨bx,l,f,g,x,G,Y,rfl,et,el,la,ef,dr,Bx,λb pl pp I L p B1 _ _ _=>?_⟩;left;intro o y k D ne;have J:Same L (upd (upd L y (.own o)) o (.ins t.jJ y [])):=λc u h=>(jo (je h k)).trans ((jo (je h D)).trans h)
 have d:=p _ _ R;refine⟨o,y,b,pl,pp,g,I,G,_,O,hs,rfl,jz,B1.same J,N,λz E j S Z=>⟨rfl,?_⟩⟩;have i:m≠o:=je d k;have e:j m=some (.ins t.jG a []):=S _ _ i (J _ _ d);have F:∀c u,H c=some u->j c=some u:=λc u h=>S _ _ (je (p _ _ h) k) (J _ _ (p _ _ h))
 apply⟨m,_,a,[],rfl,e,T.jU,T.Ju,(by show 0<1000;decide),?_⟩;generalize B:upd j m _=H4;have v:=qD B;have U:∀c u,c≠m->j c=some u->H4 c=some u:=λc u n h=>B▸(jo n).trans h
 clear B;have r:=Z.but e i U;obtain⟨dz,oz⟩:=r.ob;apply⟨m,_,a,_,_,rfl,v,T.jU,T.Ju,zq,?_⟩;apply⟨o,_,dz,_,_,rfl,oz,T.jV,T.j4,za,?_⟩;apply ixLm (SqL.of r.hs) (Ku N.ne N.s.gl) ?_;apply⟨m,_,a,_,rfl,v,T.jU,T.qh,(by show 1<1000;decide),?_⟩;generalize C:upd H4 m _=H5;have M:=qD C;have W:∀c u,c≠m->H4 c=some u->H5 c=some u:=λc u n h=>C▸(jo n).trans h
 clear C;apply⟨m,_,a,_,rfl,M,T.jU,T.Jl,(by show 2<1000;decide),?_⟩;have X:∀c u,c≠m->H5 c=some u->upd H5 m (.ins t.jG a (fldM o (O.getD ((bkP G Y).length-1) 0) 0)) c=some u:=λc u n h=>(jo n).trans h
 refine q o z E _ (λc u n h=>X _ _ n (W _ _ n (U _ _ n (F _ _ h)))) (none_of p k) ⟨⟨a,jz⟩,(r.but v i W).but M i X,i⟩
def XS(T:Txt K mg t):1<*t.zl t.zo ["pieces","sizes","gone"] (sp_progress):=by
 specialize T.Yb.F.ok qo;obtain⟨l,s0,b,bs,O,a,rfl,S,W,U,q8,ok,t1,t2,q⟩:=h;refine⟨_,(jb (jq' 3 qo.nd (jL jc))
  (jb (j7 PassesOwn.never rfl (jX (pv 0)) (JG rfl (jA (ju' 4 qo.nd) (jA (ju' 5 qo.nd) (jA (ju' 6 qo.nd) Jg))))
   (jf (jP (jp WP (pv 6) (pv 2) (nomark _))
    (jb (jq' 7 qo.nd (jC (ko rfl) (by rfl) T.j33 j0e (ja (jw Je (jw qK (pv 2) (pv 6)) (jk jv (pv 1) (pv 4))) (ja (pv 5) jc))))
    (jb (jq' 8 qo.nd (wv (jp ZX (pv 7) (pv 5) (nomark _)) (jw qK (jw qK (pv 2) (pv 6)) (jw Q6 (pv 7) (jk jv (pv 1) (pv 4)))) wx))
    (jf (jO (Js q3 q4 q5 jK (pv 3) (ja (jI (ja (pv 4) (ja (pv 6) (ja (pv 7) (ja (pv 8) jc))))) jc))))))
    jx)))
  (jf (jy (pv 3))))),?_⟩
 refine jD (S':=[some _,some _,some _,none,none,none,none,none,none]) rfl ?_
 try dsimp only[cxOf,Cx.nox]
 have B:∀j,j<a.length->a[j]?=some (a.getD j 0):=λj h=>by
  rw[vy,vz h];rfl
 have bl:=W.1;apply⟨va _,?_⟩;walk_at"f p hp H1 s1 e1";have Y:∀{c u},H c=some u->c≠p:=λh=>je h hp
 apply⟨l,rfl,⟨_,SqL.of (s1 _ _ S)⟩,?_⟩;refine Jx (xs:=bs.map V.ref) (λi R m=>IvE6 λ(F G I J L:N3) (d:L7)=>IvA4 (R=[some (.ref l),some (.ref s0),some (.int b),some (.ref p),F,G,I,J,L]) (Same H m) (m p=some (.lst (d.map V.ref))) (d.length<=i/\PrgAt m d (prg a b (O.take i))))
  ⟨_,_,_,_,_,[],rfl,s1,e1,vb _,.nil⟩ ?_ ?_ ?_
 .rintro i R m _ ⟨F,G,I,J,L,d,rfl,k,e,X,n⟩;exact SqL.of (k _ _ S)
 .rintro i v R m hv ⟨F,G,I,J,L,d,rfl,k,e,X,n⟩;obtain⟨c,x,rfl,N,hc⟩:=W.at_ref hv;have hi:=(vx.mp N).1;have C:=ok x (vm N);have D:=C;obtain⟨Z,g1,g2,n1,n2,b1,b2⟩:=D;have g:prg a b (O.take (i+1))=prg a b (O.take i)++(prg1 a b x).toList:=by
   rw[take_snoc N];unfold prg;rw[List.filterMap_append];congr 1
  refine j6G (SqT.of (k _ _ hc)) ?_;apply iteD (λr=>?_) (λr=>?_)
  .have a1:=j3Y C r;apply ixLm (SqL.of (k _ _ U)) (jN (j:=x.1) (by rw[vv,B _ Z];rfl)) ?_;left;have eo:(if x.2.1<(b-x.2.2)/a.getD x.1 0 then x.2.1 else(b-x.2.2)/a.getD x.1 0)=ov a b x:=rfl;have a0:(if(b-x.2.2)/a.getD x.1 0>x.2.1 then x.2.1 else(b-x.2.2)/a.getD x.1 0)=ov a b x:=rfl;refine⟨_,_,rfl,?_⟩;rw[eo];apply iteD (λM=>?_) (λM=>?_)
   .apply ixLm (SqL.of (k _ _ U)) (jN (j:=x.1) (by rw[vv,B _ Z];rfl)) ?_;apply⟨.inl ⟨rfl,_,SqL.of e⟩,?_⟩;apply⟨ua,?_⟩;walk_at"f 2 e";apply⟨p,_,_,rfl,rfl,s2 _ _ e,by rw[vt];lia,?_⟩;have o:p2≠p:=λz=>by rw[z,s2 _ _ e]at e2;cases e2
    refine⟨_,_,_,_,_,d++[p2],rfl,λc u h=>(jo (Y h)).trans (s2 _ _ (k _ _ h)),by rw[jz,vj];rfl,by rw[vn];show d.length+1<=_;lia,?_⟩;have f:prg1 a b x=some (x.1,x.2.2,ov a b x,some (b-x.2.2-ov a b x*a.getD x.1 0)):=by
     unfold prg1;rw[vd r,vd M]
    rw[g,f];refine All2.snoc (All2.mono n λc y h=>?_) ((jo o).trans e2);exact(jo (λz=>by rw[z,e]at h;cases h)).trans (s2 _ _ h)
   .apply⟨.inl ⟨rfl,_,SqL.of e⟩,?_⟩;apply⟨ua,?_⟩;walk_at"f 2 e";apply⟨p,_,_,rfl,rfl,s2 _ _ e,by rw[vt];lia,?_⟩;have o:p2≠p:=λz=>by rw[z,s2 _ _ e]at e2;cases e2
    refine⟨_,_,_,_,_,d++[p2],rfl,λc u h=>(jo (Y h)).trans (s2 _ _ (k _ _ h)),by rw[jz,vj];rfl,by rw[vn];show d.length+1<=_;lia,?_⟩;have f:prg1 a b x=some (x.1,x.2.2,ov a b x,none):=by
     unfold prg1;rw[vd r,vc M]
    rw[g,f];refine All2.snoc (All2.mono n λc y h=>?_) ((jo o).trans e2);exact(jo (λz=>by rw[z,e]at h;cases h)).trans (s2 _ _ h)
  .apply⟨_,_,_,_,_,d,rfl,k,e,⋯,?_⟩;have f:prg1 a b x=none:=by
    unfold prg1;rw[vc r]
   rw[g,f];show PrgAt m d (_++[]);rw[append_nil];exact n
 rintro S' m ⟨F,G,I,J,L,d,rfl,k,e,X,n⟩;rw[vt,bl,v7]at n;left;exact q p d m k hp e n
def j2v(T:Txt K mg t)(Qo:1<*t.zl t.zo ["pieces","sizes","gone"] (sp_progress)):2<*t.KN t.KZ ["pieces","sizes","gone"] (sp_within):=by
 specialize T.Xi.F.ok zd;obtain⟨l,S,n,bs,C,gs,rfl,el,hq,Y,q8,ok,t1,t2,q⟩:=h;refine⟨_,(jb (jq' 3 zd.nd (jL jc))
  (jb (j7 PassesOwn.never rfl (jX (jt T.Yb Qo hr (ja (pv 0) (ja (pv 1) (ja (pv 2) jc))))) (JG rfl (jA (ju' 4 zd.nd) (jA (ju' 5 zd.nd) (jA (ju' 6 zd.nd) (jA (ju' 7 zd.nd) Jg)))))
   (jb (JX (jp y6 (pv 6) jd (nomark _))
    (jf (jO (Js q3 q4 q5 jK (pv 3) (ja (jI (ja (pv 4) (ja (jk jv (pv 1) (pv 4)) jc))) jc))))
    jx)
   (jf (jP (jp j5l (pv 7) wx (nomark _))
    (jf (jO (Js q3 q4 q5 jK (pv 3) (ja (jI (ja (pv 4) (ja (pv 7) jc))) jc))))
    jx))))
  (jf (jy (pv 3))))),?_⟩
 refine jD (S':=[some _,some _,some _,none,none,none,none,none]) rfl ?_
 try dsimp only[cxOf,Cx.nox]
 have a0:∀j,j<gs.length->gs[j]?=some (gs.getD j 0):=λj h=>by
  rw[vy,vz h];rfl
 apply⟨va _,?_⟩;walk_at"f p hp H1 s1 e1";have np:∀{c u},H c=some u->c≠p:=λh=>je h hp
 apply⟨l,S,n,bs,C,gs,rfl,s1 _ _ el,All2.mono hq λc x h=>s1 _ _ h,s1 _ _ Y,q8,ok,t1,t2,λl2 W H2 s2 J e2 G=>?_⟩;have a4:=j1x (gs:=gs) (t:=n) C;have U:=G.1;have a1:l2≠p:=λz=>by rw[z,e1]at J;cases J
 have D:=s2 _ _ e1;apply⟨l2,rfl,⟨_,SqL.of e2⟩,?_⟩;refine Jx (xs:=W.map V.ref) (λi σ f=>IvE5 λ(M N O R:N3) (e:L7)=>IvA4 (σ=[some (.ref l),some (.ref S),some (.int n),some (.ref p),M,N,O,R]) (∀c u,c≠p->H2 c=some u->f c=some u) (f p=some (.lst (e.map V.ref))) (e.length<=2*i/\GonAt f e (((prg gs n C).take i).flatMap (wth1 gs))))
  ⟨_,_,_,_,[],rfl,λc u _ h=>h,D,vb _,.nil⟩ ?_ ?_ ?_
 .rintro i σ f _ ⟨M,N,O,R,e,rfl,m,g,la,B⟩;exact SqL.of (m _ _ a1 e2)
 .rintro i v σ f hv ⟨M,N,O,R,e,rfl,m,g,la,B⟩;obtain⟨c,y,rfl,hy,b⟩:=G.at_ref hv;have hi:=(vx.mp hy).1;have a2:c≠p:=λz=>by rw[z,D]at b;cases b
  obtain⟨x,hx,ex⟩:=yO (vm hy);have y1:y.1<gs.length:=by rw[yt ex];exact(ok x hx).1
  have k:((prg gs n C).take (i+1)).flatMap (wth1 gs)=((prg gs n C).take i).flatMap (wth1 gs)++wth1 gs y:=by
   rw[take_snoc hy,flatMap_append,flatMap_cons,List.flatMap_nil,append_nil]
  have Z:f S=some (.lst (gs.map V.int)):=m _ _ (np Y) (s2 _ _ (s1 _ _ Y));refine j0T (SqT.of (m _ _ a2 b)) ?_;apply⟨λS' H3=>IvE1 λ(a:L7)=>IvA4 (S'=[some (.ref l),some (.ref S),some (.int n),some (.ref p),some (.int (y.1:Nat)),some (.int y.2.1),some (.int y.2.2.1),some (optV y.2.2.2)]) (∀c u,c≠p->f c=some u->H3 c=some u) (H3 p=some (.lst (a.map V.ref))) (a.length<=2*i+1/\GonAt H3 a (((prg gs n C).take i).flatMap (wth1 gs)++(if 0<y.2.2.1 then[(y.1,gs.getD y.1 0)]else[]))),?_,?_⟩
  rotate_left
  .apply iteD (λX=>?_) (λX=>?_)
   .apply⟨.inl ⟨rfl,_,SqL.of g⟩,?_⟩;apply ixLm (SqL.of Z) (jN (j:=y.1) (by rw[vv,a0 _ y1];rfl)) ?_;apply⟨uc,?_⟩;walk_at"f p2 hp2 H3 s3 e3";apply⟨p,_,_,rfl,rfl,s3 _ _ g,by rw[vt];lia,?_⟩;have o:p2≠p:=λz=>by rw[z,s3 _ _ g]at e3;cases e3
    refine⟨e++[p2],rfl,λc u b h=>(jo b).trans (s3 _ _ h),by rw[jz,vj];rfl,by rw[vn];show e.length+1<=_;lia,?_⟩;rw[vd X];refine All2.snoc (All2.mono B λc y h=>?_) ((jo o).trans e3);exact(jo (λz=>by rw[z,g]at h;cases h)).trans (s3 _ _ h)
   .apply⟨e,rfl,λc u _ h=>h,g,⋯,?_⟩;rw[vc X,append_nil];exact B
  rintro S' H3 ⟨a,rfl,L,d,a3,I⟩;have F:wth1 gs y=(if 0<y.2.2.1 then[(y.1,gs.getD y.1 0)]else[])++(match y.2.2.2 with | some r=>[(y.1,r)] | none=>[]):=rfl;cases er:y.2.2.2 with
  | none=>
   apply⟨rfl,_,rfl,?_⟩;refine iteB0 (by simp[optV]) ?_;apply⟨_,_,_,_,a,rfl,λc u b h=>L _ _ b (m _ _ b h),d,⋯,?_⟩;rw[k,F,er,append_nil];exact I
  | some r=>
   apply⟨rfl,_,rfl,?_⟩;refine iteB1 (by simp[optV]) ?_;apply⟨.inl ⟨rfl,_,SqL.of d⟩,?_⟩;apply⟨uc,?_⟩;walk_at"f p2 hp2 H4 s4 e4";apply⟨p,_,_,rfl,rfl,s4 _ _ d,by rw[vt];lia,?_⟩;have o:p2≠p:=λz=>by rw[z,s4 _ _ d]at e4;cases e4
   refine⟨_,_,_,_,a++[p2],rfl,λc u b h=>(jo b).trans (s4 _ _ (L _ _ b (m _ _ b h))),by rw[jz,vj];rfl,by rw[vn];show a.length+1<=_;lia,?_⟩;rw[k,F,er,<-List.append_assoc];refine All2.snoc (All2.mono I λc y h=>?_) ((jo o).trans e4);exact(jo (λz=>by rw[z,d]at h;cases h)).trans (s4 _ _ h)
 rintro S' f ⟨M,N,O,R,e,rfl,m,g,la,B⟩;rw[vt,U,v7]at B;left;exact q p e f (λc u h=>m _ _ (np h) (s2 _ _ (s1 _ _ h))) hp g B
def wo(T:Txt K mg t)(KM:2<*t.KN t.KZ ["pieces","sizes","gone"] (sp_within)):3<*t.qF t.qG ["self","beat"] (sp_sceneM t.jJ):=by
 specialize T.wQ.ok Jq;obtain⟨a,z,O,ps,gs,hs,E,t0,rfl,A,N,t1,t2,q⟩:=h;refine⟨_,(jb (jP (j0S (XX WP WP jd (pv 1) (jk jv (Jp (pv 0) rfl) (yr zF jd))))
   (jf ZA)
   jx)
  (jb (jq' 2 Jq.nd (Jn Q0 (by rfl) T.kf yI (ja (Jp (pv 0) rfl) jc)))
  (jb (jq' 3 Jq.nd (jL jc))
  (jb (jq' 4 Jq.nd (jL (ja (jI (ja (jw qK (jC jR (by rfl) T.JJ Jb (ja (Jp (pv 0) rfl) jc)) jd) (ja (pv 1) jc))) jc)))
  (jb (wB PassesOwn.never (j6F (pv 4) (λ_=>rfl))
   (jb (jq' 5 Jq.nd (j40 q3 PySem.F.slot_list_pop PySem.F.type_list_pop j6p (pv 4)))
   (jf (jP (jp ZX (jk jr (pv 5) jd) (jk jv (Jp (pv 0) rfl) (jk jr (pv 5) jd)) (nomark _))
    (jb (jO (Js q3 q4 q5 jK (pv 3) (ja (pv 5) jc)))
    (jf (jO (Js q3 PySem.F.slot_list_extend PySem.F.type_list_extend j2p (pv 4) (ja (j45 (jt T.Xi KM hr (ja (jk jv (Jp (pv 0) rfl) (jk jr (pv 5) jd)) (ja (Jp (pv 0) rfl) (ja (jk jr (pv 5) jd) jc)))) (zU (yr zF jd))) jc)))))
    (jf (j7 PassesOwn.never rfl (jX (jk jv (Jp (pv 0) rfl) (jk jr (pv 5) jd))) (JG rfl (jA (ju' 6 Jq.nd) (jA (ju' 7 Jq.nd) Jg)))
     (jf (yu (pv 7) (Yk (pv 2) (pv 6) set_list)))))))))
  (jf (jy (jI (ja (pv 2) (ja (pv 3) jc)))))))))),?_⟩
 refine jD (S':=[some _,some _,none,none,none,none,none,none]) rfl ?_
 try dsimp only[cxOf,Cx.nox]
 have W:=N.s.w;have gl:=N.s.gl;have ne:=N.ne;have b1:=W.p61;have lE:=A.el;have M8:∀i,i<ps.length->(hs.getD i []).length<=8:=λi hi=>j5b W N.hl N.m (yZ N.s N.hl hi)
 have ad:atI (gs.map V.int) (-1)=some (.int (gs.getD (ps.length-1) 0)):=Ku ⋯ (by rw[gl]);have aQ:∀j,j<ps.length->gs[j]?=some (gs.getD j 0):=λj h=>N.j3h h
 obtain⟨dx,ob⟩:=A.ob;apply iteD (λ_=>?_) (λc=>ue t1 c);apply⟨a,_,dx,_,_,rfl,ob,T.jV,T.j4,za,?_⟩;apply ixLm (SqL.of A.hs) (ad) ?_;apply iteN (λz=>ue t2 z) (λ_=>?_);apply⟨a,_,dx,_,_,rfl,ob,T.jV,T.QB,j2b,?_⟩;apply⟨z.f,_,rfl,.inl (SqL.of A.hf),?_⟩;walk_at"f 1 e";apply⟨va _,?_⟩;walk_at"f 2 e";have aj:=s1.trans s2;apply⟨a,_,dx,_,_,rfl,aj _ _ ob,T.jV,T.j4,za,?_⟩;apply⟨_,_,rfl,.inl ⟨_,SqL.of (aj _ _ A.hs),rfl⟩,?_⟩;rw[vt,gl];apply⟨uc,?_⟩;walk_at"f 3 e";apply⟨ud,?_⟩;walk_at"f 4 e";rw[show((ps.length:Nat):Int)-1=((ps.length-1:Nat):Int) by lia]at e3;have aI:=aj.trans s3;have aW:=aI.trans s4;have af:p1≠p2:=je e1 hp2;have ag:p1≠p4:=je (s3 _ _ (s2 _ _ e1)) hp4;have ah:p2≠p4:=je (s3 _ _ e2) hp4;have m1:∀{c u},H c=some u->c≠p1:=λh=>je h hp1
 have m2:∀{c u},H c=some u->c≠p2:=λh=>je (s1 _ _ h) hp2
 have m4:∀{c u},H c=some u->c≠p4:=λh=>je (aI _ _ h) hp4
 have aH:=N.nodes M8 (i:=ps.length-1) (t:=t0) ⋯ t1;have aK:∀h∈O.map (·.2),0<=h/\h<=10^18:=λh hh=>by
  obtain⟨q0,aS,rfl⟩:=vK.mp hh;exact N.l18 q0 aS
 apply⟨λm σ B=>IvE8 λ(o5 J L:N3) (d g:L7) (D P S:L3)=>IvA3 (σ=[some (.ref a),some (.int t0),some (.ref p1),some (.ref p2),some (.ref p4),o5,J,L]) (ScAt O ps gs E t0 H B p1 p2 p4 d g D P S) (P++S.reverse.flatMap (λx=>ply ps gs x.1 x.2)=ply ps gs (ps.length-1) t0/\m=(S.map λx=>nodes ps gs x.1 x.2).sum),
  ⟨_,none,none,none,[],[p3],[],[],[(ps.length-1,t0)],rfl,⟨aW,s4 _ _ (s3 _ _ (s2 _ _ e1)),s4 _ _ (s3 _ _ e2),e4,.nil,All2.snoc (as:=[]) (xs:=[]) .nil (s4 _ _ e3),by simp,λx hx=>by rw[vo.mp hx];exact⟨by show ps.length-1<_;lia,t1⟩,rfl,(λx hx=>nomatch hx),by simpa using aH,by show(O.map (·.2)).length=_;rw[vt],aK⟩,by simp,rfl⟩,?_⟩
 rintro m σ B ⟨o5,J,L,d,g,D,P,S,rfl,Sc,a0,rfl⟩;obtain⟨sm,am,ao,eT,gP,gT,G,hS,hP,bP,aM,ll,hb⟩:=Sc;have a7:S.length<=(S.map λx=>nodes ps gs x.1 x.2).sum:=j4B λx _=>WK (ps:=ps) (gs:=gs) x.1 x.2
 have pl:=gP.1;have tl:=gT.1;apply⟨_,.inl ⟨_,SqL.of eT,rfl⟩,?_⟩;rcases List.eq_nil_or_concat S with rfl | ⟨S0,x,rfl⟩
 .have et:g=[]:=List.length_eq_zero_iff.mp tl;subst et;refine iteF ?_;left;rw[show([]:L3).reverse.flatMap (λx=>reach ps gs x.1 x.2)=[]from rfl,append_nil]at G;subst G;have b0:([].map λx:Nat×Int=>nodes ps gs x.1 x.2).sum=0:=rfl;refine⟨uc,?_⟩;walk_at"f 5 e";exact q p5 p1 p2 d P H5 (sm.trans s5) hp1 (none_of s1 hp2) e5 (s5 _ _ am) ll hb (s5 _ _ ao) af (All2.mono gP λc y h=>s5 _ _ h) ⋯ bP hP (by simpa using a0)
 rw[List.concat_eq_append]at *;obtain⟨b,l,rfl,ay,aB⟩:=All2.last gT;rw[vj]at eT|-;refine iteB1 (by simp) ?_;obtain⟨x1,x2⟩:=hS x (mem_append_right _ vq);have aA:∀y∈S0,y.1<ps.length/\0<=y.2:=λy hy=>hS y (mem_append_left _ hy)
 rw[List.reverse_append,flatMap_append,vj,sum_append]at *;have aZ:=WK (ps:=ps) (gs:=gs) x.1 x.2;have au:([x].map λx:Nat×Int=>nodes ps gs x.1 x.2).sum=nodes ps gs x.1 x.2:=by simp
 have aa:([x].reverse.flatMap λx=>reach ps gs x.1 x.2)=reach ps gs x.1 x.2:=by simp
 rw[au]at a7 aM|-;have b2:S0.length<=5000:=by rw[vn]at a7;lia
 have b3:=ay.1;have X:([x].reverse.flatMap λx=>ply ps gs x.1 x.2)=ply ps gs x.1 x.2:=by simp
 rw[aa]at G;rw[X]at a0;refine⟨λσ B=>IvE8 λ(o5 J L:N3) (d g:L7) (D P S:L3)=>IvA3 (σ=[some (.ref a),some (.int t0),some (.ref p1),some (.ref p2),some (.ref p4),o5,J,L]) (ScAt O ps gs E t0 H B p1 p2 p4 d g D P S) (P++S.reverse.flatMap (λx=>ply ps gs x.1 x.2)=ply ps gs (ps.length-1) t0/\(S.map λx=>nodes ps gs x.1 x.2).sum<(S0.map λx=>nodes ps gs x.1 x.2).sum+nodes ps gs x.1 x.2),
  λS' B ⟨o5,J,L,d,g,D,P,S,h1,h2,hq,h3⟩=>⟨_,h3,o5,J,L,d,g,D,P,S,h1,h2,hq,rfl⟩,?_⟩
 apply⟨.inl ⟨rfl,_,SqL.of eT⟩,?_⟩;refine⟨p4,_,.ref l,rfl,rfl,eT,by simp,?_⟩;rw[show((b.map V.ref)++[l].map V.ref).dropLast=b.map V.ref by simp];have a1:∀{c:Addr} {xs:N2},B c=some (.tup xs)->c≠p4:=λh z=>by rw[z,eT]at h;cases h
 have s5:Same H (upd B p4 (.lst (b.map V.ref))):=λc u h=>(jo (m4 h)).trans (sm _ _ h)
 have a8:upd B p4 (.lst (b.map V.ref)) p4=some (.lst (b.map V.ref)):=jz;have U:=(jo (o:=HO.lst (b.map V.ref)) ag).trans am;have C:=(jo (o:=HO.lst (b.map V.ref)) ah).trans ao;have ab:GonAt (upd B p4 (.lst (b.map V.ref))) d P:=All2.mono gP λc y h=>(jo (a1 h)).trans h
 have ac:GonAt (upd B p4 (.lst (b.map V.ref))) b S0:=All2.mono ay λc y h=>(jo (a1 h)).trans h
 have n:=(jo (o:=HO.lst (b.map V.ref)) (a1 aB)).trans aB;generalize upd B p4 (.lst (b.map V.ref))=H5 at s5 a8 U C ab ac n|-;clear a1;have aP:H5 z.s=some (.lst (gs.map V.int)):=s5 _ _ A.hs;have aF:=s5 _ _ ob;apply zTu n ?_;apply⟨a,_,dx,_,_,rfl,aF,T.jV,T.j4,za,?_⟩;apply zTu n ?_;apply ixLm (SqL.of aP) (jN (j:=x.1) (by rw[vv,aQ _ x1];rfl)) ?_;left;obtain⟨p,hp⟩:∃p,ps[x.1]?=some p:=⟨_,vz x1⟩
 have ar:pcB ps gs x.1=pcsI gs p.2 (inP ps p.2):=by unfold pcB;rw[hp]
 refine iteD (λc1=>?_) (λc1=>?_)
 .have a2:ovB gs x=false:=vH ⋯;have aR:(ps.map λp=>pcsI gs p.2 (inP ps p.2))[x.1]?=some (pcB ps gs x.1):=by rw[vv,hp,ar];rfl
  obtain⟨al,aO,bs,Z,hq⟩:=A.pa.get aR;have aX:=(N.g x1).2;have aU:(pcB ps gs x.1).length<=8:=by rw[ar];exact XH (N.i8 hp)
  have wl:=j59 (gs:=gs) (t:=x.2) (pcB ps gs x.1);apply⟨.inl ⟨rfl,_,SqL.of C⟩,?_⟩;apply⟨p2,_,_,rfl,rfl,C,by rw[vt];lia,?_⟩;have ai:∀{c:Addr} {xs:N2},H5 c=some (.tup xs)->c≠p2:=λh z=>by rw[z,C]at h;cases h
  have s6:Same H (upd H5 p2 (.lst (d.map V.ref++[.ref l]))):=λc u h=>(jo (m2 h)).trans (s5 _ _ h)
  have ap:upd H5 p2 (.lst (d.map V.ref++[.ref l])) p2=some (.lst ((d++[l]).map V.ref)):=by rw[jz,vj];rfl
  have an:=(jo (o:=HO.lst (d.map V.ref++[.ref l])) af).trans U;have a9:=(jo (o:=HO.lst (d.map V.ref++[.ref l])) ah.symm).trans a8;have R:=(jo (o:=HO.lst (d.map V.ref++[.ref l])) (ai n)).trans n;have av:GonAt (upd H5 p2 (.lst (d.map V.ref++[.ref l]))) (d++[l]) (P++[x]):=All2.snoc (All2.mono ab λc y h=>(jo (ai h)).trans h) R;have az:GonAt (upd H5 p2 (.lst (d.map V.ref++[.ref l]))) b S0:=All2.mono ac λc y h=>(jo (ai h)).trans h
  generalize upd H5 p2 (.lst (d.map V.ref++[.ref l]))=H6 at s6 ap an a9 R av az|-;apply⟨.inl ⟨rfl,_,SqL.of a9⟩,?_⟩;apply⟨a,_,dx,_,_,rfl,s6 _ _ ob,T.jV,T.qi,K5,?_⟩;apply zTu R ?_;apply ixLm (SqL.of (s6 _ _ A.hp)) (ZH (i:=(x.1:Int)) ⋯ aO) ?_;apply⟨a,_,dx,_,_,rfl,s6 _ _ ob,T.jV,T.j4,za,?_⟩;apply zTu R ?_;apply⟨al,z.s,x.2,bs,pcB ps gs x.1,gs,rfl,s6 _ _ Z,All2.mono hq λc y h=>s6 _ _ h,s6 _ _ A.hs,aU,λq hq=>N.pcOk hq,x2,⋯,λlw aJ H7 s7 aY ew hw=>?_⟩;apply⟨rfl,lw,_,rfl,SqL.of ew,?_⟩;walk_at"f lr hlr H8 s8 e8";have r:=s7.trans s8;have aq:=r _ _ a9;have b4:=hw.1;refine⟨p4,lr,_,_,rfl,rfl,aq,e8,by rw[vt,length_reverse,vt];lia,?_⟩;have a5:∀{c:Addr} {xs:N2},H8 c=some (.tup xs)->c≠p4:=λh z=>by rw[z,aq]at h;cases h
  have aw:=λ(c:Addr) (y:Nat×Int) (h:H6 c=some (.tup [.int (y.1:Nat),.int y.2]))=>(jo (o:=HO.lst (b.map V.ref++(aJ.map V.ref).reverse)) (a5 (r _ _ h))).trans (r _ _ h)
  have aL:∀y∈P++[x],y.1<ps.length/\0<=y.2/\y.2<gs.getD y.1 0:=λy hy=>by
   rcases vh.mp hy with h | h
   .exact bP y h
   .rw[vo.mp h];exact⟨x1,x2,c1⟩
  refine⟨_,_,_,d++[l],b++aJ.reverse,if leafB ps gs x=true then D++[x]else D,P++[x],S0++(wth gs x.2 (pcB ps gs x.1)).reverse,rfl,⟨λc u h=>(jo (m4 h)).trans (r _ _ (s6 _ _ h)),?_,(jo ah).trans (r _ _ ap),by rw[jz,vj,map_reverse],All2.mono av aw,?_,?_,?_,?_,aL,?_,?_,?_⟩,?_,?_⟩
  .rw[K8 a2];exact(jo ag).trans (r _ _ an)
  .exact All2.app (All2.mono az aw) (All2.mono (All2.rev hw) λc y h=>(jo (a5 (s8 _ _ h))).trans (s8 _ _ h))
  .rw[List.reverse_append,List.reverse_reverse,flatMap_append,<-G];by_cases lf:leafB ps gs x=true
   .have c2:pcB ps gs x.1=[]:=List.isEmpty_iff.mp lf;rw[vd lf,c2,qm (.inr c2),List.append_assoc];rfl
   .have c2:¬(gs.getD x.1 0<=x.2\/pcB ps gs x.1=[]):=λh=>h.elim ⋯ λe=>lf (List.isEmpty_iff.mpr e)
    rw[vc lf,Qv W c2]
  .intro y hy;rcases vh.mp hy with h | h
   .exact aA y h
   .have h:=mem_reverse.mp h;have:=Zp W h;exact⟨⋯,j13 (λq hq=>N.pcOk hq) h⟩
  .rw[filter_append,hP];by_cases lf:leafB ps gs x=true
   .rw[vd lf,filter_append,List.filter_cons_of_pos lf,List.filter_cons_of_pos (by rw[a2];rfl)];rfl
   .rw[vc lf,List.filter_cons_of_neg lf];exact append_nil _
  .have:=WJ W (i:=x.1) (t:=x.2) c1;rw[vj,sum_append,map_reverse,List.sum_reverse,vn];show P.length+1+_<=_;lia
  .rw[K8 a2];exact ll
  .rw[K8 a2];exact hb
  .rw[List.reverse_append,List.reverse_reverse,flatMap_append,<-a0,xU W (i:=x.1) (t:=x.2) ⋯,List.append_assoc];rfl
  .have:=WJ W (i:=x.1) (t:=x.2) c1;rw[vj,sum_append,map_reverse,List.sum_reverse];lia
 .have a3:ovB gs x=true:=vG ⋯;have hE:E[x.1]?=some (E.getD x.1 []):=by rw[vy,vz ⋯];rfl
  obtain⟨ae,aN,bs,Z,aG⟩:=A.ea.get hE;have ak:=Yv W ⋯ A.eo x.1;have eb:=j6b N lE A.eo x1;have a4:=s5 _ _ Z;apply⟨a,_,dx,_,_,rfl,aF,T.jV,T.Q5,j3e,?_⟩;apply zTu n ?_;apply ixLm (SqL.of (s5 _ _ A.hl)) (ZH (i:=(x.1:Int)) ⋯ aN) ?_;refine⟨ae,rfl,⟨_,SqL.of a4⟩,?_⟩;have aV:=aG.1;have aT:ae≠p1:=m1 Z;refine Jx (xs:=bs.map V.ref) (λk σ H7=>IvE2 λ(J L:N3)=>IvA4 (σ=[some (.ref a),some (.int t0),some (.ref p1),some (.ref p2),some (.ref p4),some (.ref l),J,L]) (∀c u,c≠p1->H5 c=some u->H7 c=some u) (H7 p1=some (.lst ((setE ((E.getD x.1 []).take k) (hOf O gs E D)).map V.int))) ((setE ((E.getD x.1 []).take k) (hOf O gs E D)).length=O.length/\(∀h∈setE ((E.getD x.1 []).take k) (hOf O gs E D),0<=h/\h<=10^18)))
   ⟨_,_,rfl,λc u _ h=>h,U,ll,hb⟩ ?_ ?_ ?_
  .rintro k σ H7 _ ⟨J,L,rfl,f,F,_⟩;exact SqL.of (f _ _ aT a4)
  .rintro k v σ H7 hv ⟨J,L,rfl,f,F,I,Y⟩;obtain⟨c',y,rfl,hy,aC⟩:=aG.at_ref hv;have aD:=vm hy;have yb:=ak y aD;have yh:=eb y aD;refine qj (SqT.of (f _ _ (m1 aC) (s5 _ _ aC))) ?_;left;have M:setE ((E.getD x.1 []).take (k+1)) (hOf O gs E D)=(setE ((E.getD x.1 []).take k) (hOf O gs E D)).set y.1.toNat y.2:=by
    unfold setE;rw[take_snoc hy,foldl_append];rfl
   refine⟨p1,_,_,y.1.toNat,rfl,rfl,F,ixZ yb.1 (by rw[vt,I];exact yb.2),?_⟩;refine⟨_,_,rfl,λc u hc h=>(jo hc).trans (f _ _ hc h),jz.trans ?_,by rw[M,length_set];exact I,λh hh=>?_⟩
   .rw[M,List.map_set]
   .rw[M]at hh;rcases List.mem_or_eq_of_mem_set hh with z | z
    .exact Y h z
    .rw[z];exact yh
  rintro S' H7 ⟨J,L,rfl,f,F,I,Y⟩;rw[vt,aV,v7]at F I Y;have aE:∀{c:Addr} {xs:N2},H5 c=some (.tup xs)->c≠p1:=λh z=>by rw[z,U]at h;cases h
  have a6:gs.getD x.1 0<=x.2:=⋯
  refine⟨_,_,_,d,b,D++[x],P,S0,rfl,⟨λc u h=>f _ _ (m1 h) (s5 _ _ h),?_,f _ _ af.symm C,f _ _ ag.symm a8,All2.mono ab λc y h=>f _ _ (aE h) h,All2.mono ac λc y h=>f _ _ (aE h) h,?_,aA,?_,bP,⋯,?_,?_⟩,by rw[<-a0,wy a6,nil_append],⋯⟩
  .rw[wa a3];exact F
  .rw[<-G,qm (.inl a6),List.append_assoc]
  .rw[hP,filter_append,List.filter_cons_of_neg (by rw[a3];decide)];exact(append_nil _).symm
  .rw[wa a3];exact I
  .rw[wa a3];exact Y
def YL(T:Txt K mg t)(J1:3<*t.qF t.qG ["self","beat"] (sp_sceneM t.jJ)):4<*t.qr t.qw ["self","beat"] (sp_wordsS t.jJ):=by
 specialize T.Y0.ok Jz;obtain⟨a,z,ls,j,gs,hs,E,t0,rfl,A,N,t1,t2,q⟩:=h;refine⟨_,(jb (jq' 2 Jz.nd (jL jc))
  (jb (j7 PassesOwn.never rfl (jX (jk jr (Kz (pv 0) T.jV T.yp (J1.mono nofun) hr T.yX .nil pass0 (ja (pv 1) jc)) jd)) (JG rfl (jA (ju' 3 Jz.nd) (jA (ju' 4 Jz.nd) Jg)))
   (jb (jq' 5 Jz.nd (jk jv (Jp (pv 0) rfl) (pv 3)))
   (jf (jP (PW.pt (Qf (jp jS (jk jr (pv 5) jd) jE (nomark _)) (qJ (jp jS (pv 4) jd (nomark _)))))
    (jf (jO (Js q3 q4 q5 jK (pv 2) (ja (jk jr (pv 5) jd) jc))))
    jx))))
  (jf (jy (pv 2))))),?_⟩
 refine jD (S':=[some _,some _,none,none,none,none]) rfl ?_
 try dsimp only[cxOf,Cx.nox]
 obtain⟨dx,ob⟩:=A.ob;apply⟨va _,?_⟩;walk_at"f p1 hp1 H0 s0 e0";apply⟨a,dx,_,rfl,s0 _ _ ob,j0o (by trivial) (by trivial) (by trivial) (by trivial) (by trivial) (by trivial),?_⟩;apply⟨a,z,ls,j,gs,hs,E,t0,rfl,A.same s0,N,t1,t2,λr l1 l2 as P H1 s1 a0 I C M ll hb h2 a1 gP pl bP hP _=>?_⟩;have F:=X7 N hP;have J:=s0.trans s1;have e1:=s1 _ _ e0;have m1:∀{c u},H c=some u->c≠p1:=λh=>je h hp1
 have n2:l2≠p1:=λe=>by rw[e,e0]at I;cases I
 have al:=gP.1;have wl:∀xs:L3,(xs.flatMap (ringX j)).length<=xs.length:=λxs=>by
  induction xs with
  | nil=>exact vb _
  | cons x r ih=>
   rw[flatMap_cons,vn,vQ];have:(ringX j x).length<=1:=by
    unfold ringX;split
    .split<;>simp
    .exact va _
   lia
 apply zTu C ?_;refine⟨l2,rfl,⟨_,SqL.of h2⟩,?_⟩;refine Jx (xs:=as.map V.ref) (λi σ m=>IvE3 λ(O R S:N3)=>IvA2 (σ=[some (.ref a),some (.int t0),some (.ref p1),O,R,S]) ((∀c u,c≠p1->H1 c=some u->m c=some u)/\m p1=some (.lst (((P.take i).flatMap (ringX j)).map V.str))))
  ⟨_,_,_,rfl,λc u _ h=>h,e1⟩ ?_ ?_ ?_
 .rintro i σ m _ ⟨O,R,S,rfl,o,B⟩;exact SqL.of (o _ _ n2 h2)
 .rintro i v σ m hv ⟨O,R,S,rfl,o,B⟩;obtain⟨c,x,rfl,Y,D⟩:=gP.at_ref hv;have hi:=(vx.mp Y).1;obtain⟨x1,x0,x2⟩:=bP x (vm Y);obtain⟨p,X⟩:∃p,j[x.1]?=some p:=⟨_,vz x1⟩
  obtain⟨W,U,hf⟩:=A.fo.get X;have l:(P.take (i+1)).flatMap (ringX j)=(P.take i).flatMap (ringX j)++ringX j x:=by
   rw[take_snoc Y,flatMap_append,flatMap_cons,List.flatMap_nil,append_nil]
  have n3:∀{c u},H c=some u->m c=some u:=λh=>o _ _ (m1 h) (J _ _ h)
  have nc:c≠p1:=λz=>by rw[z,e1]at D;cases D
  have g:FormAt m W p.2:=FormAt.put (λb xs hb=>n3 hb) hf;refine qj (SqT.of (o _ _ nc D)) ?_;apply⟨a,_,dx,_,_,rfl,n3 ob,T.jV,T.J2,kE,?_⟩;apply ixLm (SqL.of (n3 A.ho)) (ZH (i:=(x.1:Int)) ⋯ U) ?_;left;by_cases d:∃y n,p.2 = .ring y n
  .obtain⟨y,n,C⟩:=d;rw[C]at g;have G:m W=some (.tup [.str "ring",.str y,.int n]):=g;have L:ringX j x=if x.2=0 then[y]else[]:=by
    unfold ringX;rw[X];obtain⟨pn,pf⟩:=p;have C:pf = .ring y n:=C;subst C;rfl
   refine zTu G ?_;apply iteE1 ?_;apply iteD (λc=>?_) (λc=>?_)
   .apply⟨.inl ⟨rfl,_,SqL.of B⟩,?_⟩;apply zTu G ?_;have:=wl (P.take i);rw[vi]at this;refine⟨p1,_,_,rfl,rfl,B,by rw[vt];lia,?_⟩;refine⟨_,_,_,rfl,λc u D h=>(jo D).trans (o _ _ D h),jz.trans ?_⟩;rw[l,L,vd c,vj];rfl
   .apply⟨_,_,_,rfl,o,?_⟩;rw[l,L,vc c,append_nil];exact B
  .have L:ringX j x=[]:=by
    unfold ringX;rw[X];obtain⟨pn,pf⟩:=p;cases pf with
    | ring y n=>exact ue ⟨y,n,rfl⟩ d
    | _=>rfl
   have Z:∃k xs,m W=some (.tup (.str k::xs))/\decide (k=("ring" : Str))=false:=by
    generalize p.2=f at g d;cases f with
    | hold n=>exact⟨_,_,g,by trivial⟩
    | ring y n=>exact ue ⟨y,n,rfl⟩ d
    | rise y v n=>exact⟨_,_,g,by trivial⟩
    | row j=>obtain⟨b',M,_⟩:=g;exact⟨_,_,M,by trivial⟩
    | side j=>obtain⟨b',M,_⟩:=g;exact⟨_,_,M,by trivial⟩
    | again k y=>exact⟨_,_,g,by trivial⟩
   obtain⟨k,xs,hk,dk⟩:=Z;refine ixTm (SqT.of hk) (at0) ?_;apply iteB0 dk ?_;apply⟨_,_,_,rfl,o,?_⟩;rw[l,L,append_nil];exact B
 rintro S' m ⟨O,R,S,rfl,o,B⟩;rw[vt,al,v7,F]at B;left;have w1:=wl P;rw[F]at w1;exact q p1 m (λc u h=>o _ _ (m1 h) (J _ _ h)) hp1 B ⋯
def Km(T:Txt K mg t)(y:4<*t.qr t.qw ["self","beat"] (sp_wordsS t.jJ)):5<*t.qW t.Qb ["self"] (sp_stepM t.jG t.jJ):=by
 specialize T.KL.ok Kr;obtain⟨m,j,z,p,r,o,G,E,k,rfl,A,N,J,L,q⟩:=h;refine⟨_,(jb (jP (jp jS (Jp (pv 0) rfl) (Jp (pv 0) rfl) (nomark _))
   (jf ZA)
   jx)
  (jb (j2A (pv 0) jd j6f)
  (jf (jy (Kz (Jp (pv 0) rfl) T.jV T.YE (y.mono nofun) hr T.YY .nil pass0 (ja (Jp (pv 0) rfl) jc)))))),?_⟩
 refine jD (S':=[some _]) rfl ?_
 try dsimp only[cxOf,Cx.nox]
 obtain⟨a,b⟩:=A.ob;apply⟨m,_,a,_,_,rfl,b,T.jU,T.Jl,Yy,?_⟩;apply⟨m,_,a,_,_,rfl,b,T.jU,T.qh,Wy,?_⟩;apply iteD (λc=>ue c ⋯) (λ_=>?_);apply⟨_,rfl,m,_,a,_,_,rfl,b,T.jU,T.Jl,Yy,k,1,rfl,rfl,a,_,b,(by show 3<1000;decide),?_⟩;rw[Xv];generalize g:upd H m _=H1;have d:=qD g;have i:∀c u,c≠m->H c=some u->H1 c=some u:=λc u n h=>g▸(jo n).trans h
 have D:∀c,H1 c=none->H c=none:=λc h=>by
  by_cases z:c=m
  .rw[z,d]at h;cases h
  .cases e:H c with
   | none=>rfl
   | some u=>rw[i c u z e]at h;cases h
 clear g;have f:MaAt t.jG t.jJ H1 m j z p r o E (k+1):=⟨⟨a,d⟩,A.sg.but b A.ne i,A.ne⟩
 obtain⟨B,I⟩:=f.sg.ob;apply⟨m,_,a,_,_,rfl,d,T.jU,T.Ju,K4,?_⟩;refine⟨j,B,_,rfl,I,j0o (by trivial) (by trivial) (by trivial) (by trivial) (by trivial) (by trivial),?_⟩;apply⟨m,_,a,_,_,rfl,d,T.jU,T.Jl,Yy,?_⟩;left;exact⟨j,z,p,r,o,G,E,k+1,rfl,f.sg,N,⋯,⋯,λl x v F C _=>q l x (λc u n h=>v _ _ (i _ _ n h)) (D l F) (f.same v) C⟩
def Kk(T:Txt K mg t):1<*t.qb t.qd ["self","beat"] (sp_jumpM t.jG t.jJ):=by
 specialize T.KJ.ok Ko;obtain⟨m,k,z,i,j,g,E,l,b,rfl,A,e,f,q⟩:=h;refine⟨_,(jb (jP (j0S (XX WP WP jd (pv 1) (Jp (pv 0) rfl)))
   (jf ZA)
   jx)
  (jf (Zh (pv 0) (pv 1) rfl))),?_⟩
 refine jD (S':=[some _,some _]) rfl ?_
 try dsimp only[cxOf,Cx.nox]
 obtain⟨a,d⟩:=A.ob;apply iteD (λ_=>?_) (λc=>ue e c);apply⟨m,_,a,_,_,rfl,d,T.jU,T.qh,Wy,?_⟩;apply iteN (λz=>ue f z) (λ_=>?_);apply⟨m,_,a,_,rfl,d,T.jU,T.Jl,(by show 3<1000;decide),?_⟩;rw[Xv];refine q _ (λc u n h=>(jo n).trans h) ⟨⟨a,jz⟩,A.sg.but d A.ne λc u n h=>(jo n).trans h,A.ne⟩
def j0K(T:Txt K mg t)(Qo:1<*t.zl t.zo ["pieces","sizes","gone"] (sp_progress)):2<*t.ke t.kB ["stage","starts","inside","part","gone"] (sp_pinsof P w t.jJ):=by
 specialize T.Wi.F.ok ZW;obtain⟨a,l,d,z,ls,o,e,hs,E,st,xs,i,I,rfl,A,N,el,sl,hd,hi,t1,t2,kd,q⟩:=h;refine⟨_,(jb (jq' 5 ZW.nd (jk jv (Jp (pv 0) rfl) (pv 3)))
  (jb (jP (jp jS (jk jr (pv 5) jd) jE (nomark _))
   (jf (jy (jI (ja (pv 4) (ja (jk jv (pv 1) (Qe (JZ hr) (Jp (pv 0) rfl) (jk jr (pv 5) jd))) jc)))))
   jx)
  (jb (jP (jp kK (jk jr (pv 5) jd) (jI (ja jE (ja jE jc))) (by with_unfolding_all rfl))
   (jf (jy (jI (ja (pv 4) jc))))
   jx)
  (jb (jq' 6 ZW.nd (jt T.Yb Qo hr (ja (jk jv (Jp (pv 0) rfl) (pv 3)) (ja (Jp (pv 0) rfl) (ja (pv 4) jc)))))
  (jb (xV (i:=7) (ow:=["other","begin","over","rest"]) (ci:=[2]) rfl (CompScope.of (defScope ZC) ["stage","starts","inside","part","gone","form","found","pins"] rfl rfl (by trivial)) (j1o nofun nofun nofun nofun) ZW.nd rfl (.inl rfl) (jX (pv 6)) (λ_ _ _ _ _=>⟨(JG rfl (jA (ju' 0 (jT ["stage","starts","inside","part","gone","form","found","pins"] rfl (by trivial))) (jA (ju' 1 (jT ["stage","starts","inside","part","gone","form","found","pins"] rfl (by trivial))) (jA (ju' 2 (jT ["stage","starts","inside","part","gone","form","found","pins"] rfl (by trivial))) (jA (ju' 3 (jT ["stage","starts","inside","part","gone","form","found","pins"] rfl (by trivial))) Jg))))),Jt,(j43 (P:=P) (w:=w) rfl rfl (JZ hr) (pv 4) (jI (ja (pv 0) (ja (pv 3) jc))) ⟨rfl,rfl,rfl,rfl⟩)⟩))
  (jb (jP (jp jS (jk jr (pv 5) jd) jE (nomark _))
   (jf (jy (Jn JE (by rfl) T.zN QK (ja (pv 7) jc))))
   jx)
  (jf (jy (jI (ja (jC (yJ rfl) (by rfl) T.j19 W7 (ja (Jd (ow:=["other","begin","over","rest"]) (ci:=[]) rfl (CompScope.of (defScope ZC) ["stage","starts","inside","part","gone","form","found","pins"] rfl rfl (by trivial)) (j1o nofun nofun nofun nofun) (jX (pv 6)) (λ_ _ _ _ _=>⟨(JG rfl (jA (ju' 0 (jT ["stage","starts","inside","part","gone","form","found","pins"] rfl (by trivial))) (jA (ju' 1 (jT ["stage","starts","inside","part","gone","form","found","pins"] rfl (by trivial))) (jA (ju' 2 (jT ["stage","starts","inside","part","gone","form","found","pins"] rfl (by trivial))) (jA (ju' 3 (jT ["stage","starts","inside","part","gone","form","found","pins"] rfl (by trivial))) Jg))))),Jt,(pv 2)⟩)) jc)) (ja (jk jv (pv 7) (yr zF jd)) jc))))))))))),?_⟩
 refine jD (S':=[some _,some _,some _,some _,some _,none,none,none]) rfl ?_
 try dsimp only[cxOf,Cx.nox]
 have W:=N.s.w;have ah:=W.p61;obtain⟨dx,ob⟩:=A.ob;obtain⟨p,m⟩:∃p,o[i]?=some p:=⟨_,vz hi⟩
 obtain⟨fb,a6,R⟩:=A.fo.get m;have af:=(N.g hi).2;have a0:pcB o e i=pcsI e p.2 (inP o p.2):=by unfold pcB;rw[m]
 have a9:(o.map λp=>pcsI e p.2 (inP o p.2))[i]?=some (pcB o e i):=by rw[vv,m,a0];rfl
 obtain⟨al,a5,bs,a7,hq⟩:=A.pa.get a9;have a3:(pcB o e i).length<=8:=by rw[a0];exact XH (N.i8 m)
 have yl:(prg e I (pcB o e i)).length<=8:=vW (List.length_filterMap_le _ _) a3;apply⟨a,_,dx,_,_,rfl,ob,T.jV,T.J2,kE,?_⟩;apply ixLm (SqL.of A.ho) (jN (j:=i) (by rw[vv,a6];rfl)) ?_;apply cutG (C:=∃(f:Str) (tl:N2),H fb=some (.tup (.str f::tl))/\(f = "row"\/f = "side"\/f = "again")/\((f = "side"/\pinF ls o e st i I = .tuple ((prg e I (pcB o e i)).map (subP (pinF ls o e st))))\/(¬f = "side"/\prg e I (pcB o e i)≠[]/\pinF ls o e st i I=seqP (prg e I (pcB o e i)) (pinF ls o e st)))) (λhg=>?_) (λM=>?_)
 .obtain⟨f,tl,r,u,hD⟩:=hg;have nr:¬f = "raise":=by rcases u with h | h | h<;>(rw[h];decide +kernel)
  have nh:¬f = "hold":=by rcases u with h | h | h<;>(rw[h];decide +kernel)
  have ng:¬f = "ring":=by rcases u with h | h | h<;>(rw[h];decide +kernel)
  refine ixTm (SqT.of r) (at0) ?_;apply iteB0 (vH nr) ?_;apply ixTm (SqT.of r) (at0) ?_;apply⟨uc,?_⟩;walk_at"f 1 e";refine⟨p1,_,rfl,.inr (SqT.of e1),rfl,rfl,_,rfl,?_⟩;refine iteB0 (by rcases u with h | h | h<;>(subst h;decide +kernel)) ?_;apply⟨a,_,dx,_,_,rfl,s1 _ _ ob,T.jV,T.qi,K5,?_⟩;apply ixLm (SqL.of (s1 _ _ A.hp)) (ZH (i:=(i:Int)) ⋯ a5) ?_;apply⟨a,_,dx,_,_,rfl,s1 _ _ ob,T.jV,T.j4,za,?_⟩;apply⟨al,z.s,I,bs,pcB o e i,e,rfl,s1 _ _ a7,All2.mono hq λc y h=>s1 _ _ h,s1 _ _ A.hs,a3,λq hq=>N.pcOk hq,t1,⋯,λlp U H2 s2 ag ep D=>?_⟩;have F:=s1.trans s2;have S:=D.1;have a1:DOAt P w H2 d xs:=⟨F _ _ hd.1,λp m=>F _ _ (hd.2 p m)⟩
  generalize eY:prg e I (pcB o e i)=Y at hD D S yl kd;apply⟨lp,rfl,⟨_,SqL.of ep⟩,?_⟩;refine Jm (xs:=U.map V.ref) (λk J B=>Same H2 B/\DVs B J ((Y.take k).map (subP (pinF ls o e st)))) ⟨Same.refl _,.nil⟩ ?_ ?_ ?_
  .rintro k J B _ ⟨Z,_⟩;exact SqL.of (Z _ _ ep)
  .rintro k v J B hv ⟨Z,L⟩;obtain⟨c,y,rfl,hy,hc⟩:=D.at_ref hv;have hk:=(vx.mp hy).1;have ae:=j0m L;rw[vt,vi]at ae;refine Jh (S':=[none,none,none,none,some (.ref d)]) rfl ?_;refine j0T (SqT.of (Z _ _ hc)) ?_;apply iteT ?_;apply j1K ?_;left;have O:DOAt P w B d xs:=⟨Z _ _ a1.1,λp m=>Z _ _ (a1.2 p m)⟩
   refine⟨d,xs,rfl,O,?_⟩;apply⟨uc,?_⟩;walk_at"f 3 e";refine⟨p3,[some (y.1:Int),y.2.2.2],xs,rfl,⟨s3 _ _ O.1,λp m=>s3 _ _ (O.2 p m)⟩,?_,?_⟩
   .show H3 p3=_;rw[e3];cases y.2.2.2<;>rfl
   refine⟨⋯,Z.trans s3,?_⟩;rw[take_snoc hy,vj];exact Xt (L.mono s3) (((kd y (vm hy)).mono F).mono (Z.trans s3))
  rintro J H3 ⟨s3,L⟩;rw[vt,S,v7]at L;have a4:=j0m L;rw[vt]at a4;refine⟨⋯,?_⟩;walk_at"f lq hlq H4 s4 e4";have G:=s3.trans s4;have X:=F.trans G;apply ixTm (SqT.of (X _ _ r)) (at0) ?_;left;rcases hD with⟨ht,hD⟩ | ⟨ht,yn,hD⟩
  .refine iteB1 (vG ht) ?_;apply⟨lq,_,rfl,.inl ⟨SqL.of e4,?_⟩⟩;walk_at"f 5 e";refine q (.ref p5) H5 (X.trans s5) ?_;rw[hD];exact .tup e5 ((L.mono s4).mono s5)
  .refine iteB0 (vH ht) ?_;apply⟨lp,rfl,⟨_,SqL.of (G _ _ ep)⟩,?_⟩;refine Jm (xs:=U.map V.ref) (λk J B=>J=((Y.take k).map λy=>y.2.2.1).map V.int/\H4=B) ⟨rfl,rfl⟩ ?_ ?_ ?_
   .rintro k J B _ ⟨rfl,rfl⟩;exact SqL.of (G _ _ ep)
   .rintro k v J B hv ⟨rfl,rfl⟩;obtain⟨c,y,rfl,hy,hc⟩:=D.at_ref hv;have hk:=(vx.mp hy).1;refine Jh (S':=[none,none,none,none]) rfl ?_;refine j0T (SqT.of (G _ _ hc)) ?_;apply iteT ?_;apply⟨by rw[vt,vt,vi];lia,?_,rfl⟩;rw[take_snoc hy,vj,vj];rfl
   rintro zs B ⟨rfl,rfl⟩;rw[show(U.map V.ref).length=Y.length from(vt _).trans S,v7];refine⟨by rw[vt,vt];lia,?_⟩;walk_at"f 5 e";refine⟨p5,_,rfl,SqL.of e5,?_⟩;have ad:Y.map (subP (pinF ls o e st))≠[]:=λz=>yn (List.map_eq_nil_iff.mp z)
   obtain⟨x,ab,ac⟩:=j3n (d:=PyData.none) ad;obtain⟨v,a2,aa⟩:=j3b L ac;rw[vt]at a2;have y1:1<=Y.length:=length_pos_iff.mpr yn;apply ixLm (SqL.of (s5 _ _ e4)) (j31 (n:=Y.length) y1 a4 a2) ?_;apply⟨uc,?_⟩;walk_at"f 6 e";refine q (.ref p6) H6 (X.trans (s5.trans s6)) ?_;rw[hD];unfold seqP;rw[ab];exact .tup e6 (.cons (.int _) (.cons (((aa.mono s4).mono s5).mono s6) .nil))
 .obtain⟨nm,fm⟩:=p;dsimp only at R;cases fm with
  | rise x v n=>
   have r:H fb=some (.tup [.str "raise",.str x,.int v,.int n]):=R;obtain⟨j,hj⟩:=W.r i nm x v n m;have a8:=(vx.mp hj).1;rw[nmsOf,vt]at a8;have g:=DGet.k (k:=Sum.inr x) A.hd;rw[YI W.ln hj]at g;refine zTu r ?_;apply iteE1 ?_;apply⟨a,_,dx,_,_,rfl,ob,T.jV,T.QC,j2c,?_⟩;apply zTu r ?_;refine⟨z.d,_,rfl,g,?_⟩;refine ixLm (SqL.of el) (jN (j:=j) (by rw[vv,vz ⋯];rfl)) ?_;apply⟨uc,?_⟩;walk_at"f 1 e";refine q (.ref p1) H1 s1 ?_;rw[Zy m,jW W.ln hj,vy,vz ⋯];exact .tup e1 (.cons (.int _) (.cons (.int _) .nil))
  | hold n=>
   have r:H fb=some (.tup [.str "hold",.int n]):=R;refine zTu r ?_;apply iteE0 ?_;apply zTu r ?_;apply⟨uc,?_⟩;walk_at"f 1 e";refine⟨p1,_,rfl,.inr (SqT.of e1),rfl,rfl,_,rfl,?_⟩;refine iteE1 ?_;apply⟨ud,?_⟩;walk_at"f 2 e";refine q (.ref p2) H2 (s1.trans s2) ?_;rw[Zw m];exact .tup e2 (.cons (.int _) .nil)
  | ring x n=>
   have r:H fb=some (.tup [.str "ring",.str x,.int n]):=R;refine zTu r ?_;apply iteE0 ?_;apply zTu r ?_;apply⟨uc,?_⟩;walk_at"f 1 e";refine⟨p1,_,rfl,.inr (SqT.of e1),rfl,rfl,_,rfl,?_⟩;refine iteE1 ?_;apply⟨ud,?_⟩;walk_at"f 2 e";refine q (.ref p2) H2 (s1.trans s2) ?_;rw[Zx m];exact .tup e2 (.cons (.int _) .nil)
  | row xs2=>
   obtain⟨b,r,h2⟩:=R;exact M ⟨_,_,r,.inl rfl,.inr ⟨by trivial,j4b N m t1 (.inl ⟨_,rfl⟩),yQ W m⟩⟩
  | side xs2=>
   obtain⟨b,r,h2⟩:=R;exact M ⟨_,_,r,.inr (.inl rfl),.inl ⟨rfl,Zz W m⟩⟩
  | again k x=>
   have r:H fb=some (.tup [.str "again",.int k,.str x]):=R;exact M ⟨_,_,r,.inr (.inr rfl),.inr ⟨by trivial,j4b N m t1 (.inr ⟨_,_,rfl⟩),zb W m⟩⟩
def j0J(T:Txt K mg t)(J1:3<*t.qF t.qG ["self","beat"] (sp_sceneM t.jJ))(Y7:2<*t.ke t.kB ["stage","starts","inside","part","gone"] (sp_pinsof P w t.jJ)):4<*t.kc t.kA ["stage","beat"] (sp_pinsat t.jJ):=by
 specialize T.Wh.F.ok zE;obtain⟨a,z,S,f,o,hs,E,I,rfl,A,N,t1,t2,q⟩:=h;refine⟨_,(jb (jq' 2 zE.nd (Kz (pv 0) T.jV T.yp (J1.mono nofun) hr T.yX .nil pass0 (ja (pv 1) jc)))
  (jb (jq' 3 zE.nd j42)
  (jb (j7 PassesOwn.never rfl (jX (j45 (jk jr (pv 2) jd) (zU (yr zF jd)))) (JG rfl (jA (ju' 4 zE.nd) (jA (ju' 5 zE.nd) Jg)))
   (jf (yu (jt T.Wi Y7 hr (ja (pv 0) (ja (jk jr (pv 2) jd) (ja (pv 3) (ja (pv 4) (ja (pv 5) jc)))))) (Yk (pv 3) (jI (ja (pv 4) (ja (pv 5) jc))) (j6J (JZ hr))))))
  (jf (jy (j1G (JZ hr) (pv 3) (jI (ja (jw qK (jC jR (by rfl) T.JJ Jb (ja (Jp (pv 0) rfl) jc)) jd) (ja (pv 1) jc))) ⟨rfl,rfl,rfl,rfl⟩)))))),?_⟩
 refine jD (S':=[some _,some _,none,none,none,none]) rfl ?_
 try dsimp only[cxOf,Cx.nox]
 have W:=N.s.w;have ne:=N.ne;obtain⟨dx,ob⟩:=A.ob;apply⟨a,dx,_,rfl,ob,j0o (by trivial) (by trivial) (by trivial) (by trivial) (by trivial) (by trivial),?_⟩;apply⟨a,z,S,f,o,hs,E,I,rfl,A,N,t1,t2,λr l1 l2 as l H1 s1 a7 a8 er h1 ll hb h2 a9 gP pl bP hP eP=>?_⟩;left;dsimp only[cxOf,Cx.nox];intro d U;have M:Same H1 (upd H1 d (DOx P w d [])):=KE U rfl;have ed:DOAt P w (upd H1 d (DOx P w d [])) d []:=⟨jz,λp L=>nomatch L⟩
 have a2:d≠l1:=λz=>by rw[z,h1]at U;cases U
 generalize a1:upd H1 d (DOx P w d [])=H2 at M ed|-;clear a1;have a6:=s1.trans M;have al:=gP.1;apply zTu (M _ _ er) ?_;apply⟨rfl,l2,_,rfl,SqL.of (M _ _ h2),?_⟩;walk_at"f lr hlr H3 s3 e3";have Z:=a6.trans s3;have a5:lr≠d:=λz=>by rw[z,ed.1]at hlr;cases hlr
 rw[<-map_reverse]at e3;refine⟨lr,rfl,⟨_,SqL.of e3⟩,?_⟩;have gR:GonAt H3 as.reverse l.reverse:=All2.mono (All2.rev gP) λc y h=>s3 _ _ (M _ _ h)
 refine Jx (xs:=as.reverse.map V.ref) (λk σ j=>IvE3 λ(o4 o5:N3) (xs:List OE)=>IvA6 (σ=[some (.ref a),some (.int I),some (.ref r),some (.ref d),o4,o5]) (∀c u,c≠d->H3 c=some u->j c=some u) (DOAt P w j d xs) (xs.length<=k) ((∀x∈l.reverse.take k,DV j (getO xs [some (x.1:Int),some x.2]) (pinF S f o (strH S f o E I) x.1 x.2))) ((∀(y:KO),getO xs [y,none] = .non)/\(k=0->xs=[])))
  ⟨_,_,[],rfl,λc u _ h=>h,⟨s3 _ _ ed.1,λp L=>nomatch L⟩,vb _,(λx B=>nomatch B),λy=>rfl,λ_=>rfl⟩ ?_ ?_ ?_
 .rintro k σ j _ ⟨o4,o5,xs,rfl,G,_⟩;exact SqL.of (G _ _ a5 e3)
 .rintro k v σ j hv ⟨o4,o5,xs,rfl,G,B,xl,m,J,_⟩;obtain⟨c,x,rfl,g,hc⟩:=gR.at_ref hv;have hk:=(vx.mp g).1;rw[length_reverse]at hk;obtain⟨x1,x2,x3⟩:=bP x (mem_reverse.mp (vm g));have kd:∀{c:Addr} {u:HO},H c=some u->j c=some u:=λ{c u} h=>G _ _ (λz=>by rw[z]at h;exact ue (s1 _ _ h) (by rw[U];simp)) (Z _ _ h)
  have sH:Same H j:=λc u h=>kd h
  have nt:∀{c:Addr} {O:N2},H3 c=some (.tup O)->j c=some (.tup O):=λ{c O} h=>G _ _ (λz=>by rw[z,s3 _ _ ed.1]at h;cases h) h
  have X:KidsP j xs (pinF S f o (strH S f o E I)) (prg o x.2 (pcB f o x.1)):=λy hy=>by
   unfold subP;cases hr:y.2.2.2 with
   | none=>rw[J];exact .non
   | some r0=>
    obtain⟨e1,R⟩:=vx.mp g;have a0:ply f o (f.length-1) I=l.take (l.length-1-k)++x::(l.reverse.take k).reverse:=by
     rw[<-eP,List.take_reverse,List.reverse_reverse];have a3:l[l.length-1-k]?=some x:=by
      rw[List.getElem?_reverse ⋯]at g;exact g
     have:=List.take_append_drop (l.length-1-k) l;rw[drop_eq_getElem_cons ⋯,(vx.mp a3).2,show l.length-1-k+1=l.length-k by lia]at this;exact this.symm
    exact m _ (mem_reverse.mp (j5t N a0 y hy r0 hr))
  refine qj (SqT.of (nt hc)) ?_;apply zTu (nt (s3 _ _ (M _ _ er))) ?_;apply⟨a,l1,d,z,S,f,o,hs,E,_,xs,x.1,x.2,rfl,A.same sH,N,G _ _ (Ne.symm a2) (s3 _ _ (M _ _ h1)),ll,B,x1,x2,x3,X,λv H4 s4 dv=>?_⟩;apply⟨uc,?_⟩;walk_at"f kt hkt H5 s5 e5";have F:=s4.trans s5;have C:DOAt P w H5 d xs:=⟨F _ _ B.1,λp L=>F _ _ (B.2 p L)⟩
  refine⟨d,kt,[some (x.1:Int),some x.2],xs,rfl,rfl,C,e5,⋯,?_⟩;dsimp only[cxOf,Cx.nox];have aa:=XY (xs:=xs) (k:=[some (x.1:Int),some x.2]) (b:=kt) (v:=v);have a4:∀c O,H5 c=some (.tup O)->upd H5 d (DOx P w d (putO xs [some (x.1:Int),some x.2] kt v)) c=some (.tup O):=λc O h=>(jo (λz=>by rw[z,C.1]at h;cases h)).trans h
  have Y:∀{v':V} {D:PyData},DV H5 v' D->DV (upd H5 d (DOx P w d (putO xs [some (x.1:Int),some x.2] kt v))) v' D:=λh=>h.but2 (by rw[C.1];exact⟨(λ_ z=>nomatch z),(λ_ z=>nomatch z)⟩)
  refine⟨_,_,_,rfl,λc u n h=>(jo n).trans (F _ _ (G _ _ n h)),⟨jz,j4f C.2 e5 a4⟩,⋯,λy hy=>?_,λy=>?_,λz=>⋯⟩
  .rw[Xw];rw[take_snoc g]at hy;split
   .rename_i e;injection e with e1 R;injection R with R _;have e1:(y.1:Int)=x.1:=vL e1;have R:y.2=x.2:=vL R;rw[R,show y.1=x.1 by lia];exact Y (dv.mono s5)
   .rename_i ne';rcases vh.mp hy with h | h
    .exact Y ((m y h).mono F)
    .rw[vo.mp h]at ne';exact ue rfl ne'
  .rw[Xw,vc (λz=>nomatch z)];exact J y
 rintro σ j ⟨o4,o5,xs,rfl,G,B,xl,m,J,hz⟩;have kd:∀{c:Addr} {u:HO},H c=some u->j c=some u:=λ{c u} h=>G _ _ (λz=>by rw[z]at h;exact ue (s1 _ _ h) (by rw[U];simp)) (Z _ _ h)
 have sH:Same H j:=λc u h=>kd h
 have fl:=A.fo.1;rw[vt,length_reverse,al,take_of_length_le (by rw[length_reverse];lia)]at m;rw[vt,length_reverse,al]at hz xl;apply j1K ?_;apply⟨d,xs,rfl,B,?_⟩;apply⟨a,_,dx,_,_,rfl,sH _ _ ob,T.jV,T.J2,kE,?_⟩;apply⟨_,_,rfl,.inl ⟨_,SqL.of (sH _ _ A.ho),rfl⟩,?_⟩;rw[vt,fl];apply⟨uc,?_⟩;walk_at"f 7 e";refine⟨p7,[some ((f.length-1:Nat):Int),some I],xs,rfl,⟨s7 _ _ B.1,λp L=>s7 _ _ (B.2 p L)⟩,?_,?_⟩
 .rw[show((f.length:Nat):Int)-1=((f.length-1:Nat):Int) by lia]at e7;exact e7
 refine q _ H7 (sH.trans s7) ?_;unfold pinD;by_cases c:o.getD (f.length-1) 0<=I
 .rw[vd c];rw[wy c]at eP;rw[hz (by rw[eP];rfl)];exact .non
 .rw[vc c];refine(m (f.length-1,I) (mem_reverse.mpr ?_)).mono s7;rw[eP,xU W c];exact vq
def Kl(T:Txt K mg t)(c:4<*t.kc t.kA ["stage","beat"] (sp_pinsat t.jJ)):5<*t.qV t.Qa ["self"] (sp_pinsM t.jG t.jJ):=by
 specialize T.KK.ok Kq;obtain⟨m,i,z,f,g,d,e,E,j,rfl,A,N,k,l,q⟩:=h;refine⟨_,(jf (jy (jt T.Wh c hr (ja (Jp (pv 0) rfl) (ja (Jp (pv 0) rfl) jc))))),?_⟩;refine jD (S':=[some _]) rfl ?_
 try dsimp only[cxOf,Cx.nox]
 obtain⟨a,b⟩:=A.ob;apply⟨m,_,a,_,_,rfl,b,T.jU,T.Ju,K4,?_⟩;apply⟨m,_,a,_,_,rfl,b,T.jU,T.Jl,Yy,?_⟩;left;exact⟨i,z,f,g,d,e,E,j,rfl,A.sg,N,k,l,q⟩
def Kn(T:Txt K mg t):1<*t.qc t.qf ["_law_script","_law_k"] (Pr.sp_cell_at K):=by
 specialize T.JK.F.ok Ks;obtain⟨a,g,k,rfl,b,f,d,q⟩:=h;refine⟨_,(jb (jP (jp ZX (pv 1) (jC jR (by rfl) T.JJ Jb (ja (pv 0) jc)) (nomark _))
   (jf (jy (jk jv (pv 0) (pv 1))))
   jx)
  (jf (jy jd))),?_⟩
 refine jD (S':=[some _,some _]) rfl ?_
 try dsimp only[cxOf,Cx.nox]
 apply⟨_,_,rfl,.inl ⟨_,b,rfl⟩,?_⟩;apply iteD (λc=>?_) (λc=>?_)
 .left;exact⟨a,_,k,_,rfl,rfl,b,Pr.j4Q d (by rw[vt]at c;exact c),q⟩
 .left;have e:Pr.cell g k=0:=by
   rw[vt]at c;unfold Pr.cell;rw[vy,vT ⋯];rfl
  rw[e]at q;exact q
def wV(T:Txt K mg t):1<*t.qt t.qx ["_law_cell","_law_k"] (KF):=by
 refine T.JR.F.ok Wa (λf H Q E h=>?_) (λe A d s H f Q E g h=>?_)
 .obtain⟨c,k,rfl,a,b,q⟩:=h;rfl
 obtain⟨c,k,rfl,a,b,q⟩:=h;refine⟨_,(jf (jy (jw j3 (jw Q6 (jw j2 (jw j2 (jw j3 (pv 0) (jw yq jd jd)) (jw Q6 (pv 1) (pv 1))) jd) jd) (jw j2 (jw yq jd jd) jd)))),?_⟩;refine jD (S':=[some _,some _]) rfl ?_
 try dsimp only[cxOf,Cx.nox]
 have j:=ve c (show(10^30:Int)≠0 by decide);have l:=vf c (show(0:Int)<10^30 by decide);have i:0<=k*k/\k*k<=10^40:=⟨Int.mul_nonneg a a,by have:=Int.mul_le_mul b b a nofun;lia⟩
 left;exact q
def xI(T:Txt K mg t):1<*t.QJ t.QO ["_law_place","_law_k"] (sp_wordB):=by
 specialize T.QF.F.ok xY;obtain⟨p,k,rfl,f,e,q⟩:=h;refine⟨_,(jf (jy (jw ZL (jw ZL (jw ZL (Zv j4t jE yS (zU (pv 0))) (jk xr jE (jw j3 (pv 1) jd))) (jk xr jE (jw Je (pv 1) jd))) (Zv j4t jE (zU (pv 0)) yS)))),?_⟩;refine jD (S':=[some _,some _]) rfl ?_
 try dsimp only[cxOf,Cx.nox]
 have j:(200:Nat)<sizeLine:=by decide
 have b:(Str.ofString "abcdefghijklnopqrstuvwxyz").cps.toList[((k%25:Nat):Int).toNat]?=some (abB.cps.toList.getD (k%25) 97):=by
  have l:(Str.ofString "abcdefghijklnopqrstuvwxyz").cps.toList.length=25:=by trivial
  show _=some ((Str.ofString "abcdefghijklnopqrstuvwxyz").cps.toList.getD (k%25) 97);rw[Int.toNat_natCast,vy,vz ⋯];rfl
 have g:(Txt.slice (Str.ofString "mm") none (some ((p:Nat):Int))).length<=4:=vW Xp (by trivial);have i:(Txt.slice (Str.ofString "mm") (some ((p:Nat):Int)) none).length<=4:=vW Xp (by trivial);have a:∀c,(⟨#[c]⟩:Str).length=1:=λc=>rfl
 apply⟨(by trivial),?_⟩;left;rw[show((k:Nat):Int)%25=((k%25:Nat):Int) by lia];refine⟨_,_,_,rfl,rfl,(by trivial),j2Z ⋯ b,?_⟩;refine⟨_,_,rfl,rfl,by rw[a];lia,?_⟩;left;have d:atI (Str.ofString "nopq").cps.toList (((k:Nat):Int)/25)=some (if k<25 then 110 else 111):=by
  by_cases c:k<25
  .rw[vd c,show((k:Nat):Int)/25=0 by lia];decide +kernel
  .rw[vc c,show((k:Nat):Int)/25=1 by lia];decide +kernel
 refine⟨_,_,(if k<25 then 110 else 111),rfl,rfl,(by trivial),?_,?_⟩
 .exact d
 refine⟨_,_,rfl,rfl,by rw[Str.length_append,a,a];lia,?_⟩;apply⟨(by trivial),?_⟩;refine⟨_,_,rfl,rfl,by rw[Str.length_append,Str.length_append,a,a];lia,?_⟩;exact q
def wX(T:Txt K mg t):1<*t.QX t.Q2 ["_law_number","_law_names","_law_movers","_law_kind"] (sp_namedB):=by
 specialize T.QT.F.ok JI;obtain⟨n,nl,ml,a1,L,m,Ms,o,rfl,N,n1,n0,n2,hk,q⟩:=h;refine⟨_,(jb (jq' 4 JI.nd (jL jc))
  (jb (jq (i:=5) JI.nd rfl (.inr rfl) (jL jc))
  (jb (j7 PassesOwn.never rfl (qA (by rfl) T.qY (ja (jC jR (by rfl) T.JJ Jb (ja (pv 1) jc)) jc)) (ju' 6 JI.nd)
   (jb (jq' 7 JI.nd (jw j3 (jw qK (jw qK (jC jR (by rfl) T.JJ Jb (ja (pv 1) jc)) jd) (jw Q6 (pv 6) (jw j2 jd (jw j3 (pv 0) jd)))) (jC jR (by rfl) T.JJ Jb (ja (pv 1) jc))))
   (jb (xV (i:=8) (ow:=["_law_one"]) (ci:=[5]) rfl (CompScope.of (defScope Q7) ["_law_number","_law_names","_law_movers","_law_kind","_law_some","_law_used","_law_j","_law_at","_law_twice"] rfl rfl (by trivial)) (Jy nofun) JI.nd rfl (.inl rfl) (jX (jk jv (pv 2) (pv 7))) (λ_ _ _ _ _=>⟨(ju' 0 (jT ["_law_number","_law_names","_law_movers","_law_kind","_law_some","_law_used","_law_j","_law_at","_law_twice"] rfl (by trivial))),(j0O (jp (Yj (K:=K) rfl) (pv 0) (pv 1) (by with_unfolding_all rfl))),(pv 0)⟩))
   (jb (JX (PW.pt (Qf (jp jS (pv 3) jE (nomark _)) (qJ (jp ZX (pv 6) (jw j2 jd (jw j3 (jw Je (pv 0) jd) jd)) (nomark _)))))
    (jf (jO (Js q3 q4 q5 jK (pv 4) (ja (jk jv (pv 1) (pv 7)) jc))))
    jx)
   (jf (jP (PW.pt (Qf (jp jS (pv 3) jE (nomark _)) (Qf (jp (wu hr.units) (jk jv (pv 2) (pv 7)) (jL jc) (nomark _)) (Qf (jp (j0L hr.units) (pv 8) (jL jc) (nomark _)) (qJ (jp ZX (jC jR (by rfl) T.JJ Jb (ja (pv 4) jc)) jd (nomark _)))))))
    (jb (jO (Js q3 q4 q5 jK (pv 4) (ja (jk jv (pv 1) (pv 7)) jc)))
    (jf (jq (i:=5) JI.nd rfl (.inr rfl) (jw kJ (pv 5) (jk jv (pv 2) (pv 7))))))
    jx))))))
  (jf (jy (Jn JE (by rfl) T.zN QK (ja (pv 4) jc))))))),?_⟩
 refine jD (S':=[some _,some _,some _,some _,none,none,none,none,none]) rfl ?_
 try dsimp only[cxOf,Cx.nox]
 have a4:=N.n20;have m8:∀j,(Ms.getD j []).length<=8:=λj=>by
  by_cases h:j<m.length
  .exact(N.mv h).choose_spec.2.2.1
  .rw[vy,vT (by have:=N.ml;lia)];exact va _
 apply⟨va _,?_⟩;walk_at"f ps hps H1 s1 t1";apply⟨va _,?_⟩;walk_at"f pu hpu H2 s2 t2";have R:=s1.trans s2;have B:∀{c u},H c=some u->c≠ps:=λh=>je h hps
 have a3:pu≠ps:=(je t1 hpu).symm;apply⟨_,_,rfl,.inl ⟨_,SqL.of (R _ _ N.en),rfl⟩,?_⟩;rw[vt];apply⟨_,rfl,⋯,⋯,?_⟩;refine Qu (λt σ p=>IvE4 λ(o6 o7 o8:N3) (e:Addr)=>IvA4 (σ=[some (.int n),some (.ref nl),some (.ref ml),some (.str o),some (.ref ps),some (.ref e),o6,o7,o8]) (e≠ps) (∀c u,H c=some u->p c=some u) (p ps=some (.lst (((nmS n m.length Ms (decide (o = "row")) t).1.map λj=>m.getD j ⟨#[]⟩).map V.str))/\p e=some (.lst ((nmS n m.length Ms (decide (o = "row")) t).2.map V.str)))) ⟨_,_,_,pu,rfl,a3,R,s2 _ _ t1,t2⟩ ?_ ?_
 .rintro t σ H3 ht ⟨o6,o7,o8,e,rfl,g,C,I,X⟩;have m0:=ve n (show(3:Int)≠0 by decide);have m1:=vf n (show(0:Int)<3 by decide);apply⟨_,_,rfl,.inl ⟨_,SqL.of (C _ _ N.en),rfl⟩,?_⟩;rw[vt];apply⟨_,_,rfl,.inl ⟨_,SqL.of (C _ _ N.en),rfl⟩,?_⟩;rw[vt];left;have J:((m.length:Int)-1-(0+(t:Int))*(1+n%3))%(m.length:Int)=((atB n m.length t:Nat):Int):=by
   unfold atB;have a:=ve ((m.length:Int)-1-(t:Int)*(1+n%3)) (show(m.length:Int)≠0 by lia);rw[uv];lia
  rw[J];have W:=j0a (n:=n) (t:=t) n1;have d:=j3K (n:=n) (len:=m.length) (Ms:=Ms) (ro:=decide (o = "row")) t;have us:=j3L (n:=n) (len:=m.length) (ro:=decide (o = "row")) m8 t;have sl:=Ky (n:=n) (len:=m.length) (Ms:=Ms) (ro:=decide (o = "row")) t;generalize nmS n m.length Ms (decide (o = "row")) t=S at I X d us sl;generalize atB n m.length t=j at W d|-;clear J;obtain⟨ma,a0,v,a2,mw⟩:=N.mv W;have aM:atI (a1.map V.ref) ((j:Nat):Int)=some (.ref ma):=jN (by rw[vv,a0];rfl);refine ixLm (SqL.of (C _ _ N.em)) (aM) ?_;refine⟨ma,rfl,⟨_,SqL.of (C _ _ v)⟩,?_⟩;refine Jm (xs:=(Ms.getD j []).map V.str) (λi ys p=>ys=(((Ms.getD j []).take i).filter λs=>decide (s∈S.2)).map V.str/\H3=p) ⟨rfl,rfl⟩ ?_ ?_ ?_
  .rintro i ys p _ ⟨rfl,rfl⟩;exact SqL.of (C _ _ v)
  .rintro i x ys p Y ⟨rfl,rfl⟩;rw[vv]at Y;obtain⟨k,M,rfl⟩:=vg.mp Y;have ik:=(vx.mp M).1;refine Jh (S':=[none,some _]) rfl ?_;apply⟨e,_,rfl,.inl (SqL.of X),rfl,flatB _,?_⟩;rw[inB];left;rw[take_snoc M,filter_append];have lf:(((Ms.getD j []).take i).filter λs=>decide (s∈S.2)).length<=8:=vW (length_filter_le _ _) (by rw[vi];lia);refine iteD (λc=>?_) (λc=>?_)
   .apply⟨by rw[vt];lia,?_,rfl⟩;rw[vj,uz,vd (vG c),filter_nil];rfl
   .refine⟨?_,rfl⟩;rw[uz,vc (by rw[vH c];exact vF),filter_nil,append_nil]
  rintro ys p ⟨rfl,rfl⟩;rw[show((Ms.getD j []).map V.str).length=(Ms.getD j []).length from vt _,v7];have lf:((Ms.getD j []).filter λs=>decide (s∈S.2)).length<=8:=vW (length_filter_le _ _) a2;have wf:∀x∈(Ms.getD j []).filter (λs=>decide (s∈S.2)),Ws.isW x=true:=λx Y=>mw x (vP.mp Y).1
  refine⟨by rw[vt];lia,?_⟩;sleep 5;have k5:Same H H5:=λc u h=>s5 _ _ (C _ _ h)
  have y:=s5 _ _ I;have r:=s5 _ _ X;have n5:p5≠ps:=(je I hp5).symm;apply⟨λS' p=>IvE1 λ(U:L6)=>IvA4 (S'=[some (.int n),some (.ref nl),some (.ref ml),some (.str o),some (.ref ps),some (.ref e),some (.int (0+(t:Int))),some (.int (j:Nat)),some (.ref p5)]) (∀c u,c≠ps->H5 c=some u->p c=some u) (p ps=some (.lst ((U.map λj=>m.getD j ⟨#[]⟩).map V.str))) ((o = "row"->U=(nmS n m.length Ms (decide (o = "row")) (t+1)).1/\(nmS n m.length Ms (decide (o = "row")) (t+1)).2=S.2)/\(o≠"row"->U=S.1)),?_,?_⟩
  rotate_left
  .apply iteD (λc=>?_) (λc=>?_)
   .rw[vd (vG c)]at d;apply iteD (λc2=>?_) (λc2=>?_)
    .rw[vd ⋯]at d;apply⟨.inl ⟨rfl,_,SqL.of y⟩,?_⟩;apply ixLm (SqL.of (k5 _ _ N.en)) (zL W) ?_;apply⟨ps,_,_,rfl,rfl,y,by rw[vt,vt];lia,?_⟩;refine⟨S.1++[j],rfl,λc u hc h=>(jo hc).trans h,?_,λ_=>by rw[d];exact⟨rfl,rfl⟩,λh=>ue c h⟩;rw[jz,vj,vj];rfl
    .rw[vc ⋯]at d;left;exact⟨S.1,rfl,λc u _ h=>h,y,λ_=>by rw[d];exact⟨rfl,rfl⟩,λh=>ue c h⟩
   .left;exact⟨S.1,rfl,λc u _ h=>h,y,λh=>ue h c,λ_=>rfl⟩
  rintro S' H6 ⟨U,rfl,G,D,O,F⟩;have l:Same H H6:=λc u h=>G _ _ (B h) (k5 _ _ h)
  apply iteD (λc=>?_) (λc=>?_)
  .have nr:o≠"row":=λz=>by rw[z]at c;exact ue c (by trivial)
   obtain rfl:=F nr;rw[vc (by rw[vH nr];exact vF)]at d;apply ixLm (SqL.of (l _ _ N.em)) (aM) ?_;apply⟨va _,?_⟩;sleep 7;refine⟨_,_,.lst (s7 _ _ (l _ _ v)) (ZJ _),j2a t7,shpB mw,shp0,?_⟩;rw[eqvB];apply iteN (λd1=>?_) (λd1=>?_)
   .apply⟨va _,?_⟩;sleep 8;have f:=s7.trans s8;refine⟨_,_,.lst (f _ _ (G _ _ n5 t5)) (ZJ _),j2a t8,shpB wf,shp0,?_⟩;rw[eqvB];apply iteD (λd2=>?_) (λd2=>?_)
    .apply⟨_,_,rfl,.inl ⟨_,SqL.of (f _ _ D),rfl⟩,?_⟩;rw[vt,vt];apply iteD (λd3=>?_) (λd3=>?_)
     .rw[vd ⟨d1,d2,⋯⟩]at d;apply⟨.inl ⟨rfl,_,SqL.of (f _ _ D)⟩,?_⟩;apply ixLm (SqL.of (f _ _ (l _ _ N.en))) (zL W) ?_;apply⟨ps,_,_,rfl,rfl,f _ _ D,by rw[vt,vt];lia,?_⟩;generalize eG:upd H8 ps _=H9;have e9:H9 ps=some (.lst (((S.1++[j]).map λj=>m.getD j ⟨#[]⟩).map V.str)):=by
       rw[vj,vj];exact qD eG
      have Z:∀c u,c≠ps->H6 c=some u->H9 c=some u:=λc u hc h=>eG▸(jo hc).trans (f c u h)
      clear eG;apply ixLm (SqL.of (Z _ _ (B N.em) (l _ _ N.em))) (aM) ?_;refine⟨e,ma,_,_,rfl,rfl,Z _ _ g (G _ _ g r),Z _ _ (B v) (l _ _ v),by rw[vt,vt];lia,?_⟩;sleep 10;apply⟨_,_,_,p10,rfl,(je e9 hp10).symm,λc u h=>s10 _ _ (Z _ _ (B h) (l _ _ h)),by rw[d];exact s10 _ _ e9,by rw[d,vj];exact t10⟩
     .rw[vc (λz=>d3 ⋯)]at d;left;exact⟨_,_,_,e,rfl,g,λc u h=>f _ _ (l _ _ h),by rw[d];exact f _ _ D,by rw[d];exact f _ _ (G _ _ g r)⟩
    .rw[vc (λz=>d2 z.2.1)]at d;left;exact⟨_,_,_,e,rfl,g,λc u h=>f _ _ (l _ _ h),by rw[d];exact f _ _ D,by rw[d];exact f _ _ (G _ _ g r)⟩
   .rw[vc (λz=>z.1 d1)]at d;left;exact⟨_,_,_,e,rfl,g,λc u h=>s7 _ _ (l _ _ h),by rw[d];exact s7 _ _ D,by rw[d];exact s7 _ _ (G _ _ g r)⟩
  .have cr:o = "row":=hk.resolve_right c;obtain⟨r1,r2⟩:=O cr;left;exact⟨_,_,_,e,rfl,g,l,by rw[<-r1];exact D,by rw[r2];exact G _ _ g r⟩
 .rintro σ p ⟨o6,o7,o8,e,rfl,g,C,I,X⟩;apply⟨ps,_,rfl,.inl ⟨SqL.of I,?_⟩⟩;walk_at"f b hb H3 s3 t3";exact q b H3 (λc u h=>s3 _ _ (C _ _ h)) t3
def xD(T:Txt K mg t)(qT:1<*t.QX t.Q2 ["_law_number","_law_names","_law_movers","_law_kind"] (sp_namedB)):2<*t.Z7 t.ye ["_law_number","_law_names","_law_movers","_law_limbs","_law_bounds"] (sp_formB):=by
 specialize T.kW.F.ok qB;obtain⟨n,C,I,pl,bd,p,ab,B,d,Ms,b0,b1,b2,b3,b4,rfl,N,L,Bd,n0,n2,q⟩:=h;refine⟨_,(jb (jq' 5 qB.nd (jw j3 (pv 0) jd))
  (jb (jq' 6 qB.nd (jw Je (pv 0) jd))
  (jb (jq' 7 qB.nd (jw j2 jd (jw j3 (jw Je (pv 0) (jw yq jd jd)) (jk jv (pv 4) (jw j3 (jw Je (pv 0) jd) jd)))))
  (jb (JX (PW.pt (Qf (jp (j0L hr.units) (pv 1) (jL jc) (nomark _)) (qJ (jp y6 (pv 5) jd (nomark _)))))
   (jf (jq' 5 qB.nd (jw j3 (jw Je (pv 0) jd) jd)))
   jx)
  (jb (jP (jp ZX (pv 5) jd (nomark _))
   (jf (jy (jI (ja jE (ja (jk jr (jk jv (pv 3) (jw j3 (pv 6) (jC jR (by rfl) T.JJ Jb (ja (pv 3) jc)))) jd) (ja (jw j3 (jw Je (pv 6) jd) (jk jv (pv 4) jd)) (ja (pv 7) jc)))))))
   jx)
  (jb (jP (jp jS (pv 5) jd (nomark _))
   (jf (jy (jI (ja jE (ja (jk jv (jw kJ (jw kJ (jL (ja jE (ja jE jc))) (Zv j1R (pv 1) yS (zU jd))) (jL (ja jE jc))) (jw j3 (pv 6) jd)) (ja (pv 7) jc))))))
   jx)
  (jb (jP (jp jS (pv 5) jd (nomark _))
   (jf (jy (jI (ja jE (ja (jt T.QT qT hr (ja (pv 6) (ja (pv 1) (ja (pv 2) (ja jE jc))))) jc)))))
   jx)
  (jb (jP (PW.pt (Qf (jp jS (pv 5) jd (nomark _)) (qJ (jp y6 (jC jR (by rfl) T.JJ Jb (ja (jt T.QT qT hr (ja (pv 6) (ja (pv 1) (ja (pv 2) (ja jE jc))))) jc)) jd (nomark _)))))
   (jf (jy (jI (ja jE (ja (jt T.QT qT hr (ja (pv 6) (ja (pv 1) (ja (pv 2) (ja jE jc))))) jc)))))
   jx)
  (jb (jP (jp jS (pv 5) jd (nomark _))
   (jb (jq' 8 qB.nd (jw qK (jw qK (jC jR (by rfl) T.JJ Jb (ja (pv 1) jc)) jd) (jw j3 (pv 6) (jC (ko rfl) (by rfl) T.j33 j0e (ja jd (ja (jC jR (by rfl) T.JJ Jb (ja (pv 1) jc)) jc))))))
   (jf (jy (jI (ja jE (ja (jw j2 jd (jw j3 (jw Je (pv 0) (jw yq jd jd)) (jk jv (pv 4) jd))) (ja (jk jv (pv 1) (pv 8)) jc)))))))
   jx)
  (jf (jy (jI (ja jE (ja (pv 7) jc)))))))))))))),?_⟩
 refine jD (S':=[some _,some _,some _,some _,some _,none,none,none,none]) rfl ?_
 try dsimp only[cxOf,Cx.nox]
 have ac:=N.n20;have l1:=L.l1;have a0:=L.la.1;obtain⟨eb,M,O,R,S,a1,a2,a3,a4,a5,a6⟩:=Bd;have k0:=ve n (show(8:Int)≠0 by decide);have k1:=vf n (show(0:Int)<8 by decide);have i0:=ve (n/8) (show(2:Int)≠0 by decide);have i1:=vf (n/8) (show(0:Int)<2 by decide);obtain⟨m,W,a7,a8⟩:=at01 (b2:=b2) (b3:=b3) (b4:=b4) ⟨M,O⟩ ⟨R,S⟩ i0 i1;have m0:0<=n/100:=⋯
 have m1:n/100<=10^40:=⋯
 have v0:=ve (n/10^12) (show m≠0 by lia);have v1:=vf (n/10^12) (show 0<m by lia);apply j4m ?_;apply ixLm (SqL.of eb) (W) ?_;apply⟨λS' H'=>IvE1 λ(y:Int)=>IvA4 (S'=[some (.int n),some (.ref C),some (.ref I),some (.ref pl),some (.ref bd),some (.int y),some (.int (n/100)),some (.int (1+n/10^12%m)),none]) (Same H H') (0<=y) (y<8/\(4<y->1<=d.length)),?_,?_⟩
 rotate_left
 .apply⟨va _,?_⟩;walk_at"f e3 he3 H3 s3 t3";refine⟨_,_,.lst (s3 _ _ N.en) (ZJ _),j2a t3,shpB N.w,shp0,?_⟩;rw[eqvB];apply iteD (λc=>?_) (λc=>?_)
  .apply iteD (λc2=>?_) (λc2=>?_)
   .left;have F:=ve (n/16) (show(5:Int)≠0 by decide);have w1:=vf (n/16) (show(0:Int)<5 by decide);exact⟨_,rfl,s3,F,⋯,λh=>ue h ⋯⟩
   .left;exact⟨_,rfl,s3,k0,k1,λh=>ue h c2⟩
  .left;exact⟨_,rfl,s3,k0,k1,λ_=>length_pos_iff.mpr c⟩
 rintro S' H1 ⟨y,rfl,f,a9,aa,kn⟩;have l:=N.same f;have g:=L.same f;have u:=f _ _ eb;apply iteD (λc=>?_) (λc=>?_)
 .apply⟨_,_,rfl,.inl ⟨_,SqL.of g.el,rfl⟩,?_⟩;rw[vt,a0];left;have F:=ve (n/100) (show(B.length:Int)≠0 by lia);have w1:=vf (n/100) (show(0:Int)<(B.length:Int) by lia);generalize n/100%(B.length:Int)=r at F w1|-;obtain⟨j,rfl⟩:∃j:Nat,r=(j:Int):=⟨r.toNat,⋯⟩
  have x:j<B.length:=⋯
  obtain⟨lk,Y,X⟩:=g.la.get (vz x);refine ixLm (SqL.of g.el) (jN (j:=j) (by rw[vv,Y];rfl)) ?_;apply zTu X ?_;apply ixLm (SqL.of u) rfl ?_;left;have h0:=ve (n/100/10) (show b2≠0 by lia);have h1:=vf (n/100/10) (show 0<b2 by lia);refine⟨ua,?_⟩;walk_at"f b6 hb6 H6 s6 t6";refine q b6 (.rise B[j].1 (n/100/10%b2) (1+n/10^12%m)) H6 (f.trans s6) t6 ⟨⟨j,?_⟩,h0,⋯,⋯,⋯⟩;unfold nmsOf;rw[vv,vz x];rfl
 apply iteD (λc4=>?_) (λc4=>?_)
 .apply⟨uc,?_⟩;walk_at"f b3 hb3 H3 s3 t3";apply⟨C,_,rfl,SqL.of (s3 _ _ l.en),?_⟩;walk_at"f b4 hb4 H4 s4 t4";have cl:=zO (d.map V.str) none (some 1);rw[vt]at cl;refine⟨b3,b4,_,_,rfl,rfl,s4 _ _ t3,t4,by show 2+_<=sizeLine;lia,?_⟩;walk_at"f b5 hb5 H5 s5 t5";apply⟨ud,?_⟩;walk_at"f b6 hb6 H6 s6 t6";refine⟨b5,b6,_,_,rfl,rfl,s6 _ _ t5,t6,by rw[vn];show 2+_+1<=sizeLine;lia,?_⟩;walk_at"f b7 hb7 H7 s7 t7";left;have F:=ve (n/100) (show(3:Int)≠0 by decide);have w1:=vf (n/100) (show(0:Int)<3 by decide);have Z:∀v∈[V.str "ding",V.str "dong"]++cutV (d.map V.str) none (some 1)++[V.str "din"],∃w:Str,v = .str w/\Ws.isW w=true:=λv hv=>by
   rcases vh.mp hv with z | z
   .rcases vh.mp z with z | z
    .rcases mem_cons.mp z with rfl | z
     .exact⟨_,rfl,by trivial⟩
     .rw[vo.mp z];exact⟨_,rfl,by trivial⟩
    .obtain⟨J,o,rfl⟩:=vK.mp (j1b z);exact⟨J,rfl,N.w J o⟩
   .rw[vo.mp z];exact⟨_,rfl,by trivial⟩
  obtain⟨J,o,ww⟩:=Xj (k:=n/100%3) Z F (by rw[vn,vn];show _<(((2+_+1:Nat)):Int);lia);refine ixLm (SqL.of t7) (o) ?_;apply⟨ub,?_⟩;walk_at"f b8 hb8 H8 s8 t8";exact q b8 (.ring J (1+n/10^12%m)) H8 (f.trans (s3.trans (s4.trans (s5.trans (s6.trans (s7.trans s8)))))) t8 ⟨⋯,⋯,ww⟩
 apply iteD (λc5=>?_) (λc5=>?_)
 .have e:=kn ⋯;apply⟨_,C,I,p,_,d,Ms,"row",rfl,l,e,m0,m1,.inl rfl,λb2 H2 D U=>?_⟩;apply⟨uc,?_⟩;walk_at"f b6 hb6 H6 s6 t6";have ln:=Ky (n:=n/100) (len:=d.length) (Ms:=Ms) (ro:=decide (("row" : Str) = "row")) d.length;refine q b6 (.row (nmS (n/100) d.length Ms (decide (("row" : Str) = "row")) d.length).1) H6 (f.trans (D.trans s6)) ⟨b2,t6,s6 _ _ U⟩ ⟨j3J (by trivial) _ e,⋯,j0D e _⟩
 apply iteD (λc6=>?_) (λc6=>?_)
 .have e:=kn ⋯;apply⟨_,C,I,p,_,d,Ms,"side",rfl,l,e,m0,m1,.inr rfl,λb2 H2 D U=>?_⟩;have ln:=Ky (n:=n/100) (len:=d.length) (Ms:=Ms) (ro:=decide (("side" : Str) = "row")) d.length;refine⟨_,_,rfl,.inr ⟨_,SqT.of U,rfl⟩,?_⟩;rw[vt,vt];apply iteD (λc7=>?_) (λc7=>?_)
  .apply⟨_,C,I,p,_,d,Ms,"side",rfl,l.same D,e,m0,m1,.inr rfl,λb3 H3 s3 e3=>?_⟩;apply⟨uc,?_⟩;walk_at"f b6 hb6 H6 s6 t6";refine q b6 (.side (nmS (n/100) d.length Ms (decide (("side" : Str) = "row")) d.length).1) H6 (f.trans (D.trans (s3.trans s6))) ⟨b3,t6,s6 _ _ e3⟩ ⟨⋯,⋯,j0D e _,(j3I (by trivial) _).1.n N.il⟩
  .apply iteD (λG=>?_) (λG=>?_)
   .exact ue G ⋯
   apply⟨uc,?_⟩;walk_at"f b6 hb6 H6 s6 t6";exact q b6 (.hold (1+n/10^12%m)) H6 (f.trans (D.trans s6)) t6 ⟨⋯,⋯⟩
 refine iteF ?_;apply iteD (λG=>?_) (λG=>?_)
 .have e:=kn ⋯;apply⟨_,_,rfl,.inl ⟨_,SqL.of l.en,rfl⟩,?_⟩;rw[vt];apply⟨_,_,rfl,.inl ⟨_,SqL.of l.en,rfl⟩,?_⟩;rw[vt];refine⟨_,_,rfl,?_⟩;dsimp only;left;obtain⟨j,ej,x⟩:∃j:Nat,(d.length:Int)-1-n/100%(if(d.length:Int)<3 then(d.length:Int)else 3)=(j:Int)/\j<d.length:=by
   have a:=ve (n/100) (show(if(d.length:Int)<3 then(d.length:Int)else 3)≠0 by split<;>lia);have b:=vf (n/100) (show 0<(if(d.length:Int)<3 then(d.length:Int)else 3) by split<;>lia);generalize n/100%(if(d.length:Int)<3 then(d.length:Int)else 3)=z at a b|-;refine⟨((d.length:Int)-1-z).toNat,?_,?_⟩
   .split at b<;>lia
   .split at b<;>lia
  rw[ej];refine j4m ?_;apply ixLm (SqL.of u) rfl ?_;left;have h0:=ve (n/10^12) (show b3≠0 by lia);have h1:=vf (n/10^12) (show 0<b3 by lia);refine ixLm (SqL.of l.en) (zL x) ?_;apply⟨ub,?_⟩;walk_at"f b6 hb6 H6 s6 t6";exact q b6 (.again (1+n/10^12%b3) j) H6 (f.trans s6) t6 ⟨⋯,⋯,x⟩
 apply⟨uc,?_⟩;walk_at"f b6 hb6 H6 s6 t6";exact q b6 (.hold (1+n/10^12%m)) H6 (f.trans s6) t6 ⟨⋯,⋯⟩
def xF(T:Txt K mg t):1<*t.QH t.QM ["_law_form_here","_law_known"] (sp_longB):=by
 specialize T.QE.F.ok xW;obtain⟨C,d,f,o,F,L,M,rfl,y,J,U,W,p,N,q⟩:=h;refine⟨_,(jb (jP (jp jS (jk jr (pv 0) jd) jE (nomark _))
   (jf (jy (jC (yJ rfl) (by rfl) T.j19 W7 (ja (Jd (ow:=["_law_name"]) (ci:=[1]) rfl (CompScope.of (defScope QP) ["_law_form_here","_law_known"] rfl rfl (by trivial)) (Jy nofun) (ZM (jk jr (pv 0) jd)) (λ_ _ _ _ _=>⟨(ju' 0 (jT ["_law_form_here","_law_known"] rfl (by trivial))),Jt,(Qe (JZ hr) (pv 1) (pv 0))⟩)) jc))))
   jx)
  (jb (jP (jp jS (jk jr (pv 0) jd) jE (nomark _))
   (jf (jy (jC (kj rfl) (by rfl) T.j18 W6 (ja (Jd (ow:=["_law_name"]) (ci:=[1]) rfl (CompScope.of (defScope QP) ["_law_form_here","_law_known"] rfl rfl (by trivial)) (Jy nofun) (ZM (jk jr (pv 0) jd)) (λ_ _ _ _ _=>⟨(ju' 0 (jT ["_law_form_here","_law_known"] rfl (by trivial))),Jt,(Qe (JZ hr) (pv 1) (pv 0))⟩)) jc))))
   jx)
  (jb (jP (jp jS (jk jr (pv 0) jd) jE (nomark _))
   (jf (jy (jw Q6 (jk jr (pv 0) jd) (Qe (JZ hr) (pv 1) (jk jr (pv 0) jd)))))
   jx)
  (jf (jy (jk jr (pv 0) (jw qK (jC jR (by rfl) T.JJ Jb (ja (pv 0) jc)) jd))))))),?_⟩
 refine jD (S':=[some _,some _]) rfl ?_
 try dsimp only[cxOf,Cx.nox]
 have u:∀j,j<o.length->DGet H d (.str (o.getD j ⟨#[]⟩)) (some (.int (F.getD j 0))):=λj l=>by
  have g:=DGet.k (k:=Sum.inr (o.getD j ⟨#[]⟩)) J;rw[Kx U W l]at g;exact g
 obtain⟨D,c⟩:=p.js;cases f with
 | hold n=>
  have a:H C=some (.tup _):=y;apply zTu a ?_;apply iteE0 ?_;apply zTu a ?_;apply iteE0 ?_;apply zTu a ?_;apply iteE0 ?_;apply⟨_,_,rfl,.inr ⟨_,SqT.of a,rfl⟩,?_⟩;apply zTu a ?_;exact q _ H (Same.refl _) rfl
 | ring x n=>
  have a:H C=some (.tup _):=y;apply zTu a ?_;apply iteE0 ?_;apply zTu a ?_;apply iteE0 ?_;apply zTu a ?_;apply iteE0 ?_;apply⟨_,_,rfl,.inr ⟨_,SqT.of a,rfl⟩,?_⟩;apply zTu a ?_;exact q _ H (Same.refl _) rfl
 | rise x h n=>
  have a:H C=some (.tup _):=y;apply zTu a ?_;apply iteE0 ?_;apply zTu a ?_;apply iteE0 ?_;apply zTu a ?_;apply iteE0 ?_;apply⟨_,_,rfl,.inr ⟨_,SqT.of a,rfl⟩,?_⟩;apply zTu a ?_;exact q _ H (Same.refl _) rfl
 | row is=>
  obtain⟨b,a,z⟩:=y;have D:is.length<=8:=D;have c:∀j∈is,j<o.length:=c;apply zTu a ?_;apply iteE1 ?_;apply zTu a ?_;refine⟨b,rfl,⟨_,SqT.of z⟩,?_⟩;refine qZ (xs:=(is.map λj=>o.getD j ⟨#[]⟩).map V.str) (λt r m=>r=((is.take t).map λj=>F.getD j 0).map V.int/\H=m) ⟨rfl,rfl⟩ ?_ ?_ ?_
  .rintro t r m _ ⟨rfl,rfl⟩;exact SqT.of z
  .rintro t v r m B ⟨rfl,rfl⟩;rw[vv,vv]at B;obtain⟨x,G,rfl⟩:=vg.mp B;obtain⟨j,l,rfl⟩:=vg.mp G;have S:=(vx.mp l).1;refine Jh (S':=[none,some (.ref d)]) rfl ?_;apply iteT ?_;apply⟨d,_,rfl,u j (c j (vm l)),?_⟩;refine⟨by rw[vt,vt,vi];lia,?_,rfl⟩;rw[take_snoc l,vj,vj];rfl
  rintro r m ⟨rfl,rfl⟩;rw[show((is.map λj=>o.getD j ⟨#[]⟩).map V.str).length=is.length by rw[vt,vt],v7];refine⟨by rw[vt,vt];lia,?_⟩;sleep 1;apply⟨p1,_,rfl,SqL.of t1,?_⟩;exact q _ H1 s1 rfl
 | side is=>
  obtain⟨b,a,z⟩:=y;have D:is.length<=8:=D;have c:∀j∈is,j<o.length:=c;have Y:=p.1;apply zTu a ?_;apply iteE0 ?_;apply zTu a ?_;apply iteE1 ?_;apply zTu a ?_;refine⟨b,rfl,⟨_,SqT.of z⟩,?_⟩;refine qZ (xs:=(is.map λj=>o.getD j ⟨#[]⟩).map V.str) (λt r m=>r=((is.take t).map λj=>F.getD j 0).map V.int/\H=m) ⟨rfl,rfl⟩ ?_ ?_ ?_
  .rintro t r m _ ⟨rfl,rfl⟩;exact SqT.of z
  .rintro t v r m B ⟨rfl,rfl⟩;rw[vv,vv]at B;obtain⟨x,G,rfl⟩:=vg.mp B;obtain⟨j,l,rfl⟩:=vg.mp G;have S:=(vx.mp l).1;refine Jh (S':=[none,some (.ref d)]) rfl ?_;apply iteT ?_;apply⟨d,_,rfl,u j (c j (vm l)),?_⟩;refine⟨by rw[vt,vt,vi];lia,?_,rfl⟩;rw[take_snoc l,vj,vj];rfl
  rintro r m ⟨rfl,rfl⟩;rw[show((is.map λj=>o.getD j ⟨#[]⟩).map V.str).length=is.length by rw[vt,vt],v7];refine⟨by rw[vt,vt];lia,?_⟩;sleep 1;apply⟨p1,_,rfl,SqL.of t1,by rw[vt];lia,λg O R=>?_⟩;obtain⟨j,l,e⟩:=vK.mp O;exact q g H1 s1 ⟨⟨j,l,e.symm⟩,λj l=>R _ (vK.mpr ⟨j,l,rfl⟩)⟩
 | again k j=>
  have a:H C=some (.tup _):=y;have I:=c j vq;have X:=N j I;have Z:=p.1;have k2:=p.2.1;apply zTu a ?_;apply iteE0 ?_;apply zTu a ?_;apply iteE0 ?_;apply zTu a ?_;apply iteE1 ?_;apply zTu a ?_;apply zTu a ?_;apply⟨d,_,rfl,u j I,?_⟩;left;exact q _ H (Same.refl _) rfl
def wW(T:Txt K mg t):1<*t.qX t.Qc ["_law_form_here","_law_names","_law_movers"] (sp_movesB):=by
 specialize T.ZE.F.ok JH;obtain⟨C,G,R,a7,f,I,Ms,L,M,rfl,X,en,em,aM,nd,ln,ac,J,k4,q⟩:=h;refine⟨_,(jb (jP (jp jS (jk jr (pv 0) jd) jE (nomark _))
   (jf (jy (jL (ja (jk jr (pv 0) jd) jc))))
   jx)
  (jb (jq' 3 JH.nd (jL jc))
  (jb (JX (PW.pt (wC (jp jS (jk jr (pv 0) jd) jE (nomark _)) (wD (jp jS (jk jr (pv 0) jd) jE (nomark _)))))
   (jf (jq' 3 JH.nd (Jn Q0 (by rfl) T.kf yI (ja (jk jr (pv 0) jd) jc))))
   jx)
  (jb (JX (jp jS (jk jr (pv 0) jd) jE (nomark _))
   (jf (jq' 3 JH.nd (jL (ja (jk jr (pv 0) jd) jc))))
   jx)
  (jb (jq' 4 JH.nd (jL jc))
  (jb (j7 PassesOwn.never rfl (jX (pv 3)) (ju' 5 JH.nd)
   (jf (j7 PassesOwn.never rfl (jX (jk jv (pv 2) (Js q3 PySem.F.slot_list_index PySem.F.type_list_index j2q (pv 1) (ja (pv 5) jc)))) (ju' 6 JH.nd)
    (jf (jP (jp xN (pv 6) (pv 4) (by with_unfolding_all rfl))
     (jf (jO (Js q3 q4 q5 jK (pv 4) (ja (pv 6) jc))))
     jx)))))
  (jf (jy (pv 4))))))))),?_⟩
 refine jD (S':=[some _,some _,some _,none,none,none,none]) rfl ?_
 try dsimp only[cxOf,Cx.nox]
 cases f
 case rise x h n=>
  have o:H C=some (.tup _):=X;apply zTu o ?_;apply iteE1 ?_;apply zTu o ?_;apply⟨ud,?_⟩;sleep 1;refine q p1 [x] H1 s1 hp1 t1 ⟨pairwise_singleton _ _,λs=>?_⟩ (by show 1<=80;decide);rw[vo];constructor
  .rintro rfl;exact .inr ⟨h,n,rfl⟩
  .rintro(⟨j,hj,_⟩ | ⟨h',n',e⟩)
   .exact nomatch hj
   .injection e with e1;exact e1.symm
 case' hold n=>
  have o:H C=some (.tup _):=X;apply zTu o ?_;apply iteE0 ?_;apply⟨va _,?_⟩;sleep 1;have l:=s1 _ _ o;apply⟨λS' g=>IvE1 λ(d:Addr)=>IvA2 (S'=[some (.ref C),some (.ref G),some (.ref R),some (.ref d),none,none,none]) (Same H g/\g d=some (.lst (((rsB (Fn.hold n)).map λj=>I.getD j ⟨#[]⟩).map V.str))),?_,?_⟩
  rotate_left
  .apply zTu l ?_;apply iteE0 ?_;apply zTu l ?_;apply iteE0 ?_;left;exact⟨p1,rfl,s1,t1⟩
  rintro S' H2 ⟨p2,rfl,m,e2⟩;have r:=m _ _ o;apply⟨λS' g=>IvE1 λ(d:Addr)=>IvA2 (S'=[some (.ref C),some (.ref G),some (.ref R),some (.ref d),none,none,none]) (Same H g/\g d=some (.lst (((Fn.hold n).js.map λj=>I.getD j ⟨#[]⟩).map V.str))),?_,?_⟩
  rotate_left
  .apply zTu r ?_;apply iteE0 ?_;left;exact⟨p2,rfl,m,e2⟩
  rintro S' H3 ⟨d,rfl,D,O⟩;have W:∀Z u1 u2,(Fn.hold n)≠.rise Z u1 u2:=λ_ _ _ z=>by cases z
  clear X;generalize(Fn.hold n)=f at O W J q
 case' ring x n=>
  have o:H C=some (.tup _):=X;apply zTu o ?_;apply iteE0 ?_;apply⟨va _,?_⟩;sleep 1;have l:=s1 _ _ o;apply⟨λS' g=>IvE1 λ(d:Addr)=>IvA2 (S'=[some (.ref C),some (.ref G),some (.ref R),some (.ref d),none,none,none]) (Same H g/\g d=some (.lst (((rsB (Fn.ring x n)).map λj=>I.getD j ⟨#[]⟩).map V.str))),?_,?_⟩
  rotate_left
  .apply zTu l ?_;apply iteE0 ?_;apply zTu l ?_;apply iteE0 ?_;left;exact⟨p1,rfl,s1,t1⟩
  rintro S' H2 ⟨p2,rfl,m,e2⟩;have r:=m _ _ o;apply⟨λS' g=>IvE1 λ(d:Addr)=>IvA2 (S'=[some (.ref C),some (.ref G),some (.ref R),some (.ref d),none,none,none]) (Same H g/\g d=some (.lst (((Fn.ring x n).js.map λj=>I.getD j ⟨#[]⟩).map V.str))),?_,?_⟩
  rotate_left
  .apply zTu r ?_;apply iteE0 ?_;left;exact⟨p2,rfl,m,e2⟩
  rintro S' H3 ⟨d,rfl,D,O⟩;have W:∀Z u1 u2,(Fn.ring x n)≠.rise Z u1 u2:=λ_ _ _ z=>by cases z
  clear X;generalize(Fn.ring x n)=f at O W J q
 case' row is=>
  obtain⟨b,o,hb⟩:=X;apply zTu o ?_;apply iteE0 ?_;apply⟨va _,?_⟩;sleep 1;have l:=s1 _ _ o;apply⟨λS' g=>IvE1 λ(d:Addr)=>IvA2 (S'=[some (.ref C),some (.ref G),some (.ref R),some (.ref d),none,none,none]) (Same H g/\g d=some (.lst (((rsB (Fn.row is)).map λj=>I.getD j ⟨#[]⟩).map V.str))),?_,?_⟩
  rotate_left
  .apply zTu l ?_;apply iteE1 ?_;refine iteT ?_;apply zTu l ?_;apply⟨b,_,rfl,.inr (SqT.of (s1 _ _ hb)),?_⟩;sleep 2;left;exact⟨p2,rfl,s1.trans s2,t2⟩
  rintro S' H2 ⟨p2,rfl,m,e2⟩;have r:=m _ _ o;apply⟨λS' g=>IvE1 λ(d:Addr)=>IvA2 (S'=[some (.ref C),some (.ref G),some (.ref R),some (.ref d),none,none,none]) (Same H g/\g d=some (.lst (((Fn.row is).js.map λj=>I.getD j ⟨#[]⟩).map V.str))),?_,?_⟩
  rotate_left
  .apply zTu r ?_;apply iteE0 ?_;left;exact⟨p2,rfl,m,e2⟩
  rintro S' H3 ⟨d,rfl,D,O⟩;have W:∀Z u1 u2,(Fn.row is)≠.rise Z u1 u2:=λ_ _ _ z=>by cases z
  generalize(Fn.row is)=f at O W J q;clear o hb
 case' side is=>
  obtain⟨b,o,hb⟩:=X;apply zTu o ?_;apply iteE0 ?_;apply⟨va _,?_⟩;sleep 1;have l:=s1 _ _ o;apply⟨λS' g=>IvE1 λ(d:Addr)=>IvA2 (S'=[some (.ref C),some (.ref G),some (.ref R),some (.ref d),none,none,none]) (Same H g/\g d=some (.lst (((rsB (Fn.side is)).map λj=>I.getD j ⟨#[]⟩).map V.str))),?_,?_⟩
  rotate_left
  .apply zTu l ?_;apply iteE0 ?_;apply zTu l ?_;apply iteE1 ?_;apply zTu l ?_;apply⟨b,_,rfl,.inr (SqT.of (s1 _ _ hb)),?_⟩;sleep 2;left;exact⟨p2,rfl,s1.trans s2,t2⟩
  rintro S' H2 ⟨p2,rfl,m,e2⟩;have r:=m _ _ o;apply⟨λS' g=>IvE1 λ(d:Addr)=>IvA2 (S'=[some (.ref C),some (.ref G),some (.ref R),some (.ref d),none,none,none]) (Same H g/\g d=some (.lst (((Fn.side is).js.map λj=>I.getD j ⟨#[]⟩).map V.str))),?_,?_⟩
  rotate_left
  .apply zTu r ?_;apply iteE0 ?_;left;exact⟨p2,rfl,m,e2⟩
  rintro S' H3 ⟨d,rfl,D,O⟩;have W:∀Z u1 u2,(Fn.side is)≠.rise Z u1 u2:=λ_ _ _ z=>by cases z
  generalize(Fn.side is)=f at O W J q;clear o hb
 case' again k j=>
  have o:H C=some (.tup _):=X;apply zTu o ?_;apply iteE0 ?_;apply⟨va _,?_⟩;sleep 1;have l:=s1 _ _ o;apply⟨λS' g=>IvE1 λ(d:Addr)=>IvA2 (S'=[some (.ref C),some (.ref G),some (.ref R),some (.ref d),none,none,none]) (Same H g/\g d=some (.lst (((rsB (Fn.again k j)).map λj=>I.getD j ⟨#[]⟩).map V.str))),?_,?_⟩
  rotate_left
  .apply zTu l ?_;apply iteE0 ?_;apply zTu l ?_;apply iteE0 ?_;left;exact⟨p1,rfl,s1,t1⟩
  rintro S' H2 ⟨p2,rfl,m,e2⟩;have r:=m _ _ o;apply⟨λS' g=>IvE1 λ(d:Addr)=>IvA2 (S'=[some (.ref C),some (.ref G),some (.ref R),some (.ref d),none,none,none]) (Same H g/\g d=some (.lst (((Fn.again k j).js.map λj=>I.getD j ⟨#[]⟩).map V.str))),?_,?_⟩
  rotate_left
  .apply zTu r ?_;apply iteE1 ?_;apply zTu r ?_;apply⟨ud,?_⟩;sleep 3;left;exact⟨p3,rfl,m.trans s3,t3⟩
  rintro S' H3 ⟨d,rfl,D,O⟩;have W:∀Z u1 u2,(Fn.again k j)≠.rise Z u1 u2:=λ_ _ _ z=>by cases z
  clear X;generalize(Fn.again k j)=f at O W J q
 all_goals
  obtain⟨j8,a8⟩:=J.js;apply⟨va _,?_⟩;walk_at"f pf hpf H4 s4 t4";have a3:=D.trans s4;have mf:∀{c u},H c=some u->c≠pf:=λh=>je (D _ _ h) hpf
  have a9:d≠pf:=je O hpf;have aa:=aM.1;apply⟨d,rfl,⟨_,SqL.of (s4 _ _ O)⟩,?_⟩;refine Jx (xs:=(f.js.map λj=>I.getD j ⟨#[]⟩).map V.str) (λt σ g=>IvE3 λ(o5 Y:N3) (U:L8)=>IvA6 (σ=[some (.ref C),some (.ref G),some (.ref R),some (.ref d),some (.ref pf),o5,Y]) (∀c u,c≠pf->H4 c=some u->g c=some u) (g pf=some (.lst (U.map V.str))) U.Nodup (U.length<=8*t) (∀s,s∈U↔∃j∈f.js.take t,s∈Ms.getD j [])) ⟨_,_,[],rfl,λc u _ h=>h,t4,.nil,vb _,λs=>⟨(λh=>nomatch h),λ⟨j,hj,_⟩=>nomatch hj⟩⟩ ?_ ?_ ?_
  .rintro t σ g _ ⟨o5,Y,U,rfl,sm,_⟩;exact SqL.of (sm _ _ a9 (s4 _ _ O))
  .rintro t v σ H5 hv ⟨o5,Y,U,rfl,sm,e5,a2,kl,S⟩;rw[vv,vv]at hv;obtain⟨x,hx,rfl⟩:=vg.mp hv;obtain⟨j,hj,rfl⟩:=vg.mp hx;have tl:=(vx.mp hj).1;have jl:=a8 j (vm hj);obtain⟨l1,l2,l3⟩:=lidxB nd jl;have a4:Ms[j]?=some (Ms.getD j []):=by rw[vy,vz ⋯];rfl
   have ab:=k4 _ (vm a4);obtain⟨ma,a5⟩:∃ma,a7[j]?=some ma:=⟨_,vz ⋯⟩
   have a0:=aM.2 j ma _ a5 a4;have k5:∀{c u},H c=some u->H5 c=some u:=λh=>sm _ _ (mf h) (a3 _ _ h)
   apply⟨.inl ⟨rfl,_,SqL.of (k5 en)⟩,?_⟩;apply⟨G,_,.str _,.str _,j,rfl,rfl,SqL.of (k5 en),rfl,flatB _,l1,l2,l3,?_⟩;apply ixLm (SqL.of (k5 em)) (jN (show(a7.map V.ref)[j]?=some (.ref ma) by rw[vv,a5];rfl)) ?_;refine⟨ma,rfl,⟨_,SqL.of (k5 a0)⟩,?_⟩;refine Jx (xs:=(Ms.getD j []).map V.str) (λu σ g=>IvE2 λ(Y:N3) (B:L8)=>IvA6 (σ=[some (.ref C),some (.ref G),some (.ref R),some (.ref d),some (.ref pf),some (.str (I.getD j ⟨#[]⟩)),Y]) (∀c u,c≠pf->H4 c=some u->g c=some u) (g pf=some (.lst (B.map V.str))) B.Nodup (B.length<=8*t+u) (∀s,s∈B↔s∈U\/s∈(Ms.getD j []).take u)) ⟨_,U,rfl,sm,e5,a2,kl,λs=>⟨.inl,λh=>h.elim id λh=>nomatch h⟩⟩ ?_ ?_ ?_
   .rintro u σ g _ ⟨Y,B,rfl,N,_⟩;exact SqL.of (N _ _ (mf a0) (a3 _ _ a0))
   .rintro u v σ H6 hv ⟨Y,B,rfl,N,e6,F,a6,p⟩;rw[vv]at hv;obtain⟨y,hy,rfl⟩:=vg.mp hv;have ul:=(vx.mp hy).1;apply⟨pf,_,rfl,.inl (SqL.of e6),rfl,flatB _,?_⟩;rw[vd rfl,xp];refine⟨_,rfl,?_⟩;refine iteN (λc=>?_) (λc=>?_)
    .apply⟨.inl ⟨rfl,_,SqL.of e6⟩,?_⟩;apply⟨pf,_,_,rfl,rfl,e6,by rw[vt];lia,?_⟩;refine⟨_,B++[y],rfl,λc u hc h=>(jo hc).trans (N _ _ hc h),by rw[jz,vj];rfl,nodup_append.mpr ⟨F,pairwise_singleton _ _,λa o b hb e=>c (by rw[<-vo.mp hb,<-e];exact o)⟩,by rw[vn,vS];lia,λs=>?_⟩;rw[vh,p,vo,take_snoc hy,vh,vo,or_assoc]
    .apply⟨_,B,rfl,N,e6,F,⋯,λs=>?_⟩;rw[p,take_snoc hy,vh,vo];refine⟨λh=>h.elim .inl λh=>.inr (.inl h),?_⟩;rintro(h | h | rfl)
     .exact .inl h
     .exact .inr h
     .exact(p _).mp c
   .rintro σ H6 ⟨Y,B,rfl,N,e6,F,a6,p⟩;rw[vt]at a6 p;rw[v7]at p;apply⟨_,_,B,rfl,N,e6,F,⋯,λs=>?_⟩;rw[p,S,take_snoc hj];constructor
    .rintro(⟨j',a1,h⟩ | h)
     .exact⟨j',mem_append_left _ a1,h⟩
     .exact⟨j,mem_append_right _ vq,h⟩
    .rintro⟨j',a1,h⟩;rcases vh.mp a1 with z | z
     .exact .inl ⟨j',z,h⟩
     .rw[vo.mp z]at h;exact .inr h
  .rintro σ H5 ⟨o5,Y,U,rfl,sm,e5,a2,kl,S⟩;rw[show((f.js.map λj=>I.getD j ⟨#[]⟩).map V.str).length=f.js.length by rw[vt,vt]]at kl S;rw[v7]at S;left;exact q pf U H5 (λc u h=>sm _ _ (mf h) (a3 _ _ h)) (none_of D hpf) e5 ⟨a2,λs=>(S s).trans ⟨.inl,λh=>h.elim id λ⟨h',n',e⟩=>ue e (W _ _ _)⟩⟩ ⋯
def xE(T:Txt K mg t):1<*t.QG t.QL ["_law_names","_law_known","_law_most"] (sp_lastB):=by
 specialize T.ZY.F.ok Qi;obtain⟨X,d,f,S,B,rfl,N,M,nd,ng,n1,a0,gb,q⟩:=h;refine⟨_,(jb (jq' 3 Qi.nd (jL jc))
  (jb (jq' 4 Qi.nd jd)
  (jb (j7 PassesOwn.never rfl (j6z (by rfl) T.j0b (ja (pv 0) jc)) (ju' 5 Qi.nd)
   (jf (jP (PW.pt (Qf (jp ZX (jC jR (by rfl) T.JJ Jb (ja (pv 3) jc)) jd (nomark _)) (qJ (jp WP (jw j2 (pv 4) (Qe (JZ hr) (pv 1) (pv 5))) (pv 2) (nomark _)))))
    (jb (jO (Js q3 q4 q5 jK (pv 3) (ja (pv 5) jc)))
    (jf (jq' 4 Qi.nd (jw j2 (pv 4) (Qe (JZ hr) (pv 1) (pv 5))))))
    jx)))
  (jf (jy (Jn JE (by rfl) T.zN QK (ja (pv 3) jc))))))),?_⟩
 refine jD (S':=[some _,some _,some _,none,none,none]) rfl ?_
 try dsimp only[cxOf,Cx.nox]
 have p:∀(h:Hp) j,h d=some (.dK (knK f S))->j<f.length->DGet h d (.str (f.getD j ⟨#[]⟩)) (some (.int (S.getD j 0))):=λh j eh hj=>by
  have g:=DGet.k (k:=Sum.inr (f.getD j ⟨#[]⟩)) eh;rw[Kx nd ng hj]at g;exact g
 apply⟨va _,?_⟩;walk_at"f ps hps H1 s1 t1";have l:∀{c u},H c=some u->c≠ps:=λh=>je h hps
 apply⟨X,_,rfl,SqL.of (s1 _ _ N),?_⟩;refine j50 (xs:=f.map V.str) (λt J m=>IvE3 λ(G:N3) (e:L6) (a:Int)=>IvA6 (J=[some (.ref X),some (.ref d),some (.int B),some (.ref ps),some (.int a),G]) (∀c u,c≠ps->H1 c=some u->m c=some u) (m ps=some (.lst ((e.map λj=>f.getD j ⟨#[]⟩).map V.str))) (e.length<=5) (∀j∈e,j<f.length) ((t=0->e=[]/\a=0)/\(0<t->e≠[]))) ⟨_,[],0,rfl,λc u _ h=>h,t1,va _,(λj h=>nomatch h),λ_=>⟨rfl,rfl⟩,λh=>ue h ⋯⟩ ?_ ?_ ?_
 .rintro t J m _ ⟨G,e,a,rfl,n,_⟩;exact SqL.of (n _ _ (l N) (s1 _ _ N))
 .rintro t v J m hi D ⟨G,e,a,rfl,n,o,F,r,Y,I⟩;rw[vt]at hi D;rw[vv]at D;obtain⟨x,W,rfl⟩:=vg.mp D;have ej:x=f.getD (f.length-1-t) ⟨#[]⟩:=by rw[vy,W];rfl
  subst ej;have y:f.length-1-t<f.length:=⋯
  clear W D;generalize f.length-1-t=j at y|-;have k':∀{c u},H c=some u->m c=some u:=λh=>n _ _ (l h) (s1 _ _ h)
  have g:=gb j y;apply⟨_,_,rfl,.inl ⟨_,SqL.of o,rfl⟩,?_⟩;rw[vt,vt];apply iteD (λc=>?_) (λc=>?_)
  .apply⟨d,_,rfl,p m j (k' M) y,?_⟩;apply iteD (λR=>?_) (λR=>?_)
   .apply⟨.inl ⟨rfl,_,SqL.of o⟩,?_⟩;apply⟨ps,_,_,rfl,rfl,o,by rw[vt,vt];lia,?_⟩;generalize L:upd m ps _=H2;have Z:H2 ps=some (.lst (((e++[j]).map λj=>f.getD j ⟨#[]⟩).map V.str)):=by
     rw[vj,vj];exact qD L
    have C:∀c u,c≠ps->H1 c=some u->H2 c=some u:=λc u U h=>L▸(jo U).trans (n c u U h)
    clear L;apply⟨d,_,rfl,p H2 j (C _ _ (l M) (s1 _ _ M)) y,?_⟩;apply⟨_,e++[j],_,rfl,C,Z,by rw[vn];show _+1<=5;lia,λj' O=>?_,λh=>ue h ⋯,λ_ h=>by simp at h⟩;rcases vh.mp O with z | z
    .exact r j' z
    .rw[vo.mp z];exact y
   .apply⟨_,e,a,rfl,n,o,F,r,λh=>ue h ⋯,λ_ h=>?_⟩;rcases Nat.eq_zero_or_pos t with z | z
    .obtain⟨_,rfl⟩:=Y z;exact R ⋯
    .exact I z h
  .apply⟨_,e,a,rfl,n,o,F,r,λh=>ue h ⋯,λ_ h=>?_⟩;rw[h]at c;exact c (by show((0:Nat):Int)<5;lia)
 .rintro J m ⟨G,e,a,rfl,n,o,F,r,Y,I⟩;rw[vt]at I;apply⟨ps,_,rfl,.inl ⟨SqL.of o,?_⟩⟩;walk_at"f b hb H3 s3 t3";exact q b e H3 (λc u h=>s3 _ _ (n _ _ (l h) (s1 _ _ h))) t3 (I ⋯) F r
def xH(T:Txt K mg t)(j:1<*t.qt t.qx ["_law_cell","_law_k"] (KF)):2<*t.QI t.QN ["_law_pool","_law_many"] (sp_takeB):=by
 specialize T.jM.F.ok YU;obtain⟨p,x,y,m,rfl,b,z,n,B,C,q⟩:=h;refine⟨_,(jb (jP (jp y6 (jk jv (pv 0) jd) jd (nomark _))
   (jb (jq' 2 YU.nd (jw j3 (jk jv (pv 0) jd) (pv 1)))
   (jb (yu (jw Je (jk jv (pv 0) jd) (pv 1)) (Yk (pv 0) jd set_list))
   (jf (jy (pv 2)))))
   jx)
  (jb (yu (jw j3 (jw Q6 (jw j2 (jk jv (pv 0) jd) (pv 1)) jd) (jw j2 (jw yq jd jd) jd)) (Yk (pv 0) jd set_list))
  (jb (yu (jt T.JR j hr (ja (jk jv (pv 0) jd) (ja (pv 1) jc))) (Yk (pv 0) jd set_list))
  (jf (jy (jw j3 (jw Je (jk jv (pv 0) jd) jd) (pv 1))))))),?_⟩
 refine jD (S':=[some _,some _,none]) rfl ?_
 try dsimp only[cxOf,Cx.nox]
 apply ixLm (SqL.of b) rfl ?_;apply iteD (λc=>?_) (λc=>?_)
 .have e:tkB x y m=(x%m,x/m,y):=vd ⋯;rw[e]at q;apply ixLm (SqL.of b) rfl ?_;apply ixLm (SqL.of b) rfl ?_;apply⟨p,_,_,0,rfl,rfl,b,rfl,?_⟩;left;exact q _ (λc u d h=>(jo d).trans h) jz
 .have e:tkB x y m=(mixB ((y+m)*314159265358979323846264338327%(10^30+57)) m/1000%m,x,mixB ((y+m)*314159265358979323846264338327%(10^30+57)) m):=vc ⋯;rw[e]at q;apply ixLm (SqL.of b) rfl ?_;apply⟨p,_,_,1,rfl,rfl,b,rfl,?_⟩;have o:=ve ((y+m)*314159265358979323846264338327) (show(10^30+57:Int)≠0 by decide);have r:=vf ((y+m)*314159265358979323846264338327) (show(0:Int)<10^30+57 by decide);generalize(y+m)*314159265358979323846264338327%(10^30+57)=v at o r q|-;generalize a:upd H p _=H1;have f:H1 p=some (.lst [.int x,.int v]):=qD a;have k:∀c u,c≠p->H c=some u->H1 c=some u:=λc u d h=>a▸(jo d).trans h
  clear a;apply ixLm (SqL.of f) rfl ?_;apply⟨v,m,rfl,⋯,n,?_⟩;apply⟨p,_,_,1,rfl,rfl,f,rfl,?_⟩;generalize a:upd H1 p _=H2;have g:H2 p=some (.lst [.int x,.int (mixB v m)]):=qD a;have l:∀c u,c≠p->H c=some u->H2 c=some u:=λc u d h=>a▸(jo d).trans (k c u d h)
  clear a;apply ixLm (SqL.of g) rfl ?_;left;exact q _ l g
def wt(T:Txt K mg t)(jF:2<*t.QI t.QN ["_law_pool","_law_many"] (sp_takeB)):3<*t.Zb t.Ze ["_law_pool","_law_kind","_law_names","_law_movers","_law_bounds"] (sp_namingB):=by
 specialize T.yY.F.ok j9;obtain⟨p,nl,ml,bd,x,y,kd,H0,am,L,v,G,b0,b1,b2,b3,b4,rfl,ep,y0,y1,M,N,n1,Bd,q⟩:=h;refine⟨_,(jb (jP (jp jS (pv 1) jd (nomark _))
   (jb (jq' 5 j9.nd (jw j2 jd (jt T.jM jF hr (ja (pv 0) (ja (jk jv (pv 4) jd) jc)))))
   (jf (jy (jI (ja jE (ja (pv 5) (ja (jk jv (pv 2) (jt T.jM jF hr (ja (pv 0) (ja (jC jR (by rfl) T.JJ Jb (ja (pv 2) jc)) jc)))) jc)))))))
   jx)
  (jb (jP (jp jS (pv 1) jd (nomark _))
   (jb (jq' 6 j9.nd (jw j2 jd (jt T.jM jF hr (ja (pv 0) (ja jd jc)))))
   (jf (jy (jI (ja jE (ja (Jn JE (by rfl) T.zN QK (ja (Jd (ow:=["_law_j"]) (ci:=[2,0]) rfl (CompScope.of (defScope qI) ["_law_pool","_law_kind","_law_names","_law_movers","_law_bounds","_law_times","_law_many","_law_some","_law_used","_law_j","_law_at","_law_twice"] rfl rfl (by trivial)) (Jy nofun) (qA (by rfl) T.qY (ja (pv 6) jc)) (λ_ _ _ _ _=>⟨(ju' 0 (jT ["_law_pool","_law_kind","_law_names","_law_movers","_law_bounds","_law_times","_law_many","_law_some","_law_used","_law_j","_law_at","_law_twice"] rfl (by trivial))),Jt,(jk (Zs (K:=K) rfl) (pv 1) (jt T.jM jF hr (ja (pv 2) (ja (jC (j25 (K:=K) rfl) (by rfl) T.JJ Jb (ja (pv 1) jc)) jc))))⟩)) jc)) jc))))))
   jx)
  (jb (jq' 7 j9.nd (jL jc))
  (jb (jq (i:=8) j9.nd rfl (.inr rfl) (jL jc))
  (jb (j7 PassesOwn.never rfl (qA (by rfl) T.qY (ja (jw j2 jd (jt T.jM jF hr (ja (pv 0) (ja jd jc)))) jc)) (ju' 9 j9.nd)
   (jb (jq' 10 j9.nd (jt T.jM jF hr (ja (pv 0) (ja (jC jR (by rfl) T.JJ Jb (ja (pv 2) jc)) jc))))
   (jb (xV (i:=11) (ow:=["_law_one"]) (ci:=[8]) rfl (CompScope.of (defScope qI) ["_law_pool","_law_kind","_law_names","_law_movers","_law_bounds","_law_times","_law_many","_law_some","_law_used","_law_j","_law_at","_law_twice"] rfl rfl (by trivial)) (Jy nofun) j9.nd rfl (.inl rfl) (jX (jk jv (pv 3) (pv 10))) (λ_ _ _ _ _=>⟨(ju' 0 (jT ["_law_pool","_law_kind","_law_names","_law_movers","_law_bounds","_law_times","_law_many","_law_some","_law_used","_law_j","_law_at","_law_twice"] rfl (by trivial))),(j0O (jp (Yj (K:=K) rfl) (pv 0) (pv 1) (by with_unfolding_all rfl))),(pv 0)⟩))
   (jf (jP (PW.pt (Qf (jp (wu hr.units) (jk jv (pv 3) (pv 10)) (jL jc) (nomark _)) (qJ (jp (j0L hr.units) (pv 11) (jL jc) (nomark _)))))
    (jb (jO (Js q3 q4 q5 jK (pv 7) (ja (jk jv (pv 2) (pv 10)) jc)))
    (jf (jq (i:=8) j9.nd rfl (.inr rfl) (jw kJ (pv 8) (jk jv (pv 3) (pv 10))))))
    jx)))))
  (jb (jP (jp ZX (jC jR (by rfl) T.JJ Jb (ja (pv 7) jc)) jd (nomark _))
   (jf (jy (jI (ja jE (ja (jw j2 jd (jt T.jM jF hr (ja (pv 0) (ja (jk jv (pv 4) jd) jc)))) jc)))))
   jx)
  (jf (jy (jI (ja jE (ja (Jn JE (by rfl) T.zN QK (ja (pv 7) jc)) jc))))))))))),?_⟩
 refine jD (S':=[some _,some _,some _,some _,some _,none,none,none,none,none,none,none]) rfl ?_
 try dsimp only[cxOf,Cx.nox]
 have aA:=N.n20;obtain⟨eb,ae,aq,ar,as,au,av,a9,aw,ax,ay⟩:=Bd;apply iteD (λc=>?_) (λc=>?_)
 .apply ixLm (SqL.of (M _ _ eb).2) rfl ?_;left;have r:=Ji (x:=x) (y:=y) a9;refine⟨p,x,y,_,rfl,ep,a9,⋯,y0,y1,λH1 x1 e1=>?_⟩;have o:=JC (x:=x) (m:=b3) y0 y1;have o1:=M.ex x1;apply⟨_,_,rfl,.inl ⟨_,SqL.of (o1 _ _ N.en).2,rfl⟩,?_⟩;rw[vt];apply⟨p,_,_,_,rfl,e1,⋯,⋯,o.1,o.2,λH2 x2 e2=>?_⟩;have r2:=Ji (x:=(tkB x y b3).2.1) (y:=(tkB x y b3).2.2) (m:=(v.length:Int)) ⋯;have o2:=o1.ex x2;generalize tkB (tkB x y b3).2.1 (tkB x y b3).2.2 (v.length:Int)=T2 at r2 e2|-;obtain⟨j,ej⟩:∃j:Nat,T2.1=(j:Int):=⟨T2.1.toNat,⋯⟩
  rw[ej]at r2|-;have F:j<v.length:=⋯
  refine ixLm (SqL.of (o2 _ _ N.en).2) (zL F) ?_;apply⟨ub,?_⟩;walk_at"f b6 hb6 H6 s6 t6";exact q b6 (.again (1+(tkB x y b3).1) j) H6 (x1.trans (x2.trans (.of s6))) t6 ⟨⋯,⋯,F⟩
 apply iteD (λc5=>?_) (λc5=>?_)
 .left;have r:=Ji (x:=x) (y:=y) (m:=5) ⋯;have o:=JC (x:=x) (m:=5) y0 y1;refine⟨p,x,y,_,rfl,ep,⋯,⋯,y0,y1,λH1 x1 e1=>?_⟩;generalize tkB x y 5=T at r o e1|-;have o1:=M.ex x1;apply⟨_,rfl,⋯,⋯,?_⟩;refine KY (λi ys C=>IvE3 λ(f:L6) (x y:Int)=>IvA6 (ys=f.map (λj=>V.str (v.getD j ⟨#[]⟩))) (f.length=i) (∀j∈f,j<v.length) (Ex p H1 C) (C p=some (.lst [.int x,.int y])) (0<=y/\y<10^30+57)) ⟨[],_,_,rfl,rfl,(λj h=>nomatch h),.refl _,e1,o⟩ ?_ ?_
  .rintro i ys C hi ⟨f,x2,y2,rfl,il,F,xx,ai,yy⟩;have o2:=o1.ex xx;refine Jh (S':=[none,some _,some _]) rfl ?_;apply iteT ?_;apply⟨_,_,rfl,.inl ⟨_,SqL.of (o2 _ _ N.en).2,rfl⟩,?_⟩;rw[show(v.map V.str).length=v.length from vt _];left;have r2:=Ji (x:=x2) (y:=y2) (m:=(v.length:Int)) ⋯;have e:=JC (x:=x2) (m:=(v.length:Int)) yy.1 yy.2;refine⟨p,x2,y2,_,rfl,ai,⋯,⋯,yy.1,yy.2,λH3 x3 e3=>?_⟩;generalize tkB x2 y2 (v.length:Int)=T2 at r2 e e3|-;obtain⟨j,ej⟩:∃j:Nat,T2.1=(j:Int):=⟨T2.1.toNat,⋯⟩
   rw[ej]at r2|-;have jn:j<v.length:=⋯
   refine ixLm (SqL.of (o2.ex x3 _ _ N.en).2) (zL jn) ?_;refine⟨by rw[vt];lia,f++[j],_,_,by rw[vj];rfl,by rw[vn,il];rfl,λZ g=>?_,xx.trans x3,e3,e⟩;rcases vh.mp g with z | z
   .exact F Z z
   .rw[vo.mp z];exact jn
  rintro ys H3 ⟨f,x3,y3,rfl,il,F,xx,az,yy⟩;refine⟨by rw[vt];lia,?_⟩;walk_at"f b hb H4 s4 t4";apply⟨b,_,rfl,.inl ⟨SqL.of t4,?_⟩⟩;walk_at"f b5 hb5 H5 s5 t5";apply⟨uc,?_⟩;walk_at"f b6 hb6 H6 s6 t6";refine q b6 (.row f) H6 (x1.trans (xx.trans (.of (s4.trans (s5.trans s6))))) ⟨b5,t6,?_⟩ ⟨λz=>?_,⋯,F⟩
  .rw[s6 _ _ t5,v8];rfl
  .rw[z]at il;have:(0:Nat)=_:=il;lia
 apply⟨va _,?_⟩;walk_at"f ps hps H1 s1 t1";apply⟨va _,?_⟩;walk_at"f pu hpu H2 s2 t2";have a6:=s1.trans s2;have a2:ps≠p:=(je ep hps).symm;have ad:pu≠p:=(je (s1 _ _ ep) hpu).symm;have ac:∀{c u},H c=some u->c≠ps:=λh=>je h hps
 have ao:pu≠ps:=(je t1 hpu).symm;left;have r:=Ji (x:=x) (y:=y) (m:=3) ⋯;have o:=JC (x:=x) (m:=3) y0 y1;refine⟨p,x,y,_,rfl,a6 _ _ ep,⋯,⋯,y0,y1,λH3 x3 e3=>?_⟩;generalize tkB x y 3=T at r o e3|-;have o3:Off p H0 H3:=λc u h=>⟨(M c u h).1,x3 _ _ (M c u h).1 (a6 _ _ (M c u h).2)⟩
 have af:=x3 _ _ a2 (s2 _ _ t1);have ag:=x3 _ _ ad t2;have aj:∀{c u},c≠p->H c=some u->H3 c=some u:=λn h=>x3 _ _ n (a6 _ _ h)
 apply⟨_,rfl,⋯,⋯,?_⟩;refine Qu (λt σ C=>IvE8 λ(o9 a4 a5:N3) (d:Addr) (f:L6) (D:L8) (x y:Int)=>IvA14 (σ=[some (.ref p),some (.int kd),some (.ref nl),some (.ref ml),some (.ref bd),none,none,some (.ref ps),some (.ref d),o9,a4,a5]) (d≠ps) (d≠p) (Ex p H C) (C ps=some (.lst ((f.map λj=>v.getD j ⟨#[]⟩).map V.str))) (C d=some (.lst (D.map V.str))) (C p=some (.lst [.int x,.int y])) (0<=y) (y<10^30+57) (f.length<=t) (D.length<=8*t) (∀j∈f,j<v.length) (ApartS G f) (∀s,s∈D↔∃j∈f,s∈G.getD j [])) ⟨_,_,_,pu,[],[],_,_,rfl,ao,ad,λc u n h=>aj n h,af,ag,e3,o.1,o.2,vb _,vb _,(λj h=>nomatch h),⟨(λj h=>nomatch h),.nil⟩,λs=>⟨(λh=>nomatch h),λ⟨j,h,_⟩=>nomatch h⟩⟩ ?_ ?_
 .rintro t σ H4 ht ⟨o9,a4,a5,d,f,D,x4,y4,rfl,a1,a0,B,I,a3,e4,R,S,il,ul,F,ap,J⟩;have t4:t<4:=⋯
  have o4:=M.ex B;apply⟨_,_,rfl,.inl ⟨_,SqL.of (o4 _ _ N.en).2,rfl⟩,?_⟩;rw[vt];left;have r2:=Ji (x:=x4) (y:=y4) (m:=(v.length:Int)) ⋯;have e:=JC (x:=x4) (m:=(v.length:Int)) R S;refine⟨p,x4,y4,_,rfl,e4,⋯,⋯,R,S,λH5 x5 e5=>?_⟩;generalize tkB x4 y4 (v.length:Int)=T2 at r2 e e5|-;obtain⟨j,ej⟩:∃j:Nat,T2.1=(j:Int):=⟨T2.1.toNat,⋯⟩
  rw[ej]at r2|-;have al:j<v.length:=⋯
  have a7:=B.trans x5;have o5:=M.ex a7;have U:=x5 _ _ a2 I;have W:=x5 _ _ a0 a3;clear x5 B o4 I a3 e4 R S;obtain⟨ma,ak,X,an,mw⟩:=N.mv al;have aM:atI (am.map V.ref) ((j:Nat):Int)=some (.ref ma):=jN (by rw[vv,ak];rfl);apply ixLm (SqL.of (o5 _ _ N.em).2) (aM) ?_;refine⟨ma,rfl,⟨_,SqL.of (o5 _ _ X).2⟩,?_⟩;refine Jm (xs:=(G.getD j []).map V.str) (λi ys C=>ys=(((G.getD j []).take i).filter λs=>decide (s∈D)).map V.str/\H5=C) ⟨rfl,rfl⟩ ?_ ?_ ?_
  .rintro i ys C _ ⟨rfl,rfl⟩;exact SqL.of (o5 _ _ X).2
  .rintro i x ys C hx ⟨rfl,rfl⟩;rw[vv]at hx;obtain⟨k,aa,rfl⟩:=vg.mp hx;have ik:=(vx.mp aa).1;refine Jh (S':=[none,some _]) rfl ?_;apply⟨d,_,rfl,.inl (SqL.of W),rfl,flatB _,?_⟩;rw[inB];left;rw[take_snoc aa,filter_append];have lf:(((G.getD j []).take i).filter λs=>decide (s∈D)).length<=8:=vW (length_filter_le _ _) (by rw[vi];lia);refine iteD (λc=>?_) (λc=>?_)
   .apply⟨by rw[vt];lia,?_,rfl⟩;rw[vj,uz,vd (vG c),filter_nil];rfl
   .refine⟨?_,rfl⟩;rw[uz,vc (by rw[vH c];exact vF),filter_nil,append_nil]
  rintro ys C ⟨rfl,rfl⟩;rw[show((G.getD j []).map V.str).length=(G.getD j []).length from vt _,v7];have lf:((G.getD j []).filter λs=>decide (s∈D)).length<=8:=vW (length_filter_le _ _) an;have wf:∀x∈(G.getD j []).filter (λs=>decide (s∈D)),Ws.isW x=true:=λx hx=>mw x (vP.mp hx).1
  refine⟨by rw[vt];lia,?_⟩;walk_at"f p5 hp5 H6 s6 t6";have o6:=o5.ex (.of s6);apply ixLm (SqL.of (o6 _ _ N.em).2) (aM) ?_;apply⟨va _,?_⟩;sleep 7;have O:=s6.trans s7;refine⟨_,_,.lst (s7 _ _ (o6 _ _ X).2) (ZJ _),j2a t7,shpB mw,shp0,?_⟩;rw[eqvB];apply iteN (λd1=>?_) (λd1=>?_)
  .apply⟨va _,?_⟩;sleep 8;have l:=O.trans s8;have a8:=a7.trans (.of l);refine⟨_,_,.lst (s8 _ _ (s7 _ _ t6)) (ZJ _),j2a t8,shpB wf,shp0,?_⟩;rw[eqvB];apply iteD (λd2=>?_) (λd2=>?_)
   .apply⟨.inl ⟨rfl,_,SqL.of (l _ _ U)⟩,?_⟩;left;have o8:=M.ex a8;refine ixLm (SqL.of (o8 _ _ N.en).2) (zL al) ?_;apply⟨ps,_,_,rfl,rfl,l _ _ U,by rw[vt,vt];lia,?_⟩;generalize eG:upd H8 ps _=H9;have e9:H9 ps=some (.lst (((f++[j]).map λj=>v.getD j ⟨#[]⟩).map V.str)):=by
     rw[vj,vj];exact qD eG
    have k9:∀c u,c≠ps->H8 c=some u->H9 c=some u:=λc u hc h=>eG▸(jo hc).trans h
    clear eG;have n9:∀{c u},H0 c=some u->H9 c=some u:=λ{c u} h=>k9 _ _ (ac (M _ _ h).2) (o8 _ _ h).2
    apply ixLm (SqL.of (n9 N.em)) (aM) ?_;refine⟨d,ma,_,_,rfl,rfl,k9 _ _ a1 (l _ _ W),n9 X,by rw[vt,vt];lia,?_⟩;sleep 10;left;have ah:=s10 _ _ (k9 _ _ a2.symm (l _ _ e5));refine⟨_,_,_,p10,f++[j],D++G.getD j [],_,_,rfl,(je e9 hp10).symm,(je (k9 _ _ a2.symm (l _ _ e5)) hp10).symm,λc u n h=>s10 _ _ (k9 _ _ (ac h) (a8 _ _ n h)),s10 _ _ e9,by rw[vj];exact t10,ah,e.1,e.2,by rw[vn];show _+1<=_;lia,by rw[vn];lia,λZ g=>?_,⟨λZ g=>?_,List.pairwise_append.mpr ⟨ap.2,pairwise_singleton ..,λa ha b hb s Y ab=>?_⟩⟩,λs=>?_⟩
    .rcases vh.mp g with z | z
     .exact F Z z
     .rw[vo.mp z];exact al
    .rcases vh.mp g with z | z
     .exact ap.1 Z z
     .rw[vo.mp z];exact d1
    .rw[vo.mp hb]at ab;have:s∈(G.getD j []).filter λs=>decide (s∈D):=vP.mpr ⟨ab,vG ((J s).mpr ⟨a,ha,Y⟩)⟩
     rw[d2]at this;cases this
    .rw[vh,J];constructor
     .rintro(⟨Z,g,Y⟩ | Y)
      .exact⟨Z,mem_append_left _ g,Y⟩
      .exact⟨_,mem_append_right _ vq,Y⟩
     .rintro⟨Z,g,Y⟩;rcases vh.mp g with z | z
      .exact .inl ⟨Z,z,Y⟩
      .rw[vo.mp z]at Y;exact .inr Y
   .left;exact⟨_,_,_,d,f,D,_,_,rfl,a1,a0,a8,l _ _ U,l _ _ W,l _ _ e5,e.1,e.2,⋯,⋯,F,ap,J⟩
  .left;exact⟨_,_,_,d,f,D,_,_,rfl,a1,a0,a7.trans (.of O),O _ _ U,O _ _ W,O _ _ e5,e.1,e.2,⋯,⋯,F,ap,J⟩
 rintro σ H4 ⟨o9,a4,a5,d,f,D,x4,y4,rfl,a1,a0,B,I,a3,e4,R,S,il,ul,F,ap,J⟩;apply⟨_,_,rfl,.inl ⟨_,SqL.of I,rfl⟩,?_⟩;rw[vt,vt];apply iteD (λc2=>?_) (λc2=>?_)
 .left;have o4:=M.ex B;refine ixLm (SqL.of (o4 _ _ eb).2) rfl ?_;left;have r2:=Ji (x:=x4) (y:=y4) ae;refine⟨p,x4,y4,_,rfl,e4,⋯,⋯,R,S,λH5 x5 e5=>?_⟩;apply⟨uc,?_⟩;walk_at"f b6 hb6 H6 s6 t6";exact q b6 (.hold (1+(tkB x4 y4 b0).1)) H6 (B.trans (x5.trans (.of s6))) t6 ⟨⋯,⋯⟩
 apply⟨ps,_,rfl,.inl ⟨SqL.of I,?_⟩⟩;walk_at"f b5 hb5 H5 s5 t5";apply⟨uc,?_⟩;walk_at"f b6 hb6 H6 s6 t6";exact q b6 (.side f) H6 (B.trans (.of (s5.trans s6))) ⟨b5,t6,s6 _ _ t5⟩ ⟨⋯,⋯,F,ap.n N.il⟩
def YO(T:Txt K mg t)(M:2<*t.QI t.QN ["_law_pool","_law_many"] (sp_takeB))(zZ:3<*t.Zb t.Ze ["_law_pool","_law_kind","_law_names","_law_movers","_law_bounds"] (sp_namingB)):4<*t.Qq t.Qs ["_law_pool","_law_names","_law_movers","_law_limbs","_law_bounds"] (sp_formT):=by
 specialize T.Zr.F.ok JA;obtain⟨p,nl,ml,pl,bd,x,y,H0,aa,ac,F,X,Ms,b0,b1,b2,b3,b4,rfl,ep,y0,y1,of,N,R,Bd,q⟩:=h;refine⟨_,(jb (jq' 5 JA.nd (jt T.jM M hr (ja (pv 0) (ja jd jc))))
  (jb (jP (PW.pt (Qf (jp y6 (pv 5) jd (nomark _)) (qJ (jp (wu hr.units) (pv 1) (jL jc) (nomark _)))))
   (jf (jy (jt T.yY zZ hr (ja (pv 0) (ja (pv 5) (ja (pv 1) (ja (pv 2) (ja (pv 4) jc))))))))
   jx)
  (jb (jq' 6 JA.nd (jw j2 jd (jt T.jM M hr (ja (pv 0) (ja (jk jv (pv 4) (jt T.jM M hr (ja (pv 0) (ja jd jc)))) jc)))))
  (jb (jP (jp ZX (pv 5) jd (nomark _))
   (jb (jq' 7 JA.nd (jk jr (jk jv (pv 3) (jt T.jM M hr (ja (pv 0) (ja (jC jR (by rfl) T.JJ Jb (ja (pv 3) jc)) jc)))) jd))
   (jf (jy (jI (ja jE (ja (pv 7) (ja (jt T.jM M hr (ja (pv 0) (ja (jk jv (pv 4) jd) jc))) (ja (pv 6) jc))))))))
   jx)
  (jb (jP (jp jS (pv 5) jd (nomark _))
   (jb (jq' 8 JA.nd (jw kJ (jL (ja jE (ja jE (ja jE jc)))) (Zv j1R (pv 1) yS (zU jd))))
   (jf (jy (jI (ja jE (ja (jk jv (pv 8) (jt T.jM M hr (ja (pv 0) (ja (jC jR (by rfl) T.JJ Jb (ja (pv 8) jc)) jc)))) (ja (pv 6) jc)))))))
   jx)
  (jf (jy (jI (ja jE (ja (pv 6) jc)))))))))),?_⟩
 refine jD (S':=[some _,some _,some _,some _,some _,none,none,none,none]) rfl ?_
 try dsimp only[cxOf,Cx.nox]
 have ad:=N.n20;obtain⟨eb,l,n,o,u,S,a0,a1,a2,a3,a4⟩:=Bd;left;have r:=Ji (x:=x) (y:=y) (m:=8) ⋯;have b:=JC (x:=x) (m:=8) y0 y1;refine⟨p,x,y,_,rfl,ep,⋯,⋯,y0,y1,λH1 x1 e1=>?_⟩;generalize tkB x y 8=T at r b e1|-;have o1:=of.ex x1;apply iteD (λc=>?_) (λc=>?_)
 .apply⟨va _,?_⟩;walk_at"f e3 he3 H3 s3 t3";have o3:=o1.ex (.of s3);refine⟨_,_,.lst (o3 _ _ N.en).2 (ZJ _),j2a t3,shpB N.w,shp0,?_⟩;rw[eqvB];apply iteN (λd=>?_) (λd=>?_)
  .left;exact⟨p,nl,ml,bd,_,_,_,H0,aa,_,X,Ms,b0,b1,b2,b3,b4,rfl,s3 _ _ e1,b.1,b.2,o3,N,length_pos_iff.mpr d,⟨eb,l,n,o,u,S,a0,a1,a2,a3,a4⟩,λa f H' x' hf ab=>q a f H' (x1.trans ((Ex.of s3).trans x')) hf ab⟩
  .left;have G:=Ji (x:=T.2.1) (y:=T.2.2) (m:=2) ⋯;have e:=JC (x:=T.2.1) (m:=2) b.1 b.2;refine⟨p,_,_,_,rfl,s3 _ _ e1,⋯,⋯,b.1,b.2,λH4 Z U=>?_⟩;generalize tkB T.2.1 T.2.2 2=T2 at G e U|-;have o4:=o3.ex Z;obtain⟨L,C,B,a5⟩:=at01 (b2:=b2) (b3:=b3) (b4:=b4) ⟨l,n⟩ ⟨o,u⟩ G.1 G.2;refine ixLm (SqL.of (o4 _ _ eb).2) (C) ?_;left;have r3:=Ji (x:=T2.2.1) (y:=T2.2.2) (m:=L) B;refine⟨p,_,_,_,rfl,U,⋯,⋯,e.1,e.2,λH5 x5 W=>?_⟩;apply iteD (λc3=>?_) (λc3=>?_)
   .exact ue c3 ⋯
   apply iteD (λc4=>?_) (λc4=>?_)
   .exact ue c4 ⋯
   apply⟨uc,?_⟩;walk_at"f b6 hb6 H6 s6 t6";exact q b6 (.hold (1+(tkB T2.2.1 T2.2.2 L).1)) H6 (x1.trans ((Ex.of s3).trans (Z.trans (x5.trans (.of s6))))) t6 ⟨⋯,⋯⟩
 refine iteF ?_;left;have G:=Ji (x:=T.2.1) (y:=T.2.2) (m:=2) ⋯;have e:=JC (x:=T.2.1) (m:=2) b.1 b.2;refine⟨p,_,_,_,rfl,e1,⋯,⋯,b.1,b.2,λH4 Z U=>?_⟩;generalize tkB T.2.1 T.2.2 2=T2 at G e U|-;have o4:=o1.ex Z;obtain⟨L,C,B,a5⟩:=at01 (b2:=b2) (b3:=b3) (b4:=b4) ⟨l,n⟩ ⟨o,u⟩ G.1 G.2;refine ixLm (SqL.of (o4 _ _ eb).2) (C) ?_;left;have r3:=Ji (x:=T2.2.1) (y:=T2.2.2) (m:=L) B;have g:=JC (x:=T2.2.1) (m:=L) e.1 e.2;refine⟨p,_,_,_,rfl,U,⋯,⋯,e.1,e.2,λH5 x5 W=>?_⟩;generalize tkB T2.2.1 T2.2.2 L=T3 at r3 g W|-;have o5:=o4.ex x5;have I:=x1.trans (Z.trans x5);have l1:=R.l1;have a9:=R.la.1;have l8:=N.l8;rw[show(nmsOf F).length=F.length from vt _]at l8;apply iteD (λc3=>?_) (λc3=>?_)
 .apply⟨_,_,rfl,.inl ⟨_,SqL.of (o5 _ _ R.el).2,rfl⟩,?_⟩;rw[vt,a9];left;have O:=Ji (x:=T3.2.1) (y:=T3.2.2) (m:=(F.length:Int)) ⋯;have J:=JC (x:=T3.2.1) (m:=(F.length:Int)) g.1 g.2;refine⟨p,_,_,_,rfl,W,⋯,⋯,g.1,g.2,λH6 x6 e6=>?_⟩;generalize tkB T3.2.1 T3.2.2 (F.length:Int)=T4 at O J e6|-;obtain⟨j,ej⟩:∃j:Nat,T4.1=(j:Int):=⟨T4.1.toNat,⋯⟩
  rw[ej]at O|-;have jl:j<F.length:=⋯
  have o6:=o5.ex x6;obtain⟨lk,a7,a6⟩:=R.la.get (vz jl);refine ixLm (SqL.of (o6 _ _ R.el).2) (jN (j:=j) (by rw[vv,a7];rfl)) ?_;apply ixTm (SqT.of (o6 _ _ a6).2) rfl ?_;apply ixLm (SqL.of (o6 _ _ eb).2) rfl ?_;left;have r5:=Ji (x:=T4.2.1) (y:=T4.2.2) (m:=b2) S;refine⟨p,_,_,_,rfl,e6,⋯,⋯,J.1,J.2,λH7 x7 e7=>?_⟩;generalize tkB T4.2.1 T4.2.2 b2=T5 at r5 e7|-;apply⟨ua,?_⟩;walk_at"f b6 hb6 H8 s8 t8";refine q b6 (.rise F[j].1 T5.1 (1+T3.1)) H8 (I.trans (x6.trans (x7.trans (.of s8)))) t8 ⟨⟨j,?_⟩,r5.1,⋯,⋯,⋯⟩;unfold nmsOf;rw[vv,vz jl];rfl
 apply iteD (λc4=>?_) (λc4=>?_)
 .apply⟨ub,?_⟩;walk_at"f b3' hb3' H6 s6 t6";apply⟨nl,_,rfl,SqL.of (s6 _ _ (o5 _ _ N.en).2),?_⟩;walk_at"f b4' hb4' H7 s7 t7";have cl:=zO (X.map V.str) none (some 1);rw[vt]at cl;refine⟨b3',b4',_,_,rfl,rfl,s7 _ _ t6,t7,by show 3+_<=sizeLine;lia,?_⟩;walk_at"f b5' hb5' H8 s8 t8";have Y:=s6.trans (s7.trans s8);have n5:b5'≠p:=(je (s7 _ _ (s6 _ _ W)) hb5').symm;apply⟨_,_,rfl,.inl ⟨_,SqL.of t8,rfl⟩,?_⟩;left;have O:=Ji (x:=T3.2.1) (y:=T3.2.2) (m:=((([V.str "ding",V.str "dong",V.str "din"]++cutV (X.map V.str) none (some 1)).length:Nat):Int)) (by rw[vn];show 1<=(((3+_:Nat)):Int);lia);refine⟨p,_,_,_,rfl,Y _ _ W,by rw[vn];show 1<=(((3+_:Nat)):Int);lia,by rw[vn];show(((3+_:Nat)):Int)<=_;lia,g.1,g.2,λH9 x9 e9=>?_⟩;generalize tkB T3.2.1 T3.2.2 ((([V.str "ding",V.str "dong",V.str "din"]++cutV (X.map V.str) none (some 1)).length:Nat):Int)=T4 at O e9|-;have a8:∀v∈[V.str "ding",V.str "dong",V.str "din"]++cutV (X.map V.str) none (some 1),∃w:Str,v = .str w/\Ws.isW w=true:=λv hv=>by
   rcases vh.mp hv with z | z
   .rcases mem_cons.mp z with rfl | z
    .exact⟨_,rfl,by trivial⟩
    .rcases mem_cons.mp z with rfl | z
     .exact⟨_,rfl,by trivial⟩
     .rw[vo.mp z];exact⟨_,rfl,by trivial⟩
   .obtain⟨w',D,rfl⟩:=vK.mp (j1b z);exact⟨w',rfl,N.w w' D⟩
  obtain⟨w',D,ww⟩:=Xj (k:=T4.1) a8 O.1 O.2;refine ixLm (SqL.of (x9 _ _ n5 t8)) (D) ?_;apply⟨ub,?_⟩;walk_at"f b8 hb8 H10 s10 t10";exact q b8 (.ring w' (1+T3.1)) H10 (I.trans ((Ex.of Y).trans (x9.trans (.of s10)))) t10 ⟨⋯,⋯,ww⟩
 apply⟨uc,?_⟩;walk_at"f b6 hb6 H6 s6 t6";exact q b6 (.hold (1+T3.1)) H6 (I.trans (.of s6)) t6 ⟨⋯,⋯⟩
def YM(T:Txt K mg t)(j5:1<*t.qc t.qf ["_law_script","_law_k"] (Pr.sp_cell_at K))(j0:1<*t.qt t.qx ["_law_cell","_law_k"] (KF))(JO:1<*t.QJ t.QO ["_law_place","_law_k"] (sp_wordB))(JN:1<*t.QH t.QM ["_law_form_here","_law_known"] (sp_longB))(qq:1<*t.qX t.Qc ["_law_form_here","_law_names","_law_movers"] (sp_movesB))(qO:1<*t.QG t.QL ["_law_names","_law_known","_law_most"] (sp_lastB))(jF:2<*t.QI t.QN ["_law_pool","_law_many"] (sp_takeB))(Qm:4<*t.Qq t.Qs ["_law_pool","_law_names","_law_movers","_law_limbs","_law_bounds"] (sp_formT)):5<*t.Qp t.Qr ["_law_script","_law_many","_law_bounds"] (sp_bookB K):=by
 specialize T.Zq.F.ok jB;obtain⟨a,bd,ns,B,b0,b1,b2,b3,b4,rfl,hS,au,m2,b6,Bd,q⟩:=h;refine⟨_,(jb (jq' 3 jB.nd (jL (ja (jw Je (jC KQ (by rfl) T.j32 j0d (ja (jt T.JK j5 hr (ja (pv 0) (ja jd jc))) jc)) jd) (ja jd jc))))
  (jb (jq' 4 jB.nd (jt T.jM jF hr (ja (pv 3) (ja jd jc))))
  (jb (jq' 5 jB.nd (jL jc))
  (jb (j7 PassesOwn.never rfl (qA (by rfl) T.qY (ja (jw j2 jd (jt T.jM jF hr (ja (pv 3) (ja jd jc)))) jc)) (ju' 6 jB.nd)
   (jf (jO (Js q3 q4 q5 jK (pv 5) (ja (jI (ja (jt T.QF JO hr (ja (pv 4) (ja (pv 6) jc))) (ja (jt T.jM jF hr (ja (pv 3) (ja (jk jv (pv 2) jd) jc))) jc))) jc)))))
  (jb (jq' 7 jB.nd (jt T.jM jF hr (ja (pv 3) (ja (jw j2 (jw Q6 jd (pv 1)) jd) jc))))
  (jb (jq' 8 jB.nd (jt T.jM jF hr (ja (pv 3) (ja jd jc))))
  (jb (jq' 9 jB.nd (jL jc))
  (jb (jq' 10 jB.nd (jL jc))
  (jb (jq' 11 jB.nd Zu)
  (jb (jq' 12 jB.nd (jL jc))
  (jb (j7 PassesOwn.never rfl (qA (by rfl) T.qY (ja (jw j2 (pv 1) jd) jc)) (ju' 6 jB.nd)
   (jb (jq' 13 jB.nd (jC KQ (by rfl) T.j32 j0d (ja (jt T.JK j5 hr (ja (pv 0) (ja (jw j2 jd (pv 6)) jc))) jc)))
   (jb (jq' 14 jB.nd (jL (ja (pv 13) (ja (jt T.JR j0 hr (ja (pv 13) (ja (jw j2 jd (pv 6)) jc))) jc))))
   (jb (JX (jp ZX (pv 13) (jw yq jd jd) (nomark _))
    (jf (yu jd (Yk (pv 14) jd set_list)))
    jx)
   (jb (jq' 15 jB.nd (jt T.Zr Qm hr (ja (pv 14) (ja (pv 9) (ja (pv 10) (ja (pv 5) (ja (pv 2) jc)))))))
   (jb (JX (PW.pt (Qf (jp jS (pv 6) (pv 1) (nomark _)) (qJ (jp jS (pv 8) jd (nomark _)))))
    (jf (jq' 15 jB.nd (jI (ja jE (ja (jt T.ZY qO hr (ja (pv 9) (ja (pv 11) (ja (jk jv (pv 2) jd) jc)))) jc)))))
    jx)
   (jb (JX (jp y6 (jt T.QE JN hr (ja (pv 15) (ja (pv 11) jc))) (jk jv (pv 2) jd) (nomark _))
    (jf (jq' 15 jB.nd (jI (ja jE (ja jd jc)))))
    jx)
   (jb (jO (Js q3 q4 q5 jK (pv 10) (ja (jt T.ZE qq hr (ja (pv 15) (ja (pv 9) (ja (pv 10) jc)))) jc)))
   (jb (jq' 16 jB.nd (jt T.QF JO hr (ja (pv 4) (ja (jw j2 jd (pv 6)) jc))))
   (jb (JX (jp jS (pv 6) (pv 7) (nomark _))
    (jf (jq' 16 jB.nd (jk jr (jk jv (pv 5) (jw j3 (pv 6) (jC jR (by rfl) T.JJ Jb (ja (pv 5) jc)))) jd)))
    jx)
   (jb (jO (Js q3 q4 q5 jK (pv 9) (ja (pv 16) jc)))
   (jb (jO (Js q3 q4 q5 jK (pv 12) (ja (jI (ja (pv 16) (ja (pv 15) jc))) jc)))
   (jf (ZO (JZ hr) (pv 11) (pv 16) (jt T.QE JN hr (ja (pv 15) (ja (pv 11) jc))) rfl))))))))))))))
  (jf (jy (jI (ja (jI (ja (pv 5) (ja (pv 12) jc))) (ja (Qe (JZ hr) (pv 11) (jk jv (pv 9) (pv 1))) jc)))))))))))))))),?_⟩
 refine jD (S':=[some _,some _,some _,none,none,none,none,none,none,none,none,none,none,none,none,none,none]) rfl ?_
 try dsimp only[cxOf,Cx.nox]
 obtain⟨eb,aD,aE,aF,aG,al,aH,aI,aJ,am,an⟩:=Bd;apply⟨a,ns,_,rfl,hS,au,⋯,?_⟩;refine⟨_,rfl,?_⟩;apply⟨uc,?_⟩;walk_at"f po hpo H1 s1 t1";generalize(if Pr.cell ns 0<0 then -Pr.cell ns 0 else Pr.cell ns 0)/2=x0 at t1;left;have r1:=Ji (x:=x0) (y:=7) (m:=3) ⋯;have y1:=JC (x:=x0) (y:=7) (m:=3) nofun nofun;refine⟨po,_,_,_,rfl,t1,⋯,⋯,⋯,⋯,λH2 x2 e2=>?_⟩;generalize tkB x0 7 3=T1 at r1 y1 e2|-;obtain⟨p,e3⟩:∃p:Nat,T1.1=(p:Int):=⟨T1.1.toNat,⋯⟩
 have hp:p<3:=⋯
 have s2:Same H H2:=λc u h=>x2 _ _ (je h hpo) (s1 _ _ h)
 rw[e3];clear s1 x2;apply⟨va _,?_⟩;walk_at"f pl hpl H3 s3 t3";have a0:pl≠po:=(je e2 hpl).symm;left;have r2:=Ji (x:=T1.2.1) (y:=T1.2.2) (m:=4) ⋯;have y2:=JC (x:=T1.2.1) (m:=4) y1.1 y1.2;refine⟨po,_,_,_,rfl,s3 _ _ e2,⋯,⋯,y1.1,y1.2,λH4 x4 e4=>?_⟩;generalize tkB T1.2.1 T1.2.2 4=T2 at r2 y2 e4|-;have s4:Same H H4:=λc u h=>x4 _ _ (je h hpo) (s3 _ _ (s2 _ _ h))
 have t4:=x4 _ _ a0 t3;have av:H pl=none:=none_of s2 hpl;clear s2 s3 x4 t3 hpl;apply⟨_,rfl,⋯,⋯,?_⟩;refine Qu (λi σ H'=>IvE5 λ(o6:N3) (D:L7) (o:L4) (x y:Int)=>IvA9 (σ=[some (.ref a),some (.int (B:Nat)),some (.ref bd),some (.ref po),some (.int (p:Nat)),some (.ref pl),o6,none,none,none,none,none,none,none,none,none,none]) (Same H H') (H' pl=some (.lst (D.map V.ref))) (All2 (LimbAt H') D o) (nmsOf o=lmB p i) (o.length=i) (∀q∈o,0<=q.2/\q.2<=10^18) (H' po=some (.lst [.int x,.int y])) (0<=y/\y<10^30+57)) ⟨_,[],[],_,_,rfl,s4,t4,.nil,rfl,rfl,(λq h=>nomatch h),e4,y2⟩ ?_ ?_
 .rintro i σ H' hi ⟨o6,D,o,x,y,rfl,F,el,la,nm,ll,lh,ep,y0,a2⟩;have i4:i<4:=⋯
  have ax:=la.1;apply⟨.inl ⟨rfl,_,SqL.of el⟩,?_⟩;apply⟨p,i,by rw[uv];rfl,hp,⋯,?_⟩;apply ixLm (SqL.of (F _ _ eb)) rfl ?_;left;have r3:=Ji (x:=x) (y:=y) (m:=b2) al;have y3:=JC (x:=x) (m:=b2) y0 a2;refine⟨po,_,_,_,rfl,ep,⋯,⋯,y0,a2,λH2 x2 e2=>?_⟩;generalize tkB x y b2=T3 at r3 y3 e2|-;have kp:∀c xs,H' c=some (.tup xs)->H2 c=some (.tup xs):=λc xs h=>x2 _ _ (jZ h ep λz=>by cases z) h
  have ap:=x2 _ _ a0 el;apply⟨uc,?_⟩;sleep 3;apply⟨pl,_,_,rfl,rfl,s3 _ _ ap,by rw[vt];lia,?_⟩;have kt:∀c xs,H3 c=some (.tup xs)->upd H3 pl (.lst (D.map V.ref++[.ref p3])) c=some (.tup xs):=λc xs h=>(jo (jZ h (s3 _ _ ap) λz=>by cases z)).trans h
  refine⟨_,D++[p3],o++[(wdB p i,T3.1)],_,_,rfl,λc u h=>?_,by rw[jz,vj];rfl,(la.mono λc x h=>kt _ _ (s3 _ _ (kp _ _ h))).snoc (kt _ _ t3),?_,by rw[vn,ll];rfl,λq hq=>?_,(jo a0.symm).trans (s3 _ _ e2),y3⟩
  .exact(jo (je h av)).trans (s3 _ _ (x2 _ _ (je h hpo) (F _ _ h)))
  .rw[XI,<-nm];unfold nmsOf;rw[vj];rfl
  .rcases vh.mp hq with z | z
   .exact lh q z
   .rw[vo.mp z];exact⟨r3.1,by show T3.1<=10^18;lia⟩
 rintro S' H5 ⟨o6,D,o,x,y,rfl,aA,aq,ad,nm,ll,lh,a3,y0,a2⟩;clear s4 t4 e4 e2 H2 H3 H4;have m1:1<=o.length:=⋯
 have m4:o.length<=4:=⋯
 replace nm:nmsOf o=lmB p o.length:=by rw[nm,ll]
 obtain⟨ae,lW⟩:=j3u (m:=o.length) hp ⋯;rw[<-nm]at ae lW;clear ll;have Ll:(nmsOf o).length=o.length:=vt _;have ax:=ad.1;left;have r3:=Ji (x:=x) (y:=y) (m:=2*(B:Int)+2) ⋯;have y3:=JC (x:=x) (m:=2*(B:Int)+2) y0 a2;refine⟨po,_,_,_,rfl,a3,⋯,⋯,y0,a2,λH6 x6 e6=>?_⟩;generalize tkB x y (2*(B:Int)+2)=T3 at r3 y3 e6|-;have r4:=Ji (x:=T3.2.1) (y:=T3.2.2) (m:=2) ⋯;apply⟨po,_,_,_,rfl,e6,⋯,⋯,y3.1,y3.2,λH2 x7 e7=>?_⟩;generalize tkB T3.2.1 T3.2.2 2=T4 at r4 e7|-;have F:Same H H2:=λc u h=>x7 _ _ (je h hpo) (x6 _ _ (je h hpo) (aA _ _ h))
 have el:=x7 _ _ a0 (x6 _ _ a0 aq);have la:All2 (LimbAt H2) D o:=ad.mono λc x h=>x7 _ _ (jZ h a3 λz=>by cases z) (x6 _ _ (jZ h a3 λz=>by cases z) h)
 clear aA aq ad x6 x7 e6 e7 a3 H5 H6;obtain⟨O,aO⟩:∃O:Nat,T3.1=(O:Int):=⟨T3.1.toNat,⋯⟩
 rw[aO];generalize T4.1=en4;obtain⟨nd,nW⟩:=j3H (p:=p) (st:=5) (c:=O) (m:=o.length) hp m1 ⋯ ⋯;have ng:∀{k:Nat},k<17->(nmB p 5 O o.length).getD k ⟨#[]⟩=wdB p (ixB 5 O o.length k):=λh=>j1C h
 have nL:=j1D (p:=p) (st:=5) (c:=O) (m:=o.length);generalize nmB p 5 O o.length=names at nd nW ng nL;apply⟨va _,?_⟩;walk_at"f nl hnl H3 s3 t3";apply⟨va _,?_⟩;walk_at"f ml hml H4 s4 t4";left;walk_at"f d hd' H5 s5 t5";apply⟨va _,?_⟩;walk_at"f pp hpp H6 s6 t6";have aj:=s4.trans (s5.trans s6);have a8:=s3.trans aj;have BB:BkB pl nl ml d pp D [] [] o names [] [] [] b4 H6:=by
  refine⟨⟨aj _ _ t3,s6 _ _ (s5 _ _ t4),.nil,(λks hk=>nomatch hk),rfl,va _,⋯,(λx hx=>nomatch hx),lW⟩,⟨a8 _ _ el,la.mono λc x h=>a8 _ _ h,m1⟩,s6 _ _ t5,t6,.nil,⟨rfl,rfl,(λi f h=>by simp at h),λi h=>ue h (Nat.not_lt_zero i)⟩,λj Y=>ue Y (Nat.not_lt_zero j),va _⟩
 have SS:SpB pl nl ml pp bd []:=⟨je el hnl,je (s3 _ _ el) hml,je (s5 _ _ (s4 _ _ (s3 _ _ el))) hpp,je t3 hml,je (s5 _ _ (s4 _ _ t3)) hpp,je (s5 _ _ t4) hpp,je (F _ _ eb) hnl,je (s3 _ _ (F _ _ eb)) hml,je (s5 _ _ (s4 _ _ (s3 _ _ (F _ _ eb)))) hpp,(λx hx=>nomatch hx)⟩
 have aS:H nl=none:=none_of F hnl;have aR:H ml=none:=none_of (F.trans s3) hml;have aQ:H d=none:=none_of (F.trans (s3.trans s4)) hd';have aT:H pp=none:=none_of (F.trans (s3.trans (s4.trans s5))) hpp;have aY:=F.trans a8;clear a8 aj t3 t4 t5 t6 el la F s3 s4 s5 s6 hnl hml hd' hpp;apply⟨_,rfl,⋯,⋯,?_⟩;refine Qu (λi σ H'=>IvE10 λ(o5 ah ai a6 R:N3) (M G:L7) (v:List Fn) (W:List L8) (X:L5)=>IvA4 (σ=[some (.ref a),some (.int (B:Nat)),some (.ref bd),some (.ref po),some (.int (p:Nat)),some (.ref pl),o5,some (.int (O:Nat)),some (.int en4),some (.ref nl),some (.ref ml),some (.ref d),some (.ref pp),ah,ai,a6,R]) (Same H H') (BkB pl nl ml d pp D M G o names v W X b4 H') (SpB pl nl ml pp bd G/\v.length=i))
  ⟨_,_,_,_,_,[],[],[],[],[],rfl,aY,BB,SS,rfl⟩ ?_ ?_
 .rintro i σ H7 hi ⟨o5,ah,ai,a6,R,M,G,v,W,X,rfl,F,C,S,fl⟩;have aV:i<17:=⋯
  have tl:(names.take v.length).length=v.length:=by rw[vi];lia
  have b8:M.length=v.length:=C.pa.1.trans Qt;have gl:=C.dk.gl;have Ml:W.length=v.length:=by have:=C.n.ml;lia
  have b7:G.length=v.length:=by have:=C.n.am.1;lia
  have U:(names.take v.length).Nodup:=nd.sublist (take_sublist _ _);have af:∀j,j<v.length->1<=X.getD j 0/\X.getD j 0<=b4:=λj Y=>⟨(C.dk.g j Y).1,C.gb j Y⟩
  apply⟨a,ns,_,rfl,F.seq hS,au,⋯,?_⟩;refine⟨_,rfl,?_⟩;left;generalize(if Pr.cell ns (1+(0+(i:Int)))<0 then -Pr.cell ns (1+(0+(i:Int)))else Pr.cell ns (1+(0+(i:Int))))=num;refine⟨_,_,rfl,⋯,⋯,?_⟩;have nb:=YG num (1+(0+(i:Int)));generalize mixB num (1+(0+(i:Int)))=yo at nb|-;apply⟨uc,?_⟩;walk_at"f ow how Ha sa ta";apply⟨λS' H'=>IvE1 λ(xo:Int)=>IvA2 (S'=[some (.ref a),some (.int (B:Nat)),some (.ref bd),some (.ref po),some (.int (p:Nat)),some (.ref pl),some (.int (0+(i:Int))),some (.int (O:Nat)),some (.int en4),some (.ref nl),some (.ref ml),some (.ref d),some (.ref pp),some (.int num),some (.ref ow),a6,R]) (Same H7 H'/\H' ow=some (.lst [.int xo,.int yo])),?_,?_⟩
  rotate_left
  .apply iteD (λc=>?_) (λc=>?_)
   .apply⟨ow,_,_,0,rfl,rfl,ta,rfl,?_⟩;exact⟨0,rfl,λc u h=>(jo (je h how)).trans (sa _ _ h),jz⟩
   .left;exact⟨num,rfl,sa,ta⟩
  rintro S' Hb ⟨xo,rfl,sb,tb⟩;have ob:Off ow H7 Hb:=λc u h=>⟨je h how,sb _ _ h⟩
  apply⟨ow,nl,ml,pl,bd,xo,yo,H7,G,D,o,names.take v.length,W,b0,b1,b2,b3,b4,rfl,tb,nb.1,nb.2,ob,C.n,C.l,⟨F _ _ eb,aD,aE,aF,aG,al,aH,aI,aJ,am,an⟩,λar f0 H8 x8 aa N=>?_⟩;have s8:Same H7 H8:=(ob.ex x8).same;rw[tl]at N;have C8:=C.same s8;apply⟨λS' H'=>IvE2 λ(fa:Addr) (f:Fn)=>IvA3 (S'=[some (.ref a),some (.int (B:Nat)),some (.ref bd),some (.ref po),some (.int (p:Nat)),some (.ref pl),some (.int (0+(i:Int))),some (.int (O:Nat)),some (.int en4),some (.ref nl),some (.ref ml),some (.ref d),some (.ref pp),some (.int num),some (.ref ow),some (.ref fa),R]) (Same H8 H') (FormAt H' fa (toldF (names.take v.length) f)/\PreN (nmsOf o) (W.map (plB (nmsOf o))) v.length f),?_,?_⟩
  rotate_left
  .apply iteD (λc=>?_) (λc=>?_)
   .apply iteD (λc2=>?_) (λc2=>?_)
    .apply ixLm (SqL.of (s8 _ _ (F _ _ eb))) rfl ?_;apply⟨nl,d,names.take v.length,X,b4,rfl,C8.n.en,C8.ed,U,⋯,⋯,⋯,λj Y=>af j ⋯,λb is H9 s9 e9 ne l5 jl=>?_⟩;apply⟨uc,?_⟩;walk_at"f fa hfa H10 s10 t10";left;exact⟨fa,.row is,rfl,s9.trans s10,⟨b,t10,s10 _ _ e9⟩,ne,⋯,λj Y=>by have:=jl j Y;lia⟩
    .left;exact⟨ar,f0,rfl,Same.refl _,aa,N⟩
   .left;exact⟨ar,f0,rfl,Same.refl _,aa,N⟩
  rintro S' H9 ⟨as,f1,rfl,s9,ab,a1⟩;have C9:=C8.same s9;have ak:=F.trans (s8.trans s9);clear C8 C aa N s8 s9 F;apply⟨λS' H'=>IvE3 λ(fa:Addr) (f:Fn) (g:Int)=>IvA5 (S'=[some (.ref a),some (.int (B:Nat)),some (.ref bd),some (.ref po),some (.int (p:Nat)),some (.ref pl),some (.int (0+(i:Int))),some (.int (O:Nat)),some (.int en4),some (.ref nl),some (.ref ml),some (.ref d),some (.ref pp),some (.int num),some (.ref ow),some (.ref fa),R]) (Same H9 H') (FormAt H' fa (toldF (names.take v.length) f)) (PreN (nmsOf o) (W.map (plB (nmsOf o))) v.length f) (LenN X f g/\g<=b4),?_,?_⟩
  rotate_left
  .apply⟨as,d,f1,names.take v.length,X,nmsOf o,W.map (plB (nmsOf o)),rfl,ab,C9.ed,U,⋯,by rw[tl];exact a1,λj Y=>by have:=af j ⋯;lia,λg H10 s10 lg=>?_⟩;apply ixLm (SqL.of (s10 _ _ (ak _ _ eb))) rfl ?_;apply iteD (λc=>?_) (λc=>?_)
   .apply⟨uc,?_⟩;walk_at"f fa hfa H11 s11 t11";left;exact⟨fa,.hold 1,1,rfl,s10.trans s11,t11,⟨by decide,by decide⟩,rfl,am⟩
   .left;exact⟨as,f1,g,rfl,s10,FormAt.same s10 ab,a1,lg,⋯⟩
  rintro S' H10 ⟨fa,f,g,rfl,s10,hf,a7,lg,gb⟩;have n:=C9.same s10;have az:=ak.trans s10;clear C9 ab a1 s10 ak;apply⟨.inl ⟨rfl,_,SqL.of n.n.em⟩,?_⟩;apply⟨fa,nl,ml,G,f,names.take v.length,W,nmsOf o,W.map (plB (nmsOf o)),rfl,hf,n.n.en,n.n.em,n.n.am,U,⋯,⋯,by rw[tl];exact a7,λks hk=>by have:=n.n.il.len hk;lia,λl ks H11 s11 hl el mv kl=>?_⟩;apply⟨ml,_,_,rfl,rfl,s11 _ _ n.n.em,by rw[vt];lia,?_⟩;generalize I:upd H11 ml _=H12;have aK:H12 ml=some (.lst ((G++[l]).map V.ref)):=by rw[vj];exact qD I
  have aw:∀c u,c≠ml->H11 c=some u->H12 c=some u:=λc u hc h=>I▸(jo hc).trans h
  clear I;have k2:∀c u,c≠ml->H10 c=some u->H12 c=some u:=λc u hc h=>aw c u hc (s11 _ _ h)
  have L:∀{c u},H10 c=some u->l≠c:=λh=>(je h hl).symm
  have ao:=aw _ _ (L n.n.em) el;have a4:d≠ml:=jZ n.ed n.n.em (λz=>by cases z);have a5:d≠nl:=jZ n.ed n.n.en (λz=>by cases z);have ag:d≠pp:=jZ n.ed n.ep (λz=>by cases z);apply⟨p,5+i,by rw[show(5+(0+(i:Int)))=((5+i:Nat):Int) by lia];rfl,hp,⋯,?_⟩;apply⟨λS' H'=>S'=[some (.ref a),some (.int (B:Nat)),some (.ref bd),some (.ref po),some (.int (p:Nat)),some (.ref pl),some (.int (0+(i:Int))),some (.int (O:Nat)),some (.int en4),some (.ref nl),some (.ref ml),some (.ref d),some (.ref pp),some (.int num),some (.ref ow),some (.ref fa),some (.str (names.getD v.length ⟨#[]⟩))]/\H12=H',?_,?_⟩
  rotate_left
  .have nk:=ng aV;rw[<-fl]at nk;apply iteD (λc=>?_) (λc=>?_)
   .have ic:i=O:=⋯
    apply⟨_,_,rfl,.inl ⟨_,SqL.of (k2 _ _ S.lm n.l.el),rfl⟩,?_⟩;rw[vt,ax];left;rw[show(0+(i:Int))%(o.length:Int)=((i%o.length:Nat):Int) by rw[uv];exact(Int.natCast_emod _ _).symm];have jm:=Nat.mod_lt i (show 0<o.length by lia);obtain⟨lk,aU,aP⟩:=n.l.la.get (vz jm);have a9:H10 lk=some (.tup [.str (o[i%o.length]).1,.int (o[i%o.length]).2]):=aP;refine ixLm (SqL.of (k2 _ _ S.lm n.l.el)) (jN (j:=i%o.length) (by rw[vv,aU];rfl)) ?_;apply zTu (k2 _ _ (jZ a9 n.n.em λz=>by cases z) a9) ?_;apply⟨?_,rfl⟩;have ew:(o[i%o.length]).1=wdB p (i%o.length):=by
     have h1:(nmsOf o)[i%o.length]?=some (o[i%o.length]).1:=by unfold nmsOf;rw[vv,vz jm];rfl
     rw[nm,j3t jm]at h1;exact(vL h1).symm
    rw[nk,fl];unfold ixB;rw[vd ic,ew]
   .apply⟨?_,rfl⟩;rw[nk,fl];unfold ixB;rw[vc ⋯]
  rintro S' aZ ⟨rfl,rfl⟩;apply⟨.inl ⟨rfl,_,SqL.of (k2 _ _ S.nm n.n.en)⟩,?_⟩;apply⟨nl,_,_,rfl,rfl,k2 _ _ S.nm n.n.en,by rw[vt];lia,?_⟩;generalize I:upd H12 nl _=H13;have aL:H13 nl=some (.lst ((names.take (v.length+1)).map V.str)):=by
   rw[take_snoc (show names[v.length]?=some (names.getD v.length ⟨#[]⟩) by rw[vy,vz ⋯];rfl),vj];exact qD I
  have ac:∀c u,c≠nl->H12 c=some u->H13 c=some u:=λc u hc h=>I▸(jo hc).trans h
  clear I;have b5:atI ((names.take (v.length+1)).map V.str) (0+(i:Int))=some (.str (names.getD v.length ⟨#[]⟩)):=by
   rw[<-fl,uv];refine jN ?_;rw[vv,uo ⋯,vy,vz ⋯];rfl
  have k3:∀c u,c≠ml->c≠nl->H10 c=some u->H13 c=some u:=λc u h1 h2 h=>ac c u h2 (k2 c u h1 h)
  apply⟨.inl ⟨rfl,_,SqL.of (k3 _ _ S.mp.symm S.np.symm n.ep)⟩,?_⟩;apply⟨uc,?_⟩;walk_at"f c hc H14 s14 t14";apply⟨pp,_,_,rfl,rfl,s14 _ _ (k3 _ _ S.mp.symm S.np.symm n.ep),by rw[vt];lia,?_⟩;generalize I:upd H14 pp _=H15;have aM:H15 pp=some (.lst ((M++[c]).map V.ref)):=by rw[vj];exact qD I
  have Z:∀c u,c≠pp->H14 c=some u->H15 c=some u:=λc u hc h=>I▸(jo hc).trans h
  clear I;have k4:∀c u,c≠ml->c≠nl->c≠pp->H10 c=some u->H15 c=some u:=λc u h1 h2 h3 h=>Z c u h3 (s14 _ _ (k3 c u h1 h2 h))
  have kt:∀c xs,H10 c=some (.tup xs)->H15 c=some (.tup xs):=λc xs h=>k4 c _ (jZ h n.n.em λz=>by cases z) (jZ h n.n.en λz=>by cases z) (jZ h n.ep λz=>by cases z) h
  have aX:c≠pp:=(je (k3 _ _ S.mp.symm S.np.symm n.ep) hc).symm;apply⟨fa,d,f,names.take v.length,X,nmsOf o,W.map (plB (nmsOf o)),rfl,FormAt.keep kt hf,k4 _ _ a4 a5 ag n.ed,U,⋯,by rw[tl];exact a7,λj Y=>by have:=af j ⋯;lia,λg' aC ay aW=>?_⟩;obtain rfl:=lg.uniq aW;apply⟨d,_,rfl,DPut.k (k:=Sum.inr (names.getD v.length ⟨#[]⟩)) (ay _ _ (k4 _ _ a4 a5 ag n.ed)) (by rw[j1u ⋯];lia),?_⟩;have xn:names.getD v.length ⟨#[]⟩∉names.take v.length:=λz=>by
   obtain⟨j,Y,e⟩:=mem_iff_getElem.mp z;rw[getElem_take]at e;have jl:j<v.length:=by rw[tl]at Y;exact Y
   have e2:names[j]?=some (names.getD v.length ⟨#[]⟩):=by rw[vz ⋯,e]
   have e3:names[v.length]?=some (names.getD v.length ⟨#[]⟩):=by rw[vy,vz ⋯];rfl
   have:=jW nd e2;have:=jW nd e3;lia
  rw[j1v ⋯ xn];generalize I:upd aC d _=H17;have aN:H17 d=some (.dK (knK (names.take (v.length+1)) (X++[g]))):=by
   rw[take_snoc (show names[v.length]?=some (names.getD v.length ⟨#[]⟩) by rw[vy,vz ⋯];rfl)];exact qD I
  have J:∀c u,c≠d->H15 c=some u->H17 c=some u:=λc u hc h=>I▸(jo hc).trans (ay _ _ h)
  clear I;have aB:=n.add (fa:=fa) (l:=l) (c:=c) (f:=f) (ks:=ks) (g:=g) (H':=H17) S (by rw[<-wL a7];exact hf) a7 mv lg gb an ⋯ ⋯ nW (λx u h1 h2 h3 h4 h=>J _ _ h4 (k4 _ _ h1 h2 h3 h)) (J _ _ a4.symm (Z _ _ S.mp (s14 _ _ (ac _ _ S.nm.symm aK)))) (J _ _ (L n.ed) (Z _ _ (L n.ep) (s14 _ _ (ac _ _ (L n.n.en) ao)))) (J _ _ a5.symm (Z _ _ S.np (s14 _ _ aL))) (J _ _ ag.symm aM) (J _ _ (jZ t14 (s14 _ _ (k3 _ _ a4 a5 n.ed)) λz=>by cases z) (Z _ _ aX t14)) aN;exact⟨_,_,_,_,_,M++[c],G++[l],v++[f],W++[ks],X++[g],rfl,λx u h=>J _ _ (je h aQ) (k4 _ _ (je h aR) (je h aS) (je h aT) (az _ _ h)),aB,S.add ⟨L n.n.en,L n.n.em,L n.ep⟩,by rw[vn,fl];rfl⟩
 rintro S' H7 ⟨o5,ah,ai,a6,R,M,G,v,W,X,rfl,F,C,S,fl⟩
 replace fl:v.length=B+1:=⋯
 have gl:=C.dk.gl;have tl:(names.take v.length).length=v.length:=by rw[vi];lia
 have U:(names.take v.length).Nodup:=nd.sublist (take_sublist _ _);apply⟨uc,?_⟩;walk_at"f b hbb H8 s8 t8";have C8:=C.same s8;apply ixLm (SqL.of C8.n.en) (zL (j:=B) ⋯) ?_;have g:=DGet.k (k:=Sum.inr ((names.take v.length).getD B ⟨#[]⟩)) C8.ed;rw[Kx U ⋯ ⋯]at g;refine⟨d,_,rfl,g,?_⟩;apply⟨uc,?_⟩;walk_at"f r hr' H9 s9 t9";exact q r b pl pp D M names o v _ X H9 (F.trans (s8.trans s9)) (by rw[show v.length-1=B by lia];exact t9) ((C8.book t8).same s9) C.dk (C.dk.sn C.fl nd ae ⋯ ⋯ ⋯ lh) fl nL nd nW m1 ⋯ ae lW S.lp C.gb
def xC(T:Txt K mg t)(j5:1<*t.qc t.qf ["_law_script","_law_k"] (Pr.sp_cell_at K))(j0:1<*t.qt t.qx ["_law_cell","_law_k"] (KF))(JO:1<*t.QJ t.QO ["_law_place","_law_k"] (sp_wordB))(Z0:2<*t.Z7 t.ye ["_law_number","_law_names","_law_movers","_law_limbs","_law_bounds"] (sp_formB))(JN:1<*t.QH t.QM ["_law_form_here","_law_known"] (sp_longB))(qq:1<*t.qX t.Qc ["_law_form_here","_law_names","_law_movers"] (sp_movesB))(qO:1<*t.QG t.QL ["_law_names","_law_known","_law_most"] (sp_lastB))(Ql:5<*t.Qp t.Qr ["_law_script","_law_many","_law_bounds"] (sp_bookB K)):6<*t.Z6 t.yc ["_law_script","_law_many","_law_bounds"] (sp_bookB K):=by
 specialize T.kU.F.ok jQ;obtain⟨a,bd,ns,y,b0,b1,b2,b3,b4,rfl,hS,a1,m2,aS,Bd,q⟩:=h;refine⟨_,(jb (jP (jp j1F (jC KQ (by rfl) T.j32 j0d (ja (jt T.JK j5 hr (ja (pv 0) (ja jd jc))) jc)) (jw yq jd jd) (nomark _))
   (jf (jy (jt T.Zq Ql hr (ja (pv 0) (ja (pv 1) (ja (pv 2) jc))))))
   jx)
  (jb (jq' 3 jQ.nd (jt T.JR j0 hr (ja (jt T.JR j0 hr (ja (jt T.JK j5 hr (ja (pv 0) (ja jd jc))) (ja jd jc))) (ja jd jc))))
  (jb (jq' 4 jQ.nd (jL jc))
  (jb (j7 PassesOwn.never rfl (qA (by rfl) T.qY (ja (jw j2 jd (jw j3 (jw Je (pv 3) jd) jd)) jc)) (ju' 5 jQ.nd)
   (jb (jq' 6 jQ.nd (jw j3 (jw Je (pv 3) (jk jv (jL (ja jd (ja jd (ja jd (ja jd jc))))) (pv 5))) (jk jv (pv 2) jd)))
   (jf (jO (Js q3 q4 q5 jK (pv 4) (ja (jI (ja (jt T.QF JO hr (ja (jw j3 (pv 3) jd) (ja (pv 5) jc))) (ja (pv 6) jc))) jc))))))
  (jb (jq' 7 jQ.nd (jL jc))
  (jb (jq' 8 jQ.nd (jL jc))
  (jb (jq' 9 jQ.nd Zu)
  (jb (jq' 10 jQ.nd (jL jc))
  (jb (j7 PassesOwn.never rfl (qA (by rfl) T.qY (ja (jw j2 (pv 1) jd) jc)) (ju' 5 jQ.nd)
   (jb (jq' 11 jQ.nd (jt T.JR j0 hr (ja (jt T.JR j0 hr (ja (jt T.JK j5 hr (ja (pv 0) (ja (jw j2 jd (pv 5)) jc))) (ja (jw j2 jd (pv 5)) jc))) (ja (jw j2 jd (pv 5)) jc))))
   (jb (jq' 12 jQ.nd (jt T.kW Z0 hr (ja (pv 11) (ja (pv 7) (ja (pv 8) (ja (pv 4) (ja (pv 2) jc)))))))
   (jb (JX (PW.pt (Qf (jp jS (pv 5) (pv 1) (nomark _)) (qJ (jp jS (jw j3 (jw Je (pv 3) jd) jd) jd (nomark _)))))
    (jf (jq' 12 jQ.nd (jI (ja jE (ja (jt T.ZY qO hr (ja (pv 7) (ja (pv 9) (ja (jk jv (pv 2) jd) jc)))) jc)))))
    jx)
   (jb (JX (jp y6 (jt T.QE JN hr (ja (pv 12) (ja (pv 9) jc))) (jk jv (pv 2) jd) (nomark _))
    (jf (jq' 12 jQ.nd (jI (ja jE (ja jd jc)))))
    jx)
   (jb (jO (Js q3 q4 q5 jK (pv 8) (ja (jt T.ZE qq hr (ja (pv 12) (ja (pv 7) (ja (pv 8) jc)))) jc)))
   (jb (jq' 13 jQ.nd (jt T.QF JO hr (ja (jw j3 (pv 3) jd) (ja (jw j2 jd (pv 5)) jc))))
   (jb (JX (PW.pt (Qf (jp jS (pv 5) (jw j3 (jw Je (pv 3) jd) (jw j2 (pv 1) jd)) (nomark _)) (qJ (jp jS (jw j3 (jw Je (pv 3) jd) jd) jd (nomark _)))))
    (jf (jq' 13 jQ.nd (jk jr (jk jv (pv 4) (jw j3 (pv 5) (jC jR (by rfl) T.JJ Jb (ja (pv 4) jc)))) jd)))
    jx)
   (jb (jO (Js q3 q4 q5 jK (pv 7) (ja (pv 13) jc)))
   (jb (jO (Js q3 q4 q5 jK (pv 10) (ja (jI (ja (jk jv (pv 7) (pv 5)) (ja (pv 12) jc))) jc)))
   (jf (ZO (JZ hr) (pv 9) (jk jv (pv 7) (pv 5)) (jt T.QE JN hr (ja (pv 12) (ja (pv 9) jc))) rfl))))))))))))
  (jf (jy (jI (ja (jI (ja (pv 4) (ja (pv 10) jc))) (ja (Qe (JZ hr) (pv 9) (jk jv (pv 7) (pv 1))) jc)))))))))))))),?_⟩
 refine jD (S':=[some _,some _,some _,none,none,none,none,none,none,none,none,none,none,none]) rfl ?_
 try dsimp only[cxOf,Cx.nox]
 have au:=Bd;obtain⟨eb,ax,ay,az,aA,aB,aC,aD,aE,al,am⟩:=Bd;apply⟨a,ns,_,rfl,hS,a1,⋯,?_⟩;refine⟨_,rfl,?_⟩;apply iteD (λc=>?_) (λc=>?_)
 .left;exact⟨a,bd,ns,y,b0,b1,b2,b3,b4,rfl,hS,a1,m2,aS,au,q⟩
 clear c;apply⟨a,ns,_,rfl,hS,a1,⋯,?_⟩;apply⟨_,_,rfl,⋯,⋯,?_⟩;apply⟨_,_,rfl,⋯,⋯,?_⟩;have hb:=YG (mixB (Pr.cell ns 0) 0) 90;generalize mixB (mixB (Pr.cell ns 0) 0) 90=hd at hb|-;obtain⟨p,e3⟩:∃p:Nat,hd%3=(p:Int):=⟨(hd%3).toNat,⋯⟩
 have hp:p<3:=⋯
 apply⟨va _,?_⟩;walk_at"f pl hpl H1 s1 t1";apply⟨_,rfl,⋯,⋯,?_⟩;refine Qu (λi σ H'=>IvE4 λ(o5 o6:N3) (D:L7) (o:L4)=>IvA7 (σ=[some (.ref a),some (.int (y:Nat)),some (.ref bd),some (.int hd),some (.ref pl),o5,o6,none,none,none,none,none,none,none]) (Same H H') (H' pl=some (.lst (D.map V.ref))) (All2 (LimbAt H') D o) (nmsOf o=lmB p i) (o.length=i) (∀q∈o,0<=q.2/\q.2<=10^18)) ⟨_,_,[],[],rfl,s1,t1,.nil,rfl,rfl,(λq h=>nomatch h)⟩ ?_ ?_
 .rintro i σ H' hi ⟨o5,o6,D,o,rfl,F,Y,la,nm,ll,lh⟩;have i4:i<4:=⋯
  have ar:=la.1;obtain⟨w',aP,w1,w2⟩:∃w':Int,atI [V.int 100,V.int 1000,V.int 10000,V.int 100000] (0+(i:Int))=some (.int w')/\100<=w'/\w'<=100000:=by
   have:i=0\/i=1\/i=2\/i=3:=⋯
   rcases this with rfl | rfl | rfl | rfl
   .exact⟨100,rfl,by decide,by decide⟩
   .exact⟨1000,rfl,by decide,by decide⟩
   .exact⟨10000,rfl,by decide,by decide⟩
   .exact⟨100000,rfl,by decide,by decide⟩
  apply⟨ua,?_⟩;sleep 2;apply ixLm (SqL.of t2) (aP) ?_;apply ixLm (SqL.of (s2 _ _ (F _ _ eb))) rfl ?_;left;have v0:=ve (hd/w') (show b2≠0 by lia);have v1:=vf (hd/w') (show 0<b2 by lia);generalize hd/w'%b2=v at v0 v1|-;refine⟨.inl ⟨rfl,_,SqL.of (s2 _ _ Y)⟩,?_⟩;apply⟨p,i,by rw[e3,uv];rfl,hp,⋯,?_⟩;apply⟨uc,?_⟩;sleep 3;have a5:=s2.trans s3;apply⟨pl,_,_,rfl,rfl,a5 _ _ Y,by rw[vt];lia,?_⟩;have kt:∀c xs,H3 c=some (.tup xs)->upd H3 pl (.lst (D.map V.ref++[.ref p3])) c=some (.tup xs):=λc xs h=>(jo (jZ h (a5 _ _ Y) λz=>by cases z)).trans h
  refine⟨_,_,D++[p3],o++[(wdB p i,v)],rfl,λc u h=>?_,by rw[jz,vj];rfl,(la.mono λc x h=>kt _ _ (a5 _ _ h)).snoc (kt _ _ t3),?_,by rw[vn,ll];rfl,λq hq=>?_⟩
  .refine(jo ?_).trans (a5 _ _ (F _ _ h));exact je h hpl
  .rw[XI,<-nm];unfold nmsOf;rw[vj];rfl
  .rcases vh.mp hq with z | z
   .exact lh q z
   .rw[vo.mp z];exact⟨v0,by show v<=10^18;lia⟩
 rintro S' H2 ⟨o5,o6,D,o,rfl,F,Y,la,nm,ll,lh⟩;have m1:1<=o.length:=⋯
 have m4:o.length<=4:=⋯
 replace nm:nmsOf o=lmB p o.length:=by rw[nm,ll]
 obtain⟨ac,lW⟩:=j3u (m:=o.length) hp ⋯;rw[<-nm]at ac lW;clear ll s1 t1 H1;have Ll:(nmsOf o).length=o.length:=vt _;have ar:=la.1;obtain⟨cc,aN⟩:∃cc:Nat,∀i:Nat,i<=y->(i=cc↔((i:Int)=hd/48%((y:Int)+1)/\hd/24%2=0)):=by
  have u0:=ve (hd/48) (show((y:Int)+1)≠0 by lia);have u1:=vf (hd/48) (show(0:Int)<(y:Int)+1 by lia);by_cases c:hd/24%2=0
  .exact⟨(hd/48%((y:Int)+1)).toNat,λi hi=>⋯⟩
  .exact⟨100,λi hi=>⋯⟩
 obtain⟨nd,nW⟩:=j3H (p:=p) (st:=5) (c:=cc) (m:=o.length) hp m1 ⋯ ⋯;have ng:∀{k:Nat},k<17->(nmB p 5 cc o.length).getD k ⟨#[]⟩=wdB p (ixB 5 cc o.length k):=λh=>j1C h
 have nL:=j1D (p:=p) (st:=5) (c:=cc) (m:=o.length);generalize nmB p 5 cc o.length=names at nd nW ng nL;apply⟨va _,?_⟩;walk_at"f nl hnl H3 s3 t3";apply⟨va _,?_⟩;walk_at"f ml hml H4 s4 t4";left;walk_at"f d hd' H5 s5 t5";apply⟨va _,?_⟩;walk_at"f pp hpp H6 s6 t6";have ai:=s4.trans (s5.trans s6);have a6:=s3.trans ai;have BB:BkB pl nl ml d pp D [] [] o names [] [] [] b4 H6:=by
  refine⟨⟨ai _ _ t3,s6 _ _ (s5 _ _ t4),.nil,(λks hk=>nomatch hk),rfl,va _,⋯,(λx hx=>nomatch hx),lW⟩,⟨a6 _ _ Y,la.mono λc x h=>a6 _ _ h,m1⟩,s6 _ _ t5,t6,.nil,⟨rfl,rfl,(λi f h=>by simp at h),λi h=>ue h (Nat.not_lt_zero i)⟩,λj X=>ue X (Nat.not_lt_zero j),va _⟩
 have SS:SpB pl nl ml pp bd []:=⟨je Y hnl,je (s3 _ _ Y) hml,je (s5 _ _ (s4 _ _ (s3 _ _ Y))) hpp,je t3 hml,je (s5 _ _ (s4 _ _ t3)) hpp,je (s5 _ _ t4) hpp,je (F _ _ eb) hnl,je (s3 _ _ (F _ _ eb)) hml,je (s5 _ _ (s4 _ _ (s3 _ _ (F _ _ eb)))) hpp,(λx hx=>nomatch hx)⟩
 have aL:H nl=none:=none_of F hnl;have aK:H ml=none:=none_of (F.trans s3) hml;have aJ:H d=none:=none_of (F.trans (s3.trans s4)) hd';have aM:H pp=none:=none_of (F.trans (s3.trans (s4.trans s5))) hpp;have aU:=F.trans a6;clear a6 ai t3 t4 t5 t6 Y la F s3 s4 s5 s6 hnl hml hd' hpp;apply⟨_,rfl,⋯,⋯,?_⟩;refine Qu (λi σ H'=>IvE9 λ(o5 af ag Z:N3) (M G:L7) (B:List Fn) (U:List L8) (W:L5)=>IvA4 (σ=[some (.ref a),some (.int (y:Nat)),some (.ref bd),some (.int hd),some (.ref pl),o5,o6,some (.ref nl),some (.ref ml),some (.ref d),some (.ref pp),af,ag,Z]) (Same H H') (BkB pl nl ml d pp D M G o names B U W b4 H') (SpB pl nl ml pp bd G/\B.length=i))
  ⟨_,_,_,_,[],[],[],[],[],rfl,aU,BB,SS,rfl⟩ ?_ ?_
 .rintro i σ H7 hi ⟨o5,af,ag,Z,M,G,B,U,W,rfl,F,C,S,fl⟩;have aQ:i<17:=⋯
  have tl:(names.take B.length).length=B.length:=by rw[vi];lia
  have aX:M.length=B.length:=C.pa.1.trans Qt;have gl:=C.dk.gl;have Ml:U.length=B.length:=by have:=C.n.ml;lia
  have aW:G.length=B.length:=by have:=C.n.am.1;lia
  have R:(names.take B.length).Nodup:=nd.sublist (take_sublist _ _);have ad:∀j,j<B.length->1<=W.getD j 0/\W.getD j 0<=b4:=λj X=>⟨(C.dk.g j X).1,C.gb j X⟩
  apply⟨a,ns,_,rfl,F.seq hS,a1,⋯,?_⟩;apply⟨_,_,rfl,⋯,⋯,?_⟩;apply⟨_,_,rfl,⋯,⋯,?_⟩;have nb:=YG (mixB (Pr.cell ns (1+(0+(i:Int)))) (1+(0+(i:Int)))) (91+(0+(i:Int)));generalize mixB (mixB (Pr.cell ns (1+(0+(i:Int)))) (1+(0+(i:Int)))) (91+(0+(i:Int)))=num at nb|-;apply⟨num,nl,ml,pl,bd,G,D,o,names.take B.length,U,b0,b1,b2,b3,b4,rfl,C.n,C.l,⟨F _ _ eb,ax,ay,az,aA,aB,aC,aD,aE,al,am⟩,⋯,⋯,λao f0 H8 s8 a9 N=>?_⟩;rw[tl]at N;have C8:=C.same s8;apply⟨λS' H'=>IvE2 λ(fa:Addr) (f:Fn)=>IvA3 (S'=[some (.ref a),some (.int (y:Nat)),some (.ref bd),some (.int hd),some (.ref pl),some (.int (0+(i:Int))),o6,some (.ref nl),some (.ref ml),some (.ref d),some (.ref pp),some (.int num),some (.ref fa),Z]) (Same H8 H') (FormAt H' fa (toldF (names.take B.length) f)/\PreN (nmsOf o) (U.map (plB (nmsOf o))) B.length f),?_,?_⟩
  rotate_left
  .apply iteD (λc=>?_) (λc=>?_)
   .apply iteD (λc2=>?_) (λc2=>?_)
    .apply ixLm (SqL.of (s8 _ _ (F _ _ eb))) rfl ?_;apply⟨nl,d,names.take B.length,W,b4,rfl,C8.n.en,C8.ed,R,⋯,⋯,⋯,λj X=>ad j ⋯,λb is H9 s9 e9 ne l5 jl=>?_⟩;apply⟨uc,?_⟩;walk_at"f fa hfa H10 s10 t10";left;exact⟨fa,.row is,rfl,s9.trans s10,⟨b,t10,s10 _ _ e9⟩,ne,⋯,λj X=>by have:=jl j X;lia⟩
    .left;exact⟨ao,f0,rfl,Same.refl _,a9,N⟩
   .left;exact⟨ao,f0,rfl,Same.refl _,a9,N⟩
  rintro S' H9 ⟨ap,f1,rfl,s9,aa,a0⟩;have C9:=C8.same s9;have aj:=F.trans (s8.trans s9);clear C8 C a9 N s8 s9 F;apply⟨λS' H'=>IvE3 λ(fa:Addr) (f:Fn) (g:Int)=>IvA5 (S'=[some (.ref a),some (.int (y:Nat)),some (.ref bd),some (.int hd),some (.ref pl),some (.int (0+(i:Int))),o6,some (.ref nl),some (.ref ml),some (.ref d),some (.ref pp),some (.int num),some (.ref fa),Z]) (Same H9 H') (FormAt H' fa (toldF (names.take B.length) f)) (PreN (nmsOf o) (U.map (plB (nmsOf o))) B.length f) (LenN W f g/\g<=b4),?_,?_⟩
  rotate_left
  .apply⟨ap,d,f1,names.take B.length,W,nmsOf o,U.map (plB (nmsOf o)),rfl,aa,C9.ed,R,⋯,by rw[tl];exact a0,λj X=>by have:=ad j ⋯;lia,λg H10 s10 lg=>?_⟩;apply ixLm (SqL.of (s10 _ _ (aj _ _ eb))) rfl ?_;apply iteD (λc=>?_) (λc=>?_)
   .apply⟨uc,?_⟩;walk_at"f fa hfa H11 s11 t11";left;exact⟨fa,.hold 1,1,rfl,s10.trans s11,t11,⟨by decide,by decide⟩,rfl,al⟩
   .left;exact⟨ap,f1,g,rfl,s10,FormAt.same s10 aa,a0,lg,⋯⟩
  rintro S' H10 ⟨fa,f,g,rfl,s10,hf,a4,lg,gb⟩;have n:=C9.same s10;have as:=aj.trans s10;clear C9 aa a0 s10 aj;apply⟨.inl ⟨rfl,_,SqL.of n.n.em⟩,?_⟩;apply⟨fa,nl,ml,G,f,names.take B.length,U,nmsOf o,U.map (plB (nmsOf o)),rfl,hf,n.n.en,n.n.em,n.n.am,R,⋯,⋯,by rw[tl];exact a4,λks hk=>by have:=n.n.il.len hk;lia,λl ks H11 s11 hl Y mv kl=>?_⟩;apply⟨ml,_,_,rfl,rfl,s11 _ _ n.n.em,by rw[vt];lia,?_⟩;generalize I:upd H11 ml _=H12;have aF:H12 ml=some (.lst ((G++[l]).map V.ref)):=by rw[vj];exact qD I
  have aq:∀c u,c≠ml->H11 c=some u->H12 c=some u:=λc u hc h=>I▸(jo hc).trans h
  clear I;have k2:∀c u,c≠ml->H10 c=some u->H12 c=some u:=λc u hc h=>aq c u hc (s11 _ _ h)
  have L:∀{c u},H10 c=some u->l≠c:=λh=>(je h hl).symm
  have an:=aq _ _ (L n.n.em) Y;have a2:d≠ml:=jZ n.ed n.n.em (λz=>by cases z);have a3:d≠nl:=jZ n.ed n.n.en (λz=>by cases z);have ae:d≠pp:=jZ n.ed n.ep (λz=>by cases z);apply⟨p,5+i,by rw[e3,show(5+(0+(i:Int)))=((5+i:Nat):Int) by lia];rfl,hp,⋯,?_⟩;apply⟨λS' H'=>S'=[some (.ref a),some (.int (y:Nat)),some (.ref bd),some (.int hd),some (.ref pl),some (.int (0+(i:Int))),o6,some (.ref nl),some (.ref ml),some (.ref d),some (.ref pp),some (.int num),some (.ref fa),some (.str (names.getD B.length ⟨#[]⟩))]/\H12=H',?_,?_⟩
  rotate_left
  .have hz:=aN i ⋯;have nk:=ng aQ;rw[<-fl]at nk;apply iteD (λc=>?_) (λc=>?_)
   .apply iteD (λc2=>?_) (λc2=>?_)
    .have ic:i=cc:=hz.mpr ⟨⋯,c2⟩;apply⟨_,_,rfl,.inl ⟨_,SqL.of (k2 _ _ S.lm n.l.el),rfl⟩,?_⟩;rw[vt,ar];left;rw[show(0+(i:Int))%(o.length:Int)=((i%o.length:Nat):Int) by rw[uv];exact(Int.natCast_emod _ _).symm];have jm:=Nat.mod_lt i (show 0<o.length by lia);obtain⟨lk,aO,aI⟩:=n.l.la.get (vz jm);have a7:H10 lk=some (.tup [.str (o[i%o.length]).1,.int (o[i%o.length]).2]):=aI;refine ixLm (SqL.of (k2 _ _ S.lm n.l.el)) (jN (j:=i%o.length) (by rw[vv,aO];rfl)) ?_;apply zTu (k2 _ _ (jZ a7 n.n.em λz=>by cases z) a7) ?_;apply⟨?_,rfl⟩;have ew:(o[i%o.length]).1=wdB p (i%o.length):=by
      have h1:(nmsOf o)[i%o.length]?=some (o[i%o.length]).1:=by unfold nmsOf;rw[vv,vz jm];rfl
      rw[nm,j3t jm]at h1;exact(vL h1).symm
     rw[nk,fl];unfold ixB;rw[vd ic,ew]
    .apply⟨?_,rfl⟩;rw[nk,fl];unfold ixB;rw[vc (λz=>c2 (hz.mp z).2)]
   .apply⟨?_,rfl⟩;rw[nk,fl];unfold ixB;rw[vc (λz=>c (by have:=(hz.mp z).1;lia))]
  rintro S' aV ⟨rfl,rfl⟩;apply⟨.inl ⟨rfl,_,SqL.of (k2 _ _ S.nm n.n.en)⟩,?_⟩;apply⟨nl,_,_,rfl,rfl,k2 _ _ S.nm n.n.en,by rw[vt];lia,?_⟩;generalize I:upd H12 nl _=H13;have a8:H13 nl=some (.lst ((names.take (B.length+1)).map V.str)):=by
   rw[take_snoc (show names[B.length]?=some (names.getD B.length ⟨#[]⟩) by rw[vy,vz ⋯];rfl),vj];exact qD I
  have ab:∀c u,c≠nl->H12 c=some u->H13 c=some u:=λc u hc h=>I▸(jo hc).trans h
  clear I;have ak:atI ((names.take (B.length+1)).map V.str) (0+(i:Int))=some (.str (names.getD B.length ⟨#[]⟩)):=by
   rw[<-fl,uv];refine jN ?_;rw[vv,uo ⋯,vy,vz ⋯];rfl
  have k3:∀c u,c≠ml->c≠nl->H10 c=some u->H13 c=some u:=λc u h1 h2 h=>ab c u h2 (k2 c u h1 h)
  apply⟨.inl ⟨rfl,_,SqL.of (k3 _ _ S.mp.symm S.np.symm n.ep)⟩,?_⟩;apply ixLm (SqL.of a8) (ak) ?_;apply⟨uc,?_⟩;walk_at"f c hc H14 s14 t14";apply⟨pp,_,_,rfl,rfl,s14 _ _ (k3 _ _ S.mp.symm S.np.symm n.ep),by rw[vt];lia,?_⟩;generalize I:upd H14 pp _=H15;have aG:H15 pp=some (.lst ((M++[c]).map V.ref)):=by rw[vj];exact qD I
  have O:∀c u,c≠pp->H14 c=some u->H15 c=some u:=λc u hc h=>I▸(jo hc).trans h
  clear I;have k4:∀c u,c≠ml->c≠nl->c≠pp->H10 c=some u->H15 c=some u:=λc u h1 h2 h3 h=>O c u h3 (s14 _ _ (k3 c u h1 h2 h))
  have kt:∀c xs,H10 c=some (.tup xs)->H15 c=some (.tup xs):=λc xs h=>k4 c _ (jZ h n.n.em λz=>by cases z) (jZ h n.n.en λz=>by cases z) (jZ h n.ep λz=>by cases z) h
  have aT:c≠pp:=(je (k3 _ _ S.mp.symm S.np.symm n.ep) hc).symm;apply⟨fa,d,f,names.take B.length,W,nmsOf o,U.map (plB (nmsOf o)),rfl,FormAt.keep kt hf,k4 _ _ a2 a3 ae n.ed,R,⋯,by rw[tl];exact a4,λj X=>by have:=ad j ⋯;lia,λg' aw ah aR=>?_⟩;obtain rfl:=lg.uniq aR;apply ixLm (SqL.of (ah _ _ (O _ _ S.np (s14 _ _ a8)))) (ak) ?_;refine⟨d,_,rfl,DPut.k (k:=Sum.inr (names.getD B.length ⟨#[]⟩)) (ah _ _ (k4 _ _ a2 a3 ae n.ed)) (by rw[j1u ⋯];lia),?_⟩;have xn:names.getD B.length ⟨#[]⟩∉names.take B.length:=λz=>by
   obtain⟨j,X,e⟩:=mem_iff_getElem.mp z;rw[getElem_take]at e;have jl:j<B.length:=by rw[tl]at X;exact X
   have e2:names[j]?=some (names.getD B.length ⟨#[]⟩):=by rw[vz ⋯,e]
   have e3:names[B.length]?=some (names.getD B.length ⟨#[]⟩):=by rw[vy,vz ⋯];rfl
   have:=jW nd e2;have:=jW nd e3;lia
  rw[j1v ⋯ xn];generalize I:upd aw d _=H17;have aH:H17 d=some (.dK (knK (names.take (B.length+1)) (W++[g]))):=by
   rw[take_snoc (show names[B.length]?=some (names.getD B.length ⟨#[]⟩) by rw[vy,vz ⋯];rfl)];exact qD I
  have J:∀c u,c≠d->H15 c=some u->H17 c=some u:=λc u hc h=>I▸(jo hc).trans (ah _ _ h)
  clear I;have av:=n.add (fa:=fa) (l:=l) (c:=c) (f:=f) (ks:=ks) (g:=g) (H':=H17) S (by rw[<-wL a4];exact hf) a4 mv lg gb am ⋯ ⋯ nW (λx u h1 h2 h3 h4 h=>J _ _ h4 (k4 _ _ h1 h2 h3 h)) (J _ _ a2.symm (O _ _ S.mp (s14 _ _ (ab _ _ S.nm.symm aF)))) (J _ _ (L n.ed) (O _ _ (L n.ep) (s14 _ _ (ab _ _ (L n.n.en) an)))) (J _ _ a3.symm (O _ _ S.np (s14 _ _ a8))) (J _ _ ae.symm aG) (J _ _ (jZ t14 (s14 _ _ (k3 _ _ a2 a3 n.ed)) λz=>by cases z) (O _ _ aT t14)) aH;exact⟨_,_,_,_,M++[c],G++[l],B++[f],U++[ks],W++[g],rfl,λx u h=>J _ _ (je h aJ) (k4 _ _ (je h aK) (je h aL) (je h aM) (as _ _ h)),av,S.add ⟨L n.n.en,L n.n.em,L n.ep⟩,by rw[vn,fl];rfl⟩
 rintro S' H7 ⟨o5,af,ag,Z,M,G,B,U,W,rfl,F,C,S,fl⟩
 replace fl:B.length=y+1:=⋯
 have gl:=C.dk.gl;have tl:(names.take B.length).length=B.length:=by rw[vi];lia
 have R:(names.take B.length).Nodup:=nd.sublist (take_sublist _ _);apply⟨uc,?_⟩;walk_at"f b hbb H8 s8 t8";have C8:=C.same s8;apply ixLm (SqL.of C8.n.en) (zL (j:=y) ⋯) ?_;have g:=DGet.k (k:=Sum.inr ((names.take B.length).getD y ⟨#[]⟩)) C8.ed;rw[Kx R ⋯ ⋯]at g;refine⟨d,_,rfl,g,?_⟩;apply⟨uc,?_⟩;walk_at"f r hr' H9 s9 t9";exact q r b pl pp D M names o B _ W H9 (F.trans (s8.trans s9)) (by rw[show B.length-1=y by lia];exact t9) ((C8.book t8).same s9) C.dk (C.dk.sn C.fl nd ac ⋯ ⋯ ⋯ lh) fl nL nd nW m1 ⋯ ac lW S.lp C.gb
def wU(T:Txt K mg t):1<*t.QW t.Q1 ["_law_box"] (sp_longsP):=by
 specialize T.Yo.F.ok Zm;obtain⟨bx,l,f,a5,M,ls,ks,o,hs,rfl,B,X,N,q⟩:=h;refine⟨_,(jb (jq (i:=1) Zm.nd rfl (.inr rfl) (jL jc))
  (jb (j7 PassesOwn.never rfl (jX (jk jr (pv 0) jd)) (ju' 2 Zm.nd)
   (jf (jP (jp jS (jk jr (pv 2) jd) jE (nomark _))
    (jf (jO (Js q3 q4 q5 jK (pv 1) (ja (jC (yJ rfl) (by rfl) T.j19 W7 (ja (Jd (ow:=["_law_k"]) (ci:=[1]) rfl (CompScope.of (defScope Qh) ["_law_box","_law_longs_here","_law_form_here"] rfl rfl (by trivial)) (Jy nofun) (ZM (jk jr (pv 2) jd)) (λ_ _ _ _ _=>⟨(ju' 0 (jT ["_law_box","_law_longs_here","_law_form_here"] rfl (by trivial))),Jt,(jk (Zs (K:=K) rfl) (pv 1) (pv 0))⟩)) jc)) jc))))
    (jf (jP (jp jS (jk jr (pv 2) jd) jE (nomark _))
     (jf (jO (Js q3 q4 q5 jK (pv 1) (ja (jC (kj rfl) (by rfl) T.j18 W6 (ja (Jd (ow:=["_law_k"]) (ci:=[1]) rfl (CompScope.of (defScope Qh) ["_law_box","_law_longs_here","_law_form_here"] rfl rfl (by trivial)) (Jy nofun) (ZM (jk jr (pv 2) jd)) (λ_ _ _ _ _=>⟨(ju' 0 (jT ["_law_box","_law_longs_here","_law_form_here"] rfl (by trivial))),Jt,(jk (Zs (K:=K) rfl) (pv 1) (pv 0))⟩)) jc)) jc))))
     (jf (jP (jp jS (jk jr (pv 2) jd) jE (nomark _))
      (jf (jO (Js q3 q4 q5 jK (pv 1) (ja (jw Q6 (jk jr (pv 2) jd) (jk jv (pv 1) (jk jr (pv 2) jd))) jc))))
      (jf (jO (Js q3 q4 q5 jK (pv 1) (ja (jk jr (pv 2) (jw qK (jC jR (by rfl) T.JJ Jb (ja (pv 2) jc)) jd)) jc)))))))))))
  (jf (jy (pv 1))))),?_⟩
 refine jD (S':=[some _,none,none]) rfl ?_
 try dsimp only[cxOf,Cx.nox]
 have sz:(2000:Nat)<sizeLine:=by decide
 have dl:=B.d.1;have a4:=X.k61;have W:=N.s.w;have gl:=N.s.gl;rw[j6]at gl;apply⟨(by show 0<=sizeLine;lia),?_⟩;walk_at"f p hp H1 s1 t1";have m1:∀{c u},H c=some u->c≠p:=λh=>je h hp
 apply zTu (s1 _ _ B.t) ?_;refine⟨f,rfl,⟨_,SqL.of (s1 _ _ B.f)⟩,?_⟩;refine Jx (xs:=M.map V.ref) (λi σ L=>IvE1 λ(o2:N3)=>IvA2 (σ=[some (.ref bx),some (.ref p),o2]) (Same H L/\L p=some (.lst ((o.take i).map V.int)))) ⟨_,rfl,s1,t1⟩ ?_ ?_ ?_
 .rintro i σ L _ ⟨o2,rfl,F,y⟩;exact SqL.of (F _ _ B.f)
 .rintro i v σ L J ⟨o2,rfl,F,y⟩;rw[vv]at J;obtain⟨a,ha,rfl⟩:=vg.mp J;have hi:=(vx.mp ha).1;obtain⟨d,Y⟩:∃d,ks[i]?=some d:=⟨_,vz ⋯⟩
  have G:=(B.d.2 i a d ha Y).same F;have a0:=kh (ls:=ls) Y;have Z:∀j∈d.ns,j<i:=λj z=>X.dw.lt i d Y j z
  have l8:=X.dw.l8 d (vm Y);have D:=N.s.ln i _ a0;rw[show inP (bkP ls ks) ((nmK i,bkF (nmsOf ls) d):Str×Fm).2=d.ns from j0s W λj z=>by have:=Z j z;lia]at D;have gi:o[i]?=some (o.getD i 0):=by rw[vy,vz ⋯];rfl
  have C:∀(G:Hp) (g:Int),Same H G->g=o.getD i 0->Same H (upd G p (.lst ((o.take i).map V.int++[.int g])))/\upd G p (.lst ((o.take i).map V.int++[.int g])) p=some (.lst ((o.take (i+1)).map V.int)):=λG g sG e=>⟨λc u h=>(jo (m1 h)).trans (sG _ _ h),by rw[jz,take_snoc gi,vj,e];rfl⟩
  have tl:((o.take i).map V.int).length<sizeLine:=by rw[vt,vi];lia
  have lf:(∃(r:Str) (O:N2),L a=some (.tup (.str r::O))/\r≠"row"/\r≠"side"/\r≠"again"/\O.length<=3/\(V.str r::O)[O.length]?=some (.int (o.getD i 0)))\/(∃m,d = .row m)\/(∃m,d = .side m)\/∃k j,d = .again k j:=by
   cases d with
   | hold n=>exact .inl ⟨"hold",_,G,by trivial,by trivial,by trivial,by show 1<=3;decide,by rw[<-D.2 n rfl];rfl⟩
   | ring x n=>exact .inl ⟨"ring",_,G,by trivial,by trivial,by trivial,by show 2<=3;decide,by rw[<-D.2 n rfl];rfl⟩
   | rise x h n=>exact .inl ⟨"raise",_,G,by trivial,by trivial,by trivial,by show 3<=3;decide,by rw[<-D.2 n rfl];rfl⟩
   | row m=>exact .inr (.inl ⟨_,rfl⟩)
   | side m=>exact .inr (.inr (.inl ⟨_,rfl⟩))
   | again k j=>exact .inr (.inr (.inr ⟨_,_,rfl⟩))
  have gj:∀j∈d.ns,atI ((o.take i).map V.int) (j:Int)=some (.int (o.getD j 0)):=λj z=>jN (by rw[vv,uo (Z j z),vy,vz (by have:=Z j z;lia)];rfl)
  rcases lf with⟨r,O,S,a1,a2,a3,v3,vl⟩ | ⟨m,rfl⟩ | ⟨m,rfl⟩ | ⟨k,j,rfl⟩
  .apply ixTm (SqT.of S) (at0) ?_;apply iteD (λc=>ue c a1) (λ_=>?_);apply ixTm (SqT.of S) (at0) ?_;apply iteD (λc=>ue c a2) (λ_=>?_);apply ixTm (SqT.of S) (at0) ?_;apply iteD (λc=>ue c a3) (λ_=>?_);apply⟨.inl ⟨rfl,_,SqL.of y⟩,?_⟩;apply⟨_,_,rfl,.inr ⟨_,SqT.of S,rfl⟩,?_⟩;apply ixTm (SqT.of S) (by rw[show(((V.str r::O).length:Nat):Int)-1=((O.length:Nat):Int) by rw[vQ];lia];exact jN vl) ?_;apply⟨p,_,_,rfl,rfl,y,tl,?_⟩;exact⟨_,rfl,C _ _ F rfl⟩
  .have jl:m.length<=8:=l8;obtain⟨b,R,U⟩:=G;apply ixTm (SqT.of R) (at0) ?_;apply iteD (λ_=>?_) (λc=>ue rfl c);apply⟨.inl ⟨rfl,_,SqL.of y⟩,?_⟩;apply zTu R ?_;refine⟨b,rfl,⟨_,SqT.of U⟩,?_⟩;refine qZ (xs:=m.map vN) (λu I G=>I=((m.take u).map λj=>o.getD j 0).map V.int/\L=G) ⟨rfl,rfl⟩ ?_ ?_ ?_
   .rintro u I G _ ⟨rfl,rfl⟩;exact SqT.of U
   .rintro u v I G J ⟨rfl,rfl⟩;rw[vv]at J;obtain⟨j,z,rfl⟩:=vg.mp J;refine Jh (S':=[none,some (.ref p)]) rfl ?_;apply iteT ?_;apply ixLm (SqL.of y) (gj j (vm z)) ?_;refine⟨by rw[vt,vt,vi];lia,?_,rfl⟩;rw[take_snoc z,vj,vj];rfl
   rintro I G ⟨rfl,rfl⟩;rw[show m.take (m.map vN).length=m by rw[vt,v7]];refine⟨by rw[vt,vt];lia,?_⟩;sleep 5;apply⟨p5,_,rfl,SqL.of t5,?_⟩;apply⟨p,_,_,rfl,rfl,s5 _ _ y,tl,?_⟩;exact⟨_,rfl,C _ _ (F.trans s5) (D.2 _ rfl)⟩
  .have jl:m.length<=8:=l8;obtain⟨b,R,U⟩:=G;apply ixTm (SqT.of R) (at0) ?_;apply iteD (λc=>ue c (by trivial)) (λ_=>?_);apply ixTm (SqT.of R) (at0) ?_;apply iteD (λ_=>?_) (λc=>ue rfl c);apply⟨.inl ⟨rfl,_,SqL.of y⟩,?_⟩;apply zTu R ?_;refine⟨b,rfl,⟨_,SqT.of U⟩,?_⟩;refine qZ (xs:=m.map vN) (λu I G=>I=((m.take u).map λj=>o.getD j 0).map V.int/\L=G) ⟨rfl,rfl⟩ ?_ ?_ ?_
   .rintro u I G _ ⟨rfl,rfl⟩;exact SqT.of U
   .rintro u v I G J ⟨rfl,rfl⟩;rw[vv]at J;obtain⟨j,z,rfl⟩:=vg.mp J;refine Jh (S':=[none,some (.ref p)]) rfl ?_;apply iteT ?_;apply ixLm (SqL.of y) (gj j (vm z)) ?_;refine⟨by rw[vt,vt,vi];lia,?_,rfl⟩;rw[take_snoc z,vj,vj];rfl
   rintro I G ⟨rfl,rfl⟩;rw[show m.take (m.map vN).length=m by rw[vt,v7]];refine⟨by rw[vt,vt];lia,?_⟩;sleep 5;left;have jn:0<(m.map λj=>o.getD j 0).length:=length_pos_iff.mpr (D.1:(m.map λj=>o.getD j 0)≠[]);refine⟨p5,_,rfl,SqL.of t5,jn,λg g1 g2=>?_⟩;apply⟨p,_,_,rfl,rfl,s5 _ _ y,tl,?_⟩;exact⟨_,rfl,C _ _ (F.trans s5) (D.2 g ⟨g1,g2⟩)⟩
  .apply ixTm (SqT.of G) (at0) ?_;apply iteD (λc=>ue c (by trivial)) (λ_=>?_);apply ixTm (SqT.of G) (at0) ?_;apply iteD (λc=>ue c (by trivial)) (λ_=>?_);apply ixTm (SqT.of G) (at0) ?_;apply iteD (λ_=>?_) (λc=>ue rfl c);apply⟨.inl ⟨rfl,_,SqL.of y⟩,?_⟩;apply zTu G ?_;apply zTu G ?_;apply ixLm (SqL.of y) (gj j (by simp[Dm.ns])) ?_;left;have gb:=N.g (i:=j) (by rw[j6];have:=Z j (by simp[Dm.ns]);lia);obtain⟨_,_,e,k0,k1,_⟩:=D.1;cases e;refine⟨_,_,rfl,rfl,mulOk ⋯ ⋯ ⋯ ⋯,?_⟩;apply⟨p,_,_,rfl,rfl,y,tl,?_⟩;exact⟨_,rfl,C _ _ F (D.2 _ ⟨_,rfl,rfl⟩)⟩
 rintro S' H2 ⟨o2,rfl,F,y⟩;rw[vt,show o.take M.length=o by rw[show M.length=o.length by lia,v7]]at y;left;exact q p H2 F hp y
def kg(T:Txt K mg t):1<*t.JD t.JF ["_law_box","_law_number","_law_stands"] (sp_behindP 0):=by
 refine T.Jk.F.ok Jr (λc H Q E h=>?_) (λb A a s H c Q E d h=>?_)
 .exact ue h (wg)
 .exact ue h (wg)
def jg{rd rl:Nat}(T:Txt K mg t)(Jf:rl<*t.JD t.JF ["_law_box","_law_number","_law_stands"] (sp_behindP rd)):(rl+1)<*t.JD t.JF ["_law_box","_law_number","_law_stands"] (sp_behindP (rd+1)):=by
 specialize T.Jk.F.ok Jr;obtain⟨W,l,f,y,a1,a0,R,ks,gs,hs,E,i,st,rfl,B,X,ik,a5,es,sn,n1,n2,q⟩:=h;refine⟨_,(jb (jq' 3 Jr.nd (jk jv (jk jr (pv 0) jd) (pv 1)))
  (jb (jq' 4 Jr.nd (jL jc))
  (jb (JX (jp jS (jk jr (pv 3) jd) jE (nomark _))
   (jf (yu (jk jr (pv 3) jd) (Yk (pv 2) (jk jr (pv 3) jd) set_list)))
   jx)
  (jb (JX (PW.pt (wC (jp jS (jk jr (pv 3) jd) jE (nomark _)) (wD (jp jS (jk jr (pv 3) jd) jE (nomark _)))))
   (jf (jq' 4 Jr.nd (jk jr (pv 3) jd)))
   jx)
  (jb (JX (jp jS (jk jr (pv 3) jd) jE (nomark _))
   (jf (jq' 4 Jr.nd (jL (ja (jk jr (pv 3) jd) jc))))
   jx)
  (jf (j7 PassesOwn.never rfl (j5q (pv 4)) (ju' 5 Jr.nd)
   (jf (jO (zT (Jf.mono (vb _)) hr (by rfl) T.Jk.m T.Jk.F.kp T.Jk.B .nil pass0 (ja (pv 0) (ja (pv 5) (ja (pv 2) jc))))))))))))),?_⟩
 refine jD (S':=[some _,some _,some _,none,none,none]) rfl ?_
 try dsimp only[cxOf,Cx.nox]
 obtain⟨d,hd⟩:∃d,ks[i]?=some d:=⟨_,vz ik⟩
 obtain⟨a,ha,G⟩:=B.at' hd;obtain⟨hp,ip,lt⟩:=X.at' hd;have a6:=X.x.k61;have l8:=X.x.dw.l8 d (vm hd);obtain⟨g,o,Gt,cs⟩:∃(g:Str) (o:N2),H a=some (.tup (.str g::o))/\((g = "raise"/\∃k h n,d = .rise k h n/\o=[.int (k:Nat),.int h,.int n])\/((g = "row"\/g = "side")/\(∀x v m,bkF (nmsOf R) d≠.rise x v m)/\∃b,o=[.ref b]/\H b=some (.tup (d.ns.map vN)))\/(g = "again"/\∃k j,d = .again k j/\o=[.int k,.int (j:Nat)])\/((g = "hold"\/g = "ring")/\(∀x v m,bkF (nmsOf R) d≠.rise x v m)/\d.ns=[])):=by
  cases d with
  | hold n=>exact⟨"hold",_,G,.inr (.inr (.inr ⟨.inl rfl,(λx v m e=>by cases e),rfl⟩))⟩
  | ring x n=>exact⟨"ring",_,G,.inr (.inr (.inr ⟨.inr rfl,(λx v m e=>by cases e),rfl⟩))⟩
  | rise k h n=>exact⟨"raise",_,G,.inl ⟨rfl,k,h,n,rfl,rfl⟩⟩
  | row js=>obtain⟨b,G1,G2⟩:=G;exact⟨"row",_,G1,.inr (.inl ⟨.inl rfl,(λx v m e=>by cases e),b,rfl,G2⟩)⟩
  | side js=>obtain⟨b,G1,G2⟩:=G;exact⟨"side",_,G1,.inr (.inl ⟨.inr rfl,(λx v m e=>by cases e),b,rfl,G2⟩)⟩
  | again k j=>exact⟨"again",_,G,.inr (.inr (.inl ⟨rfl,k,j,rfl,rfl⟩))⟩
 apply zTu B.t ?_;apply ixLm (SqL.of B.f) (ha) ?_;apply⟨(by show 0<=sizeLine;lia),?_⟩;sleep 1;have O:=s1 _ _ es;have J:=s1 _ _ Gt;have a2:p1≠y:=(je es hp1).symm;apply⟨λS' p=>IvE1 λ(I:L5)=>IvA4 (S'=[some (.ref W),some (.int (i:Nat)),some (.ref y),some (.ref a),some (.ref p1),none]) (∀c u,c≠y->H1 c=some u->p c=some u) (p y=some (.lst (I.map V.int))) (I.length=st.length/\d.ns.foldl (λh j=>setE (E.getD j []) h) I=setE (E.getD i []) st),?_,?_⟩
 rotate_left
 .apply ixTm (SqT.of J) (at0) ?_;apply iteD (λc=>?_) (λc=>?_)
  .rcases cs with⟨_,k,h,n,rfl,rfl⟩ | ⟨e,_⟩ | ⟨e,_⟩ | ⟨e,_⟩
   .have kl:=X.x.lm _ (vm hd) k h n rfl;apply zTu J ?_;apply zTu J ?_;left;have ix:ixN (st.map V.int).length (k:Int)=some k:=by
     unfold ixN;rw[vd (Int.natCast_nonneg _),vd (by rw[vt];lia),Int.toNat_natCast]
    refine⟨y,_,_,k,rfl,rfl,O,ix,?_⟩;refine⟨st.set k h,rfl,λc u r h'=>(jo r).trans h',by rw[jz,List.map_set],length_set,?_⟩;have gk:(nmsOf R)[k]?=some ((nmsOf R).getD k ⟨#[]⟩):=by
     rw[vy,vz (by unfold nmsOf;rw[vt];exact kl)];rfl
    rw[X.a.rise hp,jW X.a.N.s.w.ln gk];rfl
   .exact ue c (by rcases e with rfl | rfl<;>decide +kernel)
   .exact ue c (by rw[e];decide +kernel)
   .exact ue c (by rcases e with rfl | rfl<;>decide +kernel)
  .apply⟨st,rfl,λc u _ h=>h,O,rfl,?_⟩;have nr:∀x v m,bkF (nmsOf R) d≠.rise x v m:=by
    rcases cs with⟨e,_⟩ | ⟨_,h,_⟩ | ⟨_,k,j,rfl,_⟩ | ⟨_,h,_⟩
    .exact ue e c
    .exact h
    .exact λx v m e=>by cases e
    .exact h
   have:=X.a.all hp nr st;rw[this];rw[show inP (bkP R ks) ((nmK i,bkF (nmsOf R) d):Str×Fm).2=d.ns from ip]
 rintro S' H2 ⟨I,rfl,k2,e2,a3,af⟩;have D:=k2 _ _ (jZ J O (λe=>by cases e)) J;apply⟨λS' p=>IvE1 λ(c:Addr)=>IvA2 (S'=[some (.ref W),some (.int (i:Nat)),some (.ref y),some (.ref a),some (.ref c),none]) (H2=p/\((p c=some (.tup (d.ns.map vN))/\g≠"again")\/(p c=some (.lst [])/\c≠y/\(g≠"again"->d.ns=[])))),?_,?_⟩
 rotate_left
 .have a4:¬g = "row"->¬g = "side"->g≠"again"->d.ns=[]:=λL c2 na=>by
   rcases cs with⟨_,k,h,n,rfl,_⟩ | ⟨e,_⟩ | ⟨e,_⟩ | ⟨_,_,h⟩
   .rfl
   .exact ue e (λz=>z.elim L c2)
   .exact ue e na
   .exact h
  have U:g = "row"\/g = "side"->∃b,o=[.ref b]/\H2 b=some (.tup (d.ns.map vN))/\g≠"again":=λe=>by
   rcases cs with⟨M,_⟩ | ⟨_,_,b,rfl,Z⟩ | ⟨M,_⟩ | ⟨M,_⟩
   .rw[M]at e;exact ue e (by trivial)
   .exact⟨b,rfl,k2 _ _ (jZ (s1 _ _ Z) O (λe=>by cases e)) (s1 _ _ Z),by rcases e with rfl | rfl<;>decide +kernel⟩
   .rw[M]at e;exact ue e (by trivial)
   .exact ue e (by rcases M with rfl | rfl<;>decide +kernel)
  apply ixTm (SqT.of D) (at0) ?_;apply iteD (λL=>?_) (λL=>?_)
  .obtain⟨b,rfl,Z,na⟩:=U (.inl L);refine iteT ?_;apply zTu D ?_;left;exact⟨b,rfl,rfl,.inl ⟨Z,na⟩⟩
  apply ixTm (SqT.of D) (at0) ?_;apply iteD (λc2=>?_) (λc2=>?_)
  .obtain⟨b,rfl,Z,na⟩:=U (.inr c2);apply zTu D ?_;left;exact⟨b,rfl,rfl,.inl ⟨Z,na⟩⟩
  .left;exact⟨p1,rfl,rfl,.inr ⟨k2 _ _ a2 t1,a2,a4 L c2⟩⟩
 rintro S' p ⟨c,rfl,rfl,r⟩;apply⟨λS' p=>IvE1 λ(c:Addr)=>IvA2 (S'=[some (.ref W),some (.int (i:Nat)),some (.ref y),some (.ref a),some (.ref c),none]) (Same H2 p/\(p c=some (.tup (d.ns.map vN))\/(p c=some (.lst (d.ns.map vN))/\c≠y))),?_,?_⟩
 rotate_left
 .apply ixTm (SqT.of D) (at0) ?_;apply iteD (λL=>?_) (λL=>?_)
  .obtain⟨k,j,rfl,rfl⟩:∃k j,d = .again k j/\o=[.int k,.int (j:Nat)]:=by
    rcases cs with⟨M,_⟩ | ⟨M,_⟩ | ⟨_,h⟩ | ⟨M,_⟩
    .exact ue L (by rw[M];decide +kernel)
    .exact ue L (by rcases M with rfl | rfl<;>decide +kernel)
    .exact h
    .exact ue L (by rcases M with rfl | rfl<;>decide +kernel)
   apply zTu D ?_;apply⟨ud,?_⟩;sleep 3;left;exact⟨p3,rfl,s3,.inr ⟨t3,(je e2 hp3).symm⟩⟩
  .left;rcases r with⟨r,_⟩ | ⟨r,nc,he⟩
   .exact⟨c,rfl,Same.refl _,.inl r⟩
   .exact⟨c,rfl,Same.refl _,.inr ⟨by rw[he L];exact r,nc⟩⟩
 rintro S' H4 ⟨c',rfl,s4,C⟩;have e4:=s4 _ _ e2;have k4:∀c u,c≠y->H c=some u->H4 c=some u:=λc u r h=>s4 _ _ (k2 _ _ r (s1 _ _ h))
 have B4:=B.but es n1 n2 k4;apply j4l ?_;left;rcases C with C | ⟨C,nc⟩
 .refine⟨c',rfl,.inr ⟨⟨_,SqT.of C⟩,?_⟩⟩;refine j1n (xs:=d.ns.map vN) (λu Y p=>IvE1 λ(S:N3)=>IvA2 (Y=[some (.ref W),some (.int (i:Nat)),some (.ref y),some (.ref a),some (.ref c'),S]) ((∀c u,c≠y->H4 c=some u->p c=some u)/\p y=some (.lst (((d.ns.take u).foldl (λh j=>setE (E.getD j []) h) I).map V.int)))) ⟨_,rfl,λ_ _ _ h=>h,e4⟩ ?_ ?_ ?_
  .rintro u Y p _ ⟨S,rfl,F,N⟩;exact SqT.of (F _ _ (jZ C e4 (λe=>by cases e)) C)
  .rintro u v Y p hv ⟨S,rfl,F,N⟩;rw[vv]at hv;obtain⟨j,hj,rfl⟩:=vg.mp hv;have jl:=lt j (vm hj);apply⟨W,l,f,y,a1,a0,R,ks,gs,hs,E,j,_,rfl,B4.but e4 n1 n2 F,X,⋯,⋯,N,by rw[yg,a3];exact sn,n1,n2,λH6 k6 e6=>?_⟩;refine⟨_,rfl,λc u r h=>k6 _ _ r (F _ _ r h),?_⟩;rw[e6,take_snoc hj,foldl_append];rfl
  rintro S' H6 ⟨S,rfl,F,N⟩;rw[vt,v7,af]at N;left;exact q H6 (λc u r h=>F _ _ r (k4 _ _ r h)) N
 .refine⟨c',rfl,.inl ⟨⟨_,SqL.of C⟩,?_⟩⟩;refine Jx (xs:=d.ns.map vN) (λu Y p=>IvE1 λ(S:N3)=>IvA2 (Y=[some (.ref W),some (.int (i:Nat)),some (.ref y),some (.ref a),some (.ref c'),S]) ((∀c u,c≠y->H4 c=some u->p c=some u)/\p y=some (.lst (((d.ns.take u).foldl (λh j=>setE (E.getD j []) h) I).map V.int)))) ⟨_,rfl,λ_ _ _ h=>h,e4⟩ ?_ ?_ ?_
  .rintro u Y p _ ⟨S,rfl,F,N⟩;exact SqL.of (F _ _ nc C)
  .rintro u v Y p hv ⟨S,rfl,F,N⟩;rw[vv]at hv;obtain⟨j,hj,rfl⟩:=vg.mp hv;have jl:=lt j (vm hj);apply⟨W,l,f,y,a1,a0,R,ks,gs,hs,E,j,_,rfl,B4.but e4 n1 n2 F,X,⋯,⋯,N,by rw[yg,a3];exact sn,n1,n2,λH6 k6 e6=>?_⟩;refine⟨_,rfl,λc u r h=>k6 _ _ r (F _ _ r h),?_⟩;rw[e6,take_snoc hj,foldl_append];rfl
  rintro S' H6 ⟨S,rfl,F,N⟩;rw[vt,v7,af]at N;left;exact q H6 (λc u r h=>F _ _ r (k4 _ _ r h)) N
def wp{m k:Nat}(T:Txt K mg t)(x:62<=k)(D:k<*t.JP t.JQ ["_law_box","_law_longs_here","_law_number","_law_gone","_law_stands"] (sp_pinsP m)):(k+1)<*t.Za t.Zd ["_law_box","_law_longs_here","_law_number","_law_gone","_law_stands"] (sp_besideP m):=by
 specialize T.Qz.F.ok wG;obtain⟨o,l,f,r,F,j,b,C,B,e,y,E,i,G,n,rfl,a,z,g,u,v,q⟩:=h;refine⟨_,(jb (jP (jp j1F (pv 3) (jk jv (pv 1) (pv 2)) (nomark _))
   (jf (jy wx))
   jx)
  (jf (jy (zT D hr (by rfl) T.Jv.m T.Jv.F.kp T.Jv.B .nil pass0 (ja (pv 0) (ja (pv 1) (ja (pv 2) (ja (pv 3) (ja (pv 4) jc))))))))),?_⟩
 refine jD (S':=[some _,some _,some _,some _,some _]) rfl ?_
 try dsimp only[cxOf,Cx.nox]
 have p:atI (e.map V.int) (i:Int)=some (.int (e.getD i 0)):=jN (by
  have d:=a.e.a.N.s.gl;rw[j6]at d;rw[vv,vy,vz ⋯];rfl)
 apply ixLm (SqL.of a.g) (p) ?_;apply iteD (λc=>?_) (λc=>?_)
 .left;rw[vd c]at q;exact q .non n H (λ_ _ _ h=>h) a.s rfl (λ_ _=>rfl) (λ_ _=>.non)
 .left;rw[vc c]at q;exact⟨o,l,f,r,F,j,b,C,B,e,y,E,i,G,n,rfl,a,z,g,u,⋯,v,q⟩
def KP(T:Txt K mg t):62<*t.JP t.JQ ["_law_box","_law_longs_here","_law_number","_law_gone","_law_stands"] (sp_pinsP 0):=by
 refine T.Jv.F.ok JB (λc H Q E h=>?_) (λb A a s H c Q E d h=>?_)
 .exact ue h (XM)
 .exact ue h (XM)
def xG{rd rl:Nat}(T:Txt K mg t)(an:62<=rl)(Jf:62<*t.JD t.JF ["_law_box","_law_number","_law_stands"] (sp_behindP 61))(wR:(rl+1)<*t.Za t.Zd ["_law_box","_law_longs_here","_law_number","_law_gone","_law_stands"] (sp_besideP rd))(qa:rl<*t.JP t.JQ ["_law_box","_law_longs_here","_law_number","_law_gone","_law_stands"] (sp_pinsP rd)):(rl+2)<*t.JP t.JQ ["_law_box","_law_longs_here","_law_number","_law_gone","_law_stands"] (sp_pinsP (rd+1)):=by
  refine T.Jv.F.ok JB (λvs H Q E h=>?_) (λaw A as s H vs Q E hr h=>?_)
  · cases h;subst_vars;rfl
  obtain⟨bx,l,f,gl,sl,a5,a4,o,D,gs,hs,E,i,F,J,rfl,A',ik,ay,h0,h1,h6,q⟩:=h;refine⟨_,(jb (jq' 5 JB.nd (jk jv (jk jr (pv 0) jd) (pv 2)))
    (jb (jP (jp jS (jk jr (pv 5) jd) jE (nomark _))
      (jf (jy (jI (ja (pv 3) (ja (jk jv (pv 4) (jk jr (pv 5) jd)) jc)))))
      jx)
    (jb (jP (jp jS (jk jr (pv 5) jd) jE (nomark _))
      (jf (jy (Jn JE (by rfl) T.zN QK (ja (Jd (ow:=["_law_one"]) (ci:=[0,1,3,4]) rfl (CompScope.of (defScope zV) ["_law_box","_law_longs_here","_law_number","_law_gone","_law_stands","_law_form_here","_law_inner","_law_place"] rfl rfl (by trivial)) (Jy nofun) (ZM (jk jr (pv 5) jd)) (λ_ _ _ _ _=>⟨(ju' 0 (jT ["_law_box","_law_longs_here","_law_number","_law_gone","_law_stands","_law_form_here","_law_inner","_law_place"] rfl (by trivial))),Jt,(zT wR hr (by rfl) T.Qz.m T.Qz.F.kp T.Qz.B .nil pass0 (ja (pv 1) (ja (pv 2) (ja (pv 0) (ja (pv 3) (ja (pv 4) jc))))))⟩)) jc))))
      jx)
    (jb (jP (PW.pt (Qf (jp j5Q (jk jr (pv 5) jd) jE (nomark _)) (qJ (jp j5Q (jk jr (pv 5) jd) jE (nomark _)))))
      (jf (jy (jI (ja (pv 3) jc))))
      jx)
    (jb (jq' 6 JB.nd (jk jr (pv 5) jd))
    (jb (JX (jp jS (jk jr (pv 5) jd) jE (nomark _))
      (jf (jq' 6 JB.nd (jw j6v (jL (ja (jk jr (pv 5) jd) jc)) (jk jr (pv 5) jd))))
      jx)
    (jb (jq' 7 JB.nd jd)
    (jb (wB PassesOwn.never (jp j1F (pv 3) (jk jv (pv 1) (jk Kw (pv 6) (pv 7))) (nomark _))
      (jb (jq (i:=3) JB.nd rfl (.inr rfl) (jw qK (pv 3) (jk jv (pv 1) (jk Kw (pv 6) (pv 7)))))
      (jb (jO (zT (Jf.mono (Nat.le_succ_of_le an)) hr (by rfl) T.Jk.m T.Jk.F.kp T.Jk.B .nil pass0 (ja (pv 0) (ja (jk Kw (pv 6) (pv 7)) (ja (pv 4) jc)))))
      (jf (jq' 7 JB.nd (jw j2 (pv 7) jd))))))
    (jf (jy (jI (ja (pv 7) (ja (zT (qa.mono (Nat.le_succ _)) hr (by rfl) T.Jv.m T.Jv.F.kp T.Jv.B .nil pass0 (ja (pv 0) (ja (pv 1) (ja (jk Kw (pv 6) (pv 7)) (ja (pv 3) (ja (pv 4) jc)))))) jc))))))))))))),?_⟩
  refine jD (S':=[some _,some _,some _,some _,some _,none,none,none]) rfl ?_
  try dsimp only[cxOf,Cx.nox]
  have sz:(2000000:Nat)<sizeLine:=by decide
  obtain⟨B,X,eg,es,sn,n1,n2,n3⟩:=A';have N:=X.a.N;have W:=N.s.w;obtain⟨d,hd⟩:∃d,D[i]?=some d:=⟨_,vz ik⟩
  obtain⟨a,ha,G⟩:=B.at' hd;obtain⟨hp,ip,lt⟩:=X.at' hd;have aA:=X.x.k61;have l8:=X.x.dw.l8 d (vm hd);have ah:=N.s.gl;rw[j6]at ah;have gj:∀j,j<D.length->atI (gs.map V.int) (j:Int)=some (.int (gs.getD j 0)):=λj C=>jN (by
    rw[vv,vy,vz ⋯];rfl)
  have Z:pcB (bkP o D) gs i=[]->strI (bkP o D) gs E i F J=J:=λc=>j2L ⋯ c
  have aa:pcB (bkP o D) gs i=pcsI gs (bkF (nmsOf o) d) (inP (bkP o D) (bkF (nmsOf o) d)):=by unfold pcB;rw[hp]
  apply zTu B.t ?_;apply ixLm (SqL.of B.f) (ha) ?_;by_cases sq:(∃y,d = .row y)\/∃k j,d = .again k j
  case neg=>
   cases d with
   | hold n=>
    rw[Z aa]at q;rw[Zw hp]at q;apply ixTm (SqT.of G) (at0) ?_;apply iteD (λc=>ue c (by trivial)) (λ_=>?_);apply ixTm (SqT.of G) (at0) ?_;apply iteD (λc=>ue c (by trivial)) (λ_=>?_);apply ixTm (SqT.of G) (at0) ?_;apply iteE1 ?_;apply ixTm (SqT.of G) (at0) ?_;apply iteE1 ?_;apply⟨ud,?_⟩;sleep 2;exact q (.ref p2) J H2 (λ_ _ _ h=>s2 _ _ h) (s2 _ _ es) rfl (λ_ _=>rfl) (λH3 k3=>.tup (k3 _ _ t2) (.cons (.int _) .nil))
   | ring x n=>
    rw[Z aa]at q;rw[Zx hp]at q;apply ixTm (SqT.of G) (at0) ?_;apply iteD (λc=>ue c (by trivial)) (λ_=>?_);apply ixTm (SqT.of G) (at0) ?_;apply iteD (λc=>ue c (by trivial)) (λ_=>?_);apply ixTm (SqT.of G) (at0) ?_;apply iteE1 ?_;apply ixTm (SqT.of G) (at0) ?_;apply iteE1 ?_;apply⟨ud,?_⟩;sleep 2;exact q (.ref p2) J H2 (λ_ _ _ h=>s2 _ _ h) (s2 _ _ es) rfl (λ_ _=>rfl) (λH3 k3=>.tup (k3 _ _ t2) (.cons (.int _) .nil))
   | rise k h n=>
    rw[Z aa]at q;rw[Zy hp]at q;have kl:=X.x.lm _ (vm hd) k h n rfl;have gk:(nmsOf o)[k]?=some ((nmsOf o).getD k ⟨#[]⟩):=by
      rw[vy,vz (by unfold nmsOf;rw[vt];exact kl)];rfl
    rw[jW W.ln gk]at q;apply ixTm (SqT.of G) (at0) ?_;apply iteD (λ_=>?_) (λc=>ue rfl c);apply zTu G ?_;apply ixLm (SqL.of es) (jN (j:=k) (v:=.int (J.getD k 0)) (by rw[vv,vy,vz ⋯];rfl)) ?_;apply⟨uc,?_⟩;sleep 2;exact q (.ref p2) J H2 (λ_ _ _ h=>s2 _ _ h) (s2 _ _ es) rfl (λ_ _=>rfl) (λH3 k3=>.tup (k3 _ _ t2) (.cons (.int _) (.cons (.int _) .nil)))
   | side y=>
    have ao:inP (bkP o D) (.side (y.map nmK))=y:=ip;rw[j2y X.a hp h0 h1 J (λ_=>J) (λj _=>⟨rfl,λ_ _=>rfl⟩),ao]at q;have az:y.length<=8:=l8;obtain⟨b,G1,G2⟩:=G;have a9:i<(bkP o D).length:=by rw[j6];exact ik
    have a6:∀j∈y,∀k:Int,k∈hs.getD j []->k∈hs.getD i []:=λj C k hk=>((N.m i _ _ hp (yZ N.s N.hl a9)).2 k).mpr (.inl ⟨j,by rw[ip];exact C,hk⟩)
    have ar:∀k:Int,((y.map λj=>hs.getD j []).filter λzs=>decide (k∈zs)).length<=1:=λk=>by
      have:=(N.s.sd i _ _ hp rfl).2 k;rw[ip]at this;exact this
    have ap:∀(u:Nat) (j:Nat),y[u]?=some j->∀j'∈y.take u,∀k:Int,k∈hs.getD j []->k∉hs.getD j' []:=λu j C j' M k ai aj=>by
      have c:=ar k;have e:y=y.take u++j::y.drop (u+1):=by
        have hu:=(vx.mp C).1;have he:=(vx.mp C).2;have:=List.take_append_drop u y;rw[drop_eq_getElem_cons hu,he]at this;exact this.symm
      have aB:1<=(((y.take u).map λj=>hs.getD j []).filter λzs=>decide (k∈zs)).length:=length_pos_of_mem (vP.mpr ⟨vK.mpr ⟨j',M,rfl⟩,vG aj⟩);rw[e,vj,filter_append,vn,uy,uz,vd (vG ai),vQ]at c;lia
    have av:∀j∈y,gs.getD j 0<=gs.getD i 0:=λj C=>by
      have ln:=N.s.ln i _ hp;rw[show inP (bkP o D) ((nmK i,bkF (nmsOf o) (Dm.side y)):Str×Fm).2=y from ip]at ln;obtain⟨m,ak,af⟩:=j0A (l:=y.map λj=>gs.getD j 0) ln.1;rw[<-ln.2 m ⟨ak,af⟩];exact af _ (vK.mpr ⟨j,C,rfl⟩)
    apply ixTm (SqT.of G1) (at0) ?_;apply iteD (λc=>ue c (by trivial)) (λ_=>?_);apply ixTm (SqT.of G1) (at0) ?_;apply iteD (λ_=>?_) (λc=>ue rfl c);apply zTu G1 ?_;refine⟨b,rfl,⟨_,SqT.of G2⟩,?_⟩;refine qZ (xs:=y.map vN) (λu ys G=>∃S:L5,(∀c w,c≠sl->H c=some w->G c=some w)/\G sl=some (.lst (S.map V.int))/\S.length=J.length/\(∀k:Nat,(∀j∈y.take u,(k:Int)∉hs.getD j [])->S.getD k 0=J.getD k 0)/\ys.length=u/\∀(m:Nat) (v:V) (j:Nat),ys[m]?=some v->y[m]?=some j->DVT G v (if gs.getD j 0<=F then .none else pinF o (bkP o D) gs (strI (bkP o D) gs E j F J) j F))
      ⟨J,λ_ _ _ h=>h,es,rfl,λ_ _=>rfl,rfl,λm v j h=>by simp at h⟩ ?_ ?_ ?_
    · rintro u ys G _ ⟨S,O,_⟩
      exact SqT.of (O _ _ (jZ G2 es (λe=>by cases e)) G2)
    · rintro u v ys G hv ⟨S,O,eG,lG,aG,yl,yd⟩
      rw[vv]at hv;obtain⟨j,C,rfl⟩:=vg.mp hv;have jm:=vm C;have jl:=lt j jm;have hu:=(vx.mp C).1;refine Jh (S':=[none,some (.ref bx),some (.ref gl),some (.int F),some (.ref sl)]) rfl ?_;apply iteT ?_;left;have ax:=av j jm;refine⟨bx,l,f,gl,sl,a5,a4,o,D,gs,hs,E,j,F,S,rfl,⟨B.but es n1 n2 O,X,O _ _ n3 eg,eG,⋯,n1,n2,n3⟩,⋯,⋯,h0,⋯,λv ac G' a0 a1 aq a7 dv=>?_⟩;have pe:(if gs.getD j 0<=F then PyData.none else pinF o (bkP o D) gs (strI (bkP o D) gs E j F S) j F)=(if gs.getD j 0<=F then PyData.none else pinF o (bkP o D) gs (strI (bkP o D) gs E j F J) j F):=by
        split
        · rfl
        · exact j1H N (by rw[j6];lia) λk hk=>WT lG (aG k λj' M=>ap u j C j' M k hk)
      rw[pe]at dv;have kt:∀c xs,G c=some (.tup xs)->G' c=some (.tup xs):=λc xs h=>a0 _ _ (jZ h eG (λe=>by cases e)) h
      refine⟨⋯,ac,λc w L h=>a0 _ _ L (O _ _ L h),a1,⋯,λk hk=>?_,by rw[vn,yl];rfl,λm v' j' a2 M=>?_⟩
      · rw[take_snoc C]at hk
        rw[a7 k (hk j (vh.mpr (.inr (vo.mpr rfl)))),aG k λj' M=>hk j' (vh.mpr (.inl M))]
      · by_cases c:m<ys.length
        · rw[vB c]at a2
          exact(yd m v' j' a2 M).keep kt
        · have U:=(vx.mp a2).1
          rw[vn]at U;have U:m<ys.length+1:=U;have e:m=u:=⋯
          subst e;rw[vC ⋯,show m-ys.length=0 by lia]at a2;rw[C]at M;cases a2;cases M;exact dv
    rintro ys G ⟨S,O,eG,lG,aG,yl,yd⟩;rw[vt]at yl aG;refine⟨⋯,?_⟩;sleep 5;apply⟨p5,_,rfl,.inl ⟨SqL.of t5,?_⟩⟩;sleep 6;have ab:=s5.trans s6;refine q (.ref p6) S H6 (λc w L h=>ab _ _ (O _ _ L h)) (ab _ _ eG) lG (λk hk=>aG k λj C=>λz=>hk (a6 j (mem_of_mem_take C) _ z)) λH7 k7=>?_
    refine .tup (k7 _ _ t6) ?_;refine j1k (by rw[vt,yl]) λm v d hv ae=>?_
    rw[vv]at ae;obtain⟨j,C,rfl⟩:=vg.mp ae;exact yd m v j hv C H7 λc xs h=>k7 _ _ (ab _ _ h)
   | row y=>exact ue (.inl ⟨_,rfl⟩) sq
   | again k j=>exact ue (.inr ⟨_,_,rfl⟩) sq
  have a9:i<(bkP o D).length:=by rw[j6];exact ik
  have a6:∀j∈d.ns,∀k:Int,k∈hs.getD j []->k∈hs.getD i []:=λj C k hk=>((N.m i _ _ hp (yZ N.s N.hl a9)).2 k).mpr (.inl ⟨j,by rw[ip];exact C,hk⟩)
  obtain⟨I,a3,Y,j,Gt,cs,il,im,bd,C,r0,r1,pe⟩:∃(I:L6) (a3:Str) (Y:N2) (j:Nat),H a=some (.tup (.str a3::Y))/\((a3 = "row"/\∃b,Y=[.ref b]/\H b=some (.tup (I.map vN)))\/(a3 = "again"/\∃(k:Int) (m:Nat),Y=[.int k,.int (m:Nat)]/\0<=k/\k<=10^6/\I=List.replicate k.toNat m))/\I.length<=10^6/\(∀m∈I,m∈d.ns)/\(∀m∈I,gs.getD m 0<=gs.getD i 0)/\I[(wkR gs I F).1]?=some j/\0<=(wkR gs I F).2/\(wkR gs I F).2<gs.getD j 0/\pinF o (bkP o D) gs (strI (bkP o D) gs E i F J) i F = .tuple [.int ((wkR gs I F).1:Int),pinF o (bkP o D) gs (strI (bkP o D) gs E j (wkR gs I F).2 ((I.take (wkR gs I F).1).foldl (λh j=>setE (E.getD j []) h) J)) j (wkR gs I F).2]:=by
    rcases sq with⟨y,rfl⟩ | ⟨k,m,rfl⟩
    · obtain⟨b,G1,G2⟩:=G
      obtain⟨j,C,r0,r1,pe⟩:=j48 X.a hp h0 h1 J;rw[show inP (bkP o D) (.row (y.map nmK))=y from ip]at C r0 r1 pe;have hl:((inP (bkP o D) (.row (y.map nmK))).map λj=>gs.getD j 0).sum=gs.getD i 0:=(N.s.ln i _ hp).2 _ rfl;rw[show inP (bkP o D) (.row (y.map nmK))=y from ip]at hl;exact⟨y,"row",_,j,G1,.inl ⟨rfl,b,rfl,G2⟩,by have:y.length<=8:=l8;lia,λm h=>h,λm U=>by rw[<-hl];exact(j1A λx hx=>(N.g (by have:=lt x hx;rw[j6];lia)).1).2 U,C,r0,r1,pe⟩
    · obtain⟨j,ej,hl,pe⟩:=j0Q X.a hp h0 h1 J
      rw[show inP (bkP o D) (.again k (nmK m))=[m]from ip]at ej;cases ej;have k1:=N.a18 i _ _ k hp;have ml:=lt m (by simp[Dm.ns]);obtain⟨g1,_⟩:=N.g (i:=m) (by rw[j6];lia);have k6:k<=10^6:=by
        have:=Int.mul_le_mul_of_nonneg_left g1 (show 0<=k by lia);lia
      have q0:0<=F/gs.getD m 0:=Int.ediv_nonneg h0 ⋯;have qk:F/gs.getD m 0<k:=Int.ediv_lt_of_lt_mul ⋯ ⋯;have wk:=j4N (gs:=gs) (j:=m) g1 k.toNat h0 (by rw[Int.toNat_of_nonneg ⋯];lia);refine⟨List.replicate k.toNat m,"again",_,m,G,.inr ⟨rfl,k,m,rfl,⋯,k6,rfl⟩,by rw[length_replicate];lia,λx hx=>?_,λx hx=>?_,?_,?_,?_,?_⟩
      · rw[List.eq_of_mem_replicate hx]
        simp[Dm.ns]
      · rw[List.eq_of_mem_replicate hx,hl]
        have:=Int.mul_le_mul_of_nonneg_right (show 1<=k by lia) (show 0<=gs.getD m 0 by lia);lia
      · rw[wk,List.getElem?_replicate]
        exact vd (by dsimp only;lia)
      · rw[wk]
        exact ve _ ⋯
      · rw[wk]
        exact vf _ ⋯
      · rw[wk,pe,List.take_replicate]
        dsimp only;rw[show min (F/gs.getD m 0).toNat k.toNat=(F/gs.getD m 0).toNat by lia,Int.toNat_of_nonneg q0]
  rw[pe]at q;generalize hW:wkR gs I F=Wk at C r0 r1 q;obtain⟨P',R⟩:=Wk;dsimp only at C r0 r1 q;have pl:=(vx.mp C).1;have jm:=im j (vm C);have jl:=lt j jm;apply ixTm (SqT.of Gt) (at0) ?_;apply iteD (λc=>ue c (by rcases cs with⟨rfl,_⟩ | ⟨rfl,_⟩<;>decide +kernel)) (λ_=>?_);apply ixTm (SqT.of Gt) (at0) ?_;apply iteD (λc=>ue c (by rcases cs with⟨rfl,_⟩ | ⟨rfl,_⟩<;>decide +kernel)) (λ_=>?_);apply ixTm (SqT.of Gt) (at0) ?_;apply j5Y (λe1 r=>?_) ?_
  · left
    refine ixTm (SqT.of Gt) (at0) ?_;apply iteB0 (by rcases cs with⟨rfl,_⟩ | ⟨rfl,_⟩;exact ue e1 (by trivial);decide +kernel) ?_;exact r
  refine iteB0 rfl ?_;obtain⟨v1,ag⟩:∃v1,atI (V.str a3::Y) 1=some v1:=by
    rcases cs with⟨_,b,rfl,_⟩ | ⟨_,k,m,rfl,_⟩<;>exact⟨_,rfl⟩
  apply ixTm (SqT.of Gt) (ag) ?_;apply⟨λS' H'=>IvE1 λ(c:Addr)=>IvA2 (S'=[some (.ref bx),some (.ref gl),some (.int (i:Nat)),some (.int F),some (.ref sl),some (.ref a),some (.ref c),none]) (Same H H'/\((H' c=some (.lst (I.map vN))/\c≠sl)\/H' c=some (.tup (I.map vN)))),?_,?_⟩
  rotate_left
  · left
    refine ixTm (SqT.of Gt) (at0) ?_;apply iteD (λc=>?_) (λc=>?_)
    · rcases cs with⟨rfl,_⟩ | ⟨_,k,m,rfl,k0,k6,rfl⟩
      · exact ue c (by trivial)
      apply zTu Gt ?_;apply⟨ud,?_⟩;sleep 2;apply zTu (s2 _ _ Gt) ?_;refine⟨p2,k,_,rfl,rfl,t2,⋯,⋯,(by show 1*k.toNat<=sizeLine;lia),?_⟩;sleep 3;apply⟨p3,rfl,s2.trans s3,.inl ⟨?_,(je (s2 _ _ es) hp3).symm⟩⟩;rw[t3,List.map_replicate,List.flatten_replicate_singleton];rfl
    · rcases cs with⟨_,b,rfl,hb⟩ | ⟨e,_⟩
      · cases ag
        left;exact⟨b,rfl,Same.refl _,.inr hb⟩
      · exact ue e c
  rintro S' H4 ⟨c,rfl,s4,L⟩;have ci:∀(G:Hp) (p:Nat) (m:Nat),(∀c u,c≠sl->H4 c=some u->G c=some u)->I[p]?=some m->∀Q':VK,Q' (.int (m:Nat)) G->(rIxL K (.ref c) (.int (p:Nat)) G Q'\/rIxT K (.ref c) (.int (p:Nat)) G Q'):=λG p m O U Q' q'=>by
    have ad:atI (I.map vN) (p:Int)=some (.int (m:Nat)):=jN (by rw[vv,U];rfl);rcases L with⟨L,nc⟩ | L
    · exact .inl ⟨c,_,_,_,rfl,rfl,SqL.of (O _ _ nc L),ad,q'⟩
    · exact .inr ⟨c,_,_,_,rfl,rfl,SqT.of (O _ _ (jZ L (s4 _ _ es) (λe=>by cases e)) L),ad,q'⟩
  have e4:=s4 _ _ es;apply⟨λn S' H'=>IvE2 λ(p:Nat) (g:Int)=>IvA6 (S'=[some (.ref bx),some (.ref gl),some (.int (i:Nat)),some (.int g),some (.ref sl),some (.ref a),some (.ref c),some (.int (p:Nat))]) (∀c u,c≠sl->H4 c=some u->H' c=some u) (H' sl=some (.lst (((I.take p).foldl (λh j=>setE (E.getD j []) h) J).map V.int))) (0<=g) (wkR gs (I.drop p) g=(P'-p,R)) (p<=P'/\n=P'-p),⟨_,0,F,rfl,λ_ _ _ h=>h,e4,h0,hW,va _,rfl⟩,?_⟩;rintro n S' G ⟨p,g,rfl,O,eG,g0,wk,pP,rfl⟩;obtain⟨m,U⟩:∃m,I[p]?=some m:=⟨_,vz ⋯⟩
  have am:=(vx.mp U).1;have al:=(vx.mp U).2;have ml:=lt m (im m (vm U));have a8:=O _ _ n3 (s4 _ _ eg);have B4:BoxA G bx l f a5 a4 o D:=B.but es n1 n2 λc u L h=>O _ _ L (s4 _ _ h)
  have fl:((I.take p).foldl (λh j=>setE (E.getD j []) h) J).length=J.length:=yg _ _;rw[drop_eq_getElem_cons am,al]at wk;unfold wkR at wk;apply ci G p m O U _ ?_;apply ixLm (SqL.of a8) (gj m ⋯) ?_;apply iteD (λc1=>?_) (λc1=>?_)
  · rw[vd c1]at wk
    have w1:=congrArg Prod.fst wk;have w2:=congrArg Prod.snd wk;dsimp only at w1 w2;refine⟨_,λS' H' h=>h,?_⟩;apply ci G p m O U _ ?_;apply ixLm (SqL.of a8) (gj m ⋯) ?_;apply ci G p m O U _ ?_;apply⟨bx,l,f,sl,a5,a4,o,D,gs,hs,E,m,_,rfl,B4,X,⋯,⋯,eG,⋯,n1,n2,λG' a0 a1=>?_⟩;apply⟨P'-(p+1),⋯,p+1,g-gs.getD m 0,rfl,λc u L h=>a0 _ _ L (O _ _ L h),?_,⋯,?_,⋯,rfl⟩
    · rw[a1,take_snoc U,foldl_append]
      rfl
    · exact Prod.ext (by show(wkR gs _ _).1=_;lia) w2
  · rw[vc c1]at wk
    have w1:=congrArg Prod.fst wk;have w2:=congrArg Prod.snd wk;dsimp only at w1 w2;have au:p=P':=⋯
    subst au;subst w2;rw[U]at C;cases C;apply ci G p j O U _ ?_;apply⟨bx,l,f,gl,sl,a5,a4,o,D,gs,hs,E,j,g,_,rfl,⟨B4,X,a8,eG,⋯,n1,n2,n3⟩,⋯,⋯,g0,⋯,?_,λv ac G' a0 a1 aq a7 dv=>?_⟩
    · have:=bd j (vm U)
      lia
    apply⟨uc,?_⟩;sleep 5;refine q (.ref p5) ac H5 (λc u L h=>s5 _ _ (a0 _ _ L (O _ _ L (s4 _ _ h)))) (s5 _ _ a1) ⋯ (λk hk=>?_) λH6 k6=>.tup (k6 _ _ t5) (.cons (.int _) (.cons (dv H6 λc xs h=>k6 _ _ (s5 _ _ h)) .nil))
    rw[a7 k λz=>hk (a6 j jm _ z)];exact Xx X.a λx hx=>⟨by have:=lt x (im x (mem_of_mem_take hx));rw[j6];lia,λz=>hk (a6 x (im x (mem_of_mem_take hx)) _ z)⟩
def XQ(T:Txt K mg t)(qa:184<*t.JP t.JQ ["_law_box","_law_longs_here","_law_number","_law_gone","_law_stands"] (sp_pinsP 61)):185<*t.Yf t.Yg ["_law_box","_law_longs_here","_law_beat"] (sp_dueP):=by
 specialize T.KI.F.ok X2;obtain⟨z,l,f,C,j,y,b,d,m,S,E,o,rfl,B,X,n,O,h1,R,q⟩:=h;refine⟨_,(jb (jP (jp jS (pv 2) (jk jv (pv 1) (yr zF jd)) (nomark _))
   (jf (jy wx))
   jx)
  (jf (jy (jt T.Jv qa hr (ja (pv 0) (ja (pv 1) (ja (jw qK (jC jR (by rfl) T.JJ Jb (ja (pv 1) jc)) jd) (ja (pv 2) (ja (Jd (ow:=["_law_limb"]) (ci:=[]) rfl (CompScope.of (defScope ZP) ["_law_box","_law_longs_here","_law_beat"] rfl rfl (by trivial)) (Jy nofun) (jX (jk jr (pv 0) jd)) (λ_ _ _ _ _=>⟨(ju' 0 (jT ["_law_box","_law_longs_here","_law_beat"] rfl (by trivial))),Jt,(jk (j1s (K:=K) rfl) (pv 0) jd)⟩)) jc))))))))),?_⟩
 refine jD (S':=[some _,some _,some _]) rfl ?_
 try dsimp only[cxOf,Cx.nox]
 have sz:(2000000:Nat)<sizeLine:=by decide
 have N:=X.a.N;have U:=X.x.k61;have I:=N.ne;have g:=N.s.gl;have Z:=B.la.1;have Y:=X.x.l8;rw[j6]at g I;have M:atI (m.map V.int) (-1)=some (.int (m.getD (d.length-1) 0)):=Ku I g;unfold pinD at q;rw[j6]at q;apply ixLm (SqL.of n) (M) ?_;apply iteD (λc=>?_) (λc=>?_)
 .rw[vd ⋯]at q;left;exact q .non H (Same.refl _) λ_ _=>.non
 rw[vc ⋯]at q;apply⟨_,_,rfl,.inl ⟨_,SqL.of n,rfl⟩,?_⟩;apply zTu B.t ?_;refine⟨l,rfl,⟨_,SqL.of B.l⟩,?_⟩;refine Jm (xs:=j.map V.ref) (λi r k=>r=((b.take i).map (·.2)).map V.int/\H=k) ⟨rfl,rfl⟩ ?_ ?_ ?_
 .rintro i r k _ ⟨rfl,rfl⟩;exact SqL.of B.l
 .rintro i v r k F ⟨rfl,rfl⟩;rw[vv]at F;obtain⟨a,D,rfl⟩:=vg.mp F;have hi:=(vx.mp D).1;obtain⟨x,G⟩:∃x,b[i]?=some x:=⟨_,vz ⋯⟩
  have L:=B.la.2 i a x D G;refine Jh (S':=[none]) rfl ?_;apply iteT ?_;apply zTu L ?_;apply⟨by simp only[length_map,length_take];lia,?_,rfl⟩;rw[take_snoc G,vj,vj];rfl
 rintro r k ⟨rfl,rfl⟩;rw[show(j.map V.ref).length=b.length by rw[vt];exact Z,v7];refine⟨by simp only[length_map];lia,?_⟩;walk_at"f p hp H1 s1 t1";apply⟨z,l,f,C,p,j,y,b,d,m,S,E,d.length-1,o,b.map (·.2),?_,⟨B.same s1,X,s1 _ _ n,t1,vt _,je B.l hp,je B.f hp,je n hp⟩,⋯,⋯,O,⋯,R,λv a0 k W eH lH aH J=>?_⟩
 .show([.ref z,.ref C,.int (((m.map V.int).length:Nat)-1:Int),.int o,.ref p]:N2)=_;rw[vt,g,show((d.length:Nat):Int)-1=((d.length-1:Nat):Int) by lia]
 refine q v k (λc u h=>W _ _ (je h hp) (s1 _ _ h)) ?_;have e:strH b (bkP b d) m E o=strI (bkP b d) m E (d.length-1) o (b.map (·.2)):=by
  unfold strH;rw[j6];rfl
 rw[e];exact J
def wY(T:Txt K mg t):1<*t.QY t.Q3 ["_law_found"] (sp_wholeP):=by
 specialize T.QU.F.ok Wb;obtain⟨v,b,rfl,z,q⟩:=h;refine⟨_,(jf (jy (j3Z (jC KR (by rfl) T.ZI Zc (ja (pv 0) (ja (xO (v:=.ty "int") (by rfl) T.j6P j65 rfl) jc))) (j44 (j6x (jC KR (by rfl) T.ZI Zc (ja (pv 0) (ja (xO (v:=.ty "bool") (by rfl) T.j5Z j4S rfl) jc)))))))),?_⟩;refine jD (S':=[some _]) rfl ?_
 try dsimp only[cxOf,Cx.nox]
 rcases z with⟨i,rfl,rfl⟩ | ⟨a,c,rfl,h,rfl⟩
 .apply⟨_,_,_,_,rfl,.int i,j2g,?_⟩;apply iteT ?_;apply⟨_,_,_,_,rfl,.int i,j0q,?_⟩;left;exact q
 .apply⟨_,_,_,_,rfl,.tup h,XA,?_⟩;apply iteB0 rfl ?_;exact q
def Kg(T:Txt K mg t):1<*t.qu t.qy ["_law_found"] (sp_plainP 0):=by
 refine T.qp.F.ok y9 (λc H Q E h=>?_) (λb A a s H c Q E d h=>?_)
 .exact ue h (WI)
 .exact ue h (WI)
def jh{l j:Nat}(T:Txt K mg t)(g:1<=j)(x:1<*t.QY t.Q3 ["_law_found"] (sp_wholeP))(y:j<*t.qu t.qy ["_law_found"] (sp_plainP l)):(j+1)<*t.qu t.qy ["_law_found"] (sp_plainP (l+1)):=by
 specialize T.qp.F.ok y9;obtain⟨v,d,m,rfl,b,f,C,q⟩:=h;refine⟨_,(jb (jP (PW.pt (wC (jp j6u (pv 0) wx (nomark _)) (wD (j4d (zT (x.mono g) hr (by rfl) T.QU.m T.QU.F.kp T.QU.B .nil pass0 (ja (pv 0) jc))))))
   (jf (jy XU))
   jx)
  (jf (jy (j3Z (jC KR (by rfl) T.ZI Zc (ja (pv 0) (ja (xO (v:=.ty "tuple") (by rfl) T.zN QK rfl) jc))) (j44 (jC (j24 rfl) (by rfl) T.j6O j64 (ja (Jd (ow:=["_law_one"]) (ci:=[]) rfl (CompScope.of (defScope Q8) ["_law_found"] rfl rfl (by trivial)) (Jy nofun) (ZM (pv 0)) (λ_ _ _ _ _=>⟨(ju' 0 (jT ["_law_found"] rfl (by trivial))),Jt,(zT (y.mono (vb _)) hr (by rfl) T.qp.m T.qp.F.kp T.qp.B .nil pass0 (ja (pv 0) jc))⟩)) jc))))))),?_⟩
 refine jD (S':=[some _]) rfl ?_
 try dsimp only[cxOf,Cx.nox]
 have F:(2000000:Nat)<sizeLine:=by decide
 cases f with
 | int n i=>
  cases b;apply⟨rfl,false,rfl,?_⟩;refine iteB0 rfl ?_;apply⟨_,true,rfl,.inl ⟨i,rfl,rfl⟩,?_⟩;left;exact q H (Same.refl _)
 | non n=>
  cases b;left;exact⟨rfl,true,rfl,q H (Same.refl _)⟩
 | tup n ds hl f=>
  cases b with
  | tup ht hds=>
  rename_i a xs;apply⟨rfl,false,rfl,?_⟩;refine iteB0 rfl ?_;apply⟨_,false,rfl,.inr ⟨a,xs,rfl,ht,rfl⟩,?_⟩;apply iteB0 rfl ?_;apply⟨_,_,_,_,rfl,.tup ht,wT,?_⟩;apply iteT ?_;apply⟨a,rfl,⟨_,SqT.of ht⟩,?_⟩;obtain⟨I,z⟩:=xi hds;refine qZ (xs:=xs) (λu e G=>Same H G/\e=List.replicate u (V.bl true)) ⟨Same.refl _,rfl⟩ ?_ ?_ ?_
  .rintro u e G _ ⟨c,rfl⟩;exact SqT.of (c _ _ ht)
  .rintro u v e G b ⟨c,rfl⟩;obtain⟨d,o,r⟩:=z b;have D:=(vx.mp b).1;refine Jh (S':=[none]) rfl ?_;apply iteT ?_;apply⟨v,d,n,rfl,r.mono c,f d o,⋯,λB k=>?_⟩;refine⟨by rw[length_replicate];lia,c.trans k,?_⟩;rw[List.replicate_succ']
  rintro e G ⟨c,rfl⟩;refine⟨by rw[length_replicate];lia,?_⟩;walk_at"f p hp H1 s1 t1";apply⟨p,List.replicate xs.length true,rfl,SqL.of (by rw[t1,List.map_replicate]),?_⟩;rw[show(List.replicate xs.length true).all id=true by rw[List.all_replicate];simp];exact q H1 (c.trans s1)
def j6r(T:Txt K mg t)(WY:3<*t.W0 t.xc ["book"] (sp_drums))(JS:8<*t.Jo t.JU ["self","box"] (sp_initM t.jG t.jJ))(zi:5<*t.qW t.Qb ["self"] (sp_stepM t.jG t.jJ))(zh:1<*t.qb t.qd ["self","beat"] (sp_jumpM t.jG t.jJ))(J3:5<*t.qV t.Qa ["self"] (sp_pinsM t.jG t.jJ))(ZZ:6<*t.Z6 t.yc ["_law_script","_law_many","_law_bounds"] (sp_bookB K))(ZF:1<*t.QW t.Q1 ["_law_box"] (sp_longsP))(Ye:185<*t.Yf t.Yg ["_law_box","_law_longs_here","_law_beat"] (sp_dueP))(qU:64<*t.qu t.qy ["_law_found"] (sp_plainP 63)):186<*t.j2Y t.j1c ["_law_script"] (Pr.sp_law K):=by
 specialize T.j2U.F.ok Zo;obtain⟨a,ns,rfl,hS,av,hB,q⟩:=h;refine⟨_,(jb (jq' 1 Zo.nd (jC (j27 rfl) (by rfl) T.j18 W6 (ja jd (ja (jC (ko rfl) (by rfl) T.j33 j0e (ja (jw qK (jC jR (by rfl) T.JJ Jb (ja (pv 0) jc)) jd) (ja jd jc))) jc))))
  (jb (yu (jt T.kU ZZ hr (ja (pv 0) (ja (pv 1) (ja (jL (ja jd (ja jd (ja jd (ja jd (ja jd jc)))))) jc)))) (JG rfl (jA (ju' 2 Zo.nd) (jA (ju' 3 Zo.nd) Jg))))
  (jb (jq' 4 Zo.nd (jt T.j15 WY hr (ja (pv 2) jc)))
  (jb (jq' 5 Zo.nd (jt T.Yo ZF hr (ja (pv 4) jc)))
  (jb (jq' 6 Zo.nd (xS T.Wj (JS.mono nofun) hr (by rfl) T.we T.zf .nil pass0 (ja (pv 4) jc)))
  (jb (jq' 7 Zo.nd (xS T.Wj (JS.mono nofun) hr (by rfl) T.we T.zf .nil pass0 (ja (pv 4) jc)))
  (jb (j7 PassesOwn.never rfl (qA (by rfl) T.qY (ja (jw j2 (pv 3) jd) jc)) (ju' 8 Zo.nd)
   (jb (JX (PW.pt (wC (jp ZX (pv 3) jd (nomark _)) (wC (jp jS (jw j3 (pv 8) jd) jd (nomark _)) (wD (jp jS (pv 8) (pv 3) (nomark _))))))
    (jb (jq' 9 Zo.nd (jt T.KI Ye hr (ja (pv 4) (ja (pv 5) (ja (pv 8) jc)))))
    (jb (jO (Kz (pv 7) T.jU T.Ki (zh.mono nofun) hr T.KG .nil pass0 (ja (pv 8) jc)))
    (jf (jP (PW.pt (wC (j0S (j4d (jt T.qp qU hr (ja (YQ (pv 6) T.jU T.QR (J3.mono nofun) hr T.zg .nil pass0) jc)))) (wC (jp (wu hr.units) (YQ (pv 6) T.jU T.QR (J3.mono nofun) hr T.zg .nil pass0) (pv 9) (nomark _)) (wD (jp (wu hr.units) (YQ (pv 7) T.jU T.QR (J3.mono nofun) hr T.zg .nil pass0) (pv 9) (nomark _))))))
     (jf (jy XU))
     jx))))
    jx)
   (jf (jP (jp ZX (pv 8) (pv 3) (nomark _))
    (jf (jO (YQ (pv 6) T.jU T.Kj (zi.mono nofun) hr T.KH .nil pass0)))
    jx))))
  (jf (jy (j5n jS (jk jv (pv 5) (yr zF jd)) (pv 3) (nomark _))))))))))),?_⟩
 refine jD (S':=[some _,none,none,none,none,none,none,none,none,none]) rfl ?_
 try dsimp only[cxOf,Cx.nox]
 apply⟨_,_,rfl,.inl ⟨_,hS,rfl⟩,?_⟩;rw[vt];apply⟨_,_,rfl,?_⟩;apply⟨_,_,rfl,?_⟩;obtain⟨g,em,aB,aj⟩:∃g:Nat,(if(2:Int)<(if(16:Int)<(ns.length:Int)-1 then 16 else(ns.length:Int)-1)then(if(16:Int)<(ns.length:Int)-1 then 16 else(ns.length:Int)-1)else 2)=(g:Int)/\2<=g/\g<=16:=by
  refine⟨(if(2:Int)<(if(16:Int)<(ns.length:Int)-1 then 16 else(ns.length:Int)-1)then(if(16:Int)<(ns.length:Int)-1 then 16 else(ns.length:Int)-1)else 2).toNat,?_,?_,?_⟩<;>(split<;>split<;>lia)
 rw[em];apply⟨(by show 5<=sizeLine;lia),?_⟩;walk_at"f bd hbd H1 s1 t1";apply⟨a,bd,ns,g,4,9,7,4,90,rfl,s1.seq hS,av,aB,aj,⟨t1,by decide,by decide,by decide,by decide,by decide,by decide,by decide,by decide,by decide,by decide⟩,λr b pl pp G aF k f X M gs H2 s2 ag Bk D N fl nL nd nW l1 l8 aR lW aU gb=>?_⟩;clear em;have aH:=s1.trans s2;have dl:(drawnPs k X).length=X.length:=Qt;have W:=N.s.w;have bo:=D.bkok l8 N.l18 lW nW ⋯ ⋯;have O:=xw W ⋯;have gp:=D.g (X.length-1) ⋯;have aq:=gb (X.length-1) ⋯;generalize eL:gs.getD (X.length-1) 0=L at gp ag aq;refine qj (SqT.of ag) ?_;apply⟨b,pl,pp,G,aF,f,_,rfl,Bk,W,⋯,λtb lb fb B ms H3 s3 et el ef _ _ _ dr Kd=>?_⟩;have S:=Bk.same s3;have Bx:=j1t O l8 Kd;have Wq:=j6Z Bx W.ln;have Cr:=j67 W ⋯ Kd;have kl:(keptD (drsM f (drawnPs k X)) ms).length=ms.length:=wc _ _;obtain⟨⟨c,aw,ax⟩,_⟩:=Kd.named O;have qe:(bkP f (keptD (drsM f (drawnPs k X)) ms)).length=ms.length:=(j6 _ _).trans kl;obtain⟨l,hq,U,au⟩:=j68 N Cr ⋯ Wq;have aJ:=λ(E F:L0) (h1:E.length=_) (h2:F.length=_) hE hF (t0:Int)=>j35 N U Cr (E:=E) (F:=F) h1 h2 hE hF t0
 clear Cr kl aw ax qe Kd;generalize keptD (drsM f (drawnPs k X)) ms=kk at *;apply⟨tb,lb,fb,G,B,f,kk,l,hq,rfl,⟨et,el,S.la,ef,dr⟩,Bx,U,λgl Z I aA as=>?_⟩;have S:=S.same I;have et:=I _ _ et;have el:=I _ _ el;have ef:=I _ _ ef;have dr:DrAt Z B kk:=All2.mono dr λa d h=>h.same I
 replace s3:=s3.trans I
 clear I aA;rename_i H3o;left;intro m dm hm ay aS;have s4:Same Z (upd (upd Z dm (.own m)) m (.ins t.jG dm [])):=λc u h=>(jo (je h hm)).trans ((jo (je h ay)).trans h)
 refine⟨m,dm,tb,lb,fb,G,B,f,kk,l,hq,rfl,jz,s4 _ _ et,s4 _ _ el,S.la.mono λb x h=>s4 _ _ h,s4 _ _ ef,All2.mono dr λa d h=>h.same s4,Bx,U,λst z E H5 k5 aP A5=>⟨rfl,?_⟩⟩;have j:Same Z H5:=λc u h=>k5 _ _ (je h hm) (s4 _ _ h)
 have ab:=S.same j;left;intro o a7 ho az aT
 have s6:Same H5 (upd (upd H5 a7 (.own o)) o (.ins t.jG a7 [])):=λc u h=>(jo (je h ho)).trans ((jo (je h az)).trans h)
 refine⟨o,a7,tb,lb,fb,G,B,f,kk,l,hq,rfl,jz,s6 _ _ (j _ _ et),s6 _ _ (j _ _ el),ab.la.mono λb x h=>s6 _ _ h,s6 _ _ (j _ _ ef),All2.mono dr λa d h=>(h.same j).same s6,Bx,U,λsu y J H7 k7 ah A7=>⟨rfl,?_⟩⟩;have p:Same H5 H7:=λc u h=>k7 _ _ (je h ho) (s6 _ _ h)
 have AM:=A5.same p;obtain rfl:=j3c Wq AM.sg.el A7.sg.el AM.sg.eo A7.sg.eo;obtain⟨aK,a2⟩:=A5.ob;obtain⟨aN,an⟩:=A5.sg.ob;have mo:m≠o:=je a2 ho;have aE:o≠st:=Ne.symm (je an ho);have aC:m≠su:=λe=>by rw[e]at a2;rw[s6 _ _ a2]at ah;cases ah
 have ap:=ab.same p;have aI:=aH.trans (s3.trans (j.trans p));have aO:=aI.seq hS;clear A5 a2 an k5 k7;have a0:=p _ _ (j _ _ as);have BA:BoxA H7 tb lb fb G B f kk:=⟨p _ _ (j _ _ et),p _ _ (j _ _ el),ap.la,p _ _ (j _ _ ef),All2.mono dr λa d h=>(h.same j).same p⟩
 apply⟨L+1,rfl,⋯,⋯,?_⟩;obtain⟨aL,al⟩:=AM.ob;obtain⟨aM,am⟩:=A7.ob;have XE:BoxE f kk l hq J:=⟨Bx,U,AM.sg.el,AM.sg.eo⟩
 have n:(bkP f kk).length=kk.length:=j6 _ _;have gL:l.getD (kk.length-1) 0=L:=by rw[<-n,au,dl,eL]
 have k1:=U.ne;have aQ:=Bx.k61;rw[n]at k1;have aG:=λt0:Int=>j5r (gs:=l) (E:=J) (t:=t0) Wq Bx k1
 refine Qu (λi σ H'=>IvE4 λ(o8 o9:N3) (tm tu:Int)=>IvA4 (σ=[some (.ref a),some (.int g),some (.ref b),some (.int L),some (.ref tb),some (.ref gl),some (.ref m),some (.ref o),o8,o9]) (∀c u,c≠m->c≠o->H7 c=some u->H' c=some u) (((i:Nat)<=L->tm=i)) (MaAt t.jG t.jJ H' m st z f (bkP f kk) l J tm/\MaAt t.jG t.jJ H' o su y f (bkP f kk) l J tu))
  ⟨_,_,0,0,rfl,λc u _ _ h=>h,λ_=>rfl,AM,A7⟩ ?_ ?_
 .rintro i σ H' hi ⟨o8,o9,tm,tu,rfl,k',ht,A',O'⟩;have hi:i<(L+1).toNat:=hi;obtain rfl:=ht ⋯;rw[show(0:Int)+(i:Nat)=(i:Nat)from uv _];have a1:∀(c:Addr) (u:HO),(∀C d X,u≠.ins C d X)->H7 c=some u->H' c=some u:=λc u nu h=>k' _ _ (λe=>by rw[e,al]at h;cases h;exact nu _ _ _ rfl) (λe=>by rw[e,am]at h;cases h;exact nu _ _ _ rfl) h
  have a9:∀(c:Addr) (xs:N2),H7 c=some (.tup xs)->H' c=some (.tup xs):=λc xs h=>a1 _ _ (λ_ _ _ z=>nomatch z) h
  have B':BoxA H' tb lb fb G B f kk:=⟨a9 _ _ BA.t,a1 _ _ (λ_ _ _ z=>nomatch z) BA.l,BA.la.mono λa x h=>a9 _ _ h,a1 _ _ (λ_ _ _ z=>nomatch z) BA.f,All2.mono BA.d λa d h=>GAt.keepT a9 h⟩
  have a8:=a1 _ (.lst _) (λ_ _ _ z=>nomatch z) a0;left;obtain⟨dy,oc⟩:=O'.ob;have R:=j47 (gs:=l) (E:=J) (t:=((i:Nat):Int)) Wq ⋯;refine⟨λS' Y=>IvE2 λ(o9:N3) (ao:Int)=>IvA3 (S'=[some (.ref a),some (.int g),some (.ref b),some (.int L),some (.ref tb),some (.ref gl),some (.ref m),some (.ref o),some (.int (i:Nat)),o9]) (∀c u,c≠m->c≠o->H7 c=some u->Y c=some u) (MaAt t.jG t.jJ Y m st z f (bkP f kk) l J (i:Nat)/\MaAt t.jG t.jJ Y o su y f (bkP f kk) l J ao),?_,?_⟩
  rotate_left
  .apply j3X ?_ (λhA=>?_)
   .apply iteT ?_;apply⟨tb,lb,fb,gl,G,B,f,kk,l,hq,J,(i:Nat),rfl,B',XE,a8,⋯,by rw[gL];lia,by rw[gL];lia,λv H1 s1 dv=>?_⟩;apply⟨o,dy,_,rfl,s1 _ _ oc,Yx (by trivial) (by trivial) (by trivial),?_⟩;apply⟨o,su,y,f,_,l,J,tu,(i:Nat),rfl,O'.same s1,⋯,by rw[n,gL];lia,λH2 k2 O2=>?_⟩;have A2:=(A'.same s1).but (s1 _ _ oc) mo aE k2;obtain⟨af,ak⟩:=A2.ob;obtain⟨ar,aD⟩:=O2.ob;have ad:=dv.keep (λc xs h=>k2 _ _ (jZ h (s1 _ _ oc) (λz=>by cases z)) h);apply⟨m,af,_,rfl,ak,Yx (by trivial) (by trivial) (by trivial),?_⟩;refine⟨m,st,z,f,_,l,hq,J,(i:Nat),rfl,A2,U,⋯,by rw[n,gL];lia,λv3 H3 s3 d3=>?_⟩;apply⟨v3,_,61,rfl,d3,aG _,by decide,λH4 s4=>?_⟩;have aa:=s3.trans s4;apply iteF ?_;apply⟨m,af,_,rfl,aa _ _ ak,Yx (by trivial) (by trivial) (by trivial),?_⟩;refine⟨m,st,z,f,_,l,hq,J,(i:Nat),rfl,A2.same aa,U,⋯,by rw[n,gL];lia,λv5 H5 s5 d5=>?_⟩;have a3:=aa.trans s5;apply⟨_,_,d5,ad _ λc xs h=>a3 _ _ h,R.ok nofun,R.ok nofun,?_⟩;rw[SeqAt.eqv_refl _ R.1];apply iteF ?_;apply⟨o,ar,_,rfl,a3 _ _ aD,Yx (by trivial) (by trivial) (by trivial),?_⟩;refine⟨o,su,y,f,_,l,hq,J,(i:Nat),rfl,O2.same a3,U,⋯,by rw[n,gL];lia,λv6 H6 s6 d6=>?_⟩;have a4:=a3.trans s6;apply⟨_,_,d6,ad _ λc xs h=>a4 _ _ h,R.ok nofun,R.ok nofun,?_⟩;rw[SeqAt.eqv_refl _ R.1];apply iteF ?_;exact⟨_,_,rfl,λc u n1 n2 h=>a4 _ _ (k2 _ _ n2 (s1 _ _ (k' _ _ n1 n2 h))),A2.same a4,O2.same a4⟩
   apply j3X hA (λ_=>?_);apply j3X hA (λ_=>?_);exact⟨_,_,rfl,k',A',O'⟩
  rintro S' Y ⟨aV,ao,rfl,ai,a6,ac⟩;obtain⟨ae,a5⟩:=a6.ob;apply iteD (λc=>?_) (λc=>?_)
  .apply⟨m,ae,_,rfl,a5,Yx (by trivial) (by trivial) (by trivial),?_⟩;refine⟨m,st,z,f,_,l,hq,J,(i:Nat),rfl,a6,U,⋯,by rw[n,gL];lia,λl8 H8 k8 _ A8 _=>?_⟩;exact⟨_,_,_,_,rfl,λc u n1 n2 h=>k8 _ _ n1 (ai _ _ n1 n2 h),λ_=>⋯,A8,ac.but a5 (Ne.symm mo) aC k8⟩
  .exact⟨_,_,_,_,rfl,ai,λz=>⋯,a6,ac⟩
 rintro σ H' ⟨o8,o9,tm,tu,rfl,k',ht,A',O'⟩;have a8:=k' _ _ (jZ a0 al (λz=>by cases z)) (jZ a0 am (λz=>by cases z)) a0;apply ixLm (SqL.of a8) (Ku k1 (U.s.gl.trans n)) ?_;left;rw[gL,vG rfl];exact q _
theorem Zi(T:Txt K mg t)(a:62<*t.JD t.JF ["_law_box","_law_number","_law_stands"] (sp_behindP 61)):∀n,(62+2*n)<*t.JP t.JQ ["_law_box","_law_longs_here","_law_number","_law_gone","_law_stands"] (sp_pinsP n)
 | 0=>KP T
 | n+1=>xG T (Nat.le_add_right _ _) a (wp T (Nat.le_add_right _ _) (Zi T a n)) (Zi T a n)
def j4P(T:Txt K mg t):186<*t.j2Y t.j1c ["_law_script"] (Pr.sp_law K):=by
 have c:1<*t.qP t.qQ _ _:=xJ T;have b:1<*t.JT t.JV _ _:=w6 T;have f:=j5j T b c;have l:1<*t.zk t.zn _ _:=XR T;have I:=j0G T l;have D:=j3U T c f I;have L:1<*t.yH t.yK _ _:=j0I T;have G:=j0F T c L;have d:=j3V T b l;have n:=j5i T b d;have F:=j3W T n;have Y:1<*t.QZ t.Q4 _ _:=wZ T;have S:1<*t.zJ t.zQ _ _:=xK T;have J:=j0H T d F Y S;have U:1<*t.zK t.zR _ _:=xL T;have W:=xM T d U;have y:=YJ T b n J W;have u:=yV T G y;have m:1<*t.zl t.zo _ _:=XS T;have x:=j2v T m;have i:=wo T x;have z:=YL T i;have zi:=Km T z;have zh:1<*t.qb t.qd _ _:=Kk T;have N:=j0K T m;have M:=j0J T i N;have r:=Kl T M;have o:1<*t.qc t.qf _ _:=Kn T;have e:1<*t.qt t.qx _ _:=wV T;have k:1<*t.QJ t.QO _ _:=xI T;have qT:1<*t.QX t.Q2 _ _:=wX T;have R:=xD T qT;have j:1<*t.QH t.QM _ _:=xF T;have q:1<*t.qX t.Qc _ _:=wW T;have p:1<*t.QG t.QL _ _:=xE T;have g:=xH T e;have zZ:=wt T g;have C:=YO T g zZ;have B:=YM T o e k j q p g C;have Z:=xC T o e k R j q p B;have X:1<*t.QW t.Q1 _ _:=wU T;have v:62<*t.JD t.JF ["_law_box","_law_number","_law_stands"] (sp_behindP 61):=(by(iterate 61 refine jg T ?_);exact kg T);have qa:184<*t.JP t.JQ _ _:=Zi T (v.mono nofun) 61;have O:=XQ T qa;have a:1<*t.QY t.Q3 _ _:=wY T;have qU:64<*t.qu t.qy ["_law_found"] (sp_plainP 63):=(by(iterate 63 refine jh T nofun (a.mono nofun) ?_);exact Kg T);exact j6r T D u zi zh r Z X O qU
end
@[elab_as_elim] theorem uu1{P:L9->Prop}(us:L9)(hl:us.length=1)(h:∀a0,P [a0]):P us:=match us,hl with | [a0],_=>h a0
def bb1{K:Frg}{x q:Str}{st:Stmt}{f:Addr}{l:FuncData}{m:Str}(F:Fun K x q st f l)(h:∀(kV j p:Value) (an:Option Addr) (i n:Value) (k:Value),bindArgs (W.fnOf x q (defArgs st) (defBody st) (defScope st) .none kV j p an i n) ⟨[k],[]⟩=pure ([m].zip [k]):=by intros;rfl):Binds K l [m] []:=F.binds λa b c d e g r o=>uu1 r o (h a b c d e g)
@[elab_as_elim] theorem uu2{P:L9->Prop}(us:L9)(hl:us.length=2)(h:∀a0 a1,P [a0,a1]):P us:=match us,hl with | [a0,a1],_=>h a0 a1
def bb2{K:Frg}{x q:Str}{st:Stmt}{f:Addr}{m:FuncData}{n o:Str}(F:Fun K x q st f m)(h:∀(kV j s:Value) (an:Option Addr) (i p:Value) (k l:Value),bindArgs (W.fnOf x q (defArgs st) (defBody st) (defScope st) .none kV j s an i p) ⟨[k,l],[]⟩=pure ([n,o].zip [k,l]):=by intros;rfl):Binds K m [n,o] []:=F.binds λa b c d e g t r=>uu2 t r (h a b c d e g)
@[elab_as_elim] theorem uu3{P:L9->Prop}(us:L9)(hl:us.length=3)(h:∀a0 a1 a2,P [a0,a1,a2]):P us:=match us,hl with | [a0,a1,a2],_=>h a0 a1 a2
def bb3{K:Frg}{x q:Str}{st:Stmt}{f:Addr}{n:FuncData}{o p r:Str}(F:Fun K x q st f n)(h:∀(kV j u:Value) (an:Option Addr) (i s:Value) (k l m:Value),bindArgs (W.fnOf x q (defArgs st) (defBody st) (defScope st) .none kV j u an i s) ⟨[k,l,m],[]⟩=pure ([o,p,r].zip [k,l,m]):=by intros;rfl):Binds K n [o,p,r] []:=F.binds λa b c d e g v t=>uu3 v t (h a b c d e g)
@[elab_as_elim] theorem uu4{P:L9->Prop}(us:L9)(hl:us.length=4)(h:∀a0 a1 a2 a3,P [a0,a1,a2,a3]):P us:=match us,hl with | [a0,a1,a2,a3],_=>h a0 a1 a2 a3
def bb4{K:Frg}{x q:Str}{st:Stmt}{f:Addr}{o:FuncData}{p r s t:Str}(F:Fun K x q st f o)(h:∀(kV j w:Value) (an:Option Addr) (i u:Value) (k l m n:Value),bindArgs (W.fnOf x q (defArgs st) (defBody st) (defScope st) .none kV j w an i u) ⟨[k,l,m,n],[]⟩=pure ([p,r,s,t].zip [k,l,m,n]):=by intros;rfl):Binds K o [p,r,s,t] []:=F.binds λa b c d e g y v=>uu4 y v (h a b c d e g)
@[elab_as_elim] theorem uu5{P:L9->Prop}(us:L9)(hl:us.length=5)(h:∀a0 a1 a2 a3 a4,P [a0,a1,a2,a3,a4]):P us:=match us,hl with | [a0,a1,a2,a3,a4],_=>h a0 a1 a2 a3 a4
def bb5{K:Frg}{x q:Str}{st:Stmt}{f:Addr}{p:FuncData}{r s t u v:Str}(F:Fun K x q st f p)(h:∀(kV j z:Value) (an:Option Addr) (i w:Value) (k l m n o:Value),bindArgs (W.fnOf x q (defArgs st) (defBody st) (defScope st) .none kV j z an i w) ⟨[k,l,m,n,o],[]⟩=pure ([r,s,t,u,v].zip [k,l,m,n,o]):=by intros;rfl):Binds K p [r,s,t,u,v] []:=F.binds λa b c d e g A y=>uu5 A y (h a b c d e g)
abbrev Ng(K:Frg)(x:Str)(f:Addr):Prop:=W.nsIn K mainGlobals x=some (some (.ref f))
abbrev N0(K:Frg)(x:Str):Prop:=W.nsIn K mainGlobals x=some none
abbrev Nn(K:Frg)(C:Addr)(x:Str):Prop:=W.findIn K (.ref C) x=some none
abbrev Nx(K:Frg)(C:Addr)(x:Str)(f:Addr):Prop:=W.findIn K (.ref C) x=some (some (.ref f))
abbrev Fn1(K:Frg)(x:Str)(st:Stmt)(f:Addr)(d:FuncData):Prop:=Fun K x x st f d
set_option autoImplicit true in
def j6M{K:Frg}{h:Heap}{mg:Str->Option Value}(X:K.In h)(G:h.Ns mainGlobals mg)
  {a:Addr}
  (f:Ng K "Machine" a) (k:W.plainGet K a Str.empty=true) (g:W.hasDictIn K a=true) (l:W.plainOver K a=true) (m:W.findIn K (.ref a) "__setattr__"= some (some (.builtin "object.__setattr__"))) (j:W.makesIn K a=true) (i:W.keepIn K (.ref a)=true) (Ju:Nn K a "stage") (qh:Nn K a "last") (Jl:Nn K a "now")
  {b:Addr}
  (o:Ng K "Stage" b) (s:W.plainGet K b Str.empty=true) (p:W.hasDictIn K b=true) (u:W.plainOver K b=true) (w:W.findIn K (.ref b) "__setattr__"= some (some (.builtin "object.__setattr__"))) (r:W.makesIn K b=true) (q:W.keepIn K (.ref b)=true) (QC:Nn K b "limbs") (QB:Nn K b "first") (J2:Nn K b "forms") (j4:Nn K b "sizes") (Q5:Nn K b "left") (qi:Nn K b "pieces")
  (a1:Ng K "numbers_of" f1) (F1:Fn1 K "numbers_of" ZT f1 d1)
  (a2:Ng K "names_in" f2) (F2:Fn1 K "names_in" Yl f2 d2)
  (a3:Ng K "form_with" f3) (F3:Fn1 K "form_with" zW f3 d3)
  (a4:Ng K "made" f4) (F4:Fn1 K "made" j0W f4 d4)
  (a5:Ng K "come_to" f5) (F5:Fn1 K "come_to" kL f5 d5)
  (a6:Ng K "drums" f6) (F6:Fn1 K "drums" KB f6 d6)
  (a7:Ng K "name_of" f7) (F7:Fn1 K "name_of" kM f7 d7)
  (a8:Ng K "book_of" f8) (F8:Fn1 K "book_of" zc f8 d8)
  (a9:Ng K "inner" f9) (F9:Fn1 K "inner" KC f9 d9)
  (aB:Ng K "ends" f10) (L:Fn1 K "ends" j0V f10 d10)
  (aC:Ng K "moved" f11) (N:Fn1 K "moved" KD f11 d11)
  (aD:Ng K "check_side" f12) (P:Fn1 K "check_side" Q9 f12 d12)
  (aE:Ng K "length_of" f13) (Q:Fn1 K "length_of" yD f13 d13)
  (aF:Ng K "lengths" f14) (R:Fn1 K "lengths" ZB f14 d14)
  (aG:Ng K "ramp" f15) (S:Fn1 K "ramp" j0X f15 d15)
  (aH:Ng K "pieces_in" f16) (T:Fn1 K "pieces_in" yE f16 d16)
  (aI:Ng K "pieces_of" f17) (U:Fn1 K "pieces_of" zX f17 d17)
  (aJ:Ng K "progress" f18) (Y:Fn1 K "progress" Ym f18 d18)
  (aK:Ng K "within" f19) (Z:Fn1 K "within" wF f19 d19)
  (ax:Nx K b "__init__" f20) (az:W.isFn K (.ref f20)=true) (y:Fun K "__init__" "Stage.__init__" JM f20 d20)
  (aL:Nx K b "scene" f21) (bh:W.isFn K (.ref f21)=true) (z:Fun K "scene" "Stage.scene" Zj f21 d21)
  (aM:Nx K b "heights_at" f22) (bi:W.isFn K (.ref f22)=true) (A:Fun K "heights_at" "Stage.heights_at" qM f22 d22)
  (aN:Nx K b "words_at" f23) (bj:W.isFn K (.ref f23)=true) (B:Fun K "words_at" "Stage.words_at" Qw f23 d23)
  (aO:Ng K "pins_of" f24) (a0:Fn1 K "pins_of" ZC f24 d24)
  (aP:Ng K "pins_at" f25) (aa:Fn1 K "pins_at" kN f25 d25)
  (ay:Nx K a "__init__" f26) (aA:W.isFn K (.ref f26)=true) (C:Fun K "__init__" "Machine.__init__" qL f26 d26)
  (aQ:Nx K a "step" f27) (bk:W.isFn K (.ref f27)=true) (D:Fun K "step" "Machine.step" zC f27 d27)
  (aR:Nx K a "jump" f28) (bl:W.isFn K (.ref f28)=true) (E:Fun K "jump" "Machine.jump" zx f28 d28)
  (aS:Nx K a "beat" f29) (bm:W.isFn K (.ref f29)=true) (F:Fun K "beat" "Machine.beat" zw f29 d29)
  (aT:Nx K a "heights" f30) (bn:W.isFn K (.ref f30)=true) (H:Fun K "heights" "Machine.heights" Qg f30 d30)
  (aU:Nx K a "pins" f31) (bo:W.isFn K (.ref f31)=true) (I:Fun K "pins" "Machine.pins" zB f31 d31)
  (aV:Nx K a "kept" f32) (bp:W.isFn K (.ref f32)=true) (J:Fun K "kept" "Machine.kept" zA f32 d32)
  (aW:Ng K "_law_cell_at" f33) (ab:Fn1 K "_law_cell_at" zD f33 d33)
  (aX:Ng K "_law_mixed" f34) (ac:Fn1 K "_law_mixed" ZQ f34 d34)
  (aY:Ng K "_law_whole" f35) (ad:Fn1 K "_law_whole" ZS f35 d35)
  (aZ:Ng K "_law_word" f36) (ae:Fn1 K "_law_word" yC f36 d36)
  (b0:Ng K "_law_named" f37) (af:Fn1 K "_law_named" Q7 f37 d37)
  (b1:Ng K "_law_form" f38) (ag:Fn1 K "_law_form" yz f38 d38)
  (b2:Ng K "_law_long" f39) (ah:Fn1 K "_law_long" QP f39 d39)
  (b3:Ng K "_law_moves" f40) (ai:Fn1 K "_law_moves" ZR f40 d40)
  (b4:Ng K "_law_last" f41) (aj:Fn1 K "_law_last" yA f41 d41)
  (b5:Ng K "_law_take" f42) (ak:Fn1 K "_law_take" yB f42 d42)
  (b6:Ng K "_law_naming" f43) (al:Fn1 K "_law_naming" qI f43 d43)
  (b7:Ng K "_law_form_told" f44) (am:Fn1 K "_law_form_told" Qy f44 d44)
  (b8:Ng K "_law_book_told" f45) (an:Fn1 K "_law_book_told" Qx f45 d45)
  (b9:Ng K "_law_book" f46) (ao:Fn1 K "_law_book" yx f46 d46)
  (ba:Ng K "_law_longs" f47) (ap:Fn1 K "_law_longs" Qh f47 d47)
  (bb:Ng K "_law_behind" f48) (aq:Fn1 K "_law_behind" Zk f48 d48)
  (bc:Ng K "_law_beside" f49) (ar:Fn1 K "_law_beside" Zl f49 d49)
  (bd:Ng K "_law_pins" f50) (as:Fn1 K "_law_pins" zV f50 d50)
  (be:Ng K "_law_due" f51) (au:Fn1 K "_law_due" ZP f51 d51)
  (bf:Ng K "_law_plain" f52) (av:Fn1 K "_law_plain" Q8 f52 d52)
  (bg:Ng K "law" f53) (aw:Fn1 K "law" j4p f53 d53)
  {d:Tok}
  (n:W.nsIn K mainGlobals "FIGURES"= some (some (.str "abcdefghijklmnopqrstuvwxyz" d)))
  {qC:Addr}
  (c:Ng K "MOST_NAMES" qC) (kk_MOST_NAMES:TabK K qC [("row",.flat (.int 8)),("side",.flat (.int 4))])
  (z0:N0 K "abs") (z1:N0 K "all") (z2:N0 K "bool") (z3:N0 K "dict") (z4:N0 K "enumerate") (z5:N0 K "int") (z6:N0 K "isinstance") (z7:N0 K "len") (z8:N0 K "list") (z9:N0 K "max") (bq:N0 K "min") (br:N0 K "range") (bs:N0 K "reversed") (bt:N0 K "sorted") (bu:N0 K "sum") (bv:N0 K "tuple") (bw:N0 K "zip") :
  ∃t:Ad,Txt K mg t:=by
 have M:∀{x v},W.nsIn K mainGlobals x=some (some v)->mg x=some v:=λe=>W.mg_of X G e
 have O:∀{x},N0 K x->mg x=none:=λe=>W.mg_none_of X G e
 exact⟨⟨f1,_,f2,_,f3,_,f4,_,f5,_,f6,_,f7,_,f8,_,f9,_,f10,_,f11,_,f12,_,f13,_,f14,_,f15,_,f16,_,f17,_,f18,_,f19,_,f20,_,f21,_,f22,_,f23,_,f24,_,f25,_,f26,_,f27,_,f28,_,f29,_,f30,_,f31,_,f32,_,f33,_,f34,_,f35,_,f36,_,f37,_,f38,_,f39,_,f40,_,f41,_,f42,_,f43,_,f44,_,f45,_,f46,_,f47,_,f48,_,f49,_,f50,_,f51,_,f52,_,f53,_,b,a,_,_⟩,⟨⟨F1,M a1,bb1 F1⟩,⟨F2,M a2,bb1 F2⟩,⟨F3,M a3,bb3 F3⟩,⟨F4,M a4,bb1 F4⟩,⟨F5,M a5,bb2 F5⟩,⟨F6,M a6,bb1 F6⟩,⟨F7,M a7,bb1 F7⟩,⟨F8,M a8,bb1 F8⟩,⟨F9,M a9,bb1 F9⟩,⟨L,M aB,bb1 L⟩,⟨N,M aC,bb1 N⟩,⟨P,M aD,bb3 P⟩,⟨Q,M aE,bb2 Q⟩,⟨R,M aF,bb1 R⟩,⟨S,M aG,bb4 S⟩,⟨T,M aH,bb3 T⟩,⟨U,M aI,bb2 U⟩,⟨Y,M aJ,bb3 Y⟩,⟨Z,M aK,bb3 Z⟩,y,⟨ax,az,y.kp⟩,bb2 y,z,⟨aL,bh,z.kp⟩,bb2 z,A,⟨aM,bi,A.kp⟩,bb2 A,B,⟨aN,bj,B.kp⟩,bb2 B,⟨a0,M aO,bb5 a0⟩,⟨aa,M aP,bb2 aa⟩,C,⟨ay,aA,C.kp⟩,bb2 C,D,⟨aQ,bk,D.kp⟩,bb1 D,E,⟨aR,bl,E.kp⟩,bb2 E,F,⟨aS,bm,F.kp⟩,bb1 F,H,⟨aT,bn,H.kp⟩,bb1 H,I,⟨aU,bo,I.kp⟩,bb1 I,J,⟨aV,bp,J.kp⟩,bb1 J,⟨ab,M aW,bb2 ab⟩,⟨ac,M aX,bb2 ac⟩,⟨ad,M aY,bb1 ad⟩,⟨ae,M aZ,bb2 ae⟩,⟨af,M b0,bb4 af⟩,⟨ag,M b1,bb5 ag⟩,⟨ah,M b2,bb2 ah⟩,⟨ai,M b3,bb3 ai⟩,⟨aj,M b4,bb3 aj⟩,⟨ak,M b5,bb2 ak⟩,⟨al,M b6,bb5 al⟩,⟨am,M b7,bb5 am⟩,⟨an,M b8,bb3 an⟩,⟨ao,M b9,bb3 ao⟩,⟨ap,M ba,bb1 ap⟩,⟨aq,M bb,bb3 aq⟩,⟨ar,M bc,bb5 ar⟩,⟨as,M bd,bb5 as⟩,⟨au,M be,bb3 au⟩,⟨av,M bf,bb1 av⟩,⟨aw,M bg,bb1 aw⟩,⟨s,p,u,w⟩,⟨r,ax,az,q⟩,M o,QC,QB,J2,j4,Q5,qi,⟨k,g,l,m⟩,⟨j,ay,aA,i⟩,M f,Ju,qh,Jl,O z0,O z1,O z2,O z3,O z4,O z5,O z6,O z7,O z8,O z9,O bq,O br,O bs,O bt,O bu,O bv,O bw,M n,⟨_,rfl⟩,M c,kk_MOST_NAMES⟩⟩
end K39
open PySem PySem.W PyProof.Rows
set_option maxRecDepth 100000 in
set_option maxHeartbeats 0 in
theorem PySem.Challenge.cw_camplay_k39_pins_holds : PySem.Challenge.rw_camplay_k39_pins.Holds := by
 w_on;o_law;k_head;(case hw=>w_witness2)
 k_fill
 refine L2.j4M (l:=PySem.Challenge.rw_camplay_k39_pins) (n:=63) (k:=186) (x:="_law_script") (CX:=L2.CX0) (sp:=Pr.sp_law) rfl nofun rfl ⟨rfl,by decide,by decide⟩ (λw h Y=>PySem.W.kIn_of Y) ?F (λK H a ns hl hb hO hS=>⟨a,ns,rfl,hS,hl,hb,λ_=>rfl⟩) (λ_ _ _ _ z=>z)
 case F=>
  intro w mg fa h KX G hmg;have TT:∃t:K39.Ad,K39.Txt (L2.KOf KX) mg t:=by
   dsimp only[L2.KOf];refine' K39.j6M KX G ?_ ?_ ?_ ?_ ?_ ?_ ?_ ?_ ?_ ?_ ?_ ?_ ?_ ?_ ?_ ?_ ?_ ?_ ?_ ?_ ?_ ?_ ?_ ?_ (L2.jH ?_ ?_ ?_) ?_ (L2.jH ?_ ?_ ?_) ?_ (L2.jH ?_ ?_ ?_) ?_ (L2.jH ?_ ?_ ?_) ?_ (L2.jH ?_ ?_ ?_) ?_ (L2.jH ?_ ?_ ?_) ?_ (L2.jH ?_ ?_ ?_) ?_ (L2.jH ?_ ?_ ?_) ?_ (L2.jH ?_ ?_ ?_) ?_ (L2.jH ?_ ?_ ?_) ?_ (L2.jH ?_ ?_ ?_) ?_ (L2.jH ?_ ?_ ?_) ?_ (L2.jH ?_ ?_ ?_) ?_ (L2.jH ?_ ?_ ?_) ?_ (L2.jH ?_ ?_ ?_) ?_ (L2.jH ?_ ?_ ?_) ?_ (L2.jH ?_ ?_ ?_) ?_ (L2.jH ?_ ?_ ?_) ?_ (L2.jH ?_ ?_ ?_) ?_ ?_ (L2.jH ?_ ?_ ?_) ?_ ?_ (L2.jH ?_ ?_ ?_) ?_ ?_ (L2.jH ?_ ?_ ?_) ?_ ?_ (L2.jH ?_ ?_ ?_) ?_ (L2.jH ?_ ?_ ?_) ?_ (L2.jH ?_ ?_ ?_) ?_ ?_ (L2.jH ?_ ?_ ?_) ?_ ?_ (L2.jH ?_ ?_ ?_) ?_ ?_ (L2.jH ?_ ?_ ?_) ?_ ?_ (L2.jH ?_ ?_ ?_) ?_ ?_ (L2.jH ?_ ?_ ?_) ?_ ?_ (L2.jH ?_ ?_ ?_) ?_ ?_ (L2.jH ?_ ?_ ?_) ?_ (L2.jH ?_ ?_ ?_) ?_ (L2.jH ?_ ?_ ?_) ?_ (L2.jH ?_ ?_ ?_) ?_ (L2.jH ?_ ?_ ?_) ?_ (L2.jH ?_ ?_ ?_) ?_ (L2.jH ?_ ?_ ?_) ?_ (L2.jH ?_ ?_ ?_) ?_ (L2.jH ?_ ?_ ?_) ?_ (L2.jH ?_ ?_ ?_) ?_ (L2.jH ?_ ?_ ?_) ?_ (L2.jH ?_ ?_ ?_) ?_ (L2.jH ?_ ?_ ?_) ?_ (L2.jH ?_ ?_ ?_) ?_ (L2.jH ?_ ?_ ?_) ?_ (L2.jH ?_ ?_ ?_) ?_ (L2.jH ?_ ?_ ?_) ?_ (L2.jH ?_ ?_ ?_) ?_ (L2.jH ?_ ?_ ?_) ?_ (L2.jH ?_ ?_ ?_) ?_ (L2.jH ?_ ?_ ?_) ?_ (L2.jH ?_ ?_ ?_) ?_ ?_ ?kk_MOST_NAMES ?_ ?_ ?_ ?_ ?_ ?_ ?_ ?_ ?_ ?_ ?_ ?_ ?_ ?_ ?_ ?_ ?_
   any_goals first | (show PySem.W.nsIn _ _ _=_;k_is) | (show PySem.W.findIn _ _ _=_;k_is) | k_is
   (case kk_MOST_NAMES=>(show PyProof.Rows.KTD.tabLook _ _ _ _=true);kernel_rfl)
  obtain⟨t,T⟩:=TT;obtain⟨_,_,kV,dc,pm,an,cd,ct,_,e,_⟩:=T.j2U.F.ex;have e0:=hmg.symm.trans T.j2U.m;cases e0;refine⟨t.j1c,λs v=>?_,λbase _ _=>K39.j4P T⟩;rw[e];exact .of_eq rfl
#print axioms PySem.Challenge.cw_camplay_k39_pins_holds
