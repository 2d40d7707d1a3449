import PyProof.Rows.All
import Wide.All
import OpenK.AllK
import Wide.FinOn
import Lean
import PyProof.EqAt
import PyProof.EqKinds
import PyProof.TupleCall
import PySem.Challenge.RW_camplay_k57_whole_meet_by_text
set_option Elab.async false
set_option linter.all false
set_option maxRecDepth 100000
set_option maxHeartbeats 4000000
open List (all_cons all_eq_true any_cons any_eq_false any_eq_true append_nil ext_getElem filterMap_cons filter_append filter_cons flatMap_append flatMap_cons flatMap_nil flatten_cons forIn_cons forIn_nil getD_eq_getElem?_getD getElem_map getElem_mem getElem_range length_cons length_drop length_eq_zero_iff length_map length_nil length_range length_take lookup_cons map_append map_congr_left map_cons map_map map_nil mem_append mem_append_left mem_append_right mem_cons mem_cons_of_mem mem_cons_self mem_filter mem_flatMap mem_iff_getElem mem_map mem_of_mem_take mem_range mem_singleton nil_append nodup_append nodup_cons not_mem_nil of_mem_zip pairwise_iff_getElem pairwise_map pairwise_singleton range_succ replicate_succ reverse_cons size_toArray sum_append sum_cons sum_nil take_length take_of_length_le take_succ)
open Lean in
def cvP:Nat->Term->MacroM (TSyntax `rcasesPat)
 | 0,_=>Macro.throwUnsupported
 | n+1,t=>match t with
  | `(⟨$xs,*⟩)=>do let ps<-xs.getElems.mapM λx=>do let p<-cvP n x;`(Parser.Tactic.rcasesPatLo| $p:rcasesPat)
                   `(rcasesPat| ⟨$ps,*⟩)
  | `(_)=>`(rcasesPat| _)
  | `($x:ident)=>`(rcasesPat| $x:ident)
  | _=>Macro.throwUnsupported
local macro_rules | `(tactic| let $p:term:=$e) => do let q<-cvP 9 p;`(tactic| obtain $q:rcasesPat:=$e)
local macro_rules | `(⋯) => `(by lia)
local macro_rules | `(nofun) => `(by decide)
abbrev vz:=@List.getElem?_eq_getElem
abbrev vy:=@List.getD_eq_getElem?_getD
abbrev vx:=@List.getElem?_eq_some_iff
abbrev vv:=@List.getElem?_map
abbrev vt:=@List.length_map
abbrev vq:=@List.mem_cons_self
abbrev vp:=@List.mem_cons_of_mem
abbrev vo:=@List.mem_singleton
abbrev vm:=@List.length_append
abbrev vj:=@List.mem_of_getElem?
abbrev vi:=@List.map_append
abbrev vh:=@List.length_take
abbrev vg:=@List.mem_append
abbrev vf:=@Option.map_eq_some_iff
abbrev ve:=@Int.emod_lt_of_pos
abbrev vd:=@Int.emod_nonneg
abbrev vc:=@if_pos
abbrev va:=@if_neg
abbrev vA:=@Nat.le_refl
abbrev vB:=@Nat.zero_le
abbrev vC:=@Int.le_refl
abbrev vD:=@List.getElem?_append_left
abbrev vE:=@List.getElem?_append_right
abbrev vF:=@Nat.lt_of_le_of_lt
abbrev vG:=@Nat.ne_of_lt
abbrev vH:=@Bool.false_ne_true
abbrev vI:=@decide_eq_true
abbrev vJ:=@decide_eq_false
abbrev vK:=@PySem.Heap.lt_size
abbrev vL:=@PySem.Heap.get?_push_of_some
abbrev vM:=@List.mem_map
abbrev vN:=@Option.some.inj
abbrev vO:=@Int.mul_nonneg
abbrev vP:=@Nat.ne_of_gt
abbrev vQ:=@List.mem_filter
abbrev vR:=@List.length_cons
abbrev vV:=@Int.mul_le_mul_of_nonneg_right
abbrev vX:=@Nat.le_trans
abbrev vY:=@Int.le_trans
abbrev vZ:=@Nat.le_of_lt
abbrev v5:=@List.take_length
abbrev v6:=@List.map_map
abbrev v9:=@List.map_cons
abbrev uz:=@List.sum_cons
abbrev ux:=@Int.zero_add
abbrev uo:=@List.nodup_cons
abbrev uj:=@PySem.wpAny_bind
abbrev ui:=@PySem.wpAny_pure
abbrev uh:=@absurd
def uf:1<=PySem.sizeLine:=by decide
def ue:2<=PySem.sizeLine:=by decide
def ud:3<=PySem.sizeLine:=by decide
def uc:4<=PySem.sizeLine:=by decide
abbrev Frg := PySem.W.Frag
abbrev L3:=List (List (Int×Int))
abbrev L4:=List (List Int)
abbrev L5:=List (Nat×Int)
abbrev L6:=List (PySem.Str×Int)
abbrev L9:=List Int
abbrev N1:=List Nat
abbrev N2:=List PySem.Addr
abbrev N3:=List PySem.Str
abbrev N4:=List PySem.Value
abbrev qA:=@PySem.F.plainAttrs_list
abbrev qY:=@PySem.F.slot_list_append
abbrev kS:=@PySem.F.type_list_append
abbrev k0:=@PySem.F.plainAttrs_str
abbrev w4:=@PySem.F.slot_str_split
abbrev x_A:=@PySem.F.type_str_split
namespace L2
open PySem PySem.Spec PyProof.Rows
noncomputable abbrev Key:=Sum Int Str
noncomputable def keyIs:Key->Value->Bool
 | .inl k,v=>Value.isInt k v
 | .inr x,v=>Value.isStrOf x v
noncomputable def keyH(w:World):Key->Int
 | .inl k=>hashInt k
 | .inr x=>hashStr w x
def j5:∀{k:Key} {v:Value},keyIs k v=true->(∃i t,k=Sum.inl i/\v=Value.int i t)\/(∃x t,k=Sum.inr x/\v=Value.str x t)
 | .inl i,v,h=>by
  let⟨t,e⟩:=Value.isInt_shape (k:=i) (v:=v) h;exact .inl ⟨i,t,rfl,e⟩
 | .inr x,v,h=>by
  let⟨t,e⟩:=Value.isStrOf_shape (x:=x) (v:=v) h;exact .inr ⟨x,t,rfl,e⟩
def wS(i:Int)(t:Tok):keyIs (.inl i) (.int i t)=true:=by simp[keyIs,Value.isInt]
def j2B(x:Str)(t:Tok):keyIs (.inr x) (.str x t)=true:=by simp[keyIs,Value.isStrOf]
def j6u(a b:Int):decide ((Sum.inl a:Key)=Sum.inl b)=(a==b):=by
 by_cases e:a=b
 .subst e;simp
 .have h:¬(Sum.inl a:Key)=Sum.inl b:=λq=>e (Sum.inl.inj q)
  rw[vJ h];exact(beq_eq_false_iff_ne.mpr e).symm
def j6x(a b:Str):decide ((Sum.inr a:Key)=Sum.inr b)=decide (a=b):=by
 by_cases e:a=b
 .subst e;simp
 .have h:¬(Sum.inr a:Key)=Sum.inr b:=λq=>e (Sum.inr.inj q)
  rw[vJ h,vJ e]
def j6v(a:Int)(b:Str):decide ((Sum.inl a:Key)=Sum.inr b)=false:=vJ (λq=>nomatch q)
def j6w(a:Str)(b:Int):decide ((Sum.inr a:Key)=Sum.inl b)=false:=vJ (λq=>nomatch q)
noncomputable def mixKind(prog:Program)(w:World):PySem.KeyKind prog w Key where
 is:=keyIs
 hash:=keyH w
 inj:=λv a b ha hb=>by
  rcases j5 ha with⟨i,t,rfl,rfl⟩ | ⟨x,t,rfl,rfl⟩
  .rcases j5 hb with⟨j,u,rfl,e⟩ | ⟨y,u,rfl,e⟩
   .injection e with e1 _;rw[e1]
   .exact nomatch e
  .rcases j5 hb with⟨j,u,rfl,e⟩ | ⟨y,u,rfl,e⟩
   .exact nomatch e
   .injection e with e1 _;rw[e1]
 byValue:=λk v h=>by
  rcases j5 h with⟨i,t,rfl,rfl⟩ | ⟨x,t,rfl,rfl⟩<;>rfl
 pyHash:=λhv h=>by
  rcases j5 hv with⟨i,t,rfl,rfl⟩ | ⟨x,t,rfl,rfl⟩
  .exact wpAny_pyHash_int h
  .exact wpAny_pyHash_str h
 eqBool:=λhu hv h=>by
  rcases j5 hu with⟨i,t,rfl,rfl⟩ | ⟨x,t,rfl,rfl⟩
  .rcases j5 hv with⟨j,u,rfl,rfl⟩ | ⟨y,u,rfl,rfl⟩
   .rw[j6u]at h;exact wpAny_eqBool_int h
   .rw[j6v]at h;exact SeqAt.EqAt.int_str i t y u _ _ _ _ h
  .rcases j5 hv with⟨j,u,rfl,rfl⟩ | ⟨y,u,rfl,rfl⟩
   .rw[j6w]at h;exact SeqAt.EqAt.str_int x t j u _ _ _ _ h
   .rw[j6x]at h;exact wpAny_eqBool_str h
 «strs»:=λk x t v h=>by
  rcases j5 h with⟨i,u,rfl,e⟩ | ⟨y,u,rfl,e⟩
  .exact nomatch e
  .injection e with e1 _;subst e1;cases v<;>rfl
def Xq(prog:Program)(w:World)(i:Int)(t:Tok):(mixKind prog w).is (.inl i) (.int i t)=true:=wS i t
def Xr(prog:Program)(w:World)(x:Str)(t:Tok):(mixKind prog w).is (.inr x) (.str x t)=true:=j2B x t
inductive V where
 | non | bl (b:Bool) | int (i:Int) | str (x:Str) | byt (b:Array UInt8) | flt (b:UInt64) | ref (a:Addr) | ty (n:String)
 deriving DecidableEq
abbrev N7:=Option V
abbrev N6:=List V
noncomputable def RelV:V->Value->Prop
 | .non,u=>u=Value.none
 | .bl b,u=>u=Value.bool b
 | .int i,u=>∃t,u=Value.int i t
 | .str x,u=>∃t,u=Value.str x t
 | .byt b,u=>∃t,u=Value.bytes b t
 | .flt b,u=>∃t,u=Value.float b t
 | .ref a,u=>u=Value.ref a
 | .ty n,u=>u=Value.type n
noncomputable abbrev Vals:N6->N4->Prop:=Paired RelV
def Vals.length(r:Vals xs us):xs.length=us.length:=Paired.length r
theorem Vals.get:∀{xs:N6} {us:N4} {i:Nat} {x:V},Vals xs us->xs[i]?=some x->∃u,us[i]?=some u/\RelV x u
 | _,_,_,_,.nil,e=>by simp at e
 | _,_,0,_,.cons r _,e=>by simp at e;subst e;exact⟨_,rfl,r⟩
 | _,_,i+1,x,.cons _ t,e=>by
  let⟨u,a,b⟩:=Vals.get (i:=i) (x:=x) t (by simpa using e);exact⟨u,by simpa using a,b⟩
theorem Vals.set(r:RelV x u):∀{xs:N6} {us:N4} (i:Nat),Vals xs us->Vals (xs.set i x) (us.set i u)
 | _,_,_,.nil=>.nil
 | _,_,0,.cons _ t=>.cons r t
 | _,_,i+1,.cons q t=>.cons q (Vals.set r i t)
theorem Vals.append:∀{xs ys:N6} {us ws:N4},Vals xs us->Vals ys ws->Vals (xs++ys) (us++ws)
 | _,_,_,_,.nil,s=>s
 | _,_,_,_,.cons r t,s=>.cons r (Vals.append t s)
theorem Vals.take:∀{xs:N6} {us:N4} (n:Nat),Vals xs us->Vals (xs.take n) (us.take n)
 | _,_,0,_=>.nil
 | _,_,_+1,.nil=>.nil
 | _,_,n+1,.cons r t=>.cons r (Vals.take n t)
theorem Vals.drop:∀{xs:N6} {us:N4} (n:Nat),Vals xs us->Vals (xs.drop n) (us.drop n)
 | _,_,0,r=>r
 | _,_,_+1,.nil=>.nil
 | _,_,n+1,.cons _ t=>Vals.drop n t
noncomputable def RelO:N7->Option Value->Prop
 | some v,some u=>RelV v u
 | none,none=>True
 | _,_=>False
noncomputable def KV{κ:Type}:List (κ×V)->List (κ×Value)->Prop:=Paired λ(p:κ×V) (q:κ×Value)=>p.1=q.1/\RelV p.2 q.2
noncomputable def kV:Key->V
 | .inl i=>.int i
 | .inr x=>.str x
inductive HO where
 | lst (xs:N6)
 | tup (xs:N6)
 | dK (kvs:List (Key×V)) | dT (kvs:List (List Key×V))
 | set (S:Int->Bool) (n:Nat)
 | ins (C dx:Addr) (fs:List (Str×V))
 | own (x:Addr)
 | xd (fs:List (Str×V))
 | met (f x:Addr)
 | rng (lo hi:Int)
 | frz (o:Obj) (u:HO)
 | tbl (ps:Array Value)
 | ext (φ:Heap->Prop)
noncomputable abbrev Hp:=Addr->Option HO
noncomputable def upd(H:Hp)(a:Addr)(o:HO):Hp:=λb=>if b=a then some o else H b
def jm{H:Hp}:upd H a o a=some o:=by unfold upd;rw[vc rfl]
def je{H:Hp}(h:b≠a):upd H a o b=H b:=by unfold upd;rw[va h]
def JE{H:Hp}(h:H a=some o)(h':H b=some u)(d:o≠u):a≠b:=by
 intro e;subst e;rw[h]at h';exact d (vN h')
def jf{H:Hp}(h:H a=some o)(h':H b=none):a≠b:=by
 intro e;subst e;rw[h]at h';cases h'
section
variable(P:Program)(w:World)
noncomputable def ObjOk(H:Hp)(h:Heap)(a:Addr):HO->Prop
 | .lst xs=>xs.length<=sizeLine/\∃(its:N4) (n:Nat),Vals xs its/\h.get? a=some {cls:=.type "list",data:=.seq its.toArray n}
 | .tup xs=>xs.length<=sizeLine/\∃its:N4,Vals xs its/\IsTup h a its.toArray
 | .dK kvs=>kvs.length<=sizeLine/\(a==sysModules)=false/\∃vs,KV kvs vs/\h.DictOf (mixKind P w) a vs
 | .dT kvs=>kvs.length<=sizeLine/\(a==sysModules)=false/\∃xs:List (List Key×Addr×Value),
   Paired (λ(p:List Key×V) (q:List Key×Addr×Value)=>p.1=q.1/\H q.2.1=some (.tup (p.1.map kV))/\RelV p.2 q.2.2) kvs xs/\
   ∃o es ep,h.get? a=some o/\o.ExactDict/\o.data = .dict es ep/\es.toList=xs.map (entryOfKey (tupleKind (mixKind P w)))/\(xs.map (·.1)).Nodup
 | .set S n=>h.SetOf (intKind P w) a S n
 | .ins C dx fs=>H dx=some (.own a)/\fs.length<=1000/\dx≠a/\h.get? a=some (PySem.W.instObj C dx)/\
   ∃mA,h.Ns1 dx mA/\(∀f,RelO (fs.lookup f) (mA f))/\PySem.Within mA (fs.map (·.1))
 | .own _=>∃o,h.get? a=some o
 | .xd fs=>∃mA,h.Ns1 a mA/\∀f,RelO (fs.lookup f) (mA f)
 | .rng lo hi=>∃t u v,h.get? a=some {cls:=.type "range",data:=.fields #[.int lo t,.int hi u,.int 1 v]}
 | .frz o u=>h.get? a=some o/\ObjOk H h a u
 | .tbl ps=>h.get? a=some {cls:=.none,data:=.fields ps}
 | .met f x=>h.get? a=some (PySem.W.methodObj (.ref f) (.ref x))
 | .ext φ=>φ h/\(∃o,h.get? a=some o)/\∀h1 h2:Heap,φ h1->(∀o,h1.get? a=some o->h2.get? a=some o)->φ h2
def HOk(H:Hp)(h:Heap):Prop:=∀a o,H a=some o->ObjOk P w H h a o
end
section
variable{P:Program}{w:World}{H H':Hp}{h h':Heap}{a:Addr}{o:HO}
def ObjOk.lt(x:ObjOk P w H h a o):a<h.objs.size:=by
 cases o with
 | lst xs=>let⟨_,_,_,_,e⟩:=x;exact vK e
 | tup xs=>let⟨_,_,_,p⟩:=x;exact p.lt
 | dK kvs=>let⟨_,_,_,_,o,_,_,e,_⟩:=x;exact vK e
 | dT kvs=>let⟨_,_,_,_,o,_,_,e,_⟩:=x;exact vK e
 | set S n=>let⟨o,_,_,_,e,_⟩:=x;exact vK e
 | ins C dx fs=>let⟨_,_,_,e,_⟩:=x;exact vK e
 | own y=>let⟨_,e⟩:=x;exact vK e
 | xd fs=>let⟨_,⟨_,_,_,e,_⟩,_⟩:=x;exact vK e
 | rng lo hi=>let⟨_,_,_,e⟩:=x;exact vK e
 | frz ob u=>let⟨e,_⟩:=x;exact vK e
 | tbl ps=>exact vK (show h.get? a=some _ from x)
 | met f y=>exact vK (show h.get? a=some _ from x)
 | ext φ=>let⟨_,⟨_,e⟩,_⟩:=x;exact vK e
theorem Paired.mapP{c d:Type}{F G:c->d->Prop}:∀{l₁:List c} {l₂:List d},Paired F l₁ l₂->(∀a b,F a b->G a b)->Paired G l₁ l₂
 | _,_,.nil,_=>.nil
 | _,_,.cons r t,f=>.cons (f _ _ r) (Paired.mapP t f)
def ObjOk.stay(x:ObjOk P w H h a o)(k:∀b u,(b=a\/H b=some (.own a))->h.get? b=some u->h'.get? b=some u)
  (D:∀b,H b=some (.own a)->H' b=some (.own a)) (E:∀b xs,H b=some (.tup xs)->H' b=some (.tup xs)):ObjOk P w H' h' a o:=by
 induction o with
 | lst xs=>let⟨z,l,n,r,e⟩:=x;exact⟨z,l,n,r,k _ _ (.inl rfl) e⟩
 | tup xs=>let⟨z,l,r,g,e,c⟩:=x;exact⟨z,l,r,g,k _ _ (.inl rfl) e,c⟩
 | dK kvs=>let⟨z,y,G,r,g,j,i,e,c⟩:=x;exact⟨z,y,G,r,g,j,i,k _ _ (.inl rfl) e,c⟩
 | dT kvs=>
  let⟨z,y,xs,r,g,j,i,e,c⟩:=x;exact⟨z,y,xs,Paired.mapP r λp q z=>⟨z.1,E _ _ z.2.1,z.2.2⟩,g,j,i,k _ _ (.inl rfl) e,c⟩
 | set S n=>let⟨g,j,i,t,e,c⟩:=x;exact⟨g,j,i,t,k _ _ (.inl rfl) e,c⟩
 | ins C dx fs=>
  let⟨d,z,F,e,m,⟨s,j,i,B,c⟩,r⟩:=x;exact⟨D _ d,z,F,k _ _ (.inl rfl) e,m,⟨s,j,i,k _ _ (.inr d) B,c⟩,r⟩
 | own y=>let⟨g,e⟩:=x;exact⟨g,k _ _ (.inl rfl) e⟩
 | xd fs=>let⟨m,⟨s,j,i,e,c⟩,r⟩:=x;exact⟨m,⟨s,j,i,k _ _ (.inl rfl) e,c⟩,r⟩
 | rng lo hi=>let⟨t,u,v,e⟩:=x;exact⟨t,u,v,k _ _ (.inl rfl) e⟩
 | frz g u ih=>let⟨e,q⟩:=x;exact⟨k _ _ (.inl rfl) e,ih q⟩
 | tbl ps=>
  have e:h.get? a=some {cls:=.none,data:=.fields ps}:=x;show h'.get? a=some {cls:=.none,data:=.fields ps};exact k a _ (.inl rfl) e
 | met f y=>
  have e:h.get? a=some (PySem.W.methodObj (.ref f) (.ref y)):=x;show h'.get? a=some (PySem.W.methodObj (.ref f) (.ref y));exact k a _ (.inl rfl) e
 | ext φ=>let⟨p,⟨o,e⟩,A⟩:=x;exact⟨A _ _ p λo q=>k _ _ (.inl rfl) q,⟨o,k _ _ (.inl rfl) e⟩,A⟩
def HOk.lt(x:HOk P w H h)(e:H a=some o):a<h.objs.size:=(x a o e).lt
def HOk.fresh(x:HOk P w H h)(e:h.objs.size<=a):H a=none:=by
 cases q:H a with
 | none=>rfl
 | some u=>exact uh (Nat.lt_of_lt_of_le (x.lt q) e) (Nat.lt_irrefl _)
def HOk.kept(x:HOk P w H h)(k:∀b u,h.get? b=some u->h'.get? b=some u):HOk P w H h':=λa o e=>
 (x a o e).stay (λb u _ q=>k b u q) (λ_ q=>q) λ_ _ q=>q
def HOk.laid(x:HOk P w H h)(k:∀b u,h.get? b=some u->h'.get? b=some u)(i:h.objs.size<=a)(d:ObjOk P w (upd H a o) h' a o):HOk P w (upd H a o) h':=λb u e=>by
 have g:=x.fresh i;by_cases f:b=a
 .subst f;rw[jm]at e;cases e;exact d
 .rw[je f]at e;exact(x b u e).stay (λc v _ q=>k c v q) (λc q=>by rw[je (jf q g)];exact q) λc j q=>by rw[je (jf q g)];exact q
end
def Rd(H:Hp)(a:Addr)(u:HO):Prop:=H a=some u\/∃o,H a=some (.frz o u)
def Rd.ok{H:Hp}(r:Rd H a u)(x:HOk P w H h):ObjOk P w H h a u:=by
 rcases r with r | ⟨o,r⟩
 .exact x a u r
 .let⟨_,q⟩:=x a _ r;exact q
noncomputable def Mut:Option HO->Prop
 | some (.lst _)=>True
 | some (.dK _)=>True
 | some (.dT _)=>True
 | some (.set _ _)=>True
 | some (.ins _ _ _)=>True
 | some (.ext _)=>True
 | _=>False
section
variable{P:Program}{w:World}{H:Hp}{h h':Heap}{x e:Addr}{o':HO}
def HOk.write(t:HOk P w H h)(j:Mut (H x))(o:e=x\/H e=some (.own x))(k:∀b u,b≠e->h.get? b=some u->h'.get? b=some u)(m:∃u,h'.get? e=some u)
  (n:ObjOk P w (upd H x o') h' x o'):HOk P w (upd H x o') h':=λb u q=>by
 have d:∀c y,H c=some (.own y)->c≠x:=λc y r z=>by subst z;rw[r]at j;exact j
 have f:∀c l,H c=some (.tup l)->c≠x:=λc l r z=>by subst z;rw[r]at j;exact j
 by_cases g:b=x
 .subst g;rw[jm]at q;cases q;exact n
 .rw[je g]at q;by_cases a:b=e
  .have p:H b=some (.own x):=by
    rcases o with z | z
    .exact uh (a.trans z) g
    .rw[a];exact z
   rw[q]at p;cases p;let⟨v,s⟩:=m;exact⟨v,by rw[a];exact s⟩
  .refine(t b u q).stay (λc v i r=>k c v ?_ r) (λc r=>by rw[je (d c b r)];exact r) λc l r=>by rw[je (f c l r)];exact r
   rcases i with rfl | i
   .exact a
   .rintro rfl;rcases o with z | z
    .exact d c b i z
    .rw[i]at z;cases z;exact g rfl
end
structure Un(fs ex:N2)(H H':Hp)(h h':Heap):Prop where
 keep:∀b o,h.get? b=some o->H b=none->b∉fs->b∉ex->h'.get? b=some o
 slot:∀b o,h.get? b=some o->H b=none->b∈fs->b∉ex->∃sl,h'.get? b=some {o with slots:=sl}
 free:∀b o,h.get? b=some o->H b=none->b∉ex->H' b=none
 there:∀b o,h.get? b=some o->b∉ex->∃o',h'.get? b=some o'
 tups:∀b xs,H b=some (.tup xs)->H' b=some (.tup xs)
 frzs:∀b o u,H b=some (.frz o u)->H' b=some (.frz o u)
 tbls:∀b ps,H b=some (.tbl ps)->∃more,H' b=some (.tbl (ps++more))
section
variable{fs fs' ex ex':N2}{H H1 H2:Hp}{h h1 h2 h':Heap}{a x e:Addr}{o:HO}
def Un.any(u:Un fs ex H H1 h h1)(q:h.get? b=some ob)(n:H b=none)(c:b∉ex):∃d,h1.get? b=some {ob with slots:=d}:=by
 by_cases a:b∈fs
 .exact u.slot b ob q n a c
 .exact⟨ob.slots,u.keep b ob q n a c⟩
def Un.kept(k:∀b u,h.get? b=some u->h'.get? b=some u):Un fs ex H H h h':=
 ⟨λb a q _ _ _=>k b a q,λb a q _ _ _=>⟨a.slots,k b a q⟩,λ_ _ _ n _=>n,λb a q _=>⟨a,k b a q⟩,λ_ _ q=>q,λ_ _ _ q=>q,λ_ c q=>⟨#[],by rw[q];simp⟩⟩
def Un.refl:Un fs ex H H h h:=Un.kept λ_ _ q=>q
def Un.laid(k:∀b u,h.get? b=some u->h'.get? b=some u)(d:h.objs.size<=a)(c:H a=none):Un fs ex H (upd H a o) h h' where
 keep:=λb u q _ _ _=>k b u q
 slot:=λb u q _ _ _=>⟨u.slots,k b u q⟩
 free:=λb u q n _=>by rw[je (vG (Nat.lt_of_lt_of_le (vK q) d))];exact n
 there:=λb u q _=>⟨u,k b u q⟩
 tups:=λb e q=>by rw[je (jf q c)];exact q
 frzs:=λb u e q=>by rw[je (jf q c)];exact q
 tbls:=λb f q=>⟨#[],by rw[je (jf q c),q];simp⟩
def Un.write(c:Mut (H x))(j:e=x\/H e=some (.own x))(k:∀b u,b≠e->h.get? b=some u->h'.get? b=some u)(d:∃u,h'.get? e=some u):Un fs ex H (upd H x o) h h':=by
 have i:∀b,H b=none->b≠x:=λb n z=>by subst z;rw[n]at c;exact c
 have g:∀b,H b=none->b≠e:=λb n z=>by
  subst z;rcases j with r | r
  .exact i b n r
  .rw[n]at r;cases r
 have f:∀b u,H b=some u->¬Mut (some u)->b≠x:=λb u q l z=>by subst z;rw[q]at c;exact l c
 refine⟨λb u q n _ _=>k b u (g b n) q,λb u q n _ _=>⟨u.slots,k b u (g b n) q⟩,λb u q n _=>by rw[je (i b n)];exact n,λb u q _=>?_,
  λb m q=>by rw[je (f b _ q λz=>z)];exact q,λb u m q=>by rw[je (f b _ q λz=>z)];exact q,λb p q=>⟨#[],by rw[je (f b _ q λz=>z),q];simp⟩⟩
 by_cases a:b=e
 .subst a;exact d
 .exact⟨u,k b u a q⟩
end
noncomputable def trk(h:Heap)(H:Hp):N2:=(List.range h.objs.size).filter λa=>(H a).isSome
noncomputable def hidT(h:Heap)(H:Hp):Heap:=PySem.W.hideAll h (trk h H)
def j2y(h:Heap)(H:Hp):(hidT h H).objs.size=h.objs.size:=PySem.W.hideAll_size _ _
def j3F{H:Hp}(e:h.get? b=some o)(n:H b=none):(hidT h H).get? b=some o:=
 PySem.W.hideAll_get _ e λa=>by
  have q:(H b).isSome=true:=(vQ.mp a).2;rw[n]at q;simp at q
def j5D{H:Hp}(e:(hidT h H).get? b=some o):h.get? b=some o/\H b=none:=by
 have a:h.get? b=some o:=PySem.W.of_hideAll (trk h H) e;refine⟨a,?_⟩;cases q:H b with
 | none=>rfl
 | some x=>
  have c:b∈trk h H:=vQ.mpr ⟨mem_range.mpr (vK a),by simp[q]⟩;have z:(hidT h H).get? b=none:=PySem.W.hideAll_none (trk h H) c;rw[z]at e;cases e
structure Mod(K:Frg)(mg:Str->Option Value)(base:Heap):Prop where
 kin:K.In base
 glob:base.Ns mainGlobals mg
 blt:∃mb,base.Ns builtinsNs mb/\∀x:Str,x≠"__name__"->mb x=bootBuiltins x
 nolimit:base.NoLimit
structure Cx where
 prog:Program
 w:World
 K:Frg
 mg:Str->Option Value
 base:Heap
 A:Around
 N:N3
 s₀:Shared
 H₀:Hp
 env:Env
 outer:List Env
 stack:List Env
 ex:N2
 fn:Str->Bool
 calm:Bool
 pn:List (Addr×Obj)
 xe:Value->Shared->Prop
noncomputable def frs(l:List Env):N2:=l.filterMap (·.frame)
noncomputable abbrev Cx.fs(X:Cx):N2:=frs X.outer
def Vis(sc:Scope)(x:Str):Prop:=sc.names.lookup x=some .local\/sc.names.lookup x=some .cell\/sc.names.lookup x=some .free
def Loc(sc:Scope)(x:Str):Prop:=sc.names.lookup x=some .local\/sc.names.lookup x=some .cell
def Look(env:Env)(h:Heap)(m:Str->Option Value)(x:Str)(u:Value):Prop:=
 (env.kindOf x=some .local/\m x=some u)\/((env.kindOf x=some .cell\/env.kindOf x=some .free)/\∃c,env.cells.lookup x=some c/\h.IsCell c (some u))
structure Cx.Ok(X:Cx):Prop where
 mod:Mod X.K X.mg X.base
 kind:X.env.scope.kind = .function
 glob:X.env.globals=mainGlobals
 blt:X.env.builtins=builtinsNs
 above:X.s₀.heap.objs.size<=X.env.locals
 inj:∀x y c,X.env.cells.lookup x=some c->X.env.cells.lookup y=some c->x=y
 has:∀x,(X.env.kindOf x=some .cell\/X.env.kindOf x=some .free)->∃c,X.env.cells.lookup x=some c
 cab:∀x c,X.fn x=true->X.env.cells.lookup x=some c->X.s₀.heap.objs.size<=c
 hd:X.calm=true->X.A.handled=none
 frames:X.A.frames=some X.stack
 stk:X.stack=X.outer\/(X.stack=X.env::X.outer/\X.env.frame=some X.env.locals)
 exf:∀b∈X.ex,b≠X.env.locals/\∀x c,X.env.cells.lookup x=some c->c≠b
 bs:∀b o,X.base.get? b=some o->X.s₀.heap.get? b=some o/\X.H₀ b=none
 bsz:X.base.objs.size<=X.s₀.heap.objs.size
 noex:∀b o,X.base.get? b=some o->b∉X.ex
 exfs:∀b∈X.ex,b∉X.fs
 funs:X.s₀.heap.FunFrames X.base X.outer
 frf:∀b∈X.fs,X.H₀ b=none
structure Inv(X:Cx)(pins:List (Addr×Obj))(σ:List N7)(H:Hp)(s:Shared):Prop where
 ok:X.Ok
 os:s.os=X.s₀.os
 bare:AllBare s.gens
 base:Un X.fs X.ex X.H₀ H X.s₀.heap s.heap
 loc:∃m,s.heap.Ns X.env.locals m/\∀(i:Nat) (x:Str) (v:V),X.N[i]?=some x->σ[i]?=some (some v)->Vis X.env.scope x->∃u,RelV v u/\Look X.env s.heap m x u
 cell:∀x c,X.env.cells.lookup x=some c->∃v,s.heap.IsCell c v
 free:H X.env.locals=none
 freeC:∀x c,X.env.cells.lookup x=some c->H c=none
 pin:∀p∈X.pn++pins,s.heap.get? p.1=some p.2/\H p.1=none/\p.1≠X.env.locals/\p.1∉X.fs/\∀v,p.2.data≠.cell v
 hok:HOk X.prog X.w H s.heap
 len:σ.length=X.N.length
section
variable{X:Cx}{pins:List (Addr×Obj)}{σ:List N7}{H H':Hp}{s:Shared}{h':Heap}
def Cx.Ok.nofr(c:X.Ok)(e:X.base.get? b=some o):b∉X.fs:=λa=>by
 have:=(c.funs.mem a).1;rw[e]at this;cases this
def Inv.bs(I:Inv X pins σ H s):∀b o,X.base.get? b=some o->s.heap.get? b=some o/\H b=none:=λb o e=>
 ⟨I.base.keep b o (I.ok.bs b o e).1 (I.ok.bs b o e).2 (I.ok.nofr e) (I.ok.noex b o e),I.base.free b o (I.ok.bs b o e).1 (I.ok.bs b o e).2 (I.ok.noex b o e)⟩
def Inv.bk(I:Inv X pins σ H s):∀b o,X.base.get? b=some o->s.heap.get? b=some o:=λb o e=>(I.bs b o e).1
def Inv.mod(I:Inv X pins σ H s):Mod X.K X.mg X.base:=I.ok.mod
def Inv.kIn(I:Inv X pins σ H s):X.K.In s.heap:=I.ok.mod.kin.keeps I.bk
def Inv.lt(I:Inv X pins σ H s):X.env.locals<s.heap.objs.size:=let ⟨_,hn,_⟩:=I.loc;hn.lt
def Inv.sz(I:Inv X pins σ H s):X.s₀.heap.objs.size<=s.heap.objs.size:=vX I.ok.above (vZ I.lt)
def Inv.nofs(I:Inv X pins σ H s)(h:s.heap.objs.size<=a):a∉X.fs:=λb=>by
 let⟨_,o,c,_⟩:=I.ok.funs.mem b;exact uh (Nat.lt_of_lt_of_le (vK c) (vX I.sz h)) (Nat.lt_irrefl _)
def Inv.cne(I:Inv X pins σ H s):∀x c,X.env.cells.lookup x=some c->c≠X.env.locals:=λx c e z=>by
 let⟨v,o,f,d⟩:=I.cell x c e;let⟨m,⟨i,h,g,b,a,_⟩,_⟩:=I.loc;rw[z,b]at f;cases f;rw[a]at d;cases d
def Inv.funs(I:Inv X pins σ H s):s.heap.FunFrames X.base X.outer:=by
 have a:∀(l:List Env),(∀b∈frs l,b∈X.fs)->X.s₀.heap.FunFrames X.base l->s.heap.FunFrames X.base l:=by
  intro l
  induction l with
  | nil=>intro _ _;trivial
  | cons env r ih=>
   intro g j;let⟨i,⟨L,o,f,k,m,h⟩,n⟩:=j;have c:L∈X.fs:=g L (by unfold frs;rw[filterMap_cons,f];exact vq);let⟨p,e⟩:=I.base.slot L o m (I.ok.frf L c) c λz=>I.ok.exfs L z c
   exact⟨i,⟨L,_,f,k,e,h⟩,ih (λb d=>g b (by unfold frs;rw[filterMap_cons,f];exact vp _ d)) n⟩
 exact a X.outer (λ_ d=>d) I.ok.funs
def Inv.stack(I:Inv X pins σ H s):s.heap.FunFrames X.base X.stack:=by
 rcases I.ok.stk with e | ⟨e,a⟩
 .rw[e];exact I.funs
 .rw[e];let⟨m,b,_⟩:=I.loc;refine .cons (by rw[I.ok.kind];decide) a b ?_ I.funs;exact Heap.get?_none_of_le (vX I.ok.bsz I.ok.above)
def Inv.stkSub(I:Inv X pins σ H s):∀b∈frs X.stack,b∈X.env.locals::X.fs:=λb a=>by
 rcases I.ok.stk with e | ⟨e,c⟩
 .rw[e]at a;exact vp _ a
 .rw[e]at a;unfold frs at a;rw[filterMap_cons,c]at a;exact a
def Inv.stkFree(I:Inv X pins σ H s):∀b∈frs X.stack,H b=none:=λb a=>by
 rcases mem_cons.mp (I.stkSub b a)with e | a
 .rw[e];exact I.free
 .let⟨_,o,c,_⟩:=I.ok.funs.mem a;exact I.base.free b o c (I.ok.frf b a) λz=>I.ok.exfs b z a
def Inv.step{g':Array GenState}{t':Nat}{d':Drawn}{ch:N2}(I:Inv X pins σ H s)
  (h:∀b∈ch,(b∈X.ex\/X.s₀.heap.objs.size<=b)/\b≠X.env.locals/\(∀x c,X.env.cells.lookup x=some c->c≠b)/\∀p∈X.pn++pins,p.1≠b)
  (j:∀b o,b≠X.env.locals->b∉X.fs->b∉ch->s.heap.get? b=some o->H b=none->h'.get? b=some o)
  (A:∀b o,b≠X.env.locals->b∈X.fs->b∉ch->s.heap.get? b=some o->H b=none->∃N,h'.get? b=some {o with slots:=N}) (f:∀b o,b∉ch->s.heap.get? b=some o->H b=none->H' b=none)
  (C:∀b o,b∉ch->s.heap.get? b=some o->∃o',h'.get? b=some o')
  (K:∀b xs,H b=some (.tup xs)->H' b=some (.tup xs)) (F:∀b o u,H b=some (.frz o u)->H' b=some (.frz o u)) (J:∀b ps,H b=some (.tbl ps)->∃more,H' b=some (.tbl (ps++more)))
  (ns:∀m,s.heap.Ns X.env.locals m->h'.Ns X.env.locals m) (M:HOk X.prog X.w H' h') (U:AllBare g') :
  Inv X pins σ H' {s with heap:=h',gens:=g',drawn:=d',toks:=t'}:=by
 have G:∀b o,X.s₀.heap.get? b=some o->b≠X.env.locals:=λb o e=>vG (Nat.lt_of_lt_of_le (vK e) I.ok.above)
 have y:∀b o,X.s₀.heap.get? b=some o->b∉X.ex->b∉ch:=λb o e a B=>by
  rcases(h b B).1 with z | z
  .exact a z
  .exact uh (Nat.lt_of_lt_of_le (vK e) z) (Nat.lt_irrefl _)
 have g:∀x c,X.env.cells.lookup x=some c->∀v,s.heap.IsCell c v->h'.IsCell c v:=λx c e v ⟨o,D,L⟩=>by
  have t:c∉ch:=λz=>(h c z).2.2.1 x c e rfl
  by_cases P:c∈X.fs
  .let⟨N,q⟩:=A c o (I.cne x c e) P t D (I.freeC x c e);exact⟨_,q,L⟩
  .exact⟨o,j c o (I.cne x c e) P t D (I.freeC x c e),L⟩
 refine⟨I.ok,I.os,U,⟨λb o e n B a=>?_,λb o e n B a=>?_,λb o e n a=>?_,λb o e a=>?_,λb xs e=>K b xs (I.base.tups b xs e),λb o xs e=>F b o xs (I.base.frzs b o xs e),λb ps e=>?_⟩,?_,λx c e=>?_,?_,λx c e=>?_,λp Q=>?_,M,I.len⟩
 .exact j b o (G b o e) B (y b o e a) (I.base.keep b o e n B a) (I.base.free b o e n a)
 .let⟨N,w⟩:=I.base.slot b o e n B a;let⟨O,E⟩:=A b _ (G b o e) B (y b o e a) w (I.base.free b o e n a);exact⟨O,E⟩
 .let⟨o',w⟩:=I.base.there b o e a;exact f b o' (y b o e a) w (I.base.free b o e n a)
 .let⟨o',w⟩:=I.base.there b o e a;exact C b o' (y b o e a) w
 .let⟨Z,w⟩:=I.base.tbls b ps e;let⟨m2,E⟩:=J b _ w;exact⟨Z++m2,by rw[E,Array.append_assoc]⟩
 .let⟨m,Y,W⟩:=I.loc;refine⟨m,ns m Y,λi x v w E T=>?_⟩;let⟨u,r,l⟩:=W i x v w E T;refine⟨u,r,?_⟩;rcases l with l | ⟨k,c,e,z⟩
  .exact .inl l
  .exact .inr ⟨k,c,e,g x c e _ z⟩
 .let⟨v,z⟩:=I.cell x c e;exact⟨v,g x c e v z⟩
 .let⟨m,⟨o,_,_,D,_⟩,_⟩:=I.loc;exact f _ o (λz=>(h _ z).2.1 rfl) D I.free
 .let⟨v,o,D,L⟩:=I.cell x c e;exact f c o (λz=>(h c z).2.2.1 x c e rfl) D (I.freeC x c e)
 .let⟨e,n,R,S,d⟩:=I.pin p Q;have t:p.1∉ch:=λz=>(h p.1 z).2.2.2 p Q rfl
  exact⟨j p.1 p.2 R S t e n,f p.1 p.2 t e n,R,S,d⟩
def Inv.un{t':Nat}(I:Inv X pins σ H s)(u:Un X.fs [] H H' s.heap h')(g:HOk X.prog X.w H' h'):Inv X pins σ H' {s with heap:=h',toks:=t'}:=by
 let⟨m,⟨o,p,l,h,r⟩,_⟩:=id I.loc;let⟨v,i⟩:=u.any h I.free (by simp);exact I.step (g':=s.gens) (d':=s.drawn) (ch:=[]) (λ_ z=>nomatch z) (λb o _ f _ e n=>u.keep b o e n f (by simp)) (λb o _ f _ e n=>u.slot b o e n f (by simp)) (λb o _ e n=>u.free b o e n (by simp)) (λb o _ e=>u.there b o e (by simp)) u.tups u.frzs u.tbls (λq j=>by
  let⟨t,d,c,a,k⟩:=j;rw[h]at a;cases a;exact⟨_,d,c,i,k⟩) g I.bare
def Inv.call{g':Array GenState}{t':Nat}{d':Drawn}{ch:N2}(I:Inv X pins σ H s)(u:Un (frs X.stack) ch H H' s.heap h')(j:HOk X.prog X.w H' h')(q:AllBare g')
  (d:∀b∈ch,(b∈X.ex\/X.s₀.heap.objs.size<=b)/\b≠X.env.locals/\(∀x c,X.env.cells.lookup x=some c->c≠b)/\∀p∈X.pn++pins,p.1≠b) :
  Inv X pins σ H' {s with heap:=h',gens:=g',drawn:=d',toks:=t'}:=by
 let⟨m,⟨o,y,w,k,r⟩,_⟩:=id I.loc;let⟨C,i⟩:=u.any k I.free λz=>(d _ z).2.1 rfl
 exact I.step (ch:=ch) d (λb o i l a e n=>u.keep b o e n (λz=>(mem_cons.mp (I.stkSub b z)).elim i l) a) (λb o _ _ a e n=>u.any e n a) (λb o a e n=>u.free b o e n a) (λb o a e=>u.there b o e a) u.tups u.frzs u.tbls (λA t=>by
  let⟨B,h,g,f,v⟩:=t;rw[k]at f;cases f;exact⟨_,h,g,i,v⟩) j q
def Inv.turned{t':Nat}{it:Addr}(I:Inv X pins σ H s)(k:∀b o,b≠it->s.heap.get? b=some o->h'.get? b=some o)(y:H it=none)(f:it≠X.env.locals)
  (i:it∈X.ex\/X.s₀.heap.objs.size<=it) (j:∀x c,X.env.cells.lookup x=some c->c≠it) (l:∀p∈X.pn++pins,p.1≠it):Inv X pins σ H {s with heap:=h',toks:=t'}:=by
 have d:∀b u,H b=some u->b≠it:=λb u e z=>by rw[z,y]at e;cases e
 refine I.step (g':=s.gens) (d':=s.drawn) (ch:=[it]) (λb t=>?_) (λb o _ _ a e _=>k b o (λz=>a (by simp[z])) e) (λb o _ _ a e _=>⟨o.slots,k b o (λz=>a (by simp[z])) e⟩) (λ_ _ _ _ n=>n)
  (λb o a e=>⟨o,k b o (λz=>a (by simp[z])) e⟩) (λ_ _ e=>e) (λ_ _ _ e=>e) (λb B e=>⟨#[],by rw[e];simp⟩) (λm w=>?_) (λb u e=>?_) I.bare
 .have e:b=it:=by simpa using t
  subst e;exact⟨i,f,j,l⟩
 .let⟨o,h,g,A,r⟩:=w;exact⟨o,h,g,k _ o (Ne.symm f) A,r⟩
 .refine(I.hok b u e).stay (λc v a q=>k c v ?_ q) (λ_ q=>q) λ_ _ q=>q
  rcases a with z | z
  .rw[z];exact d b u e
  .exact d c _ z
def Inv.tok(I:Inv X pins σ H s)(t:Nat):Inv X pins σ H {s with toks:=t}:=I.un (h':=s.heap) (t':=t) Un.refl I.hok
def Inv.kept(I:Inv X pins σ H s)(k:∀b u,s.heap.get? b=some u->h'.get? b=some u):Inv X pins σ H {s with heap:=h',toks:=t'}:=I.un (Un.kept k) (I.hok.kept k)
def Inv.laid(I:Inv X pins σ H s)(k:∀b u,s.heap.get? b=some u->h'.get? b=some u)(c:s.heap.objs.size<=a)(d:ObjOk X.prog X.w (upd H a o) h' a o) :
  Inv X pins σ (upd H a o) {s with heap:=h',toks:=t'}:=I.un (Un.laid k c (I.hok.fresh c)) (I.hok.laid k c d)
def Inv.write(I:Inv X pins σ H s)(f:Mut (H x))(d:e=x\/H e=some (.own x))(k:∀b u,b≠e->s.heap.get? b=some u->h'.get? b=some u)(a:∃u,h'.get? e=some u)
  (c:ObjOk X.prog X.w (upd H x o) h' x o):Inv X pins σ (upd H x o) {s with heap:=h',toks:=t'}:=I.un (Un.write f d k a) (I.hok.write f d k a c)
def Inv.weak(I:Inv X pins σ H s)(d:Z'.length=σ.length)(w:∀(i:Nat) v,Z'[i]?=some (some v)->σ[i]?=some (some v)):Inv X pins Z' H s:=
 ⟨I.ok,I.os,I.bare,I.base,let ⟨m,hn,hl'⟩:=I.loc;⟨m,hn,λi x v a b c=>hl' i x v a (w i v b) c⟩,I.cell,I.free,I.freeC,I.pin,I.hok,d.trans I.len⟩
def Inv.pins_of(I:Inv X pins σ H s)(h:∀p∈pins',s.heap.get? p.1=some p.2/\H p.1=none/\p.1≠X.env.locals/\p.1∉X.fs/\∀v,p.2.data≠.cell v):Inv X pins' σ H s:=
 ⟨I.ok,I.os,I.bare,I.base,I.loc,I.cell,I.free,I.freeC,λp a=>(vg.mp a).elim (λz=>I.pin p (mem_append_left _ z)) (h p),I.hok,I.len⟩
def Xs{N:N3}(e:N.Nodup){i j:Nat}{x:Str}(a:N[i]?=some x)(b:N[j]?=some x):i=j:=by
 let⟨f,c⟩:=vx.mp a;let⟨g,d⟩:=vx.mp b;exact(List.getElem_inj e).mp (c.trans d.symm)
def We{M:Model}{A:Around}{E:Value->Shared->Prop}{i:Nat}{x:Str}{v:V}{u:Value}{Q:Unit->Shared->Prop}(I:Inv X pins σ H s)(hN:X.N.Nodup)(hi:X.N[i]?=some x)(w:Loc X.env.scope x)(r:RelV v u)
  (h:∀s',Inv X pins (σ.set i (some v)) H s'->(∃a,Heap.SameBut a s.heap s'.heap/\(a=X.env.locals\/X.env.cells.lookup x=some a))->Q () s') (hf:X.fn x=true\/X.env.scope.names.lookup x=some .local:=by first | exact .inl rfl | exact .inr rfl | assumption):wpAny M A (storeName X.env x u) Q E s:=by
 let⟨m,hn,hl⟩:=id I.loc;have R:(X.env.scope.kind == .class||(X.env.scope.kind == .module&&X.env.locals != X.env.globals))=false:=by rw[I.ok.kind];rfl
 have D:i<σ.length:=by rw[I.len];exact(vx.mp hi).1
 have G:=I.cne;have l:∀{a:Addr} {N:Heap},(∃o,s.heap.get? a=some o/\H a=none)->Heap.SameBut a s.heap N->HOk X.prog X.w H N:=λ{a N} ha f b ob e=>by
  let⟨_,_,B⟩:=ha;refine(I.hok b ob e).stay (λc Y t q=>(f.2 c ?_).trans q) (λ_ q=>q) λ_ _ q=>q
  rintro rfl;rcases t with rfl | t
  .rw[B]at e;cases e
  .rw[B]at t;cases t
 rcases w with F | F
 .refine wpAny_storeName_local F hn (λN a0 f=>?_) R;let⟨oL,_,_,a1,_⟩:=id hn;refine h _ ⟨I.ok,I.os,I.bare,⟨λb o e n J w=>?_,λb o e n J w=>?_,I.base.free,λb o e w=>?_,I.base.tups,I.base.frzs,I.base.tbls⟩,⟨_,a0,λj y v' g C Z=>?_⟩,λy c e=>?_,I.free,I.freeC,λp hp=>?_,l ⟨oL,a1,I.free⟩ f,by simpa using I.len⟩ ⟨_,f,.inl rfl⟩
  .exact(f.2 b (vG (Nat.lt_of_lt_of_le (vK e) I.ok.above))).trans (I.base.keep b o e n J w)
  .let⟨sl,g⟩:=I.base.slot b o e n J w;exact⟨sl,(f.2 b (vG (Nat.lt_of_lt_of_le (vK e) I.ok.above))).trans g⟩
  .let⟨o',g⟩:=I.base.there b o e w;exact⟨o',(f.2 b (vG (Nat.lt_of_lt_of_le (vK e) I.ok.above))).trans g⟩
  .by_cases L:j=i
   .subst L;rw[hi]at g;cases g;rw[List.getElem?_set_self D]at C;cases C;exact⟨u,r,.inl ⟨F,by simp⟩⟩
   .rw[List.getElem?_set_ne (Ne.symm L)]at C;let⟨u',r',q⟩:=hl j y v' g C Z;refine⟨u',r',?_⟩;rcases q with⟨k,e⟩ | ⟨k,c,e,z⟩
    .refine .inl ⟨k,?_⟩;have:y≠x:=λe=>L (Xs hN g (e▸hi))
     simp[this,e]
    .exact .inr ⟨k,c,e,z.sameBut f (G y c e)⟩
  .let⟨Y,z⟩:=I.cell y c e;exact⟨Y,z.sameBut f (G y c e)⟩
  .let⟨e,n,W,nf,d⟩:=I.pin p hp;exact⟨(f.2 p.1 W).trans e,n,W,nf,d⟩
 .have K:X.fn x=true:=by
   rcases hf with z | z
   .exact z
   .rw[z]at F;cases F
  let⟨c,t⟩:=I.ok.has x (.inl F);let⟨Y,z⟩:=I.cell x c t;refine wpAny_storeName_cell I.ok.kind F t z (λN O f=>?_);let⟨oc,S,T⟩:=id z;refine h {s with heap:=N} ⟨I.ok,I.os,I.bare,⟨λb o e n J w=>?_,λb o e n J w=>?_,I.base.free,λb o e w=>?_,I.base.tups,I.base.frzs,I.base.tbls⟩,⟨m,hn.sameBut f (Ne.symm (G x c t)),λj y v' g C Z=>?_⟩,λy U e=>?_,I.free,I.freeC,λp hp=>?_,l ⟨oc,S,I.freeC x c t⟩ f,by simpa using I.len⟩ ⟨c,f,.inr t⟩
  .exact(f.2 b (vG (Nat.lt_of_lt_of_le (vK e) (I.ok.cab x c K t)))).trans (I.base.keep b o e n J w)
  .let⟨sl,g⟩:=I.base.slot b o e n J w;exact⟨sl,(f.2 b (vG (Nat.lt_of_lt_of_le (vK e) (I.ok.cab x c K t)))).trans g⟩
  .let⟨o',g⟩:=I.base.there b o e w;exact⟨o',(f.2 b (vG (Nat.lt_of_lt_of_le (vK e) (I.ok.cab x c K t)))).trans g⟩
  .by_cases L:j=i
   .subst L;rw[hi]at g;cases g;rw[List.getElem?_set_self D]at C;cases C;exact⟨u,r,.inr ⟨.inl F,c,t,O⟩⟩
   .rw[List.getElem?_set_ne (Ne.symm L)]at C;let⟨u',r',q⟩:=hl j y v' g C Z;refine⟨u',r',?_⟩;rcases q with q | ⟨k,U,e,z'⟩
    .exact .inl q
    .refine .inr ⟨k,U,e,z'.sameBut f ?_⟩;rintro rfl;exact L (Xs hN g (I.ok.inj _ _ _ e t▸hi))
  .by_cases P:U=c
   .subst P;exact⟨_,O⟩
   .let⟨w2,z2⟩:=I.cell y U e;exact⟨w2,z2.sameBut f P⟩
  .let⟨e,n,W,nf,d⟩:=I.pin p hp;refine⟨(f.2 p.1 ?_).trans e,n,W,nf,d⟩;intro q;rw[q,S]at e;have q':oc=p.2:=vN e;exact d Y (by rw[<-q'];exact T)
def Zw{E:Value->Shared->Prop}{Q:Unit->Shared->Prop}(I:Inv X pins σ H s)(b:X.N.Nodup)(hi:X.N[i]?=some x)(d:Loc X.env.scope x)(r:RelV v u)
  (h:∀s',Inv X pins (σ.set i (some v)) H s'->Q () s') (c:X.fn x=true\/X.env.scope.names.lookup x=some .local:=by first | exact .inl rfl | exact .inr rfl | assumption):wpAny M A (storeName X.env x u) Q E s:=
 We I b hi d r (λs' a _=>h s' a) c
def Inv.call'(I:Inv X pins σ H s)(g:s'.os=s.os)(u:Un (frs X.stack) ch H H' s.heap s'.heap)(d:HOk X.prog X.w H' s'.heap)(f:AllBare s'.gens)
  (a:∀b∈ch,(b∈X.ex\/X.s₀.heap.objs.size<=b)/\b≠X.env.locals/\(∀x c,X.env.cells.lookup x=some c->c≠b)/\∀p∈X.pn++pins,p.1≠b):Inv X pins σ H' s':=by
 let⟨i,g',d',t',h⟩:=s';have e:h=s.os:=g;subst e;exact I.call (g':=g') (t':=t') (d':=d') u d f a
end
noncomputable abbrev XK:=Value->Option Addr->Hp->Prop
noncomputable abbrev St:=List N7
noncomputable abbrev VK:=V->Hp->Prop
noncomputable abbrev TE:=St->Hp->VK->Prop
noncomputable abbrev TT:=St->Hp->(Bool->Hp->Prop)->Prop
noncomputable abbrev TA:=St->Hp->(N6->Hp->Prop)->Prop
structure Ends where
 nx:St->Hp->Prop
 rt:VK
 bk:St->Hp->Prop:=λ_ _=>False
 ct:St->Hp->Prop:=λ_ _=>False
noncomputable abbrev TS:=Ends->St->Hp->Prop
def EP(X:Cx)(pins:List (Addr×Obj))(σ:St)(Q:VK)(u:Value)(s':Shared):Prop:=∃v H',Inv X pins σ H' s'/\RelV v u/\Q v H'
def TP(X:Cx)(pins:List (Addr×Obj))(σ:St)(Q:Bool->Hp->Prop)(b:Bool)(s':Shared):Prop:=∃H',Inv X pins σ H' s'/\Q b H'
def AP(X:Cx)(pins:List (Addr×Obj))(σ:St)(Q:N6->Hp->Prop)(us:N4)(s':Shared):Prop:=∃vs H',Inv X pins σ H' s'/\Vals vs us/\Q vs H'
def SP(X:Cx)(pins:List (Addr×Obj))(D:Ends)(f:Flow)(s':Shared):Prop:=
 match f with
 | .next=>∃Z' H',Inv X pins Z' H' s'/\D.nx Z' H'
 | .brk=>∃Z' H',Inv X pins Z' H' s'/\D.bk Z' H'
 | .cont=>∃Z' H',Inv X pins Z' H' s'/\D.ct Z' H'
 | .ret u=>∃v Z' H',Inv X pins Z' H' s'/\RelV v u/\D.rt v H'
def PE(X:Cx)(e:Expr)(t:TE):Prop:=
 ∀(pins:List (Addr×Obj)) (s:Shared) (σ:St) (H:Hp) (Q:VK),Inv X pins σ H s->t σ H Q->wpAny (model X.prog X.w) X.A (eval e X.env) (EP X pins σ Q) X.xe s
def PT(X:Cx)(e:Expr)(t:TT):Prop:=
 ∀(pins:List (Addr×Obj)) (s:Shared) (σ:St) (H:Hp) (Q:Bool->Hp->Prop),Inv X pins σ H s->t σ H Q->wpAny (model X.prog X.w) X.A (isTrue e X.env (eval e X.env)) (TP X pins σ Q) X.xe s
def PW(X:Cx)(e:Expr)(t:TT):Prop:=
 ∀(whole:Sem Value) (pins:List (Addr×Obj)) (s:Shared) (σ:St) (H:Hp) (Q:Bool->Hp->Prop),Inv X pins σ H s->t σ H Q->wpAny (model X.prog X.w) X.A (isTrue e X.env whole) (TP X pins σ Q) X.xe s
def PW.pt(h:PW X e t):PT X e t:=h _
def PA(X:Cx)(es:List Expr)(t:TA):Prop:=
 ∀(pos:Pos) (pins:List (Addr×Obj)) (s:Shared) (σ:St) (H:Hp) (Q:N6->Hp->Prop),Inv X pins σ H s->t σ H Q->wpAny (model X.prog X.w) X.A (spliced (backTo pos (starEach es X.env))) (AP X pins σ Q) X.xe s
def PS(X:Cx)(st:Stmt)(t:TS):Prop:=
 ∀(pins:List (Addr×Obj)) (s:Shared) (σ:St) (H:Hp) (D:Ends),Inv X pins σ H s->t D σ H->wpAny (model X.prog X.w) X.A (exec st X.env) (SP X pins D) X.xe s
def PSs(X:Cx)(st:List Stmt)(t:TS):Prop:=
 ∀(pins:List (Addr×Obj)) (s:Shared) (σ:St) (H:Hp) (D:Ends),Inv X pins σ H s->t D σ H->wpAny (model X.prog X.w) X.A (execs st X.env) (SP X pins D) X.xe s
def thn{c:Type}{t:Sem c}{Q b:c->Shared->Prop}{M:Model}{A:Around}{E:Value->Shared->Prop}{s:Shared}(h:wpAny M A t Q E s)(d:∀a s,Q a s->b a s):wpAny M A t b E s:=wpAny_mono h d λ_ _ x=>x
section
variable{X:Cx}
def tVar(i:Nat):TE:=λσ H Q=>∃v,σ[i]?=some (some v)/\Q v H
def tC(v:V):TE:=λ_ H Q=>Q v H
def j6N{pos:Pos}(n:X.N[i]?=some x)(t:Vis X.env.scope x)(j:(x==("__debug__" : Str))=false:=by decide)(g:(x==("__classdict__" : Str))=false:=by decide):PE X (.Name x pos) (tVar i):=by
 intro f s w H Q I h;let⟨v,e,h⟩:=h;let⟨m,q,o⟩:=I.loc;let⟨u,r,l⟩:=o i x v n e t;have b:EP X f w Q u s:=⟨v,H,I,r,h⟩
 rcases l with⟨d,p⟩ | ⟨d,c,k,a⟩
 .exact wpAny_Name (wpAny_loadName_local I.ok.kind d q p b) j
 .rcases d with d | d
  .exact wpAny_Name (wpAny_loadName_cell I.ok.kind d k a b) j
  .exact wpAny_Name (wpAny_loadName_free I.ok.kind d k a b g) j
def jd{i j pos}:PE X (.Constant (.int i) j pos) (tC (.int i)):=λ_ _ _ H _ I h=>wpAny_Constant_int ⟨.int i,H,I.tok _,⟨_,rfl⟩,h⟩
def j1K{b j pos}:PE X (.Constant (.bool b) j pos) (tC (.bl b)):=λ_ _ _ H _ I h=>Constant_bool ⟨.bl b,H,I,rfl,h⟩
def j0{j pos}:PE X (.Constant .none j pos) (tC .non):=λ_ _ _ H _ I h=>Constant_none ⟨.non,H,I,rfl,h⟩
def jv{x j pos}:PE X (.Constant (.str x) j pos) (tC (.str x)):=λ_ _ _ H _ I h=>Calls.Constant_str ⟨.str x,H,I.tok _,⟨_,rfl⟩,h⟩
def Gl(X:Cx)(x:Str):Prop:=X.env.kindOf x=some .globalImplicit
def kG{E:Value->Shared->Prop}{d:St}{H:Hp}{pos:Pos}{Q:Value->Shared->Prop}(I:Inv X pins d H s)(b:Gl X x)(c:X.mg x=some u)(h:Q u s)
  (a:(x==("__debug__" : Str))=false:=by decide):wpAny (model X.prog X.w) X.A (eval (.Name x pos) X.env) Q E s:=
 Calls.Name_function_global I.ok.kind b (Calls.loadGlobal_global (by rw[I.ok.glob];exact I.mod.glob.keeps I.bk) c h) a
def qb{E:Value->Shared->Prop}{i:St}{H:Hp}{pos:Pos}{Q:Value->Shared->Prop}(I:Inv X pins i H s)(d:Gl X x)(e:X.mg x=none)(g:bootBuiltins x=some u)(h:Q u s)
  (f:x≠"__name__":=by decide) (c:(x==("__debug__" : Str))=false:=by decide):wpAny (model X.prog X.w) X.A (eval (.Name x pos) X.env) Q E s:=by
 let⟨j,a,b⟩:=I.mod.blt;exact Calls.Name_function_global I.ok.kind d (Calls.loadGlobal_builtin (by rw[I.ok.glob];exact I.mod.glob.keeps I.bk) e (by rw[I.ok.blt];exact a.keeps I.bk) ((b x f).trans g) h) c
def JR{pos:Pos}(b:Gl X x)(c:X.mg x=some u)(r:RelV v u)(a:(x==("__debug__" : Str))=false:=by decide):PE X (.Name x pos) (tC v):=
 λ_ _ _ H _ I h=>kG I b c ⟨v,H,I,r,h⟩ a
variable{a b:Expr}{ta tb:TE}{pos:Pos}
def PC(X:Cx)(op:CmpOp)(a b:Expr)(t:TE):Prop:=
 ∀(pins:List (Addr×Obj)) (s:Shared) (σ:St) (H:Hp) (Q:VK),Inv X pins σ H s->t σ H Q->
  wpAny (model X.prog X.w) X.A (eval a X.env) (λv s₁=>wpAny (model X.prog X.w) X.A (eval b X.env) (λu s₂=>wpAny (model X.prog X.w) X.A (compareOp op v u) (EP X pins σ Q) X.xe s₂) X.xe s₁) X.xe s
def tB(t:TE):TT:=λσ H Q=>t σ H λx H1=>∃c,x = .bl c/\Q c H1
def j6K{op:CmpOp}{t:TE}(h:PC X op a b t)(d:behindInMarks op b=false:=by first | exact nobehind _ nofun nofun | rfl):PE X (.Compare a [op] [b] pos) t:=λc s f H Q I e=>wpAny_Compare1 (h c s f H Q I e) d
def j0S{op:CmpOp}{t:TE}(h:PC X op a b t)(f:behindInMarks op b=false:=by first | exact nobehind _ nofun nofun | rfl):PT X (.Compare a [op] [b] pos) (tB t):=by
 intro e s n H Q I k;refine wpAny_isTrue_Compare1 (thn (h e s n H _ I k) λv o f=>thn f λu p j=>thn j λc r ⟨x,g,i,m,l⟩=>?_) f;let⟨d,rfl,q⟩:=l;cases m;exact wpAny_truthy_bool ⟨g,i,q⟩
def Q0{e:Expr}{t:TE}(h:PE X e t)(g:∀a,isTrue e X.env a=(do let v <-a;standAt e.pos;holding [v] (truthy v)):=by intro _;rfl):PT X e (tB t):=by
 intro b s l H Q I i;refine isTrue_plain (thn (h b s l H _ I i) λv m z_=>?_) (g _);obtain⟨x,c,f,k,j⟩:=z_;let⟨d,rfl,q⟩:=j;cases k;exact wpAny_truthy_bool ⟨c,f,q⟩
variable{tA tB':TT}{rest:List Expr}
def tAnd(t u:TT):TT:=λσ H Q=>t σ H λc H1=>if c=true then u σ H1 Q else Q false H1
def tOr(t u:TT):TT:=λσ H Q=>t σ H λc H1=>if c=true then Q true H1 else u σ H1 Q
def tNot(t:TT):TT:=λσ H Q=>t σ H λc H1=>Q (!c) H1
def ZP(d:PT X a tA):PW X (.BoolOp .And [a] pos) tA:=by
 intro i b s f H Q I h;refine isTrue_and (thn (d b s f H Q I h) λc g e=>?_);cases c with
 | true=>exact isTrue_and_nil e
 | false=>exact e
def Zn(d:PT X a tA):PW X (.BoolOp .Or [a] pos) tA:=by
 intro i b s f H Q I h;refine isTrue_or (thn (d b s f H Q I h) λc g e=>?_);cases c with
 | false=>exact isTrue_or_nil e
 | true=>exact e
def yo(j:PT X a tA)(k:PW X (.BoolOp .And (b::rest) pos) tB'):PW X (.BoolOp .And (a::b::rest) pos) (tAnd tA tB'):=by
 intro m d s i H Q I h;refine isTrue_and (thn (j d s i H _ I h) λc l z_=>?_);obtain⟨e,f,g⟩:=z_;cases c with
 | true=>exact k m d l i e Q f g
 | false=>exact⟨e,f,g⟩
def Q9(j:PT X a tA)(k:PW X (.BoolOp .Or (b::rest) pos) tB'):PW X (.BoolOp .Or (a::b::rest) pos) (tOr tA tB'):=by
 intro m d s i H Q I h;refine isTrue_or (thn (j d s i H _ I h) λc l z_=>?_);obtain⟨e,f,g⟩:=z_;cases c with
 | true=>exact⟨e,f,g⟩
 | false=>exact k m d l i e Q f g
def QA(e:PT X a tA):PT X (.UnaryOp .Not a pos) (tNot tA):=by
 intro b s f H Q I h;exact isTrue_not (e b s f H (λc d=>Q (!c) d) I h)
def tAndV(ta tb:TE):TE:=λσ H Q=>ta σ H λx H1=>∃c,x = .bl c/\if c=true then tb σ H1 Q else Q (.bl false) H1
def j6L{op}(h:PE X a t):PE X (.BoolOp op [a] pos) t:=λb s d H Q I c=>BoolOp_one (h b s d H Q I c)
def j6J(j:PE X a ta)(k:PE X (.BoolOp .And (b::rest) pos) tb):PE X (.BoolOp .And (a::b::rest) pos) (tAndV ta tb):=by
 intro d s i H Q I h;refine BoolOp_and (thn (j d s i H _ I h) λv m z_=>?_);obtain⟨x,f,g,l,e⟩:=z_;let⟨c,rfl,e⟩:=e;cases l;refine wpAny_truthy_bool ?_;cases c with
 | true=>exact k d m i f Q g e
 | false=>exact⟨.bl false,f,g,rfl,e⟩
def tIf(t:TT)(ta tb:TE):TE:=λσ H Q=>t σ H λc H1=>if c=true then ta σ H1 Q else tb σ H1 Q
def Jm{c:Expr}(n:PT X c tA)(l:PE X a ta)(m:PE X b tb):PE X (.IfExp c a b pos) (tIf tA ta tb):=by
 intro e s f H Q I h;refine wpAny_IfExp (thn (n e s f H _ I h) λd k z_=>?_);obtain⟨g,i,j⟩:=z_;cases d with
 | true=>exact l e k f g Q i j
 | false=>exact m e k f g Q i j
end
def SqL(K:Frg)(H:Hp)(a:Addr)(xs:N6):Prop:=
 Rd H a (.lst xs)\/
  ∃(o:Obj) (its:Array Value) (n:Nat),K.lookup a=some o/\o.cls = .type "list"/\o.dict=none/\o.data = .seq its n/\its.size<=sizeLine/\Vals xs its.toList
def SqT(K:Frg)(H:Hp)(a:Addr)(xs:N6):Prop:=
 Rd H a (.tup xs)\/
  ∃(o:Obj) (its:Array Value) (n:Nat),K.lookup a=some o/\o.cls = .type "tuple"/\o.data = .seq its n/\its.size<=sizeLine/\Vals xs its.toList
noncomputable def absV:Value->N7
 | .none=>some .non
 | .bool b=>some (.bl b)
 | .int i _=>some (.int i)
 | .str x _=>some (.str x)
 | .bytes b _=>some (.byt b)
 | .float b _=>some (.flt b)
 | .ref a=>some (.ref a)
 | .type n=>some (.ty n)
 | _=>none
def RelV.abs(r:RelV x u):absV u=some x:=by
 cases x with
 | non=>cases r;rfl
 | bl _=>cases r;rfl
 | int _=>let⟨t,rfl⟩:=r;rfl
 | str _=>let⟨t,rfl⟩:=r;rfl
 | byt _=>let⟨t,rfl⟩:=r;rfl
 | flt _=>let⟨t,rfl⟩:=r;rfl
 | ref _=>cases r;rfl
 | ty _=>cases r;rfl
def RelV.inj(r:RelV x u)(q:RelV y u):x=y:=vN (r.abs.symm.trans q.abs)
theorem Vals.inj:∀{xs ys:N6} {us:N4},Vals xs us->Vals ys us->xs=ys
 | _,_,_,.nil,.nil=>rfl
 | _,_,_,.cons r t,.cons r' t'=>by rw[r.inj r',Vals.inj t t']
section
variable{X:Cx}{pins:List (Addr×Obj)}{σ:St}{H:Hp}{s:Shared}{a:Addr}{xs ys:N6}
def SqL.of{K:Frg}(h:H a=some (.lst xs)):SqL K H a xs:=.inl (.inl h)
def SqT.of{K:Frg}(h:H a=some (.tup xs)):SqT K H a xs:=.inl (.inl h)
def Inv.list(I:Inv X pins σ H s)(h:SqL X.K H a xs):∃b:N4,Vals xs b/\PlainL s.heap a b.toArray/\xs.length<=sizeLine:=by
 rcases h with h | ⟨o,b,n,f,c,d,g,i,r⟩
 .let⟨z,b,n,r,e⟩:=h.ok I.hok;exact⟨b,r,⟨_,n,e,rfl,rfl,rfl⟩,z⟩
 .refine⟨b.toList,r,⟨o,n,I.kIn a o f,c,d,by simpa using g⟩,?_⟩;have e:=r.length;simp only[Array.length_toList]at e;lia
def Inv.tuple(I:Inv X pins σ H s)(h:SqT X.K H a xs):∃b:N4,Vals xs b/\IsTup s.heap a b.toArray/\xs.length<=sizeLine:=by
 rcases h with h | ⟨o,b,n,d,c,f,g,r⟩
 .let⟨z,b,r,p⟩:=h.ok I.hok;exact⟨b,r,p,z⟩
 .refine⟨b.toList,r,⟨o,I.kIn a o d,c,n,by simpa using f⟩,?_⟩;have e:=r.length;simp only[Array.length_toList]at e;lia
def Inv.list_inj(I:Inv X pins σ H s)(h:SqL X.K H a xs)(h':SqL X.K H a ys):xs=ys:=by
 let⟨c,r,⟨o,n,e,_,_,d⟩,_⟩:=I.list h;let⟨b,i,⟨k,j,g,_,_,f⟩,_⟩:=I.list h';rw[e]at g;cases g;rw[d]at f;injection f with d1 _;have:c=b:=by simpa using congrArg Array.toList d1
 subst this;exact r.inj i
def Inv.tuple_inj(I:Inv X pins σ H s)(h:SqT X.K H a xs)(h':SqT X.K H a ys):xs=ys:=by
 let⟨c,r,⟨o,e,_,n,d⟩,_⟩:=I.tuple h;let⟨b,i,⟨k,g,_,j,f⟩,_⟩:=I.tuple h';rw[e]at g;cases g;rw[d]at f;injection f with d1 _;have:c=b:=by simpa using congrArg Array.toList d1
 subst this;exact r.inj i
end
noncomputable abbrev Cx.wish(X:Cx)(E:Value->Shared->Prop):Cx:={X with xe:=E}
noncomputable abbrev Cx.nox(X:Cx):Cx:=X.wish λ_ _=>False
def Cx.Ok.wish{X:Cx}(a:X.Ok)(E:Value->Shared->Prop):(X.wish E).Ok:=
 ⟨a.mod,a.kind,a.glob,a.blt,a.above,a.inj,a.has,a.cab,a.hd,a.frames,a.stk,a.exf,a.bs,a.bsz,a.noex,a.exfs,a.funs,a.frf⟩
def Cx.Ok.unwish{X:Cx}{E:Value->Shared->Prop}(a:(X.wish E).Ok):X.Ok:=
 ⟨a.mod,a.kind,a.glob,a.blt,a.above,a.inj,a.has,a.cab,a.hd,a.frames,a.stk,a.exf,a.bs,a.bsz,a.noex,a.exfs,a.funs,a.frf⟩
section
variable{X:Cx}{pins:List (Addr×Obj)}{σ:St}{H:Hp}{s:Shared}{E:Value->Shared->Prop}
def Inv.wish(I:Inv X pins σ H s)(E:Value->Shared->Prop):Inv (X.wish E) pins σ H s:=⟨I.ok.wish E,I.os,I.bare,I.base,I.loc,I.cell,I.free,I.freeC,I.pin,I.hok,I.len⟩
def Inv.unwish(I:Inv (X.wish E) pins σ H s):Inv X pins σ H s:=⟨I.ok.unwish,I.os,I.bare,I.base,I.loc,I.cell,I.free,I.freeC,I.pin,I.hok,I.len⟩
def SP.unwish(h:SP (X.wish E) pins D f s'):SP X pins D f s':=by
 cases f with
 | next=>let⟨a,b,I,q⟩:=h;exact⟨a,b,I.unwish,q⟩
 | brk=>let⟨a,b,I,q⟩:=h;exact⟨a,b,I.unwish,q⟩
 | cont=>let⟨a,b,I,q⟩:=h;exact⟨a,b,I.unwish,q⟩
 | ret u=>let⟨v,a,b,I,r,q⟩:=h;exact⟨v,a,b,I.unwish,r,q⟩
def PSs.nox{st:List Stmt}{t:TS}(h:PSs X.nox st t):PSs X st t:=λa s c H D I b=>
 wpAny_mono (h a s c H D (I.wish _) b) (λ_ _ q=>q.unwish) λ_ _ z=>False.elim z
end
section
variable{X:Cx}{st:Stmt}{rest:List Stmt}{t u:TS}{e:Expr}{te:TE}{pos:Pos}
def tNext:TS:=λD σ H=>D.nx σ H
def tSeq(t u:TS):TS:=λD σ H=>t {D with nx:=u D} σ H
def jw:PSs X [] tNext:=λ_ _ a H _ I h=>wpAny_execs_nil ⟨a,H,I,h⟩
def jb(e:PS X st t)(g:PSs X rest u):PSs X (st::rest) (tSeq t u):=by
 intro a s j H D I h;refine wpAny_execs_cons (thn (e a s j H {D with nx:=u D} I h) λf i q=>?_);cases f with
 | next=>
  let⟨b,c,d,q⟩:=q;exact g a i b c D d q
 | ret v=>exact q
 | brk=>exact q
 | cont=>exact q
def jg(b:PS X st t):PSs X [st] t:=by
 intro a s c H D I h;refine wpAny_execs_cons (thn (b a s c H D I h) λf d q=>?_);cases f with
 | next=>exact wpAny_execs_nil q
 | ret v=>exact q
 | brk=>exact q
 | cont=>exact q
def Inv.quiet{a:St}{H:Hp}(I:Inv X pins a H s):interactive X.env=false:=by simp[interactive,I.ok.kind]
def tDrop(te:TE):TS:=λD σ H=>te σ H λ_ H1=>D.nx σ H1
def jF(f:PE X e te)(g:swapsWith e none pos.line X.env=pure false:=by rfl):PS X (.Expr e pos) (tDrop te):=by
 intro a s b H D I h;exact wpAny_Expr_any (thn (f a s b H _ I h) λv k ⟨x,c,d,j,i⟩=>⟨b,c,d,i⟩) I.quiet g
def tRet(te:TE):TS:=λD σ H=>te σ H D.rt
def ju(f:PE X e te):PS X (.Return (some e) pos) (tRet te):=by
 intro a s b H D I h;exact wpAny_Return_some (thn (f a s b H _ I h) λv j ⟨x,c,d,i,g⟩=>⟨x,b,c,d,i,g⟩)
def tIfS(c:TT)(t u:TS):TS:=λD σ H=>c σ H λb H1=>if b=true then t D σ H1 else u D σ H1
def jL{c:Expr}{a b:List Stmt}{l:TT}(o:PT X c l)(m:PSs X a t)(n:PSs X b u):PS X (.If c a b pos) (tIfS l t u):=by
 intro e s f H D I h;refine wpAny_If (thn (o e s f H _ I h) λd k z_=>?_);obtain⟨g,i,j⟩:=z_;cases d with
 | true=>exact m e k f g D i j
 | false=>exact n e k f g D i j
def tNever:TS:=λ_ _ _=>False
def Jv:PS X st tNever:=λ_ _ _ _ _ _ h=>h.elim
end
noncomputable abbrev TG:=V->St->Hp->(St->Hp->Prop)->Prop
noncomputable abbrev TGs:=N6->St->Hp->(St->Hp->Prop)->Prop
def PG(X:Cx)(target:Expr)(t:TG):Prop:=
 ∀(pins:List (Addr×Obj)) (s:Shared) (σ:St) (H:Hp) (v:V) (u:Value) (Q:St->Hp->Prop),Inv X pins σ H s->RelV v u->t v σ H Q->
  wpAny (model X.prog X.w) X.A (assign target X.env u) (λ_ s'=>∃Z' H',Inv X pins Z' H' s'/\Q Z' H') X.xe s
def PGs(X:Cx)(ts:List Expr)(t:TGs):Prop:=
 ∀(pins:List (Addr×Obj)) (s:Shared) (σ:St) (H:Hp) (vs:N6) (us:N4) (Q:St->Hp->Prop),Inv X pins σ H s->Vals vs us->t vs σ H Q->
  wpAny (model X.prog X.w) X.A (assignInOrder ((assignEach ts X.env).map (·.2)) us) (λ_ s'=>∃Z' H',Inv X pins Z' H' s'/\Q Z' H') X.xe s
noncomputable abbrev TSet:=V->V->V->Hp->(Hp->Prop)->Prop
def PSet(X:Cx)(t:TSet):Prop:=
 ∀(pins:List (Addr×Obj)) (s:Shared) (σ:St) (H:Hp) (o i v:V) (ov iv u:Value) (Q:Hp->Prop),Inv X pins σ H s->RelV o ov->RelV i iv->RelV v u->t o i v H Q->
  wpAny (model X.prog X.w) X.A (setItem ov iv u) (λ_ s'=>∃H',Inv X pins σ H' s'/\Q H') X.xe s
noncomputable abbrev TIp:=V->V->Hp->VK->Prop
def PIp(X:Cx)(op:Operator)(t:TIp):Prop:=
 ∀(pins:List (Addr×Obj)) (s:Shared) (σ:St) (H:Hp) (x y:V) (v u:Value) (Q:VK),Inv X pins σ H s->RelV x v->RelV y u->t x y H Q->
  wpAny (model X.prog X.w) X.A (inplaceOp op v u) (EP X pins σ Q) X.xe s
section
variable{X:Cx}{pos:Pos}
def gName(i:Nat):TG:=λv σ H Q=>Q (σ.set i (some v)) H
def ji(c:X.N.Nodup)(hi:X.N[i]?=some x)(e:Loc X.env.scope x)(d:X.fn x=true\/X.env.scope.names.lookup x=some .local:=by first | exact .inl rfl | exact .inr rfl | assumption):PG X (.Name x pos) (gName i):=by
 intro a s g H v u Q I r h;exact wpAny_assign_Name (Zw I c hi e r (λf b=>⟨_,H,b,h⟩) d)
def ji'(i:Nat)(c:X.N.Nodup)(hi:X.N[i]?=some x:=by exact rfl)(e:Loc X.env.scope x:=by exact .inl rfl)(d:X.fn x=true\/X.env.scope.names.lookup x=some .local:=by first | exact .inl rfl | exact .inr rfl | assumption):PG X (.Name x pos) (gName i):=ji (i:=i) c hi e d
def gNil:TGs:=λvs σ H Q=>vs=[]/\Q σ H
def gCons(t:TG)(u:TGs):TGs:=λvs σ H Q=>∃v r,vs=v::r/\t v σ H λZ' H'=>u r Z' H' Q
def jT:PGs X [] gNil:=by
 intro a s b H d c Q I r h;let⟨e,h⟩:=h;subst e;cases r;exact assignInOrder_nil ⟨b,H,I,h⟩
def jp{e:Expr}{b:List Expr}{t:TG}{u:TGs}(i:PG X e t)(j:PGs X b u)
  (k:(assignEach (e::b) X.env).map (·.2)=assign e X.env::(assignEach b X.env).map (·.2):=by rfl):PGs X (e::b) (gCons t u):=by
 intro a s n H q o Q I r h;let⟨v,p,g,h⟩:=h;subst g;cases r with
 | cons r rr=>
  rw[k];refine assignInOrder_cons (thn (i a s n H _ _ _ I r h) λ_ m z_=>?_);obtain⟨c,d,f,l⟩:=z_;exact j a m c d _ _ Q f rr l
def gTup(K:Frg)(n:Nat)(t:TGs):TG:=λv σ H Q=>∃a xs,v = .ref a/\SqT K H a xs/\xs.length=n/\t xs σ H Q
def Jr(p:X.calm=true)(h:PGs X es t)
  (w:(assignEach es X.env).length=n:=by rfl) (d:(assignEach es X.env).findIdx? (·.1)=none:=by rfl):PG X (.Tuple es k pos) (gTup X.K n t):=by
 intro c s i H v u Q I r f;let⟨a,B,l,x,q,f⟩:=f;subst l;cases r;let⟨A,g,y,C⟩:=I.tuple x;refine assign_Tuple_tuple (I.ok.hd p) y (by simp[w,<-q,g.length]) d λm z=>?_
 have j:Inv X c i H {s with heap:=m}:=I.kept (t':=s.toks) λb o e=>z b o (vG (vK e)) e
 exact h c _ i H B _ Q j (by simpa using g) f
def gSub(to ti:TE)(t:TSet):TG:=λv σ H Q=>to σ H λo H1=>ti σ H1 λi H2=>t o i v H2 λH3=>Q σ H3
def j6O{o i:Expr}{e d:TE}{t:TSet}(p:PE X o e)(hi:PE X i d)(q:PSet X t)
  (n:∀v,assign (.Subscript o i pos) X.env v=(do
   let ov <-holding [v] (eval o X.env)
   let b <-holding [v,ov] (eval i X.env)
   standAt pos
   holding [v,ov,b] (setItem ov b v)
   release [v,ov,b] []):=by intro _;rfl):PG X (.Subscript o i pos) (gSub e d t):=by
 intro a s c H v u Q I r h;rw[n];refine uj (wpAny_holding (thn (p a s c H _ I h) λov D z_=>?_));obtain⟨x,f,k,B,w⟩:=z_;refine uj (wpAny_holding (thn (hi a D c f _ k w) λb E z_=>?_));obtain⟨y,g,l,C,z⟩:=z_;refine uj (wpAny_standAt (uj (wpAny_holding (thn (q a E c g x y v ov b u _ l B C r z) λ_ F z_=>?_))));obtain⟨j,m,A⟩:=z_;exact wpAny_release ⟨c,j,m,A⟩
def tAsg(te:TE)(g:TG):TS:=λD σ H=>te σ H λx H1=>g x σ H1 D.nx
def j6R{b e:Expr}{c:TE}{g:TG}(k:PE X e c)(l:PG X b g)(m:swapsWithSole [b] e pos.line X.env=pure false:=by rfl)(hw:swappedStores [b] e X.env=pure none:=by rfl)
  (j:(assignEach [b] X.env).map (·.2)=[assign b X.env]:=by rfl):PS X (.Assign [b] e pos) (tAsg c g):=by
 intro a s d H D I h;refine wpAny_Assign_stores (thn (k a s d H _ I h) λv p z_=>?_) m hw;obtain⟨x,f,i,o,n⟩:=z_;rw[j];exact thn (l a p d f x v _ i o n) λ_ r q=>q
def jo{i:Nat}{x:Str}{e:Expr}{c:TE}{a:Pos}(j:X.N.Nodup)(hi:X.N[i]?=some x)(n:Loc X.env.scope x)(k:PE X e c)(m:swapsWith e (some (.Name x a)) pos.line X.env=pure false:=by rfl)(l:X.fn x=true\/X.env.scope.names.lookup x=some .local:=by first | exact .inl rfl | exact .inr rfl | assumption) :
  PS X (.Assign [.Name x a] e pos) (tAsg c (gName i)):=by
 intro b s q H D I h;refine wpAny_Assign_Name (thn (k b s q H _ I h) λv r z_=>?_) m;obtain⟨y,d,f,p,o⟩:=z_;exact Zw f j hi n p (λt g=>⟨_,d,g,o⟩) l
def jo'(i:Nat){x:Str}{e:Expr}{c:TE}{a:Pos}(j:X.N.Nodup)(k:PE X e c)(hi:X.N[i]?=some x:=by exact rfl)(n:Loc X.env.scope x:=by exact .inl rfl)(m:swapsWith e (some (.Name x a)) pos.line X.env=pure false:=by rfl)(l:X.fn x=true\/X.env.scope.names.lookup x=some .local:=by first | exact .inl rfl | exact .inr rfl | assumption) : PS X (.Assign [.Name x a] e pos) (tAsg c (gName i)):=jo (i:=i) j hi n k m l
def tPar(i j:Nat)(ta:TA):TS:=λD σ H=>ta σ H λvs H1=>∃v w,vs=[v,w]/\D.nx ((σ.set i (some v)).set j (some w)) H1
def j4k{i j:Nat}{x y:Str}{a b:Expr}{A:TA}{m n l:Pos}{kt k2 pt2}(hc:X.calm=true)(hN:X.N.Nodup)(hi:X.N[i]?=some x)(hj:X.N[j]?=some y)(hij:i≠j)
  (hx:X.env.scope.names.lookup x=some .local) (hy:X.env.scope.names.lookup y=some .local) (ha:PA X [a,b] A)
  (hw:swappedStores [.Tuple [.Name x m,.Name y n] kt l] (.Tuple [a,b] k2 pt2) X.env=pure (some [x,y]))
  (hs:swapsWithSole [.Tuple [.Name x m,.Name y n] kt l] (.Tuple [a,b] k2 pt2) pos.line X.env=pure false:=by rfl) :
  PS X (.Assign [.Tuple [.Name x m,.Name y n] kt l] (.Tuple [a,b] k2 pt2) pos) (tPar i j A):=by
 intro c s B H D I h;rw[exec_Assign_arm];refine uj (wpAny_standAt ?_);rw[hs];refine uj (ui ?_);rw[va nofun];refine uj (Tuple_ (thn (ha _ c s B H _ I h) λM d z_=>?_));obtain⟨P,u,C,K,r⟩:=z_;let⟨v,w,J,r⟩:=r;subst J;obtain⟨f,g,rfl,L,t⟩:∃f g,M=[f,g]/\RelV v f/\RelV w g:=by
  cases K with
  | cons p q=>
   cases q with
   | cons p' q'=>
    cases q';exact⟨_,_,rfl,p,p'⟩
 refine wpAny_newObj_type ?_ (by show 2<=sizeLine;decide);have E:Inv X c B u {d with heap:=d.heap.push {cls:=.type "tuple",data:=.seq [f,g].toArray}}:=C.kept (t':=d.toks) λb o e=>vL _ e
 rw[hw];refine uj (ui ?_);show wpAny (model X.prog X.w) X.A (do rule "assign.swapped-stores";let items <-unpackItems (.ref d.heap.objs.size) 2 none;assignInOrder [λv=>bindName X.env y v,λv=>bindName X.env x v] items.reverse;pure Flow.next) _ _ _;refine uj (wpAny_rule (uj (unpackItems_tuple (items:=#[f,g]) (I.ok.hd hc) (IsTup.new d.heap _) λh' k=>?_)));have F:=E.kept (h':=h') (t':=d.toks) λb o e=>k b o (vG (vK e)) e
 show wpAny _ _ (assignInOrder [λv=>bindName X.env y v,λv=>bindName X.env x v] [g,f] >>= λ_=>pure Flow.next) _ _ _;refine uj (assignInOrder_cons (wpAny_bindName (Zw F hN hj (.inl hy) t (λN G=>?_) (.inr hy))));refine assignInOrder_cons (wpAny_bindName (Zw G hN hi (.inl hx) L (λO z=>assignInOrder_nil (ui ?_)) (.inr hx)));rw[List.set_comm _ _ (Ne.symm hij)]at z;exact⟨_,u,z,r⟩
def tAug(i:Nat)(te:TE)(ti:TIp):TS:=λD σ H=>∃x,σ[i]?=some (some x)/\te σ H λy H1=>ti x y H1 λz H2=>D.nx (σ.set i (some z)) H2
def j6S{i:Nat}{x:Str}{e:Expr}{q:TE}{op:Operator}{t:TIp}{f:Pos}(K:X.N.Nodup)(hi:X.N[i]?=some x)(n:Loc X.env.scope x)(M:PE X e q)(R:PIp X op t)(N:X.fn x=true\/X.env.scope.names.lookup x=some .local:=by first | exact .inl rfl | exact .inr rfl | assumption) :
  PS X (.AugAssign (.Name x f) op e pos) (tAug i q t):=by
 intro a s A H D I h;let⟨v,J,h⟩:=h;let⟨m,Q,O⟩:=I.loc;have o:Vis X.env.scope x:=by rcases n with k | k;exact .inl k;exact .inr (.inl k)
 let⟨u,r,l⟩:=O i x v hi J o;refine wpAny_AugAssign_Name ?_;have p:wpAny (model X.prog X.w) X.A (eval e X.env) (λw g=>wpAny (model X.prog X.w) X.A (inplaceOp op u w) (λr j=>wpAny (model X.prog X.w) X.A (storeName X.env x r) (λ_=>SP X a D .next) X.xe j) X.xe g) X.xe s:=by
  refine thn (M a s A H _ I h) λw Y z_=>?_;obtain⟨y,B,E,U,S⟩:=z_
  refine thn (R a Y A B v y u w _ E r U S) λz Z z_=>?_;obtain⟨zv,C,F,W,T⟩:=z_
  exact Zw F K hi n W (λs3 G=>⟨_,C,G,T⟩) N
 rcases l with⟨b,P⟩ | ⟨b,c,L,d⟩
 .exact wpAny_loadName_local I.ok.kind b Q P p
 .rcases b with b | b
  .exact wpAny_loadName_cell I.ok.kind b L d p
  .rcases n with k | k
   .have:X.env.scope.names.lookup x=some .free:=b;rw[k]at this;cases this
   .have:X.env.scope.names.lookup x=some .free:=b;rw[k]at this;cases this
noncomputable def ipI(f:Int->Int->Int):TIp:=λx y H Q=>∃i j,x = .int i/\y = .int j/\Q (.int (f i j)) H
def j6t:PIp X .Add (ipI λi j=>i+j):=by
 intro a s g H x y v u Q I d e h;let⟨i,j,b,c,q⟩:=h;subst b;subst c;let⟨t,rfl⟩:=d;let⟨f,rfl⟩:=e;exact iadd_int ⟨.int _,H,I.tok _,⟨_,rfl⟩,q⟩
end
section
variable{X:Cx}{pos:Pos}
def tWhile(c:TT)(tb:TS):TS:=λD σ H=>∃W:Nat->St->Hp->Prop,(∃m,W m σ H)/\∀m σ H,W m σ H->
 c σ H λb H1=>if b=true then∃N:St->Hp->Prop,(∀Z' H',N Z' H'->∃m',m'<m/\W m' Z' H')/\tb {D with nx:=N,ct:=N,bk:=D.nx} σ H1 else D.nx σ H1
def yX{c:Expr}{g:List Stmt}{C:TT}{B:TS}(A:PassesOwn (model X.prog X.w) X.A X.env X.xe)(G:PT X c C)(F:PSs X g B):PS X (.While c g [] pos) (tWhile C B):=by
 intro a s Q H D I h;let⟨W,⟨J,O⟩,j⟩:=h;refine wpAny_While (codeAny_whileLoop (λn K=>∃k u,Inv X a k u K/\W n k u) ?_ J ⟨Q,H,I,O⟩);rintro n L ⟨e,w,E,P⟩;refine wpAny_passesOwn A (thn (G a L e w _ E (j n e w P)) λb M z_=>?_);obtain⟨x,y,l⟩:=z_;cases b with
 | true=>
  let⟨N,z,l⟩:=l;rw[vc rfl];refine wpAny_passesOwn A (thn (F a M e x _ y l) λf R m=>?_);cases f with
  | next=>
   let⟨d,i,o,r⟩:=m;let⟨q,p,t⟩:=z d i r;exact⟨q,p,d,i,o,t⟩
  | cont=>
   let⟨d,i,o,r⟩:=m;let⟨q,p,t⟩:=z d i r;exact⟨q,p,d,i,o,t⟩
  | brk=>exact m
  | ret v=>exact m
 | false=>
  rw[va vH];exact wpAny_execs_nil ⟨e,x,y,l⟩
end
structure It where
 go:Nat->Hp->Prop
 yld:Nat->Hp->V->Hp->Prop
 stop:Nat->Hp->Prop
def FpOk(X:Cx)(pins:List (Addr×Obj))(H:Hp)(b:Addr):Prop:=
 H b=none/\b≠X.env.locals/\b∉X.fs/\(b∈X.ex\/X.s₀.heap.objs.size<=b)/\(∀x c,X.env.cells.lookup x=some c->c≠b)/\∀p∈X.pn++pins,p.1≠b
def Inv.fpOk{g:St}{H H':Hp}(I:Inv X pins g H s)(a:s.heap.objs.size<=b)(d:H' b=none):FpOk X pins H' b:=by
 refine⟨d,vP (Nat.lt_of_lt_of_le I.lt a),I.nofs a,.inr (vX I.sz a),λx c e z=>?_,λp f z=>?_⟩
 .let⟨v,q⟩:=I.cell x c e;exact uh (Nat.lt_of_lt_of_le q.lt (by rw[z];exact a)) (Nat.lt_irrefl _)
 .exact uh (Nat.lt_of_lt_of_le (vK (I.pin p f).1) (by rw[z];exact a)) (Nat.lt_irrefl _)
structure Turn(P:Program)(w:World)(K:Frg)(tg:Expr)(J:It)(fp:N2)(it:Addr)(tn:Nat->Heap->Prop):Prop where
 mem:it∈fp
 obj:∀i h,tn i h->∀b∈fp,∃o,h.get? b=some o/\∀v,o.data≠.cell v
 keep:∀i h h',tn i h->(∀b∈fp,∀o,h.get? b=some o->h'.get? b=some o)->tn i h'
 item:∀(X:Cx),X.prog=P->X.w=w->X.K=K->X.calm=true->∀(i:Nat) (pins:List (Addr×Obj)) (s:Shared) (σ:St) (H:Hp) (E:Value->Shared->Prop),Inv X pins σ H s->(∀b∈fp,FpOk X pins H b)->tn i s.heap->J.go i H->
  wpAny (model P w) X.A (pyNext (.ref it)) (λr s1=>∃u,r=some u/\
   wpAny (model P w) X.A (letOwnedTupleGo tg (.ref it) u) (λ_ s2=>∃x H',Inv X pins σ H' s2/\RelV x u/\J.yld i H x H'/\tn (i+1) s2.heap/\∀b∈fp,H' b=none) E s1) E s
 done:∀(X:Cx),X.prog=P->X.w=w->X.K=K->X.calm=true->∀(i:Nat) (pins:List (Addr×Obj)) (s:Shared) (σ:St) (H:Hp) (E:Value->Shared->Prop),Inv X pins σ H s->(∀b∈fp,FpOk X pins H b)->tn i s.heap->J.stop i H->
  wpAny (model P w) X.A (pyNext (.ref it)) (λr s1=>r=none/\Inv X pins σ H s1) E s
 self:∀(A:Around) (i:Nat) (s:Shared) (Q:Value->Shared->Prop) (E:Value->Shared->Prop),tn i s.heap->Q (.ref it) s->wpAny (model P w) A (pyIter (.ref it)) Q E s
noncomputable abbrev TI:=St->Hp->(It->Hp->Prop)->Prop
def PIE(X:Cx)(pins:List (Addr×Obj))(σ:St)(tg:Expr)(R:It->Hp->Prop)(itv:Value)(s2:Shared):Prop:=
 ∃(it:Addr) (fp:N2) (tn:Nat->Heap->Prop) (J:It) (H':Hp),itv = .ref it/\Inv X pins σ H' s2/\Turn X.prog X.w X.K tg J fp it tn/\tn 0 s2.heap/\(∀b∈fp,FpOk X pins H' b)/\R J H'
def PI(X:Cx)(tg iter:Expr)(wi:TI):Prop:=
 ∀(pins:List (Addr×Obj)) (s:Shared) (σ:St) (H:Hp) (R:It->Hp->Prop),Inv X pins σ H s->wi σ H R->
  wpAny (model X.prog X.w) X.A (eval iter X.env) (λv s1=>wpAny (model X.prog X.w) X.A (pyIter v) (PIE X pins σ tg R) X.xe s1) X.xe s
def j1s{E:Value->Shared->Prop}{Q:Unit->Shared->Prop}(e:s.heap.get? it=some o)(b:o.cls = .type n)(c:o.data = .fields vs)
    (d:["enumerate","zip","dict_itemiterator","dict_reverseitemiterator","odict_iterator","itertools.zip_longest","itertools.pairwise"].contains n=false) (a:Q () s):wpAny M A (letOwnedTupleGo tg (.ref it) u) Q E s:=by
  unfold letOwnedTupleGo;cases tg<;>first
    | exact ui a
    | (cases u<;>first
        | exact ui a
        | (refine uj (wpAny_load e ?_)
           rw[b,c];show wpAny M A (if(["enumerate","zip","dict_itemiterator","dict_reverseitemiterator","odict_iterator","itertools.zip_longest","itertools.pairwise"].contains n&&vs[0]?==some (rawInt _))=true then _ else _) Q E s;rw[va (by intro h;rw[d,Bool.false_and]at h;cases h)];exact ui a))
def Itl(K:Frg)(a:Addr):It:=
 ⟨λi H=>∃xs x,SqL K H a xs/\xs[i]?=some x,λi H x H'=>H'=H/\∀xs,SqL K H a xs->xs[i]?=some x,λi H=>∃xs,SqL K H a xs/\xs.length<=i⟩
def Itt(K:Frg)(a:Addr):It:=
 ⟨λi H=>∃xs x,SqT K H a xs/\xs[i]?=some x,λi H x H'=>H'=H/\∀xs,SqT K H a xs->xs[i]?=some x,λi H=>∃xs,SqT K H a xs/\xs.length<=i⟩
def Itr(lo:Int)(n:Nat):It:=⟨λi _=>i<n,λi H x H'=>H'=H/\x = .int (lo+i),λi _=>n<=i⟩
def j3c{P:Program}{w:World}{K:Frg}{tg:Expr}(a it:Addr):Turn P w K tg (Itl K a) [it] it (λi h=>h.IsListIter it a i) where
 mem:=by simp
 obj:=λi h f b j=>by
  have e:b=it:=by simpa using j
  subst e;let⟨o,e,c,d⟩:=f;exact⟨o,e,λv z=>by rw[d]at z;cases z⟩
 keep:=λi h m f k=>f.at λo e=>k it (by simp) o e
 item:=by
  intro X D G C N i g s O H E I n f F;subst D G C;let⟨xs,x,q,J⟩:=F;let⟨L,M,p,W⟩:=I.list q;let⟨u,T,Y⟩:=M.get J;let⟨r,t,S,y,A,B⟩:=n it (by simp);refine wpAny_pyNext_list_item f p.isList (x:=u) (by simpa using T) λm l Z=>?_
  have Q:Inv X g O H {s with heap:=m}:=I.turned (t':=s.toks) (λb o j e=>(Z.2 b j).trans e) r t y A B;let⟨o,e,c,d⟩:=id l;exact⟨u,rfl,j1s (s:={s with heap:=m}) e c d nofun ⟨x,H,Q,Y,⟨rfl,λys U=>by rw[I.list_inj U q];exact J⟩,l,λb j=>(n b j).1⟩⟩
 done:=by
  intro X D G C N i g s O H E I n f F;subst D G C;let⟨xs,q,J⟩:=F;let⟨L,M,p,W⟩:=I.list q;let⟨r,t,S,y,A,B⟩:=n it (by simp);have hl:=M.length;exact wpAny_pyNext_list_end (I.ok.hd N) f p.isList (by simp;lia) λm R=>⟨rfl,I.turned (t':=s.toks) (λb o j e=>R b o j e) r t y A B⟩
 self:=λ_ _ _ _ _ f h=>wpAny_pyIter_listiter f h
def j17{P:Program}{w:World}{K:Frg}{tg:Expr}(a it:Addr):Turn P w K tg (Itt K a) [it] it (λi h=>h.IsTupleIter it a i) where
 mem:=by simp
 obj:=λi h f b j=>by
  have e:b=it:=by simpa using j
  subst e;let⟨o,e,c,d⟩:=f;exact⟨o,e,λv z=>by rw[d]at z;cases z⟩
 keep:=λi h n f k=>f.at λo e=>k it (by simp) o e
 item:=by
  intro X F J D N i g s O H E I q f G;subst F J D;let⟨xs,x,r,L⟩:=G;let⟨l,M,p,W⟩:=I.tuple r;let⟨u,T,Y⟩:=M.get L;let⟨t,y,S,A,B,C⟩:=q it (by simp);refine wpAny_pyNext_tuple_item f (show s.heap.IsTuple a l.toArray from p) (x:=u) (by simpa using T) λn m Z=>?_
  have Q:Inv X g O H {s with heap:=n}:=I.turned (t':=s.toks) (λb o j e=>(Z.2 b j).trans e) t y A B C;let⟨o,e,c,d⟩:=id m;exact⟨u,rfl,j1s (s:={s with heap:=n}) e c d nofun ⟨x,H,Q,Y,⟨rfl,λys U=>by rw[I.tuple_inj U r];exact L⟩,m,λb j=>(q b j).1⟩⟩
 done:=by
  intro X F J D N i g s O H E I q f G;subst F J D;let⟨xs,r,L⟩:=G;let⟨l,M,p,W⟩:=I.tuple r;let⟨t,y,S,A,B,C⟩:=q it (by simp);have hl:=M.length;exact wpAny_pyNext_tuple_end (I.ok.hd N) f (show s.heap.IsTuple a l.toArray from p) (by simp;lia) λn R=>⟨rfl,I.turned (t':=s.toks) (λb o j e=>R b o j e) t y A B C⟩
 self:=λ_ _ _ _ _ f h=>wpAny_pyIter_tupleiter f h
def KY{P:Program}{w:World}{K:Frg}{N:Expr}(it:Addr)(lo:Int)(n:Nat):Turn P w K N (Itr lo n) [it] it (λi h=>IsRangeIter h it (lo+(i:Nat)*1) ((n:Int)-(i:Nat)) 1) where
 mem:=by simp
 obj:=λi h a b d=>by
  have e:b=it:=by simpa using d
  subst e;exact⟨_,a,λv z=>by
   have O:Data.fields _=Data.cell v:=z;cases O⟩
 keep:=λi h g a k=>k it (by simp) _ a
 item:=by
  intro X x B u y i c s D H E I j a A;subst x B u;let⟨l,m,J,p,q,r⟩:=j it (by simp);have W:=Walks.range (prog:=X.prog) (w:=X.w) (I.ok.hd y) it lo 1 n;refine W.item i s _ _ A a λv g C L f M=>?_
  let⟨t,rfl⟩:=L;have F:Inv X c D H {s with heap:=g,toks:=C}:=I.turned (λb o d e=>M b o (by simpa using d) e) l m p q r;refine⟨_,rfl,j1s (s:={s with heap:=g,toks:=C}) (n:="range_iterator") f rfl rfl nofun ⟨.int (lo+i),H,F,⟨t,?_⟩,⟨rfl,rfl⟩,f,λb d=>(j b d).1⟩⟩;rw[Int.mul_one]
 done:=by
  intro X x B u y i c s D H E I j a A;subst x B u;let⟨l,m,J,p,q,r⟩:=j it (by simp);exact wpAny_pyNext_range_end (I.ok.hd y) a (by have:n<=i:=A;lia) λg G=>⟨rfl,I.turned (t':=s.toks) (λb o d e=>G b o d e) l m p q r⟩
 self:=λ_ _ _ _ _ a h=>wpAny_pyIter_rangeiter a h
section
variable{X:Cx}{tg:Expr}
def iList(K:Frg)(tl:TE):TI:=λσ H R=>tl σ H λx H1=>∃a,x = .ref a/\(∃xs,SqL K H1 a xs)/\R (Itl K a) H1
def iTup(K:Frg)(tl:TE):TI:=λσ H R=>tl σ H λx H1=>∃a,x = .ref a/\(∃xs,SqT K H1 a xs)/\R (Itt K a) H1
def jB{l:Expr}{g:TE}(k:PE X l g):PI X tg l (iList X.K g):=by
 intro c s u H R I h;refine thn (k c s u H _ I h) λv f z_=>?_;obtain⟨x,i,d,t,r⟩:=z_
 let⟨a,e,⟨z,m⟩,q⟩:=r;subst e;cases t;let⟨n,y,p,w⟩:=d.list m;refine wpAny_pyIter_list p.isList ?_;refine⟨f.heap.objs.size,[f.heap.objs.size],_,_,i,rfl,d.kept (t':=f.toks) λb o e=>vL _ e,j3c a _,⟨_,Heap.get?_push_size _ rfl,rfl,rfl⟩,λb j=>?_,q⟩;have e:b=f.heap.objs.size:=by simpa using j
 subst e;exact d.fpOk (vA _) (d.hok.fresh (vA _))
def j6Q{l:Expr}{i:TE}(m:PE X l i):PI X tg l (iTup X.K i):=by
 intro c s u H R I h;refine thn (m c s u H _ I h) λv d z_=>?_;obtain⟨x,j,f,t,r⟩:=z_
 let⟨a,e,⟨z,n⟩,q⟩:=r;subst e;cases t;let⟨g,y,p,w⟩:=f.tuple n;refine wpAny_pyIter_tuple (show d.heap.IsTuple a g.toArray from p) ?_;refine⟨d.heap.objs.size,[d.heap.objs.size],_,_,j,rfl,f.kept (t':=d.toks) λb o e=>vL _ e,j17 a _,⟨_,Heap.get?_push_size _ rfl,rfl,rfl⟩,λb k=>?_,q⟩;have e:b=d.heap.objs.size:=by simpa using k
 subst e;exact f.fpOk (vA _) (f.hok.fresh (vA _))
def j4o{a:List (Addr×Obj)}{f:St}{H:Hp}{s:Shared}{R:It->Hp->Prop}{E:Value->Shared->Prop}{lo hi:Int}{t u v:Tok}{d:Nat}(I:Inv X a f H s)(i : -(2^62)<=lo)(j:lo<2^62)(k : -(2^62)<=hi)(l:hi<2^62)
  (q:R (Itr lo (hi-lo).toNat) H):wpAny (model X.prog X.w) X.A (pyIter (.ref s.heap.objs.size)) (PIE X a f tg R) E {s with heap:=s.heap.push {cls:=.type "range",data:=.fields #[.int lo t,.int hi u,.int 1 v]},toks:=d}:=by
 refine wpAny_pyIter_range (IsRange.new ..) (small_one i j k l) ?_;have c:Inv X a f H {s with heap:=s.heap.push {cls:=.type "range",data:=.fields #[.int lo t,.int hi u,.int 1 v]},toks:=d}:=I.kept λb o e=>vL _ e
 refine⟨(s.heap.push {cls:=.type "range",data:=.fields #[.int lo t,.int hi u,.int 1 v]}).objs.size,[(s.heap.push {cls:=.type "range",data:=.fields #[.int lo t,.int hi u,.int 1 v]}).objs.size],_,_,H,rfl,
  c.kept (t':=d) λb o e=>vL _ e,KY _ lo (hi-lo).toNat,?_,λb m=>?_,q⟩
 .have g:lo+((0:Nat):Int)*1=lo:=by simp
  have h:(((hi-lo).toNat:Nat):Int)-((0:Nat):Int)=Builtin.Range.rangeSize lo hi 1:=by rw[rangeSize_one];split<;>lia
  show IsRangeIter _ _ (lo+((0:Nat):Int)*1) ((((hi-lo).toNat:Nat):Int)-((0:Nat):Int)) 1;rw[g,h];exact Heap.get?_push_size _ rfl
 .have e:b=(s.heap.push {cls:=.type "range",data:=.fields #[.int lo t,.int hi u,.int 1 v]}).objs.size:=by simpa using m
  subst e;exact c.fpOk (vA _) (c.hok.fresh (vA _))
def iRng1(ta:TA):TI:=λσ H R=>ta σ H λvs H1=>∃j:Int,vs=[.int j]/\-(2^62)<=j/\j<2^62/\R (Itr 0 j.toNat) H1
def ZN{a:Expr}{d:TA}{p pos:Pos}(i:Gl X "range")(k:X.mg "range"= none)(g:PA X [a] d)(l:starEach [a] X.env=[(false,eval a X.env)]:=by rfl):PI X tg (.Call (.Name "range" p) [a] [] pos) (iRng1 d):=by
 intro b s o H R I h;refine Call_ (qb I i k boot_range (PyProof.Rows.callWith_type1 (thn (g pos b s o H _ I h) λw v z_=>?_) l rfl));obtain⟨x,u,f,n,c⟩:=z_;let⟨j,e,c,m,q⟩:=c;subst e;cases n with
 | cons r rr=>
  cases rr;let⟨t,rfl⟩:=r;exact call_range_1 (j4o f ⋯ ⋯ c m (by simpa using q))
def tFor(wi:TI)(g:TG)(tb:TS):TS:=λD σ H=>wi σ H λJ H1=>∃W:Nat->Nat->St->Hp->Prop,(∃m,W 0 m σ H1)/\∀i m σ H,W i m σ H->
 (J.stop i H/\D.nx σ H)\/(J.go i H/\∃N:St->Hp->Prop,(∀Z' H',N Z' H'->∃m',m'<m/\W (i+1) m' Z' H')/\∀x H',J.yld i H x H'->g x σ H' λσ2 H2=>tb {D with nx:=N,ct:=N,bk:=D.nx} σ2 H2)
noncomputable def pinsAt(fp:N2)(h:Heap):List (Addr×Obj):=fp.filterMap λb=>(h.get? b).map λo=>(b,o)
def zA(a:b∈fp)(e:h.get? b=some o):(b,o)∈pinsAt fp h:=List.mem_filterMap.mpr ⟨b,a,by rw[e];rfl⟩
def j2O(d:p∈pinsAt fp h):p.1∈fp/\h.get? p.1=some p.2:=by
 let⟨b,c,e⟩:=List.mem_filterMap.mp d;cases q:h.get? b with
 | none=>rw[q]at e;cases e
 | some o=>
  rw[q]at e;have a:(b,o)=p:=vN e;subst a;exact⟨c,q⟩
def Inv.pinned{f:St}{H:Hp}(I:Inv X pins f H s)(j:∀b∈fp,FpOk X pins H b)(k:∀b∈fp,∃o,s.heap.get? b=some o/\∀v,o.data≠.cell v):Inv X (pins++pinsAt fp s.heap) f H s:=
 I.pins_of λp l=>(vg.mp l).elim (λz=>I.pin p (mem_append_right _ z)) λz=>by
  let⟨c,e⟩:=j2O z;let⟨g,h,i,_⟩:=j p.1 c;let⟨o,a,d⟩:=k p.1 c;rw[e]at a;cases a;exact⟨e,g,h,i,d⟩
def Inv.unpinned{a:St}{H:Hp}(I:Inv X (pins++pl) a H s):Inv X pins a H s:=I.pins_of λp b=>I.pin p (mem_append_right _ (mem_append_left _ b))
def j4{q:Expr}{A:List Stmt}{wi:TI}{g:TG}{tb:TS}{pos:Pos}(G:PassesOwn (model X.prog X.w) X.A X.env X.xe)(hc:X.calm=true)(hi:PI X tg q wi)(hg:PG X tg g)(p:PSs X A tb)
  (hs:∀x,foldedSetIterable q X.env x=pure x:=by intro _;rfl):PS X (.For tg q A [] pos) (tFor wi g tb):=by
 intro a s σ H D I h;refine wpAny_For (thn (hi a s σ H _ I h) λv s1 h1=>thn h1 λa0 s2 h2=>?_) hs;let⟨it,E,tn,J,H2,e,I2,T,Y,f2,W,⟨m0,w0⟩,O⟩:=h2;subst e;have t:∀{z:Hp},(∀b∈E,z b=none)->∀b∈E,FpOk X a z b:=λhn b p=>⟨hn b p,(f2 b p).2⟩
 refine codeAny_forLoop_any (λn s'=>∃i w z,Inv X a w z s'/\tn i s'.heap/\(∀b∈E,z b=none)/\W i n w z) ?_ m0 ⟨0,σ,H2,I2,Y,λb p=>(f2 b p).1,w0⟩;rintro n s3 ⟨i,y,P,I3,K,F,w3⟩;rcases O i n y P w3 with⟨M,qn⟩ | ⟨go,N,hN,L⟩
 .refine wpAny_passesOwn G (thn (T.done X rfl rfl rfl hc i a s3 y P X.xe I3 (t F) K M) λr s4 ⟨S,I4⟩=>?_);subst S;exact wpAny_execs_nil ⟨y,P,I4,qn⟩
 .refine wpAny_passesOwn G (thn (T.item X rfl rfl rfl hc i a s3 y P X.xe I3 (t F) K go) λr s4 ⟨u,S,h4⟩=>?_);subst S;refine wpAny_passesOwn G (thn h4 λ_ s5 z_=>?_);obtain⟨x,H5,I5,r5,y5,C,R⟩:=z_;have Q:=I5.pinned (t R) (T.obj _ _ C);refine wpAny_passesOwn G (thn (hg _ s5 y H5 x u _ Q r5 (L x H5 y5)) λ_ s6 z_=>?_);obtain⟨Z,H6,I6,q6⟩:=z_;refine wpAny_passesOwn G (thn (p _ s6 Z H6 _ I6 q6) λf U B=>?_);have l:∀{c:St} {j:Hp},Inv X (a++pinsAt E s5.heap) c j U->N c j->∃m,m<n/\∃i w z,Inv X a w z U/\tn i U.heap/\(∀b∈E,z b=none)/\W i m w z:=λ{c j} k n7=>by
   let⟨m',hm,w7⟩:=hN c j n7;refine⟨m',hm,i+1,c,j,k.unpinned,T.keep _ _ _ C λb p o e=>(k.pin (b,o) (mem_append_right _ (mem_append_right _ (zA p e)))).1,λb p=>?_,w7⟩;let⟨o,e,d⟩:=T.obj _ _ C b p;exact(k.pin (b,o) (mem_append_right _ (mem_append_right _ (zA p e)))).2.1
  cases f with
  | next=>let⟨c,j,k,n7⟩:=B;exact l k n7
  | cont=>let⟨c,j,k,n7⟩:=B;exact l k n7
  | brk=>let⟨c,j,k,B⟩:=B;exact⟨c,j,k.unpinned,B⟩
  | ret v=>let⟨x7,c,j,k,r7,B⟩:=B;exact⟨x7,c,j,k.unpinned,r7,B⟩
end
def j9{K:Frg}{a:Addr}{xs:N6}{g:TG}{j:TS}{D:Ends}{b:St}{H:Hp}(c:Nat->St->Hp->Prop)(k:c 0 b H)(o:∀i b H,i<=xs.length->c i b H->SqL K H a xs)
  (r:∀i x b H,xs[i]?=some x->c i b H->g x b H λd H2=>j {D with nx:=c (i+1),ct:=c (i+1),bk:=D.nx} d H2) (l:∀b H,c xs.length b H->D.nx b H) :
  ∃W:Nat->Nat->St->Hp->Prop,(∃m,W 0 m b H)/\∀i m b H,W i m b H->
   ((Itl K a).stop i H/\D.nx b H)\/((Itl K a).go i H/\∃N:St->Hp->Prop,(∀Z' H',N Z' H'->∃h,h<m/\W (i+1) h Z' H')/\∀x H',(Itl K a).yld i H x H'->g x b H' λd H2=>j {D with nx:=N,ct:=N,bk:=D.nx} d H2):=by
 refine⟨λi m b H=>m=xs.length-i/\i<=xs.length/\c i b H,⟨xs.length,by simp,vB _,k⟩,?_⟩;rintro i m b H ⟨rfl,n,p⟩;have q:=o i b H n p;by_cases f:i<xs.length
 .refine .inr ⟨⟨xs,xs[i],q,by simp[f]⟩,c (i+1),λZ' H' s=>⟨xs.length-(i+1),⋯,rfl,f,s⟩,λx H' y=>?_⟩;let⟨e,y⟩:=y;subst e;exact r i x b _ (y xs q) p
 .have e:i=xs.length:=⋯
  subst e;exact .inl ⟨⟨xs,q,vA _⟩,l b H p⟩
def YE{lo:Int}{n:Nat}{g:TG}{h:TS}{D:Ends}{a:St}{H:Hp}(b:Nat->St->Hp->Prop)(j:b 0 a H)
  (l:∀i a H,i<n->b i a H->g (.int (lo+i)) a H λd H2=>h {D with nx:=b (i+1),ct:=b (i+1),bk:=D.nx} d H2) (k:∀a H,b n a H->D.nx a H) :
  ∃W:Nat->Nat->St->Hp->Prop,(∃m,W 0 m a H)/\∀i m a H,W i m a H->
   ((Itr lo n).stop i H/\D.nx a H)\/((Itr lo n).go i H/\∃N:St->Hp->Prop,(∀Z' H',N Z' H'->∃f,f<m/\W (i+1) f Z' H')/\∀x H',(Itr lo n).yld i H x H'->g x a H' λd H2=>h {D with nx:=N,ct:=N,bk:=D.nx} d H2):=by
 refine⟨λi m a H=>m=n-i/\i<=n/\b i a H,⟨n,by simp,vB _,j⟩,?_⟩;rintro i m a H ⟨rfl,q,p⟩;by_cases c:i<n
 .refine .inr ⟨c,b (i+1),λZ' H' o=>⟨n-(i+1),⋯,rfl,c,o⟩,λx H' y=>?_⟩;let⟨e,y⟩:=y;subst e y;exact l i a _ c p
 .have e:i=n:=⋯
  subst e;exact .inl ⟨vA _,k a H p⟩
noncomputable abbrev R2:=V->V->Hp->VK->Prop
def OpR(X:Cx)(f:Value->Value->Sem Value)(r:R2):Prop:=
 ∀(pins:List (Addr×Obj)) (s:Shared) (σ:St) (H:Hp) (x y:V) (v u:Value) (Q:VK),Inv X pins σ H s->RelV x v->RelV y u->r x y H Q->
  wpAny (model X.prog X.w) X.A (f v u) (EP X pins σ Q) X.xe s
def UnR(X:Cx)(f:Value->Sem Value)(r:V->Hp->VK->Prop):Prop:=
 ∀(pins:List (Addr×Obj)) (s:Shared) (σ:St) (H:Hp) (x:V) (v:Value) (Q:VK),Inv X pins σ H s->RelV x v->r x H Q->
  wpAny (model X.prog X.w) X.A (f v) (EP X pins σ Q) X.xe s
def CallR(X:Cx)(f:Value)(r:N6->Hp->VK->Prop):Prop:=
 ∀(pins:List (Addr×Obj)) (s:Shared) (σ:St) (H:Hp) (xs:N6) (us:N4) (Q:VK),Inv X pins σ H s->Vals xs us->r xs H Q->
  wpAny (model X.prog X.w) X.A (call f us) (EP X pins σ Q) X.xe s
def TruR(X:Cx)(r:V->Hp->(Bool->Hp->Prop)->Prop):Prop:=
 ∀(pins:List (Addr×Obj)) (s:Shared) (σ:St) (H:Hp) (x:V) (v:Value) (Q:Bool->Hp->Prop),Inv X pins σ H s->RelV x v->r x H Q->
  wpAny (model X.prog X.w) X.A (truthy v) (TP X pins σ Q) X.xe s
def tOp(r:R2)(ta tb:TE):TE:=λσ H Q=>ta σ H λx H1=>tb σ H1 λy H2=>r x y H2 Q
def tUn(r:V->Hp->VK->Prop)(ta:TE):TE:=λσ H Q=>ta σ H λx H1=>r x H1 Q
def rI(C:Int->Int->Prop)(g:Int->Int->V):R2:=λx y H Q=>∃i j,x = .int i/\y = .int j/\C i j/\Q (g i j) H
def rI0(g:Int->Int->V):R2:=λx y H Q=>∃i j,x = .int i/\y = .int j/\Q (g i j) H
noncomputable def rU(g:Int->V):V->Hp->VK->Prop:=λx H Q=>∃i,x = .int i/\Q (g i) H
section
variable{X:Cx}{a b c:Expr}{ta tb tc:TE}{pos:Pos}
def binT(k:PE X a ta)(l:PE X b tb){c:St}{H:Hp}{R:V->V->Hp->Prop}(I:Inv X pins c H s)
  (h:ta c H λx H1=>tb c H1 λy H2=>R x y H2) {Q:Value->Shared->Prop} {f:Value->Value->Sem Value}
  (m:∀v u g x y H2,Inv X pins c H2 g->RelV x v->RelV y u->R x y H2->wpAny (model X.prog X.w) X.A (f v u) Q X.xe g) :
  wpAny (model X.prog X.w) X.A (eval a X.env) (λv d=>wpAny (model X.prog X.w) X.A (eval b X.env) (λu e=>wpAny (model X.prog X.w) X.A (f v u) Q X.xe e) X.xe d) X.xe s:=by
 refine thn (k pins s c H _ I h) λv r z_=>?_;obtain⟨x,H1,i,p,n⟩:=z_
 refine thn (l pins r c H1 _ i n) λu g z_=>?_;obtain⟨y,H2,j,q,o⟩:=z_
 exact m v u g x y H2 j p q o
def jt(i:OpR X (binaryOp op) r)(f:PE X a ta)(g:PE X b tb):PE X (.BinOp a op b pos) (tOp r ta tb):=by
 intro c s m H Q I h;exact wpAny_BinOp (binT f g I h λv u l x y d e j k q=>i c l m d x y v u Q e j k q)
def yU{r:V->Hp->VK->Prop}(g:UnR X (unaryOp op) r)(f:PE X a ta):PE X (.UnaryOp op a pos) (tUn r ta):=by
 intro b s c H Q I h;exact UnaryOp_ (thn (f b s c H _ I h) λv k ⟨x,d,e,j,i⟩=>g b k c d x v Q e j i)
def opI{f:Value->Value->Sem Value}{C:Int->Int->Prop}{g:Int->Int->Int}
  (a:∀(i j:Int) (t u:Tok) (s:Shared) (Q:Value->Shared->Prop) (E:Value->Shared->Prop),C i j->Q (.int (g i j) s.toks) {s with toks:=s.toks+1}->wpAny (model X.prog X.w) X.A (f (.int i t) (.int j u)) Q E s) :
  OpR X f (rI C λi j=>.int (g i j)):=by
 intro b s l H x y v u Q I d e h;let⟨i,j,rfl,rfl,c,q⟩:=h;let⟨t,rfl⟩:=d;let⟨k,rfl⟩:=e;exact a i j t k s _ _ c ⟨.int (g i j),H,I.tok _,⟨_,rfl⟩,q⟩
def opI0{f:Value->Value->Sem Value}{g:Int->Int->Int}
  (a:∀(i j:Int) (t u:Tok) (s:Shared) (Q:Value->Shared->Prop) (E:Value->Shared->Prop),Q (.int (g i j) s.toks) {s with toks:=s.toks+1}->wpAny (model X.prog X.w) X.A (f (.int i t) (.int j u)) Q E s) :
  OpR X f (rI0 λi j=>.int (g i j)):=by
 intro b s k H x y v u Q I c d h;let⟨i,j,rfl,rfl,q⟩:=h;let⟨t,rfl⟩:=c;let⟨e,rfl⟩:=d;exact a i j t e s _ _ ⟨.int (g i j),H,I.tok _,⟨_,rfl⟩,q⟩
def opB0{f:Value->Value->Sem Value}{g:Int->Int->Bool}
  (a:∀(i j:Int) (t u:Tok) (s:Shared) (Q:Value->Shared->Prop) (E:Value->Shared->Prop),Q (.bool (g i j)) s->wpAny (model X.prog X.w) X.A (f (.int i t) (.int j u)) Q E s) :
  OpR X f (rI0 λi j=>.bl (g i j)):=by
 intro b s k H x y v u Q I c d h;let⟨i,j,rfl,rfl,q⟩:=h;let⟨t,rfl⟩:=c;let⟨e,rfl⟩:=d;exact a i j t e s _ _ ⟨.bl (g i j),H,I,rfl,q⟩
def CPow(i j:Int):Prop:=0<=j/\j<=1000000/\i.natAbs<2^64
def qC:OpR X (binaryOp .Add) (rI0 λi j=>.int (i+j)):=opI0 λ_ _ _ _ _ _ _ q=>add_int q
def qE:OpR X (binaryOp .Sub) (rI0 λi j=>.int (i-j)):=opI0 λ_ _ _ _ _ _ _ q=>sub_int q
def JX:OpR X (binaryOp .Mod) (rI (λ_ j=>0<j) λi j=>.int (i%j)):=opI λi j _ _ _ _ _ a q=>by
 have b:(0:Int)<j:=a;exact mod_int' ⋯ (by rw[Int.fmod_eq_emod_of_nonneg i ⋯];exact q)
def YR:OpR X (binaryOp .Pow) (rI CPow λi j=>.int (i^j.toNat)):=opI λ_ _ _ _ _ _ _ a q=>pow_int_small a.1 a.2.1 a.2.2 q
def unI{f:Value->Sem Value}{g:Int->Int}
  (a:∀(i:Int) (t:Tok) (s:Shared) (Q:Value->Shared->Prop) (E:Value->Shared->Prop),Q (.int (g i) s.toks) {s with toks:=s.toks+1}->wpAny (model X.prog X.w) X.A (f (.int i t)) Q E s) :
  UnR X f (rU λi=>.int (g i)):=by
 intro b s d H x v Q I c h;let⟨i,rfl,q⟩:=h;let⟨t,rfl⟩:=c;exact a i t s _ _ ⟨.int (g i),H,I.tok _,⟨_,rfl⟩,q⟩
def zI:UnR X (unaryOp .USub) (rU λi=>.int (-i)):=unI λ_ _ _ _ _ q=>neg_int q
end
noncomputable def scal:V->V->Bool
 | .non,.non=>true | .non,.int _=>true | .int _,.non=>true | .non,.bl _=>true | .bl _,.non=>true | .non,.str _=>true | .str _,.non=>true
 | .int _,.int _=>true | .bl _,.bl _=>true | .str _,.str _=>true | .byt _,.byt _=>true
 | .int _,.str _=>true | .str _,.int _=>true | .bl _,.str _=>true | .str _,.bl _=>true
 | _,_=>false
def rEq:R2:=λx y H Q=>scal x y=true/\Q (.bl (decide (x=y))) H
def rNe:R2:=λx y H Q=>scal x y=true/\Q (.bl (!decide (x=y))) H
def j1m:decide (V.int i=V.int j)=(i==j):=by
 rw[Bool.eq_iff_iff];simp
def j3x:decide (V.bl i=V.bl j)=(i==j):=by
 rw[Bool.eq_iff_iff];simp
def j1n:decide (V.str i=V.str j)=(i==j):=by
 rw[Bool.eq_iff_iff];simp
def j1l:decide (V.byt i=V.byt j)=(i.toList==j.toList):=by
 rw[Bool.eq_iff_iff];cases i;cases j;simp
section
variable{X:Cx}{a b c:Expr}{ta tb tc:TE}{pos:Pos}
def jH{a:St}{H:Hp}(I:Inv X pins a H s)(q:Q (.bl k) H)(e:k=k'):EP X pins a Q (.bool k') s:=by
 subst e;exact⟨.bl k,H,I,rfl,q⟩
def JV:OpR X (compareOp .Eq) rEq:=by
 intro e s f H x y v u Q I d a h;let⟨c,q⟩:=h;cases x with
 | non=>
  cases d;cases y with
  | non=>cases a;exact PySem.EqNone.eq_none_none (jH I q (by simp))
  | bl j=>cases a;exact PySem.EqNone.eq_none_bool (jH I q (by simp))
  | int j=>let⟨b,rfl⟩:=a;exact PySem.EqNone.eq_none_int (jH I q (by simp))
  | str j=>let⟨b,rfl⟩:=a;exact PySem.EqNone.eq_none_str (jH I q (by simp))
  | _=>exact uh (show false=true from c) vH
 | bl i=>
  cases d;cases y with
  | non=>cases a;exact PySem.EqNone.eq_bool_none (jH I q (by simp))
  | bl j=>cases a;exact eq_bool (jH I q j3x)
  | str j=>let⟨b,rfl⟩:=a;exact PySem.EqMixed.eq_bool_str (jH I q (by simp))
  | _=>exact uh (show false=true from c) vH
 | int i=>
  let⟨t,rfl⟩:=d;cases y with
  | non=>cases a;exact PySem.EqNone.eq_int_none (jH I q (by simp))
  | int j=>let⟨b,rfl⟩:=a;exact eq_int (jH I q j1m)
  | str j=>let⟨b,rfl⟩:=a;exact PySem.EqMixed.eq_int_str (jH I q (by simp))
  | _=>exact uh (show false=true from c) vH
 | str i=>
  let⟨t,rfl⟩:=d;cases y with
  | non=>cases a;exact PySem.EqNone.eq_str_none (jH I q (by simp))
  | bl j=>cases a;exact PySem.EqMixed.eq_str_bool (jH I q (by simp))
  | int j=>let⟨b,rfl⟩:=a;exact PySem.EqMixed.eq_str_int (jH I q (by simp))
  | str j=>let⟨b,rfl⟩:=a;exact eq_str (jH I q j1n)
  | _=>exact uh (show false=true from c) vH
 | byt i=>
  let⟨t,rfl⟩:=d;cases y with
  | byt j=>let⟨b,rfl⟩:=a;exact PySem.W.eq_bytes (jH I q j1l)
  | _=>exact uh (show false=true from c) vH
 | _=>cases y<;>exact uh (show false=true from c) vH
def kc:OpR X (compareOp .NotEq) rNe:=by
 intro e s f H x y v u Q I d a h;let⟨c,q⟩:=h;cases x with
 | non=>
  cases d;cases y with
  | non=>cases a;exact PySem.EqNone.ne_none_none (jH I q (by simp))
  | bl j=>cases a;exact PySem.EqNone.ne_none_bool (jH I q (by simp))
  | int j=>let⟨b,rfl⟩:=a;exact PySem.EqNone.ne_none_int (jH I q (by simp))
  | str j=>let⟨b,rfl⟩:=a;exact PySem.EqNone.ne_none_str (jH I q (by simp))
  | _=>exact uh (show false=true from c) vH
 | bl i=>
  cases d;cases y with
  | non=>cases a;exact PySem.EqNone.ne_bool_none (jH I q (by simp))
  | bl j=>cases a;exact ne_bool (jH I q (congrArg not j3x))
  | str j=>let⟨b,rfl⟩:=a;exact PySem.EqMixed.ne_bool_str (jH I q (by simp))
  | _=>exact uh (show false=true from c) vH
 | int i=>
  let⟨t,rfl⟩:=d;cases y with
  | non=>cases a;exact PySem.EqNone.ne_int_none (jH I q (by simp))
  | int j=>let⟨b,rfl⟩:=a;exact ne_int (jH I q (congrArg not j1m))
  | str j=>let⟨b,rfl⟩:=a;exact PySem.EqMixed.ne_int_str (jH I q (by simp))
  | _=>exact uh (show false=true from c) vH
 | str i=>
  let⟨t,rfl⟩:=d;cases y with
  | non=>cases a;exact PySem.EqNone.ne_str_none (jH I q (by simp))
  | bl j=>cases a;exact PySem.EqMixed.ne_str_bool (jH I q (by simp))
  | int j=>let⟨b,rfl⟩:=a;exact PySem.EqMixed.ne_str_int (jH I q (by simp))
  | str j=>let⟨b,rfl⟩:=a;exact ne_str (jH I q (congrArg not j1n))
  | _=>exact uh (show false=true from c) vH
 | byt i=>
  let⟨t,rfl⟩:=d;cases y with
  | byt j=>let⟨b,rfl⟩:=a;exact PySem.W.ne_bytes (jH I q (congrArg not j1l))
  | _=>exact uh (show false=true from c) vH
 | _=>cases y<;>exact uh (show false=true from c) vH
def XF:OpR X (compareOp .Lt) (rI0 λi j=>.bl (decide (i<j))):=opB0 λ_ _ _ _ _ _ _ q=>lt_int q
def Q7:OpR X (compareOp .LtE) (rI0 λi j=>.bl (decide (i<=j))):=opB0 λ_ _ _ _ _ _ _ q=>le_int q
def ZT:OpR X (compareOp .Gt) (rI0 λi j=>.bl (decide (j<i))):=opB0 λ_ _ _ _ _ _ _ q=>gt_int q
def j2S:OpR X (compareOp .In) (λx y H Q=>∃i j,x = .str i/\y = .str j/\Q (.bl (!(Builtin.Str.occurrences j i 0 j.length 1).isEmpty)) H):=by
 intro a s e H x y v u Q I b c h;let⟨i,j,rfl,rfl,q⟩:=h;let⟨t,rfl⟩:=b;let⟨d,rfl⟩:=c;exact in_str (jH I q rfl)
def KF:OpR X (compareOp .Is) (λx y H Q=>y = .non/\Q (.bl (decide (x = .non))) H):=by
 intro a s d H x y v u Q I b c h;let⟨rfl,q⟩:=h;cases c;refine is_none_gen (jH I q ?_);cases x<;>first
  | (cases b;rfl)
  | (let⟨t,rfl⟩:=b;rfl)
def j5G:OpR X (compareOp .IsNot) (λx y H Q=>y = .non/\Q (.bl (!decide (x = .non))) H):=by
 intro a s d H x y v u Q I b c h;let⟨rfl,q⟩:=h;cases c;refine isnot_none_gen (jH I q ?_);cases x<;>first
  | (cases b;rfl)
  | (let⟨t,rfl⟩:=b;rfl)
def nomark(b:Expr)(h:op≠.In:=by decide)(d:op≠.NotIn:=by decide):behindInMarks op b=false:=by
 have a:(op==CmpOp.In)=false:=by cases op<;>first | rfl | exact uh rfl h
 have c:(op==CmpOp.NotIn)=false:=by cases op<;>first | rfl | exact uh rfl d
 cases b<;>simp[behindInMarks,a,c]
def xb(j:OpR X (compareOp op) r)(f:PE X a ta)(g:PE X b tb)(i:behindInMarks op b=false):PE X (.Compare a [op] [b] pos) (tOp r ta tb):=by
 intro c s n H Q I h;exact wpAny_Compare1 (binT f g I h λv u m x y d e k l q=>j c m n d x y v u Q e k l q) i
def tTest(t:TE):TT:=λσ H Q=>t σ H λx H'=>∃k,x = .bl k/\Q k H'
def jk(t:OpR X (compareOp op) r)(o:PE X a ta)(p:PE X b tb)(q:behindInMarks op b=false):PT X (.Compare a [op] [b] pos) (tTest (tOp r ta tb)):=by
 intro d s f H Q I h;refine wpAny_isTrue_Compare1 (thn (o d s f H _ I h) λv F ⟨x,g,l,C,w⟩=>thn (p d F f g _ l w) λu G ⟨y,i,m,D,A⟩=>
  thn (t d G f i x y v u _ m C D A) λc J ⟨z,j,n,E,k,e,B⟩=>?_) q
 subst e;cases E;exact wpAny_truthy_bool ⟨j,n,B⟩
def tChain(r r':R2)(ta tb tc:TE):TE:=λσ H Q=>ta σ H λx H1=>tb σ H1 λy H2=>r x y H2 λz H3=>∃k,z = .bl k/\
 (if k=true then tc σ H3 λw' H4=>r' y w' H4 Q else Q (.bl false) H3)
def j4e{op g:CmpOp}{r o:R2}(J:OpR X (compareOp op) r)(j:OpR X (compareOp g) o)(D:PE X a ta)(E:PE X b tb)(F:PE X c tc)
  (G:lastMarks [op,g] [b,c]=false:=by with_unfolding_all rfl):PE X (.Compare a [op,g] [b,c] pos) (tChain r o ta tb tc):=by
 intro f s i H Q I h;refine Compare_chain (thn (D f s i H _ I h) λv R ⟨x,q,A,N,K⟩=>chain_link (thn (E f R i q _ A K) λu S ⟨y,t,B,p,L⟩=>
  thn (J f S i t x y v u _ B N p L) λd T ⟨z,l,m,O,k,e,n⟩=>?_)) G
 subst e;cases O;refine wpAny_truthy_bool ?_;cases k with
 | false=>exact ite_ff ⟨.bl false,l,m,rfl,n⟩
 | true=>exact ite_tt (chain_last (thn (F f T i l _ m n) λW U ⟨Y,w,C,P,M⟩=>j f U i w y Y u W Q C p P M))
def Zm(L:OpR X (compareOp op) r)(i:OpR X (compareOp op') r')(F:PE X a ta)(G:PE X b tb)(J:PE X c tc)
  (K:lastMarks [op,op'] [b,c]=false:=by with_unfolding_all rfl):PT X (.Compare a [op,op'] [b,c] pos) (tTest (tChain r r' ta tb tc)):=by
 intro f s g H Q I h;refine isTrue_chain (thn (F f s g H _ I h) λv Y ⟨x,o,w,S,N⟩=>test_link (thn (G f Y g o _ w N) λu Z ⟨y,p,A,n,O⟩=>
  thn (L f Z g p x y v u _ A S n O) λd s3 ⟨z,j,l,T,k,e,m⟩=>?_)) K
 subst e;cases T;refine wpAny_truthy_bool ?_;cases k with
 | false=>
  let⟨k',D,M⟩:=m;cases D;exact ite_ff ⟨j,l,M⟩
 | true=>
  refine ite_tt (test_last (thn (J f s3 g j _ l m) λw' s4 ⟨z',q,B,U,P⟩=>thn (i f s4 g q y z' u w' _ B n U P) λd' s5 ⟨z2,t,C,W,k2,E,R⟩=>?_));subst E;cases W;exact wpAny_truthy_bool ⟨t,C,R⟩
def TruV(K:Frg)(x:V)(H:Hp)(k:Bool):Prop:=
 match x with
 | .non=>k=false
 | .bl b=>k=b
 | .int i=>k=(i != 0)
 | .str y=>y.length<=sizeLine/\k=((y.length:Int) != 0)
 | .byt y=>y.size<=sizeLine/\k=((y.size:Int) != 0)
 | .ref p=>(∃xs,SqL K H p xs/\k = !xs.isEmpty)\/(∃xs,SqT K H p xs/\k = !xs.isEmpty)\/∃kvs,H p=some (.dK kvs)/\k = !kvs.isEmpty
 | _=>False
def j0q{κ:Type}{kvs:List (κ×V)}{vs:List (κ×Value)}(r:KV kvs vs):(!vs.isEmpty) = !kvs.isEmpty:=by
 cases r<;>rfl
def Kt{xs:N6}{a:N4}(r:Vals xs a):(!a.toArray.isEmpty) = !xs.isEmpty:=by
 cases r<;>simp
def line63:(sizeLine:Nat)<2^63:=by rw[sizeLine_eq];decide
def j71:TruR X (λx H Q=>∃k,TruV X.K x H k/\Q k H):=by
 intro w s D H x v Q I g h;let⟨k,e,q⟩:=h;have B:=line63;have C:sizeLine=16777216:=sizeLine_eq;cases x with
 | non=>
  cases g;have a:k=false:=e;subst a;exact truthy_none ⟨H,I,q⟩
 | bl b=>
  cases g;have a:k=b:=e;subst a;exact wpAny_truthy_bool ⟨H,I,q⟩
 | int i=>
  let⟨t,rfl⟩:=g;have a:k=(i != 0):=e;subst a;exact PySem.P.truthy_int ⟨H,I,q⟩
 | str y=>
  let⟨t,rfl⟩:=g;obtain⟨A,a⟩:y.length<=sizeLine/\k=((y.length:Int) != 0):=e;subst a;exact PySem.P.truthy_str ⋯ ⟨H,I.tok _,q⟩
 | byt y=>
  let⟨t,rfl⟩:=g;obtain⟨A,a⟩:y.size<=sizeLine/\k=((y.size:Int) != 0):=e;subst a;exact PySem.W.truthy_bytes ⋯ ⟨H,I.tok _,q⟩
 | ref p=>
  cases g;have a:(∃f,SqL X.K H p f/\k = !f.isEmpty)\/(∃f,SqT X.K H p f/\k = !f.isEmpty)\/∃c,H p=some (.dK c)/\k = !c.isEmpty:=e;rcases a with⟨f,j,a⟩ | ⟨f,j,a⟩ | ⟨c,j,a⟩
  .subst a;let⟨n,r,o,u⟩:=I.list j;have d:=r.length;exact wpAny_truthy_list o.isList (by simp only[size_toArray];lia) ⟨H,I.tok _,by rw[Kt r];exact q⟩
  .subst a;let⟨n,r,o,u⟩:=I.tuple j;have d:=r.length;exact truthy_tuple o (by simp only[size_toArray];lia) ⟨H,I.tok _,by rw[Kt r];exact q⟩
  .subst a;obtain⟨u,z,l,r,m⟩:c.length<=sizeLine/\(p==sysModules)=false/\∃l,KV c l/\s.heap.DictOf (mixKind X.prog X.w) p l:=I.hok p _ j;have d:c.length=l.length:=Paired.length r;exact wpAny_truthy_dict z m ⋯ ⟨H,I.tok _,by rw[j0q r];exact q⟩
 | _=>exact(show False from e).elim
def j4l(f:PE X a ta)(g:∀b,isTrue a X.env b=(do let v <-b;standAt a.pos;holding [v] (truthy v))) :
  PT X a (λσ H Q=>ta σ H λx H'=>∃k,TruV X.K x H' k/\Q k H'):=by
 intro c s σ H Q I h;exact isTrue_plain (thn (f c s σ H _ I h) λv l ⟨x,d,e,j,i⟩=>j71 c l σ d x v Q e j i) (g _)
def jI:OpR X (binaryOp .Add) (λx y H Q=>∃i j,x = .str i/\y = .str j/\i.length+j.length<=sizeLine/\Q (.str (i++j)) H):=by
 intro a s g H x y v u Q I c d h;let⟨i,j,rfl,rfl,b,q⟩:=h;let⟨t,rfl⟩:=c;let⟨e,rfl⟩:=d;exact add_str (λe f=>⟨.str (i++j),H,I.tok _,⟨_,rfl⟩,q⟩) b
def vals1(r:Vals [x] us):∃u,us=[u]/\RelV x u:=by
 cases r with
 | cons r1 r2=>cases r2;exact⟨_,rfl,r1⟩
def vals2(r:Vals [x,y] us):∃u a,us=[u,a]/\RelV x u/\RelV y a:=by
 cases r with
 | cons r1 r2=>
  cases r2 with
  | cons r3 r4=>cases r4;exact⟨_,_,rfl,r1,r3⟩
def j2l(c:X.calm=true):CallR X (.builtin "max") (λxs H Q=>∃i j,xs=[.int i,.int j]/\Q (.int (if j>i then j else i)) H):=by
 intro b s m H xs g Q I r h;let⟨i,j,rfl,q⟩:=h;let⟨u,l,rfl,⟨t,rfl⟩,⟨e,rfl⟩⟩:=vals2 r;refine max_two_ints (I.ok.hd c) λd f k=>⟨_,H,I.kept k,?_,q⟩
 by_cases a:j>i
 .rw[vc a,vc a];exact⟨_,rfl⟩
 .rw[va a,va a];exact⟨_,rfl⟩
def j2n(c:X.calm=true):CallR X (.builtin "min") (λxs H Q=>∃i j,xs=[.int i,.int j]/\Q (.int (if j<i then j else i)) H):=by
 intro b s m H xs g Q I r h;let⟨i,j,rfl,q⟩:=h;let⟨u,l,rfl,⟨t,rfl⟩,⟨e,rfl⟩⟩:=vals2 r;refine min_two_ints (I.ok.hd c) λd f k=>⟨_,H,I.kept k,?_,q⟩
 by_cases a:j<i
 .rw[vc a,vc a];exact⟨_,rfl⟩
 .rw[va a,va a];exact⟨_,rfl⟩
def LenV(K:Frg)(x:V)(H:Hp)(n:Nat):Prop:=
 match x with
 | .str y=>y.length<=sizeLine/\n=y.length
 | .byt y=>y.size<=sizeLine/\n=y.size
 | .ref p=>(∃xs,SqL K H p xs/\n=xs.length)\/∃xs,SqT K H p xs/\n=xs.length
 | _=>False
def jD:CallR X (.builtin "len") (λxs H Q=>∃x n,xs=[x]/\LenV X.K x H n/\Q (.int n) H):=by
 intro j s w H xs v Q I r h;let⟨x,n,rfl,e,q⟩:=h;let⟨u,rfl,i⟩:=vals1 r;have m:=line63;have o:sizeLine=16777216:=sizeLine_eq;cases x with
 | str y=>
  let⟨t,rfl⟩:=i;obtain⟨k,b⟩:y.length<=sizeLine/\n=y.length:=e;subst b;exact len_str ⋯ ⟨.int _,H,I.tok _,⟨_,rfl⟩,q⟩
 | byt y=>
  let⟨t,rfl⟩:=i;obtain⟨k,b⟩:y.size<=sizeLine/\n=y.size:=e;subst b;exact PySem.W.len_bytes ⋯ ⟨.int _,H,I.tok _,⟨_,rfl⟩,q⟩
 | ref p=>
  cases i;have b:(∃xs,SqL X.K H p xs/\n=xs.length)\/∃xs,SqT X.K H p xs/\n=xs.length:=e;rcases b with⟨xs,c,b⟩ | ⟨xs,c,b⟩
  .subst b;let⟨d,g,f,l⟩:=I.list c;have a:=g.length;exact Calls.call_len_list f.isList (by simp only[size_toArray];lia) ⟨.int xs.length,H,I.tok _,⟨_,by simp only[size_toArray];rw[a]⟩,q⟩
  .subst b;let⟨d,g,f,l⟩:=I.tuple c;have a:=g.length;exact len_tuple f (by simp only[size_toArray];lia) ⟨.int xs.length,H,I.tok _,⟨_,by simp only[size_toArray];rw[a]⟩,q⟩
 | _=>exact(show False from e).elim
end
structure ObjM(h:Heap)(x dx C:Addr)(mA:Str->Option Value):Prop where
 obj:h.get? x=some (PySem.W.instObj C dx)
 ns:h.Ns1 dx mA
 ne:dx≠x
def j2G{h:Heap}{c:Addr}{f:Str->Option Value}(n:h.Ns1 c f):∃g,h.get? c=some g/\∀name,PySem.W.lookIn name g=some (f name):=by
 let⟨o,d,r,m,j,k,_,l⟩:=n;refine⟨o,m,λname=>?_⟩;have e:=l name;unfold nsFind findBy at e;rw[<-Array.find?_toList]at e;unfold PySem.W.lookIn;rw[j];dsimp only;split
 .rename_i y q;rw[q]at e;exact congrArg some e
 .rename_i q;rw[q]at e;have a:d.toList.any (·.refKey)=false:=by
   rw[any_eq_false];intro y p;let⟨z,t,b⟩:=k y (Array.mem_toList_iff.mp p);simp[DictEntry.refKey,b]
  have i:¬d.toList.any (·.refKey)=true:=by rw[a];exact vH
  rw[va i];exact congrArg some e
def ObjM.look{b:Str->Option Value}(I:ObjM h x dx C b):∃a,PySem.W.InstAt h x (PySem.W.instObj C dx) C (some a)/\∀name,PySem.W.lookIn name a=some (b name):=
 let ⟨a,ho,hl⟩:=j2G I.ns
 ⟨a,⟨I.obj,rfl,rfl,ho⟩,hl⟩
section
variable{prog:Program}{w:World}{A:Around}{E:Value->Shared->Prop}{s:Shared}{K:Frg}{x dx C f:Addr}{mA:Str->Option Value}{name:Str}{v:Value}
def j5j{Q:Value->Shared->Prop}(X:K.In s.heap)(I:ObjM s.heap x dx C mA)(c:PySem.W.plainGet K C name=true)(d:PySem.W.hasDictIn K C=true)
  (b:PySem.W.findIn K (.ref C) name=some none) (f:mA name=some v) (a:PySem.W.handedIn v=true) (h:Q v {s with toks:=s.toks+1}) :
  wpAny (model prog w) A (getAttr (.ref x) name expr) Q E s:=by
 let⟨g,J,e⟩:=I.look;exact PySem.W.get_value X J (PySem.W.plainGet_of c).1 (PySem.W.findObj_own d b rfl (by rw[e,f])) a h
def j3D{Q:Value×N4->Shared->Prop}(X:K.In s.heap)(I:ObjM s.heap x dx C mA)(a:PySem.W.plainGet K C name=true)
  (b:PySem.W.findIn K (.ref C) name=some (some (.ref f))) (d:PySem.W.isFn K (.ref f)=true) (e:mA name=none) (h:Q (.ref f,[.ref x]) s) :
  wpAny (model prog w) A (getMethod (.ref x) name pl) Q E s:=by
 let⟨g,J,c⟩:=I.look;exact PySem.W.method_fn X J (PySem.W.plainGet_of a).1 (PySem.W.plainGet_of a).2 b (beq_iff_eq.mp d) (by show(PySem.W.lookIn name g).map (·.isSome)=some false;rw[c,e];rfl) h
def j5T{Q:Unit->Shared->Prop}(X:K.In s.heap)(I:ObjM s.heap x dx C mA)
  (o:PySem.W.findIn K (.ref C) "__setattr__"= some (some (.builtin "object.__setattr__"))) (n:PySem.W.plainOver K C=true) (p:PySem.W.takerIn K C name=some none) (m:PySem.W.hasDictIn K C=true)
  (hw:PySem.Within mA ns) (hsz:ns.length<=sizeLine)
  (h:∀h',ObjM h' x dx C (λy=>if y=name then some v else mA y)->Heap.SameBut dx s.heap h'->Q () {s with heap:=h',toks:=s.toks+2}) :
  wpAny (model prog w) A (setAttr (.ref x) name v) Q E s:=by
 let⟨B,J,u⟩:=I.look;refine PySem.W.set_plain X J o (PySem.W.osa_open (s:={s with toks:=s.toks+1}) (r:=none) X J n p λb=>?_);let⟨t,l,f⟩:=PySem.W.any_some m;have q:s.heap.get? x=some ⟨.ref C,some dx,.plain,#[]⟩:=I.obj;refine uj (ui (uj (uj (wpAny_loadPart q (uj (PySem.W.Looks.here (s:={s with toks:=s.toks+1}) (PySem.W.looks_clsIn X l) ?_))))));rw[f];refine ui (a:=some dx) (uj (ui (uj ?_)));refine wpAny_nsSet1 (s:={s with toks:=s.toks+1}) I.ns λh' c d=>?_
 let⟨z,k,j,i,g,e⟩:=c.count (PySem.Within.cons name v hw);refine uj (wpAny_lookBehind i (by rw[g];exact pastItsLine_dict (vX e (by rw[vR];lia))) ?_);exact ui (h _ ⟨(d.2 _ (Ne.symm I.ne)).trans I.obj,c,I.ne⟩ d)
def j3O{R:Result->Shared->Prop}(X:K.In s.heap)(c:PySem.W.makesIn K C=true)
  (hi:PySem.W.findIn K (.ref C) "__init__"= some (some (.ref f))) (b:PySem.W.typeIn K (.ref f)=some (.type "function"))
  (h:codeAny (model prog w) (A.under (.builtin "type.__call__" ⟨.ref C::vs,kw⟩)) (.call (.ref f) ⟨.ref (s.heap.objs.size+1)::vs,kw⟩) (PySem.W.InitBack (s.heap.objs.size+1) R)
   {s with heap:=(s.heap.push PySem.W.emptyDict).push (PySem.W.instObj C s.heap.objs.size)}) :
  codeAny (model prog w) A (.call (.ref C) ⟨vs,kw⟩) R s:=by
 let⟨e,g,d,t,i⟩:=s;exact PySem.W.make_core (PySem.W.makes_of X c) (PySem.W.looks_findIn X hi) (λa=>PySem.W.bind_fn X a b) (.inl rfl) h
end
noncomputable def putF(f:Str)(v:V):List (Str×V)->List (Str×V)
 | []=>[(f,v)]
 | (g,x)::r=>if g=f then(g,v)::r else(g,x)::putF f v r
theorem qm(f g:Str)(v:V):∀fs:List (Str×V),(putF f v fs).lookup g=if g=f then some v else fs.lookup g
 | []=>by
  show List.lookup g [(f,v)]=_;by_cases h:g=f
  .have a:(g==f)=true:=beq_iff_eq.mpr h;simp only[List.lookup,a,if_pos h]
  .have a:(g==f)=false:=beq_eq_false_iff_ne.mpr h;simp only[List.lookup,a,if_neg h]
 | (k,x)::r=>by
  have c:=qm f g v r;rw[show putF f v ((k,x)::r)=(if k=f then(k,v)::r else(k,x)::putF f v r)from rfl];by_cases b:k=f
  .rw[vc b];by_cases h:g=k
   .have a:(g==k)=true:=beq_iff_eq.mpr h;simp only[List.lookup,a,if_pos (h.trans b)]
   .have a:(g==k)=false:=beq_eq_false_iff_ne.mpr h;simp only[List.lookup,a,if_neg (λe:g=f=>h (e.trans b.symm))]
  .rw[va b];by_cases h:g=k
   .have a:(g==k)=true:=beq_iff_eq.mpr h;simp only[List.lookup,a,if_neg (λe:g=f=>b (h.symm.trans e))]
   .have a:(g==k)=false:=beq_eq_false_iff_ne.mpr h;simp only[List.lookup,a];exact c
theorem YG(f:Str)(v:V):∀fs:List (Str×V),f∈(putF f v fs).map (·.1)/\∀g,g∈fs.map (·.1)->g∈(putF f v fs).map (·.1)
 | []=>⟨by simp[putF],λg h=>by simp at h⟩
 | (k,x)::r=>by
  let⟨b,c⟩:=YG f v r;rw[show putF f v ((k,x)::r)=(if k=f then(k,v)::r else(k,x)::putF f v r)from rfl];by_cases a:k=f
  .rw[vc a];subst a;exact⟨by simp,λg h=>by simpa using h⟩
  .rw[va a];refine⟨?_,λg h=>?_⟩
   .rw[v9];exact vp _ b
   .rw[v9]at h|-;rcases mem_cons.mp h with e | e
    .exact mem_cons.mpr (.inl e)
    .exact vp _ (c g e)
theorem Y9(f:Str)(v:V):∀fs:List (Str×V),(putF f v fs).length<=fs.length+1
 | []=>by simp[putF]
 | (k,x)::r=>by
  have b:=Y9 f v r;rw[show putF f v ((k,x)::r)=(if k=f then(k,v)::r else(k,x)::putF f v r)from rfl];by_cases a:k=f
  .rw[vc a,vR,vR];lia
  .rw[va a,vR,vR];lia
def RelO.some_of(r:RelO (some v) o):∃u,o=some u/\RelV v u:=by
 cases o with
 | none=>exact(show False from r).elim
 | some u=>exact⟨u,rfl,r⟩
def RelO.none_of(r:RelO none o):o=none:=by
 cases o with
 | none=>rfl
 | some u=>exact(show False from r).elim
def j2x(r:RelV v u):PySem.W.handedIn u=true:=by
 cases v with
 | non=>cases(show u=Value.none from r);rfl
 | bl b=>cases(show u=Value.bool b from r);rfl
 | int i=>let⟨t,e⟩:=(show∃t,u=Value.int i t from r);cases e;rfl
 | str x=>let⟨t,e⟩:=(show∃t,u=Value.str x t from r);cases e;rfl
 | byt b=>let⟨t,e⟩:=(show∃t,u=Value.bytes b t from r);cases e;rfl
 | flt b=>let⟨t,e⟩:=(show∃t,u=Value.float b t from r);cases e;rfl
 | ref a=>cases(show u=Value.ref a from r);rfl
 | ty n=>cases(show u=Value.type n from r);rfl
section
variable{P:Program}{w:World}{H H':Hp}{h h':Heap}{a C dx:Addr}{fs fs':List (Str×V)}
def WN(b:HOk P w H h)(e:H a=some (.ins C dx fs)):∃mA,ObjM h a dx C mA/\(∀f,RelO (fs.lookup f) (mA f))/\PySem.Within mA (fs.map (·.1))/\fs.length<=1000/\H dx=some (.own a):=by
 let⟨d,z,c,g,mA,n,r,q⟩:=(show ObjOk P w H h a (.ins C dx fs)from b a _ e)
 exact⟨mA,⟨g,n,c⟩,r,q,z,d⟩
end
structure Cls(K:Frg)(C:Addr):Prop where
 pg:PySem.W.plainGet K C Str.empty=true
 hd:PySem.W.hasDictIn K C=true
 po:PySem.W.plainOver K C=true
 sa:PySem.W.findIn K (.ref C) "__setattr__"= some (some (.builtin "object.__setattr__"))
def Cls.get{K:Frg}{C:Addr}(c:Cls K C)(f:Str):PySem.W.plainGet K C f=true:=c.pg
def NoAttr(K:Frg)(C:Addr)(f:Str):Prop:=PySem.W.findIn K (.ref C) f=some none
def NoAttr.taker{K:Frg}{C:Addr}{f:Str}(n:NoAttr K C f):PySem.W.takerIn K C f=some none:=by
 unfold PySem.W.takerIn;rw[show PySem.W.findIn K (.ref C) f=some none from n];rfl
structure Meth(K:Frg)(C:Addr)(m:Str)(f:Addr):Prop where
 at_:PySem.W.findIn K (.ref C) m=some (some (.ref f))
 fn:PySem.W.isFn K (.ref f)=true
 kp:PySem.W.keepIn K (.ref f)=true
section
variable{X:Cx}{pins:List (Addr×Obj)}{σ:St}{H:Hp}{s:Shared}{a C dx:Addr}{fs:List (Str×V)}{f:Str}{v:V}{A:Around}{E:Value->Shared->Prop}
def j0o{Q:Value->Shared->Prop}(I:Inv X pins σ H s)(e:H a=some (.ins C dx fs))(c:Cls X.K C)(n:NoAttr X.K C f)(l:fs.lookup f=some v)
  (h:∀u s',Inv X pins σ H s'->RelV v u->Q u s'):wpAny (model X.prog X.w) A (getAttr (.ref a) f b) Q E s:=by
 let⟨i,O,r,_,_,_⟩:=WN I.hok e;let⟨u,g,d⟩:=RelO.some_of (v:=v) (o:=i f) (by rw[<-l];exact r f);exact j5j I.kIn O (c.get f) c.hd n g (j2x d) (h u _ (I.tok _) d)
def j0p{Q:Value×N4->Shared->Prop}(I:Inv X pins σ H s)(e:H a=some (.ins C dx fs))(c:Cls X.K C)(k:Meth X.K C m g)(l:fs.lookup m=none)
  (h:Q (.ref g,[.ref a]) s):wpAny (model X.prog X.w) A (getMethod (.ref a) m pl) Q E s:=by
 let⟨d,O,r,_,_,_⟩:=WN I.hok e;have b:d m=none:=RelO.none_of (by rw[<-l];exact r m);exact j3D I.kIn O (c.get m) k.at_ k.fn b h
def j13{Q:Unit->Shared->Prop}(I:Inv X pins σ H s)(e:H a=some (.ins C dx fs))(c:Cls X.K C)(n:NoAttr X.K C f)(D:fs.length<1000)(w:RelV y u)
  (h:∀s',Inv X pins σ (upd H a (.ins C dx (putF f y fs))) s'->Q () s'):wpAny (model X.prog X.w) A (setAttr (.ref a) f u) Q E s:=by
 let⟨j,O,r,k,_,i⟩:=WN I.hok e;have v:(fs.map (·.1)).length<=sizeLine:=by rw[vt,sizeLine_eq];lia
 refine j5T I.kIn O c.sa c.po n.taker c.hd k v λl d B=>h _ ?_
 have p:∃o,l.get? dx=some o:=let ⟨o,_,_,e',_⟩:=d.ns;⟨o,e'⟩;refine I.write (x:=a) (e:=dx) (by rw[e];exact True.intro) (.inr i) (λb q m z=>(B.2 b m).trans z) p ?_;refine⟨by rw[je O.ne];exact i,?_,O.ne,d.obj,_,d.ns,λg=>?_,λg t=>?_⟩
 .have:=Y9 f y fs;lia
 .show RelO ((putF f y fs).lookup g) (if g=f then some u else j g);rw[qm];by_cases q:g=f
  .rw[vc q,vc q];exact w
  .rw[va q,va q];exact r g
 .by_cases q:g=f
  .rw[q];exact(YG f y fs).1
  .refine(YG f y fs).2 g (k g λz=>t ?_);show(if g=f then some u else j g)=none;rw[va q];exact z
def Inv.made(I:Inv X pins σ H s):Inv X pins σ (upd (upd H s.heap.objs.size (.own (s.heap.objs.size+1))) (s.heap.objs.size+1) (.ins C s.heap.objs.size []))
  {s with heap:=(s.heap.push PySem.W.emptyDict).push (PySem.W.instObj C s.heap.objs.size)}:=by
 have c:(s.heap.push PySem.W.emptyDict).get? s.heap.objs.size=some PySem.W.emptyDict:=Heap.get?_push_size s.heap rfl;have g:((s.heap.push PySem.W.emptyDict).push (PySem.W.instObj C s.heap.objs.size)).get? (s.heap.objs.size+1)=some (PySem.W.instObj C s.heap.objs.size):=by
  have:=Heap.get?_push_size (s.heap.push PySem.W.emptyDict) (o:=PySem.W.instObj C s.heap.objs.size) rfl
  rwa [Heap.size_push]at this
 have h:(s.heap.push PySem.W.emptyDict).Ns s.heap.objs.size (λ_=>none):=⟨PySem.W.emptyDict,#[],_,c,rfl,(λe i=>uh i (by simp)),λ_=>rfl⟩
 have f:=I.laid (a:=s.heap.objs.size) (o:=.own (s.heap.objs.size+1)) (h':=s.heap.push PySem.W.emptyDict) (t':=s.toks) (λb u q=>vL _ q) (vA _) ⟨_,c⟩;refine f.laid (a:=s.heap.objs.size+1) (o:=.ins C s.heap.objs.size []) (t':=s.toks) (λb u q=>vL _ q) (Nat.le_of_eq (Heap.size_push _ _)) ?_;have d:s.heap.objs.size≠s.heap.objs.size+1:=vG (Nat.lt_succ_self _);refine⟨by rw[je d,jm],vB _,d,g,λ_=>none,(Heap.Ns1.of_empty h).at λo q=>vL _ q,λ_=>True.intro,λy j=>uh rfl j⟩
def j55{f:Str}{pos:Pos}{s:Shared}{Q:Value->Shared->Prop}(b:attributeBase e f env (eval e env)=eval e env)
  (h:wpAny (model prog w) A (eval e env) (λo a=>wpAny (model prog w) A (getAttr o f true) Q E a) E s):wpAny (model prog w) A (eval (.Attribute e f pos) env) Q E s:=
 Attribute_any_ h (by rw[arm_eval_Attribute,b])
end
def tFld(K:Frg)(ta:TE)(f:Str):TE:=λσ H Q=>ta σ H λx H1=>∃a C dx fs v,x = .ref a/\H1 a=some (.ins C dx fs)/\Cls K C/\NoAttr K C f/\fs.lookup f=some v/\Q v H1
def sFld(K:Frg)(ta tv:TE)(f:Str):TS:=λD σ H=>tv σ H λy H1=>ta σ H1 λx H2=>∃a C dx fs,x = .ref a/\H2 a=some (.ins C dx fs)/\Cls K C/\NoAttr K C f/\fs.length<1000/\
 D.nx σ (upd H2 a (.ins C dx (putF f y fs)))
section
variable{X:Cx}{o e value:Expr}{f:Str}{pos pos' tpos:Pos}{ta tv:TE}
def Jg(o:PE X e ta)(m:attributeBase e f X.env (eval e X.env)=eval e X.env):PE X (.Attribute e f pos) (tFld X.K ta f):=by
 intro b s t H Q I h;refine j55 m (thn (o b s t H _ I h) λu z z_=>?_);obtain⟨x,d,g,r,a,C,w,y,v,k,j,c,n,l,q⟩:=z_;subst k;obtain rfl:u=Value.ref a:=r;exact j0o g j c n l λB A i p=>⟨v,d,i,p,q⟩
def Qz(p:PE X o ta)(t:PE X value tv)(r:swapsWith value (some (.Attribute o f pos')) pos.line X.env=pure false):PS X (.Assign [.Attribute o f pos'] value pos) (sFld X.K ta tv f):=by
 intro b s d H D I h;refine plainObj_wpAny_Assign_Attribute (thn (t b s d H _ I h) λu A ⟨y,e,g,z,q⟩=>thn (p b A d e _ g q) λov G ⟨x,B,i,w,a,C,E,F,m,k,c,n,l,v⟩=>?_) r;subst m;obtain rfl:ov=Value.ref a:=w;exact j13 i k c n l z λJ j=>⟨d,_,j,v⟩
end
section
variable{X:Cx}{pins:List (Addr×Obj)}{σ:St}{H:Hp}{s:Shared}{A:Around}{E:Value->Shared->Prop}{Q:Value->Shared->Prop}{c:Value}{b:Bool}
end
structure Room(k:Nat)(A:Around):Prop where
 hd:A.handled=none
 dp:A.depth+3*k+5<recursionLimit
 un:A.units+16*k+200<cLine
def Room.mono(r:Room k A)(h:j<=k):Room j A:=⟨r.hd,by have:=r.dp;lia,by have:=r.un;lia⟩
def Room.deeper(r:Room (k+1) A)(env:Env):Room k (A.deeper env):=
 ⟨r.hd,by have:=r.dp;show A.depth+1+3*k+5<_;lia,by have:=r.un;show A.units+3+16*k+200<_;lia⟩
def j0v{A:Around}{C:Addr}{us:N4}{a:List (Str×Value)}:(A.under (.builtin "type.__call__" ⟨.ref C::us,a⟩)).depth=A.depth+1:=by
 first | rfl | simp[Around.under,Code.weight,Code.isCreation,Code.isGuard,Code.isCaller,Code.frames,Code.isFrame,guardIds]
def j0w{A:Around}{C:Addr}{us:N4}{a:List (Str×Value)}:(A.under (.builtin "type.__call__" ⟨.ref C::us,a⟩)).units=A.units+1:=by
 first | rfl | simp[Around.under,Code.cUnits,Code.frames,Code.isFrame]
def Room.make(r:Room (k+1) A)(C:Addr)(us:N4)(a:List (Str×Value)):Room k (A.under (.builtin "type.__call__" ⟨.ref C::us,a⟩)):=
 ⟨r.hd,by have:=r.dp;rw[j0v];lia,by have:=r.un;rw[j0w];lia⟩
def Room.depth(r:Room k A):A.depth<recursionLimit:=by have:=r.dp;lia
def Room.units(r:Room k A):A.units+64<cLine:=by have:=r.un;lia
def tNil:TA:=λ_ H Q=>Q [] H
def tCons(ta:TE)(tr:TA):TA:=λσ H Q=>ta σ H λx H1=>tr σ H1 λxs H2=>Q (x::xs) H2
section
variable{X:Cx}{e:Expr}{es:List Expr}{te:TE}{t:TA}{pos:Pos}
def jc:PA X [] tNil:=λ_ _ _ _ H Q I h=>Calls.spliced_nil ⟨[],H,I,.nil,h⟩
def ja(i:PE X e te)(j:PA X es t)(k:starEach (e::es) X.env=(false,eval e X.env)::starEach es X.env:=by rfl):PA X (e::es) (tCons te t):=by
 intro pos a s b H Q I h;rw[k];show wpAny _ _ (spliced ((false,eval e X.env)::backTo pos (starEach es X.env))) _ _ s;refine Calls.spliced_cons (thn (i a s b H _ I h) λu p z_=>?_);obtain⟨x,c,f,n,l⟩:=z_;exact thn (j pos a p b c _ f l) λv r ⟨q,d,g,o,m⟩=>⟨x::q,d,g,.cons n o,m⟩
def tTup(t:TA):TE:=λσ H Q=>t σ H λxs H1=>xs.length<=sizeLine/\∀p,H1 p=none->Q (.ref p) (upd H1 p (.tup xs))
def tLst(t:TA):TE:=λσ H Q=>t σ H λxs H1=>xs.length<=sizeLine/\∀p,H1 p=none->Q (.ref p) (upd H1 p (.lst xs))
def jQ{x1}(h:PA X es t):PE X (.Tuple es x1 pos) (tTup t):=by
 intro a s l H Q I i;refine wpAny_Tuple_spliced (thn (h pos a s l H _ I i) λj c ⟨k,d,f,r,z,q⟩=>⟨by rw[<-r.length];exact z,?_⟩);have g:d c.heap.objs.size=none:=f.hok.fresh (vA _);refine⟨.ref c.heap.objs.size,upd d c.heap.objs.size (.tup k),f.laid (t':=c.toks) (λb u e=>vL _ e) (vA _) ?_,rfl,q _ g⟩;exact⟨z,j,r,⟨_,Heap.get?_push_size _ rfl,rfl,_,rfl⟩⟩
def jJ(h:PA X es t):PE X (.List es pos) (tLst t):=by
 intro a s l H Q I i;refine wpAny_List_spliced (thn (h pos a s l H _ I i) λj c ⟨k,d,f,r,z,q⟩=>⟨by rw[<-r.length];exact z,?_⟩);have g:d c.heap.objs.size=none:=f.hok.fresh (vA _);refine⟨.ref c.heap.objs.size,upd d c.heap.objs.size (.lst k),f.laid (t':=c.toks) (λb u e=>vL _ e) (vA _) ?_,rfl,q _ g⟩;exact⟨z,j,0,r,Heap.get?_push_size _ rfl⟩
end
noncomputable abbrev Sp:=N6->Hp->VK->XK->Prop
noncomputable abbrev CXT:=List Env->Hp->Shared->XK->Value->Shared->Prop
structure Env0(P:Program)(w:World)(K:Frg)(mg:Str->Option Value)(base:Heap)(A:Around)(outer:List Env)(s:Shared)(H:Hp):Prop where
 frames:A.frames=some outer
 mod:Mod K mg base
 bs:∀b o,base.get? b=some o->s.heap.get? b=some o/\H b=none
 bsz:base.objs.size<=s.heap.objs.size
 funs:s.heap.FunFrames base outer
 frf:∀b∈frs outer,H b=none
 hok:HOk P w H s.heap
 bare:AllBare s.gens
def CE(outer:List Env)(P:Program)(w:World)(H:Hp)(s:Shared)(Q:VK)(u:Value)(s':Shared):Prop:=
 ∃v H',s'.os=s.os/\AllBare s'.gens/\Un (frs outer) [] H H' s.heap s'.heap/\HOk P w H' s'.heap/\RelV v u/\Q v H'
def CR(CX:CXT)(outer:List Env)(P:Program)(w:World)(H:Hp)(s:Shared)(Q:VK)(E:XK)(r:Result)(s':Shared):Prop:=
 match r with
 | .ok (.ret u)=>CE outer P w H s Q u s'
 | .ok _=>False
 | .error e=>CX outer H s E e s'
structure FnOk(P:Program)(w:World)(K:Frg)(mg:Str->Option Value)(base:Heap)(CX:CXT)(k:Nat)(f:Addr)(fd:FuncData)(ps:N3)(sp:Sp):Prop where
 len:∀vs H Q E,sp vs H Q E->vs.length=ps.length
 run:∀(A:Around) (outer:List Env) (s:Shared) (H:Hp) (args:Args) (us:N4) (vs:N6) (Q:VK) (E:XK),Room k A->Env0 P w K mg base A outer s H->BindsTo s fd args (ps.zip us)->Vals vs us->sp vs H Q E->
  codeAny (model P w) A (.call (.ref f) args) (CR CX outer P w H s Q E) s
def FnOk.mono{P:Program}{w:World}{K:Frg}{e:Str->Option Value}{a:Heap}{CX:CXT}{j k:Nat}{f:Addr}{d:FuncData}{ps:N3}{sp:Sp}(F:FnOk P w K e a CX j f d ps sp)(h:j<=k) :
  FnOk P w K e a CX k f d ps sp:=⟨F.len,λA b s H c i l Q E g=>F.run A b s H c i l Q E (g.mono h)⟩
def Env0.make{P:Program}{w:World}{K:Frg}{c:Str->Option Value}{b:Heap}{A:Around}{a:List Env}{s:Shared}{H:Hp}(e:Env0 P w K c b A a s H)(C:Addr)(us:N4)(d:List (Str×Value)) :
  Env0 P w K c b (A.under (.builtin "type.__call__" ⟨.ref C::us,d⟩)) a s H:=⟨by first | exact e.frames | (simpa [Around.under,Code.envs,Code.isFrame,pushEnvs]using e.frames),e.mod,e.bs,e.bsz,e.funs,e.frf,e.hok,e.bare⟩
section
variable{X:Cx}{pins:List (Addr×Obj)}{σ:St}{H:Hp}{s s':Shared}
def Inv.env0(I:Inv X pins σ H s):Env0 X.prog X.w X.K X.mg X.base X.A X.stack s H:=
 ⟨I.ok.frames,I.ok.mod,I.bs,vX I.ok.bsz I.sz,I.stack,I.stkFree,I.hok,I.bare⟩
def Inv.after(I:Inv X pins σ H s)(h:CE X.stack X.prog X.w H s Q u s'):EP X pins σ Q u s':=by
 let⟨v,f,j,a,k,c,r,q⟩:=h;let⟨i,g,d,t,e⟩:=s';obtain rfl:e=s.os:=j;exact⟨v,f,I.call (h':=i) (g':=g) (d':=d) (t':=t) (ch:=[]) k c a (λb z=>uh z (by simp)),r,q⟩
end
def tCall(sp:Sp)(dvs:N6)(E:XK)(t:TA):TE:=λσ H Q=>t σ H λvs H1=>sp (vs++dvs) H1 Q E
def tMeth(C:Addr)(m:Str)(sp:Sp)(dvs:N6)(E:XK)(ta:TE)(t:TA):TE:=λσ H Q=>ta σ H λx H1=>∃a dx fs,x = .ref a/\H1 a=some (.ins C dx fs)/\fs.lookup m=none/\
 t σ H1 λvs H2=>sp (x::(vs++dvs)) H2 Q E
def tMake(C:Addr)(sp:Sp)(dvs:N6)(E:XK)(t:TA):TE:=λσ H Q=>t σ H λvs H1=>∀x dx,H1 x=none->H1 dx=none->dx≠x->
 sp (.ref x::(vs++dvs)) (upd (upd H1 dx (.own x)) x (.ins C dx [])) (λv H2=>v = .non/\Q (.ref x) H2) E
def Binds(K:Frg)(fd:FuncData)(ps:N3)(ds:N4):Prop:=
 ∀(s:Shared) (us:N4),K.In s.heap->(us++ds).length=ps.length->BindsTo s fd ⟨us,[]⟩ (ps.zip (us++ds))
def Binds.all{K:Frg}{a:FuncData}{ps:N3}(h:∀us:N4,us.length=ps.length->bindArgs a ⟨us,[]⟩=pure (ps.zip us)):Binds K a ps []:=λs us _ b=>by
 rw[append_nil]at b|-;exact .of_eq (h us b)
def Passes(CX:CXT)(X:Cx)(E:XK):Prop:=∀(pins:List (Addr×Obj)) (σ:St) (H:Hp) (s:Shared) (e:Value) (s':Shared),Inv X pins σ H s->CX X.stack H s E e s'->X.xe e s'
section
variable{X:Cx}{CX:CXT}{k:Nat}{f C:Addr}{fd:FuncData}{ps:N3}{sp:Sp}{dvs:N6}{ds:N4}{E:XK}{x m:Str}{p pos apos:Pos}{e o:Expr}{es:List Expr}{ta:TE}{t:TA}
def j0W{b:St}{H:Hp}(F:FnOk X.prog X.w X.K X.mg X.base CX k f fd ps sp)(j:Room k X.A)(d:Binds X.K fd ps ds)(g:Vals dvs ds)(l:Passes CX X E)
  (I:Inv X pins b H s) (r:Vals vs us) (h:sp (vs++dvs) H Q E):wpAny (model X.prog X.w) X.A (call (.ref f) us) (EP X pins b Q) X.xe s:=by
 have c:Vals (vs++dvs) (us++ds):=r.append g;have i:(us++ds).length=ps.length:=by rw[<-c.length];exact F.len _ _ _ _ h
 refine wpAny_call (codeAny_mono (F.run X.A X.stack s H ⟨us,[]⟩ (us++ds) (vs++dvs) Q E j I.env0 (d s us I.kIn i) c h) λr m a=>?_);cases r with
 | error e=>exact l pins b H s e m I a
 | ok fl=>
  cases fl with
  | ret u=>exact I.after a
  | next=>exact False.elim a
  | brk=>exact False.elim a
  | cont=>exact False.elim a
def kJ(F:FnOk X.prog X.w X.K X.mg X.base CX k f fd ps sp)(u:Room k X.A)(m:Gl X x)(o:X.mg x=some (.ref f))(n:PySem.W.keepIn X.K (.ref f)=true)(i:Binds X.K fd ps ds)(j:Vals dvs ds)(v:Passes CX X E)
  (g:PA X (e::es) t) (b:(x==("__debug__" : Str))=false:=by decide) (l:starEach (e::es) X.env=(false,eval e X.env)::starEach es X.env:=by rfl) (c:(backTo pos (starEach es X.env)).any (·.1)=false:=by rfl) :
  PE X (.Call (.Name x p) (e::es) [] pos) (tCall sp dvs E t):=by
 intro a s w H Q I h;refine wpAny_Call_Name_kw (kG I m o ?_ b);refine PySem.W.callWith_K (h₀:=X.base) I.ok.mod.kin n (thn (g pos a s w H _ I h) λB z ⟨C,y,d,r,q⟩=>⟨d.kIn,?_⟩) l c;exact j0W F u i j v d r q
def ZM(G:PE X o ta)(c:Cls X.K C)(n:Meth X.K C m f)(F:FnOk X.prog X.w X.K X.mg X.base CX k f fd ps sp)(J:Room k X.A)(B:Binds X.K fd ps ds)(D:Vals dvs ds)(L:Passes CX X E)(z:PA X (e::es) t)
  (g:starEach (e::es) X.env=(false,eval e X.env)::starEach es X.env:=by rfl) (d:(backTo pos (starEach es X.env)).any (·.1)=false:=by rfl)
  (K:eval (.Call (.Attribute o m apos) (e::es) [] pos) X.env=(do
   let ov <-eval o X.env
   standAt apos.atName
   let (f,first) <-holding [ov] (getMethod ov m pl)
   callWith pos f first (backTo pos (starEach (e::es) X.env)) (backToKw pos (keywordEach [] X.env))):=by rfl) :
  PE X (.Call (.Attribute o m apos) (e::es) [] pos) (tMeth C m sp dvs E ta t):=by
 intro b s p H Q I h;refine PySem.W.methodCall_KW (pl:=pl) (thn (G b s p H _ I h) λu O z_=>?_) K;obtain⟨x,v,i,N,a,R,S,y,w,l,q⟩:=z_;subst y;obtain rfl:u=Value.ref a:=N;refine j0p i w c n l ?_;refine PySem.W.callWith_K (first:=[.ref a]) (h₀:=X.base) I.ok.mod.kin n.kp (thn (z pos b O p v _ i q) λus T ⟨vs,P,j,r,M⟩=>⟨j.kIn,?_⟩) g d;exact j0W (us:=.ref a::us) (vs:=.ref a::vs) F J B D L j (.cons rfl r) M
structure Mk(K:Frg)(C f:Addr):Prop where
 makes:PySem.W.makesIn K C=true
 init:PySem.W.findIn K (.ref C) "__init__"= some (some (.ref f))
 fn:PySem.W.isFn K (.ref f)=true
 kp:PySem.W.keepIn K (.ref C)=true
def XM{c:St}{H:Hp}(M:Mk X.K C f)(F:FnOk X.prog X.w X.K X.mg X.base CX k f fd ps sp)(o:Room (k+1) X.A)(l:Binds X.K fd ps ds)(m:Vals dvs ds)
  (p:Passes CX X E) (I:Inv X pins c H s) (r:Vals vs us)
  (h:∀x dx,H x=none->H dx=none->dx≠x->sp (.ref x::(vs++dvs)) (upd (upd H dx (.own x)) x (.ins C dx [])) (λv H2=>v = .non/\Q (.ref x) H2) E) :
  wpAny (model X.prog X.w) X.A (call (.ref C) us) (EP X pins c Q) X.xe s:=by
 have d:=h (s.heap.objs.size+1) s.heap.objs.size (I.hok.fresh (Nat.le_succ _)) (I.hok.fresh (vA _)) (vG (Nat.lt_succ_self _));have b:=Inv.made (C:=C) I;have g:Vals (V.ref (s.heap.objs.size+1)::(vs++dvs)) (Value.ref (s.heap.objs.size+1)::(us++ds)):=.cons rfl (r.append m);have n:(Value.ref (s.heap.objs.size+1)::us++ds).length=ps.length:=by
  have e:=g.length;rw[F.len _ _ _ _ d]at e;exact e.symm
 refine wpAny_call (j3O (f:=f) I.kIn M.makes M.init (beq_iff_eq.mp M.fn) (codeAny_mono (F.run _ X.stack _ _ ⟨Value.ref (s.heap.objs.size+1)::us,[]⟩ (Value.ref (s.heap.objs.size+1)::(us++ds)) _ _ E (o.make C us [])
  (b.env0.make C us []) (l _ (Value.ref (s.heap.objs.size+1)::us) b.kIn n) g d) λr w a=>?_))
 cases r with
 | error e=>exact p pins c _ _ e w b a
 | ok fl=>
  cases fl with
  | ret u=>
   let⟨v,i,j,t,ev,q⟩:=b.after a;subst ev;exact⟨t,⟨V.ref (s.heap.objs.size+1),i,j,rfl,q⟩⟩
  | next=>exact False.elim a
  | brk=>exact False.elim a
  | cont=>exact False.elim a
def j1L(M:Mk X.K C f)(F:FnOk X.prog X.w X.K X.mg X.base CX k f fd ps sp)(o:Room (k+1) X.A)(m:Gl X x)(n:X.mg x=some (.ref C))(i:Binds X.K fd ps ds)(j:Vals dvs ds)(u:Passes CX X E)
  (g:PA X (e::es) t) (b:(x==("__debug__" : Str))=false:=by decide) (l:starEach (e::es) X.env=(false,eval e X.env)::starEach es X.env:=by rfl) (c:(backTo pos (starEach es X.env)).any (·.1)=false:=by rfl) :
  PE X (.Call (.Name x p) (e::es) [] pos) (tMake C sp dvs E t):=by
 intro a s v H Q I h;refine wpAny_Call_Name_kw (kG I m n ?_ b);refine PySem.W.callWith_K (h₀:=X.base) I.ok.mod.kin M.kp (thn (g pos a s v H _ I h) λz y ⟨B,w,d,r,q⟩=>⟨d.kIn,?_⟩) l c;exact XM M F o i j u d r q
def j4f(M:Mk X.K C f)(F:FnOk X.prog X.w X.K X.mg X.base CX k f fd ps sp)(i:Room (k+1) X.A)(e:Gl X x)(g:X.mg x=some (.ref C))(c:Binds X.K fd ps ds)(d:Vals dvs ds)(j:Passes CX X E)
  (a:(x==("__debug__" : Str))=false:=by decide):PE X (.Call (.Name x p) [] [] pos) (tMake C sp dvs E tNil):=by
 intro b s l H Q I h;refine wpAny_Call_Name_kw (kG I e g ?_ a);exact PySem.W.callWith_K0 I.kIn M.kp (XM (us:=[]) M F i c d j I .nil h)
end
section
variable{X:Cx}{CX:CXT}{k:Nat}{f C:Addr}{fd:FuncData}{ps ks:N3}{sp:Sp}{E:XK}{x m:Str}{p pos apos kpos:Pos}{e o:Expr}{es:List Expr}{kws:List Keyword}{te ta:TE}{t tk:TA}{nm:Option Str}
variable{g:N4->N4->N4}{gV:N6->N6->N6}
end
structure FnScope(N P:N3)(sc:Scope):Prop where
 kind:sc.kind = .function
 co:sc.isCoroutine=false
 gen:sc.isGenerator=false
 nd:N.Nodup
 pre:N.take P.length=P
 par:∀x∈P,sc.names.lookup x=some .local\/sc.names.lookup x=some .cell
 nofree:∀y∈sc.names,y.2≠.free
theorem wF{b:Str->Option NameKind}:∀{a:List (Str×Value)} {m:Str->Option Value},(∀v,(x,v)∉a)->bindL b a m x=m x
 | [],_,_=>rfl
 | (n,v)::r,m,h=>by
  unfold bindL;rw[wF λw c=>h w (vp _ c)];split
  .have:x≠n:=by rintro rfl;exact h v vq
   simp[this]
  .rfl
theorem wD{b:Str->Option NameKind}:∀{a:List (Str×Value)} {m:Str->Option Value},(∀v,(x,v)∉a)->bindC b a m x=m x
 | [],_,_=>rfl
 | (n,v)::r,m,h=>by
  unfold bindC;rw[wD λw c=>h w (vp _ c)];split
  .rfl
  .have:x≠n:=by rintro rfl;exact h v vq
   simp[this]
theorem wE{a:Str->Option NameKind}:∀{P:N3} {vs:N4} {i:Nat} {m:Str->Option Value},P.Nodup->P[i]?=some x->vs[i]?=some v->a x=some .local->
  bindL a (P.zip vs) m x=some v
 | [],_,_,_,_,h,_,_=>by simp at h
 | _::_,[],_,_,_,_,h,_=>by simp at h
 | p::P,w::vs,0,m,nd,h1,h2,hk=>by
  simp at h1 h2;subst h1;subst h2;show bindL a ((p,w)::P.zip vs) m p=_;unfold bindL;rw[wF λv b=>(uo.mp nd).1 (of_mem_zip b).1,vc hk];simp
 | p::P,w::vs,i+1,m,nd,h1,h2,hk=>by
  show bindL a ((p,w)::P.zip vs) m x=_;unfold bindL;exact wE (i:=i) (uo.mp nd).2 (by simpa using h1) (by simpa using h2) hk
theorem wC{a:Str->Option NameKind}:∀{P:N3} {vs:N4} {i:Nat} {m:Str->Option Value},P.Nodup->P[i]?=some x->vs[i]?=some v->a x≠some .local->
  bindC a (P.zip vs) m x=some v
 | [],_,_,_,_,h,_,_=>by simp at h
 | _::_,[],_,_,_,_,h,_=>by simp at h
 | p::P,w::vs,0,m,nd,h1,h2,hk=>by
  simp at h1 h2;subst h1;subst h2;show bindC a ((p,w)::P.zip vs) m p=_;unfold bindC;rw[wD λv b=>(uo.mp nd).1 (of_mem_zip b).1,va hk];simp
 | p::P,w::vs,i+1,m,nd,h1,h2,hk=>by
  show bindC a ((p,w)::P.zip vs) m x=_;unfold bindC;exact wC (i:=i) (uo.mp nd).2 (by simpa using h1) (by simpa using h2) hk
noncomputable def start(N:N3)(vs:N6):St:=vs.map some++List.replicate (N.length-vs.length) none
noncomputable def cxOf(CX:CXT)(P:Program)(w:World)(K:Frg)(mg:Str->Option Value)(base:Heap)(N:N3)(qual:Str)(scope:Scope)(f:Addr)(cd:Value)(A:Around)(outer:List Env)(s:Shared)(H:Hp)(E:XK):Cx where
 prog:=P
 w:=w
 K:=K
 mg:=mg
 base:=base
 A:=A.deeper (envOfC qual scope s.heap.objs.size f cd)
 N:=N
 s₀:=s
 H₀:=H
 env:=envOfC qual scope s.heap.objs.size f cd
 outer:=outer
 stack:=envOfC qual scope s.heap.objs.size f cd::outer
 ex:=[]
 calm:=true
 fn:=λ_=>true
 pn:=[]
 xe:=λe s'=>wpAny (model P w) (A.deeper (envOfC qual scope s.heap.objs.size f cd)) (leaving (envOfC qual scope s.heap.objs.size f cd) e) (λ_ s''=>CX outer H s E e s'') (λe' s''=>CX outer H s E e' s'') s'
def xU{a:Scope}{n:Nat}{x:Str}(h:a.names.lookup x=some .cell):∃c,(cellsFrom n a.names []).lookup x=some c:=by
 have q:=PySem.W.cellsFrom_some a.names n [] (.inl h);exact Option.isSome_iff_exists.mp q
def j2A{CX:CXT}{P:Program}{w:World}{K:Frg}{J:Str->Option Value}{m:Heap}{N ps:N3}{j:Str}{d:Scope}{f:Addr}{F:Value}{A:Around}{g:List Env}{s O:Shared}{H:Hp}{E:XK}{us:N4}{vs:N6}
  (S:FnScope N ps d) (R:A.handled=none) (o:Env0 P w K J m A g s H) (X:vs.length=ps.length) (r:Vals vs us)
  (x:InCallC s s.heap.objs.size (bindL (envOfC j d s.heap.objs.size f F).kindOf (ps.zip us) λ_=>none) (cellsFrom (s.heap.objs.size+1) d.names []) (bindC (envOfC j d s.heap.objs.size f F).kindOf (ps.zip us) λ_=>none) O) :
  Inv (cxOf CX P w K J m N j d f F A g s H E) [] (start N vs) H O:=by
 have T:ps.length<=N.length:=by have:=congrArg List.length S.pre;rw[vh]at this;lia
 let⟨G,Y,rfl,L⟩:=x.done;have B:∀b:Addr,b∉(cxOf CX P w K J m N j d f F A g s H E).ex:=λb z=>uh (show b∈([]:N2)from z) (by simp)
 refine⟨⟨o.mod,S.kind,rfl,rfl,vA _,λy z c G l=>?_,λy t=>?_,λy c _ h=>?_,λ_=>R,Around.frames_deeper o.frames,.inr ⟨rfl,rfl⟩,λb z=>uh z (B b),o.bs,o.bsz,λb _ _=>B b,λb z=>uh z (B b),o.funs,o.frf⟩,
  rfl,o.bare,Un.kept L,⟨_,x.toInCall.ns,λi y v G l W=>?_⟩,λy c h=>⟨_,x.cell y c h⟩,o.hok.fresh (vA _),λy c h=>?_,λp C=>uh (show p∈([]:List (Addr×Obj))from C) (by simp),o.hok.kept L,?_⟩
 .exact name_of_addr x.apart (PySem.mem_of_lookup G) (PySem.mem_of_lookup l)
 .have t:d.names.lookup y=some .cell\/d.names.lookup y=some .free:=t;rcases t with t | t
  .exact xU t
  .exact uh rfl (S.nofree _ (PySem.mem_of_lookup t))
 .exact vZ (x.above y c (PySem.mem_of_lookup h))
 .have I:i<vs.length:=by
   unfold start at l;by_cases I:i<vs.length
   .exact I
   .rw[vE (by simpa using I)]at l;rw[List.getElem?_replicate]at l;split at l<;>cases l
  have Q:vs[i]?=some v:=by
   unfold start at l;rw[vD (by simpa using I),vv]at l;cases e:vs[i]? with
   | none=>rw[e]at l;cases l
   | some a=>rw[e]at l;cases l;rfl
  let⟨u,M,U⟩:=r.get Q;have C:ps[i]?=some y:=by
   rw[<-S.pre,List.getElem?_take_of_lt ⋯];exact G
  have D:ps.Nodup:=by rw[<-S.pre];exact S.nd.sublist (List.take_sublist _ _)
  refine⟨u,U,?_⟩;rcases S.par y (vj C)with k | k
  .exact .inl ⟨k,wE D C M k⟩
  .let⟨c,e⟩:=xU (n:=s.heap.objs.size+1) k;refine .inr ⟨.inl k,c,e,?_⟩;have q:=x.cell y c e;rw[wC D C M (by show d.names.lookup y≠_;rw[k];decide)]at q;exact q
 .exact o.hok.fresh (vZ (x.above y c (PySem.mem_of_lookup h)))
 .unfold start;show _=N.length;rw[vm,vt,List.length_replicate];lia
def j67{CX:CXT}{P:Program}{w:World}{K:Frg}{M:Str->Option Value}{i:Heap}{k:Nat}{f:Addr}{name d:Str}{j:Arguments}{l:List Stmt}{a:Scope}{dV kV C pm g ct oc:Value}{Z od:Option Addr}
  {U:Array (Option Value)} {N ps:N3} {sp:Sp} (lk:K.lookup f=some ⟨oc,od,.func (PySem.W.fnOf name d j l a dV kV C pm Z g ct),U⟩) (O:PySem.W.codeIn K g d=true) (S:FnScope N ps a)
  (L:∀vs H Q E,sp vs H Q E->vs.length=ps.length)
  (p:∀(A:Around) (c:List Env) (s:Shared) (H:Hp) (vs:N6) (Q:VK) (E:XK),Room k (A.deeper (envOfC d a s.heap.objs.size f g))->sp vs H Q E->
   ∃t,PSs (cxOf CX P w K M i N d a f g A c s H E) l t/\t {nx:=λ_ H'=>Q .non H',rt:=Q} (start N vs) H) :
  FnOk P w K M i CX (k+1) f (PySem.W.fnOf name d j l a dV kV C pm Z g ct) ps sp:=by
 refine⟨L,λA c s H a0 us vs Q E R D hb r G=>?_⟩;have hl:=L _ _ _ _ G;have Y:K.In s.heap:=D.mod.kin.keeps λb o e=>(D.bs b o e).1
 have T:s.heap.NoLimit:=D.mod.nolimit.keeps λb o e=>(D.bs b o e).1
 have z:∀y∈ps.zip us,a.names.lookup y.1=some .local\/(a.names.lookup y.1=some .cell/\((cellsFrom (s.heap.objs.size+1) a.names []).lookup y.1).isSome=true):=λ⟨n,v⟩ hy=>by
  rcases S.par n (of_mem_zip hy).1 with q | q
  .exact .inl q
  .exact .inr ⟨q,PySem.W.cellsFrom_some _ _ _ (.inl q)⟩
 refine codeAny_call_function R.depth (Y _ _ lk) rfl S.co S.gen rfl (PySem.W.codeRec_of Y O) (hb _ _ _ _ ?_);refine wpAny_newFunctionEnv_cells S.kind z λa1 he s1 x=>?_
 subst he;refine⟨T.keeps x.toInCall.keep,codeAny_func ?_⟩;let⟨t,ht,hq⟩:=p A c s H vs Q E (R.deeper _) G;have I:Inv (cxOf CX P w K M i N d a f g A c s H E) [] (start N vs) H s1:=j2A S R.hd D hl r x;refine wpAny_mono (ht [] s1 (start N vs) H _ I hq) (λfl X B=>?_) λe X B=>B
 have F:∀{m:St} {H':Hp} {v:V} {u:Value},Inv (cxOf CX P w K M i N d a f g A c s H E) [] m H' X->RelV v u->Q v H'->CE c P w H s Q u X:=
  λ{m H' v u} J W q=>⟨v,H',J.os,J.bare,J.base,J.hok,W,q⟩
 cases fl with
 | ret u=>
  let⟨v,m,H',J,W,q⟩:=B;exact F J W q
 | next=>
  let⟨m,H',J,q⟩:=B;exact F (v:=V.non) (u:=Value.none) J rfl q
 | brk=>
  let⟨_,_,_,q⟩:=B;exact False.elim q
 | cont=>
  let⟨_,_,_,q⟩:=B;exact False.elim q
section
variable{X:Cx}{x:Str}{p pos:Pos}{e:Expr}{es:List Expr}{t:TA}{id T:String}{r:N6->Hp->VK->Prop}
def tCB(r:N6->Hp->VK->Prop)(t:TA):TE:=λσ H Q=>t σ H λvs H1=>r vs H1 Q
def jx(j:CallR X (.builtin id) r)(l:Gl X x)(m:X.mg x=none)(o:bootBuiltins x=some (.builtin id))(i:PA X (e::es) t)(n:x≠"__name__":=by decide)(b:(x==("__debug__" : Str))=false:=by decide)
  (k:starEach (e::es) X.env=(false,eval e X.env)::starEach es X.env:=by rfl) (c:(backTo pos (starEach es X.env)).any (·.1)=false:=by rfl):PE X (.Call (.Name x p) (e::es) [] pos) (tCB r t):=by
 intro a s d H Q I h;refine wpAny_Call_Name_kw (qb I l m o ?_ n b);exact PyProof.Rows.callWith_builtin1 (thn (i pos a s d H _ I h) λw v ⟨y,f,g,u,q⟩=>j a v d f y w Q g u q) k c
def jW(j:CallR X (.type T) r)(l:Gl X x)(m:X.mg x=none)(o:bootBuiltins x=some (.type T))(i:PA X (e::es) t)(n:x≠"__name__":=by decide)(b:(x==("__debug__" : Str))=false:=by decide)
  (k:starEach (e::es) X.env=(false,eval e X.env)::starEach es X.env:=by rfl) (c:(backTo pos (starEach es X.env)).any (·.1)=false:=by rfl):PE X (.Call (.Name x p) (e::es) [] pos) (tCB r t):=by
 intro a s d H Q I h;refine wpAny_Call_Name_kw (qb I l m o ?_ n b);exact PyProof.Rows.callWith_type1 (thn (i pos a s d H _ I h) λw v ⟨y,f,g,u,q⟩=>j a v d f y w Q g u q) k c
end
end L2
namespace HT
open PySem PyProof.Rows
section
open PySem.SeqAt
open PySem.AutoSeq1 (wpAny_loadPart')
open PySem.MeetsSeq PySem.MeetsSeq2 PySem.MeetsSeq3
end
section
variable{prog:Program}{w:World}{A:Around}{E:Value->Shared->Prop}{s:Shared}
def j57{t b:Addr}{vs ws:N4}{Q:Value->Shared->Prop}(y:IsTup s.heap t vs.toArray)(x:IsTup s.heap b ws.toArray)(p:vs≠[])
  (u:ws=[]->Q (.ref t) s) (v:ws≠[]->Q (.ref s.heap.objs.size) {s with heap:=s.heap.push {cls:=.type "tuple",data:=.seq (vs++ws).toArray}})
  (hsz:vs.length+ws.length<=sizeLine):wpAny (model prog w) A (binaryOp .Add (.ref t) (.ref b)) Q E s:=by
 let⟨⟨cls,l,data,r⟩,h,m,n,o⟩:=id y;let⟨⟨k,c,j,g⟩,a,d,q,f⟩:=id x;simp only at m o d f;subst m o d f;have e:vs.toArray++ws.toArray=(vs++ws).toArray:=by simp
 by_cases i:ws=[]
 .exact concat_meets ⟨_,h,rfl⟩ ⟨_,a,rfl⟩ noFill_tuple_add seq_tuple_add PySem.F.slot_tuple_add PySem.F.entry_tuple_add (PySem.F.args_tuple_add_2 _ _)
   (tuple_addW1 t b vs.toArray ws.toArray n q l c r g (by simpa using p) (by simp[i])) ⟨h,a,u i⟩
 .refine concat_meets ⟨_,h,rfl⟩ ⟨_,a,rfl⟩ noFill_tuple_add seq_tuple_add PySem.F.slot_tuple_add PySem.F.entry_tuple_add (PySem.F.args_tuple_add_2 _ _)
   (tuple_addW2 t b vs.toArray ws.toArray n q l c r g (by simpa using p) (by simpa using i) (by rw[size_toArray,size_toArray];exact hsz)) ⟨h,a,?_⟩
  rw[e];exact v i
noncomputable def sIx(n d:Nat):Option Int->Nat
 | none=>d
 | some v=>if v<0 then(v+(n:Int)).toNat else min v.toNat n
def j5O(n d k:Nat):sIx n d (some (k:Int))=min k n:=by
 show(if(k:Int)<0 then((k:Int)+(n:Int)).toNat else min (k:Int).toNat n)=min k n;rw[va ⋯,Int.toNat_natCast]
def j6X(n d:Nat)(b:d<=n)(o:Option Int):sIx n d o<=n:=by
 cases o with
 | none=>exact b
 | some v=>
  show(if v<0 then(v+(n:Int)).toNat else min v.toNat n)<=n;by_cases a:v<0
  .rw[vc a];lia
  .rw[va a];exact Nat.min_le_right _ _
def j1h(v:Int)(n d:Nat):(if v<0 then max (v+(n:Int)) 0 else min v (n:Int))=((sIx n d (some v):Nat):Int):=by
 show(if v<0 then max (v+(n:Int)) 0 else min v (n:Int))=(((if v<0 then(v+(n:Int)).toNat else min v.toNat n):Nat):Int)
 by_cases a:v<0
 .simp only[if_pos a];lia
 .simp only[if_neg a];lia
def j07(lo hi:Option Int)(n:Nat):Builtin.Slice.sliceAdjust lo hi 1 (n:Int)=(((sIx n 0 lo:Nat):Int),((sIx n n hi:Nat):Int)):=by
 have a:¬((1:Int)<0):=⋯
 unfold Builtin.Slice.sliceAdjust;simp only[a,if_false];refine Prod.ext ?_ ?_
 .cases lo with
  | none=>rfl
  | some v=>exact j1h v n 0
 .cases hi with
  | none=>rfl
  | some v=>exact j1h v n n
def j0R(i j:Nat):Builtin.Slice.slicePlaces (i:Int) (j:Int) 1=j-i:=by
 unfold Builtin.Slice.slicePlaces;have a:(1:Int)>0:=⋯
 simp only[a,if_true,Int.ediv_one];split<;>lia
def slicePart_{Q:Option Int->Shared->Prop}(p:IsPart v o)(h:Q o s):wpAny (model prog w) A (Builtin.Slice.slicePartIndex v) Q E s:=by
 cases p with
 | none=>exact slicePart_none h
 | int i t=>exact slicePart_int h
def zc{e:Addr}{c d:Value}{lo hi:Option Int}{n:Nat}{Q:Int×Int×Nat->Shared->Prop}(g:s.heap.IsSliceOf e c d .none)(pl:IsPart c lo)(i:IsPart d hi)
  (h:Q (((sIx n 0 lo:Nat):Int),1,sIx n n hi-sIx n 0 lo) s):wpAny (model prog w) A (Builtin.Slice.sliceApplied (.ref e) (pure (n:Int))) Q E s:=by
 let⟨j,b,f,a⟩:=id g;unfold Builtin.Slice.sliceApplied Builtin.Slice.sliceFields;refine uj (uj (wpAny_field b a (x:=c) rfl (uj (wpAny_field b a (x:=d) rfl (uj (wpAny_field b a (x:=.none) rfl (ui ?_)))))));refine uj (slicePart_none ?_);show wpAny _ _ (if((1:Int)==0)=true then _ else _) _ _ s;rw[va nofun];refine uj (slicePart_ pl (uj (slicePart_ i (uj (ui ?_)))));show wpAny _ _ (match Builtin.Slice.sliceAdjust lo hi 1 (n:Int)with | (lo,hi)=>pure (lo,(1:Int),Builtin.Slice.slicePlaces lo hi 1)) _ _ s;rw[j07 lo hi n];show wpAny _ _ (pure (((sIx n 0 lo:Nat):Int),(1:Int),Builtin.Slice.slicePlaces ((sIx n 0 lo:Nat):Int) ((sIx n n hi:Nat):Int) 1)) _ _ s;rw[j0R];exact ui h
def j4h(xs:Array Value)(i k:Nat):((List.range k).filterMap λ(m:Nat)=>xs[((i:Int)+(m:Int)*1).toNat]?).toArray=((xs.toList.drop i).take k).toArray:=by
 have e:(λ(m:Nat)=>xs[((i:Int)+(m:Int)*1).toNat]?)=λm=>xs[i+m]?:=by
  funext m;have:((i:Int)+(m:Int)*1).toNat=i+m:=⋯
  rw[this]
 rw[e];have:=pick_run xs i k;rw[List.filterMap_map]at this;have a:((λx=>xs[x]?)∘λx=>i+x)=λm=>xs[i+m]?:=rfl
 rw[a]at this;rw[this]
def yM{t g:Addr}{items:Array Value}{j k:Value}{lo hi:Option Int}{Q:Value->Shared->Prop}(b:IsTup s.heap t items)(i:s.heap.IsSliceOf g j k .none)(pl:IsPart j lo)(o:IsPart k hi)
  (hw:¬(sIx items.size 0 lo=0/\sIx items.size items.size hi=items.size))
  (h:Q (.ref s.heap.objs.size) {s with heap:=s.heap.push {cls:=.type "tuple",data:=.seq ((items.toList.drop (sIx items.size 0 lo)).take (sIx items.size items.size hi-sIx items.size 0 lo)).toArray}})
  (hsz:items.size<=sizeLine):wpAny (model prog w) A (getItem (.ref t) (.ref g)) Q E s:=by
 have a:sizeOk (.seq ((items.toList.drop (sIx items.size 0 lo)).take (sIx items.size items.size hi-sIx items.size 0 lo)).toArray):=by
  show((items.toList.drop (sIx items.size 0 lo)).take (sIx items.size items.size hi-sIx items.size 0 lo)).toArray.size<=sizeLine;rw[size_toArray,vh,length_drop,Array.length_toList];lia
 have p:sIx items.size items.size hi<=items.size:=j6X _ _ (vA _) hi;let⟨n,f,d,l⟩:=id i;have c:s.TypeIs (.ref g) "slice":=⟨n,f,d⟩
 unfold getItem
 try with_reducible refine wpAny_holding ?_
 first | refine uj (ui ?_) | skip
 refine uj (wpAny_sequenceKey b.typeIs nofun ?_);refine uj (wpAny_callSpecial?_slot (name:=Str.ofString "__getitem__") b.typeIs PyProof.Rows.slot_tuple_getitem
  (wpAny_call_entry PyProof.Rows.slot_tuple_getitem b.typeIs entry_tuple_getitem ?_ (args_tuple_getitem _ _)))
 show wpAny _ _ (Builtin.Tuple.tupleItemsOf (.ref t) >>= _) _ _ s;refine uj (tupleItemsOf_ b ?_);refine uj (wpAny_typeOf c ?_);rw[vc nofun];refine uj (zc i pl o ?_);have e:¬((((sIx items.size 0 lo:Nat):Int)==0&&(1:Int)==1&&(sIx items.size items.size hi-sIx items.size 0 lo)==items.size)=true):=by
  intro q;rw[Bool.and_eq_true,Bool.and_eq_true]at q;have r:((sIx items.size 0 lo:Nat):Int)=0:=eq_of_beq q.1.1;have u:sIx items.size items.size hi-sIx items.size 0 lo=items.size:=eq_of_beq q.2;exact hw ⟨⋯,⋯⟩
 show wpAny _ _ (if(((sIx items.size 0 lo:Nat):Int)==0&&(1:Int)==1&&(sIx items.size items.size hi-sIx items.size 0 lo)==items.size)=true then _ else _) _ _ s;rw[va e,j4h]
 first
  | exact uj (m:=Builtin.Tuple.tupleExact _) (wpAny_newObj_type (ui ⟨_,rfl,ui h⟩) a)
  | exact uj (m:=Builtin.Tuple.tupleExact _) (wpAny_newObj_type (uj (ui (ui ⟨_,rfl,ui h⟩))) a)
  | exact uj (uj (m:=Builtin.Tuple.tupleExact _) (wpAny_newObj_type (ui (ui ⟨_,rfl,ui h⟩)) a))
  | exact uj (uj (m:=Builtin.Tuple.tupleExact _) (wpAny_newObj_type (ui ⟨_,rfl,ui h⟩) a))
end
end HT
namespace L2
open PySem PySem.Spec PyProof.Rows
noncomputable abbrev TO:=St->Hp->(Option Int->Hp->Prop)->Prop
def PO(X:Cx)(e:Option Expr)(t:TO):Prop:=
 ∀(pins:List (Addr×Obj)) (s:Shared) (σ:St) (H:Hp) (Q:Option Int->Hp->Prop),Inv X pins σ H s->t σ H Q->
  wpAny (model X.prog X.w) X.A (evalPart e X.env) (λu s'=>∃o H',Inv X pins σ H' s'/\IsPart u o/\Q o H') X.xe s
def tNoPart:TO:=λ_ H Q=>Q none H
def tPart(t:TE):TO:=λσ H Q=>t σ H λx H1=>∃i,x = .int i/\Q (some i) H1
def intsAre_of:∀{us:N4},Vals (ns.map V.int) us->IntsAre us ns:=by
 induction ns with
 | nil=>intro us r;rw[map_nil]at r;cases r;exact .nil
 | cons n ns ih=>
  intro us r;rw[v9]at r;cases r with
  | cons r1 r2=>
   let⟨t,e⟩:=r1;subst e;exact .cons n t (ih r2)
section
variable{X:Cx}{e:Expr}{te:TE}{lo hi:Option Expr}{tl th:TO}{pos p2:Pos}
def yV:PO X none tNoPart:=by
 intro a s b H Q I h;rw[evalPart_none];exact ui ⟨none,H,I,.none,h⟩
def Jt(h:PE X e te):PO X (some e) (tPart te):=by
 intro a s j H Q I d;rw[evalPart_some];refine thn (h a s j H _ I d) λu k z_=>?_;obtain⟨x,b,c,g,f⟩:=z_
 let⟨i,rfl,q⟩:=f;let⟨t,rfl⟩:=g;exact⟨some i,b,c,.int i t,q⟩
def SlR(X:Cx)(r:V->Option Int->Option Int->Hp->VK->Prop):Prop:=
 ∀(pins:List (Addr×Obj)) (s:Shared) (σ:St) (H:Hp) (x:V) (v vl vu:Value) (lo hi:Option Int) (sl:Addr) (Q:VK),Inv X pins σ H s->RelV x v->s.heap.IsSliceOf sl vl vu .none->IsPart vl lo->IsPart vu hi->r x lo hi H Q->
  ∃T id,typeLookup (.type T) "__getitem__"= pure (some (.builtin id))/\s.TypeIs v T/\wpAny (model X.prog X.w) X.A (getItem v (.ref sl)) (EP X pins σ Q) X.xe s
def SlR.or{r e:V->Option Int->Option Int->Hp->VK->Prop}(h:SlR X r)(h':SlR X e):SlR X (λx lo hi H Q=>r x lo hi H Q\/e x lo hi H Q):=by
 intro a s k H x v i j lo hi g Q I f b c d q;rcases q with q | q
 .exact h a s k H x v i j lo hi g Q I f b c d q
 .exact h' a s k H x v i j lo hi g Q I f b c d q
def tSl(r:V->Option Int->Option Int->Hp->VK->Prop)(te:TE)(tl th:TO):TE:=λσ H Q=>te σ H λx H1=>tl σ H1 λl H2=>th σ H2 λu H3=>r x l u H3 Q
def Q8{r:V->Option Int->Option Int->Hp->VK->Prop}(A:SlR X r)(w:PE X e te)(z:PO X lo tl)(C:PO X hi th):PE X (.Subscript e (.Slice lo hi none p2) pos) (tSl r te tl th):=by
 intro a s d H Q I h;refine Subscript_ (thn (w a s d H _ I h) λv L z_=>?_);obtain⟨x,j,m,K,F⟩:=z_;refine wpAny_Slice (thn (z a L d j _ m F) λf M ⟨l,k,n,D,G⟩=>thn (C a M d k _ n G) λg c ⟨u,i,o,E,J⟩=>?_);rw[evalPart_none];refine ui ?_;have p:Inv X a d i {c with heap:=c.heap.push {cls:=.type "slice",data:=.fields #[f,g,.none]}}:=o.kept (t':=c.toks) λb O q=>vL _ q
 let⟨T,N,t,B,y⟩:=A a {c with heap:=c.heap.push {cls:=.type "slice",data:=.fields #[f,g,.none]}} d i x v f g l u c.heap.objs.size Q p K (Heap.IsSliceOf.new ..) D E J;show wpAny (model X.prog X.w) X.A (subscriptTail e (.Slice lo hi none p2) v (.ref c.heap.objs.size)) (EP X a d Q) X.xe {c with heap:=c.heap.push {cls:=.type "slice",data:=.fields #[f,g,.none]}};exact tail_any (ops:=[.ref c.heap.objs.size,v]) B t y (by with_unfolding_all rfl)
noncomputable def cutV(xs:N6)(lo hi:Option Int):N6:=(xs.drop (HT.sIx xs.length 0 lo)).take (HT.sIx xs.length xs.length hi-HT.sIx xs.length 0 lo)
def Ze(xs:N6)(lo hi:Option Int):(cutV xs lo hi).length<=xs.length:=by
 unfold cutV;rw[vh,length_drop];lia
noncomputable def rSlT(K:Frg):V->Option Int->Option Int->Hp->VK->Prop:=λx lo hi H Q=>∃a xs,x = .ref a/\SqT K H a xs/\
 ¬(HT.sIx xs.length 0 lo=0/\HT.sIx xs.length xs.length hi=xs.length)/\∀p,H p=none->Q (.ref p) (upd H p (.tup (cutV xs lo hi)))
def j4E:SlR X (rSlT X.K):=by
 intro k s B H x v z A e f y Q I u l p t h;let⟨a,d,rfl,n,m,q⟩:=h;cases u;let⟨g,r,i,j⟩:=I.tuple n;have c:g.toArray.size=d.length:=by rw[size_toArray];exact r.length.symm
 refine⟨"tuple",_,PyProof.Rows.slot_tuple_getitem.lookup,i.typeIs,?_⟩;refine HT.yM i l p t (by rw[c];exact m) ?_ (by rw[c];exact j);rw[c];refine⟨.ref s.heap.objs.size,_,I.laid (t':=s.toks) (o:=.tup (cutV d e f)) (λb w q=>vL _ q) (vA _) ?_,rfl,q _ (I.hok.fresh (vA _))⟩;exact⟨vX (Ze d e f) j,_,(r.drop (HT.sIx d.length 0 e)).take (HT.sIx d.length d.length f-HT.sIx d.length 0 e),IsTup.new _ _⟩
def rCatT(K:Frg):R2:=λx y H Q=>∃a b xs ys,x = .ref a/\y = .ref b/\SqT K H a xs/\SqT K H b ys/\xs≠[]/\xs.length+ys.length<=sizeLine/\
 (ys=[]->Q (.ref a) H)/\(ys≠[]->∀p,H p=none->Q (.ref p) (upd H p (.tup (xs++ys))))
def Vals.nil_iff{xs:N6}{us:N4}(r:Vals xs us):us=[]↔xs=[]:=by
 cases r with
 | nil=>simp
 | cons _ _=>simp
def j1J:OpR X (binaryOp .Add) (rCatT X.K):=by
 intro g s E H x y v u Q I t A h;let⟨a,b,B,C,rfl,rfl,i,j,k,e,p,r⟩:=h;cases t;cases A;let⟨l,d,m,_⟩:=I.tuple i;let⟨f,c,n,_⟩:=I.tuple j;refine HT.j57 m n (λz=>k (d.nil_iff.mp z)) (λz=>⟨.ref a,H,I,rfl,p (c.nil_iff.mp z)⟩) (λz=>?_) (by rw[<-d.length,<-c.length];exact e);refine⟨.ref s.heap.objs.size,_,I.laid (t':=s.toks) (o:=.tup (B++C)) (λb D q=>vL _ q) (vA _) ?_,rfl,r (λw=>z (c.nil_iff.mpr w)) _ (I.hok.fresh (vA _))⟩;exact⟨by rw[vm];exact e,_,d.append c,IsTup.new _ _⟩
end
noncomputable def ixN(n:Nat)(i:Int):Option Nat:=if 0<=i then(if i<n then some i.toNat else none)else if -(n:Int)<=i then some (i+n).toNat else none
noncomputable def atI{α:Type}(xs:List α)(i:Int):Option α:=(ixN xs.length i).bind λj=>xs[j]?
def j1v(h:ixN n i=some j):seqIndex? i n=some j/\j<n/\-(n:Int)<=i/\i<n:=by
 unfold ixN at h;by_cases b:0<=i
 .rw[vc b]at h;by_cases a:i<n
  .rw[vc a]at h;have e:i.toNat=j:=vN h;exact⟨by rw[seqIndex_of b a,e],⋯,⋯,a⟩
  .rw[va a]at h;cases h
 .rw[va b]at h;by_cases a : -(n:Int)<=i
  .rw[vc a]at h;have e:(i+n).toNat=j:=vN h;exact⟨by rw[seqIndex_neg ⋯ a,e],⋯,a,⋯⟩
  .rw[va a]at h;cases h
def Wz{a:Type}{xs:List a}{i:Int}{v:a}(h:atI xs i=some v):∃j,seqIndex? i xs.length=some j/\xs[j]?=some v/\j<xs.length/\-(xs.length:Int)<=i/\i<xs.length:=by
 unfold atI at h;cases e:ixN xs.length i with
 | none=>rw[e]at h;cases h
 | some j=>
  rw[e]at h;let⟨b,c,d,f⟩:=j1v e;exact⟨j,b,h,c,d,f⟩
def jM{a:Type}{xs:List a}{j:Nat}{v:a}(h:xs[j]?=some v):atI xs (j:Int)=some v:=by
 have b:j<xs.length:=(vx.mp h).1;have e:ixN xs.length (j:Int)=some j:=by
  unfold ixN;rw[vc ⋯,vc ⋯];simp
 unfold atI;rw[e];exact h
def PlainIx(b:Expr):Prop:=∀o i,subscripted b false o i=operate [o,i] (getItem o i)
def IxR(X:Cx)(r:R2):Prop:=
 ∀(value slice:Expr) (pins:List (Addr×Obj)) (s:Shared) (σ:St) (H:Hp) (x y:V) (v u:Value) (Q:VK),Inv X pins σ H s->RelV x v->RelV y u->r x y H Q->
  subscripted slice false v u=operate [v,u] (getItem v u)->wpAny (model X.prog X.w) X.A (subscriptTail value slice v u) (EP X pins σ Q) X.xe s
def MtR(X:Cx)(id:String)(r:V->N6->Hp->VK->Prop):Prop:=
 ∀(pins:List (Addr×Obj)) (s:Shared) (σ:St) (H:Hp) (x:V) (xs:N6) (v:Value) (us:N4) (Q:VK),Inv X pins σ H s->RelV x v->Vals xs us->r x xs H Q->
  wpAny (model X.prog X.w) X.A (call (.builtin id) (v::us)) (EP X pins σ Q) X.xe s
section
variable{X:Cx}{a b:Expr}{ta tb:TE}{pos:Pos}
def jh(i:IxR X r)(f:PE X a ta)(g:PE X b tb)(j:PlainIx b:=by exact λ_ _=>rfl):PE X (.Subscript a b pos) (tOp r ta tb):=by
 intro c s n H Q I h;exact Subscript_ (binT f g I h λv u m x y d e k l q=>i a b c m n d x y v u Q e k l q (j _ _))
def rIxL(K:Frg):R2:=λx y H Q=>∃p xs i v,x = .ref p/\y = .int i/\SqL K H p xs/\atI xs i=some v/\Q v H
def rIxT(K:Frg):R2:=λx y H Q=>∃p xs i v,x = .ref p/\y = .int i/\SqT K H p xs/\atI xs i=some v/\Q v H
def rIxS:R2:=λx y H Q=>∃z i c,x = .str z/\y = .int i/\z.length<=sizeLine/\atI z.cps.toList i=some c/\Q (.str ⟨#[c]⟩) H
def jr:IxR X (rIxL X.K):=by
 intro l k a s A H x y v u Q I J K h o;let⟨p,P,i,z,rfl,rfl,G,E,q⟩:=h;cases J;let⟨t,rfl⟩:=K;let⟨e,r,f,O⟩:=I.list G;let⟨j,c,B,M,C,D⟩:=Wz E;let⟨w,m,g⟩:=r.get B;have F:=r.length;have N:=line63;have b:EP X a A Q w s:=⟨z,H,I,g,q⟩
 by_cases n:0<=i
 .have d:i.toNat=j:=by
   rw[seqIndex_of n D]at c;exact vN c
  exact item_listR f.isList n ⋯ (by rw[d];simpa using m) b o
 .have d:(i+(e.toArray.size:Int)).toNat=j:=by
   rw[seqIndex_neg ⋯ C]at c;rw[size_toArray,<-F];exact vN c
  exact subscriptTail_builtinR (x:=w) f.isList.typeIs slot_list_getitem.lookup
   (wpAny_getItem_list_neg (Q:=λr L=>r=w/\EP X a A Q r L) f.isList ⋯ (by rw[size_toArray]<;>lia) ⋯ (by rw[d];simpa using m) ⟨rfl,b⟩) o
def jq:IxR X (rIxT X.K):=by
 intro e d a s g H x y v u Q I D E h B;let⟨p,N,i,z,rfl,rfl,A,n,q⟩:=h;cases D;let⟨t,rfl⟩:=E;let⟨C,r,f,M⟩:=I.tuple A;let⟨j,l,m,G,J,K⟩:=Wz n;let⟨w,k,c⟩:=r.get m;have o:=r.length;have L:=line63;have b:EP X a g Q w s:=⟨z,H,I,c,q⟩
 exact subscriptTail_builtinR (x:=w) f.typeIs slot_tuple_getitem.lookup
  (getItem_tuple (j:=j) (Q:=λr F=>r=w/\EP X a g Q r F) f ⋯ ⋯ (by rw[size_toArray,<-o];exact l) (by simpa using k) ⟨rfl,b⟩) B
def j3G:IxR X rIxS:=by
 intro b a e s E H x y v u Q I r w h p;let⟨z,i,c,rfl,rfl,C,n,q⟩:=h;let⟨t,rfl⟩:=r;let⟨D,rfl⟩:=w;let⟨j,d,k,A,l,m⟩:=Wz n;have o:z.cps.toList.length=z.length:=by simp[Str.length]
 rw[o]at d l m;have B:=line63;exact tail_any (typeIs_str s z t) slot_str_getitem.lookup (getItem_str (c:=c) (by
  have f:decide (i < -(2^63:Int))=false:=vJ ⋯;have g:decide (i>=2^63)=false:=vJ ⋯;rw[f,g,Bool.or_false]) (by rw[d];simpa using k) ⟨.str ⟨#[c]⟩,H,I.tok _,⟨_,rfl⟩,q⟩) p
def j0x(a:N4)(n j:Nat)(u:Value):Obj.mapSeq (·.setIfInBounds j u) {cls:=.type "list",data:=.seq a.toArray n}={cls:=.type "list",data:=.seq (a.set j u).toArray n}:=by
 simp[Obj.mapSeq]
def Inv.lst{b:St}{H:Hp}(I:Inv X pins b H s)(h:H p=some (.lst xs)) :
  ∃(a:N4) (n:Nat),Vals xs a/\s.heap.get? p=some {cls:=.type "list",data:=.seq a.toArray n}/\xs.length<=sizeLine:=by
 let⟨z,a,n,r,e⟩:=I.hok p _ h;exact⟨a,n,r,e,z⟩
def Inv.lstUpd{a:List (Addr×Obj)}{i:St}{H:Hp}{s:Shared}{p:Addr}{xs ys:N6}{c its':N4}{n d:Nat}{f:Obj->Obj}(I:Inv X a i H s)(h:H p=some (.lst xs))
  (k:s.heap.get? p=some {cls:=.type "list",data:=.seq c.toArray n}) (g:f {cls:=.type "list",data:=.seq c.toArray n}={cls:=.type "list",data:=.seq its'.toArray d}) (r:Vals ys its') (hz:ys.length<=sizeLine) (t:Nat) :
  Inv X a i (upd H p (.lst ys)) {s with heap:=s.heap.update p f,toks:=t}:=by
 have e:(s.heap.update p f).get? p=some {cls:=.type "list",data:=.seq its'.toArray d}:=by
  rw[Heap.get?_update_self f k (by rw[g]<;>rfl),g]
 refine I.write (x:=p) (e:=p) (by rw[h];trivial) (.inl rfl) (λb u j q=>(Heap.get?_update_other _ _ (Ne.symm j)).trans q) ⟨_,e⟩ ?_;exact⟨hz,its',d,r,e⟩
noncomputable def rSetL:V->V->V->Hp->(Hp->Prop)->Prop:=λo i v H Q=>∃p xs k j,o = .ref p/\i = .int k/\H p=some (.lst xs)/\ixN xs.length k=some j/\Q (upd H p (.lst (xs.set j v)))
def set_list:PSet X rSetL:=by
 intro b s E H o i v ov J u Q I B A C h;let⟨p,D,k,j,rfl,rfl,x,y,q⟩:=h;cases B;let⟨t,rfl⟩:=A;let⟨a,n,r,f,z⟩:=I.lst x;let⟨c,F,m,w⟩:=j1v y;have e:=r.length;have G:=line63;have g:Inv X b E (upd H p (.lst (D.set j v))) {s with heap:=s.heap.update p (Obj.mapSeq (·.setIfInBounds j u))}:=
  I.lstUpd x f (j0x a n j u) (r.set C j) (by rw[List.length_set];exact z) s.toks
 by_cases l:0<=k
 .have d:k.toNat=j:=by
   rw[seqIndex_of l w]at c;exact vN c
  exact PySem.W.ki_setAt f l ⋯ (by rw[size_toArray,<-e];exact w) (by rw[d];exact⟨_,g,q⟩)
 .have d:(k+(a.toArray.size:Int)).toNat=j:=by
   rw[seqIndex_neg ⋯ m]at c;rw[size_toArray,<-e];exact vN c
  exact PySem.W.ki_setBack f ⋯ (by rw[size_toArray,<-e];exact m) ⋯ (by rw[d];exact⟨_,g,q⟩)
def xA(lo hi:Option Int)(n:Nat):(sliceBounds lo hi none n).1=((HT.sIx n 0 lo:Nat):Int)/\(sliceBounds lo hi none n).2.1=((HT.sIx n n hi:Nat):Int)/\(sliceBounds lo hi none n).2.2=1:=by
 refine⟨?_,?_,rfl⟩
 .cases lo with
  | none=>simp[sliceBounds,HT.sIx]
  | some i=>
   simp only[sliceBounds,HT.sIx,Option.getD_none,show(1:Int)>0 by decide,if_true];by_cases h:i<0
   .simp only[h,if_true]<;>lia
   .simp only[h,if_false]<;>lia
 .cases hi with
  | none=>simp[sliceBounds,HT.sIx]
  | some i=>
   simp only[sliceBounds,HT.sIx,Option.getD_none,show(1:Int)>0 by decide,if_true];by_cases h:i<0
   .simp only[h,if_true]<;>lia
   .simp only[h,if_false]<;>lia
def wy(a:N4)(lo hi:Option Int):slicePick a.toArray lo hi none=((a.drop (HT.sIx a.length 0 lo)).take (HT.sIx a.length a.length hi-HT.sIx a.length 0 lo)).toArray:=by
 let⟨b,c,d⟩:=xA lo hi a.toArray.size;unfold slicePick;rw[b,c,d];simp only[sliceRange_one,pick_run,size_toArray]<;>rfl
noncomputable def rSlL(K:Frg):V->Option Int->Option Int->Hp->VK->Prop:=λx lo hi H Q=>∃a xs,x = .ref a/\SqL K H a xs/\∀p,H p=none->Q (.ref p) (upd H p (.lst (cutV xs lo hi)))
def kP:SlR X (rSlL X.K):=by
 intro i s A H x v y z e f w Q I t j n p h;let⟨a,c,rfl,k,q⟩:=h;cases t;let⟨m,r,g,l⟩:=I.list k;have d:=r.length;refine⟨"list",_,slot_list_getitem.lookup,g.isList.typeIs,?_⟩;refine wpAny_getItem_list_slice g.isList j n p .none (by simp) ?_ (by rw[size_toArray]<;>lia);rw[wy,<-d];refine⟨.ref s.heap.objs.size,_,I.laid (t':=s.toks) (o:=.lst (cutV c e f)) (λb u q=>vL _ q) (vA _) ?_,rfl,q _ (I.hok.fresh (vA _))⟩;exact⟨vX (Ze c e f) l,_,0,(r.drop (HT.sIx c.length 0 e)).take (HT.sIx c.length c.length f-HT.sIx c.length 0 e),Heap.get?_push_size _ rfl⟩
noncomputable def flatV:V->Bool
 | .non=>true
 | .bl _=>true
 | .int _=>true
 | .str _=>true
 | _=>false
noncomputable def eqV:V->V->Bool
 | .non,.non=>true
 | .bl a,.bl b=>a==b
 | .bl a,.int b=>(if a then 1 else 0)==b
 | .int a,.bl b=>a==(if b then 1 else 0)
 | .int a,.int b=>a==b
 | .str a,.str b=>a==b
 | _,_=>false
def j6r(f:RelV y u)(c:RelV x v)(g:flatV y=true)(e:flatV x=true):SeqAt.EqAt A s u v (eqV y x):=by
 cases y with
 | non=>
  cases f;cases x with
  | non=>cases c;exact SeqAt.EqAt.same _
  | bl b=>cases c;exact SeqAt.EqAt.none_bool b
  | int b=>let⟨t,rfl⟩:=c;exact SeqAt.EqAt.none_int b t
  | str b=>let⟨t,rfl⟩:=c;exact SeqAt.EqAt.none_str b t
  | _=>exact uh (show false=true from e) vH
 | bl a=>
  cases f;cases x with
  | non=>cases c;exact SeqAt.EqAt.bool_none a
  | bl b=>cases c;exact SeqAt.EqAt.bool_bool a b
  | int b=>let⟨t,rfl⟩:=c;exact SeqAt.EqAt.bool_int a b t
  | str b=>let⟨t,rfl⟩:=c;exact SeqAt.EqAt.bool_str a b t
  | _=>exact uh (show false=true from e) vH
 | int a=>
  let⟨d,rfl⟩:=f;cases x with
  | non=>cases c;exact SeqAt.EqAt.int_none a d
  | bl b=>cases c;exact SeqAt.EqAt.int_bool a d b
  | int b=>let⟨t,rfl⟩:=c;exact SeqAt.EqAt.int_int a d b t
  | str b=>let⟨t,rfl⟩:=c;exact SeqAt.EqAt.int_str a d b t
  | _=>exact uh (show false=true from e) vH
 | str a=>
  let⟨d,rfl⟩:=f;cases x with
  | non=>cases c;exact SeqAt.EqAt.str_none a d
  | bl b=>cases c;exact SeqAt.EqAt.str_bool a d b
  | int b=>let⟨t,rfl⟩:=c;exact SeqAt.EqAt.str_int a d b t
  | str b=>let⟨t,rfl⟩:=c;exact SeqAt.EqAt.str_str a d b t
  | _=>exact uh (show false=true from e) vH
 | _=>exact uh (show false=true from g) vH
noncomputable def eqU(x:V)(u:Value):Bool:=match u with
 | .none=>eqV .non x
 | .bool b=>eqV (.bl b) x
 | .int i _=>eqV (.int i) x
 | .str z _=>eqV (.str z) x
 | _=>false
def j3z(r:RelV y u)(f:flatV y=true):eqU x u=eqV y x:=by
 cases y with
 | non=>cases r;rfl
 | bl b=>cases r;rfl
 | int i=>let⟨t,rfl⟩:=r;rfl
 | str z=>let⟨t,rfl⟩:=r;rfl
 | _=>exact uh (show false=true from f) vH
theorem yE:∀{xs:N6} {us:N4},Vals xs us->xs.all flatV=true->us.any (eqU x)=xs.any λy=>eqV y x
 | _,_,.nil,_=>rfl
 | y::xs,u::us,.cons r t,f=>by
  rw[all_cons,Bool.and_eq_true]at f;rw[any_cons,any_cons,j3z r f.1,yE t f.2]
theorem Zl(c:RelV x v)(b:flatV x=true):∀{xs:N6} {us:N4},Vals xs us->xs.all flatV=true->∀u∈us,SeqAt.EqAt A s u v (eqU x u)
 | _,_,.nil,_=>λu a=>by cases a
 | y::xs,u::us,.cons r t,f=>λd a=>by
  rw[all_cons,Bool.and_eq_true]at f;rcases mem_cons.mp a with rfl | a
  .rw[j3z r f.1];exact j6r r c f.1 b
  .exact Zl c b t f.2 d a
noncomputable def inV(x:V)(xs:N6):Bool:=xs.any λy=>eqV y x
def rIn(K:Frg)(neg:Bool):R2:=λx y H Q=>∃p xs,y = .ref p/\(SqL K H p xs\/SqT K H p xs)/\flatV x=true/\xs.all flatV=true/\Q (.bl (if neg then !inV x xs else inV x xs)) H
def qD:OpR X (compareOp .In) (rIn X.K false):=by
 intro g s m H x y v u Q I i k h;let⟨p,l,rfl,b,f,c,q⟩:=h;cases k;rcases b with b | b
 .let⟨a,r,e,j⟩:=I.list b;refine SeqAt.in_listAt (eqU x) e.isList (λw d=>Zl i f r c w (by simpa using d)) ⟨.bl _,H,I,rfl,?_⟩;rw[show a.toArray.any (eqU x)=a.any (eqU x) by simp,yE r c];exact q
 .let⟨a,r,e,j⟩:=I.tuple b;refine SeqAt.in_tupleAt (eqU x) e (λw d=>Zl i f r c w (by simpa using d)) ⟨.bl _,H,I,rfl,?_⟩;rw[show a.toArray.any (eqU x)=a.any (eqU x) by simp,yE r c];exact q
def W9:OpR X (compareOp .NotIn) (rIn X.K true):=by
 intro g s m H x y v u Q I i k h;let⟨p,l,rfl,b,f,c,q⟩:=h;cases k;rcases b with b | b
 .let⟨a,r,e,j⟩:=I.list b;refine SeqAt.notIn_listAt (eqU x) e.isList (λw d=>Zl i f r c w (by simpa using d)) ⟨.bl _,H,I,rfl,?_⟩;rw[show a.toArray.any (eqU x)=a.any (eqU x) by simp,yE r c];exact q
 .let⟨a,r,e,j⟩:=I.tuple b;refine SeqAt.notIn_tupleAt (eqU x) e (λw d=>Zl i f r c w (by simpa using d)) ⟨.bl _,H,I,rfl,?_⟩;rw[show a.toArray.any (eqU x)=a.any (eqU x) by simp,yE r c];exact q
def WC:CallR X (.type "list") (λxs H Q=>∃p ys,xs=[.ref p]/\(SqL X.K H p ys\/SqT X.K H p ys)/\∀l,H l=none->Q (.ref l) (upd H l (.lst ys))):=by
 intro t s B H xs C Q I r h;let⟨p,ys,rfl,j,q⟩:=h;let⟨u,rfl,A⟩:=vals1 r;cases A;have g:∀(a:N4),Vals ys a->ys.length<=sizeLine->∀(c:Heap) (d:Nat),(∀b z,s.heap.get? b=some z->c.get? b=some z)->
   c.get? s.heap.objs.size=some {cls:=.type "list",dict:=none,data:=.seq a.toArray d,slots:=#[]}->EP X t B Q (.ref s.heap.objs.size) {s with heap:=c}:=λa f k c d m e=>
  ⟨.ref s.heap.objs.size,_,I.laid (t':=s.toks) m (vA _) (show ObjOk X.prog X.w _ c _ (.lst ys)from⟨k,a,d,f,e⟩),rfl,q _ (I.hok.fresh (vA _))⟩
 rcases j with j | j
 .let⟨a,f,y,k⟩:=I.list j;have i:=f.length;let⟨o,x,v,n,w⟩:=y.isList;exact call_list_seq p (.inl rfl) x v w (λc d m e=>g a f k c d m e) (by simp only[size_toArray]<;>lia)
 .let⟨a,f,y,k⟩:=I.tuple j;have i:=f.length;let⟨o,x,v,n,w⟩:=y;exact call_list_seq p (.inr rfl) x v w (λc d m e=>g a f k c d m e) (by simp only[size_toArray]<;>lia)
def ZS:CallR X (.type "tuple") (λxs H Q=>∃p ys,xs=[.ref p]/\((SqL X.K H p ys/\∀l,H l=none->Q (.ref l) (upd H l (.tup ys)))\/(SqT X.K H p ys/\Q (.ref p) H))):=by
 intro a s n H xs x Q I r h;let⟨p,ys,rfl,h⟩:=h;let⟨u,rfl,w⟩:=vals1 r;cases w;rcases h with⟨f,q⟩ | ⟨f,q⟩
 .let⟨c,i,g,m⟩:=I.list f;have k:=i.length;refine call_tuple_list g.isList (λd v=>?_) (by simp only[size_toArray]<;>lia);have j:Inv X a n H {s with heap:=d}:=I.kept (t':=s.toks) v;have t:Inv X a n (upd H d.objs.size (.tup ys)) {s with heap:=d.push {cls:=.type "tuple",data:=.seq c.toArray}}:=
   j.laid (t':=s.toks) (λb o e=>vL _ e) (vA _) (show ObjOk X.prog X.w _ _ _ (.tup ys)from⟨m,c,i,IsTup.new _ _⟩)
  exact⟨.ref d.objs.size,_,t,rfl,q _ (j.hok.fresh (vA _))⟩
 .let⟨c,i,g,m⟩:=I.tuple f;exact call_tuple_same g ⟨.ref p,H,I,rfl,q⟩
def tyV(K:Frg)(T:String)(x:V)(H:Hp):Prop:=match x with
 | .str _=>T = "str"
 | .int _=>T = "int"
 | .ref p=>(T = "list"/\∃xs,SqL K H p xs)\/(T = "tuple"/\∃o,K.lookup p=some o/\o.cls = .type "tuple"/\o.dict=none)\/
   (T = "dict"/\((∃kvs,H p=some (.dK kvs))\/∃kvs,H p=some (.dT kvs)))\/(T = "set"/\∃S n,H p=some (.set S n))
 | _=>False
def j4R{w:St}{H:Hp}(I:Inv X pins w H s)(r:RelV x v)(f:tyV X.K T x H) :
  s.TypeIs v T/\∀a,v = .ref a->∃k,s.heap.get? a=some k/\k.dict=none:=by
 cases x with
 | str z=>
  let⟨t,rfl⟩:=r;cases(show T = "str" from f);exact⟨typeIs_str s z t,λ_ e=>nomatch e⟩
 | int i=>
  let⟨t,rfl⟩:=r;cases(show T = "int" from f);exact⟨typeIs_int s i t,λ_ e=>nomatch e⟩
 | ref p=>
  cases r;rcases f with⟨rfl,y,q⟩ | ⟨rfl,o,b,m,h⟩ | ⟨rfl,b⟩ | ⟨rfl,S,n,b⟩
  .let⟨u,_,l,_⟩:=I.list q;refine⟨l.isList.typeIs,λa e=>?_⟩;cases e;let⟨o,n,e,c,h,_⟩:=l;exact⟨o,e,h⟩
  .refine⟨⟨o,I.kIn p o b,m⟩,λa e=>?_⟩;cases e;exact⟨o,I.kIn _ o b,h⟩
  .have z:∃o,s.heap.get? p=some o/\o.ExactDict:=by
    rcases b with⟨j,b⟩ | ⟨j,b⟩
    .let⟨_,_,_,_,o,_,_,e,d,_⟩:=I.hok p _ b;exact⟨o,e,d⟩
    .let⟨_,_,_,_,o,_,_,e,d,_⟩:=I.hok p _ b;exact⟨o,e,d⟩
   let⟨o,e,d⟩:=z;refine⟨⟨o,e,d.1⟩,λa g=>?_⟩;cases g;exact⟨o,e,d.2.1⟩
  .let⟨o,_,_,_,e,d,_⟩:=I.hok p _ b;refine⟨⟨o,e,d.1⟩,λa g=>?_⟩;cases g;exact⟨o,e,d.2.1⟩
 | _=>exact False.elim f
def tBM0(K:Frg)(T:String)(r:V->N6->Hp->VK->Prop)(to:TE):TE:=λσ H Q=>to σ H λx H1=>tyV K T x H1/\r x [] H1 Q
def tBM(K:Frg)(T:String)(r:V->N6->Hp->VK->Prop)(to:TE)(t:TA):TE:=λσ H Q=>to σ H λx H1=>tyV K T x H1/\t σ H1 λxs H2=>r x xs H2 Q
variable{o e:Expr}{es:List Expr}{to:TE}{t:TA}{name:Str}{apos cpos:Pos}{T id:String}{r:V->N6->Hp->VK->Prop}
def j0N(p:PlainAttrs T)(d:Slot T name id)(e:typeOf (.builtin id)=pure (.type "method_descriptor"))(m:MtR X id r)(n:PE X o to)
  (b:attributeBase o name X.env (eval o X.env)=eval o X.env:=by rfl) (c:(apos.endLine==cpos.line)=true:=by rfl):PE X (.Call (.Attribute o name apos) [] [] cpos) (tBM0 X.K T r to):=by
 intro a s i H Q I h;refine wpAny_Call_method0_late b c (thn (n a s i H _ I h) λv t z_=>?_);obtain⟨x,j,f,g,u,q⟩:=z_;let⟨k,l⟩:=j4R f g u;exact⟨T,id,p,d,e,k,l,Calls.callWith_builtin rfl (PySem.evalArgs_none (m a t i j x [] v [] Q f g .nil q))⟩
def Je(C:PlainAttrs T)(g:Slot T name id)(i:typeOf (.builtin id)=pure (.type "method_descriptor"))(z:MtR X id r)(A:PE X o to)(y:PA X (e::es) t)
  (c:attributeBase o name X.env (eval o X.env)=eval o X.env:=by rfl)
  (f:((backTo cpos (starEach (e::es) X.env)).all (λx=>!x.1)&&(backToKw cpos (keywordEach [] X.env)).all (λx=>x.1.isSome)
   && decide ((e::es).length+([]:List Keyword).length+(if([]:List Keyword).isEmpty then 0 else 1)<30))=true:=by rfl)
  (d:(apos.endLine==cpos.line)=true:=by rfl) (B:starEach (e::es) X.env=(false,eval e X.env)::starEach es X.env:=by rfl) (b:(backTo cpos (starEach es X.env)).any (·.1)=false:=by rfl) :
  PE X (.Call (.Attribute o name apos) (e::es) [] cpos) (tBM X.K T r to t):=by
 intro a s j H Q I h;refine wpAny_Call_method_late c f d rfl (thn (A a s j H _ I h) λv G z_=>?_);obtain⟨x,n,k,m,K,D⟩:=z_;let⟨u,w⟩:=j4R k m K;refine⟨T,id,C,g,i,u,w,?_⟩;have l:=y cpos a G j n _ k D;rw[B]at l|-;refine Calls.callWith_builtin (by show(false||(backTo cpos (starEach es X.env)).any (·.1))=false;rw[b]<;>rfl) (Calls.evalArgs_plain ?_);exact thn l λL J ⟨M,p,q,F,E⟩=>z a J j p x M v L Q q m F E
end
def MtM(X:Cx)(id:String)(r:V->N6->Hp->VK->Prop):Prop:=
 ∀(pins:List (Addr×Obj)) (s:Shared) (σ:St) (H:Hp) (x:V) (xs:N6) (v:Value) (us:N4) (Q:VK),Inv X pins σ H s->RelV x v->Vals xs us->r x xs H Q->
  wpAny (model X.prog X.w) X.A (call (.builtin id) (v::us)) (EP X pins σ Q) X.xe s
def Vals.one:∀{x:V} {us:N4},Vals [x] us->∃u,us=[u]/\RelV x u
 | _,_,.cons r .nil=>⟨_,rfl,r⟩
def Vals.zero:∀{us:N4},Vals [] us->us=[]
 | _,.nil=>rfl
def Vals.dropLast{xs:N6}{us:N4}(h:Vals xs us):Vals xs.dropLast us.dropLast:=by
 induction h with
 | nil=>exact .nil
 | cons r t ih=>
  cases t with
  | nil=>exact .nil
  | cons q t'=>exact .cons r ih
theorem Vals.rep(h:Vals xs us):∀k:Nat,Vals (List.replicate k xs).flatten (List.replicate k us).flatten
 | 0=>.nil
 | k+1=>by
  rw[replicate_succ,replicate_succ,flatten_cons,flatten_cons];exact Vals.append h (Vals.rep h k)
def j0k{c:Type}(l:List c):l.eraseIdx (l.length-1)=l.dropLast:=by
 induction l with
 | nil=>rfl
 | cons a r ih=>
  cases r with
  | nil=>rfl
  | cons b r=>
   have e:(a::b::r).length-1=((b::r).length-1)+1:=by
    have d:(a::b::r).length=r.length+2:=rfl;have f:(b::r).length=r.length+1:=rfl;lia
   rw[e,List.eraseIdx_cons_succ,ih]
   all_goals rfl
theorem wN(b:N4):∀(k:Nat) (a:N4),
  List.foldl (λd f=>d++f) a.toArray (List.replicate k b.toArray)=(a++(List.replicate k b).flatten).toArray
 | 0,a=>by simp
 | k+1,a=>by
  have e:a.toArray++b.toArray=(a++b).toArray:=by simp
  have c:(a++b)++(List.replicate k b).flatten=a++(List.replicate (k+1) b).flatten:=by
   rw[replicate_succ,flatten_cons,List.append_assoc]
  rw[<-c,<-wN b k (a++b),<-e,replicate_succ,List.foldl_cons]
section
variable{X:Cx}{pins:List (Addr×Obj)}{σ:St}{H:Hp}{s:Shared}{l b:Addr}{xs ys zs:N6}
def Inv.lset{a its':N4}{n:Nat}{f:Array Value->Array Value}{t':Nat}(I:Inv X pins σ H s)(b:H l=some (.lst xs))
  (e:s.heap.get? l=some {cls:=.type "list",data:=.seq a.toArray n}) (d:f a.toArray=its'.toArray) (h:Vals ys its') (hz:ys.length<=sizeLine) :
  Inv X pins σ (upd H l (.lst ys)) {s with heap:=s.heap.update l (Obj.mapSeq f),toks:=t'}:=by
 have q:=PySem.IsL.update e f;rw[d]at q;refine I.write (x:=l) (e:=l) (by rw[b];exact trivial) (.inl rfl) (λi u c g=>(Heap.get?_update_other s.heap (Obj.mapSeq f) (Ne.symm c)).trans g) ⟨_,q⟩ ?_;exact⟨hz,its',_,h,q⟩
def Inv.lnew(I:Inv X pins σ H s)(a:Vals ys its)(hz:ys.length<=sizeLine) :
  Inv X pins σ (upd H s.heap.objs.size (.lst ys)) {s with heap:=s.heap.push {cls:=.type "list",data:=.seq its.toArray},toks:=t'}:=
 I.laid (λ_ _ q=>vL _ q) (vA _) ⟨hz,its,0,a,Heap.get?_push_size _ rfl⟩
def Inv.fresh(I:Inv X pins σ H s):H s.heap.objs.size=none:=I.hok.fresh (vA _)
def Inv.lstM(I:Inv X pins σ H s)(b:H l=some (.lst xs)):xs.length<=sizeLine/\∃(a:N4) (n:Nat),Vals xs a/\xs.length=a.length/\s.heap.get? l=some {cls:=.type "list",data:=.seq a.toArray n}:=by
 let⟨z,a,n,r,e⟩:=I.hok l _ b;exact⟨z,a,n,r,r.length,e⟩
def notLongL(h:n<=sizeLine):Builtin.List.listTooLong n=false:=by
 unfold Builtin.List.listTooLong;exact vJ ⋯
end
section
variable{X:Cx}
noncomputable def rAppend:V->N6->Hp->VK->Prop:=λx vs H Q=>∃l xs y,x = .ref l/\vs=[y]/\H l=some (.lst xs)/\xs.length<sizeLine/\Q .non (upd H l (.lst (xs++[y])))
def jC:MtM X "list.append" rAppend:=by
 intro c s p H x m v k Q I g f h;let⟨l,o,y,rfl,rfl,b,j,q⟩:=h;cases g;let⟨u,rfl,d⟩:=f.one;let⟨z,a,n,r,i,e⟩:=I.lstM b;refine call_meets F.slot_list_append ⟨_,e,rfl⟩ F.entry_list_append (F.args_list_append_2 _ _) (PySem.list_append l a.toArray n u (by rw[size_toArray];lia)) ⟨e,?_⟩;refine⟨.non,_,I.lset (its':=a++[u]) b e (by simp) (r.append (.cons d .nil)) ?_,rfl,q⟩;rw[vm,List.length_singleton];lia
noncomputable def rExtend:V->N6->Hp->VK->Prop:=λx vs H Q=>∃l b xs zs,x = .ref l/\vs=[.ref b]/\H l=some (.lst xs)/\H b=some (.lst zs)/\xs.length+zs.length<=sizeLine/\Q .non (upd H l (.lst (xs++zs)))
def YJ:MtM X "list.extend" rExtend:=by
 intro i s K H x D v C Q I y w h;let⟨l,b,E,J,rfl,rfl,g,k,B,q⟩:=h;cases y;let⟨u,rfl,t⟩:=w.one;cases t;let⟨z,c,n,r,A,e⟩:=I.lstM g;let⟨G,a,o,p,m,j⟩:=I.lstM k;have f:c.toArray.size+a.toArray.size<=sizeLine:=by rw[size_toArray,size_toArray];lia
 have d:¬(!c.toArray.isEmpty&&Builtin.List.listTooLong (c.toArray.size+a.toArray.size))=true:=by
  rw[notLongL f,Bool.and_false];exact vH
 refine call_meets F.slot_list_extend ⟨_,e,rfl⟩ F.entry_list_extend (F.args_list_extend_2 _ _)
  (AutoSeq1.list_extend_list_list_0 l c.toArray n b a.toArray o d (by rw[size_toArray];lia) ⋯) ⟨e,j,?_⟩
 refine⟨.non,_,I.lset (its':=c++a) g e (by simp) (r.append p) ?_,rfl,q⟩;rw[vm];lia
noncomputable def rPop:V->N6->Hp->VK->Prop:=λx vs H Q=>∃l xs y,x = .ref l/\vs=[]/\H l=some (.lst xs)/\xs[xs.length-1]?=some y/\Q y (upd H l (.lst xs.dropLast))
def j3Y:MtM X "list.pop" rPop:=by
 intro f s A H x t v p Q I o m h;let⟨l,w,y,rfl,rfl,d,j,q⟩:=h;cases o;have b:=m.zero;subst b;let⟨z,a,n,r,g,e⟩:=I.lstM d;let⟨u,i,k⟩:=r.get j;have c:a.toArray[a.toArray.size-1]?=some u:=by
  show a.toArray[a.length-1]?=some u;rw[<-Array.getElem?_toList,<-g];exact i
 refine call_meets F.slot_list_pop ⟨_,e,rfl⟩ F.entry_list_pop (F.args_list_pop_1 _) (MeetsSeq.list_pop_last l a.toArray n u c (by rw[size_toArray];lia)) ⟨e,?_⟩;refine⟨y,_,I.lset (its':=a.dropLast) d e ?_ r.dropLast ?_,k,q⟩
 .show a.toArray.eraseIdxIfInBounds (a.toArray.size-1)=a.dropLast.toArray;rw[size_toArray,List.eraseIdxIfInBounds_toArray,j0k]
 .rw[List.length_dropLast];lia
def rCat:R2:=λx y H Q=>∃l b xs zs,x = .ref l/\y = .ref b/\H l=some (.lst xs)/\H b=some (.lst zs)/\xs.length+zs.length<=sizeLine/\∀p,H p=none->Q (.ref p) (upd H p (.lst (xs++zs)))
def j4b:OpR X (binaryOp .Add) rCat:=by
 intro d s E H x y v u Q I o p h;let⟨l,b,B,D,rfl,rfl,j,i,w,q⟩:=h;cases o;cases p;let⟨z,c,n,r,t,e⟩:=I.lstM j;let⟨C,a,A,m,k,f⟩:=I.lstM i;refine PySem.P.add_list e f ?_ (by rw[size_toArray,size_toArray];lia);have g:c.toArray++a.toArray=(c++a).toArray:=by simp
 rw[g];exact⟨.ref _,_,I.lnew (t':=s.toks) (r.append m) (by rw[vm];lia),rfl,q _ I.fresh⟩
def WT{a:Type}(xs:List a)(k:Nat):(List.replicate k xs).flatten.length=k*xs.length:=by
 induction k with
 | zero=>simp
 | succ k ih=>rw[replicate_succ,flatten_cons,vm,ih,Nat.succ_mul,Nat.add_comm]
end
section
variable{prog:Program}{w:World}{A:Around}{E:Value->Shared->Prop}{s:Shared}
end
section
variable{X:Cx}
end
end L2
namespace Att
open PySem PySem.W PySem.Calls PyProof.Rows
def kr:∀(ns:L9) (vs:N4),WellAll P h vs (ns.map WData.int)->IntsAre vs ns:=by
 intro ns
 induction ns with
 | nil=>
  intro vs w;rw[map_nil]at w;cases w;exact .nil
 | cons n ns ih=>
  intro vs w;rw[v9]at w;cases w with
  | cons a b=>
   cases a;exact .cons _ _ (ih _ b)
def j35{l:OpenLaw}{n:Nat}(s:l.most=some n){P:Params}{h:Heap}{args:List WData}{c:N4}
  (b:l.row.toRowW.claim.pre args=true) (j:WellAll P h c args) :
  ∃a vs ns,c=[Value.ref a]/\args=[WData.list (ns.map WData.int)]/\h.get? a=some {cls:=.type "list",data:=.seq vs.toArray}/\IntsAre vs ns/\ns.length<=n:=by
 have i:WShape.hasAll [] args [.list .int]=true:=(pre_splitW b).1;have k:l.pre.holds [] {args:=args}=true:=(pre_splitW b).2;let⟨d,r,rfl,m,o⟩:=hasAllW_cons i;obtain rfl:=hasAllW_nil o;let⟨u,rfl,p⟩:=hasW_list m;let⟨ns,rfl⟩:=items_int p;have e:ns.length<=n:=by
  unfold OpenLaw.pre at k;have f:(WTm.not (.lt (.lit (.int (n:Int))) (.len (.arg 0)))).holds [] {args:=[.list (ns.map .int)]}=true:=by
   have f:=(holds_andW k).1;rw[s]at f;exact f
  have g:=condW_of f (w_not (w_lt w_lit (w_len_list (w_arg rfl))));rw[vt]at g;refine Nat.le_of_not_lt λq=>?_
  have t:(n:Int)<((ns.length:Nat):Int):=⋯
  first
   | (rw[vI t]at g;exact uh g nofun)
   | (simp at g;lia)
 cases j with
 | cons w1 w2=>
  cases w2;cases w1 with
  | list ho hall=>exact⟨_,_,ns,rfl,rfl,ho,kr ns _ hall,e⟩
def j2X(l:OpenLaw)(args:List WData):l.row.toRowW.claim.post args (.bool true) args=true:=
 postW_of (r:=l.row.toRowW) (X:=(true==true))
  (show WShape.has [] (.bool true) .bool=true by first | rfl | decide | simp[WShape.has,WShape.arms,WShape.armsAll])
  (show(WTm.eq .res (.lit (.bool true))).value [] {args:=args,res:=some (.bool true),after:=args}=some (.bool (true==true))from w_eq_bool (w_res rfl) w_lit) rfl
section
variable{prog:Program}{w:World}{A:Around}{E:Value->Shared->Prop}{s:Shared}{K:Frag}
end
end Att
namespace L2
open PySem PySem.Spec PyProof.Rows
theorem Wm:∀{vs:N4} {ns:L9},IntsAre vs ns->Vals (ns.map V.int) vs
 | _,_,.nil=>.nil
 | _,_,.cons n t h=>.cons ⟨t,rfl⟩ (Wm h)
def Only(H:Hp):Prop:=∀b,H b=none\/∃o xs,H b=some (.frz o (.lst xs))
def j3J{P:Program}{w:World}{K:Frg}{L W:Str->Option Value}{CX:CXT}{k:Nat}{R a:Addr}{fd:FuncData}{x:Str}{sp:Sp}{c:Shared}{vs:N4}{ns:L9}
  (Y:K.In c.heap) (D:c.heap.Ns mainGlobals L) (g:c.heap.Ns builtinsNs W) (T:∀x:Str,x≠"__name__"->W x=bootBuiltins x) (C:c.heap.NoLimit) (hg:c.gens = #[])
  (N:c.heap.get? a=some {cls:=.type "list",data:=.seq vs.toArray}) (hi:IntsAre vs ns) (hl:ns.length<=sizeLine) (hr:Room k callerA)
  (F:∀base:Heap,K.In base->base.Ns mainGlobals L->FnOk P w K L base CX k R fd [x] sp) (l:∀(s:Shared) (u:Value),BindsTo s fd ⟨[u],[]⟩ [(x,u)])
  (U:∀H:Hp,Only H->SqL K H a (ns.map V.int)->sp [.ref a] H (λv _=>v = .bl true) λ_ _ _=>False)
  (S:∀H e s',CX [] H c (λ_ _ _=>False) e s'->False) :
  codeAny (model P w) callerA (.call (.ref R) ⟨[.ref a],[]⟩) (λr s'=>r = .ok (.ret (.bool true))/\OldK c.heap s'.heap/\s'.os=c.os/\AllBare s'.gens) c:=by
 have rv:=Wm hi;have J:=hi.length;have j:∀H:Hp,Only H->SqL K H a (ns.map V.int)->HOk P w H c.heap->(∀b,H b≠none->b=a)->(H a≠none->K.lookup a=none)->
   codeAny (model P w) callerA (.call (.ref R) ⟨[.ref a],[]⟩) (λr s'=>r = .ok (.ret (.bool true))/\OldK c.heap s'.heap/\s'.os=c.os/\AllBare s'.gens) c:=by
  intro H hO hS G hA hK;have f:∀{b:Addr} {o:Obj},c.heap.get? b=some o->H b=none->(hidT c.heap H).get? b=some o:=λe n=>j3F e n
  have X:∀{b:Addr} {o:Obj} {y:Array DictEntry} {t:Nat},c.heap.get? b=some o->o.data = .dict y t->H b=none:=λ{b o y t} e d=>by
   cases q:H b with
   | none=>rfl
   | some u=>
    have O:b=a:=hA b (by rw[q];simp);subst O;rw[N]at e;cases e;have d':Data.seq vs.toArray _=Data.dict y t:=d;cases d'
  have i:∀{b:Addr} {m:Str->Option Value},c.heap.Ns b m->(hidT c.heap H).Ns b m:=λ{b m} ⟨o,y,t,e,d,r⟩=>⟨o,y,t,f e (X e d),d,r⟩
  have B:K.In (hidT c.heap H):=λb o e=>f (Y b o e) (by
   cases q:H b with
   | none=>rfl
   | some u=>
    have O:b=a:=hA b (by rw[q];simp);subst O;rw[hK (by rw[q];simp)]at e;cases e)
  have hM:Mod K L (hidT c.heap H):=⟨B,i D,⟨W,i g,T⟩,let ⟨mc,h1,h2⟩:=C;⟨mc,i h1,h2⟩⟩
  have e0:Env0 P w K L (hidT c.heap H) callerA [] c H:=⟨rfl,hM,λb o e=>j5D e,Nat.le_of_eq (j2y _ _),trivial,λb g=>uh (show b∈([]:N2)from g) (by simp),G,.of_eq hg⟩
  refine codeAny_mono ((F _ B (i D)).run callerA [] c H ⟨[.ref a],[]⟩ [.ref a] [.ref a] _ _ hr e0 (l c (.ref a)) (.cons rfl .nil) (U H hO hS)) λr s' h=>?_
  cases r with
  | error e=>exact(S H e s' h).elim
  | ok fl=>
   cases fl with
   | next=>exact False.elim h
   | brk=>exact False.elim h
   | cont=>exact False.elim h
   | ret u=>
    let⟨v,H',os,p,un,I,r',q⟩:=h;have q':v = .bl true:=q;subst q';obtain rfl:u=Value.bool true:=r';refine⟨rfl,OldK.of_keep λb o e=>?_,os,p⟩;cases q:H b with
    | none=>exact un.keep b o e q (by intro z;exact uh (show b∈([]:N2)from z) (by simp)) (by simp)
    | some u=>
     rcases hO b with z | ⟨ob,xs,z⟩
     .rw[q]at z;cases z
     .have z2:=un.frzs b ob _ z;let⟨Z,_⟩:=G b _ z;let⟨e2,_⟩:=I b _ z2;rw[e]at Z;cases Z;exact e2
 cases hk:K.lookup a with
 | some o=>
  have e:=Y a o hk;rw[N]at e;cases e;refine j (λ_=>none) (λ_=>.inl rfl) (.inr ⟨_,vs.toArray,_,hk,rfl,rfl,rfl,by rw[size_toArray,J];exact hl,by simpa using rv⟩) (λb u z=>by have M:(none:Option HO)=some u:=z;cases M) (λb z=>uh rfl z) λz=>uh rfl z
 | none=>
  refine j (λb=>if b=a then some (.frz {cls:=.type "list",data:=.seq vs.toArray} (.lst (ns.map V.int)))else none) (λb=>?_) (.inl (.inr ⟨{cls:=.type "list",data:=.seq vs.toArray},vc rfl⟩)) (λb u z=>?_) (λb z=>?_) λ_=>hk
  .by_cases g:b=a
   .exact .inr ⟨_,_,vc g⟩
   .exact .inl (va g)
  .by_cases g:b=a
   .have M:=(vc g).symm.trans z;cases M;subst g;exact⟨N,by rw[vt];exact hl,vs,_,rv,N⟩
   .have M:=(va g).symm.trans z;cases M
  .by_cases g:b=a
   .exact g
   .exact uh (va g) z
noncomputable abbrev KOf{K:Frg}{h:Heap}(_:K.In h):Frg:=K
noncomputable def inClass(s:Stmt)(j:Nat):Stmt:=match s with
 | .ClassDef _ _ _ body _ _ _ _ _ _ _=>body.getD j (.Pass ⟨0,0,0,0⟩)
 | _=>.Pass ⟨0,0,0,0⟩
noncomputable def defArgs(s:Stmt):Arguments:=match s with
 | .FunctionDef _ a _ _ _ _ _ _ _ _=>a
 | _=>{posonlyargs:=[],args:=[],vararg:=none,kwonlyargs:=[],kw_defaults:=[],kwarg:=none,defaults:=[]}
noncomputable def defBody(s:Stmt):List Stmt:=match s with
 | .FunctionDef _ _ b _ _ _ _ _ _ _=>b
 | _=>[]
noncomputable def defScope(s:Stmt):Scope:=match s with
 | .FunctionDef _ _ _ _ _ _ sc _ _ _=>sc
 | _=>{kind:=.function,names:=[],isGenerator:=false,isCoroutine:=false}
noncomputable abbrev CX0:CXT:=λ_ _ _ _ _ _=>False
noncomputable abbrev E0:XK:=λ_ _ _=>False
def pass0:Passes CX0 X E0:=λ_ _ _ _ _ _ _ h=>h.elim
structure Fun(K:Frg)(x qual:Str)(st:Stmt)(f:Addr)(fd:FuncData):Prop where
 ex:∃(oc:Value) (od:Option Addr) (kV doc pm:Value) (an:Option Addr) (cdv ct:Value) (osl:Array (Option Value)),
  fd=PySem.W.fnOf x qual (defArgs st) (defBody st) (defScope st) .none kV doc pm an cdv ct/\K.lookup f=some ⟨oc,od,.func fd,osl⟩/\PySem.W.codeIn K cdv qual=true
 kp:PySem.W.keepIn K (.ref f)=true
section
variable{P:Program}{w:World}{K:Frg}{mg:Str->Option Value}{base:Heap}
def Fun.ok{x b:Str}{st:Stmt}{f:Addr}{j:FuncData}{N ps:N3}{k:Nat}{sp:Sp}(F:Fun K x b st f j)(S:FnScope N ps (defScope st))(i:∀vs H Q E,sp vs H Q E->vs.length=ps.length)
  (d:∀(c:Value) (A:Around) (a:List Env) (s:Shared) (H:Hp) (vs:N6) (Q:VK) (E:XK),Room k (A.deeper (envOfC b (defScope st) s.heap.objs.size f c))->sp vs H Q E->
   ∃t,PSs (cxOf CX0 P w K mg base N b (defScope st) f c A a s H E).nox (defBody st) t/\t {nx:=λ_ H'=>Q .non H',rt:=Q} (start N vs) H):FnOk P w K mg base CX0 (k+1) f j ps sp:=by
 let⟨u,v,kV,l,y,p,c,r,o,rfl,n,e⟩:=F.ex;refine j67 n e S i λA a s H vs Q E m g=>?_
 let⟨t,h,q⟩:=d c A a s H vs Q E m g;exact⟨t,h.nox,q⟩
def Fun.binds{x a:Str}{st:Stmt}{f:Addr}{i:FuncData}{ps:N3}(F:Fun K x a st f i)
  (h:∀(kV c g:Value) (d:Option Addr) (b e:Value) (us:N4),us.length=ps.length->bindArgs (PySem.W.fnOf x a (defArgs st) (defBody st) (defScope st) .none kV c g d b e) ⟨us,[]⟩=pure (ps.zip us)):Binds K i ps []:=by
 let⟨m,n,kV,c,g,d,b,e,k,rfl,l,j⟩:=F.ex;exact .all (h kV c g d b e)
def jy{x a:Str}{st:Stmt}{f:Addr}{j:Value}{m g:Option Addr}{e:Array (Option Value)}{kV d i b h:Value}(l:K.lookup f=some ⟨j,m,.func (PySem.W.fnOf x a (defArgs st) (defBody st) (defScope st) .none kV d i g b h),e⟩)
  (c:PySem.W.codeIn K b a=true) (k:PySem.W.keepIn K (.ref f)=true):Fun K x a st f (PySem.W.fnOf x a (defArgs st) (defBody st) (defScope st) .none kV d i g b h):=⟨⟨j,m,kV,d,i,g,b,h,e,rfl,l,c⟩,k⟩
end
def Zi(a:Room k A):A.units+1<cLine:=vF (Nat.add_le_add_left (by decide:1<=64) _) a.units
section
variable{X:Cx}
def pv(i:Nat){pos:Pos}(b:X.N[i]?=some x:=by rfl)(d:Vis X.env.scope x:=by first | exact Or.inl rfl | exact Or.inr (Or.inl rfl) | exact Or.inr (Or.inr rfl))(c:(x==("__debug__" : Str))=false:=by decide)
  (a:(x==("__classdict__" : Str))=false:=by decide):PE X (.Name x pos) (tVar i):=j6N b d c a
end
def iteF{A B:Prop}(h:B):if false=true then A else B:=by
 rw[va vH];exact h
def iteT{A B:Prop}(h:A):if true=true then A else B:=by
 rw[vc rfl];exact h
def Same(H H':Hp):Prop:=∀b o,H b=some o->H' b=some o
def Same.refl(H:Hp):Same H H:=λ_ _ h=>h
def Same.trans{H d e:Hp}(a:Same H d)(b:Same d e):Same H e:=λc o h=>b c o (a c o h)
def Same.seq{K:Frg}{H H':Hp}{a:Addr}{xs:N6}(e:Same H H')(h:SqL K H a xs):SqL K H' a xs:=by
 rcases h with(h | ⟨o,h⟩) | h
 .exact .inl (.inl (e _ _ h))
 .exact .inl (.inr ⟨o,e _ _ h⟩)
 .exact .inr h
section
variable{κ:Type}[DecidableEq κ]
noncomputable def valV(kvs:List (κ×V))(k:κ):N7:=(kvs.find? λkv=>decide (kv.1=k)).map (·.2)
noncomputable def putK(kvs:List (κ×V))(k:κ)(v:V):List (κ×V):=
 if(kvs.any λkv=>decide (kv.1=k))=true then kvs.map (λkv=>if kv.1=k then(kv.1,v)else kv)else kvs++[(k,v)]
def JF{p:κ×V}{r:List (κ×V)}{k:κ}(e:p.1=k):valV (p::r) k=some p.2:=by simp[valV,List.find?_cons,e]
def Jz{p:κ×V}{r:List (κ×V)}{k:κ}(e:¬p.1=k):valV (p::r) k=valV r k:=by simp[valV,List.find?_cons,e]
theorem Zy(k:κ):∀kvs:List (κ×V),(kvs.any λkv=>decide (kv.1=k))=(valV kvs k).isSome
 | []=>rfl
 | p::r=>by
  rw[any_cons];by_cases e:p.1=k
  .simp only[JF e,decide_eq_true e,Bool.true_or,Option.isSome_some]
  .rw[Jz e,vJ e,Bool.false_or];exact Zy k r
theorem XY(k j:κ)(y:V):∀kvs:List (κ×V),valV (kvs.map λkv=>if kv.1=k then(kv.1,y)else kv) j=(valV kvs j).map λx=>if j=k then y else x
 | []=>rfl
 | p::r=>by
  have a:=XY k j y r;rw[v9];by_cases h:p.1=k
  .rw[vc h];by_cases e:p.1=j
   .rw[JF (p:=(p.1,y)) e,JF e,Option.map_some,vc (e.symm.trans h)]
   .rw[Jz (p:=(p.1,y)) e,Jz e,a]
  .rw[va h];by_cases e:p.1=j
   .rw[JF (p:=p) e,JF e,Option.map_some,va (λz=>h (e.trans z))]
   .rw[Jz (p:=p) e,Jz e,a]
theorem Wj(k j:κ)(y:V):∀kvs:List (κ×V),valV kvs k=none->valV (kvs++[(k,y)]) j=if j=k then some y else valV kvs j
 | [],_=>by
  by_cases e:k=j
  .rw[vc e.symm];exact JF (p:=(k,y)) e
  .rw[va (λz=>e z.symm)];exact Jz (p:=(k,y)) e
 | p::r,hn=>by
  rw[List.cons_append];have a:¬p.1=k:=λz=>by rw[JF z]at hn;cases hn
  rw[Jz a]at hn;have b:=Wj k j y r hn;by_cases e:p.1=j
  .rw[JF e,JF e,va (λz=>a (e.trans z))]
  .rw[Jz e,Jz e,b]
def XZ(kvs:List (κ×V))(k j:κ)(y:V):valV (putK kvs k y) j=if j=k then some y else valV kvs j:=by
 unfold putK;by_cases a:(kvs.any λkv=>decide (kv.1=k))=true
 .rw[vc a,XY];rw[Zy]at a;by_cases e:j=k
  .let⟨x,b⟩:=Option.isSome_iff_exists.mp a;rw[vc e,e,b,Option.map_some,vc rfl]
  .rw[va e];cases valV kvs j with
   | none=>rfl
   | some x=>rw[Option.map_some,va e]
 .rw[va a];refine Wj k j y kvs ?_;rw[Zy]at a;cases q:valV kvs k with
  | none=>rfl
  | some x=>rw[q]at a;exact(a rfl).elim
def Zj(kvs:List (κ×V))(k:κ)(v:V):(putK kvs k v).length<=kvs.length+1:=by
 unfold putK;split
 .rw[vt];lia
 .rw[vm,vR,length_nil];lia
def RelO.isSome_eq(r:RelO o u):o.isSome=u.isSome:=by
 cases o with
 | none=>cases u with
  | none=>rfl
  | some _=>exact(show False from r).elim
 | some _=>cases u with
  | none=>exact(show False from r).elim
  | some _=>rfl
def KV.val{kvs:List (κ×V)}{vs:List (κ×Value)}(r:KV kvs vs)(k:κ):RelO (valV kvs k) (valueAt vs k):=by
 unfold KV at r
 induction r with
 | nil=>exact True.intro
 | @cons p q ps qs h t ih=>
  let⟨c,d⟩:=h;by_cases e:p.1=k
  .have a:q.1=k:=c.symm.trans e;have b:valueAt (q::qs) k=some q.2:=by simp[valueAt,List.find?_cons,a]
   rw[JF e,b];exact d
  .have a:¬q.1=k:=λz=>e (c.trans z)
   have b:valueAt (q::qs) k=valueAt qs k:=by simp[valueAt,List.find?_cons,a]
   rw[Jz e,b];exact ih
def KV.any(r:KV kvs vs)(k:κ):(kvs.any λkv=>decide (kv.1=k))=vs.any λkv=>decide (kv.1=k):=by
 unfold KV at r
 induction r with
 | nil=>rfl
 | cons h t ih=>rw[any_cons,any_cons,ih,h.1]
def KV.repl(r:KV kvs vs)(k:κ)(c:RelV y u) :
  KV (kvs.map λkv=>if kv.1=k then(kv.1,y)else kv) (vs.map λkv=>if kv.1=k then(kv.1,u)else kv):=by
 unfold KV at r|-
 induction r with
 | nil=>exact .nil
 | @cons p q ps qs h t ih=>
  rw[v9,v9];refine .cons ?_ ih;let⟨a,b⟩:=h;by_cases e:p.1=k
  .rw[vc e,vc (a.symm.trans e)];exact⟨a,c⟩
  .rw[va e,va (λz=>e (a.trans z))];exact⟨a,b⟩
def KV.put(r:KV kvs vs)(k:κ)(a:RelV y u):KV (putK kvs k y) (stored vs k u):=by
 unfold putK stored;rw[r.any k];by_cases e:(vs.any λkv=>decide (kv.1=k))=true
 .rw[vc e,vc e];exact r.repl k a
 .rw[va e,va e];exact Paired.snoc r ⟨rfl,a⟩
def KV.keys{kvs:List (κ×V)}{vs:List (κ×Value)}(r:KV kvs vs):kvs.map (·.1)=vs.map (·.1):=by
 unfold KV at r
 induction r with
 | nil=>rfl
 | cons h t ih=>rw[v9,v9,ih,h.1]
def KV.length(r:KV kvs vs):kvs.length=vs.length:=Paired.length r
end
def Xi(r:RelV (kV k) u):(mixKind P w).is k u=true:=by
 cases k with
 | inl i=>let⟨t,e⟩:=(show∃t,u=Value.int i t from r);subst e;exact Xq P w i t
 | inr x=>let⟨t,e⟩:=(show∃t,u=Value.str x t from r);subst e;exact Xr P w x t
theorem wQ:∀{ks:List Key} {us:N4},Vals (ks.map kV) us->ItemsAre (mixKind P w) ks us
 | [],_,r=>by rw[map_nil]at r;cases r;exact .nil
 | k::ks,_,r=>by
  rw[v9]at r;cases r with
  | cons h t=>exact .cons (Xi h) (wQ t)
noncomputable abbrev KT(H:Hp):List (List Key×V)->List (List Key×Addr×Value)->Prop:=Paired λp q=>p.1=q.1/\H q.2.1=some (.tup (p.1.map kV))/\RelV p.2 q.2.2
def KT.val{H:Hp}{kvs:List (List Key×V)}{xs:List (List Key×Addr×Value)}(r:KT H kvs xs)(k:List Key):RelO (valV kvs k) ((atKey xs k).map (·.2)):=by
 induction r with
 | nil=>exact True.intro
 | @cons p q ps qs h t ih=>
  let⟨c,_,d⟩:=h;by_cases e:p.1=k
  .have a:q.1=k:=c.symm.trans e;have b:atKey (q::qs) k=some q.2:=by simp[atKey,List.find?_cons,a]
   rw[JF e,b];exact d
  .have a:¬q.1=k:=λz=>e (c.trans z)
   have b:atKey (q::qs) k=atKey qs k:=by simp[atKey,List.find?_cons,a]
   rw[Jz e,b];exact ih
def KT.repl{H:Hp}(r:KT H kvs xs)(k:List Key)(d:RelV y u) :
  KT H (kvs.map λkv=>if kv.1=k then(kv.1,y)else kv) (xs.map (putAt k u)):=by
 induction r with
 | nil=>exact .nil
 | @cons p q ps qs h t ih=>
  rw[v9,v9];refine .cons ?_ ih;let⟨a,b,c⟩:=h;unfold putAt;by_cases e:p.1=k
  .rw[vc e,vc (a.symm.trans e)];exact⟨a,b,d⟩
  .rw[va e,va (λz=>e (a.trans z))];exact⟨a,b,c⟩
def KT.put{H:Hp}(r:KT H kvs xs)(k:List Key)(c:H b=some (.tup (k.map kV)))(a:RelV y u) :
  KT H (putK kvs k y) (storedH xs k b u):=by
 have e:(kvs.any λkv=>decide (kv.1=k))=(atKey xs k).isSome:=by
  rw[Zy,(r.val k).isSome_eq,Option.isSome_map]
 unfold putK storedH;rw[e];by_cases q:(atKey xs k).isSome=true
 .rw[vc q,vc q];exact r.repl k a
 .rw[va q,va q];exact Paired.snoc r ⟨rfl,c,a⟩
def KT.keeps{H H':Hp}(r:KT H kvs xs)(a:∀b ys,H b=some (.tup ys)->H' b=some (.tup ys)):KT H' kvs xs:=
 Paired.mapP r λ_ _ z=>⟨z.1,a _ _ z.2.1,z.2.2⟩
section
variable{P:Program}{w:World}{H:Hp}{h:Heap}{a:Addr}
def j6b(b:HOk P w H h)(e:Rd H a u):ObjOk P w H h a u:=e.ok b
def Xb(b:HOk P w H h)(e:Rd H a (.dK kvs)):kvs.length<=sizeLine/\(a==sysModules)=false/\∃vs,KV kvs vs/\h.DictOf (mixKind P w) a vs:=
 show ObjOk P w H h a (.dK kvs)from j6b b e
def Xa(b:HOk P w H h)(e:H a=some (.dK kvs)):kvs.length<=sizeLine/\(a==sysModules)=false/\∃vs,KV kvs vs/\h.DictOf (mixKind P w) a vs:=Xb b (.inl e)
def Kv(g:HOk P w H h)(e:H a=some (.tup (ks.map kV))):(tupleKind (mixKind P w)).is h ks a:=by
 let⟨_,b,r,o,c,d,n,f⟩:=(show ObjOk P w H h a (.tup (ks.map kV))from g a _ e)
 exact⟨o,b.toArray,n,c,d,f,by simpa using wQ r⟩
def Xc(d:HOk P w H h)(e:Rd H a (.dT kvs)):kvs.length<=sizeLine/\(a==sysModules)=false/\
  ∃xs,KT H kvs xs/\h.DictOfH (tupleKind (mixKind P w)) a xs:=by
 let⟨z,y,xs,r,o,g,f,i,j,k,n,s⟩:=(show ObjOk P w H h a (.dT kvs)from j6b d e)
 refine⟨z,y,xs,r,o,g,f,i,j,k,n,λx b=>?_,s⟩;have c:∀{l:List (List Key×V)} {m:List (List Key×Addr×Value)},KT H l m->∀x∈m,(tupleKind (mixKind P w)).is h x.1 x.2.1:=by
  intro l m q
  induction q with
  | nil=>intro x b;exact nomatch b
  | @cons p q ps qs hq t ih=>
   intro x b;rcases mem_cons.mp b with e | b
   .subst e;exact Kv d (by rw[<-hq.1];exact hq.2.1)
   .exact ih x b
 exact c r x b
def j74(b:HOk P w H h)(e:H a=some (.dT kvs)):kvs.length<=sizeLine/\(a==sysModules)=false/\
  ∃xs,KT H kvs xs/\h.DictOfH (tupleKind (mixKind P w)) a xs:=Xc b (.inl e)
end
def DGet(H:Hp)(a:Addr)(y:V)(r:N7):Prop:=
 (∃kvs k,Rd H a (.dK kvs)/\y=kV k/\r=valV kvs k)\/∃kvs k b,Rd H a (.dT kvs)/\y = .ref b/\H b=some (.tup (k.map kV))/\r=valV kvs k
def DPut(H:Hp)(a:Addr)(y v:V)(H':Hp):Prop:=
 (∃kvs k,H a=some (.dK kvs)/\y=kV k/\kvs.length<sizeLine/\H'=upd H a (.dK (putK kvs k v)))\/
 ∃kvs k b,H a=some (.dT kvs)/\y = .ref b/\H b=some (.tup (k.map kV))/\kvs.length<sizeLine/\H'=upd H a (.dT (putK kvs k v))
def DGet.k{H:Hp}{a:Addr}{kvs:List (Key×V)}{k:Key}(e:H a=some (.dK kvs)):DGet H a (kV k) (valV kvs k):=.inl ⟨kvs,k,.inl e,rfl,rfl⟩
def DPut.k{H:Hp}{a:Addr}{kvs:List (Key×V)}{k:Key}{v:V}(e:H a=some (.dK kvs))(b:kvs.length<sizeLine):DPut H a (kV k) v (upd H a (.dK (putK kvs k v))):=.inl ⟨kvs,k,e,rfl,b,rfl⟩
section
variable{X:Cx}{pins:List (Addr×Obj)}{σ:St}{H:Hp}{s:Shared}{a:Addr}{y v:V}{u r:Value}{o:N7}{A:Around}{E:Value->Shared->Prop}
def Inv.big(I:Inv X pins σ H s):sysModules<s.heap.objs.size:=by
 have h:mainGlobals<s.heap.objs.size:=(I.mod.glob.keeps I.bk).lt;exact Nat.lt_trans nofun h
def j2r{Q:Value->Shared->Prop}(B:A.units+1<cLine)(I:Inv X pins σ H s)(g:DGet H a y (some v))(r:RelV y u)(h:∀f s',Inv X pins σ H s'->RelV v f->Q f s') :
  wpAny (model X.prog X.w) A (getItem (.ref a) u) Q E s:=by
 rcases g with⟨q,k,e,j,l⟩ | ⟨q,k,b,e,j,t,l⟩
 .subst j;let⟨z,w,C,c,i⟩:=Xb I.hok e;let⟨f,n,d⟩:=RelO.some_of (v:=v) (o:=valueAt C k) (by rw[l];exact c.val k);exact wpAny_getItem_of (Xi r) i.mapOf n (h f _ (I.tok _) d)
 .subst j;cases(show u=Value.ref b from r);let⟨z,w,D,c,i⟩:=Xc I.hok e;let⟨f,n,d⟩:=RelO.some_of (v:=v) (o:=(atKey D k).map (·.2)) (by rw[l];exact c.val k);let⟨p,x,m⟩:=vf.mp n;refine wpAny_getItem_heap (tupleKind_room_in1 B) (Kv I.hok t) i x ?_;rw[m];exact h f _ (I.tok _) d
def j7m{Q:Value->Shared->Prop}(p:A.units+1<cLine)(I:Inv X pins σ H s)(g:DGet H a y o)(m:RelV y u)(h:∀s',Inv X pins σ H s'->Q (.bool o.isSome) s') :
  wpAny (model X.prog X.w) A (compareOp .In u (.ref a)) Q E s:=by
 rcases g with⟨j,k,e,f,l⟩ | ⟨j,k,b,e,f,n,l⟩
 .subst f;let⟨z,i,r,c,d⟩:=Xb I.hok e;refine wpAny_in_of (Xi m) i d.mapOf ?_;rw[<-(c.val k).isSome_eq,<-l];exact h _ (I.tok _)
 .subst f;cases(show u=Value.ref b from m);let⟨z,i,t,c,d⟩:=Xc I.hok e;refine wpAny_in_heap (tupleKind_room_in1 p) (Kv I.hok n) i d ?_;have q:=(c.val k).isSome_eq;rw[Option.isSome_map]at q;rw[<-q,<-l];exact h _ (I.tok _)
def j59{Q:Value->Shared->Prop}(p:A.units+1<cLine)(I:Inv X pins σ H s)(g:DGet H a y o)(m:RelV y u)(h:∀s',Inv X pins σ H s'->Q (.bool (!o.isSome)) s') :
  wpAny (model X.prog X.w) A (compareOp .NotIn u (.ref a)) Q E s:=by
 rcases g with⟨j,k,e,f,l⟩ | ⟨j,k,b,e,f,n,l⟩
 .subst f;let⟨z,i,r,c,d⟩:=Xb I.hok e;refine wpAny_notIn_of (Xi m) i d.mapOf ?_;rw[<-(c.val k).isSome_eq,<-l];exact h _ (I.tok _)
 .subst f;cases(show u=Value.ref b from m);let⟨z,i,t,c,d⟩:=Xc I.hok e;refine wpAny_notIn_heap (tupleKind_room_in1 p) (Kv I.hok n) i d ?_;have q:=(c.val k).isSome_eq;rw[Option.isSome_map]at q;rw[<-q,<-l];exact h _ (I.tok _)
def WI(I:Inv X pins σ H s)(h:Mut (H a))(g:Heap.SameBut a s.heap h')(f:∃q,h'.get? a=some q)(c:ObjOk X.prog X.w (upd H a ob) h' a ob) :
  Inv X pins σ (upd H a ob) {s with heap:=h',toks:=t'}:=
 I.write (x:=a) (e:=a) h (.inl rfl) (λb q d z=>(g.2 b d).trans z) f c
def j0i{H':Hp}(z:kvs.length<=sizeLine)(d:(a==sysModules)=false)(b:KV kvs vs)(c:h'.DictOf (mixKind P w) a vs) :
  ObjOk P w H' h' a (.dK kvs):=⟨z,d,vs,b,c⟩
def j2s{H':Hp}{Q:Unit->Shared->Prop}(R:A.units+1<cLine)(I:Inv X pins σ H s)(g:DPut H a y v H')(G:RelV y u)(F:RelV v r)(h:∀s',Inv X pins σ H' s'->Q () s') :
  wpAny (model X.prog X.w) A (setItem (.ref a) u r) Q E s:=by
 rcases g with⟨d,k,e,o,l,n⟩ | ⟨d,k,b,e,o,B,l,n⟩
 .subst o n;let⟨z,p,S,f,m⟩:=Xa I.hok e;have x:S.length<=sizeLine:=by rw[<-f.length];exact z
  have t:(putK d k v).length<=sizeLine:=by have:=Zj d k v;lia
  refine wpAny_setItem_pairs (hsz:=x) (Xi G) m λD i w=>h _ ?_
  have P:∃q,D.get? a=some q:=let ⟨q,_,_,j,_⟩:=i;⟨q,j⟩;exact WI I (by rw[e];exact True.intro) w P (j0i t p (f.put k F) i)
 .subst o n;cases(show u=Value.ref b from G);let⟨z,p,T,f,m⟩:=j74 I.hok e;have x:T.length<=sizeLine:=by rw[<-Paired.length f];exact z
  have t:(putK d k v).length<=sizeLine:=by have:=Zj d k v;lia
  refine wpAny_setItem_heap (hsz:=x) (tupleKind_room_in1 R) (Kv I.hok B) m λD i w=>h _ ?_
  let⟨q,K,J,j,L,M,N,_,O⟩:=i;refine WI I (by rw[e];exact True.intro) w ⟨q,j⟩ ⟨t,p,_,(f.put k B F).keeps λc U C=>?_,q,K,J,j,L,M,N,O⟩;rw[je (JE C e (λz=>nomatch z))];exact C
end
section
variable{X:Cx}{pins:List (Addr×Obj)}{σ:St}{H:Hp}{s:Shared}{a:Addr}{kvs:List (Key×V)}{k:Key}{u:Value}{A:Around}{E:Value->Shared->Prop}
end
def NoSl(i:Expr):Prop:=∀ov iv,subscripted i false ov iv=operate [ov,iv] (getItem ov iv)
def j5V{prog:Program}{w:World}{A:Around}{E:Value->Shared->Prop}{s:Shared}{env:Env}{b a:Expr}{pos:Pos}{T id:String}{Q:Value->Shared->Prop}
  (m:typeLookup (.type T) "__getitem__"= pure (some (.builtin id))) (n:NoSl a)
  (h:wpAny (model prog w) A (eval b env) (λo e=>wpAny (model prog w) A (eval a env) (λi c=>c.TypeIs o T/\wpAny (model prog w) A (getItem o i) Q E c) E e) E s) :
  wpAny (model prog w) A (eval (.Subscript b a pos) env) Q E s:=by
 refine Subscript_ (wpAny_mono h (λo e j=>wpAny_mono j (λi c d=>?_) λ_ _ x=>x) λ_ _ x=>x);let⟨l,d⟩:=d;unfold subscriptTail;refine uj ?_;rw[getitemInPython_of_ne l.not_modules];refine uj (wpAny_specialOf l m ?_);have g:wpAny (model prog w) A (subscripted a false o i) (λr f=>wpAny (model prog w) A (letTemporaryGo b o r >>= λ_=>pure r) Q E f) E c:=by
  rw[n o i];exact wpAny_operating (wpAny_mono d (λr f k=>uj (wpAny_letTemporaryGo (ui k))) λ_ _ x=>x)
 first
  | exact ui (uj g)
  | exact uj (ui (uj g))
  | exact uj g
def x9{f:St}{H:Hp}(I:Inv X pins f H s)(g:DGet H a y o):s.TypeIs (.ref a) "dict":=by
 rcases g with⟨d,k,e,_,_⟩ | ⟨d,k,b,e,_,_,_⟩
 .let⟨_,_,h,_,c⟩:=Xb I.hok e;exact c.typeIs
 .let⟨_,_,i,_,c⟩:=Xc I.hok e;exact c.typeIs
def tDGet(td ty:TE):TE:=λσ H Q=>td σ H λx H1=>ty σ H1 λy H2=>∃a v,x = .ref a/\DGet H2 a y (some v)/\Q v H2
def tDIn(ty td:TE):TE:=λσ H Q=>ty σ H λy H1=>td σ H1 λx H2=>∃a o,x = .ref a/\DGet H2 a y o/\Q (.bl o.isSome) H2
def tDNotIn(ty td:TE):TE:=λσ H Q=>ty σ H λy H1=>td σ H1 λx H2=>∃a o,x = .ref a/\DGet H2 a y o/\Q (.bl (!o.isSome)) H2
def sDPut(td ty tv:TE):TS:=λD σ H=>tv σ H λv H1=>td σ H1 λx H2=>ty σ H2 λy H3=>∃a H4,x = .ref a/\DPut H3 a y v H4/\D.nx σ H4
section
variable{X:Cx}{o i e value:Expr}{pos pos' tpos:Pos}{td ty tv:TE}
def xc(q:X.A.units+1<cLine)(n:PE X o td)(hi:PE X i ty)(p:NoSl i:=by exact λ_ _=>rfl):PE X (.Subscript o i pos) (tDGet td ty):=by
 intro b s e H Q I h;refine j5V PySem.F.slot_dict_getitem.lookup p (thn (n b s e H _ I h) λu A ⟨x,f,k,w,r⟩=>thn (hi b A e f _ k r) λB C ⟨y,j,d,z,a,v,m,g,t⟩=>?_);subst m;obtain rfl:u=Value.ref a:=w;exact⟨x9 d g,j2r q d g z λE D l c=>⟨v,j,l,c,t⟩⟩
def j0M(n:X.A.units+1<cLine)(hi:PE X i ty)(m:PE X o td):PC X .In i o (tDIn ty td):=by
 intro b s c H Q I h;refine thn (hi b s c H _ I h) λw v ⟨y,d,f,t,p⟩=>thn (m b v c d _ f p) λu z ⟨x,e,j,r,a,ov,l,g,q⟩=>?_
 subst l;obtain rfl:u=Value.ref a:=r;exact j7m n j g t λA k=>⟨.bl ov.isSome,e,k,rfl,q⟩
def j2U(n:X.A.units+1<cLine)(hi:PE X i ty)(m:PE X o td):PC X .NotIn i o (tDNotIn ty td):=by
 intro b s c H Q I h;refine thn (hi b s c H _ I h) λw v ⟨y,d,f,t,p⟩=>thn (m b v c d _ f p) λu z ⟨x,e,j,r,a,ov,l,g,q⟩=>?_
 subst l;obtain rfl:u=Value.ref a:=r;exact j59 n j g t λA k=>⟨.bl (!ov.isSome),e,k,rfl,q⟩
def kK(t:X.A.units+1<cLine)(p:PE X o td)(hi:PE X i ty)(w:PE X value tv)(q:swapsWith value (some (.Subscript o i pos')) pos.line X.env=pure false) :
  PS X (.Assign [.Subscript o i pos'] value pos) (sDPut td ty tv):=by
 intro b s c H D I h;refine wpAny_Assign_Subscript (thn (w b s c H _ I h) λr G ⟨v,d,j,C,z⟩=>thn (p b G c d _ j z) λu J ⟨x,e,k,E,A⟩=>thn (hi b J c e _ k A) λL M ⟨y,K,l,F,a,f,n,g,B⟩=>?_) q;subst n;obtain rfl:u=Value.ref a:=E;exact j2s t l g F C λN m=>⟨c,f,m,B⟩
end
def j3y{H:Hp}(h:Heap)(a:sysModules<h.objs.size):ObjOk P w H (h.push {cls:=.type "dict",data:=.dict #[]}) h.objs.size (.dK []):=
 ⟨vB _,beq_eq_false_iff_ne.mpr (Ne.symm (vG a)),[],.nil,Heap.DictOf.new h⟩
def tDNewK:TE:=λ_ H Q=>∀p,H p=none->Q (.ref p) (upd H p (.dK []))
section
variable{X:Cx}{pos:Pos}
def yS:PE X (.Dict [] [] pos) tDNewK:=λb s c H Q I h=>
 wpAny_Dict_empty ⟨.ref s.heap.objs.size,_,I.laid (a:=s.heap.objs.size) (o:=.dK []) (t':=s.toks) (λ_ _ q=>vL _ q) (vA _) (j3y s.heap I.big),rfl,h _ (I.hok.fresh (vA _))⟩
end
noncomputable def mergeK(kvs more:List (Key×V)):List (Key×V):=more.foldl (λacc kv=>putK acc kv.1 kv.2) kvs
def KV.merge:∀{more:List (Key×V)} {a:List (Key×Value)} {kvs:List (Key×V)} {vs:List (Key×Value)},KV more a->KV kvs vs->KV (mergeK kvs more) (merged vs a):=by
 intro more a kvs vs r;unfold KV at r
 induction r generalizing kvs vs with
 | nil=>intro q;exact q
 | @cons p q ps qs h t ih=>
  intro b;have e:KV (putK kvs p.1 p.2) (stored vs q.1 q.2):=by
   have:=b.put p.1 h.2;rw[<-h.1];exact this
  exact ih e
theorem QY:∀(more kvs:List (Key×V)),(mergeK kvs more).length<=kvs.length+more.length
 | [],kvs=>by show kvs.length<=kvs.length+0;lia
 | p::r,kvs=>by
  have a:=QY r (putK kvs p.1 p.2);have b:=Zj kvs p.1 p.2;show(mergeK (putK kvs p.1 p.2) r).length<=_;rw[vR];lia
section
variable{X:Cx}{pins:List (Addr×Obj)}{σ:St}{H:Hp}{s:Shared}{a:Addr}{y d:V}{u r:Value}{o:N7}{A:Around}{E:Value->Shared->Prop}
end
section
variable{X:Cx}{o e f:Expr}{apos cpos:Pos}{td ty tx:TE}
end
section
variable{X:Cx}{pins:List (Addr×Obj)}{σ:St}{H:Hp}{s:Shared}{a:Addr}{kvs:List (Key×V)}{A:Around}{E:Value->Shared->Prop}
end
section
variable{X:Cx}{pins:List (Addr×Obj)}{σ:St}{H:Hp}{s:Shared}{a:Addr}{y:V}{u:Value}{A:Around}{E:Value->Shared->Prop}
end
section
variable{X:Cx}
end
section
variable{κ:Type}[DecidableEq κ]
end
def compLoopT{R:Result->Shared->Prop}{pos:Pos}(I:Nat->Shared->Prop)
  (u:∀n s,I n s->wpAny (model prog w) A (pyNext it) (λr b=>match r with
   | none=>R (.ok .next) b
   | some v=>wpAny (model prog w) A (letOwnedTupleGo target it v) (λ_ g=>wpAny (model prog w) A (assign target env v) (λ_ i=>
     wpAny (model prog w) A (forIn ifs true λc r=>if r=true then do let t <-isTrue c env (eval c env);pure (ForInStep.yield t)else pure (ForInStep.yield r)) (λt d=>
      if t=true then wpAny (model prog w) A (eval elt env) (λx j=>
       wpAny (model prog w) A (call (.builtin "list.append") [acc,x]) (λ_ k=>∃m,m<n/\I m k) (λ_ _=>False) j) (λ_ _=>False) d
      else∃m,m<n/\I m d) (λ_ _=>False) i) (λ_ _=>False) g) (λ_ _=>False) b) (λ_ _=>False) s)
  (n:Nat) (h:I n s) :
  codeAny (model prog w) A (.compLoop (.ListComp elt [⟨target,iter,ifs,0⟩] scope pos) 0 it acc env) R s:=by
 refine codeAny_loop rfl I (λn s y=>?_) n h;show wpAny _ A ((compTurn (.ListComp elt [⟨target,iter,ifs,0⟩] scope pos) 0 it acc env).onRaise (λx=>do noteFrame x env;theTreesLotGoes x)) _ _ s;refine wpAny_noted ?_;rw[compTurn_list];refine uj (wpAny_standAt (uj (wpAny_mono (u n s y) (λr b e=>?_) λ_ _ a=>a.elim)));cases r with
 | none=>exact ui e
 | some v=>
  refine uj (wpAny_mono e (λ_ g l=>?_) λ_ _ a=>a.elim);refine uj (wpAny_mono l (λ_ i o=>uj (wpAny_mono o (λt d f=>?_) λ_ _ a=>a.elim)) λ_ _ a=>a.elim);cases t with
  | false=>exact ui ⟨rfl,f⟩
  | true=>
   exact uj (uj (wpAny_mono f (λx j p=>uj (wpAny_mono p (λ_ k q=>ui (ui ⟨rfl,q⟩)) λ_ _ a=>a.elim)) λ_ _ a=>a.elim))
def PF(X:Cx)(ifs:List Expr)(t:TT):Prop:=
 ∀(pins:List (Addr×Obj)) (s:Shared) (σ:St) (H:Hp) (Q:Bool->Hp->Prop),Inv X pins σ H s->t σ H Q->
  wpAny (model X.prog X.w) X.A (forIn ifs true λc r=>if r=true then do let ok <-isTrue c X.env (eval c X.env);pure (ForInStep.yield ok)else pure (ForInStep.yield r)) (TP X pins σ Q) X.xe s
def tYes:TT:=λ_ H Q=>Q true H
def Jq:PF X [] tYes:=λ_ _ _ H _ I h=>wpAny_tests_nil ⟨H,I,h⟩
def j0Q(b:PT X c t):PF X [c] t:=λa s d H Q I h=>wpAny_tests_one (b a s d H Q I h)
noncomputable def closL(env:Env):List (Str×NameKind)->List (Str×Addr)->List (Str×Addr)
 | [],acc=>acc
 | (n,k)::r,acc=>closL env r (if k == .free then(n,(env.cells.lookup n).getD 0)::acc else acc)
def yH(h:∀y∈scope.names,y.2 = .free->∃c,env.cells.lookup y.1=some c):closureFor scope env=pure (closL env scope.names []):=by
 have l:∀(names:List (Str×NameKind)) (b:List (Str×Addr)),(∀y∈names,y.2 = .free->∃c,env.cells.lookup y.1=some c)->
   (forIn (m:=Sem) names b λx r=>(match x with | (name,kind)=>if(kind == .free)=true then do let a <-cellOf env name;pure (ForInStep.yield ((name,a)::r))else pure (ForInStep.yield r)))=pure (closL env names b):=by
  intro names
  induction names with
  | nil=>intro b _;rfl
  | cons y r ih=>
   let⟨n,k⟩:=y;intro b d;rw[forIn_cons];cases hk:(k==NameKind.free)with
   | true=>
    have e:k = .free:=by simpa using hk
    let⟨c,i⟩:=d (n,k) vq e;have j:cellOf env n=pure c:=by unfold cellOf;rw[i]
    simp only[hk,if_true,j,pure_bind,closL,i,Option.getD_some];exact ih _ λy f=>d y (vp _ f)
   | false=>
    simp only[hk,Bool.false_eq_true,if_false,pure_bind,closL];exact ih _ λy f=>d y (vp _ f)
 have g:=l scope.names [] h;unfold closureFor;simp only[g,pure_bind]
theorem wK:∀(names:List (Str×NameKind)) (a:List (Str×Addr)),(∀y∈names,y.2 = .free->∃c,env.cells.lookup y.1=some c)->(∀x c,a.lookup x=some c->env.cells.lookup x=some c)->
  ∀x c,(closL env names a).lookup x=some c->env.cells.lookup x=some c
 | [],_,_,ha,x,c,h=>ha x c h
 | (n,k)::r,a,hh,ha,x,c,h=>by
  refine wK r _ (λy f=>hh y (vp _ f)) (λx c e=>?_) x c h;cases hk:(k==NameKind.free)with
  | false=>rw[hk]at e;exact ha x c e
  | true=>
   rw[hk]at e;have b:k = .free:=by simpa using hk
   let⟨g,d⟩:=hh (n,k) vq b;simp only[if_true,d,Option.getD_some]at e;rw[lookup_cons]at e;cases hx:(x==n)with
   | true=>
    rw[hx]at e;have:x=n:=by simpa using hx
    rw[this,d];exact e
   | false=>rw[hx]at e;exact ha x c e
theorem wJ:∀(names:List (Str×NameKind)) (a:List (Str×Addr)) (x:Str),(∃c,a.lookup x=some c)->∃c,(closL env names a).lookup x=some c
 | [],_,_,h=>h
 | (n,k)::r,a,x,h=>by
  refine wJ r _ x ?_;cases hk:(k==NameKind.free)with
  | false=>exact h
  | true=>
   simp only[if_true];rw[lookup_cons];cases hx:(x==n)with
   | true=>exact⟨_,rfl⟩
   | false=>exact h
theorem Yv:∀(names:List (Str×NameKind)) (a:List (Str×Addr)) (x:Str),(x,NameKind.free)∈names->∃c,(closL env names a).lookup x=some c
 | [],_,_,h=>by simp at h
 | (n,k)::r,a,x,h=>by
  rcases mem_cons.mp h with e | h
  .cases e;refine wJ r _ _ ?_;simp
  .exact Yv r _ x h
theorem Qy{env:Env}:∀{names:List (Str×NameKind)} {x:Str} {k:NameKind},(names.map λ(n,k)=>if(k==NameKind.free&&env.scope.kind == .function&&env.kindOf n==some .cell)then(n,NameKind.cell)else(n,k)).lookup x=some k->
  ∃b,(x,b)∈names/\names.lookup x=some b/\(b=k\/(b = .free/\k = .cell))
 | [],_,_,h=>by simp at h
 | (n,k₀)::r,x,k,h=>by
  have i:=@Qy env r x k;rw[v9]at h;dsimp only at h;cases hx:x==n with
  | true=>
   have e:x=n:=by simpa using hx
   subst e;refine⟨k₀,vq,by simp,?_⟩;by_cases a:(k₀==NameKind.free&&env.scope.kind == .function&&env.kindOf x==some .cell)=true
   .rw[vc a]at h;simp only[lookup_cons,beq_self_eq_true]at h;simp only[Bool.and_eq_true,beq_iff_eq]at a;exact .inr ⟨a.1.1,(vN h).symm⟩
   .rw[va a]at h;simp only[lookup_cons,beq_self_eq_true]at h;exact .inl (vN h)
  | false=>
   have c:(r.map λ(n,k)=>if(k==NameKind.free&&env.scope.kind == .function&&env.kindOf n==some .cell)then(n,NameKind.cell)else(n,k)).lookup x=some k:=by
    by_cases a:(k₀==NameKind.free&&env.scope.kind == .function&&env.kindOf n==some .cell)=true
    .rw[vc a]at h;simpa only[lookup_cons,hx]using h
    .rw[va a]at h;simpa only[lookup_cons,hx]using h
   let⟨b,d,f,g⟩:=i c;exact⟨b,vp _ d,by simpa only[lookup_cons,hx]using f,g⟩
theorem Yu:∀(names:List (Str×NameKind)) (n:Nat) (a:List (Str×Addr)) (x:Str) (c:Addr),(cellsFrom n names a).lookup x=some c->n<=c\/a.lookup x=some c
 | [],_,_,_,_,h=>.inr h
 | (y,k)::r,n,a,x,c,h=>by
  unfold cellsFrom at h;split at h
  .rcases Yu r (n+1) _ x c h with q | q
   .exact .inl ⋯
   .rw[lookup_cons]at q;cases hx:x==y with
    | true=>rw[hx]at q;cases q;exact .inl (vA _)
    | false=>rw[hx]at q;exact .inr q
  .exact Yu r n a x c h
theorem j0e:∀(names:List (Str×NameKind)) (n:Nat) (a:List (Str×Addr)),(∀x c,a.lookup x=some c->c<n)->(∀x y c,a.lookup x=some c->a.lookup y=some c->x=y)->
  ∀x y c,(cellsFrom n names a).lookup x=some c->(cellsFrom n names a).lookup y=some c->x=y
 | [],_,_,_,hi,x,y,c,h1,h2=>hi x y c h1 h2
 | (z,k)::r,n,a,hb,hi,x,y,c,h1,h2=>by
  unfold cellsFrom at h1 h2;split at h1
  .rename_i hk;rw[vc hk]at h2;refine j0e r (n+1) _ (λx c e=>?_) (λx y c d b=>?_) x y c h1 h2
   .rw[lookup_cons]at e;cases hx:x==z with
    | true=>rw[hx]at e;cases e;exact Nat.lt_succ_self _
    | false=>rw[hx]at e;exact Nat.lt_succ_of_lt (hb x c e)
   .rw[lookup_cons]at d b;cases hx:x==z with
    | true=>
     rw[hx]at d;cases d;cases hy:y==z with
     | true=>rw[beq_iff_eq.mp hx,beq_iff_eq.mp hy]
     | false=>rw[hy]at b;exact uh (hb y n b) (Nat.lt_irrefl _)
    | false=>
     rw[hx]at d;cases hy:y==z with
     | true=>rw[hy]at b;cases b;exact uh (hb x n d) (Nat.lt_irrefl _)
     | false=>rw[hy]at b;exact hi x y c d b
  .rename_i hk;rw[va hk]at h2;exact j0e r n a hb hi x y c h1 h2
theorem WE:∀(names:List (Str×NameKind)) (n:Nat) (a:List (Str×Addr)) (x:Str),(∃c,a.lookup x=some c)->∃c,(cellsFrom n names a).lookup x=some c
 | [],_,_,_,h=>h
 | (y,k)::r,n,a,x,h=>by
  unfold cellsFrom;split
  .refine WE r (n+1) _ x ?_;rw[lookup_cons];cases hx:x==y with
   | true=>exact⟨_,rfl⟩
   | false=>exact h
  .exact WE r n a x h
theorem j0d:∀(names:List (Str×NameKind)) (n:Nat) (a:List (Str×Addr)) (x:Str),(x,NameKind.cell)∈names->∃c,(cellsFrom n names a).lookup x=some c
 | [],_,_,_,h=>by simp at h
 | (y,k)::r,n,a,x,h=>by
  unfold cellsFrom;rcases mem_cons.mp h with e | h
  .cases e;simp only[beq_self_eq_true,if_true];exact WE r _ _ _ (by simp)
  .split
   .exact j0d r _ _ x h
   .exact j0d r _ _ x h
theorem j0g:∀(names:List (Str×NameKind)) (n:Nat) (a:List (Str×Addr)) (x:Str),(x,NameKind.cell)∉names->(cellsFrom n names a).lookup x=a.lookup x
 | [],_,_,_,_=>rfl
 | (y,k)::r,n,a,x,h=>by
  have b:(x,NameKind.cell)∉r:=λq=>h (vp _ q)
  unfold cellsFrom;split
  .rename_i hk;rw[j0g r _ _ x b,lookup_cons];cases hx:x==y with
   | true=>rw[beq_iff_eq.mp hx,beq_iff_eq.mp hk]at h;exact uh vq h
   | false=>rfl
  .exact j0g r n a x b
theorem j0f:∀(names:List (Str×NameKind)) (a n:Nat) (b:List (Str×Addr)) (x:Str) (c:Addr),a<=n->((x,NameKind.cell)∈names\/∀c,b.lookup x=some c->a<=c)->(cellsFrom n names b).lookup x=some c->a<=c
 | [],_,_,_,_,c,_,h,e=>h.elim (λz=>by simp at z) λz=>z c e
 | (y,k)::r,a,n,b,x,c,hn,h,e=>by
  unfold cellsFrom at e;split at e
  .refine j0f r a (n+1) _ x c ⋯ ?_ e;rcases h with h | h
   .rcases mem_cons.mp h with q | q
    .cases q;exact .inr λc q=>by rw[lookup_cons,beq_self_eq_true]at q;cases q;exact hn
    .exact .inl q
   .refine .inr λc q=>?_
    rw[lookup_cons]at q;cases hx:x==y with
    | true=>rw[hx]at q;cases q;exact hn
    | false=>rw[hx]at q;exact h c q
  .rename_i hk;refine j0f r a n b x c hn ?_ e;rcases h with h | h
   .rcases mem_cons.mp h with q | q
    .cases q;exact uh rfl hk
    .exact .inl q
   .exact .inr h
theorem Kl:∀(names:List (Str×NameKind)) (h:Heap) (a:List (Str×Addr)) (x:Str) (c:Addr),(cellsFrom h.objs.size names a).lookup x=some c->a.lookup x=some c\/(pushCells h names).IsCell c none
 | [],_,_,_,_,e=>.inl e
 | (y,k)::r,h,a,x,c,e=>by
  unfold cellsFrom at e;unfold pushCells;split
  .rename_i hk;rw[vc hk]at e;rw[<-Heap.size_push h {cls:=.type "cell",data:=.cell none}]at e;rcases Kl r _ _ x c e with q | q
   .rw[lookup_cons]at q;cases hx:x==y with
    | true=>
     rw[hx]at q;cases q;exact .inr ⟨_,pushCells_keeps _ _ _ _ (Heap.get?_push_size _ rfl),rfl⟩
    | false=>rw[hx]at q;exact .inl q
   .exact .inr q
  .rename_i hk;rw[va hk]at e;exact Kl r h a x c e
def envC{E:Value->Shared->Prop}{Q:Env->Shared->Prop}
  (h:Q (newEnv scope s.heap.objs.size globals (cellsFrom (s.heap.objs.size+1) scope.names cl) qual none .none (some env) builtinsNs) {s with heap:=pushCells (s.heap.push {cls:=.type "dict",data:=.dict #[]}) scope.names}) :
  wpAny M A (newFunctionEnv scope globals cl [] qual none .none (some env)) Q E s:=by
 simp only[newFunctionEnv,Option.isSome_some,if_true];refine uj (wpAny_alloc ?_);refine uj (wpAny_layCells _ (λc a b=>by cases hkc:a==NameKind.cell<;>simp[hkc]) _ _ _ _ ?_);rw[show({s with heap:=s.heap.push {cls:=.type "dict",data:=.dict #[]}}:Shared).heap.objs.size=s.heap.objs.size+1 from Heap.size_push ..];rw[forIn_nil];exact uj (ui (ui h))
noncomputable def blk(X:Cx)(scope:Scope)(ow:N3)(ci:N1)(C:Addr)(s₀:Shared)(H₀:Hp)(ex:N2)(pn:List (Addr×Obj)):Cx:=
 {X with N:=ow++ci.map λj=>X.N.getD j "",s₀:=s₀,H₀:=H₀,env:=compEnvC scope (cellsFrom (C+1) scope.names (closL X.env scope.names [])) C X.env,outer:=X.stack,stack:=X.stack,ex:=ex,fn:=λx=>scope.names.lookup x==some .cell,pn:=pn,xe:=λ_ _=>False}
structure CompScope(X:Cx)(scope:Scope)(ow:N3)(ci:N1):Prop where
 kind:scope.kind = .function
 cell:∀y∈scope.names,y.2 = .cell->scope.names.lookup y.1=some .cell
 names:∀y∈scope.names,y.2 = .local->scope.names.lookup y.1=some .local
 free:∀y∈scope.names,y.2 = .free->X.env.kindOf y.1=some .cell\/X.env.kindOf y.1=some .free
 ix:∀j∈ci,j<X.N.length/\scope.names.lookup (X.N.getD j "")=some .free
noncomputable def compOk(fsc:Scope)(N:N3)(scope:Scope)(ci:N1):Bool:=
 scope.kind == .function&&scope.names.all (λy=>y.2 != .cell||scope.names.lookup y.1==some .cell)&&scope.names.all (λy=>y.2 != .local||scope.names.lookup y.1==some .local) &&
 scope.names.all (λy=>y.2 != .free||fsc.names.lookup y.1==some .cell||fsc.names.lookup y.1==some .free)&&ci.all (λj=>decide (j<N.length)&&scope.names.lookup (N.getD j "")==some .free)
def CompScope.of(a:Scope)(N:N3)(c:X.env.scope=a)(d:X.N=N)(h:compOk a N scope ci=true):CompScope X scope ow ci:=by
 subst c d;unfold compOk at h;simp only[Bool.and_eq_true,all_eq_true,Bool.or_eq_true,bne_iff_ne,ne_eq,beq_iff_eq,decide_eq_true_eq]at h;let⟨⟨⟨⟨f,g⟩,i⟩,k⟩,l⟩:=h;refine⟨f,λy b e=>(g y b).resolve_left λz=>z e,λy b e=>?_,λy b e=>?_,λj m=>l j m⟩
 .rcases i y b with z | z
  .exact uh e z
  .exact z
 .rcases k y b with(z | z) | z
  .exact uh e z
  .exact .inl z
  .exact .inr z
def jG{a:Hp}(N:N3)(e:X.N=N)(h:(ow++ci.map λj=>N.getD j "").Nodup):(blk X scope ow ci C s₀ a ex pn).N.Nodup:=by
 subst e;exact h
noncomputable def capAt(σ:St)(j:Nat):N7:=match σ[j]? with | some o=>o | none=>none
noncomputable def capS(n:Nat)(ci:N1)(σ:St):St:=List.replicate n none++ci.map (capAt σ)
def tComp(wi:TI)(n:Nat)(ci:N1)(g:TG)(tf:TT)(te:TE):TE:=λσ H Q=>wi σ H λJ H1=>∃W:Nat->Nat->N6->Hp->Prop,(∃m,W 0 m [] H1)/\∀i m ys H,W i m ys H->
 (J.stop i H/\ys.length<=sizeLine/\∀p,H p=none->Q (.ref p) (upd H p (.lst ys)))\/
 (J.go i H/\∃N:N6->Hp->Prop,(∀ys' H',N ys' H'->∃m',m'<m/\W (i+1) m' ys' H')/\∀x H',J.yld i H x H'->g x (capS n ci σ) H' λσ2 H2=>tf σ2 H2 λb H3=>
  if b=true then te σ2 H3 λv H4=>ys.length<sizeLine/\N (ys++[v]) H4 else N ys H3)
section
variable{X:Cx}{pins:List (Addr×Obj)}{σ:St}{H:Hp}{s:Shared}{elt iter tg:Expr}{ifs:List Expr}{scope:Scope}{pos:Pos}{ow:N3}{ci:N1}{g:TG}{tf:TT}{te:TE}
def CompScope.cells(S:CompScope X scope ow ci)(b:X.Ok):∀y∈scope.names,y.2 = .free->∃c,X.env.cells.lookup y.1=some c:=λy a e=>b.has y.1 (S.free y a e)
def CompScope.sub(S:CompScope X scope ow ci)(a:X.Ok):∀x c,(closL X.env scope.names []).lookup x=some c->X.env.cells.lookup x=some c:=
 wK scope.names [] (S.cells a) λ_ _ e=>by simp at e
def CompScope.cel(S:CompScope X scope ow ci)(a:X.Ok)(h:(cellsFrom (C+1) scope.names (closL X.env scope.names [])).lookup x=some c):C+1<=c\/X.env.cells.lookup x=some c:=
 (Yu _ _ _ _ _ h).imp id (S.sub a x c)
def j6k(S:CompScope X scope ow ci)(I:Inv X pins σ H s)(f:s.heap.objs.size<=C)
  (a:∀b∈ex,b<s.heap.objs.size/\FpOk X pins H b):(blk X scope ow ci C s H ex pn).Ok where
 mod:=I.ok.mod
 kind:=S.kind
 glob:=I.ok.glob
 blt:=I.ok.blt
 above:=f
 inj:=j0e scope.names (C+1) _ (λx c e=>by
   let⟨v,q⟩:=I.cell x c (S.sub I.ok x c e);exact Nat.lt_succ_of_le (vZ (Nat.lt_of_lt_of_le q.lt f))) λx y c i j=>I.ok.inj x y c (S.sub I.ok x c i) (S.sub I.ok y c j)
 has:=λx h=>by
  have n:∃k,(relabel scope X.env).names.lookup x=some k/\(k = .cell\/k = .free):=by
   rcases h with h | h
   .exact⟨_,h,.inl rfl⟩
   .exact⟨_,h,.inr rfl⟩
  let⟨k,t,r⟩:=n;let⟨m,l,_,e⟩:=Qy (env:=X.env) t;have g:m = .cell\/m = .free:=by
   rcases e with e | ⟨e,_⟩
   .subst e;exact r
   .exact .inr e
  rcases g with g | g
  .subst g;exact j0d scope.names _ _ x l
  .subst g;exact WE scope.names _ _ x (Yv scope.names [] x l)
 cab:=λx c h e=>vX (vX f (Nat.le_succ _)) (j0f scope.names (C+1) (C+1) _ x c (vA _) (.inl (PySem.mem_of_lookup (beq_iff_eq.mp h))) e)
 hd:=I.ok.hd
 frames:=I.ok.frames
 stk:=.inl rfl
 exf:=λb d=>⟨vG (Nat.lt_of_lt_of_le (a b d).1 f),λx c e=>(S.cel I.ok e).elim (λq z=>Nat.lt_irrefl _ (Nat.lt_of_lt_of_le (z▸(a b d).1) (vX f (vX (Nat.le_succ _) q)))) λq=>(a b d).2.2.2.2.2.1 x c q⟩
 bs:=I.bs
 bsz:=vX I.ok.bsz I.sz
 noex:=λb o e d=>by
  let⟨_,_,_,p,_⟩:=(a b d).2;rcases p with z | z
  .exact I.ok.noex b o e z
  .exact uh (Nat.lt_of_lt_of_le (vK e) (vX I.ok.bsz z)) (Nat.lt_irrefl _)
 exfs:=λb d z=>by
  let⟨_,i,j,_⟩:=(a b d).2;rcases mem_cons.mp (I.stkSub b z)with e | e
  .exact i e
  .exact j e
 funs:=I.stack
 frf:=I.stkFree
def j2h(S:CompScope X scope ow ci)(I:Inv X pins σ H s){h:Str->Option Value}(D:s.heap.objs.size<=C)
  (F:∀b∈ex,b<s.heap.objs.size/\FpOk X pins H b) (Y:h₁.Ns C h) (k:∀b o,s.heap.get? b=some o->h₁.get? b=some o)
  (A:∀x c,(cellsFrom (C+1) scope.names (closL X.env scope.names [])).lookup x=some c->(closL X.env scope.names []).lookup x=some c\/h₁.IsCell c none) :
  Inv (blk X scope ow ci C s H ex (X.pn++pins)) [] (capS ow.length ci σ) H {s with heap:=h₁,toks:=t₁}:=by
 have ok:=j6k (pn:=X.pn++pins) S I D F;refine⟨ok,rfl,I.bare,Un.kept k,⟨h,Y,λi x v Q f R=>?_⟩,λx c e=>?_,I.hok.fresh D,λx c e=>(S.cel I.ok e).elim (λq=>I.hok.fresh (vX D (vX (Nat.le_succ _) q))) (I.freeC x c),λp Z=>?_,I.hok.kept k,?_⟩
 .have l:(ow++ci.map λj=>X.N.getD j "")[i]?=some x:=Q;unfold capS at f;by_cases G:i<ow.length
  .rw[vD (by simpa using G),List.getElem?_replicate,vc G]at f;cases f
  .rw[vE (by simpa using G),vv,List.length_replicate]at f;rw[vE ⋯,vv]at l;cases hj:ci[i-ow.length]? with
   | none=>rw[hj]at f;cases f
   | some j=>
    rw[hj]at l f;let⟨W,E⟩:=S.ix j (vj hj);have w:X.N.getD j ""= x:=vN l;have T:X.N[j]?=some x:=by
     rw[<-w,vy,vz W];rfl
    have ev:σ[j]?=some (some v):=by
     have a:capAt σ j=some v:=vN f;unfold capAt at a;cases q:σ[j]? with
     | none=>rw[q]at a;cases a
     | some o=>rw[q]at a;rw[show o=some v from a]
    rw[w]at E;have g:(x,NameKind.free)∈scope.names:=PySem.mem_of_lookup E;have N:=S.free _ g rfl;let⟨m,_,J⟩:=I.loc;have L:Vis X.env.scope x:=by
     rcases N with q | q
     .exact .inr (.inl q)
     .exact .inr (.inr q)
    let⟨u,r,lk⟩:=J j x v T ev L;refine⟨u,r,.inr ⟨?_,?_⟩⟩
    .rcases R with q | q | q
     .let⟨k',_,M,B⟩:=Qy (env:=X.env) q;rw[E]at M;cases M;rcases B with B | ⟨_,B⟩<;>cases B
     .exact .inl q
     .exact .inr q
    .rcases lk with⟨q,_⟩ | ⟨_,c,U,t⟩
     .have O:X.env.kindOf x=some .local:=q;rcases N with z | z<;>(rw[z]at O;cases O)
     .let⟨P,y⟩:=Yv (env:=X.env) scope.names [] x g;have e:=S.sub I.ok x P y;rw[U]at e;cases e;refine⟨c,?_,t.keeps k⟩;show(cellsFrom (C+1) scope.names (closL X.env scope.names [])).lookup x=some c;rw[j0g scope.names _ _ x λz=>?_]
      .exact y
      .have:=S.cell _ z rfl;rw[E]at this;cases this
 .rcases A x c e with q | q
  .let⟨v,q⟩:=I.cell x c (S.sub I.ok x c q);exact⟨v,q.keeps k⟩
  .exact⟨_,q⟩
 .have K:p∈X.pn++pins:=by
   rcases vg.mp Z with z | z
   .exact z
   .cases z
  let⟨e,n,ne,nf,d⟩:=I.pin p K;refine⟨k _ _ e,n,vG (Nat.lt_of_lt_of_le (vK e) D),λz=>?_,d⟩;rcases mem_cons.mp (I.stkSub p.1 z)with q | q
  .exact ne q
  .exact nf q
 .show(capS ow.length ci σ).length=(ow++ci.map λj=>X.N.getD j "").length;simp[capS]
def Inv.forget{Z':St}(I:Inv X pins Z' H s)(n:Nat)(ci:N1)(a:St)(c:(capS n ci a).length=X.N.length)(h:∀i v,n<=i->(capS n ci a)[i]?=some (some v)->Z'[i]?=some (some v)):Inv X pins (capS n ci a) H s:=
 I.weak (by rw[c,I.len]) λi v e=>by
  by_cases b:n<=i
  .exact h i v b e
  .unfold capS at e;rw[vD (by simpa using b),List.getElem?_replicate,vc ⋯]at e;cases e
def GKeeps(n:Nat)(g:TG):Prop:=∀x σ H (Q:St->Hp->Prop),g x σ H Q->g x σ H λσ2 H2=>(∀(i:Nat) v,n<=i->σ[i]?=some (some v)->σ2[i]?=some (some v))/\Q σ2 H2
def Js(h:i<n):GKeeps n (gName i):=λx b H Q q=>⟨λj v a e=>by rw[List.getElem?_set_ne ⋯];exact e,q⟩
def zz{K:Frg}{n i j:Nat}(hi:i<n)(p:j<n):GKeeps n (gTup K 2 (gCons (gName i) (gCons (gName j) gNil))):=λx t H Q q=>by
 let⟨a,o,b,c,d,v,r,f,m,l,g,h,q⟩:=q;refine⟨a,o,b,c,d,v,r,f,m,l,g,h,λk u s e=>?_,q⟩;rw[List.getElem?_set_ne ⋯,List.getElem?_set_ne ⋯];exact e
def Km{E:Value->Shared->Prop}{tn:Nat->Heap->Prop}{RR:Value->Addr->Result->Shared->Prop}(hc:X.calm=true)(S:CompScope X scope ow ci)(hk:GKeeps ow.length g)
  (a:∀C F y ex pn,PG (blk X scope ow ci C F y ex pn) tg g/\PF (blk X scope ow ci C F y ex pn) ifs tf/\PE (blk X scope ow ci C F y ex pn) elt te)
  (I:Inv X pins σ H s) (T:Turn X.prog X.w X.K tg J fp it tn) (st:tn 0 s.heap) (hf:∀b∈fp,FpOk X pins H b) (Z:N6->Hp->Prop)
  (W:Nat->Nat->N6->Hp->Prop) (w0:∃m,W 0 m [] H)
  (aP:∀i m ys H,W i m ys H->(J.stop i H/\ys.length<=sizeLine/\Z ys H)\/
   (J.go i H/\∃N:N6->Hp->Prop,(∀aQ H',N aQ H'->∃m',m'<m/\W (i+1) m' aQ H')/\∀x H',J.yld i H x H'->g x (capS ow.length ci σ) H' λaR H2=>tf aR H2 λb H3=>
    if b=true then te aR H3 λv H4=>ys.length<sizeLine/\N (ys++[v]) H4 else N ys H3))
  (aY:∀D C s' H' m ys,Inv X pins σ (upd H' D (.lst ys)) s'->H' D=none->Z ys H'->s'.heap.Ns C m->s.heap.objs.size<=C->C≠D->H' C=none->RR (.ref D) C (.ok .next) s') :
  wpAny (model X.prog X.w) X.A (newList []) (λan aN=>wpAny (model X.prog X.w) X.A (newFunctionEnv scope X.env.globals (closL X.env scope.names []) [] X.env.qual none .none (some X.env)) (λa6 aO=>
   codeAny (model X.prog X.w) X.A (.compStart (.ListComp elt [⟨tg,iter,ifs,0⟩] scope pos) 0 (.ref it) an {a6 with scope:=relabel scope X.env}) (RR an a6.locals) aO) E aN) E s:=by
 refine wpAny_newObj_type (envC ?_);dsimp only;generalize O:({s with heap:=s.heap.push {cls:=.type "list",dict:=none,data:=.seq ([]:N4).toArray}}:Shared)=s3;have e3:s3.heap=s.heap.push {cls:=.type "list",dict:=none,data:=.seq ([]:N4).toArray}:=by rw[<-O]
 rw[<-e3];generalize ad:pushCells (s3.heap.push {cls:=.type "dict",data:=.dict #[]}) scope.names=h₁;have k3:∀b o,s.heap.get? b=some o->s3.heap.get? b=some o:=λb o e=>by rw[e3];exact vL _ e
 have hsz:s3.heap.objs.size=s.heap.objs.size+1:=by rw[e3,Heap.size_push]
 have I3:Inv X pins σ H s3:=by rw[<-O];exact I.kept (t':=s.toks) λb o e=>vL _ e
 have b4:s3.heap.get? s.heap.objs.size=some {cls:=.type "list",dict:=none,data:=.seq ([]:N4).toArray}:=by rw[e3];exact Heap.get?_push_size _ rfl
 generalize ac:s.heap.objs.size=D at *;generalize l:s3.heap.objs.size=C at *;have A:D<C:=⋯
 have ar:H D=none:=I.hok.fresh (Nat.le_of_eq ac);have aZ:FpOk X pins H D:=I.fpOk (Nat.le_of_eq ac) ar;have ae:∀(b:Addr) o,s.heap.get? b=some o->b<D:=λb o e=>by rw[<-ac];exact vK e
 have be:∀(b:Addr) o,s3.heap.get? b=some o->b<C:=λb o e=>by rw[<-l];exact vK e
 have a8:∀b∈fp,b<D:=λb a=>by
  let⟨o,e,_⟩:=T.obj 0 _ st b a;exact ae b o e
 have G:∀b∈D::fp,b<s3.heap.objs.size/\FpOk X pins H b:=λb a=>by
  rw[l];rcases mem_cons.mp a with rfl | a
  .exact⟨A,aZ⟩
  .exact⟨Nat.lt_trans (a8 b a) A,hf b a⟩
 have kk:∀b o,s3.heap.get? b=some o->h₁.get? b=some o:=λb o e=>by rw[<-ad];exact pushCells_keeps _ _ b o (vL _ e)
 have M:h₁.Ns C λ_=>none:=by rw[<-ad,<-l];exact(Heap.Ns.new s3.heap (.type "dict")).keeps (pushCells_keeps _ _)
 have ay:∀x c,(cellsFrom (C+1) scope.names (closL X.env scope.names [])).lookup x=some c->(closL X.env scope.names []).lookup x=some c\/h₁.IsCell c none:=λx c e=>by
  rw[<-ad];refine Kl scope.names _ _ x c ?_;rw[Heap.size_push,l];exact e
 let⟨hg,av,he⟩:=a C s3 H (D::fp) (X.pn++pins);generalize w:blk X scope ow ci C s3 H (D::fp) (X.pn++pins)=Y at hg av he;have f:Y.prog=X.prog:=by rw[<-w];rfl
 have Yw:Y.w=X.w:=by rw[<-w];rfl
 have YK:Y.K=X.K:=by rw[<-w];rfl
 have YA:Y.A=X.A:=by rw[<-w];rfl
 have Yc:Y.calm=true:=by rw[<-w];exact hc
 have h:Y.env=compEnvC scope (cellsFrom (C+1) scope.names (closL X.env scope.names [])) C X.env:=by rw[<-w];rfl
 have aa:Y.xe=λ_ _=>False:=by rw[<-w];rfl
 have am:Y.fs=frs X.stack:=by rw[<-w];rfl
 have al:Y.ex=D::fp:=by rw[<-w];rfl
 have aW:Y.pn=X.pn++pins:=by rw[<-w];rfl
 have Ys:Y.s₀=s3:=by rw[<-w];rfl
 have YH:Y.H₀=H:=by rw[<-w];rfl
 have YN:(capS ow.length ci σ).length=Y.N.length:=by rw[<-w];show(capS ow.length ci σ).length=(ow++ci.map λj=>X.N.getD j "").length;simp[capS]
 have af:∀b∈D::fp,b≠Y.env.locals/\b∉Y.fs/\b∈Y.ex/\(∀x c,Y.env.cells.lookup x=some c->c≠b)/\∀p∈Y.pn,p.1≠b:=λb a=>by
  let⟨h0,h1,h2,h3,h4,h5⟩:=(G b a).2;refine⟨by rw[h];exact vG (l▸(G b a).1),λz=>?_,by rw[al];exact a,λx c e=>?_,by rw[aW];exact h5⟩
  .rw[am]at z;rcases mem_cons.mp (I.stkSub b z)with q | q
   .exact h1 q
   .exact h2 q
  .rw[h]at e;rcases S.cel I.ok e with q | q
   .exact λz=>Nat.lt_irrefl _ (Nat.lt_of_lt_of_le (l▸(G b a).1) (vX (Nat.le_succ _) (z▸q)))
   .exact h4 x c q
 have aE:D∉fp:=λz=>Nat.lt_irrefl _ (a8 D z)
 have aC:∀s4:Shared,Inv Y [] (capS ow.length ci σ) H s4->tn 0 s4.heap->s4.heap.PlainList D #[]->
   codeAny (model X.prog X.w) X.A (.compLoop (.ListComp elt [⟨tg,iter,ifs,0⟩] scope pos) 0 (.ref it) (.ref D) (compEnvC scope (cellsFrom (C+1) scope.names (closL X.env scope.names [])) C X.env)) (RR (.ref D) C) s4:=by
  intro s4 J4 Q ag;let⟨m0,w0⟩:=w0;refine compLoopT (λn s'=>∃i ys k H',Inv Y [] (capS ow.length ci σ) H' s'/\tn i s'.heap/\(∀b∈fp,H' b=none)/\H' D=none/\s'.heap.PlainList D k/\Vals ys k.toList/\W i n ys H') ?_ m0
   ⟨0,[],#[],H,J4,Q,λb a=>(hf b a).1,ar,ag,.nil,w0⟩
  rintro n s5 ⟨i,ys,k,U,J5,aK,ap,t,⟨aH,ba⟩,R,w5⟩;have vl:ys.length=k.size:=by have:=R.length;simpa using this
  have aF:∀{H':Hp} {s':Shared} {ai:St},Inv Y [] ai H' s'->H' D=none->∀{o:Obj},s'.heap.get? D=some o->(∀v,o.data≠.cell v)->Inv Y [(D,o)] ai H' s':=λ{H' s' ai} K hD o e d=>
   K.pins_of λp hp=>by
    have ep:p=(D,o):=by simpa using hp
    subst ep;let⟨a1,a2,_⟩:=af D vq;exact⟨e,hD,a1,a2,d⟩
  have P5:=aF J5 t ba (λv z=>by cases z);have ab:∀{H':Hp},(∀b∈fp,H' b=none)->∀{o:Obj},∀b∈fp,FpOk Y [(D,o)] H' b:=λ{H'} hn {o} b a=>by
   let⟨a1,a2,a3,a4,a5⟩:=af b (vp _ a);refine⟨hn b a,a1,a2,.inl a3,a4,λp hp=>?_⟩;rcases vg.mp hp with q | q
   .exact a5 p q
   .have ep:p=(D,o):=by simpa using q
    subst ep;exact λz=>aE (by have z':D=b:=z;rw[z'];exact a)
  rcases aP i n ys U w5 with⟨aM,aB,z5⟩ | ⟨go,NN,as,aL⟩
  .have d:=T.done Y f Yw YK Yc i [(D,_)] s5 _ U (λ_ _=>False) P5 (ab ap) aK aM;rw[YA]at d;refine thn d λr s6 z_=>?_;obtain⟨hr,J6⟩:=z_
   subst hr;have D6:=(J6.pin (D,_) (mem_append_right _ vq)).1;let⟨mC,aw,_⟩:=J6.loc;rw[h]at aw;have ax:s6.heap.Ns C mC:=aw;have b3:U C=none:=by have:=J6.free;rw[h]at this;exact this
   refine aY D C s6 U mC ys ?_ t z5 ax (vZ A) (vP A) b3;have B:=J6.base;rw[am,al,YH,Ys]at B;have aD:∀b o,s.heap.get? b=some o->b≠D/\b≠C:=λb o e=>⟨vG (ae b o e),vG (Nat.lt_trans (ae b o e) A)⟩
   have P:∀b o,s.heap.get? b=some o->b∉fp->b∉D::fp:=λb o e a z=>by
    rcases mem_cons.mp z with q | q
    .exact(aD b o e).1 q
    .exact a q
   have uN:Un (frs X.stack) fp H (upd U D (.lst ys)) s.heap s6.heap:=by
    refine⟨λb o e n a hx=>B.keep b o (k3 b o e) n a (P b o e hx),λb o e n a hx=>B.slot b o (k3 b o e) n a (P b o e hx),λb o e n hx=>?_,λb o e hx=>B.there b o (k3 b o e) (P b o e hx),λb xs q=>?_,λb o u q=>?_,λb ps q=>?_⟩
    .rw[je (aD b o e).1];exact B.free b o (k3 b o e) n (P b o e hx)
    .rw[je (jf (B.tups b xs q) t)];exact B.tups b xs q
    .rw[je (jf (B.frzs b o u q) t)];exact B.frzs b o u q
    .let⟨mo,q'⟩:=B.tbls b ps q;exact⟨mo,by rw[je (jf q' t)];exact q'⟩
   have az:HOk X.prog X.w U s6.heap:=by rw[<-f,<-Yw];exact J6.hok
   have aA:HOk X.prog X.w (upd U D (.lst ys)) s6.heap:=λb u e=>by
    by_cases au:b=D
    .subst au;rw[jm]at e;cases e;exact⟨aB,k.toList,_,R,by simpa using D6⟩
    .rw[je au]at e;exact(az b u e).stay (λc v _ q=>q) (λc q=>by rw[je (jf q t)];exact q) λc xs q=>by rw[je (jf q t)];exact q
   refine I.call' (by rw[J6.os,Ys,<-O]) uN aA J6.bare λb a=>?_
   let⟨h0,h1,h2,h3,h4,h5⟩:=hf b a;exact⟨h3,h1,h4,h5⟩
  .have d:=T.item Y f Yw YK Yc i [(D,_)] s5 _ U (λ_ _=>False) P5 (ab ap) aK go;rw[YA]at d;refine thn d λr s6 z_=>?_;obtain⟨u,hr,h6⟩:=z_
   subst hr;refine thn h6 λ_ s7 z_=>?_;obtain⟨x,H7,J7,r7,y7,ah,b0⟩:=z_
   have aT:=J7.pinned (ab b0) (T.obj _ _ ah);have h8:=hg _ s7 _ H7 x u _ aT r7 (hk _ _ _ _ (aL x H7 y7));rw[f,Yw,YA,h,aa]at h8;refine thn h8 λ_ s8 z_=>?_;obtain⟨aj,H8,J8,b8,q8⟩:=z_
   have h9:=av _ s8 aj H8 _ J8 q8;rw[f,Yw,YA,h,aa]at h9;refine thn h9 λb s9 z_=>?_;obtain⟨H9,J9,q9⟩:=z_
   have a0:∀{H':Hp} {s':Shared},Inv Y ([(D,({cls:=.type "list",data:=.seq k aH}:Obj))]++pinsAt fp s7.heap) aj H' s'->Inv Y [] (capS ow.length ci σ) H' s'/\tn (i+1) s'.heap/\(∀b∈fp,H' b=none)/\H' D=none/\s'.heap.get? D=some {cls:=.type "list",data:=.seq k aH}:=λ{H' s'} K=>by
    have pD:=K.pin (D,_) (mem_append_right _ (mem_append_left _ vq));refine⟨(K.pins_of (pins':=[]) (by simp)).forget _ _ _ YN (λj v hj e=>b8 j v hj e),T.keep _ _ _ ah λb a o e=>(K.pin (b,o) (mem_append_right _ (mem_append_right _ (zA a e)))).1,λb a=>?_,pD.2.1,pD.1⟩;let⟨o,e,_⟩:=T.obj _ _ ah b a;exact(K.pin (b,o) (mem_append_right _ (mem_append_right _ (zA a e)))).2.1
   cases b with
   | false=>
    rw[va vH]at q9|-;let⟨m',hm,w9⟩:=as _ _ q9;let⟨K9,bc,b1,b5,e9⟩:=a0 J9;exact⟨m',hm,i+1,ys,k,H9,K9,bc,b1,b5,⟨_,e9⟩,R,w9⟩
   | true=>
    rw[vc rfl]at q9|-;have aq:=he _ s9 aj H9 _ J9 q9;rw[f,Yw,YA,h,aa]at aq;refine thn aq λz aI z_=>?_;obtain⟨v,ak,aS,bb,b6,b9⟩:=z_
    let⟨m',hm,bd⟩:=as _ _ b9;let⟨aU,aJ,ao,a7,aX⟩:=a0 aS;refine wpAny_list_append_plain (hsz:=by rw[<-vl];exact vZ b6) ⟨_,aX⟩ λb2 aG a9=>?_
    let⟨a1,a2,a3,a4,a5⟩:=af D vq;have aV:Inv Y [] (capS ow.length ci σ) ak {aI with heap:=b2}:=aU.turned (t':=aI.toks) (λb o a e=>(a9.2 b a).trans e) a7 a1 (.inl a3) a4 (λp hp=>a5 p (by simpa using hp));refine⟨m',hm,i+1,ys++[v],k.push z,ak,aV,T.keep _ _ _ aJ λb a o e=>(a9.2 b (λq=>aE (q▸a))).trans e,ao,a7,aG,?_,bd⟩;rw[Array.toList_push];exact R.append (.cons bb .nil)
 have J4:Inv Y [] (capS ow.length ci σ) H {s3 with heap:=h₁}:=by
  rw[<-w];exact j2h (t₁:=s3.toks) S I3 (Nat.le_of_eq l) G M kk ay
 have Q:tn 0 h₁:=T.keep _ _ _ st λb _ o e=>kk b o (k3 b o e)
 have ag:h₁.PlainList D #[]:=⟨_,kk _ _ b4⟩
 have L:=aC _ J4 Q ag;subst O;exact codeAny_compStart_list L (T.self _ 0 _ _ _ Q L)
variable{wi:TI}
def jZ(P:X.calm=true)(S:CompScope X scope ow ci)(R:GKeeps ow.length g)(hi:PI X tg iter wi)
  (n:∀C c a ex pn,PG (blk X scope ow ci C c a ex pn) tg g/\PF (blk X scope ow ci C c a ex pn) ifs tf/\PE (blk X scope ow ci C c a ex pn) elt te)
  (Y:∀x,foldedSetIterable iter X.env x=pure x:=by intro _;rfl):PE X (.ListComp elt [⟨tg,iter,ifs,0⟩] scope pos) (tComp wi ow.length ci g tf te):=by
 intro d s u H Q I h;rw[eval_ListComp];refine wpAny_comprehension_free (use:=none) rfl Y (yH (S.cells I.ok)) S.kind S.names (thn (hi d s u H _ I h) λv s1 L=>thn L λZ s2 M=>?_);let⟨it,fp,tn,J,H2,e,t,T,r,A,W,w0,f⟩:=M;subst e;refine Km (RR:=λj C=>compPost (model X.prog X.w) X.A X.xe none (EP X d u Q) j C) P S R n t T r A (λi H=>∀p,H p=none->Q (.ref p) (upd H p (.lst i))) W w0 f λD C s' H' m i K O z U N l k=>?_
 refine⟨m,U,λh' q=>⟨.ref D,upd H' D (.lst i),?_,rfl,z D O⟩⟩;let⟨w,y,B,E,F,G⟩:=t.fpOk (H':=upd H' D (.lst i)) N (by rw[je l];exact k);exact K.turned (t':=s'.toks) (λb o n e=>(q.2 b n).trans e) w y E F G
def yW(hc:X.calm=true)(S:CompScope X scope ow ci)(hk:GKeeps ow.length g)(hN:X.N.Nodup)(A:X.N[i]?=some x)(hx:Loc X.env.scope x)(hi:PI X tg iter wi)
  (t:∀C f c ex pn,PG (blk X scope ow ci C f c ex pn) tg g/\PF (blk X scope ow ci C f c ex pn) ifs tf/\PE (blk X scope ow ci C f c ex pn) elt te)
  (y:swapsWith (.ListComp elt [⟨tg,iter,ifs,0⟩] scope pos) (some (.Name x px)) spos.line X.env=pure true:=by rfl)
  (hf:X.fn x=true\/X.env.scope.names.lookup x=some .local:=by first | exact .inl rfl | exact .inr rfl | assumption)
  (hs:∀x,foldedSetIterable iter X.env x=pure x:=by intro _;rfl):PS X (.Assign [.Name x px] (.ListComp elt [⟨tg,iter,ifs,0⟩] scope pos) spos) (tAsg (tComp wi ow.length ci g tf te) (gName i)):=by
 intro d s M H D I h;rw[exec_Assign_Name_used _ _ _ _ y];refine uj (wpAny_standAt (uj ?_));show wpAny _ X.A (do let _ <-comprehension (.ListComp elt [⟨tg,iter,ifs,0⟩] scope pos) scope X.env _ (newList []) false (eval iter X.env) (some (assign (.Name x px) X.env))) _ _ s;refine uj (wpAny_mono (wpAny_comprehension_free (use:=some (assign (.Name x px) X.env)) (Q:=λ_ j=>SP X d D .next j) rfl hs (yH (S.cells I.ok)) S.kind S.names
  (thn (hi d s M H _ I h) λv s1 h1=>thn h1 λa0 s2 h2=>?_)) (λ_ j hq=>ui (ui hq)) λ_ _ e=>e)
 let⟨it,fp,tn,J,H2,e,F,T,B,R,W,w0,k⟩:=h2;subst e;refine Km (RR:=λl C=>compPost (model X.prog X.w) X.A X.xe (some (assign (.Name x px) X.env)) (λ_ j=>SP X d D .next j) l C) hc S hk t F T B R
  (λE H=>∀p,H p=none->gName i (.ref p) M (upd H p (.lst E)) D.nx) W w0 k λP C j H' m E K hD z hn hC r n=>?_
 let⟨O,G,U,Y,L,Z⟩:=F.fpOk (H':=upd H' P (.lst E)) hC (by rw[je r];exact n);show wpAny _ X.A (assign (.Name x px) X.env (.ref P)) _ _ j;refine wpAny_assign_Name (We K hN A hx (v:=.ref P) rfl (λs3 N ⟨a,w,ha⟩=>⟨m,hn.sameBut w ?_,λh' u=>?_⟩) hf)
 .rcases ha with q | q
  .rw[q];exact G
  .exact λz=>L x a q z.symm
 .exact⟨_,_,N.turned (t':=s3.toks) (λb o t e=>(u.2 b t).trans e) O G Y L Z,z P hD⟩
def Kn{lo:Int}{n k:Nat}{ci:N1}{g:TG}{q:TT}{o:TE}{r:St}{H:Hp}{Z:Addr->N6->Hp->Prop}(c:Nat->N6->Hp->Prop)(s:c 0 [] H)
  (u:∀i ys H,i<n->c i ys H->g (.int (lo+i)) (capS k ci r) H λa H2=>q a H2 λb h=>if b=true then o a h λv j=>ys.length<sizeLine/\c (i+1) (ys++[v]) j else c (i+1) ys h)
  (t:∀ys H,c n ys H->ys.length<=sizeLine/\∀p,H p=none->Z p ys H) :
  ∃W:Nat->Nat->N6->Hp->Prop,(∃m,W 0 m [] H)/\∀i m ys H,W i m ys H->
   ((Itr lo n).stop i H/\ys.length<=sizeLine/\∀p,H p=none->Z p ys H)\/
   ((Itr lo n).go i H/\∃N:N6->Hp->Prop,(∀f H',N f H'->∃l,l<m/\W (i+1) l f H')/\∀x H',(Itr lo n).yld i H x H'->g x (capS k ci r) H' λa H2=>q a H2 λb h=>
    if b=true then o a h λv j=>ys.length<sizeLine/\N (ys++[v]) j else N ys h):=by
 refine⟨λi m ys H=>m=n-i/\i<=n/\c i ys H,⟨n,by simp,vB _,s⟩,?_⟩;rintro i m ys H ⟨rfl,z,p⟩;by_cases d:i<n
 .refine .inr ⟨d,c (i+1),λf H' w=>⟨n-(i+1),⋯,rfl,d,w⟩,λx H' y=>?_⟩;let⟨e,y⟩:=y;subst e y;exact u i ys _ d p
 .have e:i=n:=⋯
  subst e;exact .inl ⟨vA _,t ys H p⟩
def jS{K:Frg}{a:Addr}{xs:N6}{k:Nat}{ci:N1}{g:TG}{r:TT}{o:TE}{s:St}{H:Hp}{Z:Addr->N6->Hp->Prop}(d:Nat->N6->Hp->Prop)(t:d 0 [] H)(z:∀i ys H,i<=xs.length->d i ys H->SqL K H a xs)
  (A:∀i x ys H,xs[i]?=some x->d i ys H->g x (capS k ci s) H λc H2=>r c H2 λb h=>if b=true then o c h λv l=>ys.length<sizeLine/\d (i+1) (ys++[v]) l else d (i+1) ys h)
  (u:∀ys H,d xs.length ys H->ys.length<=sizeLine/\∀p,H p=none->Z p ys H) :
  ∃W:Nat->Nat->N6->Hp->Prop,(∃m,W 0 m [] H)/\∀i m ys H,W i m ys H->
   ((Itl K a).stop i H/\ys.length<=sizeLine/\∀p,H p=none->Z p ys H)\/
   ((Itl K a).go i H/\∃N:N6->Hp->Prop,(∀f H',N f H'->∃n,n<m/\W (i+1) n f H')/\∀x H',(Itl K a).yld i H x H'->g x (capS k ci s) H' λc H2=>r c H2 λb h=>
    if b=true then o c h λv l=>ys.length<sizeLine/\N (ys++[v]) l else N ys h):=by
 refine⟨λi m ys H=>m=xs.length-i/\i<=xs.length/\d i ys H,⟨xs.length,by simp,vB _,t⟩,?_⟩;rintro i m ys H ⟨rfl,w,p⟩;have q:=z i ys H w p;by_cases j:i<xs.length
 .refine .inr ⟨⟨xs,xs[i],q,by simp[j]⟩,d (i+1),λf H' B=>⟨xs.length-(i+1),⋯,rfl,j,B⟩,λx H' y=>?_⟩;let⟨e,y⟩:=y;subst e;exact A i x ys _ (y xs q) p
 .have e:i=xs.length:=⋯
  subst e;exact .inl ⟨⟨xs,q,vA _⟩,u ys H p⟩
end
def j1N:(10:Nat)^250<2^831:=by decide +kernel
def xS(a : -10^250<=x)(b:x<=10^250):Builtin.Int.intBits x<=1048576:=by
 refine vX (PySem.intBits_le_iff.mpr ?_:Builtin.Int.intBits x<=831) nofun;have:x.natAbs<=10^250:=⋯
 exact vF this j1N
def mulOk(a : -10^250<=x)(b:x<=10^250)(c : -10^250<=y)(d:y<=10^250):IntMulOk x y:=.of_bits (xS a b) (xS c d)
section
variable{X:Cx}
def J3:OpR X (binaryOp .Mult) (rI IntMulOk λi j=>.int (i*j)):=opI λ_ _ _ _ _ _ _ a q=>mul_int q a
def CDivB(_ j:Int):Prop:=0<j/\j<=10^250
def cdivB(a:0<j)(b:j<=10^250):CDivB i j:=⟨a,b⟩
def qS:OpR X (binaryOp .FloorDiv) (rI CDivB λi j=>.int (i/j)):=opI λi j _ _ _ _ _ a q=>by
 have b:(0:Int)<j:=a.1;have c:j<=10^250:=a.2;refine floordiv_int ⋯ ?_ (.inl (PyProof.noPylong_of_log2 ?_))
 .rw[Int.fdiv_eq_ediv_of_nonneg _ ⋯];exact q
 .have e:j.natAbs<=10^250:=⋯
  have g:j.natAbs.log2<831:=(Nat.log2_lt ⋯).mpr (vF e j1N);lia
def j38{E:Value->Shared->Prop}{Q:Value->Shared->Prop}(y:A.handled=none)(d:s.heap.IsList l (intItems xs))
  (h:∀h' tk t',(∀b o,s.heap.get? b=some o->h'.get? b=some o)->Q (.int (preSum (numAt xs) xs.size) t') {s with heap:=h',toks:=tk}) :
  wpAny (model prog w) A (call (.builtin "sum") [.ref l]) Q E s:=by
 let⟨o,m,B,n,C⟩:=id d;have f:l≠s.heap.objs.size:=vG (vK m);have g:(intItems xs).size=xs.size:=by simp[intItems]
 have W:=(Walks.list (prog:=prog) (w:=w) (A:=A.in1) y s.heap.objs.size l f (intItems xs)).toS;rw[g]at W;refine call_sum_walkAnyS (wpAny_pyIter_list d ?_);refine⟨s.heap.objs.size,_,_,_,_,_,_,numAt xs,rfl,W,⟨⟨_,Heap.get?_push_size _ rfl,rfl,rfl⟩,d.at λo e=>vL _ e⟩,λb a=>?_,λi v x=>intItems_at x,λz t' c=>?_⟩
 .rcases mem_cons.mp a with rfl | a
  .exact vK (Heap.get?_push_size _ rfl)
  .obtain rfl:=vo.mp a;exact vK (vL _ m)
 .let⟨h',u,p,k,j⟩:=z;have q:u=s.gens:=c.gens;have r:p=s.drawn:=c.drawn;have t:j=s.os:=c.os;subst q r t;exact h h' k t' λb o e=>c.heap b o (λa=>uh (vK e) ((vo.mp a)▸Nat.lt_irrefl _)) (vL _ e)
def wH(f:X.calm=true):CallR X (.builtin "sum") (λxs H Q=>∃(p:Addr) (ns:L9),xs=[.ref p]/\SqL X.K H p (ns.map V.int)/\Q (.int ns.sum) H):=by
 intro e s y H xs w Q I r h;let⟨p,ns,rfl,i,q⟩:=h;let⟨u,rfl,m⟩:=vals1 r;cases m;let⟨a,l,k,o⟩:=I.list i;have c:IntsAre a ns:=intsAre_of l;let⟨x,j⟩:=c.allInts.items;have b:numsOf a.toArray.toList=ns:=by rw[show a.toArray.toList=a from rfl,c.numsOf]
 have d:=k.isList;rw[j]at d b;rw[nums_intItems]at b;refine j38 (I.ok.hd f) d λn v t g=>?_
 rw[preSum_eq,take_of_length_le (by simp),b];exact⟨.int ns.sum,H,I.kept g,⟨_,rfl⟩,q⟩
end
end L2
namespace Att
open PySem PySem.W PySem.Calls PyProof.Rows
theorem Y8:∀(ns:L9) (x:Int),x∈ns->Builtin.Int.intBits x<=WData.weightAll (ns.map WData.int)
 | [],_,h=>by cases h
 | n::r,x,h=>by
  show _<=WData.weight (.int n)+1+WData.weightAll (r.map WData.int);rcases mem_cons.mp h with e | h
  .subst e;have e:Builtin.Int.intBits x=WData.weight (.int x):=by
    unfold Builtin.Int.intBits WData.weight;rfl
   lia
  .have:=Y8 r x h;lia
def WA{l:OpenLaw}{n:Nat}{q:Program}{c:N3}{D:(Str->Option Value)->Heap->Prop}{E:World->Heap->Prop}{d:DefRec}
  (R:l.most=some n) (y:d.params.defaults=[])
  (j:∀(w:World) (e b:Shared) (mg B:Str->Option Value) (k:Addr) (o:Obj) (C u g:Value) (a:Addr) (vs:N4) (ns:L9),
   Ground q c [] D w e mg B b.heap->E w b.heap->
   b.heap.get? k=some o->o.data = .func (docDef d.name d.params d.body d.scope C u g)->b.heap.CodeRec u d.name->mg d.name=some (.ref k)->
   b.heap.get? a=some {cls:=.type "list",data:=.seq vs.toArray}->IntsAre vs ns->ns.length<=n->(∀x∈ns,Builtin.Int.intBits x<=1048576)->b.gens = #[]->
   codeAny (model l.prog w) callerA (.call (.ref k) ⟨[.ref a],[]⟩) (λr s'=>r = .ok (.ret (.bool true))/\OldK b.heap s'.heap/\s'.os=b.os/\AllBare s'.gens) b) :
  WalkO q c D E l.row.toRowW d [] (λf vs=>PySem.call f vs):=by
 intro w e b mg B G Y k o C u g J kV S N v H z O F I Z t m U A P;obtain rfl:J = .none:=Dflts.none H y;obtain rfl:kV = .none:=Dflts.noKw H;let⟨a,vs,ns,rfl,rfl,s,i,p⟩:=j35 R t A;have h:∀x∈ns,Builtin.Int.intBits x<=1048576:=by
  have W:(WData.list (ns.map WData.int)).weight<=2^20:=(layableW_iff.mp (layW_cons m).1).2.2;intro x X;exact vX (Y8 ns x X) W
 refine enter_call (codeAny_mono (j w e b mg B k o C u g a vs ns G Y S (fd_plain N) v z s i p h O) λr s' T=>?_);let⟨rfl,K,L,M⟩:=T;exact⟨.inl ⟨.bool true,.bool true,[],rfl,λ_=>rfl,.bool true,j2X l _,λ_=>⟨List.Pairwise.nil,λ_ Q=>(nomatch Q)⟩⟩,K,L,M⟩
end Att
namespace L2
open PySem PySem.Spec PyProof.Rows
def j4Y{l:PySem.W.OpenLaw}{n k:Nat}{q:Program}{i:N3}{J:(Str->Option Value)->Heap->Prop}{D:World->Heap->Prop}{d:DefRec}{K:Params->Frg}{CX:CXT}{sp:Frg->Sp}{x:Str}
  (U:l.most=some n) (z:n<=sizeLine) (t:d.params.defaults=[]) (W:Room k callerA)
  (P:∀(w:World) (h:Heap),D w h->(K w.params).In h)
  (F:∀(w:World) (mg:Str->Option Value) (p:Addr) (h:Heap),(K w.params).In h->h.Ns mainGlobals mg->mg d.name=some (.ref p)->
   ∃fd:FuncData,(∀(s:Shared) (u:Value),BindsTo s fd ⟨[u],[]⟩ [(x,u)])/\
    ∀base:Heap,(K w.params).In base->base.Ns mainGlobals mg->FnOk l.prog w (K w.params) mg base CX k p fd [x] (sp (K w.params)))
  (B:∀(K:Frg) (H:Hp) (a:Addr) (ns:L9),ns.length<=n->(∀x∈ns,Builtin.Int.intBits x<=1048576)->Only H->SqL K H a (ns.map V.int)->sp K [.ref a] H (λv _=>v = .bl true) λ_ _ _=>False)
  (r:∀(H:Hp) (s:Shared) (e:Value) (s':Shared),CX [] H s (λ_ _ _=>False) e s'->False) :
  PySem.W.WalkO q i J D l.row.toRowW d [] (λf vs=>PySem.call f vs):=by
 refine Att.WA U t λw I m mg mb p o pm X L a vs ns G Y ho Z S y j g b c T=>?_
 have C:=P w _ Y;let⟨fd,R,M⟩:=F w mg p _ C G.T.g y;exact j3J C G.T.g G.T.b G.T.builtins G.T.nolimit T j g (vX b z) W M R (λH N O=>B _ H a ns b c N O) λH e s'=>r H m e s'
structure FunD(K:Frg)(x qual:Str)(st:Stmt)(T:Addr)(f:Addr)(fd:FuncData):Prop where
 ex:∃(oc:Value) (od:Option Addr) (kV doc pm:Value) (an:Option Addr) (cdv ct:Value) (osl:Array (Option Value)),
  fd=PySem.W.fnOf x qual (defArgs st) (defBody st) (defScope st) (.ref T) kV doc pm an cdv ct/\K.lookup f=some ⟨oc,od,.func fd,osl⟩/\PySem.W.codeIn K cdv qual=true
 kp:PySem.W.keepIn K (.ref f)=true
section
variable{P:Program}{w:World}{K:Frg}{mg:Str->Option Value}{base:Heap}
def FunD.ok{x b:Str}{st:Stmt}{T f:Addr}{j:FuncData}{N ps:N3}{k:Nat}{sp:Sp}(F:FunD K x b st T f j)(S:FnScope N ps (defScope st))(i:∀vs H Q E,sp vs H Q E->vs.length=ps.length)
  (d:∀(c:Value) (A:Around) (a:List Env) (s:Shared) (H:Hp) (vs:N6) (Q:VK) (E:XK),Room k (A.deeper (envOfC b (defScope st) s.heap.objs.size f c))->sp vs H Q E->
   ∃t,PSs (cxOf CX0 P w K mg base N b (defScope st) f c A a s H E).nox (defBody st) t/\t {nx:=λ_ H'=>Q .non H',rt:=Q} (start N vs) H):FnOk P w K mg base CX0 (k+1) f j ps sp:=by
 let⟨u,v,kV,l,y,p,c,r,o,rfl,n,e⟩:=F.ex;refine j67 n e S i λA a s H vs Q E m g=>?_
 let⟨t,h,q⟩:=d c A a s H vs Q E m g;exact⟨t,h.nox,q⟩
def FunD.binds{x a:Str}{st:Stmt}{T f:Addr}{i:FuncData}{ps:N3}{ds:N4}{o:Obj}{items:Array Value}{n:Nat}(m:Nat)(F:FunD K x a st T f i)(u:K.lookup T=some o)(t:o.data = .seq items n)(w:m+ds.length=ps.length)
  (h:∀(kV c g:Value) (d:Option Addr) (b e:Value) (us:N4),us.length=m->∃k,bindArgs (PySem.W.fnOf x a (defArgs st) (defBody st) (defScope st) (.ref T) kV c g d b e) ⟨us,[]⟩=seqItems? (.ref T) >>= k/\k (some items)=pure (ps.zip (us++ds))):Binds K i ps ds:=by
 let⟨z,A,kV,c,g,d,b,e,v,rfl,y,q⟩:=F.ex;intro s us j r;let⟨k,l,p⟩:=h kV c g d b e us (by rw[vm]at r;lia);exact BindsTo.of_defaults rfl (j _ _ u) t l p
def j1r{x a:Str}{st:Stmt}{T f:Addr}{j:Value}{m g:Option Addr}{e:Array (Option Value)}{kV d i b h:Value}(l:K.lookup f=some ⟨j,m,.func (PySem.W.fnOf x a (defArgs st) (defBody st) (defScope st) (.ref T) kV d i g b h),e⟩)
  (c:PySem.W.codeIn K b a=true) (k:PySem.W.keepIn K (.ref f)=true):FunD K x a st T f (PySem.W.fnOf x a (defArgs st) (defBody st) (defScope st) (.ref T) kV d i g b h):=⟨⟨j,m,kV,d,i,g,b,h,e,rfl,l,c⟩,k⟩
end
def SP.nx{R:St->Hp->Prop}(hR:∀Z' H',R Z' H'->D.nx Z' H')(h:SP X pins {D with nx:=R} f s):SP X pins D f s:=by
 cases f with
 | next=>let⟨Z',H',I,q⟩:=h;exact⟨Z',H',I,hR _ _ q⟩
 | brk=>exact h
 | cont=>exact h
 | ret u=>exact h
def tIfJ(c:TT)(t u:TS):TS:=λD σ H=>∃R:St->Hp->Prop,(∀Z' H',R Z' H'->D.nx Z' H')/\tIfS c t u {D with nx:=R} σ H
def xo{pos:Pos}(j:PT X c tc)(g:PSs X a t)(i:PSs X b u):PS X (.If c a b pos) (tIfJ tc t u):=by
 intro d s k H D I h;let⟨R,e,h⟩:=h;exact thn (jL j g i d s k H _ I h) λf l q=>q.nx e
open PySem
def j7:bootBuiltins "len"= some (.builtin "len"):=by decide +kernel
def j3p:bootBuiltins "max"= some (.builtin "max"):=by decide +kernel
def j6m:bootBuiltins "min"= some (.builtin "min"):=by decide +kernel
def j3r:bootBuiltins "sum"= some (.builtin "sum"):=by decide +kernel
def j09:bootBuiltins "all"= some (.builtin "all"):=by decide +kernel
def j6l:bootBuiltins "any"= some (.builtin "any"):=by decide +kernel
def j2i:bootBuiltins "sorted"= some (.builtin "sorted"):=by decide +kernel
def j3o:bootBuiltins "int"= some (.type "int"):=by decide +kernel
def Zd:bootBuiltins "str"= some (.type "str"):=by decide +kernel
def j1g:bootBuiltins "list"= some (.type "list"):=by decide +kernel
def xT:bootBuiltins "tuple"= some (.type "tuple"):=by decide +kernel
def j56:bootBuiltins "dict"= some (.type "dict"):=by decide +kernel
def j3q:bootBuiltins "set"= some (.type "set"):=by decide +kernel
def yG:bootBuiltins "enumerate"= some (.type "enumerate"):=by decide +kernel
def j0a:bootBuiltins "zip"= some (.type "zip"):=by decide +kernel
def Its(z:Str):It:=⟨λi _=>i<z.cps.size,λi H x H'=>H'=H/\∃c,z.cps[i]?=some c/\x = .str ⟨#[c]⟩,λi _=>i=z.cps.size⟩
def XX{P:Program}{w:World}{K:Frg}{O:Expr}{it:Addr}{x:Str}{t:Tok}{m:String}(Z:∀a v,letOwnedTupleGo O a v=pure ())
  (W:∀A:Around,A.handled=none->Walks P w A it [it] [it] x.cps.size (SignAt x) (λi h=>h.IsStrIter it m x t i))
  (sf:∀(A:Around) (i:Nat) (s:Shared) (Q:Value->Shared->Prop) (E:Value->Shared->Prop),s.heap.IsStrIter it m x t i->Q (.ref it) s->wpAny (model P w) A (pyIter (.ref it)) Q E s) :
  Turn P w K O (Its x) [it] it (λi h=>h.IsStrIter it m x t i) where
 mem:=by simp
 obj:=λi h f b j=>by
  have e:b=it:=by simpa using j
  subst e;let⟨o,e,c,d⟩:=f;exact⟨o,e,λv z=>by rw[d]at z;cases z⟩
 keep:=λi h C f k=>let ⟨o,ho,r⟩:=f;⟨o,k it (by simp) o ho,r⟩
 item:=by
  intro X F L D G i g s S H E I l f J;subst F L D;let⟨n,p,Y,q,y,B⟩:=l it (by simp);refine(W X.A (I.ok.hd G)).item i s _ _ J f λv C R hv N M=>?_
  let⟨c,u,U,rfl⟩:=hv;have T:Inv X g S H {s with heap:=C,toks:=R}:=I.turned (λb o j e=>M b o (by simpa using j) e) n p q y B;refine⟨_,rfl,?_⟩;rw[Z];exact ui ⟨.str ⟨#[c]⟩,H,T,⟨_,rfl⟩,⟨rfl,c,U,rfl⟩,N,λb j=>(l b j).1⟩
 done:=by
  intro X F L D G i g s S H E I l f J;subst F L D;let⟨n,p,Y,q,y,B⟩:=l it (by simp);have e:i=x.cps.size:=J;subst e;exact(W X.A (I.ok.hd G)).done s _ _ f λC R M=>⟨rfl,I.turned (λb o j e=>M b o (by simpa using j) e) n p q y B⟩
 self:=λA i s Q E f h=>sf A i s Q E f h
section
variable{X:Cx}{tg:Expr}
def iStr(tl:TE):TI:=λσ H R=>tl σ H λx H1=>∃z,x = .str z/\R (Its z) H1
def j6P{l:Expr}{p:TE}(u:PE X l p)(n:∀a v,letOwnedTupleGo tg a v=pure ():=by intro _ _;rfl):PI X tg l (iStr p):=by
 intro c s B H R I h;refine thn (u c s B H _ I h) λv d z_=>?_;obtain⟨x,g,f,y,w⟩:=z_
 let⟨z,e,q⟩:=w;subst e;let⟨t,rfl⟩:=y;have m:∀b∈[d.heap.objs.size],FpOk X c g b:=λb r=>by
  have e:b=d.heap.objs.size:=by simpa using r
  subst e;exact f.fpOk (vA _) (f.hok.fresh (vA _))
 cases ha:z.cps.all (· < 128)
 .refine wpAny_pyIter_wide ha ?_;exact⟨d.heap.objs.size,[d.heap.objs.size],_,_,g,rfl,f.kept (t':=d.toks) λb o e=>vL _ e,
   XX n (λA j=>Walks.strWide j _ z t) (λA i s Q E k h=>wpAny_pyIter_striter_wide k h),⟨_,Heap.get?_push_size _ rfl,rfl,rfl⟩,m,q⟩
 .refine wpAny_pyIter_ascii ha ?_;exact⟨d.heap.objs.size,[d.heap.objs.size],_,_,g,rfl,f.kept (t':=d.toks) λb o e=>vL _ e,
   XX n (λA j=>Walks.strAscii j _ z t) (λA i s Q E k h=>wpAny_pyIter_striter_ascii k h),⟨_,Heap.get?_push_size _ rfl,rfl,rfl⟩,m,q⟩
def j3u{z:Str}{k:Nat}{ci:N1}{g:TG}{q:TT}{o:TE}{r:St}{H:Hp}{Z:Addr->N6->Hp->Prop}(d:Nat->N6->Hp->Prop)(u:d 0 [] H)
  (A:∀i c ys H,z.cps[i]?=some c->d i ys H->g (.str ⟨#[c]⟩) (capS k ci r) H λa H2=>q a H2 λb h=>if b=true then o a h λv l=>ys.length<sizeLine/\d (i+1) (ys++[v]) l else d (i+1) ys h)
  (w:∀ys H,d z.cps.size ys H->ys.length<=sizeLine/\∀p,H p=none->Z p ys H) :
  ∃W:Nat->Nat->N6->Hp->Prop,(∃m,W 0 m [] H)/\∀i m ys H,W i m ys H->
   ((Its z).stop i H/\ys.length<=sizeLine/\∀p,H p=none->Z p ys H)\/
   ((Its z).go i H/\∃N:N6->Hp->Prop,(∀f H',N f H'->∃n,n<m/\W (i+1) n f H')/\∀x H',(Its z).yld i H x H'->g x (capS k ci r) H' λa H2=>q a H2 λb h=>
    if b=true then o a h λv l=>ys.length<sizeLine/\N (ys++[v]) l else N ys h):=by
 refine⟨λi m ys H=>m=z.cps.size-i/\i<=z.cps.size/\d i ys H,⟨z.cps.size,by simp,vB _,u⟩,?_⟩;rintro i m ys H ⟨rfl,C,p⟩;by_cases j:i<z.cps.size
 .refine .inr ⟨j,d (i+1),λf H' B=>⟨z.cps.size-(i+1),⋯,rfl,j,B⟩,λx H' y=>?_⟩;let⟨e,c,s,t⟩:=y;subst e t;exact A i c ys _ s p
 .have e:i=z.cps.size:=⋯
  subst e;exact .inl ⟨rfl,w ys H p⟩
def j15{ys:N3}:∀{us:N4},Vals (ys.map V.str) us->StrsAre us ys:=by
 induction ys with
 | nil=>intro us r;rw[map_nil]at r;cases r;exact .nil
 | cons n ns ih=>
  intro us r;rw[v9]at r;cases r with
  | cons r1 r2=>
   let⟨t,e⟩:=r1;subst e;exact .cons n t (ih r2)
def j1G:MtR X "str.join" (λx vs H Q=>∃(z:Str) (p:Addr) (ys:N3),x = .str z/\vs=[.ref p]/\SqL X.K H p (ys.map V.str)/\(ys.map (·.length)).sum+ys.length*z.length<=16777216/\Q (.str (Txt.join z ys)) H):=by
 intro a s n H x vs v m Q I j i h;let⟨z,p,ys,rfl,rfl,b,c,q⟩:=h;let⟨t,rfl⟩:=j;let⟨u,rfl,g⟩:=vals1 i;cases g;let⟨d,f,e,_⟩:=I.list b;exact join_list e.isList (by simpa using j15 f) c λl k=>⟨.str _,H,I.tok _,⟨_,rfl⟩,q⟩
def j6H:OpR X (compareOp .In) (λx y H Q=>∃(c:Nat) (z:Str),x = .str ⟨#[c]⟩/\y = .str z/\Q (.bl (decide (c∈z.cps.toList))) H):=by
 intro a s e H x y v u Q I b d h;let⟨c,z,rfl,rfl,q⟩:=h;refine j2S a s e H _ _ v u Q I b d ⟨_,_,rfl,rfl,?_⟩;rw[StrLaws.found_one];exact q
def wG:CallR X (.type "int") (λxs H Q=>∃(x:Str) (n:Int),xs=[.str x]/\PySem.intText? x=some n/\x.length<=640/\Q (.int n) H):=by
 intro a s d H xs c Q I r h;let⟨x,n,rfl,e,b,q⟩:=h;let⟨u,rfl,t,rfl⟩:=vals1 r;exact PySem.W.KIN.call_text e b ⟨.int n,H,I.tok _,⟨_,rfl⟩,q⟩
def Yt(E:X.calm=true):CallR X (.builtin "all") (λxs H Q=>∃(p:Addr) (a:List Bool),xs=[.ref p]/\SqL X.K H p (a.map V.bl)/\Q (.bl (a.all id)) H):=by
 intro B s U H xs T Q I r h;let⟨p,a,rfl,J,q⟩:=h;let⟨u,rfl,M⟩:=vals1 r;cases M;let⟨c,y,K,_⟩:=I.list J;have m:=K.isList;let⟨o,G,_⟩:=id m;have t:p≠s.heap.objs.size:=vG (vK G);have W:=Walks.list (prog:=X.prog) (w:=X.w) (A:=X.A.in1) (I.ok.hd E) s.heap.objs.size p t c.toArray;refine call_all_walk (wpAny_pyIter_list m ⟨s.heap.objs.size,_,_,_,_,_,λi=>a.getD i true,rfl,W,⟨⟨_,Heap.get?_push_size _ rfl,rfl,rfl⟩,m.at λo e=>vL _ e⟩,?_,?_⟩)
 .intro i v R O N D k;have f:c[i]?=some v:=by simpa using D
  have g:∃b,a[i]?=some b/\v = .bool b:=by
   have d:i<a.length:=by
    have:=(vx.mp f).1;have e:=y.length;rw[vt]at e;lia
   let⟨u,z,L⟩:=y.get (i:=i) (x:=.bl a[i]) (by rw[vv,vz d];rfl);rw[f]at z;cases z;exact⟨_,vz d,L⟩
  let⟨b,C,rfl⟩:=g;dsimp only at k;rw[vy,C]at k;exact wpAny_truthy_bool k
 .intro P S F;have e:(List.range c.toArray.size).all (λi=>a.getD i true)=a.all id:=by
   have n:c.toArray.size=a.length:=by
    have e:=y.length;rw[vt]at e;simp[e]
   rw[n,Bool.eq_iff_iff];simp only[all_eq_true,mem_range,id_eq];constructor
   .intro l b g;let⟨i,j,rfl⟩:=mem_iff_getElem.mp g;have:=l i j;rw[vy,vz j]at this;exact this
   .intro l i j;rw[vy,vz j];exact l _ (getElem_mem j)
  rw[e];refine⟨.bl _,H,I.kept λb o e=>F b o ?_ (vL _ e),rfl,q⟩;intro g;have:b=s.heap.objs.size:=by simpa using g
  exact uh (vK e) (this▸Nat.lt_irrefl _)
def rd_iStr{a:TE}{b:St}{H:Hp}{R:It->Hp->Prop}(h:a b H λx H1=>∃z,x = .str z/\R (Its z) H1):iStr a b H R:=h
def rd_str{R:Str->Prop}(h:R z):∃a,V.str z = .str a/\R a:=⟨z,rfl,h⟩
end
section
variable{X:Cx}{K:Frg}
def Q6(e:X.K=K):IxR X (rIxL K):=by subst e;exact jr
def yO(e:X.K=K):IxR X (rIxT K):=by subst e;exact jq
def j0J(e:X.K=K):OpR X (compareOp .In) (rIn K false):=by subst e;exact qD
end
mutual
inductive DV(H:Hp):V->PyData->Prop
 | non:DV H .non .none
 | bl (b:Bool):DV H (.bl b) (.bool b)
 | int (i:Int):DV H (.int i) (.int i)
 | str (x:Str):DV H (.str x) (.str x)
 | lst {a:Addr} {xs:N6} {ds:List PyData}:H a=some (.lst xs)->DVs H xs ds->DV H (.ref a) (.list ds)
 | tup {a:Addr} {xs:N6} {ds:List PyData}:H a=some (.tup xs)->DVs H xs ds->DV H (.ref a) (.tuple ds)
inductive DVs(H:Hp):N6->List PyData->Prop
 | nil:DVs H [] []
 | cons {x:V} {d:PyData} {xs:N6} {ds:List PyData}:DV H x d->DVs H xs ds->DVs H (x::xs) (d::ds)
end
section
variable{X:Cx}
mutual
theorem Zh{p:St}{H:Hp}(I:Inv X pins p H s):∀{v:V} {d:PyData} {u:Value},DV H v d->RelV v u->∃as,Reads s.heap u d as
 | _,_,_,.non,r=>⟨_,by cases r;exact Reads.none⟩
 | _,_,_,.bl b,r=>⟨_,by cases r;exact Reads.bool b⟩
 | _,_,_,.int i,r=>by let⟨t,rfl⟩:=r;exact⟨_,Reads.int i t⟩
 | _,_,_,.str x,r=>by let⟨t,rfl⟩:=r;exact⟨_,Reads.str x t⟩
 | _,_,_,.lst e q,r=>by
  cases r;let⟨_,a,c,g,k⟩:=I.hok _ _ e;let⟨as,f⟩:=YC I q g;exact⟨_,reads_list_at k rfl rfl (by simpa using f)⟩
 | _,_,_,.tup e q,r=>by
  cases r;let⟨a,g,m,_⟩:=I.tuple (SqT.of e);let⟨o,l,h,n,j⟩:=m;let⟨as,f⟩:=YC I q g;exact⟨_,reads_tuple_at l h j (by simpa using f)⟩
theorem YC{d:St}{H:Hp}(I:Inv X pins d H s):∀{vs:N6} {ds:List PyData} {us:N4},DVs H vs ds->Vals vs us->∃as,ReadsAll s.heap us ds as
 | _,_,_,.nil,r=>by cases r;exact⟨_,ReadsAll.nil⟩
 | _,_,_,.cons a q,r=>by
  cases r with
  | cons r1 r2=>
   let⟨as,b⟩:=Zh I a r1;let⟨e,c⟩:=YC I q r2;exact⟨_,ReadsAll.cons b c⟩
end
def j6G(f:X.A.units+64<cLine):OpR X (compareOp .Eq) (λx y H Q=>∃d e,DV H x d/\DV H y e/\SeqAt.shaped d=true/\SeqAt.shaped e=true/\Q (.bl (PyData.eqv d e)) H):=by
 intro a s p H x y v u Q I j k h;let⟨d,e,b,c,l,m,q⟩:=h;let⟨n,g⟩:=Zh I b j;let⟨o,i⟩:=Zh I c k;exact eq_dataH g i l m f ⟨.bl _,H,I,rfl,q⟩
def j4V{us:N4}:∀{ns:L9},IntsAre us ns->Vals (ns.map V.int) us:=by
 induction us with
 | nil=>intro ns r;cases r;exact .nil
 | cons u us ih=>
  intro ns r;cases r with
  | cons n t r=>exact .cons ⟨t,rfl⟩ (ih r)
def j2m(o:X.calm=true):CallR X (.builtin "max") (λxs H Q=>∃(p:Addr) (ns:L9),xs=[.ref p]/\SqL X.K H p (ns.map V.int)/\0<ns.length/\∀m∈ns,(∀a∈ns,a<=m)->Q (.int m) H):=by
 intro l s K H xs J Q I r h;let⟨p,ns,rfl,z,c,q⟩:=h;let⟨u,rfl,D⟩:=vals1 r;cases D;let⟨A,C,B,_⟩:=I.list z;have i:=intsAre_of C;have k:=B.isList;let⟨xs,e⟩:=i.allInts.items;have b:ns=xs.toList.map (·.1):=by rw[<-i.numsOf,<-nums_intItems,<-e]
 have d:0<xs.size:=by
  have f:=c;rw[b,vt,Array.length_toList]at f;exact f
 rw[e]at k;refine max_intList (I.ok.hd o) k d λv F E y x=>?_
 let⟨t,rfl⟩:=intItems_at y;let⟨G,n⟩:=argBest_gt (numAt xs) (xs.size-1);refine⟨.int _,H,I.kept (t':=E) x,⟨_,rfl⟩,q _ ?_ λa g=>?_⟩
 .rw[b,numAt_eq];exact getD_mem (by rw[vt,Array.length_toList];lia)
 .rw[b]at g;let⟨j,w,rfl⟩:=mem_getD g;rw[vt,Array.length_toList]at w;rw[<-numAt_eq];exact n j ⋯
end
section
variable{σ:St}{H:Hp}{Q:VK}
def rd_dget(h:td σ H λx H1=>ty σ H1 λy H2=>∃a v,x = .ref a/\DGet H2 a y (some v)/\Q v H2):tDGet td ty σ H Q:=h
end
def TabK(K:Frg)(a:Addr)(D:List (Str×PyProof.Rows.KTD.Dat)):Prop:=PyProof.Rows.KTD.tabLook (PyProof.Rows.KTD.datLooks λb=>K.lookup b) (λb=>K.lookup b) a D=true
section
variable{X:Cx}
def j4c:OpR X (compareOp .In) (λx y H Q=>∃a k D,x = .str k/\y = .ref a/\TabK X.K a D/\Q (.bl (PyProof.Rows.KTD.inKeys k D)) H):=by
 intro b s f H x y v u Q I c d h;let⟨a,k,D,rfl,rfl,T,q⟩:=h;let⟨t,rfl⟩:=c;cases d;exact PyProof.Rows.KTD.in_text (h₀:=s.heap) ⟨PySem.W.kt_text_in I.kIn T,λ_ _ e=>e⟩ ⟨.bl _,H,I.tok _,rfl,q⟩
def j2T:OpR X (compareOp .NotIn) (λx y H Q=>∃a k D,x = .str k/\y = .ref a/\TabK X.K a D/\Q (.bl (!PyProof.Rows.KTD.inKeys k D)) H):=by
 intro b s f H x y v u Q I c d h;let⟨a,k,D,rfl,rfl,T,q⟩:=h;let⟨t,rfl⟩:=c;cases d;exact PyProof.Rows.KTD.notin_text (h₀:=s.heap) ⟨PySem.W.kt_text_in I.kIn T,λ_ _ e=>e⟩ ⟨.bl _,H,I.tok _,rfl,q⟩
def qj:CallR X (.type "str") (λxs H Q=>(∃i,xs=[.int i]/\i.natAbs.log2<1920/\Q (.str (toString i)) H)\/∃x,xs=[.str x]/\Q (.str x) H):=by
 intro a s d H xs c Q I r h;rcases h with⟨i,rfl,b,q⟩ | ⟨x,rfl,q⟩
 .let⟨u,rfl,t,rfl⟩:=vals1 r;exact PySem.P.str_of_int b ⟨.str _,H,I.tok _,⟨_,rfl⟩,q⟩
 .let⟨u,rfl,t,rfl⟩:=vals1 r;exact PySem.P.str_of_str ⟨.str x,H,I,⟨_,rfl⟩,q⟩
end
def j3v{K:Frg}{a:Addr}{xs:N6}{k:Nat}{ci:N1}{g:TG}{r:TT}{o:TE}{s:St}{H:Hp}{Z:Addr->N6->Hp->Prop}(d:Nat->N6->Hp->Prop)(t:d 0 [] H)(z:∀i ys H,i<=xs.length->d i ys H->SqT K H a xs)
  (A:∀i x ys H,xs[i]?=some x->d i ys H->g x (capS k ci s) H λc H2=>r c H2 λb h=>if b=true then o c h λv l=>ys.length<sizeLine/\d (i+1) (ys++[v]) l else d (i+1) ys h)
  (u:∀ys H,d xs.length ys H->ys.length<=sizeLine/\∀p,H p=none->Z p ys H) :
  ∃W:Nat->Nat->N6->Hp->Prop,(∃m,W 0 m [] H)/\∀i m ys H,W i m ys H->
   ((Itt K a).stop i H/\ys.length<=sizeLine/\∀p,H p=none->Z p ys H)\/
   ((Itt K a).go i H/\∃N:N6->Hp->Prop,(∀f H',N f H'->∃n,n<m/\W (i+1) n f H')/\∀x H',(Itt K a).yld i H x H'->g x (capS k ci s) H' λc H2=>r c H2 λb h=>
    if b=true then o c h λv l=>ys.length<sizeLine/\N (ys++[v]) l else N ys h):=by
 refine⟨λi m ys H=>m=xs.length-i/\i<=xs.length/\d i ys H,⟨xs.length,by simp,vB _,t⟩,?_⟩;rintro i m ys H ⟨rfl,w,p⟩;have q:=z i ys H w p;by_cases j:i<xs.length
 .refine .inr ⟨⟨xs,xs[i],q,by simp[j]⟩,d (i+1),λf H' B=>⟨xs.length-(i+1),⋯,rfl,j,B⟩,λx H' y=>?_⟩;let⟨e,y⟩:=y;subst e;exact A i x ys _ (y xs q) p
 .have e:i=xs.length:=⋯
  subst e;exact .inl ⟨⟨xs,q,vA _⟩,u ys H p⟩
def rd_iTup{K:Frg}{b:TE}{c:St}{H:Hp}{R:It->Hp->Prop}(h:b c H λx H1=>∃a,x = .ref a/\(∃xs,SqT K H1 a xs)/\R (Itt K a) H1):iTup K b c H R:=h
def JK{K:Frg}{i j:Nat}{a:Addr}{x y:V}{b:St}{H:Hp}{R:St->Hp->Prop}(e:SqT K H a [x,y])(h:gName i x b H λZ' H'=>gName j y Z' H' R):gTup K 2 (gCons (gName i) (gCons (gName j) gNil)) (.ref a) b H R:=
 ⟨a,[x,y],rfl,e,rfl,x,[y],rfl,y,[],rfl,rfl,h⟩
def rd_sub{a:St}{H:Hp}{R:St->Hp->Prop}(h:to a H λo H1=>ti a H1 λi H2=>t o i v H2 λb=>R a b):gSub to ti t v a H R:=h
def rd_dnew{a:St}{H:Hp}(h:∀p,H p=none->Q (.ref p) (upd H p (.dK []))):tDNewK a H Q:=h
def rd_dput{b:St}{H:Hp}(h:tv b H λv H1=>td b H1 λx H2=>ty b H2 λy d=>∃a c,x = .ref a/\DPut d a y v c/\D.nx b c):sDPut td ty tv D b H:=h
def rd_bm0{K:Frg}{T:String}{r:V->N6->Hp->VK->Prop}{a:TE}{b:St}{H:Hp}{Q:VK}(h:a b H λx H1=>tyV K T x H1/\r x [] H1 Q):tBM0 K T r a b H Q:=h
section
variable{X:Cx}{pins:List (Addr×Obj)}{σ:St}{H:Hp}{s:Shared}{h':Heap}
def Inv.turnedL{t':Nat}{ch:N2}(I:Inv X pins σ H s)(f:∀b∈ch,FpOk X pins H b)(k:∀b o,b∉ch->s.heap.get? b=some o->h'.get? b=some o):Inv X pins σ H {s with heap:=h',toks:=t'}:=by
 have d:∀b u,H b=some u->b∉ch:=λb u e z=>by rw[(f b z).1]at e;cases e
 refine I.step (g':=s.gens) (d':=s.drawn) (ch:=ch) (λb t=>?_) (λb o _ _ a e _=>k b o a e) (λb o _ _ a e _=>⟨o.slots,k b o a e⟩) (λ_ _ _ _ n=>n)
  (λb o a e=>⟨o,k b o a e⟩) (λ_ _ e=>e) (λ_ _ _ e=>e) (λb y e=>⟨#[],by rw[e];simp⟩) (λm w=>?_) (λb u e=>?_) I.bare
 .let⟨_,i,_,j,l,p⟩:=f b t;exact⟨j,i,l,p⟩
 .let⟨o,h,g,x,r⟩:=w;exact⟨o,h,g,k _ o (λz=>(f _ z).2.1 rfl) x,r⟩
 .refine(I.hok b u e).stay (λc v a q=>k c v ?_ q) (λ_ q=>q) λ_ _ q=>q
  rcases a with z | z
  .rw[z];exact d b u e
  .exact d c _ z
def Inv.pair{t':Nat}{ch:N2}{x y:V}{u v:Value}(I:Inv X pins σ H s)(c:∀b∈ch,FpOk X pins H b)(h:∀b∈ch,b<s.heap.objs.size)(i:RelV x u)(j:RelV y v)
  (g:h'.get? s.heap.objs.size=some {cls:=.type "tuple",data:=.seq #[u,v]}) (k:∀b o,b∉ch->s.heap.get? b=some o->h'.get? b=some o) :
  Inv X pins σ (upd H s.heap.objs.size (.tup [x,y])) {s with heap:=h',toks:=t'}/\∀b∈ch,FpOk X pins (upd H s.heap.objs.size (.tup [x,y])) b:=by
 have f:∀b∈ch,FpOk X pins (upd H s.heap.objs.size (.tup [x,y])) b:=λb a=>⟨(je (vG (h b a))).trans (c b a).1,(c b a).2⟩
 have d:Inv X pins σ (upd H s.heap.objs.size (.tup [x,y])) {s with heap:=s.heap.push {cls:=.type "tuple",data:=.seq #[u,v]},toks:=t'}:=
  I.laid (t':=t') (λb o e=>vL _ e) (vA _) (show ObjOk X.prog X.w _ _ _ (.tup [x,y])from⟨(by show 2<=sizeLine;decide),[u,v],.cons i (.cons j .nil),IsTup.new _ _⟩)
 refine⟨d.turnedL (h':=h') (t':=t') f λb o a e=>?_,f⟩;rcases Heap.get?_push_cases e with⟨rfl,rfl⟩ | e
 .exact g
 .exact k b o a e
end
def Ite(K:Frg)(a:Addr):It:=
 ⟨λi H=>∃xs x,SqL K H a xs/\xs[i]?=some x,λi H x H'=>∃T v,x = .ref T/\H T=none/\H'=upd H T (.tup [.int i,v])/\∀xs,SqL K H a xs->xs[i]?=some v,λi H=>∃xs,SqL K H a xs/\xs.length<=i⟩
def j3b{P:Program}{w:World}{K:Frg}{n:List Expr}{k:Nat}{pos:Pos}(a e it:Addr)(t:e≠it) :
  Turn P w K (.Tuple n k pos) (Ite K a) [e,it] e (λi h=>(∃f,IsEnum h e it ((i:Nat):Int) f)/\h.IsListIter it a i) where
 mem:=by simp
 obj:=λi h j b g=>by
  rcases(by simpa using g:b=e\/b=it)with rfl | rfl
  .let⟨f,l⟩:=j.1;exact⟨_,l,λv z=>by cases z⟩
  .let⟨o,e,c,d⟩:=j.2;exact⟨o,e,λv z=>by rw[d]at z;cases z⟩
 keep:=λi h h' j k=>⟨let ⟨f,l⟩:=j.1;⟨f,k e (by simp) _ l⟩,j.2.at λo q=>k it (by simp) o q⟩
 item:=by
  intro X D L C R i A s σ H E I G j J;subst D L C;let⟨xs,x,B,M⟩:=J;let⟨N,O,p,hz⟩:=I.list B;let⟨u,hu,ru⟩:=O.get M;let⟨⟨f,l⟩,m⟩:=j;have le:e<s.heap.objs.size:=vK l;have li:it<s.heap.objs.size:=by let⟨o,q,_⟩:=id m;exact vK q
  refine wpAny_pyNext_enum_item l m p.isList (x:=u) (by simpa using hu) t λh' ho r Z a0 hk=>?_
  let⟨T,Q⟩:=I.pair (t':=s.toks+1) (ch:=[e,it]) (x:=.int i) (y:=x) G (λb g=>by rcases(by simpa using g:b=e\/b=it)with rfl | rfl<;>assumption) ⟨s.toks,rfl⟩ ru Z
   (λb o g q=>hk b o (λz=>g (by simp[z])) (λz=>g (by simp[z])) q)
  refine⟨_,rfl,wpAny_letOwnedTupleGo_enum ho λY F S=>?_⟩;have U:=T.turnedL (h':=Y) (t':=s.toks+1) (ch:=[e,it]) Q λb o g q=>(S.2 b λz=>g (by simp[z])).trans q
  exact⟨.ref s.heap.objs.size,_,U,rfl,⟨_,x,rfl,I.hok.fresh (vA _),rfl,λys hy=>by rw[I.list_inj hy B];exact M⟩,
   ⟨⟨u,by simpa using F⟩,r.at λo q=>(S.2 it t.symm).trans q⟩,λb g=>(Q b g).1⟩
 done:=by
  intro X D L C R i A s σ H E I G j J;subst D L C;let⟨xs,B,M⟩:=J;let⟨N,O,p,hz⟩:=I.list B;let⟨⟨f,l⟩,m⟩:=j;have hl:=O.length;exact wpAny_pyNext_enum_end (I.ok.hd R) l m p.isList (by simp;lia) λh' W=>⟨rfl,I.turnedL (t':=s.toks) (ch:=[e,it]) G λb o g q=>W b o (λz=>g (by simp[z])) q⟩
 self:=λ_ _ _ _ _ j h=>let ⟨_,l⟩:=j.1;wpAny_pyIter_enum l h
def iEnum(K:Frg)(ta:TA):TI:=λσ H R=>ta σ H λvs H1=>∃a xs,vs=[.ref a]/\SqL K H1 a xs/\R (Ite K a) H1
def xg{X:Cx}{a:Expr}{m:TA}{f:List Expr}{k:Nat}{p pos i:Pos}(t:Gl X "enumerate")(w:X.mg "enumerate"= none)(o:PA X [a] m)(y:starEach [a] X.env=[(false,eval a X.env)]:=by rfl) :
  PI X (.Tuple f k i) (.Call (.Name "enumerate" p) [a] [] pos) (iEnum X.K m):=by
 intro g s E H R I h;refine Call_ (qb I t w yG (PyProof.Rows.callWith_type1 (thn (o pos g s E H _ I h) λK e z_=>?_) y rfl));obtain⟨L,n,d,C,B⟩:=z_;let⟨b,M,rfl,x,q⟩:=B;let⟨u,rfl,D⟩:=vals1 C;cases D;let⟨A,J,p,G⟩:=d.list x;refine call_enumerate_list p.isList λF l j z v=>?_
 refine wpAny_pyIter_enum l ?_;refine⟨e.heap.objs.size+1,[e.heap.objs.size+1,e.heap.objs.size],_,_,n,rfl,d.kept (t':=e.toks) v,j3b b _ _ (Nat.succ_ne_self _),⟨⟨_,by simpa using l⟩,j⟩,λc r=>?_,q⟩;rcases(by simpa using r:c=e.heap.objs.size+1\/c=e.heap.objs.size)with rfl | rfl
 .exact d.fpOk (Nat.le_succ _) (d.hok.fresh (Nat.le_succ _))
 .exact d.fpOk (vA _) (d.hok.fresh (vA _))
def Kq{K:Frg}{a:Addr}{xs:N6}{g:TG}{l:TS}{D:Ends}{c:St}{H:Hp}(d:Nat->St->Hp->Prop)(n:d 0 c H)(u:∀i c H,i<=xs.length->d i c H->SqL K H a xs)
  (w:∀i v c H T H',xs[i]?=some v->d i c H->Same H H'->H' T=some (.tup [.int i,v])->g (.ref T) c H' λf H2=>l {D with nx:=d (i+1),ct:=d (i+1),bk:=D.nx} f H2) (s:∀c H,d xs.length c H->D.nx c H) :
  ∃W:Nat->Nat->St->Hp->Prop,(∃m,W 0 m c H)/\∀i m c H,W i m c H->
   ((Ite K a).stop i H/\D.nx c H)\/((Ite K a).go i H/\∃N:St->Hp->Prop,(∀Z' H',N Z' H'->∃k,k<m/\W (i+1) k Z' H')/\∀x H',(Ite K a).yld i H x H'->g x c H' λf H2=>l {D with nx:=N,ct:=N,bk:=D.nx} f H2):=by
 refine⟨λi m c H=>m=xs.length-i/\i<=xs.length/\d i c H,⟨xs.length,by simp,vB _,n⟩,?_⟩;rintro i m c H ⟨rfl,t,p⟩;have q:=u i c H t p;by_cases j:i<xs.length
 .refine .inr ⟨⟨xs,xs[i],q,by simp[j]⟩,d (i+1),λZ' H' z=>⟨xs.length-(i+1),⋯,rfl,j,z⟩,λx H' y=>?_⟩;let⟨T,v,rfl,r,e,y⟩:=y;exact w i v c H T H' (y xs q) p (λb o h=>by rw[e,je (jf h r)];exact h) (by rw[e];exact jm)
 .have e:i=xs.length:=⋯
  subst e;exact .inl ⟨⟨xs,q,vA _⟩,s c H p⟩
def rd_iEnum{K:Frg}{b:TA}{c:St}{H:Hp}{R:It->Hp->Prop}(h:b c H λvs H1=>∃a xs,vs=[.ref a]/\SqL K H1 a xs/\R (Ite K a) H1):iEnum K b c H R:=h
def Itz(K:Frg)(a b:Addr):It:=
 ⟨λi H=>∃xs x ys y,SqL K H a xs/\xs[i]?=some x/\SqL K H b ys/\ys[i]?=some y,
  λi H x H'=>∃T u v,x = .ref T/\H T=none/\H'=upd H T (.tup [u,v])/\(∀xs,SqL K H a xs->xs[i]?=some u)/\∀ys,SqL K H b ys->ys[i]?=some v,
  λi H=>∃xs ys,SqL K H a xs/\SqL K H b ys/\(xs.length<=i\/ys.length<=i)⟩
def JW{h:Heap}{a b:Addr}{o u:Obj}(d:h.get? a=some o)(c:h.get? b=some u)(f:o.cls≠u.cls):a≠b:=λe=>by
 subst e;rw[d]at c;cases c;exact f rfl
def j4P{P:Program}{w:World}{K:Frg}{T:List Expr}{k:Nat}{pos:Pos}(t A z TI TO l m:Addr)
  (D:∀t A,t≠z->t≠TO->t≠l->t≠m->A≠z->A≠TO->A≠l->A≠m->ZipApart z TI TO l m t A) :
  Turn P w K (.Tuple T k pos) (Itz K t A) [z,TI,TO,l,m] z (λi h=>IsZip h z TI TO .none/\IsPair h TI (.ref l) (.ref m)/\(∃a b,IsPair h TO a b)/\h.IsListIter l t i/\h.IsListIter m A i) where
 mem:=by simp
 obj:=λi h M b j=>by
  let⟨n,g,⟨a,c,f⟩,J,L⟩:=M;rcases(by simpa using j:b=z\/b=TI\/b=TO\/b=l\/b=m)with rfl | rfl | rfl | rfl | rfl
  .exact⟨_,n,λv z=>by cases z⟩
  .exact⟨_,g,λv z=>by cases z⟩
  .exact⟨_,f,λv z=>by cases z⟩
  .let⟨o,e,c,d⟩:=J;exact⟨o,e,λv z=>by rw[d]at z;cases z⟩
  .let⟨o,e,c,d⟩:=L;exact⟨o,e,λv z=>by rw[d]at z;cases z⟩
 keep:=λi h h' M k=>by
  let⟨n,g,⟨a,c,f⟩,J,L⟩:=M;exact⟨k z (by simp) _ n,k TI (by simp) _ g,⟨a,c,k TO (by simp) _ f⟩,J.at λo q=>k l (by simp) o q,L.at λo q=>k m (by simp) o q⟩
 item:=by
  intro X hP hw hK hc i W s σ H E I hf M hg;subst hP hw hK;let⟨xs,x,ys,y,hq,hx,hr,hy⟩:=hg;let⟨a8,rv,p,_⟩:=I.list hq;let⟨a9,N,U,_⟩:=I.list hr;let⟨u,hu,ru⟩:=rv.get hx;let⟨v,hv,aa⟩:=N.get hy;let⟨n,g,⟨a,c,f⟩,J,L⟩:=M;let⟨o1,n1,F,B,_⟩:=id p;let⟨o2,n2,G,C,_⟩:=id U;let⟨o3,O,R,_⟩:=id J;let⟨o4,Q,S,_⟩:=id L;have r:=D t A (JW F n (by rw[B];show Value.type "list"≠Value.type "zip";decide)) (JW F f (by rw[B];show Value.type "list"≠Value.type "tuple";decide)) (JW F O (by rw[B,R];decide)) (JW F Q (by rw[B,S];decide))
   (JW G n (by rw[C];show Value.type "list"≠Value.type "zip";decide)) (JW G f (by rw[C];show Value.type "list"≠Value.type "tuple";decide)) (JW G O (by rw[C,R];decide)) (JW G Q (by rw[C,S];decide))
  have lt:∀b∈[z,TI,TO,l,m],b<s.heap.objs.size:=λb j=>by
   rcases(by simpa using j:b=z\/b=TI\/b=TO\/b=l\/b=m)with rfl | rfl | rfl | rfl | rfl
   .exact vK n
   .exact vK g
   .exact vK f
   .exact vK O
   .exact vK Q
  refine wpAny_pyNext_zip_item r n g f J L p.isList U.isList (x:=u) (y:=v) (by simpa using hu) (by simpa using hv) λh' a1 a2 a3 a4 a5 a6 Z=>?_
  let⟨I1,f1⟩:=I.pair (t':=s.toks) (ch:=[z,TI,TO,l,m]) (x:=x) (y:=y) hf lt ru aa a5
   (λb o j q=>Z b o (λe=>j (by simp[e])) (λe=>j (by simp[e])) (λe=>j (by simp[e])) (λe=>j (by simp[e])) q)
  refine⟨_,rfl,wpAny_letOwnedTupleGo_zip a1 λh3 a7 Y=>?_⟩;have I2:=I1.turnedL (h':=h3) (t':=s.toks) (ch:=[z,TI,TO,l,m]) f1 λb o j q=>(Y.2 b λe=>j (by simp[e])).trans q
  exact⟨.ref s.heap.objs.size,_,I2,rfl,⟨_,x,y,rfl,I.hok.fresh (vA _),rfl,(λys hy=>by rw[I.list_inj hy hq];exact hx),λys a0=>by rw[I.list_inj a0 hr];exact hy⟩,
   ⟨a7,(Y.2 TI r.TIz).trans (Z TI _ r.TIz r.TITO r.TIi1 r.TIi2 g),⟨_,_,(Y.2 TO r.TOz).trans a2⟩,a3.at λo q=>(Y.2 l r.i1z).trans q,a4.at λo q=>(Y.2 m r.i2z).trans q⟩,λb j=>(f1 b j).1⟩
 done:=by
  intro X hP hw hK hc i W s σ H E I hf M hg;subst hP hw hK;let⟨xs,ys,hq,hr,hl⟩:=hg;let⟨a8,rv,p,_⟩:=I.list hq;let⟨a9,N,U,_⟩:=I.list hr;let⟨n,g,⟨a,c,f⟩,J,L⟩:=M;let⟨o1,n1,F,B,_⟩:=id p;let⟨o2,n2,G,C,_⟩:=id U;let⟨o3,O,R,_⟩:=id J;let⟨o4,Q,S,_⟩:=id L;have r:=D t A (JW F n (by rw[B];show Value.type "list"≠Value.type "zip";decide)) (JW F f (by rw[B];show Value.type "list"≠Value.type "tuple";decide)) (JW F O (by rw[B,R];decide)) (JW F Q (by rw[B,S];decide))
   (JW G n (by rw[C];show Value.type "list"≠Value.type "zip";decide)) (JW G f (by rw[C];show Value.type "list"≠Value.type "tuple";decide)) (JW G O (by rw[C,R];decide)) (JW G Q (by rw[C,S];decide))
  have ab:=rv.length;have ac:=N.length;refine wpAny_pyNext_zip_end (I.ok.hd hc) r n g f J L p.isList U.isList ?_ λh' Z=>⟨rfl,I.turnedL (t':=s.toks) (ch:=[z,TI,TO,l,m]) hf λb o j q=>Z b o (λe=>j (by simp[e])) (λe=>j (by simp[e])) (λe=>j (by simp[e])) (λe=>j (by simp[e])) q⟩
  rcases hl with q | q
  .exact .inl (by simp;lia)
  .exact .inr (by simp;lia)
 self:=λ_ _ _ _ _ M h=>wpAny_pyIter_zip M.1 h
def jN{n i j:Nat}(h:i≠j):n+i≠n+j:=λe=>h (Nat.add_left_cancel e)
def iZip(K:Frg)(ta:TA):TI:=λσ H R=>ta σ H λvs H1=>∃a b xs ys,vs=[.ref a,.ref b]/\SqL K H1 a xs/\SqL K H1 b ys/\R (Itz K a b) H1
def xi{X:Cx}{a b:Expr}{v:TA}{f:List Expr}{k:Nat}{p pos n:Pos}(M:Gl X "zip")(O:X.mg "zip"= none)(K:PA X [a,b] v)(S:starEach [a,b] X.env=[(false,eval a X.env),(false,eval b X.env)]:=by rfl)(l:starEach [b] X.env=[(false,eval b X.env)]:=by rfl) :
  PI X (.Tuple f k n) (.Call (.Name "zip" p) [a,b] [] pos) (iZip X.K v):=by
 intro m s σ H R I h;refine Call_ (qb I M O j0a (PyProof.Rows.callWith_type1 (thn (K pos m s σ H _ I h) λus d ⟨vs,w,e,r1,Z⟩=>?_) (by rw[S,l]) (by rw[l];rfl)));let⟨t,u,xs,ys,rfl,P,Q,q⟩:=Z;cases r1 with
 | cons r rr=>
  cases rr with
  | cons r' rr=>
   cases rr;cases r;cases r';let⟨U,rv,p,hz⟩:=e.list P;let⟨W,a0,Y,T⟩:=e.list Q;refine call_zip_2 p.isList Y.isList λh' o x y z A a6 N=>?_
   refine wpAny_pyIter_zip o ?_;refine⟨d.heap.objs.size+4,[d.heap.objs.size+4,d.heap.objs.size+2,d.heap.objs.size+3,d.heap.objs.size,d.heap.objs.size+1],_,_,w,rfl,e.kept (t':=d.toks) N,
    j4P t u _ _ _ _ _ (λt u B C D E F G b7 J=>⟨jN nofun,jN nofun,jN (i:=0) nofun,jN nofun,jN nofun,jN (j:=0) nofun,jN nofun,jN (j:=0) nofun,jN nofun,jN (i:=0) nofun,B,C,D,E,F,G,b7,J⟩),⟨o,x,⟨_,_,y⟩,z,A⟩,λc L=>?_,q⟩
   have g:d.heap.objs.size<=c:=by
    rcases(by simpa using L:c=d.heap.objs.size+4\/c=d.heap.objs.size+2\/c=d.heap.objs.size+3\/c=d.heap.objs.size\/c=d.heap.objs.size+1)with rfl | rfl | rfl | rfl | rfl<;>lia
   exact e.fpOk g (e.hok.fresh g)
def j1q{K:Frg}{a b:Addr}{xs ys:N6}{g:TG}{r:TS}{D:Ends}{c:St}{H:Hp}(d:Nat->St->Hp->Prop)(l:xs.length=ys.length)(s:d 0 c H)(A:∀i c H,i<=xs.length->d i c H->SqL K H a xs/\SqL K H b ys)
  (B:∀i u v c H T H',xs[i]?=some u->ys[i]?=some v->d i c H->Same H H'->H' T=some (.tup [u,v])->g (.ref T) c H' λf H2=>r {D with nx:=d (i+1),ct:=d (i+1),bk:=D.nx} f H2) (w:∀c H,d xs.length c H->D.nx c H) :
  ∃W:Nat->Nat->St->Hp->Prop,(∃m,W 0 m c H)/\∀i m c H,W i m c H->
   ((Itz K a b).stop i H/\D.nx c H)\/((Itz K a b).go i H/\∃N:St->Hp->Prop,(∀Z' H',N Z' H'->∃n,n<m/\W (i+1) n Z' H')/\∀x H',(Itz K a b).yld i H x H'->g x c H' λf H2=>r {D with nx:=N,ct:=N,bk:=D.nx} f H2):=by
 refine⟨λi m c H=>m=xs.length-i/\i<=xs.length/\d i c H,⟨xs.length,by simp,vB _,s⟩,?_⟩;rintro i m c H ⟨rfl,z,p⟩;let⟨q,k⟩:=A i c H z p;by_cases j:i<xs.length
 .refine .inr ⟨⟨xs,xs[i],ys,ys[i],q,by simp[j],k,by simp⟩,d (i+1),λZ' H' C=>⟨xs.length-(i+1),⋯,rfl,j,C⟩,λx H' y=>?_⟩;let⟨T,u,v,rfl,t,e,y,E⟩:=y;exact B i u v c H T H' (y xs q) (E ys k) p (λb o h=>by rw[e,je (jf h t)];exact h) (by rw[e];exact jm)
 .have e:i=xs.length:=⋯
  subst e;exact .inl ⟨⟨xs,ys,q,k,.inl (vA _)⟩,w c H p⟩
def rd_iZip{K:Frg}{c:TA}{d:St}{H:Hp}{R:It->Hp->Prop}(h:c d H λvs H1=>∃a b xs ys,vs=[.ref a,.ref b]/\SqL K H1 a xs/\SqL K H1 b ys/\R (Itz K a b) H1):iZip K c d H R:=h
def wM:entryFor table "dict.update.loop"= some Builtin.«dict.update.loop»:=entryFor_of_tree (by kernel_rfl)
def ZO:plainId "dict.update.loop"= true:=by decide +kernel
def j2J:typeLookup (.type "list") "keys"= pure none:=by rw[typeLookup_type,builtinLookup_eq_fast];kernel_rfl
section
variable{prog:Program}{w:World}{A:Around}{E:Value->Shared->Prop}{s:Shared}
def noKeys{Q:Option Value->Shared->Prop}(p:s.heap.get? a=some o)(m:o.cls = .type "list")(f:o.data = .seq xs k)(n:o.dict=none)(t:A.handled=none)
  (h:∀h' tk,(∀b o,s.heap.get? b=some o->h'.get? b=some o)->Q none {s with heap:=h',toks:=tk}):wpAny (model prog w) A (getAttr? (.ref a) "keys") Q E s:=by
 let⟨c,r,q,x⟩:=o;simp only at m f n;subst m f n;let⟨u,g,d,tk,v⟩:=s;have l:∀j,(⟨u,g,d,j,v⟩:Shared).TypeIs (.ref a) "list":=λ_=>⟨_,p,rfl⟩
 have y:=sub_AttributeError;have z:=F.slot_list_getattribute.lookup;have B:=F.slot_list_getattribute.bind (.ref a);have C:=am_list_getattr_none;unfold getAttr? getAttrBy? getAttrBy
 repeat (any_goals (first | assumption | exact l _ | ((with_reducible show wpAny _ _ (call (Value.builtin "list.__getattribute__") _ _) _ _ _);refine call_meets F.slot_list_getattribute (l _) am_entry_list_getattribute (F.args_list_getattribute_2 _ _) (meets_getattribute_miss_list a xs k x "keys" _ j2J (by decide +kernel) (by decide +kernel)) ⟨p,t,λh' j e i=>?_⟩) | wp_step))
 let⟨G,H,D⟩:=i.there;show wpAny _ _ (getattributeRaised _ _ _ _ _ _ _) _ _ _;unfold getattributeRaised
 repeat (any_goals (first | assumption | wp_step))
 exact h _ _ i.keeps
variable{K:Type}[DecidableEq K]{knd:KeyKind prog w K}
noncomputable def foldS(acc:List (K×Value))(ps:List (K×Value)):List (K×Value):=ps.foldl (λacc kv=>stored acc kv.1 kv.2) acc
def j14(a:List (K×Value))(k:K)(v:Value):(stored a k v).length<=a.length+1:=by
 unfold stored;split
 .rw[vt];exact Nat.le_succ _
 .rw[vm];exact vA _
theorem dul{R:Result->Shared->Prop}{d it l:Addr}{items:N4}{res:Value}(N:A.handled=none)(h:d≠it)(q:d≠l)(r:it≠l) :
  ∀(ps:List (K×Value)) (i:Nat) (c:List (K×Value)) (s:Shared),s.heap.IsListIter it l i->s.heap.IsList l items.toArray->(items.length=i+ps.length)->
   (∀j kv,ps[j]?=some kv->∃a key,items[i+j]?=some (.ref a)/\IsTup s.heap a #[key,kv.2]/\knd.is kv.1 key=true/\a≠d/\a≠it)->s.heap.DictOf knd d c->c.length+ps.length<=sizeLine->
   (∀h' tk,(∀b o,b≠d->b≠it->s.heap.get? b=some o->h'.get? b=some o)->h'.DictOf knd d (foldS c ps)->R (.ok (.ret res)) {s with heap:=h',toks:=tk})->
   codeAny (model prog w) A (.builtin "dict.update.loop" ⟨[.ref d,.ref it,rawInt i,res],[]⟩) R s
 | [],i,c,s,hit,hl,hn,hp,hd,hz,hR=>by
  refine codeAny_builtin wM ?_;rw[Around.under_plainId ZO _];show wpAny _ A.in1 (pyNext (.ref it) >>= _) _ _ s;refine uj (wpAny_pyNext_list_end (A:=A.in1) N hit hl (by simp;simp at hn;lia) λh' M=>?_);show wpAny _ A.in1 (Builtin.Dict.addKeywords d [] >>= _) _ _ _;refine uj (ui (ui (hR h' s.toks (λb o _ C e=>M b o C e) ?_)));exact hd.extBut M h
 | kv::ps,i,c,s,hit,hl,hn,hp,hd,hz,hR=>by
  let⟨a,key,W,ht,Z,X,B⟩:=hp 0 kv rfl;refine codeAny_builtin wM ?_;rw[Around.under_plainId ZO _];show wpAny _ A.in1 (pyNext (.ref it) >>= _) _ _ s;refine uj (wpAny_pyNext_list_item (A:=A.in1) hit hl (x:=.ref a) (by simpa using W) λy t L=>?_);let⟨ot,Q,oc,n,od⟩:=ht;have p:y.get? a=some ot:=(L.2 a B).trans Q;show wpAny _ A.in1 (holding [Value.ref a] _ >>= _) _ _ _;refine uj (wpAny_holding ?_);refine uj (wpAny_tryCatch ?_);unfold Builtin.Dict.pairItems;refine uj (wpAny_typeOf (T:="tuple") ⟨_,p,oc⟩ ?_);show wpAny _ A.in1 (if((Value.type "tuple"== Value.type "list")||(Value.type "tuple"== Value.type "tuple"))=true then _ else _) _ _ _;rw[vc nofun];refine uj (wpAny_seqItems p od ?_);refine ui ?_;show wpAny _ A.in1 (holding [key,kv.2] (dictSet d key kv.2)) _ _ _;have D:y.DictOf knd d c:=hd.extBut (λb o C e=>(L.2 b C).trans e) h;refine wpAny_holding (wpAny_dictSet_pairs (s:={s with heap:=y}) Z D (λS E v=>?_) (by simp at hz;lia));show wpAny _ A.in1 (again _) _ _ _;refine ui ⟨plainId_quiet ZO _,?_⟩;have I:∀b o,b≠d->b≠it->s.heap.get? b=some o->S.get? b=some o:=λb o f g e=>(v.2 b f).trans ((L.2 b g).trans e)
  have sl:=j14 c kv.1 kv.2;refine dul N h q r ps (i+1) (stored c kv.1 kv.2) _ (t.at λo e=>(v.2 it h.symm).trans e) (hl.at λo e=>I l o q.symm r.symm e) (by simp at hn;lia) (λj J Y=>?_) E (by simp at hz;lia) λU tk k3 F=>?_
  .let⟨O,u,z,H,G,k,m⟩:=hp (j+1) J (by simpa using Y);let⟨o',P,r'⟩:=H;exact⟨O,u,by rw[<-z];congr 1;lia,⟨o',I _ _ k m P,r'⟩,G,k,m⟩
  .exact hR U tk (λb o f g e=>k3 b o f g (I b o f g e)) F
end
open PySem PySem.W PyProof.Rows
section
variable{n:Nat}{key:Nat->Int}{p:Array Nat}
noncomputable def Tw(n:Nat)(key:Nat->Int){α:Type}:KasT α->(α->Prop)->Prop
 | .ret a,Q=>Q a
 | .ask i j k,Q=>i<n/\j<n/\Tw n key (k (decide (key i<key j))) Q
theorem Tw.bind{b c:Type}{f:b->KasT c}{Q:c->Prop}:∀{t:KasT b},Tw n key t (λa=>Tw n key (f a) Q)->Tw n key (t.bind f) Q
 | .ret _,h=>h
 | .ask _ _ _,h=>⟨h.1,h.2.1,Tw.bind h.2.2⟩
theorem Tw.mono{d:Type}{Q b:d->Prop}(c:∀a,Q a->b a):∀{t:KasT d},Tw n key t Q->Tw n key t b
 | .ret _,h=>c _ h
 | .ask _ _ _,h=>⟨h.1,h.2.1,Tw.mono c h.2.2⟩
theorem Tw.run{d:Type}{b:Nat->Nat->(Bool->Shared->Prop)->Shared->Prop}{Q:d->Shared->Prop}(c:∀i j C,i<n->j<n->C (decide (key i<key j)) s->b i j C s) :
  ∀{t:KasT d},Tw n key t (λa=>Q a s)->t.kasWp b Q s
 | .ret _,h=>h
 | .ask i j k,h=>c i j _ h.1 h.2.1 (Tw.run c h.2.2)
def Tw.asks{a:Type}{k:Bool->KasT a}{Q:a->Prop}(hi:i<n)(e:j<n)(b:key i<key j->Tw n key (k true) Q)(d:¬key i<key j->Tw n key (k false) Q):Tw n key (.ask i j k) Q:=by
 refine⟨hi,e,?_⟩;by_cases c:key i<key j
 .rw[vI c];exact b c
 .rw[vJ c];exact d c
def Pk(n:Nat)(p:Array Nat):Prop:=p.toList.Perm (List.range n)
noncomputable def kv(key:Nat->Int)(p:Array Nat)(i:Nat):Int:=key (p.getD i 0)
def Up(key:Nat->Int)(p:Array Nat)(k:Nat):Prop:=∀i j,i<=j->j<k->kv key p i<=kv key p j
def Dn(key:Nat->Int)(p:Array Nat)(k:Nat):Prop:=∀i j,i<=j->j<k->kv key p j<=kv key p i
def Eqs(key:Nat->Int)(p:Array Nat)(m q:Nat):Prop:=∀k,m-(q+1)<=k->k<m->kv key p k=kv key p (m-1)
def Pk.size(h:Pk n p):p.size=n:=by have:=h.length_eq;simpa using this
def Pk.lt(h:Pk n p)(a:0<n)(i:Nat):p.getD i 0<n:=by
 rw[Array.getD_eq_getD_getElem?];cases e:p[i]? with
 | none=>exact a
 | some x=>exact mem_range.mp (h.mem_iff.mp (Array.mem_toList_iff.mpr (Array.mem_of_getElem? e)))
def Pk.of(h:Pk n p)(a:q.Perm p):Pk n q:=(Array.perm_iff_toList_perm.mp a).trans h
def Xj(h:a[i]?=b[j]?):kv key a i=kv key b j:=by
 unfold kv;rw[Array.getD_eq_getD_getElem?,Array.getD_eq_getD_getElem?,h]
def j0r(a:j<=p.size)(k:Nat):kv key (kas_rev p i j) k=if i<=k/\k<j then kv key p (i+j-1-k)else kv key p k:=by
 have h:=getElem?_mirror_all (xs:=p) (i:=i) a k;split
 .rename_i c;rw[vc c]at h;exact Xj h
 .rename_i c;rw[va c]at h;exact Xj h
def j6A(b:src<p.size)(a:d<=src)(k:Nat):kv key (bubble p src d) k=if k=src-d then kv key p src else if src-d<k/\k<=src then kv key p (k-1)else kv key p k:=by
 have h:=getElem?_bubble (xs:=p) b d a k;split
 .rename_i c;rw[vc c]at h;exact Xj h
 .rename_i c;rw[va c]at h;split
  .rename_i c';rw[vc c']at h;exact Xj h
  .rename_i c';rw[va c']at h;exact Xj h
def Up.snoc(h:Up key p m)(d:1<=m)(f:¬kv key p m<kv key p (m-1)):Up key p (m+1):=λi j a g=>by
 by_cases e:j<m
 .exact h i j a e
 .have c:j=m:=⋯
  subst c;by_cases b:i=j
  .rw[b];exact vC _
  .have:=h i (j-1) ⋯ ⋯;lia
def Dn.snoc(h:Dn key p m)(d:1<=m)(f:kv key p m<=kv key p (m-1)):Dn key p (m+1):=λi j a g=>by
 by_cases e:j<m
 .exact h i j a e
 .have c:j=m:=⋯
  subst c;by_cases b:i=j
  .rw[b];exact vC _
  .have:=h i (j-1) ⋯ ⋯;lia
theorem j4K(a:Pk n p):∀f m,1<=m->m+f<=n->Up key p m->Tw n key (kas_asc p f m) λr=>m<=r/\r<=m+f/\Up key p r/\(r<m+f->kv key p r<kv key p (r-1))
 | 0,m,h1,hn,hu=>⟨vA _,vA _,hu,λh=>uh h (Nat.lt_irrefl _)⟩
 | f+1,m,h1,hn,hu=>by
  refine Tw.asks (a.lt ⋯ _) (a.lt ⋯ _) (λc=>?_) (λc=>?_)<;>simp only[Bool.false_eq_true,if_true,if_false]
  .exact⟨vA _,⋯,hu,λ_=>c⟩
  .exact Tw.mono (λr h=>⟨⋯,⋯,h.2.2.1,λb=>h.2.2.2 ⋯⟩) (j4K a f (m+1) ⋯ ⋯ (hu.snoc h1 c))
def j1A(b:m<=p.size)(a:Eqs key p m q)(k:Nat):kv key (kas_rev p (m-(q+1)) m) k=kv key p k:=by
 rw[j0r b];split
 .rename_i c;rw[a k c.1 c.2,a _ ⋯ ⋯]
 .rfl
theorem xB:∀f (p:Array Nat) m q,Pk n p->1<=m->m+f<=n->q+1<=m->Dn key p m->Eqs key p m q->
  Tw n key (kas_desc f p m q) λr=>Pk n r.1/\m<=r.2.1/\r.2.1<=m+f/\Dn key r.1 r.2.1/\r.2.2+1<=r.2.1/\Eqs key r.1 r.2.1 r.2.2
 | 0,p,m,q,hp,h1,hn,hq,hd,he=>⟨hp,vA _,vA _,hd,hq,he⟩
 | f+1,p,m,q,hp,h1,hn,hq,hd,he=>by
  have t:=hp.size;refine Tw.asks (hp.lt ⋯ _) (hp.lt ⋯ _) (λc=>?_) (λc=>?_)<;>simp only[Bool.false_eq_true,if_true,if_false]
  .have c:kv key p m<kv key p (m-1):=c;split
   .have g:=j1A (key:=key) (p:=p) (m:=m) (q:=q) ⋯ he;have d:Pk n (kas_rev p (m-(q+1)) m):=hp.of (mirror_perm _ _ _ _);refine Tw.mono (λr h=>⟨h.1,⋯,⋯,h.2.2.2⟩) (xB f _ (m+1) 0 d ⋯ ⋯ ⋯ (λi j b s=>?_) λk l o=>?_)
    .rw[g,g];exact hd.snoc h1 ⋯ i j b s
    .rw[show k=m+1-1 by lia]
   .refine Tw.mono (λr h=>⟨h.1,⋯,⋯,h.2.2.2⟩) (xB f p (m+1) 0 hp ⋯ ⋯ ⋯ (hd.snoc h1 ⋯) λk l o=>?_);rw[show k=m+1-1 by lia]
  .have c:¬kv key p m<kv key p (m-1):=c;refine Tw.asks (hp.lt ⋯ _) (hp.lt ⋯ _) (λa=>?_) (λa=>?_)<;>simp only[Bool.false_eq_true,if_true,if_false]
   .exact⟨hp,vA _,Nat.le_add_right m (f+1),hd,hq,he⟩
   .have a:¬kv key p (m-1)<kv key p m:=a;refine Tw.mono (λr h=>⟨h.1,⋯,⋯,h.2.2.2⟩) (xB f p (m+1) (q+1) hp ⋯ ⋯ ⋯ (hd.snoc h1 ⋯) λk l o=>?_);rw[Nat.add_sub_cancel];by_cases e:k=m
    .rw[e]
    .rw[he k ⋯ ⋯];lia
def j4M(c:Pk n p)(d:1<=m)(k:m<=n)(e:Dn key p m):Tw n key (kas_tail3 m n p) λr=>Pk n r.2/\1<=r.1/\r.1<=n/\Up key r.2 r.1:=by
 have l:=c.size;have a:Pk n (kas_rev p 0 m):=c.of (mirror_perm _ _ _ _);have b:=j0r (key:=key) (p:=p) (i:=0) (j:=m) ⋯;refine Tw.bind (Tw.mono (λr h=>?_) (j4K a (n-m) m d ⋯ λi j f g=>?_))
 .exact⟨a,⋯,⋯,h.2.2.1⟩
 .rw[b,b,vc ⟨vB _,⋯⟩,vc ⟨vB _,g⟩];exact e _ _ ⋯ ⋯
def j4L(t:Pk n p)(u:m+1<=n)(o:Dn key p (m+1)):Tw n key (kas_descPart m n p) λr=>Pk n r.2/\1<=r.1/\r.1<=n/\Up key r.2 r.1:=by
 refine Tw.bind (Tw.mono (λr h=>?_) (xB (n-(m+1)) p (m+1) 0 t ⋯ ⋯ ⋯ o λk v w=>by rw[show k=m+1-1 by lia]));let⟨a,b,c,d,e,g⟩:=h;have x:=a.size;split
 .have l:=j1A (key:=key) (p:=r.1) (m:=r.2.1) (q:=r.2.2) ⋯ g;exact j4M (a.of (mirror_perm _ _ _ _)) ⋯ ⋯ λi j f s=>by rw[l,l];exact d i j f s
 .exact j4M a ⋯ ⋯ d
def j5W(g:Pk n p)(t:1<=n):Tw n key (kas_count n p) λr=>Pk n r.2/\1<=r.1/\r.1<=n/\Up key r.2 r.1:=by
 have y:=g.size;refine Tw.bind (Tw.mono (λr h=>?_) (j4K (key:=key) g (n-1) 1 ⋯ ⋯ λi j l m=>by rw[show i=j by lia];exact vC _));let⟨a,b,c,d⟩:=h;split
 .exact⟨g,a,⋯,c⟩
 rename_i hne;have w:r<n:=by
  have:r≠n:=λe=>hne (by rw[e];simp)
  lia
 have d:=d ⋯;split
 .refine Tw.asks (g.lt ⋯ _) (g.lt ⋯ _) (λq=>?_) (λq=>?_)<;>simp only[Bool.false_eq_true,if_true,if_false]
  .exact⟨g,a,⋯,c⟩
  .have q:¬kv key p 0<kv key p (r-1):=q;have v:=j0r (key:=key) (p:=p) (i:=0) (j:=r) ⋯;have f:∀i,i<r->kv key p i=kv key p (r-1):=λi u=>by
    have t:=c 0 i (vB _) u;have x:=c i (r-1) ⋯ ⋯;lia
   have k:∀i,kv key (kas_rev p 0 r) i=kv key p i:=λi=>by
    rw[v];split
    .rename_i q';rw[f _ q'.2,f _ ⋯]
    .rfl
   refine j4L (g.of (mirror_perm _ _ _ _)) ⋯ λi j l m=>?_
   rw[k,k];by_cases e:j=r
   .by_cases o:i=r
    .rw[e,o];exact vC _
    .rw[e,f i ⋯];lia
   .rw[f i ⋯,f j ⋯];exact vC _
 .have s:r=1:=⋯
  subst s;refine j4L g ⋯ λi j l m=>?_
  rcases(by lia:(i=0/\j=0)\/(i=0/\j=1)\/(i=1/\j=1))with⟨rfl,rfl⟩ | ⟨rfl,rfl⟩ | ⟨rfl,rfl⟩
  .exact vC _
  .have:kv key p 1<kv key p (1-1):=d;exact Int.le_of_lt this
  .exact vC _
theorem xC(e:Pk n p)(c:k<n)(g:Up key p k):∀f l r,l<=r->r<=k->r-l<=f->(∀i,i<l->kv key p i<=kv key p k)->(∀i,r<=i->i<k->kv key p k<kv key p i)->
  Tw n key (kas_place p k f l r) λm=>m<=k/\(∀i,i<m->kv key p i<=kv key p k)/\∀i,m<=i->i<k->kv key p k<kv key p i
 | 0,l,r,h1,h2,h3,a,b=>⟨⋯,a,λi d=>b i ⋯⟩
 | f+1,l,r,h1,h2,h3,a,b=>by
  unfold kas_place;split
  .exact⟨⋯,a,λi d=>b i ⋯⟩
  refine Tw.asks (e.lt ⋯ _) (e.lt ⋯ _) (λq=>?_) (λq=>?_)<;>simp only[Bool.false_eq_true,if_true,if_false]
  .have q:kv key p k<kv key p ((l+r)/2):=q;exact xC e c g f l _ ⋯ ⋯ ⋯ a λi d h=>by
    have:=g ((l+r)/2) i d h;lia
  .have q:¬kv key p k<kv key p ((l+r)/2):=q;exact xC e c g f _ r ⋯ h2 ⋯ (λi d=>by
    have:=g i ((l+r)/2) ⋯ ⋯;lia) b
theorem j6d:∀f (p:Array Nat) k,Pk n p->k+f<=n->Up key p k->Tw n key (kas_bin f p k) λq=>Pk n q/\Up key q (k+f)
 | 0,p,k,hp,hn,hu=>⟨hp,hu⟩
 | f+1,p,k,hp,hn,hu=>by
  have t:=hp.size;refine Tw.bind (Tw.mono (λl h=>?_) (xC hp ⋯ hu k 0 k (vB _) (vA _) ⋯ (λi o=>uh o (Nat.not_lt_zero _)) λi e m=>uh e ⋯));let⟨a,b,c⟩:=h;have g:=j6A (key:=key) (p:=p) (src:=k) (d:=k-l) ⋯ ⋯;refine Tw.mono (λq h=>⟨h.1,by rw[show k+(f+1)=k+1+f by lia];exact h.2⟩) (j6d f _ (k+1) (hp.of (bubble_perm _ _ _)) ⋯ λi j r s=>?_);rw[g,g,show k-(k-l)=l by lia]
  repeat' split
  all_goals first
   | exact vC _
   | (exfalso;lia)
   | exact Int.le_of_lt (c _ ⋯ ⋯)
   | exact b _ ⋯
   | exact hu _ _ ⋯ ⋯
   | (have e:=b i ⋯;have m:=c (j-1) ⋯ ⋯;lia)
def j70(f:1<=n):Tw n key (kas_sort n) λq=>Pk n q/\Up key q n:=by
 have g:Pk n (List.toArray (List.range n)):=List.Perm.refl _;refine Tw.bind (Tw.mono (λr h=>?_) (j5W (key:=key) g f));let⟨a,b,c,d⟩:=h;split
 .refine Tw.mono (λq h=>⟨h.1,?_⟩) (j6d (n-max r.1 1) r.2 (max r.1 1) a ⋯ (by rw[show max r.1 1=r.1 by lia];exact d));have e:max r.1 1+(n-max r.1 1)=n:=⋯
  rw[e]at h;exact h.2
 .have e:r.1=n:=⋯
  exact⟨a,by rw[<-e];exact d⟩
end
section
variable{prog:Program}{w:World}{A:Around}{E:Value->Shared->Prop}{s:Shared}
def PrAt(h:Heap)(as:N2)(key:Nat->Int):Prop:=∀i a,as[i]?=some a->∃o t u n,h.get? a=some o/\o.cls = .type "tuple"/\o.data = .seq #[.int (key i) t,u] n
def PrAt.keep{key:Nat->Int}(x:PrAt h as key)(k:∀a∈as,∀o,h.get? a=some o->h'.get? a=some o):PrAt h' as key:=λi a e=>by
 let⟨o,t,u,n,q,r⟩:=x i a e;exact⟨o,t,u,n,k a (vj e) _ q,r⟩
def j79{key:Nat->Int}(x:PrAt s.heap as key)(d:∀i j,i<as.length->j<as.length->key i=key j->i=j){C:Bool->Shared->Prop}(hi:i<as.length)(b:j<as.length)
  (h:C (decide (key i<key j)) s):kas_ask prog w A (tuples' true) (as.map Value.ref) i j C s:=by
 unfold kas_ask;let⟨o,t,u,n,k,B,f⟩:=x i _ (vz hi);let⟨y,z,m,E,l,D,g⟩:=x j _ (vz b);have p:(as.map Value.ref).getD i Value.none = .ref as[i]:=by rw[vy,vv,vz hi];rfl
 have q:(as.map Value.ref).getD j Value.none = .ref as[j]:=by rw[vy,vv,vz b];rfl
 rw[p,q];refine kat_lt k f l g ?_;show KatLex prog w A true _ C [(.int (key i) t,.int (key j) z),(u,m)] 0 s;refine kat_cons (wpAny_eqBool_int ?_);by_cases c:key i=key j
 .have v:=d i j hi b c;subst v;rw[beq_self_eq_true];have r:u=m:=by
   have e:o=y:=vN (k.symm.trans l);subst e;have e:=f.symm.trans g;injection e with e _;have:=congrArg (λa:Array Value=>a[1]?) e;simpa using this
  subst r;refine kat_yes (kat_cons (SeqAt.EqAt.same _ _ _ _ _ ?_));refine kat_yes (kat_nil ?_);rw[vJ (Int.lt_irrefl _)]at h;exact h
 .rw[beq_false_of_ne c];exact kat_no (oneLt_int h)
theorem j1O{key:Nat->Int}:∀{as:N2} (_:PrAt h as key),∃fs,KatTups h (as.map Value.ref) fs/\fs.length=as.length/\∀v∈fs,∃n t,v=Value.int n t
 | [],_=>⟨[],KatTups.nil,rfl,λv g=>nomatch g⟩
 | a::r,x=>by
  let⟨o,t,u,n,q,c,d⟩:=x 0 a rfl;let⟨fs,k,l,f⟩:=j1O (key:=λi=>key (i+1)) (as:=r) λi b e=>x (i+1) b (by simpa using e)
  refine⟨.int (key 0) t::fs,KatTups.cons q c d rfl k,by rw[vR,l,vR],λv g=>?_⟩;rcases mem_cons.mp g with rfl | g
  .exact⟨_,_,rfl⟩
  .exact f v g
def j60(vs:N4):(vs.toArray.zip vs.toArray).map (·.2)=vs.toArray:=by
 apply Array.toList_inj.mp;rw[Array.toList_map,Array.toList_zip];exact List.map_snd_zip (vA _)
def j30(vs:N4):(List.range vs.length).map (λi=>vs.getD i Value.none)=vs:=by
 refine ext_getElem (by simp) λi b a=>?_
 rw[getElem_map,getElem_range,vy,vz a];rfl
def j4n:∀{l:L9},l.length<2->l.Pairwise (·<=·)
 | [],_=>.nil
 | [_],_=>pairwise_singleton _ _
 | _::_::_,h=>uh h (by rw[vR,vR];lia)
def j4F{key:Nat->Int}{P:PySem.Fin->Shared->Prop}(d:s.heap.get? a=some (seqObj "list" (as.map Value.ref).toArray c0))(S:a∉as)(x:PrAt s.heap as key)
  (U:∀i j,i<as.length->j<as.length->key i=key j->i=j) (O:as.length<64)
  (D:∀(q:N1) (h':Heap) (c:Nat),q.Perm (List.range as.length)->(q.map key).Pairwise (·<=·)->(∀b o,b≠a->s.heap.get? b=some o->h'.get? b=some o)->
   h'.get? a=some (seqObj "list" ((q.map λi=>as.getD i 0).map Value.ref).toArray c)->P (.done (.ret .none)) {s with heap:=h'}) :
  wpAny (model prog w) A (Builtin.«list.sort» ⟨[.ref a],[]⟩) P E s:=by
 have a5:a<s.heap.objs.size:=vK d;obtain⟨u,k⟩:∃u,(s.heap.update a (Obj.mapSeq λ_=>(#[]:Array Value))).get? a=some (seqObj "list" #[] u):=⟨_,get?_update_seq d λ_=>#[]⟩
 have X:=Heap.SameBut.update s.heap a (Obj.mapSeq λ_=>(#[]:Array Value));rw[list_sort_plain];refine uj (listItems_at (s:=s) d rfl ?_);refine uj (listUpdate_at (s:=s) d rfl ?_ (by rw[size_toArray,vt,sizeLine_eq];lia) (vB _));refine uj (seqEpoch_at (n:=u) k rfl ?_);refine uj (wpAny_newTuple ?_ (by show(as.map Value.ref).length<=_;rw[vt,sizeLine_eq];lia));refine uj (wpAny_newList ?_ (vB (sizeLine)));refine wpAny_holding ?_;generalize Y:((s.heap.update a (Obj.mapSeq λ_=>(#[]:Array Value))).push (seqObj "tuple" (as.map Value.ref).toArray 0)).push (seqObj "list" #[] 0)=hX;have kX:∀b o,b≠a->s.heap.get? b=some o->hX.get? b=some o:=λb o y e=>by
  rw[<-Y];exact vL _ (vL _ ((X.2 b y).trans e))
 have F:hX.get? a=some (seqObj "list" #[] u):=by
  rw[<-Y];exact vL _ (vL _ k)
 have xX:PrAt hX as key:=x.keep λb y o e=>kX b o (λz=>S (z▸y)) e
 show wpAny (model prog w) A _ P E {s with heap:=hX};dsimp only;have K:(as.map Value.ref).toArray.size=as.length:=by rw[size_toArray,vt]
 have H:∀q:N1,q.Perm (List.range as.length)->(List.map (λi=>(as.map Value.ref).getD i Value.none) q)=(q.map λi=>as.getD i 0).map Value.ref:=λq M=>by
  rw[v6];refine map_congr_left λi B=>?_
  have hl:i<as.length:=mem_range.mp (M.mem_iff.mp B);show(as.map Value.ref).getD i Value.none=Value.ref (as.getD i 0);rw[vy,vy,vv,vz hl];rfl
 have g:∀(q:N1),q.Perm (List.range as.length)->(q.map key).Pairwise (·<=·)->∀r:Array Value,r=(List.map (λi=>(as.map Value.ref).getD i Value.none) q).toArray->
   P (.done (.ret .none)) {s with heap:=hX.update a (Obj.mapSeq λ_=>r)}:=λq M hs r ho=>by
  subst ho;have o2:=get?_update_seq F λ_=>(List.map (λi=>(as.map Value.ref).getD i Value.none) q).toArray
  have J:=Heap.SameBut.update hX a (Obj.mapSeq λ_=>(List.map (λi=>(as.map Value.ref).getD i Value.none) q).toArray);rw[H q M]at o2 J|-;exact D q _ _ M hs (λb o y e=>(J.2 b y).trans (kX b o y e)) o2
 by_cases l:(as.map Value.ref).toArray.size<2
 .rw[vc l,vc l];refine uj (ui ?_);rw[StateT.run_pure];refine uj (ui ?_);dsimp only;refine uj (seqEpoch_at (n:=u) F rfl ?_);have eo:(arrOf (SortSt.mk' general' ((as.map Value.ref).toArray.zip (as.map Value.ref).toArray) #[] 7 none)).map (·.2)=(List.map (λi=>(as.map Value.ref).getD i Value.none) (List.range as.length)).toArray:=by
   have e:=j30 (as.map Value.ref);rw[vt]at e;rw[e];exact j60 _
  rw[eo];refine uj (listUpdate_at (s:={s with heap:=hX}) F rfl ?_ (vB _) (by rw[size_toArray,vt,length_range,sizeLine_eq];lia));simp only[bne_self_eq_false,Bool.false_eq_true,if_false];refine ui (g (List.range as.length) (List.Perm.refl _) ?_ _ rfl);rw[K]at l;exact j4n (by rw[vt,length_range];exact l)
 .rw[va l,va l];rw[K]at l;let⟨fs,kt,kl,ki⟩:=j1O xX;have a0:hX=({s with heap:=hX}:Shared).heap:=rfl;refine uj (kat_kind (s:={s with heap:=hX}) (T:=Value.type "int") kt ⋯ (λv hv=>?_) nofun ?_)
  .let⟨m,t,rfl⟩:=ki v hv;exact Looks.of_pure rfl
  refine uj (wpAny_mono (kat_run (s:={s with heap:=hX}) (ks:=as.map Value.ref) (vs:=as.map Value.ref) (κ:=tuples' true) (Q:=λf I=>∃p:Array Nat,Pk as.length p/\Up key p as.length/\arrOf f=p.map (kas_item ((as.map Value.ref).toArray.zip (as.map Value.ref).toArray))/\failedOf f=none/\I={s with heap:=hX}) (G:=λp I=>Pk as.length p/\Up key p as.length/\I={s with heap:=hX})
   rfl (by rw[vt];lia) (by rw[vt];exact O) (λp f I _ a2 a3 N=>⟨p,N.1,N.2.1,a2,a3,N.2.2⟩) ?_) ?_ λ_ _ e=>e)
  .rw[vt];exact Tw.run (n:=as.length) (key:=key) (λi j C B L hC=>j79 xX U B L hC) (Tw.mono (λq h=>⟨h.1,h.2,rfl⟩) (j70 (key:=key) ⋯))
  rintro⟨⟨⟩,f⟩ I ⟨p,Z,hu,R,hf,rfl⟩;dsimp only;rw[kat_snds rfl R];refine uj (seqEpoch_at (n:=u) F rfl ?_);have W:=Z.size;refine uj (listUpdate_at (s:={s with heap:=hX}) F rfl ?_ (vB _) (by rw[size_toArray,vt,Array.length_toList,W,sizeLine_eq];lia));rw[hf];simp only[bne_self_eq_false,Bool.false_eq_true,if_false];refine ui (g p.toList Z ?_ _ rfl);refine pairwise_map.mpr (pairwise_iff_getElem.mpr λi j B L a1=>?_);rw[Array.length_toList]at B L;have:=hu i j ⋯ ⋯;unfold kv at this;rw[Array.getD_eq_getD_getElem?,Array.getD_eq_getD_getElem?,Array.getElem?_eq_getElem B,Array.getElem?_eq_getElem L]at this;exact this
end
open PySem PySem.Spec PySem.W PyProof.Rows
section
variable{X:Cx}{pins:List (Addr×Obj)}{σ:St}{H:Hp}{s:Shared}
def NewA(X:Cx)(pins:List (Addr×Obj))(T:Addr):Prop:=X.s₀.heap.objs.size<=T/\T≠X.env.locals/\(∀x c,X.env.cells.lookup x=some c->c≠T)/\∀p∈X.pn++pins,p.1≠T
def Inv.newA(I:Inv X pins σ H s)(a:s.heap.objs.size<=T):NewA X pins T:=by
 let⟨_,b,_,_,c,d⟩:=I.fpOk (H':=λ_=>none) a rfl;exact⟨vX I.sz a,b,c,d⟩
def ObjOk.obj(x:ObjOk P w H h a o):∃u,h.get? a=some u:=by
 cases o with
 | lst xs=>let⟨_,_,_,_,e⟩:=x;exact⟨_,e⟩
 | tup xs=>let⟨_,_,_,u,e,_⟩:=x;exact⟨u,e⟩
 | dK kvs=>let⟨_,_,_,_,u,_,_,e,_⟩:=x;exact⟨u,e⟩
 | dT kvs=>let⟨_,_,_,_,u,_,_,e,_⟩:=x;exact⟨u,e⟩
 | set S n=>let⟨u,_,_,_,e,_⟩:=x;exact⟨u,e⟩
 | ins C dx fs=>let⟨_,_,_,e,_⟩:=x;exact⟨_,e⟩
 | own y=>exact x
 | xd fs=>let⟨_,⟨u,_,_,e,_⟩,_⟩:=x;exact⟨u,e⟩
 | rng lo hi=>let⟨_,_,_,e⟩:=x;exact⟨_,e⟩
 | frz u v=>exact⟨_,x.1⟩
 | tbl ps=>exact⟨_,x⟩
 | met f y=>exact⟨_,x⟩
 | ext φ=>exact x.2.1
def Inv.none_at{a:Heap}(I:Inv X pins σ H s)(c:∀b o,s.heap.get? b=some o->a.get? b=some o):H a.objs.size=none:=by
 cases e:H a.objs.size with
 | none=>rfl
 | some u=>
  let⟨v,q⟩:=(I.hok _ _ e).obj;exact uh (vK (c _ _ q)) (Nat.lt_irrefl _)
def Inv.newB{a:Heap}(I:Inv X pins σ H s)(h:∀b o,s.heap.get? b=some o->a.get? b=some o):NewA X pins a.objs.size:=by
 have f:∀b o,s.heap.get? b=some o->b<a.objs.size:=λb o e=>vK (h b o e)
 let⟨m,⟨o,_,_,d,_⟩,_⟩:=I.loc;have g:=f _ _ d;refine⟨vZ (vF I.ok.above g),vP g,λx c e=>?_,λp i=>vG (f _ _ (I.pin p i).1)⟩;let⟨v,o,d,_⟩:=I.cell x c e;exact vG (f _ _ d)
def Inv.track(I:Inv X pins σ H s)(h:H T=none)(d:NewA X pins T)(g:ObjOk X.prog X.w (upd H T o) s.heap T o):Inv X pins σ (upd H T o) s:=by
 have a:∀b u,H b=some u->b≠T:=λb u e z=>by rw[z,h]at e;cases e
 refine I.step (h':=s.heap) (H':=upd H T o) (g':=s.gens) (d':=s.drawn) (t':=s.toks) (ch:=[T]) (λb f=>?_) (λb o _ _ _ e _=>e) (λb o _ _ _ e _=>⟨o.slots,e⟩) (λb u f _ n=>?_) (λb u _ e=>⟨u,e⟩)
  (λb k e=>(je (a _ _ e)).trans e) (λb u v e=>(je (a _ _ e)).trans e) (λb j e=>⟨#[],by rw[je (a _ _ e),e];simp⟩) (λm i=>i) (λb u e=>?_) I.bare
 .have e:b=T:=by simpa using f
  subst e;exact⟨.inr d.1,d.2.1,d.2.2.1,d.2.2.2⟩
 .exact(je λz=>f (by simp[z])).trans n
 .by_cases z:b=T
  .subst z;rw[jm]at e;cases e;exact g
  .rw[je z]at e;exact(I.hok b u e).stay (λc v _ q=>q) (λc q=>(je (a _ _ q)).trans q) λc l q=>(je (a _ _ q)).trans q
theorem Inv.trackAll:∀(ws:List (Addr×HO)) {H:Hp},Inv X pins σ H s->(∀p∈ws,H p.1=none/\NewA X pins p.1/\∀H',ObjOk X.prog X.w H' s.heap p.1 p.2)->(ws.map (·.1)).Nodup->∃H',Inv X pins σ H' s/\Same H H'/\∀p∈ws,H' p.1=some p.2
 | [],H,I,_,_=>⟨H,I,Same.refl _,λp d=>nomatch d⟩
 | w::r,H,I,h,nd=>by
  let⟨a,b,c⟩:=h w vq;rw[v9,uo]at nd;have f:=I.track a b (c _);let⟨H',g,e,l⟩:=Inv.trackAll r f (λp d=>by
   let⟨i,j,k⟩:=h p (vp _ d);exact⟨(je λz:p.1=w.1=>nd.1 (by rw[<-z];exact vM.mpr ⟨p,d,rfl⟩)).trans i,j,k⟩) nd.2
  have m:Same H (upd H w.1 w.2):=λb u q=>(je (jf q a)).trans q
  refine⟨H',g,m.trans e,λp d=>?_⟩;rcases mem_cons.mp d with rfl | d
  .exact e _ _ jm
  .exact l p d
end
section
variable{X:Cx}
theorem valsR:∀as:N2,Vals (as.map V.ref) (as.map Value.ref)
 | []=>.nil
 | _::r=>.cons rfl (valsR r)
theorem KV.get{κ:Type}:∀{kvs:List (κ×V)} {vs:List (κ×Value)} {i:Nat} {p:κ×V},KV kvs vs->kvs[i]?=some p->∃q,vs[i]?=some q/\p.1=q.1/\RelV p.2 q.2
 | _,_,_,_,.nil,e=>by simp at e
 | _,_,0,_,.cons r _,e=>by simp at e;subst e;exact⟨_,rfl,r⟩
 | _,_,i+1,p,.cons _ t,e=>by
  let⟨q,a,b⟩:=KV.get (i:=i) (p:=p) t (by simpa using e);exact⟨q,by simpa using a,b⟩
def j2K:MtR X "dict.update" (λx vs H Q=>∃d o kvs more,x = .ref d/\vs=[.ref o]/\H d=some (.dK kvs)/\H o=some (.dK more)/\d≠o/\kvs.length+more.length<=sizeLine/\Q .non (upd H d (.dK (mergeK kvs more)))):=by
 intro l s G H x vs v D Q I B A h;let⟨d,o,kvs,more,rfl,rfl,k,p,g,y,q⟩:=h;cases B;let⟨u,rfl,z⟩:=vals1 A;cases z;let⟨E,e,i,m,b⟩:=Xa I.hok k;let⟨F,f,j,n,c⟩:=Xa I.hok p;refine call_meetsIn PySem.F.slot_dict_update b.typeIs PySem.F.entry_dict_update (PySem.F.args_dict_update_2 _ _) (meets_dict_update (mixKind X.prog X.w) d o g f) ⟨i,j,b,c,by rw[<-m.length,<-n.length];exact y,λr a _ w=>?_⟩;have t:∃q,r.get? d=some q:=let ⟨q,_,_,hq,_⟩:=a;⟨q,hq⟩;have C:=QY more kvs;exact⟨.non,_,WI (t':=s.toks) I (by rw[k];exact True.intro) w t (j0i ⋯ e (n.merge m) a),rfl,q⟩
noncomputable def IView(v d:Addr):HO:=.ext λh=>h.get? v=some {cls:=.type "dict_items",data:=.fields #[.ref d]}
def j3X:MtR X "dict.items" (λx vs H Q=>∃d kvs,x = .ref d/\vs=[]/\H d=some (.dK kvs)/\∀v,H v=none->Q (.ref v) (upd H v (IView v d))):=by
 intro i s y H x vs v t Q I m l h;let⟨d,kvs,rfl,rfl,j,q⟩:=h;cases m;have f:=l.zero;subst f;let⟨w,c,g,r,a⟩:=Xa I.hok j;refine call_meetsIn PySem.F.slot_dict_items a.typeIs PySem.F.entry_dict_items (PySem.F.args_dict_items_1 (.ref d)) (meets_dict_items (mixKind X.prog X.w) d c) ⟨⟨g,a⟩,?_⟩;have e:(s.heap.push {cls:=.type "dict_items",data:=.fields #[.ref d]}).get? s.heap.objs.size=some {cls:=.type "dict_items",data:=.fields #[.ref d]}:=Heap.get?_push_size _ rfl;exact⟨.ref s.heap.objs.size,_,I.laid (t':=s.toks) (o:=IView s.heap.objs.size d) (λb u q=>vL _ q) (vA _) (show ObjOk X.prog X.w _ _ _ (IView s.heap.objs.size d)from⟨e,⟨_,e⟩,λn p q k=>k _ q⟩),rfl,q _ (I.hok.fresh (vA _))⟩
noncomputable def iiK(p:Int×Int):Key×V:=(Sum.inl p.1,.int p.2)
def WD(hc:X.calm=true):CallR X (.builtin "sorted") (λxs H Q=>∃(v d:Addr) (kvs:List (Int×Int)),xs=[.ref v]/\H v=some (IView v d)/\H d=some (.dK (kvs.map iiK))/\kvs.length<64/\
  ∀(l:Addr) (as:N2) (R:List (Int×Int)) (H':Hp),Same H H'->H l=none->H' l=some (.lst (as.map V.ref))->(∀a∈as,H a=none)->R.Perm kvs->(R.map (·.1)).Pairwise (·<=·)->as.length=R.length->(∀(i:Nat) (a:Addr) (p:Int×Int),as[i]?=some a->R[i]?=some p->H' a=some (.tup [.int p.1,.int p.2]))->Q (.ref l) H'):=by
 intro y s σ H xs us Q I r h;let⟨v,d,kvs,rfl,ev,ed,a0,q⟩:=h;let⟨u,rfl,ru⟩:=vals1 r;cases ru;let⟨z1,a5,N,r1,G⟩:=Xa I.hok ed;have hv:s.heap.get? v=some {cls:=.type "dict_items",data:=.fields #[.ref d]}:=(I.hok v _ ev).1;let⟨ep,da⟩:=G.dictAt;have lv:=r1.length;rw[vt]at lv;have nd:(kvs.map (·.1)).Nodup:=by
  have S:(N.map (·.1)).Nodup:=let ⟨_,_,_,_,_,_,_,_,hn⟩:=G;hn;rw[<-r1.keys,v6]at S;refine pairwise_map.mpr ((pairwise_map.mp S).imp λ{a b} h e=>h ?_);show(Sum.inl a.1:Key)=Sum.inl b.1;rw[e]
 refine Calls.call_function_entry kind_sorted plain_sorted entry_sorted (args_sorted1 (.ref v)) ?_;unfold Builtin.«sorted»;refine uj (m:=checkCount "sorted" 1 1 1) (ui ?_);refine uj (kdx_collect (knd:=mixKind X.prog X.w) (kvs:=N) (ep:=ep) (A:=X.A.in1) (I.ok.hd hc) ⟨_,hv,rfl,rfl⟩ da (by rw[<-lv,sizeLine_eq];lia) λg tk as P C J=>?_);rw[<-lv]at C;refine uj (wpAny_newList ?_ (by rw[vt,C,sizeLine_eq];lia));have K:(g.push (seqObj "list" (as.map Value.ref).toArray 0)).get? g.objs.size=some (seqObj "list" (as.map Value.ref).toArray 0):=Heap.get?_push_size _ rfl;have D:g.objs.size∉as:=λz=>Nat.lt_irrefl _ (J.there z)
 have E:∀i p,kvs[i]?=some p->(λi=>(kvs.getD i (0,0)).1) i=p.1/\(λi=>(kvs.getD i (0,0)).2) i=p.2:=λi p e=>by
  dsimp only;rw[vy,e];exact⟨rfl,rfl⟩
 have xQ:∀i a,as[i]?=some a->∃t u,(g.push (seqObj "list" (as.map Value.ref).toArray 0)).get? a=some {cls:=.type "tuple",data:=.seq #[.int ((λi=>(kvs.getD i (0,0)).1) i) t,.int ((λi=>(kvs.getD i (0,0)).2) i) u]}:=λi a e=>by
  let⟨ky,k,x,O,w,e3⟩:=J.pairs i a e;have f:i<kvs.length:=by rw[<-C];exact(vx.mp e).1
  let⟨w',e4,a4⟩:=KV.get r1 (i:=i) (p:=iiK kvs[i]) (by rw[vv,vz f];rfl);rw[O]at e4;cases e4;let⟨ek,T,ex⟩:=a4;have U:k=Sum.inl kvs[i].1:=ek.symm;subst U;have W:x = .int kvs[i].2 T:=ex;subst W;let⟨Y,Z⟩:=E i _ (vz f);rw[show(λi=>(kvs.getD i (0,0)).1) i=kvs[i].1 from Y,show(λi=>(kvs.getD i (0,0)).2) i=kvs[i].2 from Z];rcases j5 (show keyIs (Sum.inl kvs[i].1) ky=true from w)with⟨n,t,q1,q2⟩ | ⟨n,t,q1,q2⟩
  .cases q1;subst q2;exact⟨t,T,vL _ e3⟩
  .cases q1
 have xP:PrAt (g.push (seqObj "list" (as.map Value.ref).toArray 0)) as (λi=>(kvs.getD i (0,0)).1):=λi a e=>by
  let⟨t,u,z⟩:=xQ i a e;exact⟨_,t,_,_,z,rfl,rfl⟩
 have a1:∀i j,i<as.length->j<as.length->(λi=>(kvs.getD i (0,0)).1) i=(λi=>(kvs.getD i (0,0)).1) j->i=j:=λi j f B e=>by
  rw[C]at f B;let⟨Y,_⟩:=E i _ (vz f);let⟨Z,_⟩:=E j _ (vz B);rw[Y,Z]at e;rcases Nat.lt_trichotomy i j with z | z | z
  .exact uh e (by have:=pairwise_iff_getElem.mp nd i j (by rw[vt];exact f) (by rw[vt];exact B) z;simpa using this)
  .exact z
  .exact uh e.symm (by have:=pairwise_iff_getElem.mp nd j i (by rw[vt];exact B) (by rw[vt];exact f) z;simpa using this)
 refine uj (wpAny_holding (wpAny_call_entry slot_list_sort ⟨_,K,rfl⟩ entry_list_sort (j4F (s:={s with heap:=g.push (seqObj "list" (as.map Value.ref).toArray 0),toks:=tk}) K D xP a1 (by rw[C];exact a0) λM F c hq hs kk o2=>⟨_,rfl,?_⟩) (args_list_sort _)));refine ui ⟨_,rfl,?_⟩;have a2:∀b o,s.heap.get? b=some o->b<g.objs.size:=λb o e=>vK (P b o e)
 have k2:∀b o,s.heap.get? b=some o->F.get? b=some o:=λb o e=>kk b o (vG (a2 b o e)) (vL _ (P b o e))
 have I2:Inv X y σ H {s with heap:=F,toks:=tk}:=I.kept (t':=tk) k2;have hB:H g.objs.size=none:=I.none_at P;have nB:=I.newB P;have ha:∀a∈as,H a=none/\NewA X y a:=λa h=>⟨I.hok.fresh (vZ (J.above a h)),I.newA (vZ (J.above a h))⟩
 have L:∀i∈M,i<as.length:=λi f=>mem_range.mp (hq.mem_iff.mp f)
 have a3:(((g.objs.size,HO.lst ((M.map λi=>as.getD i 0).map V.ref))::(List.range as.length).map λi=>(as.getD i 0,HO.tup [.int (kvs.getD i (0,0)).1,.int (kvs.getD i (0,0)).2])).map (·.1)).Nodup:=by
  rw[v9,uo,v6];have w:(List.range as.length).map ((λx=>x.1)∘λi=>(as.getD i 0,HO.tup [.int (kvs.getD i (0,0)).1,.int (kvs.getD i (0,0)).2]))=as:=ext_getElem (by simp) λi g F=>by
   rw[getElem_map,getElem_range];show as.getD i 0=_;rw[vy,vz F];rfl
  rw[w];exact⟨D,J.rise.imp λh=>vG h⟩
 let⟨H',I3,s3,k3⟩:=I2.trackAll ((g.objs.size,HO.lst ((M.map λi=>as.getD i 0).map V.ref))::(List.range as.length).map λi=>(as.getD i 0,HO.tup [.int (kvs.getD i (0,0)).1,.int (kvs.getD i (0,0)).2])) (λp hp=>by
  rcases mem_cons.mp hp with rfl | hp
  .refine⟨hB,nB,λH'=>⟨?_,_,c,valsR _,o2⟩⟩;rw[vt,vt,hq.length_eq,length_range,C,sizeLine_eq];lia
  .let⟨i,f,rfl⟩:=vM.mp hp;have f:=mem_range.mp f;have e:as[i]?=some (as.getD i 0):=by rw[vy,vz f];rfl
   let⟨t1,T,eo⟩:=xQ i _ e;have hm:=vj e;let⟨S,n2⟩:=ha _ hm;exact⟨S,n2,λH'=>⟨(by show 2<=sizeLine;decide),[_,_],.cons ⟨t1,rfl⟩ (.cons ⟨T,rfl⟩ .nil),⟨_,kk _ _ (λz=>D (z▸hm)) eo,rfl,_,rfl⟩⟩⟩) a3
 .refine⟨.ref g.objs.size,H',I3,rfl,q g.objs.size (M.map λi=>as.getD i 0) (M.map λi=>kvs.getD i (0,0)) H' s3 hB (k3 _ vq) (λa h=>?_) ?_ ?_ (by rw[vt,vt]) λi a p O w=>?_⟩
  .let⟨i,f,rfl⟩:=vM.mp h;have e:as[i]?=some (as.getD i 0):=by rw[vy,vz (L i f)];rfl
   exact(ha _ (vj e)).1
  .have e:=hq.map λi=>kvs.getD i (0,0)
   rw[C]at e;have w:(List.range kvs.length).map (λi=>kvs.getD i (0,0))=kvs:=ext_getElem (by simp) λi g F=>by
    rw[getElem_map,getElem_range,vy,vz F];rfl
   rw[w]at e;exact e
  .rw[v6];exact hs
  .rw[vv]at O w;let⟨j,B,rfl⟩:=vf.mp O;rw[B]at w;cases w;exact k3 _ (vp _ (vM.mpr ⟨j,mem_range.mpr (L j (vj B)),rfl⟩))
end
theorem YZ:∀{as:N2} {us:N4},Vals (as.map V.ref) us->us=as.map Value.ref
 | [],_,r=>by cases r;rfl
 | a::as,_,r=>by
  cases r with
  | cons r1 r2=>rw[YZ r2,show _=Value.ref a from r1];rfl
theorem XH:∀{as:N2} {kvs:List (Int×Int)},as.length=kvs.length->(∀(i:Nat) (a:Addr) (q:Int×Int),as[i]?=some a->kvs[i]?=some q->∃t u,IsTup h a #[.int q.1 t,.int q.2 u])->
  ∃ps:List (Key×Value),KV (kvs.map iiK) ps/\ps.length=kvs.length/\∀(j:Nat) (kv:Key×Value),ps[j]?=some kv->∃a key,as[j]?=some a/\IsTup h a #[key,kv.2]/\keyIs kv.1 key=true
 | [],[],_,_=>⟨[],.nil,rfl,λj kv e=>by simp at e⟩
 | [],_::_,l,_=>by simp at l
 | _::_,[],l,_=>by simp at l
 | a::as,q::kvs,l,f=>by
  let⟨ps,o,p,r⟩:=XH (as:=as) (kvs:=kvs) (by simpa using l) λi a q m n=>f (i+1) a q (by simpa using m) (by simpa using n)
  let⟨t,u,e⟩:=f 0 a q rfl rfl;refine⟨(Sum.inl q.1,.int q.2 u)::ps,.cons ⟨rfl,u,rfl⟩ o,by rw[vR,p,vR],λj kv c=>?_⟩;cases j with
  | zero=>simp at c;subst c;exact⟨a,_,rfl,e,wS _ _⟩
  | succ j=>let⟨b,s,d,g,k⟩:=r j kv (by simpa using c);exact⟨b,s,by simpa using d,g,k⟩
section
variable{X:Cx}
def j0b(G:X.calm=true):CallR X (.type "dict") (λxs H Q=>∃(p:Addr) (as:N2) (kvs:List (Int×Int)),xs=[.ref p]/\H p=some (.lst (as.map V.ref))/\as.length=kvs.length/\
  (∀(i:Nat) (a:Addr) (q:Int×Int),as[i]?=some a->kvs[i]?=some q->H a=some (.tup [.int q.1,.int q.2]))/\∀d,H d=none->Q (.ref d) (upd H d (.dK (mergeK [] (kvs.map iiK))))):=by
 intro M s σ H xs us Q I r h;let⟨p,as,kvs,rfl,Z,B,ht,q⟩:=h;let⟨u,rfl,ru⟩:=vals1 r;cases ru;let⟨z,D,n,rv,lv,e⟩:=I.lstM Z;have W:=YZ rv;subst W;rw[vt]at z;have J:p<s.heap.objs.size:=vK e;let⟨ps,kp,N,pt⟩:=XH (h:=s.heap) B λi a q S U=>by
  let⟨_,D,r',t'⟩:=I.hok a _ (ht i a q S U);cases r' with
  | cons ra rr=>
   cases rr with
   | cons rb rr=>
    cases rr;let⟨t1,rfl⟩:=ra;let⟨t2,rfl⟩:=rb;exact⟨t1,t2,t'⟩
 refine callType_codes (Q₁:=λt g=>t = .ref s.heap.objs.size/\g={s with heap:=s.heap.push {cls:=.type "dict",data:=.dict #[]}}) PySem.F.kt_called_dict (PySem.F.kt_typeCall_dict_1 (.ref p)) PySem.F.entry_dict_init (kt_code_dict_new (.ref p) ⟨rfl,rfl⟩) ?_;rintro t g ⟨rfl,rfl⟩;have c:(s.heap.push {cls:=.type "dict",data:=.dict #[]}).DictOf (mixKind X.prog X.w) s.heap.objs.size []:=Heap.DictOf.new s.heap;have v:∀b o,s.heap.get? b=some o->(s.heap.push {cls:=.type "dict",data:=.dict #[]}).get? b=some o:=λb o e=>vL _ e
 generalize s.heap.push {cls:=.type "dict",data:=.dict #[]}=h0 at c v;refine⟨c.typeIs (s:={s with heap:=h0}),PySem.F.args_dict_init_2 _ _,?_⟩;unfold Builtin.«dict.__init__»;refine uj ?_;unfold Builtin.Dict.selfAndRest;refine uj (wpAny_notOrdered_dict (c.typeIs (s:={s with heap:=h0})) ?_);show wpAny (model X.prog X.w) _ (pure (s.heap.objs.size,[Value.ref p])) _ _ _;refine ui ?_;show wpAny (model X.prog X.w) _ (Builtin.Dict.updateFrom "dict.__init__" s.heap.objs.size (.ref p) [] .none) _ _ _;unfold Builtin.Dict.updateFrom;refine uj (wpAny_typeOf (T:="list") ⟨_,v _ _ e,rfl⟩ ?_);rw[vc nofun];refine uj (noKeys (s:={s with heap:=h0}) (v _ _ e) rfl rfl rfl (I.ok.hd G) λm tk K=>?_);rw[vc (show(none:Option Value).isNone=true from rfl)];have f:∀b o,s.heap.get? b=some o->m.get? b=some o:=λb o e=>K b o (v b o e)
 have k:m.DictOf (mixKind X.prog X.w) s.heap.objs.size []:=c.keep K;have w:s.heap.objs.size<m.objs.size:=by let⟨_,_,_,hg,_⟩:=k;exact vK hg
 have lp:p<m.objs.size:=Nat.lt_trans J w;refine uj (wpAny_rule ?_);refine uj (wpAny_pyIter_list (l:=p) (items:=(as.map Value.ref).toArray) ⟨_,f _ _ e,rfl,n,rfl⟩ ?_);refine ui ⟨plainId_quiet ZO _,?_⟩;refine dul (knd:=mixKind X.prog X.w) (A:=X.A.in1) (d:=s.heap.objs.size) (it:=m.objs.size) (l:=p) (items:=as.map Value.ref) (res:=.none) (I.ok.hd G) (vG w) (vP J) (vP lp) ps 0 [] _
  ⟨_,Heap.get?_push_size _ rfl,rfl,rfl⟩ ⟨_,vL _ (f _ _ e),rfl,n,rfl⟩ (by rw[vt,B,N,Nat.zero_add]) (λj kv Y=>?_) (k.push _) (by rw[length_nil,N,<-B,Nat.zero_add];exact z) λh2 E k2 x=>?_
 .let⟨a,ky,O,⟨o,F,P⟩,R⟩:=pt j kv Y;have L:a<s.heap.objs.size:=vK F;exact⟨a,ky,by rw[Nat.zero_add,vv,O];rfl,⟨o,vL _ (f _ _ F),P⟩,R,vG L,vG (Nat.lt_trans L w)⟩
 .refine⟨rfl,.ref s.heap.objs.size,upd H s.heap.objs.size (.dK (mergeK [] (kvs.map iiK))),I.laid (t':=E) (λb o y=>k2 b o (vG (vK y)) (vG (Nat.lt_trans (vK y) w)) (vL _ (f _ _ y))) (vA _) ?_,rfl,q _ (I.hok.fresh (vA _))⟩;have hm:=QY (kvs.map iiK) [];rw[length_nil,vt]at hm;have C:(s.heap.objs.size==sysModules)=false:=by
   rw[beq_eq_false_iff_ne];exact vP I.big
  exact j0i ⋯ C (kp.merge .nil) x
end
theorem j1o{H:Hp}:∀(ks:L9),DVs H (ks.map V.int) (ks.map PyData.int)
 | []=>.nil
 | k::r=>.cons (.int k) (j1o r)
def j5d(ks:L9):PyData.eqv (.list (ks.map PyData.int)) (.list [])=decide (ks=[]):=by
 cases ks<;>simp[PyData.eqv,PyData.eqvAll]
def j6I(S:X.A.units+64<cLine):OpR X (compareOp .In) (λx y H Q=>∃(a l:Addr) (as:N2) (hs:L4),x = .ref a/\y = .ref l/\H a=some (.lst [])/\H l=some (.lst (as.map V.ref))/\as.length=hs.length/\
  (∀(i:Nat) (b:Addr) (ks:L9),as[i]?=some b->hs[i]?=some ks->H b=some (.lst (ks.map V.int)))/\Q (.bl (hs.any λks=>decide (ks=[]))) H):=by
 intro o s U H x y v u Q I L M h;let⟨a,l,as,hs,rfl,rfl,t,B,R,D,q⟩:=h;cases L;cases M;let⟨F,r,G,T⟩:=I.list (SqL.of B);have A:=YZ r;subst A;let⟨N,J⟩:=Zh I (DV.lst t .nil) (show RelV (.ref a) (.ref a)from rfl)
 classical
 have p:∀(i:Nat) (b:Addr) (ks:L9),as[i]?=some b->hs[i]?=some ks->∃c,Reads s.heap (.ref b) (.list (ks.map PyData.int)) c:=λi b ks d f=>Zh I (DV.lst (D i b ks d f) (j1o ks)) (show RelV (.ref b) (.ref b)from rfl)
 have n:∀(i:Nat) (b:Addr) (ks:L9),as[i]?=some b->hs[i]?=some ks->decide (∃c,Reads s.heap (.ref b) (.list []) c)=decide (ks=[]):=λi b ks d f=>by
  let⟨c,m⟩:=p i b ks d f;rw[decide_eq_decide];constructor
  .rintro⟨O,K⟩;have e:=SeqAt.Reads.unique _ _ _ _ _ (show PyData.canLay0 (.list [])=true from rfl) K m;cases ks with
   | nil=>rfl
   | cons k r=>simp at e
  .rintro rfl;exact⟨c,m⟩
 refine SeqAt.in_listAt (λw=>decide (∃c,Reads s.heap w (.list []) c)) G.isList (λw j=>?_) ⟨.bl _,H,I,rfl,?_⟩
 .let⟨i,g,e⟩:=mem_iff_getElem.mp (show w∈as.map Value.ref by simpa using j);rw[getElem_map]at e;rw[vt]at g;subst e;have d:as[i]?=some as[i]:=vz g;have f:hs[i]?=some hs[i]:=vz ⋯;let⟨c,m⟩:=p i _ _ d f;have z:=SeqAt.eqAt_reads _ _ X.A.in1 s _ _ _ _ m J (by show PyData.canLayAll0 _=true;exact ke_canLayAll0 _) rfl (by
   show X.A.in1.units+min (PyData.depthAll _+1) (0+1)<cLine;have P:X.A.in1.units=X.A.units+1:=rfl;lia)
  rw[j5d,<-n i _ _ d f]at z;exact z
 .have e:(as.map Value.ref).toArray.any (λw=>decide (∃c,Reads s.heap w (.list []) c))=hs.any λks=>decide (ks=[]):=by
   rw[List.any_toArray,List.any_map,Bool.eq_iff_iff,any_eq_true,any_eq_true];constructor
   .rintro⟨b,C,j⟩;let⟨i,g,rfl⟩:=mem_iff_getElem.mp C;exact⟨hs[i],getElem_mem _,by rw[<-n i _ _ (vz g) (vz ⋯)];exact j⟩
   .rintro⟨ks,E,j⟩;let⟨i,g,rfl⟩:=mem_iff_getElem.mp E;refine⟨as[i],getElem_mem _,?_⟩;show decide _=true;rw[n i _ _ (vz ⋯) (vz g)];exact j
  rw[e];exact q
section
variable{X:Cx}
def tTru(K:Frg)(ta:TE):TT:=λσ H Q=>ta σ H λx H'=>∃k,TruV K x H' k/\Q k H'
def KJ{a:Expr}{c:TE}(d:PE X a c)(e:∀b,isTrue a X.env b=(do let v <-b;standAt a.pos;holding [v] (truthy v))):PT X a (tTru X.K c):=j4l d e
end
def rd_tru{K:Frg}{a:TE}{b:St}{H:Hp}{Q:Bool->Hp->Prop}(h:a b H λx H'=>∃k,TruV K x H' k/\Q k H'):tTru K a b H Q:=h
def xY{K:Frg}{a b:Addr}{xs zs:N6}{k:Nat}{ci:N1}{g:TG}{z:TT}{w:TE}{A:St}{H:Hp}{Z:Addr->N6->Hp->Prop}(d:Nat->N6->Hp->Prop)(s:xs.length=zs.length)(B:d 0 [] H)(F:∀i ys H,i<=xs.length->d i ys H->SqL K H a xs/\SqL K H b zs)
  (G:∀i u v ys H T H',xs[i]?=some u->zs[i]?=some v->d i ys H->Same H H'->H' T=some (.tup [u,v])->g (.ref T) (capS k ci A) H' λc H2=>z c H2 λb j=>if b=true then w c j λv n=>ys.length<sizeLine/\d (i+1) (ys++[v]) n else d (i+1) ys j)
  (D:∀ys H,d xs.length ys H->ys.length<=sizeLine/\∀p,H p=none->Z p ys H) :
  ∃W:Nat->Nat->N6->Hp->Prop,(∃m,W 0 m [] H)/\∀i m ys H,W i m ys H->
   ((Itz K a b).stop i H/\ys.length<=sizeLine/\∀p,H p=none->Z p ys H)\/
   ((Itz K a b).go i H/\∃N:N6->Hp->Prop,(∀f H',N f H'->∃t,t<m/\W (i+1) t f H')/\∀x H',(Itz K a b).yld i H x H'->g x (capS k ci A) H' λc H2=>z c H2 λb j=>
    if b=true then w c j λv n=>ys.length<sizeLine/\N (ys++[v]) n else N ys j):=by
 refine⟨λi m ys H=>m=xs.length-i/\i<=xs.length/\d i ys H,⟨xs.length,by simp,vB _,B⟩,?_⟩;rintro i m ys H ⟨rfl,E,p⟩;let⟨q,r⟩:=F i ys H E p;by_cases l:i<xs.length
 .refine .inr ⟨⟨xs,xs[i],zs,zs[i],q,by simp[l],r,by simp⟩,d (i+1),λf H' I=>⟨xs.length-(i+1),⋯,rfl,l,I⟩,λx H' y=>?_⟩;let⟨T,u,v,rfl,C,e,y,J⟩:=y;exact G i u v ys H T H' (y xs q) (J zs r) p (λb o h=>by rw[e,je (jf h C)];exact h) (by rw[e];exact jm)
 .have e:i=xs.length:=⋯
  subst e;exact .inl ⟨⟨xs,zs,q,r,.inl (vA _)⟩,D ys H p⟩
section
variable{X:Cx}{e:Expr}{te:TE}
def tRevS(K:Frg)(te:TE)(ts:TO):TE:=λσ H Q=>te σ H λx H1=>ts σ H1 λst H2=>st=some (-1)/\∃a xs,x = .ref a/\SqL K H2 a xs/\∀p,H2 p=none->Q (.ref p) (upd H2 p (.lst xs.reverse))
def j4W{xs:N6}{us:N4}(h:Vals xs us):Vals xs.reverse us.reverse:=by
 induction h with
 | nil=>exact .nil
 | cons r _ ih=>rw[reverse_cons,reverse_cons];exact ih.append (.cons r .nil)
def j6M{st:Expr}{n:TO}{m pos:Pos}(z:PE X e te)(A:PO X (some st) n):PE X (.Subscript e (.Slice none none (some st) m) pos) (tRevS X.K te n):=by
 intro c s f H Q I h;refine Subscript_ (thn (z c s f H _ I h) λv K z_=>?_);obtain⟨x,p,u,J,G⟩:=z_;refine wpAny_Slice ?_;rw[evalPart_none];refine ui ?_;refine ui ?_;refine thn (A c K f p _ u G) λj d z_=>?_;obtain⟨M,t,w,F,i,a,L,y,B,q⟩:=z_
 subst i y;cases J;have g:Inv X c f t {d with heap:=d.heap.push {cls:=.type "slice",data:=.fields #[.none,.none,j]}}:=w.kept (t':=d.toks) λb E q=>vL _ q
 let⟨D,r,l,C⟩:=g.list B;have k:=r.length;show wpAny (model X.prog X.w) X.A (subscriptTail e (.Slice none none (some st) m) (.ref a) (.ref d.heap.objs.size)) (EP X c f Q) X.xe {d with heap:=d.heap.push {cls:=.type "slice",data:=.fields #[.none,.none,j]}};refine tail_any (ops:=[.ref a,.ref d.heap.objs.size]) l.isList.typeIs slot_list_getitem.lookup ?_ (by with_unfolding_all rfl);refine wpAny_getItem_list_slice l.isList (Heap.IsSliceOf.new ..) .none .none F nofun ?_ (by rw[size_toArray]<;>lia);rw[PySem.W.krv_pick];refine⟨.ref (d.heap.push {cls:=.type "slice",data:=.fields #[.none,.none,j]}).objs.size,_,g.laid (t':=d.toks) (o:=.lst L.reverse) (λb E q=>vL _ q) (vA _) ?_,rfl,q _ (g.hok.fresh (vA _))⟩;exact⟨by rw[List.length_reverse];exact C,_,0,j4W r,Heap.get?_push_size _ rfl⟩
end
def rd_revS{K:Frg}{c:TE}{d:TO}{b:St}{H:Hp}{Q:VK}(h:c b H λx H1=>d b H1 λst H2=>st=some (-1)/\∃a xs,x = .ref a/\SqL K H2 a xs/\∀p,H2 p=none->Q (.ref p) (upd H2 p (.lst xs.reverse))):tRevS K c d b H Q:=h
def j0U{K:Frg}{i j k:Nat}{a:Addr}{x y z:V}{b:St}{H:Hp}{R:St->Hp->Prop}(e:SqT K H a [x,y,z])(h:gName i x b H λZ' H'=>gName j y Z' H' λZ' H'=>gName k z Z' H' R):gTup K 3 (gCons (gName i) (gCons (gName j) (gCons (gName k) gNil))) (.ref a) b H R:=
 ⟨a,[x,y,z],rfl,e,rfl,x,[y,z],rfl,y,[z],rfl,z,[],rfl,rfl,h⟩
def j6U{K:Frg}{i j k l:Nat}{a:Addr}{x y z w:V}{b:St}{H:Hp}{R:St->Hp->Prop}(e:SqT K H a [x,y,z,w])(h:gName i x b H λZ' H'=>gName j y Z' H' λZ' H'=>gName k z Z' H' λZ' H'=>gName l w Z' H' R):gTup K 4 (gCons (gName i) (gCons (gName j) (gCons (gName k) (gCons (gName l) gNil)))) (.ref a) b H R:=
 ⟨a,[x,y,z,w],rfl,e,rfl,x,[y,z,w],rfl,y,[z,w],rfl,z,[w],rfl,w,[],rfl,rfl,h⟩
abbrev IsZipK(h:Heap)(z TI TO T:Addr)(f:Bool):Prop:=h.get? z=some {cls:=.type "zip",dict:=none,data:=.fields #[rawInt T,.bool f,.bool false,.ref TI,.ref TO],slots:=#[]}
section
variable{prog:Program}{w:World}{A:Around}{E:Value->Shared->Prop}{s:Shared}
def Yg{z TI TO T:Addr}{f:Bool}{i:Obj}(hz:IsZipK s.heap z TI TO T f)(h:s.heap.get? T=some i) :
  wpAny (model prog w) A (Builtin.SmallTypes.ownedTupleIsFree (.ref z)) (λa g=>a=false/\∃b,g={s with heap:=b}/\IsZipK b z TI TO T true/\Heap.SameBut z s.heap b) E s:=by
 unfold Builtin.SmallTypes.ownedTupleIsFree;refine uj (wpAny_field hz rfl (x:=rawInt T) rfl ?_);show wpAny _ _ (loadIfAlive ((T:Int).toNat) >>= _) _ _ _;rw[Int.toNat_natCast];refine uj (kdx_alive h ?_);simp only[Option.isNone_some,Bool.false_eq_true,if_false];refine uj (wpAny_field hz rfl (x:=.bool f) rfl ?_);cases f with
 | true=>
  rw[va (show¬((Value.bool true != Value.bool true)=true)from vH)];exact ui ⟨rfl,_,rfl,hz,Heap.SameBut.refl ..⟩
 | false=>
  rw[vc (show(Value.bool false != Value.bool true)=true from rfl)];refine uj (wpAny_setField_rec hz (by simp) λe c d=>?_);exact ui ⟨rfl,e,rfl,c,d⟩
def j1a:typeLookup (.type "zip") "__len__"= pure none:=by rw[typeLookup_type,builtinLookup_eq_fast];kernel_rfl
def X4:typeLookup (.type "zip") "__length_hint__"= pure none:=by rw[typeLookup_type,builtinLookup_eq_fast];kernel_rfl
def ZPs(h:Heap)(lo:Nat)(as:N2)(xs ys:Array Value):Prop:=as.Pairwise (· < ·)/\(∀a∈as,lo<=a/\a<h.objs.size)/\∀(j:Nat) (a:Addr),as[j]?=some a->∃x y,xs[j]?=some x/\ys[j]?=some y/\IsPair h a x y
end
section
variable{X:Cx}{tg:Expr}
end
section
variable{X:Cx}
end
section
variable{prog:Program}{w:World}{A:Around}{E:Value->Shared->Prop}{s:Shared}
end
section
variable{X:Cx}{pos:Pos}
end
end L2
namespace Sp
open PySem PySem.Builtin.Str PySem.StrLaws
noncomputable def pos(c:Nat):Nat->N1->N1
 | _,[]=>[]
 | k,a::r=>if a=c then k::pos c (k+1) r else pos c (k+1) r
theorem KH{c:Nat}:∀{k:Nat} {w r:N1},c∉w->pos c k (w++r)=pos c (k+w.length) r
 | k,[],r,_=>rfl
 | k,a::w,r,h=>by
  have b:¬a=c:=λe=>h (by rw[e];exact vq)
  rw[List.cons_append,pos,va b,KH λe=>h (vp _ e),vR];congr 1;lia
def xj{c k:Nat}{r:N1}:pos c k (c::r)=k::pos c (k+1) r:=by rw[pos,vc rfl]
def j23{x:Str}{c i:Nat}:subAt x ⟨#[c]⟩ i=true↔x.cps.toList[i]?=some c:=by
 unfold subAt;rw[beq_iff_eq];show x.cps.extract i (i+1) = #[c]↔_;constructor
 .intro h;have a:(x.cps.extract i (i+1))[0]?=some c:=by rw[h];rfl
  rw[Array.getElem?_extract]at a;split at a
  .rw[Array.getElem?_toList];simpa using a
  .cases a
 .intro h;rw[Array.getElem?_toList]at h;have d:i<x.cps.size:=(Array.getElem?_eq_some_iff.mp h).1;refine Array.ext ?_ ?_
  .simp;lia
  .intro j a b;have:j=0:=by simp at b;lia
   subst this;have e:=(Array.getElem?_eq_some_iff.mp h).2;simp[e]
theorem KD{x:Str}{c:Nat}:∀(l:N1) (k:Nat) (st:Array Nat×Nat),x.cps.toList.drop k=l->k+l.length=x.length->st.1.size<=k->st.2<=k->
  (forIn (List.range' k (l.length+1)) st (occBody x ⟨#[c]⟩ x.length (x.length+1))).run.1.toList=st.1.toList++pos c k l
 | [],k,st,_,hk,h1,h2=>by
  rw[show List.range' k (([]:N1).length+1)=[k]from rfl,forIn_cons];unfold occBody;rw[va (λh=>by have:k+1<=x.length:=h.1.2;have:k+0=x.length:=hk;lia)];rw[pos,append_nil];rfl
 | a::l,k,st,hd,hk,h1,h2=>by
  rw[vR]at hk;have d:x.cps.toList[k]?=some a:=by
   have:=congrArg (λl=>l[0]?) hd;simpa using this
  have b:x.cps.toList.drop (k+1)=l:=by
   rw[<-List.drop_drop,hd];rfl
  rw[show List.range' k ((a::l).length+1)=k::List.range' (k+1) (l.length+1)from rfl,forIn_cons];by_cases e:a=c
  .subst e;unfold occBody;rw[vc ⟨⟨⟨by show st.1.size<x.length+1;lia,h2⟩,by show k+1<=x.length;lia⟩,j23.mpr d⟩,xj];have:=KD (c:=a) l (k+1) (st.1.push k,k+1) b ⋯ (by rw[Array.size_push];lia) (vA _);rw[show st.1.toList++k::pos a (k+1) l=(st.1.push k).toList++pos a (k+1) l by simp,<-this];rfl
  .unfold occBody;rw[va (λh=>e (vN (d.symm.trans (j23.mp h.2)))),pos,va e];exact KD l (k+1) st b ⋯ ⋯ ⋯
def WY(x:Str)(c:Nat):occurrences x ⟨#[c]⟩ 0 x.length (x.length+1)=pos c 0 x.cps.toList:=by
 rw[occ_eq];have:=KD (x:=x) (c:=c) x.cps.toList 0 (#[],0) rfl (by rw[Nat.zero_add];rfl) (vA _) (vA _);rw[show x.length+1-0=x.cps.toList.length+1 from rfl];simpa using this
noncomputable def glue(c:Nat):List N1->N1
 | []=>[]
 | [w]=>w
 | w::v::r=>w++c::glue c (v::r)
noncomputable def cutAll(x:Str)(st:Nat)(cuts:N1):N3:=((st::cuts.map (· + 1)).zip (cuts++[x.length])).map λ(i,j)=>strSub x i j
def j3w{x:Str}{st k:Nat}{a:N1}:cutAll x st (k::a)=strSub x st k::cutAll x (k+1) a:=rfl
def j22{x:Str}{p w r:N1}(h:x.cps.toList=p++(w++r)):strSub x p.length (p.length+w.length)=⟨w.toArray⟩:=by
 unfold strSub;congr 1;apply Array.toList_inj.mp;rw[Array.toList_extract,h];simp[List.extract]
theorem j1j{x:Str}{c:Nat}:∀(ws:List N1) (p:N1),ws≠[]->(∀w∈ws,c∉w)->x.cps.toList=p++glue c ws->cutAll x p.length (pos c p.length (glue c ws))=ws.map λw=>⟨w.toArray⟩
 | [],_,h,_,_=>uh rfl h
 | [w],p,_,hw,hx=>by
  have e:pos c p.length (glue c [w])=[]:=by
   have:=KH (k:=p.length) (r:=[]) (hw w vq);rw[append_nil]at this;exact this
  rw[e];have a:x.cps.toList=p++(w++[]):=by rw[hx,append_nil];rfl
  have d:x.length=p.length+w.length:=by
   have:=congrArg List.length hx;rw[vm]at this;exact this
  show[strSub x p.length x.length]=_;rw[d,j22 a];rfl
 | w::v::r,p,_,hw,hx=>by
  have e:pos c p.length (glue c (w::v::r))=(p.length+w.length)::pos c (p.length+w.length+1) (glue c (v::r)):=by
   show pos c p.length (w++c::glue c (v::r))=_;rw[KH (hw w vq),xj]
  have a:x.cps.toList=p++(w++c::glue c (v::r)):=hx;have b:=j1j (x:=x) (c:=c) (v::r) (p++(w++[c])) (by simp) (λy f=>hw y (vp _ f)) (by rw[a];simp);rw[show(p++(w++[c])).length=p.length+w.length+1 by simp;lia]at b;rw[e,j3w,j22 a,b];rfl
def j4G{x:Str}{c:Nat}{ws:List N1}(h:ws≠[])(hw:∀w∈ws,c∉w)(a:x.cps.toList=glue c ws):partsBetween x (occurrences x ⟨#[c]⟩ 0 x.length (x.length+1)) 1=ws.map λw=>⟨w.toArray⟩:=by
 rw[WY,a];exact j1j ws [] h hw a
end Sp
namespace L2
open PySem PySem.Spec PyProof.Rows
section
variable{X:Cx}
theorem Wk:∀(ws:N3) (k:Nat),Vals (ws.map V.str) (strsFrom k ws)
 | [],_=>.nil
 | x::r,k=>.cons ⟨k,rfl⟩ (Wk r (k+1))
def j3Z:MtR X "str.split" (λx vs H Q=>∃(z:Str) (c:Nat) (v w:N1) (ws:List N1),x = .str z/\vs=[.str ⟨#[c]⟩]/\c<256/\(∀u∈v::w::ws,c∉u)/\z.cps.toList=Sp.glue c (v::w::ws)/\ws.length+2<=sizeLine/\z.length<=sizeLine/\
  ∀p,H p=none->Q (.ref p) (upd H p (.lst (((v::w::ws).map λu=>(⟨u.toArray⟩:Str)).map V.str)))):=by
 intro g s K H x vs C G Q I A y h;let⟨z,c,v,w,ws,rfl,rfl,k,f,a,d,n,q⟩:=h;let⟨t,rfl⟩:=A;let⟨u,rfl,B,rfl⟩:=vals1 y;have i:=Sp.j4G (x:=z) (c:=c) (ws:=v::w::ws) (by simp) f a;have J:1<=z.length:=by
  have:z.length=(Sp.glue c (v::w::ws)).length:=by rw[<-a];rfl
  rw[this];show 1<=(v++c::Sp.glue c (w::ws)).length;rw[vm,vR];lia
 have r:Builtin.Str.strKind ⟨#[c]⟩=1:=by
  unfold Builtin.Str.strKind;rw[vc (by simpa using k)]
 have D:1<=Builtin.Str.strKind z:=by
  unfold Builtin.Str.strKind;split
  .exact vA _
  .split<;>decide
 have j:(decide (z.length<(⟨#[c]⟩:Str).length)||decide (Builtin.Str.strKind z<Builtin.Str.strKind ⟨#[c]⟩))=false:=by
  rw[r];show(decide (z.length<1)||decide (Builtin.Str.strKind z<1))=false;rw[vJ (show¬z.length<1 by lia),vJ (show¬Builtin.Str.strKind z<1 by lia)];rfl
 have l:(Builtin.Str.occurrences z ⟨#[c]⟩ 0 z.length (z.length+1)).isEmpty=false:=by
  rw[Sp.WY,a];show(Sp.pos c 0 (v++c::Sp.glue c (w::ws))).isEmpty=false;rw[Sp.KH (f v vq),Sp.xj];rfl
 have m:(Builtin.Str.partsBetween z (Builtin.Str.occurrences z ⟨#[c]⟩ 0 z.length (z.length+1)) (⟨#[c]⟩:Str).length).length<=sizeLine:=by
  show(Builtin.Str.partsBetween z _ 1).length<=_;rw[i,vt];exact d
 refine call_meets F.slot_str_split (typeIs_str _ _ _) F.entry_str_split (F.args_str_split_2 _ _) (meets_str_split_sep z ⟨#[c]⟩ t B j rfl l n m) ?_;rw[show(⟨#[c]⟩:Str).length=1 from rfl,i];refine⟨.ref s.heap.objs.size,_,I.laid (o:=.lst (((v::w::ws).map λu=>(⟨u.toArray⟩:Str)).map V.str)) (λb E e=>vL _ e) (vA _) ?_,rfl,q _ (I.hok.fresh (vA _))⟩;exact⟨by rw[vt,vt];exact d,_,0,Wk _ _,Heap.get?_push_size _ rfl⟩
end
noncomputable def ev{α:Type}:List α->List α
 | []=>[]
 | [a]=>[a]
 | a::_::r=>a::ev r
theorem j1p{c:Type}:∀l:List c,(List.range ((l.length+1)/2)).filterMap (λj=>l[2*j]?)=ev l
 | []=>by simp[ev]
 | [a]=>by simp[ev,range_succ]
 | a::b::r=>by
  rw[show((a::b::r).length+1)/2=(r.length+1)/2+1 by rw[vR,vR];lia,List.range_succ_eq_map,filterMap_cons];show a::_=_;rw[List.filterMap_map];show a::List.filterMap (λj=>(a::b::r)[2*(j+1)]?) _=a::ev r;rw[<-j1p r];rfl
theorem WM{c:Type}:∀l:List c,(ev l).length<=l.length
 | []=>vA _
 | [a]=>vA _
 | a::b::r=>by
  have:=WM r;show(ev r).length+1<=r.length+1+1;lia
theorem j29:∀{xs:N6} {us:N4},Vals xs us->Vals (ev xs) (ev us)
 | _,_,.nil=>.nil
 | _,_,.cons r .nil=>.cons r .nil
 | _,_,.cons r (.cons _ t)=>.cons r (j29 t)
def j4i(items:Array Value)(k:Nat)(a:k<=items.size):slicePick items (some (k:Int)) none (some 2)=(ev (items.toList.drop k)).toArray:=by
 unfold slicePick;have b:sliceBounds (some (k:Int)) none (some 2) items.size=((k:Int),(items.size:Int),2):=by
  unfold sliceBounds;simp only[Option.getD_some];rw[va (show¬((k:Int)<0) by lia),vc (show(2:Int)>0 by decide),vc (show(2:Int)>0 by decide)];congr 1;lia
 rw[b];show((sliceRange (k:Int) (items.size:Int) 2).filterMap (items[·]?)).toArray=_;congr 1;rw[<-j1p];unfold sliceRange;have c:((if(2:Int)>0 then(if(k:Int)<(items.size:Int)then((items.size:Int)-k+2-1)/2 else 0)else(if(k:Int)>(items.size:Int)then((k:Int)-items.size-2-1)/(-2)else 0):Int)).toNat=((items.toList.drop k).length+1)/2:=by
  rw[vc nofun,length_drop,Array.length_toList];split<;>lia
 show(List.map _ (List.range (Int.toNat _))).filterMap _=_;rw[c,List.filterMap_map];congr 1;funext j;show items[((k:Int)+2*(j:Int)).toNat]?=_;rw[List.getElem?_drop,Array.getElem?_toList,show((k:Int)+2*(j:Int)).toNat=k+2*j by lia]
section
variable{X:Cx}{e:Expr}{te:TE}
end
def kHeap{K:Frg}{h:Heap}(x:K.In h):∃i:Heap,(∀b o,K.lookup b=some o->i.get? b=some o)/\∀b o,i.get? b=some o->K.lookup b=some o:=by
 have a:∀b,((Array.range h.objs.size).map λb=>(K.lookup b).getD ⟨.none,none,.freed,#[]⟩)[b]?=if b<h.objs.size then some ((K.lookup b).getD ⟨.none,none,.freed,#[]⟩)else none:=λb=>by
  rw[Array.getElem?_map];by_cases c:b<h.objs.size
  .rw[vc c,Array.getElem?_range,vc c];rfl
  .rw[va c,Array.getElem?_range,va c];rfl
 refine⟨⟨(Array.range h.objs.size).map λb=>(K.lookup b).getD ⟨.none,none,.freed,#[]⟩,h.life⟩,λb o e=>?_,λb o e=>?_⟩
 .have f:=x b o e;have j:=vK f;unfold Heap.get?;show(match((Array.range h.objs.size).map λb=>(K.lookup b).getD ⟨.none,none,.freed,#[]⟩)[b]? with | some ⟨_,_,.freed,_⟩=>none | o=>o)=some o;rw[a,vc j,e];show(match some o with | some ⟨_,_,.freed,_⟩=>none | o=>o)=some o;have k:o.data≠.freed:=λz=>by
   unfold Heap.get? at f;split at f
   .cases f
   .rename_i hn;let⟨c,d,g,l⟩:=o;simp only at z;subst z;exact hn _ _ _ f
  let⟨c,d,g,l⟩:=o;cases g<;>first | rfl | exact uh rfl k
 .unfold Heap.get? at e;have e:(match((Array.range h.objs.size).map λb=>(K.lookup b).getD ⟨.none,none,.freed,#[]⟩)[b]? with | some ⟨_,_,.freed,_⟩=>none | o=>o)=some o:=e;rw[a]at e;split at e
  .cases e
  .split at e
   .cases hk:K.lookup b with
    | none=>rw[hk]at e;rename_i hn _;rw[hk]at hn;rw[vc (by assumption)]at hn;exact uh rfl (hn _ _ _)
    | some o'=>rw[hk]at e;exact e
   .cases e
section
variable{X:Cx}
theorem yj:∀{vs:N4} {a:N3},KTD.Flats vs (a.map PyData.str)->Vals (a.map V.str) vs
 | _,[],.nil=>.nil
 | _,x::r,.cons f t=>.cons (by have f:=f {};cases f;exact⟨_,rfl⟩) (yj t)
def j1y:IxR X (λx y H Q=>∃(a:Addr) (k:Str) (D:List (Str×KTD.Dat)) (f:N3),x = .ref a/\y = .str k/\TabK X.K a D/\KTD.datumAt k D=some (.tup (f.map PyData.str))/\f.length<=100/\∀b,(∀H',SqT X.K H' b (f.map V.str))->Q (.ref b) H):=by
 intro i g w s O H x y v u Q I K L h F;let⟨a,k,D,f,rfl,rfl,T,m,N,q⟩:=h;cases K;let⟨t,rfl⟩:=L;let⟨C,J,r⟩:=kHeap I.kIn;have c:KTD.Here C s.heap a D:=⟨KTD.text_of_look J T,λb o e=>I.kIn b o (r b o e)⟩
 refine tail_any (ops:=[.ref a,.str k t]) c.typeIs slot_dict_getitem.lookup ?_ F;unfold getItem
 try with_reducible refine wpAny_holding ?_
 refine uj (wpAny_sequenceKey c.typeIs nofun ?_);refine uj (wpAny_callSpecial?_slot (name:=Str.ofString "__getitem__") c.typeIs slot_dict_getitem
  (wpAny_call_entry slot_dict_getitem c.typeIs entry_dict_getitem ?_ (args_dict_getitem _ _)))
 show wpAny _ _ (dictGet a (.str k t) >>= _) _ _ s;refine uj (KTD.dictGet_text c (λd v l G=>ui ⟨v,rfl,ui ?_⟩) λp=>by rw[m]at p;cases p);rw[m]at l;cases l;let⟨b,M,rfl,⟨o,z,A,n,B⟩,E⟩:=G;have j:=yj E;refine⟨.ref b,H,I.tok _,rfl,q b λH'=>.inr ⟨o,M.toArray,n,r _ _ z,A,B,?_,by simpa using j⟩⟩;have:=j.length;rw[vt]at this;rw[size_toArray,sizeLine_eq];lia
def j1x:IxR X (λx y H Q=>∃(a:Addr) (k:Str) (D:List (Str×KTD.Dat)) (i:Int),x = .ref a/\y = .str k/\TabK X.K a D/\KTD.datumAt k D=some (.flat (.int i))/\Q (.int i) H):=by
 intro g f n s w H x y v u Q I p r h o;let⟨a,k,D,i,rfl,rfl,T,l,q⟩:=h;cases p;let⟨t,rfl⟩:=r;have b:KTD.Here s.heap s.heap a D:=⟨PySem.W.kt_text_in I.kIn T,λ_ _ e=>e⟩
 refine tail_any (ops:=[.ref a,.str k t]) b.typeIs slot_dict_getitem.lookup ?_ o;unfold getItem
 try with_reducible refine wpAny_holding ?_
 refine uj (wpAny_sequenceKey b.typeIs nofun ?_);refine uj (wpAny_callSpecial?_slot (name:=Str.ofString "__getitem__") b.typeIs slot_dict_getitem
  (wpAny_call_entry slot_dict_getitem b.typeIs entry_dict_getitem ?_ (args_dict_getitem _ _)))
 show wpAny _ _ (dictGet a (.str k t) >>= _) _ _ s;refine uj (KTD.dictGet_text b (λd v j c=>ui ⟨v,rfl,ui ?_⟩) λm=>by rw[l]at m;cases m);rw[l]at j;cases j;have c:=c s.heap;cases c;exact⟨.int i,H,I.tok _,⟨_,rfl⟩,q⟩
end
section
variable{prog:Program}{w:World}{A:Around}{R:Result->Shared->Prop}{I:Addr}{fp wr:N2}{G:Array GenState->Array GenState->Prop}{n:Nat}{P:Nat->Value->Prop}{St:Nat->Shared->Prop}
end
structure Nxt(prog:Program)(w:World)(it:Addr)(fp:N2)(P P':Heap->Prop)(x:Value):Prop where
 run:∀(A:Around) (s:Shared) (Q:Value->Shared->Prop) (E:Value->Shared->Prop),P s.heap->(∀h',P' h'->Heap.SameBut it s.heap h'->Q x {s with heap:=h'})->wpAny (model prog w) A (Builtin.SmallTypes.nextOf (.ref it)) Q E s
 kp:∀h h',P h->(∀b∈fp,∀o,h.get? b=some o->h'.get? b=some o)->P h'
 kp':∀h h',P' h->(∀b∈fp,∀o,h.get? b=some o->h'.get? b=some o)->P' h'
structure ZA(z TI TO i j:Addr)(f g:N2):Prop where
 a1:TI≠z
 a2:TO≠z
 a3:i≠z
 a4:j≠z
 a5:TI≠TO
 a6:TI≠i
 a7:TI≠j
 a8:TO≠i
 a9:TO≠j
 b1:z∉f
 b2:TO∉f
 b3:j∉f
 c1:z∉g
 c2:TO∉g
 c3:i∉g
section
variable{prog:Program}{w:World}{A:Around}{E:Value->Shared->Prop}{s:Shared}
def Ky{it t:Addr}{i:Nat}{xs:Array Value}{x:Value}{Q:Value->Shared->Prop}(a:s.heap.IsTupleIter it t i)(h:s.heap.IsTuple t xs)(j:xs[i]?=some x)
  (f:∀h',h'.IsTupleIter it t (i+1)->Heap.SameBut it s.heap h'->Q x {s with heap:=h'}):wpAny (model prog w) A (Builtin.SmallTypes.nextOf (.ref it)) Q E s:=by
 let⟨o,c,g,b⟩:=id a;let⟨l,e,_,k,d⟩:=h;unfold Builtin.SmallTypes.nextOf;refine uj (wpAny_callSpecial?_slot (name:=Str.ofString "__next__") a.typeIs F.slot_tuple_iterator_next (wpAny_call_entry F.slot_tuple_iterator_next a.typeIs F.entry_tuple_iterator_next ?_ (F.args_tuple_iterator_next_1 _)));show wpAny _ _ (field (.ref it) 0 >>= _) _ _ s;refine uj (wpAny_field c b (x:=.ref t) rfl ?_);show wpAny _ _ (if(Value.ref t==Value.none)=true then _ else _) _ _ s;rw[va (show¬((Value.ref t==Value.none)=true)from vH)];show wpAny _ _ (field (.ref it) 1 >>= _) _ _ s;refine uj (wpAny_field c b (x:=.int i 0) rfl ?_);show wpAny _ _ (seqItems? (.ref t) >>= _) _ _ s;refine uj (wpAny_seqItems e d ?_);simp only[Int.toNat_natCast,j];refine uj (wpAny_setField c b (by simp) (ui ⟨x,rfl,ui (f _ ?_ (Heap.SameBut.update ..))⟩));exact⟨_,Heap.get?_update_self _ c (Obj.isFreed_of_fields (Obj.data_mapFields b _)),(Obj.cls_mapFields ..).trans g,by rw[Obj.data_mapFields b];simp[rawInt]⟩
def wW{it t:Addr}{i:Nat}{xs:Array Value}{Q:Value->Shared->Prop}(h:A.handled=none)(b:s.heap.IsTupleIter it t i)(k:s.heap.IsTuple t xs)(l:xs[i]?=none)
  (j:∀h' e,Heap.ExtBut it s.heap h'->(∃o,h'.get? e=some o/\o.cls = .type "StopIteration")->E (.ref e) {s with heap:=h'}):wpAny (model prog w) A (Builtin.SmallTypes.nextOf (.ref it)) Q E s:=by
 let⟨o,f,n,c⟩:=id b;let⟨q,g,_,p,d⟩:=k;unfold Builtin.SmallTypes.nextOf;refine uj (wpAny_callSpecial?_slot (name:=Str.ofString "__next__") b.typeIs F.slot_tuple_iterator_next (wpAny_call_entry F.slot_tuple_iterator_next b.typeIs F.entry_tuple_iterator_next ?_ (F.args_tuple_iterator_next_1 _)));show wpAny _ _ (field (.ref it) 0 >>= _) _ _ s;refine uj (wpAny_field f c (x:=.ref t) rfl ?_);show wpAny _ _ (if(Value.ref t==Value.none)=true then _ else _) _ _ s;rw[va (show¬((Value.ref t==Value.none)=true)from vH)];show wpAny _ _ (field (.ref it) 1 >>= _) _ _ s;refine uj (wpAny_field f c (x:=.int i 0) rfl ?_);show wpAny _ _ (seqItems? (.ref t) >>= _) _ _ s;refine uj (wpAny_seqItems g d ?_);simp only[Int.toNat_natCast,l];refine uj (wpAny_rule (uj (wpAny_setField f c (by simp) ?_)));show wpAny _ _ (newExc (.type "StopIteration") [] >>= _) _ _ _;refine uj ?_;simp only[newExc,newTuple];refine uj (wpAny_newObj_type ?_ (by size_fits));refine uj (m:=firstArgMember _ _) (wpAny_of_eq (a:=Value.none) (by first | rfl | (simp only[firstArgMember];rfl)) ?_);refine wpAny_newObj_type ?_ (by size_fits);simp only[raiseNew];refine uj (wpAny_handled ?_)
 first | rw[show A.in1.handled=none from h] | rw[h]
 refine uj (ui (wpAny_throw ?_));exact j _ _ (((Heap.SameBut.update ..).extBut.push _).push _) ⟨_,Heap.get?_push_size _ rfl,rfl⟩
def j1I{it t:Addr}{i:Nat}{xs:Array Value}{x:Value}(l:t≠it)(j:xs[i]?=some x):Nxt prog w it [it,t] (λh=>h.IsTupleIter it t i/\h.IsTuple t xs) (λh=>h.IsTupleIter it t (i+1)/\h.IsTuple t xs) x where
 run:=λA s Q E p q=>Ky p.1 p.2 j λd a g=>q d ⟨a,p.2.extBut g.extBut l⟩ g
 kp:=λh d ⟨⟨o,e,r⟩,b,c,f⟩ k=>⟨⟨o,k it (by simp) o e,r⟩,b,k t (by simp) b c,f⟩
 kp':=λh d ⟨⟨o,e,r⟩,b,c,f⟩ k=>⟨⟨o,k it (by simp) o e,r⟩,b,k t (by simp) b c,f⟩
def kI{it t:Addr}{i:Nat}{xs:Array Value}{x:Value}(l:t≠it)(j:xs[i]?=some x):Nxt prog w it [it,t] (λh=>h.IsListIter it t i/\h.IsList t xs) (λh=>h.IsListIter it t (i+1)/\h.IsList t xs) x where
 run:=λA s Q E p q=>wpAny_nextOf_list_item p.1 p.2 j λd a g=>q d ⟨a,p.2.extBut g.extBut l⟩ g
 kp:=λh d ⟨⟨o,e,r⟩,b,c,f⟩ k=>⟨⟨o,k it (by simp) o e,r⟩,b,k t (by simp) b c,f⟩
 kp':=λh d ⟨⟨o,e,r⟩,b,c,f⟩ k=>⟨⟨o,k it (by simp) o e,r⟩,b,k t (by simp) b c,f⟩
def Wn{z TI TO i j:Addr}{f g:N2}{P I R J:Heap->Prop}{x y a b:Value}{Q:Value->Shared->Prop}(G:Nxt prog w i f P I x)(H:Nxt prog w j g R J y)(D:ZA z TI TO i j f g)
  (hz:IsZip s.heap z TI TO .none) (L:IsPair s.heap TI (.ref i) (.ref j)) (M:IsPair s.heap TO a b) (h1:P s.heap) (h2:R s.heap)
  (hQ:∀h',IsZip h' z TI TO (rawInt s.heap.objs.size)->IsPair h' TO x y->I h'->J h'->IsPair h' s.heap.objs.size x y->(∀c o,c≠z->c≠TO->c≠i->c≠j->s.heap.get? c=some o->h'.get? c=some o)->Q (.ref s.heap.objs.size) {s with heap:=h'}) :
  wpAny (model prog w) A (Builtin.«zip.__next__» ⟨[.ref z],[]⟩) (λK s'=>∃v,K = .done (.ret v)/\Q v s') E s:=by
 show wpAny _ _ (field (.ref z) 2 >>= _) _ _ _;refine uj (wpAny_field hz rfl (x:=.bool false) rfl ?_);show wpAny _ _ (field (.ref z) 3 >>= _) _ _ _;refine uj (wpAny_field hz rfl (x:=.ref TI) rfl ?_);refine uj (wpAny_seqItems L rfl ?_);show wpAny _ _ (Builtin.SmallTypes.ownedTupleIsFree (.ref z) >>= _) _ _ _;refine uj ?_;unfold Builtin.SmallTypes.ownedTupleIsFree;refine uj (wpAny_field hz rfl (x:=.none) rfl (ui ?_));simp only[if_true];refine uj (wpAny_rule ?_);refine uj (wpAny_field hz rfl (x:=.ref TO) rfl ?_);refine uj (wpAny_setField_rec hz (by simp) λN U X=>?_)
 replace U:IsZip N z TI TO .ellipsis:=U
 refine uj ?_;simp only[List.zipIdx_cons,List.zipIdx_nil,forIn_cons,forIn_nil];have p:∀c o,c≠z->s.heap.get? c=some o->N.get? c=some o:=λc o n=>X.extBut c o n
 refine uj (uj (wpAny_onRaise ?_));show wpAny _ _ (Builtin.SmallTypes.nextOf (.ref i) >>= _) _ _ _;refine uj (G.run _ _ _ _ (G.kp _ _ h1 λb d o q=>p b o (λe=>D.b1 (e▸d)) q) λO p2 Y=>ui ?_);have r:∀c o,c≠i->N.get? c=some o->O.get? c=some o:=λc o n=>Y.extBut c o n
 have t2:IsPair O TO a b:=r _ _ D.a8 (p _ _ D.a2 M);refine uj (wpAny_seqItems t2 rfl ?_);refine uj (wpAny_updateSeq_pair t2 λl T Z=>?_)
 replace T:IsPair l TO x b:=T
 have t:∀c o,c≠TO->O.get? c=some o->l.get? c=some o:=λc o n=>Z.extBut c o n
 refine uj (wpAny_letGo (ui ?_));refine uj (uj (wpAny_onRaise ?_));show wpAny _ _ (Builtin.SmallTypes.nextOf (.ref j) >>= _) _ _ _;have r3:R l:=H.kp _ _ h2 λb d o q=>t b o (λe=>D.c2 (e▸d)) (r b o (λe=>D.c3 (e▸d)) (p b o (λe=>D.c1 (e▸d)) q))
 refine uj (H.run _ _ _ _ r3 λS p4 e4=>ui ?_);have u:∀c o,c≠j->l.get? c=some o->S.get? c=some o:=λc o n=>e4.extBut c o n
 have t4:IsPair S TO x b:=u _ _ D.a9 T;refine uj (wpAny_seqItems t4 rfl ?_);refine uj (wpAny_updateSeq_pair t4 λh m e5=>?_)
 replace m:IsPair h TO x y:=m
 have B:∀c o,c≠TO->S.get? c=some o->h.get? c=some o:=λc o n=>e5.extBut c o n
 refine uj (wpAny_letGo (ui (ui ?_)));refine uj (wpAny_seqItems m rfl ?_);refine uj (wpAny_newTuple (hsz:=by show 2<=sizeLine;decide) ?_);have sz:h.objs.size=s.heap.objs.size:=by rw[e5.1,e4.1,Z.1,Y.1,X.1]
 have z5:IsZip h z TI TO .ellipsis:=B _ _ D.a2.symm (u _ _ D.a4.symm (t _ _ D.a2.symm (r _ _ D.a3.symm U)));show wpAny _ _ (Builtin.SmallTypes.ownedTupleHandOut (.ref z) (.ref h.objs.size) >>= _) _ _ _;refine uj ?_;unfold Builtin.SmallTypes.ownedTupleHandOut;have z6:IsZip (h.push {cls:=.type "tuple",data:=.seq #[x,y]}) z TI TO .ellipsis:=vL _ z5;refine uj (wpAny_setField_rec z6 (by simp) λk7 W e7=>?_)
 replace W:IsZip k7 z TI TO (rawInt h.objs.size):=W
 refine wpAny_setField_rec W (by simp) λk F e8=>?_
 replace F:IsZip k z TI TO (rawInt h.objs.size):=F
 have C:∀c o,c≠z->h.get? c=some o->k.get? c=some o:=λc o n q=>e8.extBut c o n (e7.extBut c o n (vL _ q))
 have nz:h.objs.size≠z:=vP (vK z5);have t8:IsPair k h.objs.size x y:=e8.extBut _ _ nz (e7.extBut _ _ nz (Heap.get?_push_size _ rfl));have p8:I k:=G.kp' _ _ p2 λb d o q=>C b o (λe=>D.b1 (e▸d)) (B b o (λe=>D.b2 (e▸d)) (u b o (λe=>D.b3 (e▸d)) (t b o (λe=>D.b2 (e▸d)) q)))
 have r8:J k:=H.kp' _ _ p4 λb d o q=>C b o (λe=>D.c1 (e▸d)) (B b o (λe=>D.c2 (e▸d)) q)
 refine ui ⟨_,rfl,?_⟩;show Q (.ref h.objs.size) _;rw[sz]at F t8|-;exact hQ k F (C _ _ D.a2 m) p8 r8 t8 λc o n1 n2 n3 n4 q=>C c o n1 (B c o n2 (u c o n4 (t c o n2 (r c o n3 (p c o n1 q)))))
def X1{z TI TO i j:Addr}{f g:N2}{a b:Value}{Q:Fin->Shared->Prop}(D:ZA z TI TO i j f g)(P:Heap->Prop)(M:∀h h',P h->(∀b∈f,∀o,h.get? b=some o->h'.get? b=some o)->P h')
  (k:∀(s:Shared) (Q:Value->Shared->Prop) (E:Value->Shared->Prop),P s.heap->(∀h' e,Heap.ExtBut i s.heap h'->(∃o,h'.get? e=some o/\o.cls = .type "StopIteration")->E (.ref e) {s with heap:=h'})->wpAny (model prog w) A (Builtin.SmallTypes.nextOf (.ref i)) Q E s)
  (hz:IsZip s.heap z TI TO .none) (m:IsPair s.heap TI (.ref i) (.ref j)) (G:IsPair s.heap TO a b) (C:P s.heap)
  (F:∀h' e,(∀c o,c≠z->c≠TO->c≠i->c≠j->s.heap.get? c=some o->h'.get? c=some o)->(∃o,h'.get? e=some o/\o.cls = .type "StopIteration")->E (.ref e) {s with heap:=h'}) :
  wpAny (model prog w) A (Builtin.«zip.__next__» ⟨[.ref z],[]⟩) Q E s:=by
 show wpAny _ _ (field (.ref z) 2 >>= _) _ _ _;refine uj (wpAny_field hz rfl (x:=.bool false) rfl ?_);show wpAny _ _ (field (.ref z) 3 >>= _) _ _ _;refine uj (wpAny_field hz rfl (x:=.ref TI) rfl ?_);refine uj (wpAny_seqItems m rfl ?_);show wpAny _ _ (Builtin.SmallTypes.ownedTupleIsFree (.ref z) >>= _) _ _ _;refine uj ?_;unfold Builtin.SmallTypes.ownedTupleIsFree;refine uj (wpAny_field hz rfl (x:=.none) rfl (ui ?_));simp only[if_true];refine uj (wpAny_rule ?_);refine uj (wpAny_field hz rfl (x:=.ref TO) rfl ?_);refine uj (wpAny_setField_rec hz (by simp) λJ n r=>?_)
 replace n:IsZip J z TI TO .ellipsis:=n
 refine uj ?_;simp only[List.zipIdx_cons,List.zipIdx_nil,forIn_cons,forIn_nil];refine uj (uj (wpAny_onRaise ?_));show wpAny _ _ (Builtin.SmallTypes.nextOf (.ref i) >>= _) _ _ _;refine uj (k _ _ _ (M _ _ C λb H o q=>r.extBut b o (λe=>D.b1 (e▸H)) q) λK e u I=>?_);let⟨N,d,l⟩:=I;have v:IsZip K z TI TO .ellipsis:=u _ _ D.a3.symm n;have B:e≠z:=λq=>by subst q;rw[v]at d;cases d;simp at l
 exact wpAny_setField_rec v (by simp) λL _ t=>F L e (λc o p _ y _ q=>t.extBut _ _ p (u _ _ y (r.extBut _ _ p q))) ⟨N,t.extBut _ _ B d,l⟩
noncomputable abbrev zT1(h:Heap)(t:Addr):Heap:=h.push {cls:=.type "tuple_iterator",data:=.fields #[.ref t,.int 0 0]}
noncomputable abbrev zT2(h:Heap)(t l:Addr):Heap:=(zT1 h t).push {cls:=.type "list_iterator",data:=.fields #[.ref l,.int 0 0]}
noncomputable abbrev zT3(h:Heap)(t l:Addr):Heap:=(zT2 h t l).push {cls:=.type "tuple",data:=.seq #[.ref h.objs.size,.ref (zT1 h t).objs.size]}
noncomputable abbrev zT4(h:Heap)(t l:Addr):Heap:=(zT3 h t l).push {cls:=.type "tuple",data:=.seq #[.none,.none]}
noncomputable abbrev zT5(h:Heap)(t l:Addr):Heap:=(zT4 h t l).push {cls:=.type "zip",data:=.fields #[.none,.bool false,.bool false,.ref (zT2 h t l).objs.size,.ref (zT3 h t l).objs.size]}
def j0z(t l:Addr)(xs ys:Array Value):Meets (Builtin.«zip.__new__» ⟨[.type "zip",.ref t,.ref l],[]⟩) (λ_ R s=>s.heap.IsTuple t xs/\s.heap.IsList l ys/\R (.ok (.ret (.ref (zT4 s.heap t l).objs.size))) {s with heap:=zT5 s.heap t l}):=
 .of_wp λe w A R s h=>by
  let⟨a,g,d,f,c⟩:=s;let⟨k,m,h⟩:=h;have b:=sub_zip;have i:Heap.IsTuple (Shared.heap ⟨a,g,d,f,c⟩) t xs:=k;have j:Heap.IsList (Shared.heap ⟨a.push {cls:=.type "tuple_iterator",data:=.fields #[.ref t,.int 0 0]},g,d,f,c⟩) l ys:=Heap.IsList.push m _
  wp_walk using wpAny_pyIter_tuple i,wpAny_pyIter_list j
  exact⟨_,rfl,h⟩
def wI{t l:Addr}{xs ys:Array Value}{Q:Value->Shared->Prop}(q1:s.heap.IsTuple t xs)(q2:s.heap.IsList l ys)
  (h:∀h',IsZip h' (s.heap.objs.size+4) (s.heap.objs.size+2) (s.heap.objs.size+3) .none->IsPair h' (s.heap.objs.size+2) (.ref s.heap.objs.size) (.ref (s.heap.objs.size+1))->IsPair h' (s.heap.objs.size+3) .none .none->
   h'.IsTupleIter s.heap.objs.size t 0->h'.IsListIter (s.heap.objs.size+1) l 0->(∀c o,s.heap.get? c=some o->h'.get? c=some o)->Q (.ref (s.heap.objs.size+4)) {s with heap:=h'}):wpAny (model prog w) A (call (.type "zip") [.ref t,.ref l]) Q E s:=by
 refine callType_new F.called_zip nofun (F.typeCall_zip_2 _ _) (F.newCall_zip_2 _ _) (λg=>F.args_object_init_3 g _ _) F.entry_zip_new (j0z t l xs ys) ⟨q1,q2,?_⟩;have d:(zT1 s.heap t).objs.size=s.heap.objs.size+1:=Heap.size_push ..;have e:(zT2 s.heap t l).objs.size=s.heap.objs.size+2:=by rw[Heap.size_push,d]
 have f:(zT3 s.heap t l).objs.size=s.heap.objs.size+3:=by rw[Heap.size_push,e]
 have m:(zT4 s.heap t l).objs.size=s.heap.objs.size+4:=by rw[Heap.size_push,f]
 have a:∀{h:Heap} {o p:Obj} {c:Addr},h.get? c=some o->(h.push p).get? c=some o:=λq=>vL _ q
 have b:(zT5 s.heap t l).get? (zT4 s.heap t l).objs.size=some _:=Heap.get?_push_size _ rfl;have k:(zT5 s.heap t l).get? (zT3 s.heap t l).objs.size=some _:=a (Heap.get?_push_size _ rfl);have j:(zT5 s.heap t l).get? (zT2 s.heap t l).objs.size=some _:=a (a (Heap.get?_push_size _ rfl));have i:(zT5 s.heap t l).get? (zT1 s.heap t).objs.size=some _:=a (a (a (Heap.get?_push_size _ rfl)));have n:(zT5 s.heap t l).get? s.heap.objs.size=some _:=a (a (a (a (Heap.get?_push_size _ rfl))));show _/\_;rw[e,f,m]at b;rw[d,e]at j;rw[f]at k;rw[d]at i;rw[m];exact⟨⟨_,b,rfl⟩,h _ b j k ⟨_,n,rfl,rfl⟩ ⟨_,i,rfl,rfl⟩ λc o x=>a (a (a (a (a x))))⟩
end
def Izt(K:Frg)(a b:Addr):It:=
 ⟨λi H=>∃xs x ys y,SqT K H a xs/\xs[i]?=some x/\SqL K H b ys/\ys[i]?=some y,
  λi H x H'=>∃T u v,x = .ref T/\H T=none/\H'=upd H T (.tup [u,v])/\(∀xs,SqT K H a xs->xs[i]?=some u)/\∀ys,SqL K H b ys->ys[i]?=some v,
  λi H=>∃xs,SqT K H a xs/\xs.length<=i⟩
def j3e{P:Program}{w:World}{K:Frg}{J:List Expr}{k:Nat}{pos:Pos}(t l z TI TO j m:Addr)(D:ZA z TI TO j m [j,t] [m,l])(a8:t≠j)(a9:l≠m) :
  Turn P w K (.Tuple J k pos) (Izt K t l) [z,TI,TO,j,m] z (λi h=>IsZip h z TI TO .none/\IsPair h TI (.ref j) (.ref m)/\(∃a b,IsPair h TO a b)/\h.IsTupleIter j t i/\h.IsListIter m l i) where
 mem:=by simp
 obj:=λi h C b g=>by
  let⟨A,d,⟨a,c,f⟩,⟨o1,e1,_,d1⟩,o2,e2,_,d2⟩:=C;rcases(by simpa using g:b=z\/b=TI\/b=TO\/b=j\/b=m)with rfl | rfl | rfl | rfl | rfl
  .exact⟨_,A,λv z=>by cases z⟩
  .exact⟨_,d,λv z=>by cases z⟩
  .exact⟨_,f,λv z=>by cases z⟩
  .exact⟨o1,e1,λv z=>by rw[d1]at z;cases z⟩
  .exact⟨o2,e2,λv z=>by rw[d2]at z;cases z⟩
 keep:=λi h h' ⟨A,d,⟨a,c,f⟩,G,L⟩ k=>⟨k z (by simp) _ A,k TI (by simp) _ d,⟨a,c,k TO (by simp) _ f⟩,G.at λo q=>k j (by simp) o q,L.at λo q=>k m (by simp) o q⟩
 item:=by
  intro X Y hw W O i M s σ H E I Z C hg;subst Y hw W;let⟨xs,x,ys,y,S,hx,hr,U⟩:=hg;let⟨B,rv,p,_⟩:=I.tuple S;let⟨a7,ab,p',_⟩:=I.list hr;let⟨u,hu,ru⟩:=rv.get hx;let⟨v,hv,aa⟩:=ab.get U;let⟨A,d,⟨a,c,f⟩,G,L⟩:=C;have lt:∀b∈[z,TI,TO,j,m],b<s.heap.objs.size:=λb g=>by
   rcases(by simpa using g:b=z\/b=TI\/b=TO\/b=j\/b=m)with rfl | rfl | rfl | rfl | rfl
   .exact vK A
   .exact vK d
   .exact vK f
   .let⟨o,e,_⟩:=G;exact vK e
   .let⟨o,e,_⟩:=L;exact vK e
  have n:s.TypeIs (.ref z) "zip":=⟨_,A,rfl⟩
  unfold pyNext;refine uj (wpAny_attempt (wpAny_callSpecial?_slot (name:=Str.ofString "__next__") n F.slot_zip_next (wpAny_call_entry F.slot_zip_next n F.entry_zip_next ?_ (F.args_zip_next_1 _))));refine Wn (j1I a8 (x:=u) (xs:=B.toArray) (by simpa using hu)) (kI a9 (x:=v) (xs:=a7.toArray) (by simpa using hv)) D A d f ⟨G,p⟩ ⟨L,p'.isList⟩ λh' a1 a2 a3 a4 a5 R=>ui ?_
  let⟨I1,f1⟩:=I.pair (t':=s.toks) (ch:=[z,TI,TO,j,m]) (x:=x) (y:=y) Z lt ru aa a5
   (λb o g q=>R b o (λe=>g (by simp[e])) (λe=>g (by simp[e])) (λe=>g (by simp[e])) (λe=>g (by simp[e])) q)
  refine⟨_,rfl,wpAny_letOwnedTupleGo_zip a1 λh3 a6 N=>?_⟩;have I2:=I1.turnedL (h':=h3) (t':=s.toks) (ch:=[z,TI,TO,j,m]) f1 λb o g q=>(N.2 b λe=>g (by simp[e])).trans q
  exact⟨.ref s.heap.objs.size,_,I2,rfl,⟨_,x,y,rfl,I.hok.fresh (vA _),rfl,(λys U=>by rw[I.tuple_inj U S];exact hx),λys a0=>by rw[I.list_inj a0 hr];exact U⟩,
   ⟨a6,(N.2 TI D.a1).trans (R TI _ D.a1 D.a5 D.a6 D.a7 d),⟨_,_,(N.2 TO D.a2).trans a2⟩,a3.1.at λo q=>(N.2 j D.a3).trans q,a4.1.at λo q=>(N.2 m D.a4).trans q⟩,λb g=>(f1 b g).1⟩
 done:=by
  intro X Y hw W O i M s σ H E I Z C hg;subst Y hw W;let⟨xs,S,hl⟩:=hg;let⟨B,rv,p,_⟩:=I.tuple S;let⟨A,d,⟨a,c,f⟩,G,L⟩:=C;have ac:=rv.length;have n:s.TypeIs (.ref z) "zip":=⟨_,A,rfl⟩
  unfold pyNext;refine uj (wpAny_attempt (wpAny_callSpecial?_slot (name:=Str.ofString "__next__") n F.slot_zip_next (wpAny_call_entry F.slot_zip_next n F.entry_zip_next ?_ (F.args_zip_next_1 _))));refine X1 D (λh=>h.IsTupleIter j t i/\h.IsTuple t B.toArray) (λh h' ⟨⟨o,e,r⟩,o',e',r'⟩ k=>⟨⟨o,k j (by simp) o e,r⟩,o',k t (by simp) o' e',r'⟩)
   (λs Q E p q=>wW (I.ok.hd O) p.1 p.2 (by simp;lia) q) A d f ⟨G,p⟩ λh' e R he=>?_
  let⟨o,ho,O⟩:=he;refine uj (wpAny_isInstance (T:="StopIteration") (b:=true) ⟨o,ho,O⟩ isSubtype_stop ?_);exact ui ⟨rfl,I.turnedL (t':=s.toks) (ch:=[z,TI,TO,j,m]) Z λb o g q=>R b o (λe=>g (by simp[e])) (λe=>g (by simp[e])) (λe=>g (by simp[e])) (λe=>g (by simp[e])) q⟩
 self:=λ_ _ _ _ _ C h=>wpAny_pyIter_zip C.1 h
def iZipT(K:Frg)(ta:TA):TI:=λσ H R=>ta σ H λvs H1=>∃a b xs ys,vs=[.ref a,.ref b]/\SqT K H1 a xs/\SqL K H1 b ys/\R (Izt K a b) H1
def j1M{X:Cx}{a b:Expr}{F:TA}{m:List Expr}{k:Nat}{p pos A:Pos}(P:Gl X "zip")(S:X.mg "zip"= none)(N:PA X [a,b] F)(W:starEach [a,b] X.env=[(false,eval a X.env),(false,eval b X.env)]:=by rfl)(w:starEach [b] X.env=[(false,eval b X.env)]:=by rfl) :
  PI X (.Tuple m k A) (.Call (.Name "zip" p) [a,b] [] pos) (iZipT X.K F):=by
 intro z s σ H R I h;refine Call_ (qb I P S j0a (PyProof.Rows.callWith_type1 (thn (N pos z s σ H _ I h) λus d ⟨vs,G,g,r1,q1⟩=>?_) (by rw[W,w]) (by rw[w];rfl)));let⟨t,l,xs,ys,rfl,T,U,q⟩:=q1;let⟨u,w',rfl,r,r'⟩:=vals2 r1;cases r;cases r';let⟨Z,rv,p,hz⟩:=g.tuple T;let⟨a0,a6,E,Y⟩:=g.list U;have B:t<d.heap.objs.size:=by let⟨o,e,_⟩:=id p;exact vK e
 have y:l<d.heap.objs.size:=by let⟨o,e,_⟩:=id E.isList;exact vK e
 refine wI p E.isList λh' C J K L M Q=>?_
 refine wpAny_pyIter_zip C ?_;have f:∀{x:Addr} (i:Nat),x<d.heap.objs.size->d.heap.objs.size+i≠x:=λi h=>vP (Nat.lt_of_lt_of_le h (Nat.le_add_right _ _))
 have D:ZA (d.heap.objs.size+4) (d.heap.objs.size+2) (d.heap.objs.size+3) d.heap.objs.size (d.heap.objs.size+1) [d.heap.objs.size,t] [d.heap.objs.size+1,l]:=
  ⟨jN nofun,jN nofun,jN (i:=0) nofun,jN nofun,jN nofun,jN (j:=0) nofun,jN nofun,jN (j:=0) nofun,jN nofun,
   by simp[jN (n:=d.heap.objs.size) (i:=4) (j:=0) nofun,f 4 B],by simp[f 3 B],by simp[f 1 B],
   by simp[f 4 y],by simp[f 3 y],by simp[f 0 y,Nat.ne_of_gt y]⟩
 refine⟨d.heap.objs.size+4,[d.heap.objs.size+4,d.heap.objs.size+2,d.heap.objs.size+3,d.heap.objs.size,d.heap.objs.size+1],_,_,G,rfl,g.kept (t':=d.toks) Q,
  j3e t l _ _ _ _ _ D (vG B) (vG (Nat.lt_succ_of_lt y)),⟨C,J,⟨_,_,K⟩,L,M⟩,λc O=>?_,q⟩
 have v:d.heap.objs.size<=c:=by
  rcases(by simpa using O:c=d.heap.objs.size+4\/c=d.heap.objs.size+2\/c=d.heap.objs.size+3\/c=d.heap.objs.size\/c=d.heap.objs.size+1)with rfl | rfl | rfl | rfl | rfl<;>lia
 exact g.fpOk v (g.hok.fresh v)
def rd_iZipT{K:Frg}{c:TA}{d:St}{H:Hp}{R:It->Hp->Prop}(h:c d H λvs H1=>∃a b xs ys,vs=[.ref a,.ref b]/\SqT K H1 a xs/\SqL K H1 b ys/\R (Izt K a b) H1):iZipT K c d H R:=h
def wL{K:Frg}{a b:Addr}{xs zs:N6}{k:Nat}{ci:N1}{g:TG}{z:TT}{w:TE}{A:St}{H:Hp}{Z:Addr->N6->Hp->Prop}(d:Nat->N6->Hp->Prop)(r:xs.length=zs.length)(B:d 0 [] H)(F:∀i ys H,i<=xs.length->d i ys H->SqT K H a xs/\SqL K H b zs)
  (G:∀i u v ys H T H',xs[i]?=some u->zs[i]?=some v->d i ys H->Same H H'->H' T=some (.tup [u,v])->g (.ref T) (capS k ci A) H' λc H2=>z c H2 λb j=>if b=true then w c j λv n=>ys.length<sizeLine/\d (i+1) (ys++[v]) n else d (i+1) ys j)
  (D:∀ys H,d xs.length ys H->ys.length<=sizeLine/\∀p,H p=none->Z p ys H) :
  ∃W:Nat->Nat->N6->Hp->Prop,(∃m,W 0 m [] H)/\∀i m ys H,W i m ys H->
   ((Izt K a b).stop i H/\ys.length<=sizeLine/\∀p,H p=none->Z p ys H)\/
   ((Izt K a b).go i H/\∃N:N6->Hp->Prop,(∀f H',N f H'->∃s,s<m/\W (i+1) s f H')/\∀x H',(Izt K a b).yld i H x H'->g x (capS k ci A) H' λc H2=>z c H2 λb j=>
    if b=true then w c j λv n=>ys.length<sizeLine/\N (ys++[v]) n else N ys j):=by
 refine⟨λi m ys H=>m=xs.length-i/\i<=xs.length/\d i ys H,⟨xs.length,by simp,vB _,B⟩,?_⟩;rintro i m ys H ⟨rfl,E,p⟩;let⟨q,t⟩:=F i ys H E p;by_cases l:i<xs.length
 .refine .inr ⟨⟨xs,xs[i],zs,zs[i],q,by simp[l],t,by simp⟩,d (i+1),λf H' I=>⟨xs.length-(i+1),⋯,rfl,l,I⟩,λx H' y=>?_⟩;let⟨T,u,v,rfl,C,e,y,J⟩:=y;exact G i u v ys H T H' (y xs q) (J zs t) p (λb o h=>by rw[e,je (jf h C)];exact h) (by rw[e];exact jm)
 .have e:i=xs.length:=⋯
  subst e;exact .inl ⟨⟨xs,q,vA _⟩,D ys H p⟩
section
variable{prog:Program}{w:World}{A:Around}{E:Value->Shared->Prop}{s:Shared}
end
section
variable{X:Cx}
end
section
variable{prog:Program}{w:World}{A:Around}{E:Value->Shared->Prop}{s:Shared}
def j5b(a v:Value):checkTypeCall "enumerate" ⟨[a],[(Str.ofString "start",v)]⟩=pure ():=by kernel_rfl
def j6p(a v:Value):checkBuiltinCall "enumerate.__new__" ⟨[.type "enumerate",a],[(Str.ofString "start",v)]⟩=pure ():=by kernel_rfl
def j5a(a b v:Value):argsOk "object.__init__" ⟨[a,b],[(Str.ofString "start",v)]⟩:=by
 unfold argsOk;rw[signature?_of (id:="object.__init__") (n:=['_','_','t','i','n','i','_','_']) (o:=['t','c','e','j','b','o']) (by kernel_rfl) F.owner_object];kernel_rfl
set_option maxRecDepth 100000 in
def Xn(l:Addr)(items:Array Value)(n:Nat)(b:Option Addr)(m:Array (Option Value))(t:Tok) :
  Meets (Builtin.«enumerate.__new__» ⟨[.type "enumerate",.ref l],[(Str.ofString "start",.int 1 t)]⟩) (λ_ R s=>s.heap.get? l=some {cls:=.type "list",dict:=b,data:=.seq items n,slots:=m}/\
   R (.ok (.ret (.ref (s.heap.push {cls:=.type "list_iterator",data:=.fields #[.ref l,.int 0 0]}).objs.size)))
    {s with heap:=(s.heap.push {cls:=.type "list_iterator",data:=.fields #[.ref l,.int 0 0]}).push {cls:=.type "enumerate",data:=.fields #[.none,.bool false,.ref s.heap.objs.size,rawInt 1,.none,.none]}}):=
 .of_wp λi w A R s h=>by
  let⟨j,g,d,o,k⟩:=s;let⟨a,h⟩:=h;have f:=sub_enumerate;have e:Heap.IsList (Shared.heap ⟨j,g,d,o,k⟩) l items:=⟨_,a,rfl,n,rfl⟩
  wp_walk using AutoSeq1.wpAny_loadPart' a
  refine wpAny_stack_any λp=>ui ?_
  split
  .rename_i c _ _ _ _ _;cases(c==Value.type "enumerate")
   .wp_walk using AutoSeq1.wpAny_loadPart' a,wpAny_pyIter_list e
    exact⟨_,rfl,h⟩
   .wp_walk using AutoSeq1.wpAny_loadPart' a,wpAny_pyIter_list e
    exact⟨_,rfl,h⟩
  .wp_walk using AutoSeq1.wpAny_loadPart' a,wpAny_pyIter_list e
   exact⟨_,rfl,h⟩
def Xo{T b:String}{c a v:Value}(i:typeLookup (.type T) "__init__"= pure (some (.builtin "object.__init__")))(j:Bind.madeBy (.type T)=pure (some b))(e:(some b != some "object.__new__")=true) :
  Meets (Builtin.«object.__init__» ⟨[c,a],[(Str.ofString "start",v)]⟩) (λ_ R s=>s.TypeIs c T/\R (.ok (.ret .none)) s):=by
 refine Meets.of_wp λd w A R s g=>?_
 let⟨h,f⟩:=g
 repeat (any_goals (first | assumption | wp_step))
 exact⟨_,rfl,f⟩
set_option maxRecDepth 100000 in
set_option maxHeartbeats 3200000 in
def j0c{l:Addr}{items:Array Value}{t:Tok}{Q:Value->Shared->Prop}(z:s.heap.IsList l items)
  (h:∀h',IsEnum h' (s.heap.objs.size+1) s.heap.objs.size 1 .none->h'.IsListIter s.heap.objs.size l 0->(∀b o,s.heap.get? b=some o->h'.get? b=some o)->Q (.ref (s.heap.objs.size+1)) {s with heap:=h'}) :
  wpAny (model prog w) A (call (.type "enumerate") [.ref l] [(Str.ofString "start",.int 1 t)]) Q E s:=by
 let⟨⟨c,k,y,H⟩,D,m,n,p⟩:=z
 replace m:c = .type "list":=m
 replace p:y = .seq items n:=p
 subst m p;have a:=F.called_enumerate;let⟨c,S,O⟩:=a.mro;have I:=a.made;have J:=a.sub;refine wpAny_call (codeAny_of_tree ?_);show wpAny _ _ (callAny (.type "enumerate") _) _ _ _;refine ui ⟨Code.quiet_builtin _ (by decide +kernel),codeAny_builtin F.entry_type_call ?_⟩;rw[Around.under_plain (weight_type_call_type "enumerate" [.ref l] [(Str.ofString "start",.int 1 t)]) (units_type_call_type "enumerate" [.ref l] [(Str.ofString "start",.int 1 t)])];have K:=a.notType;have L:=a.canCreate;have M:=j5b (.ref l) (.int 1 t)
 repeat (any_goals (first | assumption | wp_step))
 refine codeAny_mono (codeAny_call_builtin a.plain F.entry_enumerate_new (wpAny_of_eq (j6p (.ref l) (.int 1 t)) (Xn l items n k H t prog w A.in1 (wants (λg i=>g = .ref (s.heap.objs.size+1)/\∃h',i={s with heap:=h'}/\IsEnum h' (s.heap.objs.size+1) s.heap.objs.size 1 .none/\h'.IsListIter s.heap.objs.size l 0/\∀b o,s.heap.get? b=some o->h'.get? b=some o) E) s ⟨D,?_⟩))) λr P q=>?_
 .have v:(s.heap.push {cls:=.type "list_iterator",data:=.fields #[.ref l,.int 0 0]}).objs.size=s.heap.objs.size+1:=Heap.size_push ..;have f:=Heap.get?_push_size (s.heap.push {cls:=.type "list_iterator",data:=.fields #[.ref l,.int 0 0]}) (o:={cls:=.type "enumerate",data:=.fields #[.none,.bool false,.ref s.heap.objs.size,rawInt 1,.none,.none]}) rfl;rw[v]at f;exact⟨by rw[v],_,rfl,f,⟨_,vL _ (Heap.get?_push_size _ rfl),rfl,rfl⟩,λb o x=>vL _ (vL _ x)⟩
 cases r with
 | error e=>exact q
 | ok fl=>
  cases fl with
  | ret g=>
   let⟨rfl,h',rfl,f,B,C⟩:=q;have u:Shared.TypeIs {s with heap:=h'} (.ref (s.heap.objs.size+1)) "enumerate":=⟨_,f,rfl⟩
   have N:=a.init.lookup;have k7:=a.init.bind (.ref (s.heap.objs.size+1))
   repeat (any_goals (first | assumption | wp_step))
   refine codeAny_mono (codeAny_call_builtin a.init.plain F.entry_object_init (a.init.check _ _ _ _ _ _ _ _ u (j5a _ _ _) (Xo a.init.lookup a.made nofun prog w A.in1 (wants (λr j=>r = .none/\j={s with heap:=h'}) E) _ ⟨u,rfl,rfl⟩))) λG R d=>?_
   cases G with
   | error e=>exact d
   | ok fl2=>
    cases fl2 with
    | ret r=>
     let⟨rfl,rfl⟩:=d
     repeat (any_goals (first | assumption | wp_step))
     exact h h' f B C
    | _=>exact d.elim
  | _=>exact q.elim
def j0j{e it:Addr}{U:N2}{P T:Heap->Prop}{n:Int}{x c:Value}{Q:Value->Shared->Prop}(N:Nxt prog w it U P T x)(ne:e≠it)(X:e∉U)(K:IsEnum s.heap e it n c)(h1:P s.heap)
  (hQ:∀h',IsEnumOut h' e it (n+1) x s.heap.objs.size->T h'->h'.get? s.heap.objs.size=some {cls:=.type "tuple",data:=.seq #[.int n s.toks,x]}->(∀b o,b≠e->b≠it->s.heap.get? b=some o->h'.get? b=some o)->Q (.ref s.heap.objs.size) {s with heap:=h',toks:=s.toks+1}) :
  wpAny (model prog w) A (Builtin.«enumerate.__next__» ⟨[.ref e],[]⟩) (λJ s'=>∃v,J = .done (.ret v)/\Q v s') E s:=by
 let⟨k,g,d,a,j⟩:=s;show wpAny _ _ (field (.ref e) 2 >>= _) _ _ _;refine uj (wpAny_field K rfl (x:=.ref it) rfl ?_);refine uj (N.run _ _ _ _ h1 λh p1 l=>?_)
 replace l:Heap.SameBut it k h:=l
 have C:IsEnum h e it n c:=(l.2 e ne).trans K;show wpAny _ _ (field (.ref e) 3 >>= _) _ _ ⟨h,g,d,a,j⟩;refine uj (wpAny_field C rfl (x:=rawInt n) rfl ?_);show wpAny _ _ (field (.ref e) 4 >>= _) _ _ ⟨h,g,d,a,j⟩;refine uj (wpAny_field C rfl (x:=.none) rfl ?_);show wpAny _ _ (mkInt n >>= _) _ _ ⟨h,g,d,a,j⟩;refine uj (wpAny_mkInt ?_);show wpAny _ _ (setField (.ref e) 3 (rawInt (n+1)) >>= _) _ _ ⟨h,g,d,a+1,j⟩;refine uj (wpAny_setField_rec C (by simp) λm D u=>?_)
 replace u:Heap.SameBut e h m:=u
 replace D:IsEnum m e it (n+1) c:=D
 show wpAny _ _ (setField (.ref e) 4 .none >>= _) _ _ ⟨m,g,d,a+1,j⟩;refine uj (wpAny_setField_rec D (by simp) λi F y=>?_)
 replace y:Heap.SameBut e m i:=y
 replace F:IsEnum i e it (n+1) c:=F
 show wpAny _ _ (newTuple [.int n a,x] >>= _) _ _ ⟨i,g,d,a+1,j⟩;refine uj (wpAny_newTuple (hsz:=by show 2<=sizeLine;decide) ?_);have t:IsEnum (i.push {cls:=.type "tuple",data:=.seq #[.int n a,x]}) e it (n+1) c:=vL _ F;have Y:i.objs.size=k.objs.size:=by rw[y.1,u.1,l.1]
 have lt:e<k.objs.size:=vK K;have Z:(i.push {cls:=.type "tuple",data:=.seq #[.int n a,x]}).get? k.objs.size=some {cls:=.type "tuple",data:=.seq #[.int n a,x]}:=by rw[<-Y];exact Heap.get?_push_size _ rfl
 have L:∀b o,b≠e->h.get? b=some o->(i.push {cls:=.type "tuple",data:=.seq #[.int n a,x]}).get? b=some o:=λb o f q=>vL _ (y.extBut b o f (u.extBut b o f q))
 generalize i.push {cls:=.type "tuple",data:=.seq #[.int n a,x]}=a4 at t Z L;show wpAny _ _ (Builtin.SmallTypes.ownedTupleIsFree (.ref e) >>= _) _ _ ⟨a4,g,d,a+1,j⟩;rw[Y];refine uj ?_;unfold Builtin.SmallTypes.ownedTupleIsFree;refine uj (wpAny_field t rfl (x:=.none) rfl (ui ?_));simp only[if_true];refine uj (wpAny_rule ?_);refine uj (wpAny_field t rfl (x:=c) rfl ?_);refine uj (wpAny_setField_rec t (by simp) λp G M=>?_)
 replace M:Heap.SameBut e a4 p:=M
 replace G:IsEnum p e it (n+1) x:=G
 show wpAny _ _ (Builtin.SmallTypes.ownedTupleHandOut (.ref e) (.ref k.objs.size) >>= _) _ _ ⟨p,g,d,a+1,j⟩;refine uj ?_;unfold Builtin.SmallTypes.ownedTupleHandOut;refine uj (wpAny_setField_rec G (by simp) λB H O=>?_)
 replace O:Heap.SameBut e p B:=O
 replace H:IsEnumOut B e it (n+1) x k.objs.size:=H
 refine wpAny_setField_rec H (by simp) λr I R=>?_
 replace R:Heap.SameBut e B r:=R
 replace I:IsEnumOut r e it (n+1) x k.objs.size:=I
 have S:∀b o,b≠e->a4.get? b=some o->r.get? b=some o:=λb o f q=>R.extBut b o f (O.extBut b o f (M.extBut b o f q))
 refine uj (wpAny_letGo (ui ⟨_,rfl,hQ r I ?_ (S _ _ (vP lt) Z) λb o W n2 q=>S b o W (L b o W (l.extBut b o n2 q))⟩));exact N.kp' _ _ p1 λb f o q=>S b o (λz=>X (z▸f)) (L b o (λz=>X (z▸f)) q)
end
def Ite1(K:Frg)(a:Addr):It:=
 ⟨λi H=>∃xs x,SqL K H a xs/\xs[i]?=some x,λi H x H'=>∃T v,x = .ref T/\H T=none/\H'=upd H T (.tup [.int (i+1),v])/\∀xs,SqL K H a xs->xs[i]?=some v,λi H=>∃xs,SqL K H a xs/\xs.length<=i⟩
def j16{P:Program}{w:World}{K:Frg}{r:List Expr}{k:Nat}{pos:Pos}(a e it:Addr)(m:e≠it)(na:a≠e)(ni:a≠it) :
  Turn P w K (.Tuple r k pos) (Ite1 K a) [e,it] e (λi h=>(∃c,IsEnum h e it ((i:Nat)+1) c)/\h.IsListIter it a i) where
 mem:=by simp
 obj:=λi h n b f=>by
  let⟨⟨c,g⟩,o,eo,_,d⟩:=n;rcases(by simpa using f:b=e\/b=it)with rfl | rfl
  .exact⟨_,g,λv z=>by cases z⟩
  .exact⟨o,eo,λv z=>by rw[d]at z;cases z⟩
 keep:=λi h h' ⟨⟨c,g⟩,hi⟩ k=>⟨⟨c,k e (by simp) _ g⟩,hi.at λo q=>k it (by simp) o q⟩
 item:=by
  intro X G O D B i A s σ H E I L n M;subst G O D;let⟨xs,x,C,Q⟩:=M;let⟨t,S,p,hz⟩:=I.list C;let⟨u,hu,ru⟩:=S.get Q;let⟨⟨c,g⟩,l⟩:=n;have le:e<s.heap.objs.size:=vK g;have li:it<s.heap.objs.size:=by let⟨o,q,_⟩:=id l;exact vK q
  have j:s.TypeIs (.ref e) "enumerate":=⟨_,g,rfl⟩
  unfold pyNext;refine uj (wpAny_attempt (wpAny_callSpecial?_slot (name:=Str.ofString "__next__") j F.slot_enumerate_next (wpAny_call_entry F.slot_enumerate_next j F.entry_enumerate_next ?_ (F.args_enumerate_next_1 _))));refine j0j (kI ni (x:=u) (xs:=t.toArray) (by simpa using hu)) m (by simp[m,na.symm]) g ⟨l,p.isList⟩ λh' N p' hT hk=>ui ?_
  let⟨Y,U⟩:=I.pair (t':=s.toks+1) (ch:=[e,it]) (x:=.int (i+1)) (y:=x) L (λb f=>by rcases(by simpa using f:b=e\/b=it)with rfl | rfl<;>assumption) ⟨s.toks,rfl⟩ ru hT
   (λb o f q=>hk b o (λz=>f (by simp[z])) (λz=>f (by simp[z])) q)
  refine⟨_,rfl,wpAny_letOwnedTupleGo_enum N λh2 J W=>?_⟩;have Z:=Y.turnedL (h':=h2) (t':=s.toks+1) (ch:=[e,it]) U λb o f q=>(W.2 b λz=>f (by simp[z])).trans q
  exact⟨.ref s.heap.objs.size,_,Z,rfl,⟨_,x,rfl,I.hok.fresh (vA _),rfl,λys hy=>by rw[I.list_inj hy C];exact Q⟩,
   ⟨⟨u,by simpa using J⟩,p'.1.at λo q=>(W.2 it m.symm).trans q⟩,λb f=>(U b f).1⟩
 done:=by
  intro X G O D B i A s σ H E I L n M;subst G O D;let⟨xs,C,Q⟩:=M;let⟨t,S,p,hz⟩:=I.list C;let⟨⟨c,g⟩,l⟩:=n;have hl:=S.length;have j:s.TypeIs (.ref e) "enumerate":=⟨_,g,rfl⟩
  unfold pyNext;refine uj (wpAny_attempt (wpAny_callSpecial?_slot (name:=Str.ofString "__next__") j F.slot_enumerate_next (wpAny_call_entry F.slot_enumerate_next j F.entry_enumerate_next ?_ (F.args_enumerate_next_1 _))));show wpAny _ _ (field (.ref e) 2 >>= _) _ _ _;refine uj (wpAny_field g rfl (x:=.ref it) rfl ?_);refine uj (wpAny_nextOf_list_end (I.ok.hd B) l p.isList (by simp;lia) λh' x eb R=>?_);let⟨o,N,B⟩:=R;refine uj (wpAny_isInstance (T:="StopIteration") (b:=true) ⟨o,N,B⟩ isSubtype_stop ?_);exact ui ⟨rfl,I.turnedL (t':=s.toks) (ch:=[e,it]) L λb o f q=>eb b o (λz=>f (by simp[z])) q⟩
 self:=λ_ _ _ _ _ n h=>let ⟨_,g⟩:=n.1;wpAny_pyIter_enum g h
def iEnum1(K:Frg)(ta:TA)(tk:TE):TI:=λσ H R=>ta σ H λvs H1=>tk σ H1 λy H2=>y = .int 1/\∃a xs,vs=[.ref a]/\SqL K H2 a xs/\R (Ite1 K a) H2
def rd_iEnum1{K:Frg}{c:TA}{d:TE}{b:St}{H:Hp}{R:It->Hp->Prop}(h:c b H λvs H1=>d b H1 λy H2=>y = .int 1/\∃a xs,vs=[.ref a]/\SqL K H2 a xs/\R (Ite1 K a) H2):iEnum1 K c d b H R:=h
def Kj{M:Model}{A:Around}{E:Value->Shared->Prop}{s:Shared}{env:Env}{pos:Pos}{T:String}{e:Expr}{b:List Keyword}{Q:Value->Shared->Prop}
  (h:wpAny M A (spliced (backTo pos (starEach [e] env))) (λvs c=>wpAny M A (evalAll ((backToKw pos (keywordEach b env)).map (·.2))) (λkvs f=>wpAny M A (call (.type T) vs (((backToKw pos (keywordEach b env)).filterMap (·.1)).zip kvs)) Q E f) E c) E s)
  (i:backTo pos (starEach [e] env)=[(false,eval e env)]) (d:(backToKw pos (keywordEach b env)).all (·.1.isSome)=true) (g:(backToKw pos (keywordEach b env)).any (·.1.isNone)=false) :
  wpAny M A (callWith pos (.type T) [] (backTo pos (starEach [e] env)) (backToKw pos (keywordEach b env))) Q E s:=by
 unfold callWith;have q:wpAny M A (evalArgs (.type T) true (backTo pos (starEach [e] env)) (backToKw pos (keywordEach b env))) (λa c=>wpAny M A (call (.type T) a.pos a.kw) Q E c) E s:=by
  rw[i]at h|-;exact evalArgs_kwB d h
 refine uj (wpAny_holding (wpAny_mono q (λa l j=>uj (wpAny_standAt ?_)) λ_ _ x=>x));simp only[g,i,any_cons,List.any_nil,Bool.or_false];refine uj (ui ?_);exact uj (wpAny_mono j (λr m k=>uj (wpAny_holding (wpAny_point (ui k)))) λ_ _ x=>x)
def j4g{X:Cx}{a v:Expr}{B:TA}{C:TE}{i:List Expr}{k:Nat}{p pos l m:Pos}(M:Gl X "enumerate")(N:X.mg "enumerate"= none)(K:PA X [a] B)(Q:PE X v C)(P:starEach [a] X.env=[(false,eval a X.env)]:=by rfl)
  (r:(backToKw pos (keywordEach [⟨some "start",v,m⟩] X.env)).filterMap (·.1)=[Str.ofString "start"]:=by rfl) (j:(backToKw pos (keywordEach [⟨some "start",v,m⟩] X.env)).all (·.1.isSome)=true:=by rfl) (w:(backToKw pos (keywordEach [⟨some "start",v,m⟩] X.env)).any (·.1.isNone)=false:=by rfl) :
  PI X (.Tuple i k l) (.Call (.Name "enumerate" p) [a] [⟨some "start",v,m⟩] pos) (iEnum1 X.K B C):=by
 intro d s D H R I h;refine wpAny_Call_Name_kw (qb I M N yG (Kj (thn (K pos d s D H _ I h) λus Z ⟨vs,E,G,U,T⟩=>?_) (by rw[P];rfl) j w));refine kws_cons (thn (Q d Z D E _ G T) λy f ⟨y',F,g,W,J,b,xs,ev,O,q⟩=>kws_nil ?_);subst J;subst ev;let⟨t,rfl⟩:=W;rw[r];let⟨u,rfl,Y⟩:=vals1 U;cases Y;let⟨S,rv,A,hz⟩:=g.list O;have z:b<f.heap.objs.size:=by let⟨o,e,_⟩:=id A.isList;exact vK e
 refine j0c A.isList λh' x n r=>?_
 refine wpAny_pyIter_enum x ?_;refine⟨f.heap.objs.size+1,[f.heap.objs.size+1,f.heap.objs.size],_,_,F,rfl,g.kept (t':=f.toks) r,j16 b _ _ (Nat.succ_ne_self _) (vG (Nat.lt_succ_of_lt z)) (vG z),⟨⟨_,by simpa using x⟩,n⟩,λc L=>?_,q⟩;rcases(by simpa using L:c=f.heap.objs.size+1\/c=f.heap.objs.size)with rfl | rfl
 .exact g.fpOk (Nat.le_succ _) (g.hok.fresh (Nat.le_succ _))
 .exact g.fpOk (vA _) (g.hok.fresh (vA _))
def j2v{K:Frg}{a:Addr}{xs:N6}{g:TG}{l:TS}{D:Ends}{c:St}{H:Hp}(d:Nat->St->Hp->Prop)(n:d 0 c H)(u:∀i c H,i<=xs.length->d i c H->SqL K H a xs)
  (w:∀i v c H T H',xs[i]?=some v->d i c H->Same H H'->H' T=some (.tup [.int (i+1),v])->g (.ref T) c H' λf H2=>l {D with nx:=d (i+1),ct:=d (i+1),bk:=D.nx} f H2) (s:∀c H,d xs.length c H->D.nx c H) :
  ∃W:Nat->Nat->St->Hp->Prop,(∃m,W 0 m c H)/\∀i m c H,W i m c H->
   ((Ite1 K a).stop i H/\D.nx c H)\/((Ite1 K a).go i H/\∃N:St->Hp->Prop,(∀Z' H',N Z' H'->∃k,k<m/\W (i+1) k Z' H')/\∀x H',(Ite1 K a).yld i H x H'->g x c H' λf H2=>l {D with nx:=N,ct:=N,bk:=D.nx} f H2):=by
 refine⟨λi m c H=>m=xs.length-i/\i<=xs.length/\d i c H,⟨xs.length,by simp,vB _,n⟩,?_⟩;rintro i m c H ⟨rfl,t,p⟩;have q:=u i c H t p;by_cases j:i<xs.length
 .refine .inr ⟨⟨xs,xs[i],q,by simp[j]⟩,d (i+1),λZ' H' z=>⟨xs.length-(i+1),⋯,rfl,j,z⟩,λx H' y=>?_⟩;let⟨T,v,rfl,r,e,y⟩:=y;exact w i v c H T H' (y xs q) p (λb o h=>by rw[e,je (jf h r)];exact h) (by rw[e];exact jm)
 .have e:i=xs.length:=⋯
  subst e;exact .inl ⟨⟨xs,q,vA _⟩,s c H p⟩
section
variable{σ:St}{H:Hp}{D:Ends}{Q:VK}{ta tb te:TE}
def rd_seq(h:t {D with nx:=u D} σ H):tSeq t u D σ H:=h
def rd_asg(h:te σ H λx H1=>g x σ H1 D.nx):tAsg te g D σ H:=h
def rd_v0{r:St}(h:Q v H):tVar 0 (some v::r) H Q:=⟨v,rfl,h⟩
def rd_n0{r:St}{R:St->Hp->Prop}(h:R (some v::r) H):gName 0 v (a0::r) H R:=h
def rd_v1{r:St}(h:Q v H):tVar 1 (a0::some v::r) H Q:=⟨v,rfl,h⟩
def rd_n1{r:St}{R:St->Hp->Prop}(h:R (a0::some v::r) H):gName 1 v (a0::a1::r) H R:=h
def rd_v2{r:St}(h:Q v H):tVar 2 (a0::a1::some v::r) H Q:=⟨v,rfl,h⟩
def rd_n2{r:St}{R:St->Hp->Prop}(h:R (a0::a1::some v::r) H):gName 2 v (a0::a1::a2::r) H R:=h
def rd_v3{r:St}(h:Q v H):tVar 3 (a0::a1::a2::some v::r) H Q:=⟨v,rfl,h⟩
def rd_n3{r:St}{R:St->Hp->Prop}(h:R (a0::a1::a2::some v::r) H):gName 3 v (a0::a1::a2::a3::r) H R:=h
def rd_v4{r:St}(h:Q v H):tVar 4 (a0::a1::a2::a3::some v::r) H Q:=⟨v,rfl,h⟩
def rd_n4{r:St}{R:St->Hp->Prop}(h:R (a0::a1::a2::a3::some v::r) H):gName 4 v (a0::a1::a2::a3::a4::r) H R:=h
def rd_v5{r:St}(h:Q v H):tVar 5 (a0::a1::a2::a3::a4::some v::r) H Q:=⟨v,rfl,h⟩
def rd_n5{r:St}{R:St->Hp->Prop}(h:R (a0::a1::a2::a3::a4::some v::r) H):gName 5 v (a0::a1::a2::a3::a4::a5::r) H R:=h
def rd_v6{r:St}(h:Q v H):tVar 6 (a0::a1::a2::a3::a4::a5::some v::r) H Q:=⟨v,rfl,h⟩
def rd_n6{r:St}{R:St->Hp->Prop}(h:R (a0::a1::a2::a3::a4::a5::some v::r) H):gName 6 v (a0::a1::a2::a3::a4::a5::a6::r) H R:=h
def rd_v7{r:St}(h:Q v H):tVar 7 (a0::a1::a2::a3::a4::a5::a6::some v::r) H Q:=⟨v,rfl,h⟩
def rd_n7{r:St}{R:St->Hp->Prop}(h:R (a0::a1::a2::a3::a4::a5::a6::some v::r) H):gName 7 v (a0::a1::a2::a3::a4::a5::a6::a7::r) H R:=h
def rd_v8{r:St}(h:Q v H):tVar 8 (a0::a1::a2::a3::a4::a5::a6::a7::some v::r) H Q:=⟨v,rfl,h⟩
def rd_n8{r:St}{R:St->Hp->Prop}(h:R (a0::a1::a2::a3::a4::a5::a6::a7::some v::r) H):gName 8 v (a0::a1::a2::a3::a4::a5::a6::a7::a8::r) H R:=h
def rd_const(h:Q v H):tC v σ H Q:=h
def rd_op(h:ta σ H λx H1=>tb σ H1 λy H2=>r x y H2 Q):tOp r ta tb σ H Q:=h
def rd_un{r:V->Hp->VK->Prop}(h:ta σ H λx H1=>r x H1 Q):tUn r ta σ H Q:=h
def rd_i0{g:Int->Int->V}(h:Q (g i j) H):rI0 g (.int i) (.int j) H Q:=⟨i,j,rfl,rfl,h⟩
def j7n{C:Int->Int->Prop}{g:Int->Int->V}(c:C i j)(h:Q (g i j) H):rI C g (.int i) (.int j) H Q:=⟨i,j,rfl,rfl,c,h⟩
def rd_u{g:Int->V}(h:Q (g i) H):rU g (.int i) H Q:=⟨i,rfl,h⟩
def rd_eqI(h:Q (.bl (decide (i=j))) H):rEq (.int i) (.int j) H Q:=by
 refine⟨rfl,?_⟩;rw[show decide (V.int i=V.int j)=decide (i=j) by simp];exact h
def rd_neI(h:Q (.bl (!decide (i=j))) H):rNe (.int i) (.int j) H Q:=by
 refine⟨rfl,?_⟩;rw[show decide (V.int i=V.int j)=decide (i=j) by simp];exact h
def rd_eqS(h:Q (.bl (decide (i=j))) H):rEq (.str i) (.str j) H Q:=by
 refine⟨rfl,?_⟩;rw[show decide (V.str i=V.str j)=decide (i=j) by simp];exact h
def rd_neS{i j:Str}(h:Q (.bl (!decide (i=j))) H):rNe (.str i) (.str j) H Q:=by
 refine⟨rfl,?_⟩;rw[show decide (V.str i=V.str j)=decide (i=j) by simp];exact h
def rd_if(h:c σ H λb H1=>if b=true then t D σ H1 else u D σ H1):tIfS c t u D σ H:=h
def rd_test{R:Bool->Hp->Prop}(h:te σ H λx H'=>∃k,x = .bl k/\R k H'):tTest te σ H R:=h
def rd_tB{R:Bool->Hp->Prop}(h:te σ H λx H'=>∃k,x = .bl k/\R k H'):tB te σ H R:=h
def rd_blP{R:Bool->Prop}(h:R k):∃a,V.bl k = .bl a/\R a:=⟨k,rfl,h⟩
def rd_not{R:Bool->Hp->Prop}(h:t σ H λc H1=>R (!c) H1):tNot t σ H R:=h
def rd_and{R:Bool->Hp->Prop}(h:t σ H λc H1=>if c=true then u σ H1 R else R false H1):tAnd t u σ H R:=h
def rd_or{R:Bool->Hp->Prop}(h:t σ H λc H1=>if c=true then R true H1 else u σ H1 R):tOr t u σ H R:=h
def rd_andV(h:ta σ H λx H1=>∃c,x = .bl c/\if c=true then tb σ H1 Q else Q (.bl false) H1):tAndV ta tb σ H Q:=h
def rd_ifE(h:t σ H λc H1=>if c=true then ta σ H1 Q else tb σ H1 Q):tIf t ta tb σ H Q:=h
def rd_ret(h:te σ H D.rt):tRet te D σ H:=h
def rd_next(h:D.nx σ H):tNext D σ H:=h
def rd_drop(h:te σ H λ_ H1=>D.nx σ H1):tDrop te D σ H:=h
def rd_cb{r:N6->Hp->VK->Prop}(h:t σ H λvs H1=>r vs H1 Q):tCB r t σ H Q:=h
def rd_call{sp:Sp}(h:t σ H λvs H1=>sp (vs++dvs) H1 Q E):tCall sp dvs E t σ H Q:=h
def rd_fld{K:Frg}{f:Str}(h:ta σ H λx H1=>∃a C dx fs v,x = .ref a/\H1 a=some (.ins C dx fs)/\Cls K C/\NoAttr K C f/\fs.lookup f=some v/\Q v H1):tFld K ta f σ H Q:=h
def rd_sfld{K:Frg}{f:Str}(h:tb σ H λy H1=>ta σ H1 λx H2=>∃a C dx fs,x = .ref a/\H2 a=some (.ins C dx fs)/\Cls K C/\NoAttr K C f/\fs.length<1000/\D.nx σ (upd H2 a (.ins C dx (putF f y fs)))):sFld K ta tb f D σ H:=h
def rd_meth{sp:Sp}(h:ta σ H λx H1=>∃a dx fs,x = .ref a/\H1 a=some (.ins C dx fs)/\fs.lookup m=none/\t σ H1 λvs H2=>sp (x::(vs++dvs)) H2 Q E):tMeth C m sp dvs E ta t σ H Q:=h
def rd_make{sp:Sp}(h:t σ H λvs H1=>∀x dx,H1 x=none->H1 dx=none->dx≠x->sp (.ref x::(vs++dvs)) (upd (upd H1 dx (.own x)) x (.ins C dx [])) (λv H2=>v = .non/\Q (.ref x) H2) E):tMake C sp dvs E t σ H Q:=h
def rd_dIn(h:ta σ H λy H1=>tb σ H1 λx H2=>∃a o,x = .ref a/\DGet H2 a y o/\Q (.bl o.isSome) H2):tDIn ta tb σ H Q:=h
def rd_nil{R:N6->Hp->Prop}(h:R [] H):tNil σ H R:=h
def rd_cons{R:N6->Hp->Prop}(h:ta σ H λx H1=>tr σ H1 λxs H2=>R (x::xs) H2):tCons ta tr σ H R:=h
def rd_lst(h:t σ H λxs H1=>xs.length<=sizeLine/\∀p,H1 p=none->Q (.ref p) (upd H1 p (.lst xs))):tLst t σ H Q:=h
def rd_tup(h:t σ H λxs H1=>xs.length<=sizeLine/\∀p,H1 p=none->Q (.ref p) (upd H1 p (.tup xs))):tTup t σ H Q:=h
def rd_chain(h:ta σ H λx H1=>tb σ H1 λy H2=>r x y H2 λz a=>∃k,z = .bl k/\(if k=true then tc σ a λc b=>r' y c b Q else Q (.bl false) a)):tChain r r' ta tb tc σ H Q:=h
def rd_bm{K:Frg}{T:String}{r:V->N6->Hp->VK->Prop}{t:TA}(h:te σ H λx H1=>tyV K T x H1/\t σ H1 λxs H2=>r x xs H2 Q):tBM K T r te t σ H Q:=h
def rd_sl{r:V->Option Int->Option Int->Hp->VK->Prop}(h:te σ H λx H1=>tl σ H1 λl H2=>th σ H2 λu a=>r x l u a Q):tSl r te tl th σ H Q:=h
def rd_nopart{R:Option Int->Hp->Prop}(h:R none H):tNoPart σ H R:=h
def rd_part{R:Option Int->Hp->Prop}(h:te σ H λx H1=>∃i,x = .int i/\R (some i) H1):tPart te σ H R:=h
def rd_int{R:Int->Prop}(h:R i):∃a,V.int i = .int a/\R a:=⟨i,rfl,h⟩
def iteD{p A B:Prop}[Decidable p](a:p->A)(b:¬p->B):if decide p=true then A else B:=by
 by_cases h:p
 .rw[vc (vI h)];exact a h
 .rw[va (by simpa using h)];exact b h
def iteN{p A B:Prop}[Decidable p](a:¬p->A)(b:p->B):if(!decide p)=true then A else B:=by
 by_cases h:p
 .rw[va (by simpa using h)];exact b h
 .rw[vc (by simpa using h)];exact a h
def rd_rng1{a:TA}{R:It->Hp->Prop}(h:a σ H λvs H1=>∃j:Int,vs=[.int j]/\-(2^62)<=j/\j<2^62/\R (Itr 0 j.toNat) H1):iRng1 a σ H R:=h
def rd_iList{K:Frg}{R:It->Hp->Prop}(h:te σ H λx H1=>∃a,x = .ref a/\(∃xs,SqL K H1 a xs)/\R (Itl K a) H1):iList K te σ H R:=h
def rd_p18(h:Q (.int (10^18)) H):rI CPow (λi j=>.int (i^j.toNat)) (.int 10) (.int 18) H Q:=⟨10,18,rfl,rfl,⟨by decide,by decide,by decide⟩,h⟩
def rd_p30(h:Q (.int (10^30)) H):rI CPow (λi j=>.int (i^j.toNat)) (.int 10) (.int 30) H Q:=⟨10,30,rfl,rfl,⟨by decide,by decide,by decide⟩,h⟩
def rd_p60(h:Q (.int (10^60)) H):rI CPow (λi j=>.int (i^j.toNat)) (.int 10) (.int 60) H Q:=⟨10,60,rfl,rfl,⟨by decide,by decide,by decide⟩,h⟩
def rd_aug(h:tVar i σ H λx a=>te σ a λy H1=>ti x y H1 λz H2=>gName i z σ H2 D.nx):tAug i te ti D σ H:=h
def rd_ipI{f:Int->Int->Int}(h:Q (.int (f i j)) H):ipI f (.int i) (.int j) H Q:=⟨i,j,rfl,rfl,h⟩
def rd_for{c:TS} (h:wi σ H λJ H1=>∃W:Nat->Nat->St->Hp->Prop,(∃m,W 0 m σ H1)/\∀i m σ H,W i m σ H->
 (J.stop i H/\D.nx σ H)\/(J.go i H/\∃N:St->Hp->Prop,(∀Z' H',N Z' H'->∃b,b<m/\W (i+1) b Z' H')/\∀x H',J.yld i H x H'->g x σ H' λa H2=>c {D with nx:=N,ct:=N,bk:=D.nx} a H2)):tFor wi g c D σ H:=h
def rd_comp (h:wi σ H λJ H1=>∃W:Nat->Nat->N6->Hp->Prop,(∃m,W 0 m [] H1)/\∀i m ys H,W i m ys H->
 (J.stop i H/\ys.length<=sizeLine/\∀p,H p=none->Q (.ref p) (upd H p (.lst ys)))\/
 (J.go i H/\∃N:N6->Hp->Prop,(∀a H',N a H'->∃e,e<m/\W (i+1) e a H')/\∀x H',J.yld i H x H'->g x (capS n ci σ) H' λc H2=>tf c H2 λb d=>
  if b=true then te c d λv f=>ys.length<sizeLine/\N (ys++[v]) f else N ys d)):tComp wi n ci g tf te σ H Q:=h
def rd_yes{R:Bool->Hp->Prop}(h:R true H):tYes σ H R:=h
def Jb{n:Nat}{ci:N1}{g:TG}{x:V}{Z':St}{R:St->Hp->Prop}(e:capS n ci σ=Z')(h:g x Z' H R):g x (capS n ci σ) H R:=by rw[e];exact h
def jn{t:TS}{Z':St}(e:σ=Z')(h:t D Z' H):t D σ H:=by subst e;exact h
def WL(a:0<b)(d : -B<=x)(e:x<=B) : -B<=x/b/\x/b<=B:=by
 have c:0<=B:=⋯
 constructor
 .rw[Int.le_ediv_iff_mul_le a];have:=Int.mul_le_mul_of_nonneg_left (show(1:Int)<=b by lia) c;rw[Int.neg_mul];lia
 .have:x/b<B+1:=by
   rw[Int.ediv_lt_iff_lt_mul a];have:=Int.mul_le_mul_of_nonneg_left (show(1:Int)<=b by lia) (show 0<=B+1 by lia);lia
  lia
def xr{H H':Hp}(h:H p=none)(e:upd H p o=H'):Same H H':=λb u q=>by rw[<-e,je (jf q h)];exact q
def Zc{H H':Hp}(e:upd H p o=H'):H' p=some o:=by rw[<-e];exact jm
end
def ixLm{K:Frg}{p:Addr}{xs:N6}{i:Int}{v:V}{H:Hp}{Q:VK}(h:SqL K H p xs)(e:atI xs i=some v)(q:Q v H):rIxL K (.ref p) (.int i) H Q:=⟨p,xs,i,v,rfl,rfl,h,e,q⟩
def ixTm{K:Frg}{p:Addr}{xs:N6}{i:Int}{v:V}{H:Hp}{Q:VK}(h:SqT K H p xs)(e:atI xs i=some v)(q:Q v H):rIxT K (.ref p) (.int i) H Q:=⟨p,xs,i,v,rfl,rfl,h,e,q⟩
def zTu{K:Frg}{p:Addr}{xs:N6}{i:Int}{v:V}{H:Hp}{Q:VK}(h:H p=some (.tup xs))(q:Q v H)(e:atI xs i=some v:=by rfl):rIxT K (.ref p) (.int i) H Q:=⟨p,xs,i,v,rfl,rfl,SqT.of h,e,q⟩
end L2
local macro_rules | `(tactic| walk_at "side") => `(tactic| first | with_reducible assumption | exact L2.cdivB (by lia) (by lia) | exact L2.mulOk (by lia) (by lia) (by lia) (by lia) | exact L2.mulOkC (by first | assumption | exact L2.bits_ediv (by assumption) _) (by lia) (by lia) | lia)
local macro_rules | `(tactic| walk_at $s:str) => do
 let ws:=s.getString.splitOn " "
 if ws.head?==some "f" then
  let vs:=if ws.length==3 then["p"++ws.getD 1 "","hp"++ws.getD 1 "","H"++ws.getD 1 "","s"++ws.getD 1 "",ws.getD 2 ""++ws.getD 1 ""]else ws.drop 1
  let i:=λ(k:Nat)=>Lean.mkIdent (Lean.Name.mkSimple (vs.getD k ""))
  return <-`(tactic| (intro $(i 0):ident $(i 1):ident;generalize eH:L2.upd _ $(i 0) _ = $(i 2):ident;have $(i 3):ident:=L2.xr $(i 1) eH;have $(i 4):ident:=L2.Zc eH;clear eH))
 if s.getString != "g" then Lean.Macro.throwUnsupported
 let as <-("rd_seq rd_asg rd_op rd_const rd_i0 rd_cons rd_nil rd_call rd_ret rd_if rd_test rd_tB rd_blP rd_not rd_next rd_v0 rd_v1 rd_v2 rd_v3 rd_v4 rd_v5 rd_v6 rd_v7 rd_v8 rd_un rd_u rd_and rd_or rd_andV rd_ifE rd_drop rd_cb rd_lst rd_tup rd_chain rd_bm rd_sl rd_nopart rd_part rd_eqI rd_neI rd_eqS rd_neS rd_iStr rd_str rd_int rd_rng1 rd_iList rd_ipI rd_aug rd_for rd_comp rd_yes rd_dget rd_iTup rd_sub rd_iEnum rd_iZip rd_dnew rd_dput rd_bm0 rd_tru rd_revS rd_fld rd_sfld rd_meth rd_make rd_dIn rd_iZipT rd_iEnum1 rd_n0 rd_n1 rd_n2 rd_n3 rd_n4 rd_n5 rd_n6 rd_n7 rd_n8 rd_p18 rd_p30 rd_p60".splitOn " ").toArray.mapM λn=>`(Lean.Parser.Tactic.tacticSeq| refine $(Lean.mkIdent (Lean.Name.mkStr2 "L2" n)) ?_)
 `(tactic| repeat first | with_reducible (first $[| $as]*) | (with_reducible refine L2.j7n ?c ?_; (case c => ((try dsimp only); walk_at "side"))))
local macro_rules | `(tactic| exists $e) => `(tactic| (walk_at "g"; refine $e))
local macro_rules | `(tactic| ac_nf) => `(tactic| walk_at "g")
local macro_rules | `(tactic| sleep $n) => `(tactic| walk_at $(Lean.Syntax.mkStrLit s!"f {n.getNat} t"))
local macro_rules | `(tactic| trivial) => `(tactic| decide +kernel)
namespace Fs
end Fs
namespace Rp
end Rp
namespace Rp
end Rp
namespace Pr
open PySem L2
noncomputable def cell(ns:L9)(k:Int):Int:=ns.getD k.toNat 0
inductive sp_cell_at(K:Frg)(vs:N6)(H:Hp)(Q:VK)(xk:XK):Prop
 | mk (a:Addr) (ns:L9) (k:Int) (_:vs=[.ref a,.int k]) (_:SqL K H a (ns.map V.int)) (_:ns.length<=63) (_:0<=k) (_:Q (.int (cell ns k)) H):sp_cell_at K vs H Q xk
def j54{ns:L9}{k:Int}(c:0<=k)(h:k<(ns.length:Int)):atI (ns.map V.int) k=some (.int (cell ns k)):=by
 have b:k=((k.toNat:Nat):Int):=⋯
 have a:k.toNat<ns.length:=⋯
 have q:atI (ns.map V.int) ((k.toNat:Nat):Int)=some (.int ns[k.toNat]):=jM (by rw[vv,vz a]<;>rfl);rw[<-b]at q;rw[q];unfold cell;rw[vy,vz a];rfl
end Pr
namespace Pr
open PySem L2
inductive sp_law(K:Frg)(vs:N6)(H:Hp)(Q:VK)(xk:XK):Prop
 | mk (a:Addr) (ns:L9) (_:vs=[.ref a]) (_:SqL K H a (ns.map V.int)) (_:ns.length<=63) (_:(∀x∈ns,Builtin.Int.intBits x<=1048576)) (_:∀H',Q (.bl true) H'):sp_law K vs H Q xk
end Pr
namespace Pr
open PySem L2
def j5t{ns:L9}{lo hi:Option Int}{x:V}(h:x∈cutV (ns.map V.int) lo hi):∃c∈ns,x = .int c:=by
 have a:x∈ns.map V.int:=List.mem_of_mem_drop (mem_of_mem_take h);let⟨c,b,e⟩:=vM.mp a;exact⟨c,b,e.symm⟩
end Pr
namespace Pr
open PySem L2
def j4x{H:Hp}(h:H p=none)(o:HO):Same H (upd H p o):=λb u q=>by rw[je (jf q h)];exact q
end Pr
namespace Pr
open PySem L2
end Pr
namespace Pr
open PySem L2
end Pr
namespace Pr
open PySem L2
end Pr
namespace Pr
open PySem L2
end Pr
namespace Ws
open PySem PySem.NumText L2
noncomputable def digs:N1:=[48,49,50,51,52,53,54,55,56,57]
noncomputable def figs:Str:="0123456789"
noncomputable def lets:Str:="abcdefghijklmnopqrstuvwxyz"
def j5f:figs.cps.toList=digs:=by trivial
def j3R{c:Nat}:c∈digs↔48<=c/\c<=57:=by
 have a:∀c∈digs,48<=c/\c<=57:=by decide
 have b:∀k,k<58->48<=k->k∈digs:=by decide
 exact⟨a c,λh=>b c (Nat.lt_succ_of_le h.2) h.1⟩
noncomputable def among(x z:Str):Bool:=decide (∀c∈x.cps.toList,c∈z.cps.toList)
noncomputable def isW(x:Str):Bool:=decide (1<=x.length/\x.length<=8)&&among x lets
noncomputable def numV(x:Str)(m:Int):V:=if(1<=x.length/\(x.length:Int)<=m)/\among x figs=true/\¬(x.cps.toList.head?=some 48/\x.length≠1)then .int (digitsVal x.cps.toList:Nat)else .non
def j5B(x:Str)(m:Int):numV x m = .non\/∃i,numV x m = .int i:=by
 unfold numV;split
 .exact .inr ⟨_,rfl⟩
 .exact .inl rfl
def WS(x:Str):x.cps.toList.length=x.length:=Array.length_toList
def Wy{x:Str}(h:among x figs=true):AllDigits x.cps.toList:=λc b=>by
 have a:=of_decide_eq_true h c b;rw[j5f]at a;exact j3R.mp a
theorem intText{x:Str}(h:among x figs=true)(a:1<=x.length)(b:x.length<=200):intText? x=some ((digitsVal x.cps.toList:Nat):Int):=
 intText_digits (Wy h) (λe=>by have:=WS x;rw[e]at this;simp at this;lia) ⋯
def zH:Sp:=λvs H Q _=>∃x z:Str,vs=[.str x,.str z]/\x.length<=200/\∀H',Same H H'->Q (.bl (among x z)) H'
def QD:Sp:=λvs H Q _=>∃x:Str,vs=[.str x]/\x.length<=200/\∀H',Same H H'->Q (.bl (isW x)) H'
inductive sp_number_of(vs:N6)(H:Hp)(Q:VK)(xk:XK):Prop
 | mk (x:Str) (m:Int) (_:vs=[.str x,.int m]) (_:x.length<=200) (_:∀H',Same H H'->Q (numV x m) H'):sp_number_of vs H Q xk
end Ws
namespace Ws
open PySem PySem.NumText L2
def j5C{x:Str}{m:Int}(h:¬((1<=x.length/\(x.length:Int)<=m)/\among x figs=true/\¬(x.cps.toList.head?=some 48/\x.length≠1))):numV x m = .non:=by unfold numV;rw[va h]
def j45{x:Str}{m:Int}(h:(1<=x.length/\(x.length:Int)<=m)/\among x figs=true/\¬(x.cps.toList.head?=some 48/\x.length≠1)):numV x m = .int (digitsVal x.cps.toList:Nat):=by unfold numV;rw[vc h]
def j5m{x:Str}(h:1<=x.length):∃c r,x.cps.toList=c::r/\atI x.cps.toList 0=some c:=by
 have a:=WS x;cases e:x.cps.toList with
 | nil=>rw[e]at a;simp at a;lia
 | cons c r=>exact⟨c,r,rfl,by unfold atI ixN;simp⟩
def j1Z{c:Nat}:(⟨#[c]⟩:Str) = "0"↔c=48:=by
 constructor
 .intro h;have e:(⟨#[c]⟩:Str)=⟨#[48]⟩:=h.trans (by trivial);injection e with e;simpa using e
 .intro h;subst h;decide +kernel
def j2d{x:Str}(h:x.cps.toList.head?=some 48):x = "0"↔x.length=1:=by
 have b:=WS x;constructor
 .intro e;subst e;decide +kernel
 .intro e;have d:x.cps.toList=[48]:=by
   cases q:x.cps.toList with
   | nil=>rw[q]at h;cases h
   | cons c r=>
    rw[q]at h b;have:r.length=0:=by simp at b;lia
    rw[length_eq_zero_iff.mp this];have g:c=48:=vN h;rw[g]
  have f:x=⟨#[48]⟩:=by
   cases x with
   | mk a=>
    congr 1;exact Array.toList_inj.mp d
  rw[f];decide +kernel
end Ws
namespace Ws
open PySem L2
end Ws
namespace Rm
open PySem PySem.NumText PyProof.Rows L2
def j3S:c∈Ws.lets.cps.toList↔97<=c/\c<=122:=by
 rw[show Ws.lets.cps.toList=List.range' 97 26 by trivial,List.mem_range'_1];lia
open PySem L2
def none_of{H H':Hp}(s:Same H H')(h:H' p=none):H p=none:=by
 cases e:H p with
 | none=>rfl
 | some u=>rw[s _ _ e]at h;cases h
inductive Fm where
 | hold (n:Int) | ring (x:Str) (n:Int) | rise (x:Str) (h n:Int) | row (ps:N3) | side (ps:N3) | again (k:Int) (x:Str)
abbrev N5:=List (Str×Fm)
noncomputable def FormAt(H:Hp)(a:Addr):Fm->Prop
 | .hold n=>H a=some (.tup [.str "hold",.int n])
 | .ring x n=>H a=some (.tup [.str "ring",.str x,.int n])
 | .rise x h n=>H a=some (.tup [.str "raise",.str x,.int h,.int n])
 | .row ps=>∃b,H a=some (.tup [.str "row",.ref b])/\H b=some (.tup (ps.map V.str))
 | .side ps=>∃b,H a=some (.tup [.str "side",.ref b])/\H b=some (.tup (ps.map V.str))
 | .again k x=>H a=some (.tup [.str "again",.int k,.str x])
def PartAt(H:Hp)(a:Addr)(p:Str×Fm):Prop:=∃b,H a=some (.tup [.str p.1,.ref b])/\FormAt H b p.2
def LimbAt(H:Hp)(a:Addr)(p:Str×Int):Prop:=H a=some (.tup [.str p.1,.int p.2])
def All2{α:Type}(R:Addr->α->Prop)(as:N2)(xs:List α):Prop:=as.length=xs.length/\∀(i:Nat) (a:Addr) (x:α),as[i]?=some a->xs[i]?=some x->R a x
def All2.nil{b:Type}{R:Addr->b->Prop}:All2 R [] []:=⟨rfl,λi a x h=>by simp at h⟩
def All2.mono{b:Type}{R S:Addr->b->Prop}{as:N2}{xs:List b}(h:All2 R as xs)(k:∀a x,R a x->S a x):All2 S as xs:=⟨h.1,λi a x c d=>k a x (h.2 i a x c d)⟩
def All2.snoc{f:Type}{R:Addr->f->Prop}{as:N2}{xs:List f}{a:Addr}{x:f}(h:All2 R as xs)(k:R a x):All2 R (as++[a]) (xs++[x]):=by
 have j:=h.1;refine⟨by simp[j],λi b y c d=>?_⟩;by_cases g:i<as.length
 .rw[vD g]at c;rw[vD ⋯]at d;exact h.2 i b y c d
 .rw[vE ⋯]at c;rw[vE ⋯]at d;have e:i-as.length=0:=by
   have:=(vx.mp c).1;simp at this;lia
  rw[e]at c;rw[show i-xs.length=0 by lia]at d;simp at c d;subst c d;exact k
def All2.get{b:Type}{R:Addr->b->Prop}{as:N2}{xs:List b}{i:Nat}{x:b}(h:All2 R as xs)(d:xs[i]?=some x):∃a,as[i]?=some a/\R a x:=by
 have e:=(vx.mp d).1;have f:=h.1;have c:as[i]?=some as[i]:=vz ⋯;exact⟨_,c,h.2 i _ _ c d⟩
section
variable{H H':Hp}{z:Ra}{m:Rr}
end
section
variable{m:Rr}{f:Fm}{ks:L9}{g:Int}
def getD_snoc{a:Type}{l:List a}{x d:a}{j:Nat}(h:j<l.length):(l++[x]).getD j d=l.getD j d:=by
 rw[vy,vy,vD h]
end
def ZE{as:N2}{i:Int}{a:Addr}(b:0<=i)(h:as[i.toNat]?=some a):atI (as.map V.ref) i=some (.ref a):=by
 have e:atI (as.map V.ref) ((i.toNat:Nat):Int)=some (.ref a):=jM (by rw[vv,h];rfl);rw[Int.toNat_of_nonneg b]at e;exact e
open PySem PySem.Spec PyProof.Rows L2
theorem YI:∀{ks:L9} {lo hi:Int},ks.Pairwise (· < ·)->(∀k∈ks,lo<=k/\k<hi)->ks.length<=(hi-lo).toNat
 | [],_,_,_,_=>vB _
 | k::r,lo,hi,h,b=>by
  have c:=YI (ks:=r) (lo:=k+1) (hi:=hi) (List.pairwise_cons.mp h).2 λx a=>⟨(List.pairwise_cons.mp h).1 x a,(b x (vp _ a)).2⟩
  have d:=b k vq;rw[vR];lia
theorem j1t(n:Int):∀hs:L9,inV (.int n) (hs.map V.int)=decide (n∈hs)
 | []=>rfl
 | h::r=>by
  have a:=j1t n r;unfold inV at a|-;rw[v9,any_cons,a];have e:eqV (.int h) (.int n)=decide (h=n):=by
   show decide _=_;simp
  rw[e,Bool.eq_iff_iff];simp only[Bool.or_eq_true,decide_eq_true_eq,mem_cons];constructor
  .rintro(x | x)
   .exact .inl x.symm
   .exact .inr x
  .rintro(x | x)
   .exact .inl x.symm
   .exact .inr x
def inI(n:Int)(a:L9):(if false=true then !inV (.int n) (a.map V.int)else inV (.int n) (a.map V.int))=decide (n∈a):=by rw[va nofun,j1t]
theorem flats:∀hs:L9,(hs.map V.int).all flatV=true
 | []=>rfl
 | h::r=>by rw[v9,all_cons,flats r];rfl
def take_snoc{a:Type}{l:List a}{i:Nat}{x:a}(h:l[i]?=some x):l.take (i+1)=l.take i++[x]:=by
 rw[List.take_add_one,h];rfl
def j37{c d:L9}(f:c.Perm d)(g:d.Nodup)(e:c.Pairwise (·<=·)):c.Pairwise (· < ·):=
 (List.Pairwise.and e (f.nodup_iff.mpr g)).imp λ{a b} h=>by have i:=h.1;have j:a≠b:=h.2;lia
def Shp(n:Nat)(d:PyData):Prop:=d.canLay0=true/\d.depth<=n
def Shp.int:Shp 0 (.int i):=⟨rfl,vA _⟩
def Shp.str(h:PyData.strOk x=true):Shp 0 (.str x):=⟨h,vA _⟩
def Shp.mono(h:Shp n d)(a:n<=k):Shp k d:=⟨h.1,vX h.2 a⟩
theorem xz:∀{ds:List PyData},(∀d∈ds,Shp n d)->PyData.canLayAll0 ds=true/\PyData.depthAll ds<=n
 | [],_=>⟨rfl,vB _⟩
 | d::r,h=>by
  have a:=h d vq;have b:=xz (ds:=r) λx c=>h x (vp _ c)
  constructor
  .show(d.canLay0&&PyData.canLayAll0 r)=true;rw[a.1,b.1];rfl
  .show max d.depth (PyData.depthAll r)<=n;exact Nat.max_le.mpr ⟨a.2,b.2⟩
def Shp.tup(h:∀d∈ds,Shp n d):Shp (n+1) (.tuple ds):=⟨(xz h).1,Nat.succ_le_succ (xz h).2⟩
def Shp.ok(h:Shp n d)(a:n<=64):SeqAt.shaped d=true:=by
 unfold SeqAt.shaped;rw[h.1,Bool.true_and];exact vI (vX h.2 a)
def j21(h:Ws.isW x=true):PyData.strOk x=true:=by
 unfold Ws.isW Ws.among at h;rw[Bool.and_eq_true]at h;have a:=of_decide_eq_true h.2;unfold PyData.strOk;rw[Array.all_eq_true_iff_forall_mem];intro c b;have:=j3S.mp (a c (by simpa using b));exact vI ⋯
def j75{x:Str}(h:Ws.isW x=true):x.length<=8:=by
 unfold Ws.isW at h;rw[Bool.and_eq_true]at h;exact(of_decide_eq_true h.1).2
theorem WK{H:Hp}:∀(xs:N3),DVs H (xs.map V.str) (xs.map PyData.str)
 | []=>.nil
 | x::r=>.cons (.str x) (WK r)
def All2.tail{c:Type}{R:Addr->c->Prop}{a:Addr}{x:c}{as:N2}{xs:List c}(h:All2 R (a::as) (x::xs)):R a x/\All2 R as xs:=
 ⟨h.2 0 a x rfl rfl,Nat.succ.inj h.1,λi b y d e=>h.2 (i+1) b y (by simpa using d) (by simpa using e)⟩
noncomputable def FmWs:Fm->Prop
 | .hold n=>0<=n/\n<=10^18
 | .ring x n=>Ws.isW x=true/\0<=n/\n<=10^18
 | .rise x h n=>Ws.isW x=true/\0<=h/\h<=10^18/\0<=n/\n<=10^18
 | .row ps=>ps.length<=8/\∀x∈ps,Ws.isW x=true
 | .side ps=>ps.length<=8/\∀x∈ps,Ws.isW x=true
 | .again k x=>0<=k/\k<=10^18/\Ws.isW x=true
def KU{n:Nat}{xs:N3}(h:∀x∈xs,Ws.isW x=true):∀d∈xs.map PyData.str,Shp n d:=λd a=>by
 let⟨x,b,rfl⟩:=vM.mp a;exact(Shp.str (j21 (h x b))).mono (vB _)
structure BookAt(H:Hp)(b pl pp:Addr)(las pas:N2)(ls:L6)(ps:N5):Prop where
 t:H b=some (.tup [.ref pl,.ref pp])
 l:H pl=some (.lst (las.map V.ref))
 la:All2 (LimbAt H) las ls
 p:H pp=some (.lst (pas.map V.ref))
 pa:All2 (PartAt H) pas ps
def FormAt.same{H H':Hp}(s:Same H H')(h:FormAt H a f):FormAt H' a f:=by
 cases f with
 | row ps=>let⟨b,c,d⟩:=h;exact⟨b,s _ _ c,s _ _ d⟩
 | side ps=>let⟨b,c,d⟩:=h;exact⟨b,s _ _ c,s _ _ d⟩
 | hold n=>exact s _ _ h
 | ring x n=>exact s _ _ h
 | rise x g n=>exact s _ _ h
 | again x n=>exact s _ _ h
def PartAt.same{H H':Hp}(s:Same H H')(h:PartAt H a p):PartAt H' a p:=by
 let⟨b,c,d⟩:=h;exact⟨b,s _ _ c,FormAt.same s d⟩
def BookAt.same{H H':Hp}(B:BookAt H b pl pp las pas ls ps)(s:Same H H'):BookAt H' b pl pp las pas ls ps:=
 ⟨s _ _ B.t,s _ _ B.l,B.la.mono λa x h=>s _ _ h,s _ _ B.p,B.pa.mono λa x h=>PartAt.same s h⟩
noncomputable def tI(n:Int):Str:=Str.ofString (toString n)
noncomputable def bl:Str:=" "
def j3N{n:Int}(a:0<=n)(b:n<=10^18):n.natAbs.log2<1920:=by
 by_cases e:n.natAbs=0
 .rw[e];decide
 .exact(Nat.log2_lt e).mpr (Nat.lt_of_lt_of_le (show n.natAbs<2^60 by lia) (Nat.pow_le_pow_right nofun nofun))
def KW{n:Int}(a:0<=n)(b:n<=10^18):(tI n).length<=19:=toString_length_le a nofun ⋯
def WP(z:Str)(ys:N3):Txt.join z ys=Str.join z ys:=by
 show Builtin.Str.glued z ys=_;rw[StrLaws.glued_eq_join]
theorem Xh(z:Str):∀ys:N3,(Str.join z ys).length<=(ys.map (·.length)).sum+ys.length*z.length
 | []=>vB _
 | [a]=>by
  show a.length<=a.length+0+1*z.length;lia
 | a::b::r=>by
  have c:=Xh z (b::r);show(a++z++Str.join z (b::r)).length<=_;rw[Str.length_append,Str.length_append,v9,uz,vR,Nat.add_mul];lia
def j26{ys:N3}{B:Nat}(h:∀y∈ys,y.length<=B):(ys.map (·.length)).sum<=ys.length*B:=by
 induction ys with
 | nil=>exact vB _
 | cons y r ih=>
  have b:=h y vq;have c:=ih λx a=>h x (vp _ a)
  rw[v9,uz,vR,Nat.add_mul];lia
open PyProof.Rows.KTD (inKeys Dat)
noncomputable def MN:List (Str×Dat):=[("row",.flat (.int 8)),("side",.flat (.int 4))]
def at0:atI (x::xs) 0=some x:=jM (j:=0) rfl
def iteB0{A B:Prop}(e:b=false)(h:B):if b=true then A else B:=by rw[e];exact h
def iteB1{A B:Prop}(e:b=true)(h:A):if b=true then A else B:=by rw[e];exact h
def xZ{x:V}{xs:N6}:cutV (x::xs) (some 1) none=xs:=by
 unfold cutV;rw[show HT.sIx (x::xs).length 0 (some 1)=min 1 (x::xs).length from HT.j5O _ 0 1,show HT.sIx (x::xs).length (x::xs).length none=(x::xs).length from rfl,vR,show min 1 (xs.length+1)=1 by lia];show List.take (xs.length+1-1) xs=xs;rw[Nat.add_sub_cancel,v5]
def All2.at_ref{e:Type}{R:Addr->e->Prop}{as:N2}{xs:List e}{i:Nat}{v:V}(h:All2 R as xs)(c:(as.map V.ref)[i]?=some v):∃a x,v = .ref a/\xs[i]?=some x/\R a x:=by
 rw[vv]at c;let⟨a,b,rfl⟩:=vf.mp c;have f:=(vx.mp b).1;have g:=h.1;have d:xs[i]?=some xs[i]:=vz ⋯;exact⟨a,_,rfl,d,h.2 i a _ b d⟩
theorem ZL:∀{n:Nat} {hs:L9},hs.Nodup->(∀k∈hs,0<=k/\k<(n:Int))->hs.length<=n
 | 0,hs,_,h=>by
  cases hs with
  | nil=>exact vA _
  | cons k r=>have:=h k vq;lia
 | n+1,hs,nd,h=>by
  by_cases e:(n:Int)∈hs
  .have i:=ZL (n:=n) (nd.erase (n:Int)) λk a=>by
    have b:=h k (List.mem_of_mem_erase a);have c:k≠(n:Int):=λz=>nd.not_mem_erase (z▸a)
    lia
   have l:=List.length_erase_of_mem e;lia
  .have i:=ZL (n:=n) nd λk a=>by
    have b:=h k a;have c:k≠(n:Int):=λz=>e (z▸a)
    lia
   lia
noncomputable def Fm.ns:Fm->N3
 | .row ps=>ps
 | .side ps=>ps
 | .again _ x=>[x]
 | _=>[]
noncomputable def numK(xs:N3):List (Key×V):=xs.zipIdx.map λp=>(Sum.inr p.1,.int (p.2:Nat))
def j2M(xs:N3)(x:Str):numK (xs++[x])=numK xs++[(Sum.inr x,.int (xs.length:Nat))]:=by
 unfold numK;rw[List.zipIdx_append,vi];simp
def j44(xs:N3):(numK xs).length=xs.length:=by simp[numK]
def YL(xs:N3):(numK xs).map (·.1)=xs.map Sum.inr:=by
 unfold numK;rw[v6];have e:∀(k:Nat) (xs:N3),(xs.zipIdx k).map ((λx=>x.1)∘λp:Str×Nat=>((Sum.inr p.1:Key),V.int (p.2:Nat)))=xs.map Sum.inr:=λk xs=>by
  induction xs generalizing k with
  | nil=>rfl
  | cons x r ih=>rw[List.zipIdx_cons,v9,v9,ih];rfl
 exact e 0 xs
def j5z{xs:N3}{j:Nat}{x:Str}(h:xs[j]?=some x):(numK xs)[j]?=some (Sum.inr x,.int (j:Nat)):=by
 unfold numK;rw[vv,List.getElem?_zipIdx,h];simp
theorem j4S:∀{kvs:List (Key×V)} {j:Nat} {k:Key} {v:V},(kvs.map (·.1)).Nodup->kvs[j]?=some (k,v)->valV kvs k=some v
 | [],j,k,v,_,h=>by simp at h
 | p::r,0,k,v,_,h=>by
  simp at h;subst h;unfold valV;simp
 | p::r,j+1,k,v,nd,h=>by
  rw[v9,uo]at nd;have a:r[j]?=some (k,v):=by simpa using h
  have c:p.1≠k:=λe=>nd.1 (e▸vM.mpr ⟨(k,v),vj a,rfl⟩)
  have b:=j4S nd.2 a;unfold valV at b|-;rw[List.find?_cons,vJ c];exact b
def Xt{xs:N3}(a:xs.Nodup){j:Nat}{x:Str}(h:xs[j]?=some x):valV (numK xs) (Sum.inr x)=some (.int (j:Nat)):=
 j4S (by rw[YL];exact pairwise_map.mpr (a.imp λh e=>h (Sum.inr.inj e))) (j5z h)
def XI{kvs:List (Key×V)}{k:Key}{v:V}(h:k∉kvs.map (·.1)):putK kvs k v=kvs++[(k,v)]:=by
 unfold putK;rw[va];intro e;let⟨p,b,a⟩:=any_eq_true.mp e;exact h (vM.mpr ⟨p,b,of_decide_eq_true a⟩)
noncomputable def ixOf:N3->Str->Nat
 | [],_=>0
 | y::r,x=>if y=x then 0 else ixOf r x+1
theorem yN:∀{xs:N3} {j:Nat} {x:Str},xs.Nodup->xs[j]?=some x->ixOf xs x=j
 | [],j,x,_,h=>by simp at h
 | y::r,0,x,_,h=>by
  simp at h;subst h;exact vc rfl
 | y::r,j+1,x,nd,h=>by
  rw[uo]at nd;have a:r[j]?=some x:=by simpa using h
  have b:y≠x:=λe=>nd.1 (e▸vj a)
  show(if y=x then 0 else ixOf r x+1)=j+1;rw[va b,yN nd.2 a]
noncomputable def nmsOf{α:Type}(ps:List (Str×α)):N3:=ps.map (·.1)
noncomputable def inP(ps:N5)(f:Fm):N1:=f.ns.map (ixOf (nmsOf ps))
structure WfB(ls:L6)(ps:N5):Prop where
 ln:(nmsOf ls).Nodup
 l8:ls.length<=8
 pn:(nmsOf ps).Nodup
 p61:ps.length<=61
 f:∀(i:Nat) (p:Str×Fm),ps[i]?=some p->(∀x∈p.2.ns,∃j,j<i/\(nmsOf ps)[j]?=some x)/\p.2.ns.length<=8
 r:∀(i:Nat) (y x:Str) (h n:Int),ps[i]?=some (y,.rise x h n)->∃j:Nat,(nmsOf ls)[j]?=some x
def WfB.inP_lt(W:WfB ls ps)(h:ps[i]?=some p)(a:j∈inP ps p.2):j<i:=by
 let⟨x,c,rfl⟩:=vM.mp a;let⟨k,b,e⟩:=(W.f i p h).1 x c;rw[yN W.pn e];exact b
inductive sp_numbers_of(vs:N6)(H:Hp)(Q:VK)(xk:XK):Prop
 | mk (l:Addr) (as:N2) (xs:N3) (_:vs=[.ref l]) (_:H l=some (.lst (as.map V.ref))) (_:as.length=xs.length) (_:(∀(i:Nat) (a:Addr) (x:Str),as[i]?=some a->xs[i]?=some x->∃r,H a=some (.tup [.str x,r]))) (_:xs.Nodup) (_:xs.length<=100) (_:∀(d:Addr) (H':Hp),Same H H'->H d=none->H' d=some (.dK (numK xs))->Q (.ref d) H'):sp_numbers_of vs H Q xk
inductive sp_names_in(vs:N6)(H:Hp)(Q:VK)(xk:XK):Prop
 | mk (a:Addr) (f:Fm) (_:vs=[.ref a]) (_:FormAt H a f) (_:∀(b:Addr) (H':Hp),Same H H'->H' b=some (.tup (f.ns.map V.str))->Q (.ref b) H'):sp_names_in vs H Q xk
def ListsAt(H:Hp)(as:N2)(M:L4):Prop:=All2 (λa ks=>H a=some (.lst (ks.map V.int))) as M
def All2.monoM{c:Type}{R S:Addr->c->Prop}{as:N2}{xs:List c}(h:All2 R as xs)(k:∀a∈as,∀x,R a x->S a x):All2 S as xs:=⟨h.1,λi a x b d=>k a (vj b) x (h.2 i a x b d)⟩
inductive sp_inner(vs:N6)(H:Hp)(Q:VK)(xk:XK):Prop
 | mk (b pl pp:Addr) (las pas:N2) (ls:L6) (ps:N5) (_:vs=[.ref b]) (_:BookAt H b pl pp las pas ls ps) (_:WfB ls ps) (_:∀(l:Addr) (as:N2) (H':Hp),Same H H'->H l=none->H' l=some (.lst (as.map V.ref))->(∀a∈as,H a=none)->ListsAt H' as (ps.map λp=>(inP ps p.2).map λj:Nat=>(j:Int))->Q (.ref l) H'):sp_inner vs H Q xk
def PrsAt(H:Hp)(bs:N2)(e:List (Int×Int)):Prop:=All2 (λb q=>H b=some (.tup [.int q.1,.int q.2])) bs e
def EndsAt(H:Hp)(as:N2)(E:L3):Prop:=All2 (λa e=>∃bs,H a=some (.lst (bs.map V.ref))/\PrsAt H bs e) as E
def LastIn(E:L3)(is:N1)(k v:Int):Prop:=∃pre j post,is=pre++j::post/\(k,v)∈E.getD j []/\∀j'∈post,∀v',(k,v')∉E.getD j' []
def EndIs(ls:L6)(ps:N5)(E:L3)(f:Fm)(k v:Int):Prop:=LastIn E (inP ps f) k v\/∃x n,f = .rise x v n/\k=(ixOf (nmsOf ls) x:Nat)
def EndOk(ls:L6)(ps:N5)(E:L3):Prop:=∀(i:Nat) (p:Str×Fm) (e:List (Int×Int)),ps[i]?=some p->E[i]?=some e->(e.map (·.1)).Pairwise (· < ·)/\∀k v,(k,v)∈e↔EndIs ls ps E p.2 k v
inductive sp_ends(vs:N6)(H:Hp)(Q:VK)(xk:XK):Prop
 | mk (b pl pp:Addr) (las pas:N2) (ls:L6) (ps:N5) (_:vs=[.ref b]) (_:BookAt H b pl pp las pas ls ps) (_:WfB ls ps) (_:∀(l:Addr) (as:N2) (E:L3) (H':Hp),Same H H'->H l=none->H' l=some (.lst (as.map V.ref))->(∀a∈as,H a=none)->E.length=ps.length->EndsAt H' as E->EndOk ls ps E->Q (.ref l) H'):sp_ends vs H Q xk
def MovOk(ls:L6)(ps:N5)(M:L4):Prop:=∀(i:Nat) (p:Str×Fm) (ks:L9),ps[i]?=some p->M[i]?=some ks->ks.Pairwise (· < ·)/\∀k,k∈ks↔(∃j∈inP ps p.2,k∈M.getD j [])\/∃x h n,p.2 = .rise x h n/\k=(ixOf (nmsOf ls) x:Nat)
inductive sp_moved(vs:N6)(H:Hp)(Q:VK)(xk:XK):Prop
 | mk (b pl pp:Addr) (las pas:N2) (ls:L6) (ps:N5) (_:vs=[.ref b]) (_:BookAt H b pl pp las pas ls ps) (_:WfB ls ps) (_:∀(l:Addr) (as:N2) (M:L4) (H':Hp),Same H H'->H l=none->H' l=some (.lst (as.map V.ref))->(∀a∈as,H a=none)->M.length=ps.length->ListsAt H' as M->MovOk ls ps M->Q (.ref l) H'):sp_moved vs H Q xk
def getD_map{E:L3}(j:Nat):(E.map λe=>e.map (·.1)).getD j []=(E.getD j []).map (·.1):=by
 rw[vy,vy,vv];cases E[j]?<;>rfl
def WU{k:Int}{e:List (Int×Int)}:k∈e.map (·.1)↔∃v,(k,v)∈e:=by
 constructor
 .intro h;let⟨p,a,rfl⟩:=vM.mp h;exact⟨p.2,a⟩
 .rintro⟨v,h⟩;exact vM.mpr ⟨_,h,rfl⟩
theorem WR:∀{is:N1},(∃v,LastIn E is k v)↔∃j∈is,∃v,(k,v)∈E.getD j []
 | []=>⟨λ⟨v,b,j,a,e,_⟩=>by cases b<;>simp at e,λ⟨j,h,_⟩=>by simp at h⟩
 | i::r=>by
  have p:=WR (E:=E) (k:=k) (is:=r);constructor
  .rintro⟨v,b,j,a,e,c,m⟩;exact⟨j,by rw[e];simp,v,c⟩
  .rintro⟨j,d,v,n⟩;by_cases q:∃j∈r,∃v,(k,v)∈E.getD j []
   .let⟨l,b,g,a,e,c,m⟩:=p.mpr q;exact⟨l,i::b,g,a,by rw[e];rfl,c,m⟩
   .rcases mem_cons.mp d with rfl | d
    .exact⟨v,[],j,r,rfl,n,λg o l f=>q ⟨g,o,l,f⟩⟩
    .exact uh ⟨j,d,v,n⟩ q
def j6C{ls:L6}{ps:N5}{E:L3}(s:E.length=ps.length)(h:EndOk ls ps E):MovOk ls ps (E.map λe=>e.map (·.1)):=λi p t q d=>by
 rw[vv]at d;let⟨e,o,rfl⟩:=vf.mp d;let⟨a,b⟩:=h i p e q o;refine⟨a,λk=>?_⟩;rw[WU];constructor
 .rintro⟨v,r⟩;rcases(b k v).mp r with z | ⟨x,n,f,g⟩
  .let⟨j,l,m,c⟩:=WR.mp ⟨v,z⟩;exact .inl ⟨j,l,by rw[getD_map];exact WU.mpr ⟨m,c⟩⟩
  .exact .inr ⟨x,v,n,f,g⟩
 .rintro(⟨j,l,d⟩ | ⟨x,h,n,f,g⟩)
  .rw[getD_map]at d;let⟨m,c⟩:=WU.mp d;let⟨v,z⟩:=WR.mpr ⟨j,l,m,c⟩;exact⟨v,(b k v).mpr (.inl z)⟩
  .exact⟨h,(b k h).mpr (.inr ⟨x,n,f,g⟩)⟩
def j1w(h:x∈xs):ixOf xs x<xs.length:=by
 induction xs with
 | nil=>exact nomatch h
 | cons y r ih=>
  show(if y=x then 0 else ixOf r x+1)<r.length+1;split
  .lia
  .rename_i hne;rcases mem_cons.mp h with e | e
   .exact uh e.symm hne
   .have:=ih e;lia
def Kp(W:WfB ls ps)(s:E.length<=ps.length)(h:EndOk ls ps E):∀(i:Nat),∀q∈E.getD i [],0<=q.1/\q.1<(ls.length:Int):=by
 intro i
 induction i using Nat.strongRecOn with
 | ind i ih=>
  intro q a;rw[vy]at a;cases e:E[i]? with
  | none=>rw[e]at a;exact nomatch a
  | some ev=>
   rw[e]at a;have r:=(vx.mp e).1;have f:ps[i]?=some ps[i]:=vz ⋯;let⟨_,b⟩:=h i _ ev f e;rcases(b q.1 q.2).mp a with⟨m,j,k,c,d,_⟩ | ⟨x,n,c,d⟩
   .exact ih j (W.inP_lt f (by rw[c];simp)) _ d
   .have g:ps[i]?=some (ps[i].1,.rise x q.2 n):=by rw[f,<-c]
    let⟨j,l⟩:=W.r i _ _ _ _ g;have o:=j1w (vj l);have p:(nmsOf ls).length=ls.length:=vt _;rw[d];lia
def Xd{ls:L6}{ps:N5}(W:WfB ls ps){E:L3}(f:E.length<=ps.length)(h:EndOk ls ps E){i:Nat}{e:List (Int×Int)}(c:E[i]?=some e):e.length<=8:=by
 have hi:=(vx.mp c).1;have a:=(h i _ e (vz ⋯) c).1;have b:=Kp W f h i;rw[vy,c]at b;have z:=YI (ks:=e.map (·.1)) (lo:=0) (hi:=ls.length) a λk d=>by
  let⟨q,g,rfl⟩:=vM.mp d;exact b q g
 rw[vt]at z;have:=W.l8;lia
noncomputable def putI(kvs:List (Int×Int))(k v:Int):List (Int×Int):=if k∈kvs.map (·.1)then kvs.map (λq=>if q.1=k then(q.1,v)else q)else kvs++[(k,v)]
noncomputable def mergeI(kvs more:List (Int×Int)):List (Int×Int):=more.foldl (λacc q=>putI acc q.1 q.2) kvs
def j4m(kvs:List (Int×Int))(k v:Int):putK (kvs.map iiK) (Sum.inl k) (.int v)=(putI kvs k v).map iiK:=by
 have e:(((kvs.map iiK).any λkv=>decide (kv.1=(Sum.inl k:Key)))=true)↔k∈kvs.map (·.1):=by
  rw[List.any_map,any_eq_true];constructor
  .rintro⟨q,a,h⟩;have b:(Sum.inl q.1:Key)=Sum.inl k:=of_decide_eq_true h;exact vM.mpr ⟨q,a,Sum.inl.inj b⟩
  .intro h;let⟨q,a,rfl⟩:=vM.mp h;exact⟨q,a,vI rfl⟩
 unfold putK putI;by_cases c:k∈kvs.map (·.1)
 .rw[vc (e.mpr c),vc c,v6,v6];refine map_congr_left λq _=>?_
  show(if(Sum.inl q.1:Key)=Sum.inl k then _ else _)=iiK (if q.1=k then(q.1,v)else q);by_cases z:q.1=k
  .rw[vc z,vc (by rw[z])];rfl
  .rw[va z,va (λw=>z (Sum.inl.inj w))]
 .rw[va (λw=>c (e.mp w)),va c,vi];rfl
theorem yk:∀(more kvs:List (Int×Int)),mergeK (kvs.map iiK) (more.map iiK)=(mergeI kvs more).map iiK
 | [],kvs=>rfl
 | q::r,kvs=>by
  show mergeK (putK (kvs.map iiK) (Sum.inl q.1) (.int q.2)) (r.map iiK)=(mergeI (putI kvs q.1 q.2) r).map iiK;rw[j4m,yk r]
def j2Y(kvs:List (Int×Int))(k v:Int)(d:(kvs.map (·.1)).Nodup):((putI kvs k v).map (·.1)).Nodup:=by
 unfold putI;split
 .rw[v6];have e:kvs.map ((λx=>x.1)∘λq=>if q.1=k then(q.1,v)else q)=kvs.map (·.1):=map_congr_left λq _=>by
   show(if q.1=k then(q.1,v)else q).1=q.1;split<;>rfl
  rw[e];exact d
 .rename_i c;rw[vi,nodup_append];exact⟨d,pairwise_singleton _ _,λa f b g e=>c (by rw[show k=b from(vo.mp g).symm,<-e];exact f)⟩
def j3T:(a,b)∈putI kvs k v↔(a=k/\b=v)\/(a≠k/\(a,b)∈kvs):=by
 unfold putI;split
 .rename_i c;rw[vM];constructor
  .rintro⟨q,d,e⟩;by_cases z:q.1=k
   .rw[vc z]at e;cases e;exact .inl ⟨z,rfl⟩
   .rw[va z]at e;subst e;exact .inr ⟨z,d⟩
  .rintro(⟨rfl,rfl⟩ | ⟨f,g⟩)
   .let⟨q,d,e⟩:=vM.mp c;exact⟨q,d,by rw[vc e,e]⟩
   .exact⟨(a,b),g,by rw[va f]⟩
 .rename_i c;rw[vg];constructor
  .rintro(h | h)
   .exact .inr ⟨λe=>c (e▸vM.mpr ⟨(a,b),h,rfl⟩),h⟩
   .cases vo.mp h;exact .inl ⟨rfl,rfl⟩
  .rintro(⟨rfl,rfl⟩ | ⟨_,h⟩)
   .exact .inr (vo.mpr rfl)
   .exact .inl h
theorem wU:∀{more kvs:List (Int×Int)},(kvs.map (·.1)).Nodup->(more.map (·.1)).Nodup->((mergeI kvs more).map (·.1)).Nodup/\∀k v,(k,v)∈mergeI kvs more↔(k,v)∈more\/((∀c,(k,c)∉more)/\(k,v)∈kvs)
 | [],kvs,nd,_=>⟨nd,λk v=>⟨λh=>.inr ⟨(λ_ h=>nomatch h),h⟩,λh=>h.elim (λh=>nomatch h) (·.2)⟩⟩
 | q::r,kvs,nd,nm=>by
  rw[v9,uo]at nm;let⟨a,b⟩:=wU (more:=r) (kvs:=putI kvs q.1 q.2) (j2Y _ _ _ nd) nm.2;refine⟨a,λk v=>(b k v).trans ?_⟩;rw[j3T];have i:∀c,(q.1,c)∉r:=λc h=>nm.1 (vM.mpr ⟨_,h,rfl⟩)
  constructor
  .rintro(h | ⟨f,⟨rfl,rfl⟩ | ⟨g,j⟩⟩)
   .exact .inl (vp _ h)
   .exact .inl vq
   .refine .inr ⟨λc d=>?_,j⟩;rcases mem_cons.mp d with e | e
    .exact g (by rw[<-e])
    .exact f c e
  .rintro(h | ⟨f,g⟩)
   .rcases mem_cons.mp h with e | e
    .refine .inr ⟨λc d=>?_,.inl ⟨by rw[<-e],by rw[<-e]⟩⟩;rw[<-e]at i;exact i c d
    .exact .inl e
   .refine .inr ⟨λc d=>f c (vp _ d),.inr ⟨λe=>?_,g⟩⟩;exact f q.2 (by rw[e];exact vq)
def j0A(b:(ms.map (·.1)).Nodup):mergeI [] ms=ms:=by
 have e:∀(r a:List (Int×Int)),((a++r).map (·.1)).Nodup->mergeI a r=a++r:=by
  intro r
  induction r with
  | nil=>intro a _;exact(append_nil _).symm
  | cons q r ih=>
   intro a b;have c:q.1∉a.map (·.1):=λh=>by
    rw[vi,nodup_append]at b;exact b.2.2 q.1 h q.1 (by simp) rfl
   show mergeI (putI a q.1 q.2) r=_;unfold putI;rw[va c,ih (a++[(q.1,q.2)]) (by rw[List.append_assoc];exact b),List.append_assoc];rfl
 exact e ms [] b
def j2C:LastIn E (is++[j]) k v↔(k,v)∈E.getD j []\/((∀m,(k,m)∉E.getD j [])/\LastIn E is k v):=by
 constructor
 .rintro⟨c,i,a,e,g,l⟩;rcases List.eq_nil_or_concat a with rfl | ⟨b,x,rfl⟩
  .have f:=List.append_inj' (show is++[j]=c++[i]from e) rfl;have n:j=i:=by simpa using f.2
   rw[n];exact .inl g
  .have p:is++[j]=(c++i::b)++[x]:=by rw[e];simp
   have f:=List.append_inj' p rfl;have n:j=x:=by simpa using f.2
   subst n;exact .inr ⟨l j (by simp),c,i,b,f.1,g,λo d=>l o (by simp[d])⟩
 .rintro(h | ⟨g,c,i,a,e,l,q⟩)
  .exact⟨is,j,[],rfl,h,(λ_ h=>nomatch h)⟩
  .refine⟨c,i,a++[j],by rw[e];simp,l,λo d m=>?_⟩;rcases vg.mp d with z | z
   .exact q o z m
   .rw[vo.mp z];exact g m
def Xk(h:∀j∈is,E.getD j []=E'.getD j []):LastIn E is k v->LastIn E' is k v:=by
 rintro⟨c,j,b,e,f,g⟩;refine⟨c,j,b,e,by rw[<-h j (by rw[e];simp)];exact f,λd a=>?_⟩;rw[<-h d (by rw[e];simp[a])];exact g d a
def EndOk.snoc{ls:L6}{ps:N5}(W:WfB ls ps){E:L3}{p:Str×Fm}{e:List (Int×Int)}(h:EndOk ls ps E)(u:ps[E.length]?=some p)(o:(e.map (·.1)).Pairwise (· < ·))
  (r:∀k v,(k,v)∈e↔EndIs ls ps E p.2 k v):EndOk ls ps (E++[e]):=λi q f g c=>by
 have t:i<=E.length:=by
  have:=(vx.mp c).1;rw[vm]at this;exact Nat.le_of_lt_succ this
 have ext:∀j∈inP ps q.2,E.getD j []=(E++[e]).getD j []:=λj l=>(getD_snoc (by have:=W.inP_lt g l;lia)).symm
 have d:∀k v,EndIs ls ps E q.2 k v↔EndIs ls ps (E++[e]) q.2 k v:=λk v=>by
  unfold EndIs;exact⟨λh=>h.imp (Xk ext) id,λh=>h.imp (Xk λj l=>(ext j l).symm) id⟩
 by_cases s:i<E.length
 .rw[vD s]at c;let⟨a,b⟩:=h i q f g c;exact⟨a,λk v=>(b k v).trans (d k v)⟩
 .have n:i=E.length:=⋯
  subst n;rw[vE (vA _),Nat.sub_self]at c;have m:e=f:=by simpa using c
  subst m;rw[u]at g;cases g;exact⟨o,λk v=>(r k v).trans (d k v)⟩
def j3I{H:Hp}(h:FormAt H a f)(d:∀x v n,f≠.rise x v n):∃k xs,H a=some (.tup (.str k::xs))/\decide (k=("raise" : Str))=false:=by
 cases f with
 | hold n=>exact⟨_,_,h,by trivial⟩
 | ring x n=>exact⟨_,_,h,by trivial⟩
 | rise x v n=>exact uh rfl (d x v n)
 | row ps=>let⟨b,c,_⟩:=h;exact⟨_,_,c,by trivial⟩
 | side ps=>let⟨b,c,_⟩:=h;exact⟨_,_,c,by trivial⟩
 | again k x=>exact⟨_,_,h,by trivial⟩
noncomputable def kv0(ls:L6):Fm->List (Int×Int)
 | .rise x h _=>[((ixOf (nmsOf ls) x:Nat),h)]
 | _=>[]
def j5n(a:∀x v n,f≠.rise x v n):kv0 ls f=[]:=by
 cases f with
 | rise x v n=>exact uh rfl (a x v n)
 | _=>rfl
def WV:(k,v)∈kv0 ls f↔∃x n,f = .rise x v n/\k=(ixOf (nmsOf ls) x:Nat):=by
 cases f with
 | rise x h n=>
  constructor
  .intro a;cases vo.mp a;exact⟨x,n,rfl,rfl⟩
  .rintro⟨c,b,e,rfl⟩;injection e with e1 e2 e3;subst e1 e2;exact vo.mpr rfl
 | _=>exact⟨(λh=>nomatch h),λ⟨_,_,e,_⟩=>nomatch e⟩
def j6y(f:Fm):inP ps f=[]\/kv0 ls f=[]:=by
 cases f with
 | rise x h n=>exact .inl rfl
 | _=>exact .inr rfl
def j6z(f:Fm):((kv0 ls f).map (·.1)).Nodup:=by
 cases f with
 | rise x h n=>exact pairwise_singleton _ _
 | _=>exact .nil
inductive sp_check_side(vs:N6)(H:Hp)(Q:VK)(xk:XK):Prop
 | mk (r:Int) (l ll:Addr) (as las:N2) (M:L4) (_:vs=[.int r,.ref l,.ref ll]) (_:H l=some (.lst (as.map V.ref))) (_:ListsAt H as M) (_:(∀ks∈M,ks≠[])) (_:M.length<=8) (_:H ll=some (.lst (las.map V.ref))) (_:(∀k:Int,(M.filter λks=>decide (k∈ks)).length<=1)) (_:∀H',Same H H'->Q .non H'):sp_check_side vs H Q xk
noncomputable def LenIs:Fm->L9->Int->Prop
 | .hold n,_,g=>g=n
 | .ring _ n,_,g=>g=n
 | .rise _ _ n,_,g=>g=n
 | .row _,gs,g=>g=gs.sum
 | .side _,gs,g=>g∈gs/\∀x∈gs,x<=g
 | .again k _,gs,g=>∃y,gs.head?=some y/\g=k*y
noncomputable def LenPre:Fm->L9->Prop
 | .side _,gs=>gs≠[]
 | .again k _,gs=>∃y r,gs=y::r/\0<=k/\k<=10^18/\0<=y/\y<=10^60
 | _,_=>True
inductive sp_length_of(vs:N6)(H:Hp)(Q:VK)(xk:XK):Prop
 | mk (a l:Addr) (f:Fm) (gs:L9) (_:vs=[.ref a,.ref l]) (_:FormAt H a f) (_:H l=some (.lst (gs.map V.int))) (_:LenPre f gs) (_:∀g,LenIs f gs g->Q (.int g) H):sp_length_of vs H Q xk
structure Snd(ls:L6)(ps:N5)(gs:L9)(hs:L4):Prop where
 w:WfB ls ps
 gl:gs.length=ps.length
 gb:∀i,i<ps.length->0<=gs.getD i 0/\gs.getD i 0<=10^60
 mv:∀M:L4,M.length=ps.length->MovOk ls ps M->∀i,i<ps.length->M.getD i []=hs.getD i []
 ln:∀(i:Nat) (p:Str×Fm),ps[i]?=some p->LenPre p.2 ((inP ps p.2).map λj=>gs.getD j 0)/\∀g,LenIs p.2 ((inP ps p.2).map λj=>gs.getD j 0) g->g=gs.getD i 0
 sd:∀(i:Nat) (p:Str×Fm) (qs:N3),ps[i]?=some p->p.2 = .side qs->(∀j∈inP ps p.2,hs.getD j []≠[])/\∀k:Int,(((inP ps p.2).map λj=>hs.getD j []).filter λks=>decide (k∈ks)).length<=1
inductive sp_lengths(vs:N6)(H:Hp)(Q:VK)(xk:XK):Prop
 | mk (b pl pp:Addr) (las pas:N2) (ls:L6) (ps:N5) (gs:L9) (hs:L4) (_:vs=[.ref b]) (_:BookAt H b pl pp las pas ls ps) (_:Snd ls ps gs hs) (_:∀(l:Addr) (H':Hp),Same H H'->H l=none->H' l=some (.lst (gs.map V.int))->Q (.ref l) H'):sp_lengths vs H Q xk
def any_empty{M:L4}(h:∀ks∈M,ks≠[]):(M.any λks=>decide (ks=[]))=false:=by
 rw[any_eq_false];intro ks a;simpa using h ks a
def j5l{gs:L9}{i:Nat}(h:i<gs.length):gs.take (i+1)=gs.take i++[gs.getD i 0]:=by
 refine take_snoc ?_;rw[vy,vz h];rfl
def j3E{gs:L9}{i j:Nat}(hi:i<=gs.length)(a:j<i):atI ((gs.take i).map V.int) (j:Int)=some (.int (gs.getD j 0)):=by
 refine jM ?_;rw[vv,List.getElem?_take,vc a,vy,vz ⋯];rfl
def j5w(W:WfB ls ps)(m:M.length=ps.length)(h:MovOk ls ps M):∀(i:Nat),∀k∈M.getD i [],0<=k/\k<(ls.length:Int):=by
 intro i
 induction i using Nat.strongRecOn with
 | ind i ih=>
  intro k a;rw[vy]at a;cases e:M[i]? with
  | none=>rw[e]at a;exact nomatch a
  | some ks=>
   rw[e]at a;have l:=(vx.mp e).1;have d:ps[i]?=some ps[i]:=vz ⋯;let⟨_,b⟩:=h i _ ks d e;rcases(b k).mp a with⟨j,c,f⟩ | ⟨x,v,n,g,rfl⟩
   .exact ih j (W.inP_lt d c) k f
   .let⟨j,c⟩:=W.r i (ps[i]).1 x v n (by rw[d,<-g]);rw[yN W.ln c];have:=(vx.mp c).1;unfold nmsOf at this;rw[vt]at this;lia
def j5x{ls:L6}{ps:N5}(W:WfB ls ps){M:L4}(d:M.length=ps.length)(h:MovOk ls ps M){i:Nat}{ks:L9}(c:M[i]?=some ks):ks.length<=8:=by
 have hi:=(vx.mp c).1;have a:=(h i _ ks (vz ⋯) c).1;have b:=j5w W d h i;rw[vy,c]at b;have z:=YI (ks:=ks) (lo:=0) (hi:=ls.length) a b;have:=W.l8;lia
def FormAt.keep{H H':Hp}(k:∀c xs,H c=some (.tup xs)->H' c=some (.tup xs))(h:FormAt H a f):FormAt H' a f:=by
 cases f with
 | row ps=>let⟨c,b,d⟩:=h;exact⟨c,k _ _ b,k _ _ d⟩
 | side ps=>let⟨c,b,d⟩:=h;exact⟨c,k _ _ b,k _ _ d⟩
 | hold n=>exact k _ _ h
 | ring x n=>exact k _ _ h
 | rise x g n=>exact k _ _ h
 | again x n=>exact k _ _ h
def PartAt.keep{H H':Hp}(k:∀c xs,H c=some (.tup xs)->H' c=some (.tup xs))(h:PartAt H a p):PartAt H' a p:=by
 let⟨b,d,e⟩:=h;exact⟨b,k _ _ d,FormAt.keep k e⟩
section
variable{ls:L6}{x:Str}{f:Fm}
end
def ixZ{n:Nat}{k:Int}(a:0<=k)(c:k<n):ixN n k=some k.toNat:=by
 have b:∀j:Nat,j<n->ixN n (j:Int)=some j:=λj h=>by
  unfold ixN;simp[h]
 have q:=b k.toNat ⋯;rw[Int.toNat_of_nonneg a]at q;exact q
noncomputable abbrev Pc:=Nat×Int×Int
noncomputable abbrev Pr4:=Nat×Int×Int×Option Int
noncomputable def rowPc(gs:L9):N1->Int->List Pc
 | [],_=>[]
 | j::r,b=>(j,1,b)::rowPc gs r (b+gs.getD j 0)
noncomputable def pcsI(gs:L9)(f:Fm)(is:N1):List Pc:=
 match f with
 | .again k _=>match is with
  | []=>[]
  | j::_=>(j,1,0)::(if 1<k then[(j,k-1,gs.getD j 0)]else[])
 | .row _=>rowPc gs is 0
 | _=>is.map λj=>(j,1,0)
def PcsAt(H:Hp)(as:N2)(qs:List Pc):Prop:=All2 (λa q=>H a=some (.tup [.int (q.1:Nat),.int q.2.1,.int q.2.2])) as qs
def PssAt(H:Hp)(as:N2)(qss:List (List Pc)):Prop:=All2 (λa qs=>∃bs,H a=some (.lst (bs.map V.ref))/\PcsAt H bs qs) as qss
inductive sp_pieces_in(vs:N6)(H:Hp)(Q:VK)(xk:XK):Prop
 | mk (a l s:Addr) (f:Fm) (is:N1) (gs:L9) (_:vs=[.ref a,.ref l,.ref s]) (_:FormAt H a f) (_:H l=some (.lst ((is.map λj:Nat=>(j:Int)).map V.int))) (_:H s=some (.lst (gs.map V.int))) (_:is.length<=8) (_:(∀j∈is,j<gs.length)) (_:(∀k x,f = .again k x->is≠[])) (_:∀(p:Addr) (as:N2) (H':Hp),Same H H'->H p=none->H' p=some (.lst (as.map V.ref))->PcsAt H' as (pcsI gs f is)->Q (.ref p) H'):sp_pieces_in vs H Q xk
inductive sp_pieces_of(vs:N6)(H:Hp)(Q:VK)(xk:XK):Prop
 | mk (b pl pp s:Addr) (las pas:N2) (ls:L6) (ps:N5) (gs:L9) (_:vs=[.ref b,.ref s]) (_:BookAt H b pl pp las pas ls ps) (_:WfB ls ps) (_:H s=some (.lst (gs.map V.int))) (_:gs.length=ps.length) (_:∀(l:Addr) (as:N2) (H':Hp),Same H H'->H l=none->H' l=some (.lst (as.map V.ref))->PssAt H' as (ps.map λp=>pcsI gs p.2 (inP ps p.2))->(∀a∈as,H a=none)->Q (.ref l) H'):sp_pieces_of vs H Q xk
noncomputable def ov(gs:L9)(t:Int)(q:Pc):Int:=if q.2.1<(t-q.2.2)/gs.getD q.1 0 then q.2.1 else(t-q.2.2)/gs.getD q.1 0
noncomputable def prg1(gs:L9)(t:Int)(q:Pc):Option Pr4:=
 if q.2.2<=t then some (q.1,q.2.2,ov gs t q,if ov gs t q<q.2.1 then some (t-q.2.2-ov gs t q*gs.getD q.1 0)else none)else none
noncomputable def prg(gs:L9)(t:Int)(qs:List Pc):List Pr4:=qs.filterMap (prg1 gs t)
noncomputable def optV:Option Int->V
 | none=>.non
 | some r=>.int r
def PrgAt(H:Hp)(as:N2)(ys:List Pr4):Prop:=All2 (λa y=>H a=some (.tup [.int (y.1:Nat),.int y.2.1,.int y.2.2.1,optV y.2.2.2])) as ys
def PcOk(gs:L9)(q:Pc):Prop:=q.1<gs.length/\1<=gs.getD q.1 0/\gs.getD q.1 0<=10^60/\1<=q.2.1/\q.2.1<=10^18/\0<=q.2.2/\q.2.2<=10^62
inductive sp_progress(vs:N6)(H:Hp)(Q:VK)(xk:XK):Prop
 | mk (l s:Addr) (t:Int) (bs:N2) (qs:List Pc) (gs:L9) (_:vs=[.ref l,.ref s,.int t]) (_:H l=some (.lst (bs.map V.ref))) (_:PcsAt H bs qs) (_:H s=some (.lst (gs.map V.int))) (_:qs.length<=8) (_:(∀q∈qs,PcOk gs q)) (_:0<=t) (_:t<=10^62) (_:∀(p:Addr) (as:N2) (H':Hp),Same H H'->H p=none->H' p=some (.lst (as.map V.ref))->PrgAt H' as (prg gs t qs)->Q (.ref p) H'):sp_progress vs H Q xk
def GonAt(H:Hp)(as:N2)(xs:L5):Prop:=All2 (λa x=>H a=some (.tup [.int (x.1:Nat),.int x.2])) as xs
noncomputable def wth1(gs:L9)(y:Pr4):L5:=(if 0<y.2.2.1 then[(y.1,gs.getD y.1 0)]else[])++(match y.2.2.2 with | some r=>[(y.1,r)] | none=>[])
noncomputable def wth(gs:L9)(t:Int)(qs:List Pc):L5:=(prg gs t qs).flatMap (wth1 gs)
inductive sp_within(vs:N6)(H:Hp)(Q:VK)(xk:XK):Prop
 | mk (l s:Addr) (t:Int) (bs:N2) (qs:List Pc) (gs:L9) (_:vs=[.ref l,.ref s,.int t]) (_:H l=some (.lst (bs.map V.ref))) (_:PcsAt H bs qs) (_:H s=some (.lst (gs.map V.int))) (_:qs.length<=8) (_:(∀q∈qs,PcOk gs q)) (_:0<=t) (_:t<=10^62) (_:∀(p:Addr) (as:N2) (H':Hp),Same H H'->H p=none->H' p=some (.lst (as.map V.ref))->GonAt H' as (wth gs t qs)->Q (.ref p) H'):sp_within vs H Q xk
noncomputable def reachL(pc:Nat->List Pc)(gs:L9):Nat->Nat->Int->L5
 | 0,i,t=>[(i,t)]
 | n+1,i,t=>if gs.getD i 0<=t\/pc i=[]then[(i,t)]else(wth gs t (pc i)).flatMap λx=>reachL pc gs n x.1 x.2
noncomputable def nodesL(pc:Nat->List Pc)(gs:L9):Nat->Nat->Int->Nat
 | 0,_,_=>1
 | n+1,i,t=>if gs.getD i 0<=t\/pc i=[]then 1 else 1+((wth gs t (pc i)).map λx=>nodesL pc gs n x.1 x.2).sum
noncomputable def pcB(ps:N5)(gs:L9)(i:Nat):List Pc:=match ps[i]? with | some p=>pcsI gs p.2 (inP ps p.2) | none=>[]
section
variable{gs:L9}{t:Int}
def ZJ(h:q∈rowPc gs is b):q.1∈is/\q.2.1=1:=by
 induction is generalizing b with
 | nil=>exact nomatch h
 | cons j r ih=>
  rcases mem_cons.mp h with rfl | h
  .exact⟨vq,rfl⟩
  .let⟨a,b⟩:=ih h;exact⟨vp _ a,b⟩
def j2E(is:N1)(b:Int):(rowPc gs is b).length=is.length:=by
 induction is generalizing b with
 | nil=>rfl
 | cons j r ih=>rw[rowPc,vR,vR,ih]
def kg(d:∀j∈is,0<=gs.getD j 0/\gs.getD j 0<=10^60)(h:q∈rowPc gs is b):b<=q.2.2/\q.2.2<=b+10^60*is.length:=by
 induction is generalizing b with
 | nil=>exact nomatch h
 | cons j r ih=>
  have g:=d j vq;rw[vR];rcases mem_cons.mp h with rfl | h
  .have:(0:Int)<=10^60*((r.length+1:Nat):Int):=vO nofun ⋯;exact⟨vC _,by show b<=_;lia⟩
  .let⟨a,c⟩:=ih (λk e=>d k (vp _ e)) h;refine⟨⋯,?_⟩;rw[show((r.length+1:Nat):Int)=(r.length:Int)+1 by lia,Int.mul_add];lia
def Xp(h:q∈pcsI gs f is):q.1∈is:=by
 unfold pcsI at h;split at h
 .split at h
  .exact nomatch h
  .rcases mem_cons.mp h with rfl | h
   .exact vq
   .split at h
    .rw[vo.mp h];exact vq
    .exact nomatch h
 .exact(ZJ h).1
 .let⟨j,a,rfl⟩:=vM.mp h;exact a
def Xl(a:is.length<=8):(pcsI gs f is).length<=8:=by
 unfold pcsI;split
 .split
  .exact vB _
  .split<;>simp
 .rw[j2E];exact a
 .rw[vt];exact a
def kH(h:y∈prg gs t qs):∃q∈qs,prg1 gs t q=some y:=List.mem_filterMap.mp h
def j1C(a:List Pc):(prg gs t a).length<=a.length:=List.length_filterMap_le _ _
def KI(h:prg1 gs t q=some y):y.1=q.1:=by
 unfold prg1 at h;split at h
 .cases h;rfl
 .cases h
def j5u(h:x∈wth gs t qs):∃q∈qs,x.1=q.1:=by
 let⟨y,c,a⟩:=mem_flatMap.mp h;let⟨q,b,e⟩:=kH c;refine⟨q,b,?_⟩;rw[<-KI e];unfold wth1 at a;rcases vg.mp a with z | z
 .split at z
  .rw[vo.mp z]
  .exact nomatch z
 .split at z
  .rw[vo.mp z]
  .exact nomatch z
def j3L(y:Pr4):(wth1 gs y).length<=2:=by
 unfold wth1;rw[vm];have a:(if 0<y.2.2.1 then[(y.1,gs.getD y.1 0)]else[]).length<=1:=by split<;>simp
 have b:(match y.2.2.2 with | some r=>[(y.1,r)] | none=>[]:L5).length<=1:=by split<;>simp
 lia
def j5o(a:List Pc):(wth gs t a).length<=2*a.length:=by
 have h:∀b:List Pr4,(b.flatMap (wth1 gs)).length<=2*b.length:=λb=>by
  induction b with
  | nil=>exact vB _
  | cons y r ih=>
   rw[flatMap_cons,vm,vR];have:=j3L (gs:=gs) y;lia
 have:=h (prg gs t a);have:=j1C (gs:=gs) (t:=t) a;unfold wth;lia
end
section
variable{ls:L6}{ps:N5}{gs:L9}
def qc(W:WfB ls ps)(h:q∈pcB ps gs i):q.1<i:=by
 unfold pcB at h;split at h
 .rename_i p hp;exact W.inP_lt hp (Xp h)
 .exact nomatch h
def Y0(W:WfB ls ps)(h:x∈wth gs t (pcB ps gs i)):x.1<i:=by
 let⟨q,a,e⟩:=j5u h;rw[e];exact qc W a
theorem JG{a c:Type}{f g:a->List c}:∀{l:List a},(∀x∈l,f x=g x)->l.flatMap f=l.flatMap g
 | [],_=>rfl
 | x::r,h=>by rw[flatMap_cons,flatMap_cons,h x vq,JG λy b=>h y (vp _ b)]
theorem KL(W:WfB ls ps):∀{n m i:Nat} {t:Int},i<n->i<m->reachL (pcB ps gs) gs n i t=reachL (pcB ps gs) gs m i t
 | 0,_,_,_,h,_=>uh h (Nat.not_lt_zero _)
 | _,0,_,_,_,h=>uh h (Nat.not_lt_zero _)
 | n+1,m+1,i,t,h1,h2=>by
  unfold reachL;split
  .rfl
  .exact JG λx a=>by
    have:=Y0 W a;exact KL W ⋯ ⋯
theorem KA(W:WfB ls ps):∀{n m i:Nat} {t:Int},i<n->i<m->nodesL (pcB ps gs) gs n i t=nodesL (pcB ps gs) gs m i t
 | 0,_,_,_,h,_=>uh h (Nat.not_lt_zero _)
 | _,0,_,_,_,h=>uh h (Nat.not_lt_zero _)
 | n+1,m+1,i,t,h1,h2=>by
  unfold nodesL;split
  .rfl
  .congr 2;exact map_congr_left λx a=>by
    have:=Y0 W a;exact KA W ⋯ ⋯
noncomputable def reach(ps:N5)(gs:L9)(i:Nat)(t:Int):L5:=reachL (pcB ps gs) gs (i+1) i t
noncomputable def nodes(ps:N5)(gs:L9)(i:Nat)(t:Int):Nat:=nodesL (pcB ps gs) gs (i+1) i t
def qd(h:gs.getD i 0<=t\/pcB ps gs i=[]):reach ps gs i t=[(i,t)]:=by
 unfold reach reachL;rw[vc h]
def zB(W:WfB ls ps)(h:¬(gs.getD i 0<=t\/pcB ps gs i=[])):reach ps gs i t=(wth gs t (pcB ps gs i)).flatMap λx=>reach ps gs x.1 x.2:=by
 unfold reach;rw[reachL,va h];exact JG λx a=>by
  have:=Y0 W a;exact KL W ⋯ ⋯
def yn(h:gs.getD i 0<=t\/pcB ps gs i=[]):nodes ps gs i t=1:=by
 unfold nodes nodesL;rw[vc h]
def KB(W:WfB ls ps)(h:¬(gs.getD i 0<=t\/pcB ps gs i=[])):nodes ps gs i t=1+((wth gs t (pcB ps gs i)).map λx=>nodes ps gs x.1 x.2).sum:=by
 unfold nodes;rw[nodesL,va h];congr 2;exact map_congr_left λx a=>by
  have:=Y0 W a;exact KA W ⋯ ⋯
def wY(i:Nat)(t:Int):1<=nodes ps gs i t:=by
 unfold nodes nodesL;split<;>lia
end
section
variable{gs:L9}{t:Int}
noncomputable def wq(gs:L9)(t:Int)(q:Pc):L5:=match prg1 gs t q with | some y=>wth1 gs y | none=>[]
def Yf:wth gs t []=[]:=rfl
def qV(q:Pc)(a:List Pc):wth gs t (q::a)=wq gs t q++wth gs t a:=by
 unfold wth prg wq;rw[filterMap_cons];cases prg1 gs t q with
 | none=>rfl
 | some y=>rfl
def j2b(h:t<q.2.2):wq gs t q=[]:=by
 unfold wq prg1;rw[va ⋯]
def xH(d:1<=gs.getD j 0)(h:b<=t):wq gs t (j,1,b)=if gs.getD j 0<=t-b then[(j,gs.getD j 0)]else[(j,t-b)]:=by
 have c:wq gs t (j,1,b)=wth1 gs (j,b,ov gs t (j,1,b),if ov gs t (j,1,b)<1 then some (t-b-ov gs t (j,1,b)*gs.getD j 0)else none):=by
  unfold wq prg1;rw[vc (show b<=t from h)]
 rw[c];generalize a:gs.getD j 0=g at d|-;have e:ov gs t (j,1,b)=if g<=t-b then 1 else 0:=by
  show(if(1:Int)<(t-b)/gs.getD j 0 then(1:Int)else(t-b)/gs.getD j 0)=_;rw[a];by_cases z:g<=t-b
  .rw[vc z];have:1<=(t-b)/g:=by
    rw[Int.le_ediv_iff_mul_le ⋯];lia
   split<;>lia
  .rw[va z];have:(t-b)/g=0:=Int.ediv_eq_zero_of_lt ⋯ ⋯;rw[this];rfl
 by_cases z:g<=t-b
 .rw[vc z]at e;rw[vc z,e];unfold wth1;simp;rw[<-vy];exact a
 .rw[va z]at e;rw[va z,e];unfold wth1;simp
def j2c(h:q.2.2<=t):wq gs t q=(if 0<ov gs t q then[(q.1,gs.getD q.1 0)]else[])++(if ov gs t q<q.2.1 then[(q.1,t-q.2.2-ov gs t q*gs.getD q.1 0)]else[]):=by
 unfold wq prg1;rw[vc h];show wth1 gs _=_;unfold wth1;congr 1;show(match(if ov gs t q<q.2.1 then some (t-q.2.2-ov gs t q*gs.getD q.1 0)else none)with | some r=>[(q.1,r)] | none=>[])=_;split<;>rename_i e<;>split at e
 .cases e;rw[vc (by assumption)]
 .cases e
 .cases e
 .rw[va (by assumption)]
theorem K4:∀{a:List Pc},(∀q∈a,t<q.2.2)->wth gs t a=[]
 | [],_=>rfl
 | q::r,h=>by rw[qV,j2b (h q vq),K4 λq b=>h q (vp _ b)];rfl
def KM(a:∀j∈is,0<=gs.getD j 0/\gs.getD j 0<=10^60)(h:t<b):wth gs t (rowPc gs is b)=[]:=
 K4 λq c=>by have:=(kg a c).1;lia
def XJ(a:∀k∈j::r,1<=gs.getD k 0/\gs.getD k 0<=10^60)(h:b<=t):wth gs t (rowPc gs (j::r) b)=if gs.getD j 0<=t-b then(j,gs.getD j 0)::wth gs t (rowPc gs r (b+gs.getD j 0))else[(j,t-b)]:=by
 have g:=a j vq;rw[rowPc,qV,xH g.1 h];split
 .rfl
 .rw[KM (λk c=>by have:=a k (vp _ c);lia) ⋯];rfl
theorem j4J{a:Type}{f g:a->Nat}:∀{l:List a},(∀x∈l,f x<=g x)->(l.map f).sum<=(l.map g).sum
 | [],_=>vA _
 | x::r,h=>by
  rw[v9,v9,uz,uz];have:=h x vq;have:=j4J (l:=r) λy b=>h y (vp _ b)
  lia
theorem j1V{N:Nat×Int->Nat}:∀{is:N1} {b:Int},(∀k∈is,1<=gs.getD k 0/\gs.getD k 0<=10^60)->(∀k∈is,N (k,gs.getD k 0)=1)->(∀k∈is,∀r,0<=r->N (k,r)<=B)->((wth gs t (rowPc gs is b)).map N).sum<=is.length+B
 | [],b,_,_,_=>vB _
 | j::r,b,hg,h1,h2=>by
  by_cases h:b<=t
  .rw[XJ hg h];split
   .rw[v9,uz,h1 j vq,vR];have:=j1V (N:=N) (B:=B) (is:=r) (b:=b+gs.getD j 0) (λk a=>hg k (vp _ a)) (λk a=>h1 k (vp _ a)) λk a=>h2 k (vp _ a)
    lia
   .have:=h2 j vq (t-b) ⋯;simp;lia
  .rw[KM (λk a=>by have:=hg k a;lia) ⋯];exact vB _
def j4D{is:N1}(a:∀k∈is,1<=gs.getD k 0)(c:0<=t):wth gs t (is.map λj=>(j,1,0))=is.map λj=>if gs.getD j 0<=t then(j,gs.getD j 0)else(j,t):=by
 induction is with
 | nil=>rfl
 | cons j r ih=>
  rw[v9,qV,xH (a j vq) c,ih λk b=>a k (vp _ b),v9,Int.sub_zero];split<;>rfl
def j2f{N:Nat×Int->Nat}(l:1<=gs.getD j 0)(f:0<=t)(b:N (j,gs.getD j 0)=1)(d:∀r,0<=r->N (j,r)<=B) :
  ((wth gs t ((j,1,0)::(if 1<k then[(j,k-1,gs.getD j 0)]else[]))).map N).sum<=2+B:=by
 rw[qV,xH l f,Int.sub_zero,vi,sum_append];by_cases z:gs.getD j 0<=t
 .rw[vc z];have a:((wth gs t (if 1<k then[(j,k-1,gs.getD j 0)]else[])).map N).sum<=1+B:=by
   split
   .rw[qV,Yf,append_nil,j2c (show gs.getD j 0<=t from z),vi,sum_append];have g:(((if 0<ov gs t (j,k-1,gs.getD j 0)then[(j,gs.getD j 0)]else[]):L5).map N).sum<=1:=by
     split
     .simp;rw[<-vy,b];exact vA _
     .simp
    have h:(((if ov gs t (j,k-1,gs.getD j 0)<k-1 then[(j,t-gs.getD j 0-ov gs t (j,k-1,gs.getD j 0)*gs.getD j 0)]else[]):L5).map N).sum<=B:=by
     split
     .have m:ov gs t (j,k-1,gs.getD j 0)=(t-gs.getD j 0)/gs.getD j 0:=by
       show(if k-1<(t-gs.getD j 0)/gs.getD j 0 then k-1 else(t-gs.getD j 0)/gs.getD j 0)=_;rename_i c;have i:(if k-1<(t-gs.getD j 0)/gs.getD j 0 then k-1 else(t-gs.getD j 0)/gs.getD j 0)<k-1:=c;split at i
       .lia
       .rename_i z;rw[va z]
      have:=d (t-gs.getD j 0-ov gs t (j,k-1,gs.getD j 0)*gs.getD j 0) (by
       rw[m];have:=Int.ediv_mul_le (t-gs.getD j 0) (show gs.getD j 0≠0 by lia);lia)
      simp;exact this
     .simp
    have o:((if 0<ov gs t (j,k-1,gs.getD j 0)then[((j,k-1,gs.getD j 0):Pc).1].map λa=>(a,gs.getD a 0)else[]):L5)=if 0<ov gs t (j,k-1,gs.getD j 0)then[(j,gs.getD j 0)]else[]:=rfl
    exact Nat.add_le_add g h
   .exact vB _
  have:(([(j,gs.getD j 0)]:L5).map N).sum=1:=by
   simp;rw[<-vy,b]
  lia
 .rw[va z];have e:wth gs t (if 1<k then[(j,k-1,gs.getD j 0)]else[])=[]:=by
   split
   .exact K4 λq n=>by rw[vo.mp n];show t<gs.getD j 0;lia
   .rfl
  rw[e];have:=d t f;simp;lia
end
def len_sub{a b:L9}(c:a.Nodup)(f:∀x∈a,x∈b):a.length<=b.length:=by
 induction a generalizing b with
 | nil=>exact vB _
 | cons x r ih=>
  rw[uo]at c;have g:=f x vq;have:=ih (b:=b.erase x) c.2 λy h=>by
   have d:y≠x:=λe=>c.1 (e▸h)
   exact(List.mem_erase_of_ne d).mpr (f y (vp _ h))
  rw[List.length_erase_of_mem g]at this;have:0<b.length:=List.length_pos_of_mem g;rw[vR];lia
section
variable{ls:L6}{ps:N5}{gs:L9}{hs:L4}
def Xg(S:Snd ls ps gs hs)(a:hs.length=ps.length)(hi:i<ps.length):hs[i]?=some (hs.getD i []):=by
 rw[vy,vz ⋯];rfl
def j6D(S:Snd ls ps gs hs)(e:hs.length=ps.length)(M:MovOk ls ps hs){i:Nat}{p:Str×Fm}(c:ps[i]?=some p){j:Nat}(d:j∈inP ps p.2):(hs.getD j []).length<=(hs.getD i []).length:=by
 have f:=(vx.mp c).1;have l:=S.w.inP_lt c d;let⟨_,b⟩:=M i p _ c (Xg S e f);let⟨a,_⟩:=M j _ _ (vz (show j<ps.length by lia)) (Xg S e ⋯);exact len_sub (a.imp λh=>⋯) λk g=>(b k).mpr (.inl ⟨j,d,g⟩)
def j4C(S:Snd ls ps gs hs)(v:hs.length=ps.length)(M:MovOk ls ps hs){i:Nat}{p:Str×Fm}{x:N3}(f:ps[i]?=some p)(e:p.2 = .side x):((inP ps p.2).map λj=>(hs.getD j []).length).sum<=(hs.getD i []).length:=by
 have A:=(vx.mp f).1;let⟨_,t⟩:=S.sd i p x f e;let⟨_,b⟩:=M i p _ f (Xg S v A);have C:=λj=>S.w.inP_lt (j:=j) f
 have D:∀d:N1,(∀j∈d,j<ps.length)->(∀k:Int,((d.map λj=>hs.getD j []).filter λs=>decide (k∈s)).length<=1)->(d.flatMap λj=>hs.getD j []).Nodup:=λd=>by
  induction d with
  | nil=>exact λ_ _=>.nil
  | cons j r ih=>
   intro l u;rw[flatMap_cons];have E:(hs.getD j []).Nodup:=by
    let⟨a,_⟩:=M j _ _ (vz (l j vq)) (Xg S v (l j vq));exact a.imp λh=>⋯
   refine nodup_append.mpr ⟨E,ih (λk c=>l k (vp _ c)) λk=>?_,λa y b z g=>?_⟩
   .have:=u k;rw[v9,filter_cons]at this;split at this
    .rw[vR]at this;lia
    .exact this
   .subst g;let⟨B,o,q⟩:=mem_flatMap.mp z;have:=u a;rw[v9,filter_cons,vc (vI y),vR]at this;have pos:0<((r.map λj=>hs.getD j []).filter λs=>decide (a∈s)).length:=List.length_pos_of_mem (vQ.mpr ⟨vM.mpr ⟨B,o,rfl⟩,vI q⟩);lia
 have n:=D (inP ps p.2) (λj m=>by have:=C j m;lia) t;have w:=len_sub (b:=hs.getD i []) n λk c=>by
  let⟨j,m,c⟩:=mem_flatMap.mp c;exact(b k).mpr (.inl ⟨j,m,c⟩)
 rw[List.length_flatMap]at w;exact w
theorem j27{a:Type}{f:a->Nat}:∀{l:List a},(l.map λx=>c*f x).sum=c*(l.map f).sum
 | []=>rfl
 | x::r=>by rw[v9,v9,uz,uz,j27,Nat.mul_add]
def j42(S:Snd ls ps gs hs)(A:hs.length=ps.length)(M:MovOk ls ps hs)(G:∀i,i<ps.length->1<=gs.getD i 0):∀i t,i<ps.length->0<=t->nodes ps gs i t<=9*(i+1)*max 1 (hs.getD i []).length:=by
 intro i
 induction i using Nat.strongRecOn with
 | ind i ih=>
  intro t H z;have W:=S.w;have C:1<=max 1 (hs.getD i []).length:=Nat.le_max_left _ _;by_cases a:gs.getD i 0<=t\/pcB ps gs i=[]
  .rw[yn a];have:1*1<=9*(i+1)*max 1 (hs.getD i []).length:=Nat.mul_le_mul ⋯ C;lia
  rw[KB W a];obtain⟨p,o⟩:∃p,ps[i]?=some p:=⟨_,vz H⟩
  have c:pcB ps gs i=pcsI gs p.2 (inP ps p.2):=by unfold pcB;rw[o]
  have q:=λj=>W.inP_lt (j:=j) o
  have h:∀k∈inP ps p.2,1<=gs.getD k 0/\gs.getD k 0<=10^60:=λk m=>by
   have:=q k m;exact⟨G k ⋯,(S.gb k ⋯).2⟩
  have I:(inP ps p.2).length<=8:=by unfold inP;rw[vt];exact(W.f i p o).2
  have b:∀k∈inP ps p.2,nodes ps gs k (gs.getD k 0)=1:=λk _=>yn (.inl (vC _))
  have u:∀k∈inP ps p.2,∀r,0<=r->nodes ps gs k r<=9*i*max 1 (hs.getD i []).length:=λk m r y=>by
   have l:=q k m;have:=ih k l r ⋯ y;have s:=j6D S A M o m;refine vX this (Nat.mul_le_mul ⋯ ?_);exact Nat.max_le.mpr ⟨Nat.le_max_left _ _,vX s (Nat.le_max_right _ _)⟩
  have f:∀X:Nat,X<=8+9*i*max 1 (hs.getD i []).length->1+X<=9*(i+1)*max 1 (hs.getD i []).length:=λX K=>by
   rw[Nat.mul_add,Nat.add_mul];have:9*1*1<=9*1*max 1 (hs.getD i []).length:=Nat.mul_le_mul (vA _) C;lia
  rw[c];cases e:p.2 with
  | again k x=>
   have d:inP ps p.2=[ixOf (nmsOf ps) x]:=by rw[e];rfl
   rw[e]at d;rw[d];have g:ixOf (nmsOf ps) x∈inP ps p.2:=by rw[e,d];exact vq
   refine f _ (vX (j2f (N:=λx=>nodes ps gs x.1 x.2) (h _ g).1 z (b _ g) (u _ g)) ⋯)
  | row xs=>
   rw[e]at h b u I;exact f _ (vX (j1V (N:=λx=>nodes ps gs x.1 x.2) h b u) ⋯)
  | side xs=>
   have F:=j4C S A M o e;let⟨E,_⟩:=S.sd i p xs o e;rw[show pcsI gs (.side xs) (inP ps (.side xs))=(inP ps (.side xs)).map λj=>(j,1,0)from rfl];rw[e]at h b F E q;rw[j4D (λk m=>(h k m).1) z,v6];have B:((inP ps (.side xs)).map ((λx=>nodes ps gs x.1 x.2)∘λj=>if gs.getD j 0<=t then(j,gs.getD j 0)else(j,t))).sum<=((inP ps (.side xs)).map λj=>9*i*(hs.getD j []).length).sum:=by
    refine j4J λj w=>?_
    have l:=q j w;have J:1<=(hs.getD j []).length:=List.length_pos_iff.mpr (E j w);have D:∀r,0<=r->nodes ps gs j r<=9*i*(hs.getD j []).length:=λr y=>by
     have:=ih j l r ⋯ y;rw[Nat.max_eq_right J]at this;exact vX this (Nat.mul_le_mul ⋯ (vA _))
    show nodes ps gs (if gs.getD j 0<=t then(j,gs.getD j 0)else(j,t)).1 (if gs.getD j 0<=t then(j,gs.getD j 0)else(j,t)).2<=_;split
    .exact D _ (by have:=h j w;lia)
    .exact D _ z
   rw[j27]at B;refine f _ (vX B (vX (Nat.mul_le_mul (vA (9*i)) (vX F (Nat.le_max_right 1 _))) (Nat.le_add_left _ _)))
  | hold n=>
   exact uh (.inr (by rw[c,e];rfl)) a
  | ring x n=>
   exact uh (.inr (by rw[c,e];rfl)) a
  | rise x v n=>
   exact uh (.inr (by rw[c,e];rfl)) a
end
structure Sn(ls:L6)(ps:N5)(gs:L9)(hs:L4):Prop where
 s:Snd ls ps gs hs
 hl:hs.length=ps.length
 m:MovOk ls ps hs
 g1:∀i,i<ps.length->1<=gs.getD i 0
 ne:1<=ps.length
 l18:∀q∈ls,0<=q.2/\q.2<=10^18
 r18:∀(i:Nat) (y x:Str) (v n:Int),ps[i]?=some (y,.rise x v n)->0<=v/\v<=10^18/\1<=n/\n<=10^18
 a18:∀(i:Nat) (y x:Str) (k:Int),ps[i]?=some (y,.again k x)->1<=k/\k<=10^18
section
variable{ls:L6}{ps:N5}{gs:L9}{hs:L4}
def Sn.g(N:Sn ls ps gs hs)(hi:i<ps.length):1<=gs.getD i 0/\gs.getD i 0<=10^60:=⟨N.g1 i hi,(N.s.gb i hi).2⟩
def Sn.j3E(N:Sn ls ps gs hs){i:Nat}(hi:i<ps.length):gs[i]?=some (gs.getD i 0):=by
 rw[vy,vz (by rw[N.s.gl];exact hi)];rfl
def Sn.i8(N:Sn ls ps gs hs){i:Nat}{p:Str×Fm}(a:ps[i]?=some p):(inP ps p.2).length<=8:=by
 unfold inP;rw[vt];exact(N.s.w.f i p a).2
def Sn.pcOk(N:Sn ls ps gs hs){i:Nat}{q:Pc}(h:q∈pcB ps gs i):PcOk gs q:=by
 have u:=qc N.s.w h;have n:=h;unfold pcB at h;split at h
 case h_2=>exact nomatch h
 rename_i p hp;have o:=(vx.mp hp).1;have g:=N.g (show q.1<ps.length by lia);have t:=N.i8 hp;have a:∀k∈inP ps p.2,0<=gs.getD k 0/\gs.getD k 0<=10^60:=λk d=>by
  have:=N.s.w.inP_lt hp d;have:=N.g (show k<ps.length by lia);lia
 refine⟨by rw[N.s.gl];lia,g.1,g.2,?_⟩;unfold pcsI at h;split at h
 .rename_i k x e;have f:=N.a18 i p.1 x k (by rw[hp,<-e]);split at h
  .exact nomatch h
  .rename_i j r ein;have c:=a j (by rw[ein];exact vq);rcases mem_cons.mp h with rfl | h
   .exact⟨(by show(1:Int)<=1;decide),(by show(1:Int)<=10^18;decide),(by show(0:Int)<=0;decide),(by show(0:Int)<=10^62;decide)⟩
   .split at h
    .rw[vo.mp h];refine⟨?_,?_,c.1,?_⟩
     .show 1<=k-1;lia
     .show k-1<=_;lia
     .show gs.getD j 0<=_;lia
    .exact nomatch h
 .let⟨b,l⟩:=kg a h;have m:=(ZJ h).2;refine⟨⋯,⋯,b,?_⟩;have:(10:Int)^60*((inP ps p.2).length:Int)<=10^60*8:=Int.mul_le_mul_of_nonneg_left ⋯ nofun;lia
 .let⟨j,s,rfl⟩:=vM.mp h;exact⟨(by show(1:Int)<=1;decide),(by show(1:Int)<=10^18;decide),(by show(0:Int)<=0;decide),(by show(0:Int)<=10^62;decide)⟩
def j4d(c:PcOk gs q)(h:q.2.2<=t):0<=ov gs t q/\ov gs t q<=q.2.1/\ov gs t q*gs.getD q.1 0<=t-q.2.2/\0<=ov gs t q*gs.getD q.1 0:=by
 let⟨_,e,_,f,_,_⟩:=c;have d:0<=(t-q.2.2)/gs.getD q.1 0:=Int.ediv_nonneg ⋯ ⋯;have b:=Int.ediv_mul_le (t-q.2.2) (show gs.getD q.1 0≠0 by lia);have a:0<=ov gs t q/\ov gs t q<=q.2.1/\ov gs t q<=(t-q.2.2)/gs.getD q.1 0:=by
  unfold ov;split<;>lia
 refine⟨a.1,a.2.1,?_,vO a.1 ⋯⟩;exact vY (vV a.2.2 ⋯) b
def j18(j:∀q∈qs,PcOk gs q)(h:x∈wth gs t qs):0<=x.2:=by
 let⟨y,i,d⟩:=mem_flatMap.mp h;let⟨q,g,e⟩:=kH i;have o:=j q g;by_cases c:q.2.2<=t
 case neg=>unfold prg1 at e;rw[va c]at e;cases e
 have b:=j4d o c;unfold prg1 at e;rw[vc c]at e;have f:=vN e;subst f;unfold wth1 at d;rcases vg.mp d with z | z
 .have z:x∈(if 0<ov gs t q then[(q.1,gs.getD q.1 0)]else[]):=z;split at z
  .rw[vo.mp z];exact vY nofun o.2.1
  .exact nomatch z
 .split at z
  .rename_i r a;rw[vo.mp z];have a:(if ov gs t q<q.2.1 then some (t-q.2.2-ov gs t q*gs.getD q.1 0)else none)=some r:=a;split at a
   .cases a;show 0<=t-q.2.2-ov gs t q*gs.getD q.1 0;lia
   .cases a
  .exact nomatch z
def Sn.nodes(N:Sn ls ps gs hs)(a:∀i,i<ps.length->(hs.getD i []).length<=8)(hi:i<ps.length)(b:0<=t):Rm.nodes ps gs i t<=5000:=by
 have:=j42 N.s N.hl N.m N.g1 i t hi b;have c:=N.s.w.p61;have d:=a i hi;have:9*(i+1)*max 1 (hs.getD i []).length<=9*61*8:=Nat.mul_le_mul ⋯ ⋯;lia
end
noncomputable def ringX(ps:N5)(x:Nat×Int):N3:=match ps[x.1]? with
 | some (_,.ring y _)=>if x.2=0 then[y]else[]
 | _=>[]
noncomputable def ringsW(ps:N5)(gs:L9)(t:Int):N3:=(reach ps gs (ps.length-1) t).flatMap (ringX ps)
inductive sp_ringsG(vs:N6)(H:Hp)(Q:VK)(xk:XK):Prop
 | mk (b pl pp:Addr) (las pas:N2) (ls:L6) (ps:N5) (gs:L9) (hs:L4) (t:Int) (_:vs=[.ref b,.int t]) (_:BookAt H b pl pp las pas ls ps) (_:Sn ls ps gs hs) (_:0<=t) (_:t<=gs.getD (ps.length-1) 0) (_:∀(l:Addr) (H':Hp),Same H H'->H l=none->H' l=some (.lst ((ringsW ps gs t).map V.str))->(ringsW ps gs t).length<=5000->Q (.ref l) H'):sp_ringsG vs H Q xk
def All2.app{e:Type}{R:Addr->e->Prop}{as d:N2}{xs ys:List e}(h:All2 R as xs)(k:All2 R d ys):All2 R (as++d) (xs++ys):=by
 have g:=h.1;refine⟨by rw[vm,vm,h.1,k.1],λi a x b c=>?_⟩;by_cases f:i<as.length
 .rw[vD f]at b;rw[vD ⋯]at c;exact h.2 i a x b c
 .rw[vE ⋯]at b;rw[vE ⋯]at c;exact k.2 _ a x b (by rw[g];exact c)
def All2.cons{b:Type}{R:Addr->b->Prop}{a:Addr}{as:N2}{x:b}{xs:List b}(h:R a x)(k:All2 R as xs):All2 R (a::as) (x::xs):=All2.app (as:=[a]) (xs:=[x]) (All2.snoc (as:=[]) (xs:=[]) .nil h) k
theorem All2.rev{b:Type}{R:Addr->b->Prop}:∀{as:N2} {xs:List b},All2 R as xs->All2 R as.reverse xs.reverse
 | [],[],_=>.nil
 | [],_::_,h=>uh h.1 (by simp)
 | _::_,[],h=>uh h.1 (by simp)
 | a::as,x::xs,h=>by
  rw[reverse_cons,reverse_cons];exact All2.app (All2.rev (All2.tail h).2) (All2.snoc (as:=[]) (xs:=[]) .nil (All2.tail h).1)
def All2.last{e:Type}{R:Addr->e->Prop}{as:N2}{xs:List e}{x:e}(h:All2 R as (xs++[x])):∃c a,as=c++[a]/\All2 R c xs/\R a x:=by
 rcases List.eq_nil_or_concat as with rfl | ⟨c,a,rfl⟩
 .have:=h.1;simp at this
 .rw[List.concat_eq_append]at h|-;have g:=h.1;rw[vm,vm]at g;have d:c.length=xs.length:=by simpa using g
  refine⟨c,a,rfl,⟨d,λi b y f j=>?_⟩,?_⟩
  .have k:=(vx.mp f).1;exact h.2 i b y (by rw[vD k];exact f) (by rw[vD ⋯];exact j)
  .exact h.2 c.length a x (by simp) (by rw[d];simp)
def kE{gs:L9}{n:Nat}(h:1<=n)(e:gs.length=n):atI (gs.map V.int) (-1)=some (.int (gs.getD (n-1) 0)):=by
 have i:ixN n (-1)=some (n-1):=by
  unfold ixN;simp;lia
 unfold atI;rw[vt,e,i];show(gs.map V.int)[n-1]?=_;rw[vv,vy,vz ⋯];rfl
section
variable{ls:L6}{ps:N5}{gs:L9}{hs:L4}
def j4r(W:WfB ls ps):∀{i:Nat} {t:Int} {x:Nat×Int},i<ps.length->x∈reach ps gs i t->x.1<ps.length:=by
 intro i
 induction i using Nat.strongRecOn with
 | ind i ih=>
  intro t x b a;by_cases h:gs.getD i 0<=t\/pcB ps gs i=[]
  .rw[qd h]at a;rw[vo.mp a];exact b
  .rw[zB W h]at a;let⟨y,c,a⟩:=mem_flatMap.mp a;have:=Y0 W c;exact ih y.1 this ⋯ a
def j6q(N:Sn ls ps gs hs)(m:E.length=ps.length)(k:EndOk ls ps E):∀{i:Nat},i<ps.length->∀q∈E.getD i [],0<=q.2/\q.2<=10^18:=by
 intro i
 induction i using Nat.strongRecOn with
 | ind i ih=>
  intro f q h;have d:E[i]?=some (E.getD i []):=by rw[vy,vz ⋯];rfl
  obtain⟨p,a⟩:∃p,ps[i]?=some p:=⟨_,vz f⟩
  rcases((k i p _ a d).2 q.1 q.2).mp h with⟨l,j,b,e,c,_⟩ | ⟨x,n,e,_⟩
  .have g:j∈inP ps p.2:=by rw[e];simp
   have:=N.s.w.inP_lt a g;exact ih j this ⋯ _ c
  .have:=N.r18 i p.1 x q.2 n (by rw[a,<-e]);lia
end
section
variable{L:N3}{fs:List Fn}{M:L4}{gs:L9}{names:N3}{ls:L6}
end
structure Sa where
 d:Addr
 f:Addr
 o:Addr
 s:Addr
 l:Addr
 p:Addr
 fb:N2
 la:N2
 pa:N2
noncomputable def fldS(z:Sa):List (Str×V):=putF "pieces" (.ref z.p) (putF "left" (.ref z.l) (putF "sizes" (.ref z.s) (putF "forms" (.ref z.o) (putF "first" (.ref z.f) (putF "limbs" (.ref z.d) [])))))
section
variable{z:Sa}
def jX(h:¬a=b):(putF b v r).lookup a=r.lookup a:=by rw[qm,va h]
def qZ:(putF a v r).lookup a=some v:=by rw[qm,vc rfl]
def j0n:(fldS z).lookup ("pieces" : Str)=some (.ref z.p):=qZ
def j3A:(fldS z).lookup ("left" : Str)=some (.ref z.l):=(jX (by trivial)).trans qZ
def ZI:(fldS z).lookup ("sizes" : Str)=some (.ref z.s):=(jX (by trivial)).trans ((jX (by trivial)).trans qZ)
def j2u:(fldS z).lookup ("forms" : Str)=some (.ref z.o):=(jX (by trivial)).trans ((jX (by trivial)).trans ((jX (by trivial)).trans qZ))
def j2t:(fldS z).lookup ("first" : Str)=some (.ref z.f):=(jX (by trivial)).trans ((jX (by trivial)).trans ((jX (by trivial)).trans ((jX (by trivial)).trans qZ)))
def j3B{m:Str}(a:¬m = "pieces")(b:¬m = "left")(c:¬m = "sizes")(d:¬m = "forms")(e:¬m = "first")(f:¬m = "limbs"):(fldS z).lookup m=none:=(jX a).trans ((jX b).trans ((jX c).trans ((jX d).trans ((jX e).trans (jX f)))))
theorem jO(f:Str)(v:V):∀r:List (Str×V),(putF f v r).length<=r.length+1
 | []=>vA _
 | (g,u)::r=>by
  unfold putF;split
  .exact Nat.le_succ _
  .rw[vR,vR];have:=jO f v r;lia
end
def BookAt.less{H:Hp}(o:H a=some (.ins C dx fs))(B:BookAt H b pl pp las pas ls ps) :
  ∃i:Hp,(∀H',(∀c u,c≠a->H c=some u->H' c=some u)->Same i H')/\(∀{c u},i c=some u->c≠a)/\BookAt i b pl pp las pas ls ps:=by
 have f:∀{c:Addr} {g:N6},H c=some (.tup g)->(λc=>if c=a then none else H c) c=some (.tup g):=λ{c g} h=>by
  show(if c=a then none else H c)=_;rw[va (λz=>by rw[z,o]at h;cases h)];exact h
 have p:∀{c:Addr} {g:N6},H c=some (.lst g)->(λc=>if c=a then none else H c) c=some (.lst g):=λ{c g} h=>by
  show(if c=a then none else H c)=_;rw[va (λz=>by rw[z,o]at h;cases h)];exact h
 refine⟨λc=>if c=a then none else H c,λH' k c u h=>?_,λ{c u} h=>?_,f B.t,p B.l,B.la.mono λa x m=>f m,p B.p,B.pa.mono λa x m=>?_⟩
 .have h:(if c=a then none else H c)=some u:=h;by_cases e:c=a
  .rw[vc e]at h;cases h
  .rw[va e]at h;exact k c u e h
 .have h:(if c=a then none else H c)=some u:=h;intro e;rw[vc e]at h;cases h
 .let⟨q,s,d⟩:=m;refine⟨q,f s,?_⟩;cases hx2:x.2 with
  | row r=>rw[hx2]at d;let⟨c,j,l⟩:=d;exact⟨c,f j,f l⟩
  | side r=>rw[hx2]at d;let⟨c,j,l⟩:=d;exact⟨c,f j,f l⟩
  | hold n=>rw[hx2]at d;exact f d
  | ring y n=>rw[hx2]at d;exact f d
  | rise y v n=>rw[hx2]at d;exact f d
  | again k y=>rw[hx2]at d;exact f d
def few(h:(putF f v r).length<=n)(k:n<1000):(putF f v r).length<1000:=vF h k
section
variable{a b c d e:Str}{u v w x y:V}
def few3:(putF c w (putF b v (putF a u []))).length<1000:=by
 have:=jO c w (putF b v (putF a u []));have:=jO b v (putF a u []);have:=jO a u [];simp at *;lia
def few4:(putF d x (putF c w (putF b v (putF a u [])))).length<1000:=by
 have:=jO d x (putF c w (putF b v (putF a u [])));have:=jO c w (putF b v (putF a u []));have:=jO b v (putF a u []);have:=jO a u [];simp at *;lia
def few5:(putF e y (putF d x (putF c w (putF b v (putF a u []))))).length<1000:=by
 have:=jO e y (putF d x (putF c w (putF b v (putF a u []))));have:=jO d x (putF c w (putF b v (putF a u [])));have:=jO c w (putF b v (putF a u []));have:=jO b v (putF a u []);have:=jO a u [];simp at *;lia
end
end Rm
namespace L2
open PySem PySem.Spec PyProof.Rows
def xF{xs:N1}(d:xs.Pairwise (· < ·)){i j v w:Nat}(hi:xs[i]?=some v)(a:xs[j]?=some w)(h:i<j):v<w:=by
 let⟨b,rfl⟩:=vx.mp hi;let⟨c,rfl⟩:=vx.mp a;exact pairwise_iff_getElem.mp d i j b c h
theorem Kg{xs:Array Nat}{j:Nat}(l:xs.toList.Pairwise (· < ·)):∀(f lo hi:Nat),lo<=hi->hi<=xs.size->hi-lo<=f->(∀i v,i<lo->xs.toList[i]?=some v->v<j)->(∀i v,hi<=i->xs.toList[i]?=some v->j<=v)->
  SetTable.below.go xs j f lo hi<=xs.size/\(∀i v,i<SetTable.below.go xs j f lo hi->xs.toList[i]?=some v->v<j)/\∀i v,SetTable.below.go xs j f lo hi<=i->xs.toList[i]?=some v->j<=v
 | 0,lo,hi,h1,h2,h3,a,b=>by
  have e:lo=hi:=⋯
  subst e;unfold SetTable.below.go;exact⟨h2,a,b⟩
 | f+1,lo,hi,h1,h2,h3,a,b=>by
  have d:SetTable.below.go xs j (f+1) lo hi=if lo<hi then(if xs.getD ((lo+hi)/2) j<j then SetTable.below.go xs j f ((lo+hi)/2+1) hi else SetTable.below.go xs j f lo ((lo+hi)/2))else lo:=rfl
  by_cases h:lo<hi
  .have n:(lo+hi)/2<xs.size:=⋯
   have k:xs.toList[(lo+hi)/2]?=some (xs.getD ((lo+hi)/2) j):=by
    rw[Array.getElem?_toList,Array.getElem?_eq_getElem n];simp[Array.getD,n]
   rw[vc h]at d;by_cases c:xs.getD ((lo+hi)/2) j<j
   .rw[vc c]at d;rw[d];refine Kg l f ((lo+hi)/2+1) hi ⋯ h2 ⋯ (λi v m g=>?_) b;rcases Nat.lt_or_ge i ((lo+hi)/2)with z | z
    .exact Nat.lt_trans (xF l g k z) c
    .have:i=(lo+hi)/2:=⋯
     subst this;rw[k]at g;exact vN g▸c
   .rw[va c]at d;rw[d];refine Kg l f lo ((lo+hi)/2) ⋯ ⋯ ⋯ a λi v m g=>?_
    rcases Nat.lt_or_ge ((lo+hi)/2) i with z | z
    .have:=xF l k g z;lia
    .have:i=(lo+hi)/2:=⋯
     subst this;rw[k]at g;have:=vN g;lia
  .rw[va h]at d;rw[d];have e:lo=hi:=⋯
   subst e;exact⟨h2,a,b⟩
def Kh{xs:Array Nat}(b:xs.toList.Pairwise (· < ·))(j:Nat):SetTable.below xs j<=xs.size/\(∀i v,i<SetTable.below xs j->xs.toList[i]?=some v->v<j)/\∀i v,SetTable.below xs j<=i->xs.toList[i]?=some v->j<=v:=
 Kg b xs.size 0 xs.size (vB _) (vA _) ⋯ (λi v h=>uh h (Nat.not_lt_zero _)) λi v h a=>by
  have:=(vx.mp a).1;rw[Array.length_toList]at this;lia
structure STb(led:Bool)(n:Nat)(t:SetTable):Prop where
 mask:t.mask=7
 dm:t.dummies = #[]
 ld:t.led=led
 plain:t.plain=true
 up:t.place.toList.Pairwise (· < ·)
 le:∀x∈t.place.toList,x<8
 sz:t.place.size=n
def STb.fresh(led:Bool):STb led 0 (.fresh 0 0 led):=⟨rfl,rfl,rfl,rfl,.nil,(λx h=>nomatch h),rfl⟩
section
variable{led:Bool}{n:Nat}{t:SetTable}
def STb.slot(T:STb led n t)(j:Nat):(j∈t.place.toList/\∃i,t.slot j = .live i)\/(j∉t.place.toList/\t.slot j = .empty):=by
 let⟨g,b,d⟩:=Kh T.up j;unfold SetTable.slot;by_cases c:t.place[SetTable.below t.place j]?=some j
 .refine .inl ⟨?_,SetTable.below t.place j,?_⟩
  .rw[<-Array.getElem?_toList]at c;exact vj c
  .dsimp only;rw[vc (by rw[c];exact beq_self_eq_true _)]
 .refine .inr ⟨λf=>c ?_,?_⟩
  .let⟨i,a⟩:=List.getElem?_of_mem f;rcases Nat.lt_trichotomy i (SetTable.below t.place j)with z | z | z
   .exact uh (b i j z a) (Nat.lt_irrefl _)
   .rw[<-Array.getElem?_toList,<-z];exact a
   .have h:=(vx.mp a).1;have e:t.place.toList[SetTable.below t.place j]?=some (t.place.toList[SetTable.below t.place j]'⋯):=vz _;have:=d _ _ (vA _) e;have:=xF T.up e a z;lia
  .dsimp only;rw[va (by rw[beq_iff_eq];exact c),T.dm];rfl
noncomputable def lp(j:Nat):Nat->Nat
 | 0=>j
 | k+1=>lp ((j*5+1)%8) k
def j6B:∀j,j<8->∀m,m<8->∃k,k<8/\lp j k=m:=by decide
def STb.adv(T:STb led n t){p:SetTable.Probe}(b:p.more=0):t.advance p={p with j:=(p.i*5+1+p.perturb/32)%8,more:=0,i:=(p.i*5+1+p.perturb/32)%8,perturb:=p.perturb/32}:=by
 unfold SetTable.advance;rw[va ⋯,T.mask];have a:(p.i*5+1+p.perturb/32)%8<8:=Nat.mod_lt _ nofun;have e:SetTable.runEnd 7 ((p.i*5+1+p.perturb/32)%8)=(p.i*5+1+p.perturb/32)%8:=by
  unfold SetTable.runEnd;rw[va ⋯]
 unfold SetTable.leap;simp only[show(7:Nat)+1=8 from rfl];rw[e,Nat.sub_self]
abbrev PbOk(p:SetTable.Probe):Prop:=p.more=0/\p.i=p.j/\p.j<8/\p.dummy=none
def STb.go_live(T:STb led n t){h:Int}{f:Nat}{p:SetTable.Probe}(a:PbOk p)(c:∃i,t.slot p.j = .live i) :
  ∃q,PbOk q/\q.perturb=p.perturb/32/\q.j=(p.j*5+1+p.perturb/32)%8/\SetTable.probe.go t (λ_=>h+1) h (f+1) p=SetTable.probe.go t (λ_=>h+1) h f q:=by
 let⟨i,b⟩:=c;refine⟨t.advance p,?_⟩;rw[T.adv a.1];refine⟨⟨rfl,rfl,Nat.mod_lt _ nofun,a.2.2.2⟩,rfl,by rw[<-a.2.1],?_⟩;rw[SetTable.probe.go,b];dsimp only;rw[va (by rw[beq_iff_eq];lia),T.adv a.1]
def STb.go_empty{h:Int}{f:Nat}{p:SetTable.Probe}(b:PbOk p)(a:t.slot p.j = .empty):SetTable.probe.go t (λ_=>h+1) h (f+1) p=some (.empty p.j none):=by
 rw[SetTable.probe.go,a];dsimp only;rw[b.2.2.2]
theorem STb.go0(T:STb led n t){h:Int}:∀(k f:Nat) (p:SetTable.Probe),PbOk p->p.perturb=0->k<f->t.slot (lp p.j k) = .empty->∃j,j<8/\t.slot j = .empty/\SetTable.probe.go t (λ_=>h+1) h f p=some (.empty j none)
 | _,0,_,_,_,hf,_=>uh hf (Nat.not_lt_zero _)
 | 0,f+1,p,hp,_,_,he=>⟨p.j,hp.2.2.1,he,STb.go_empty hp he⟩
 | k+1,f+1,p,hp,h0,hf,he=>by
  rcases T.slot p.j with⟨_,d⟩ | ⟨_,z⟩
  .let⟨q,e,a,b,c⟩:=T.go_live (h:=h) (f:=f) hp d;rw[c];rw[h0]at a b;exact STb.go0 T k f q e a ⋯ (by rw[b];exact he)
  .exact⟨p.j,hp.2.2.1,z,STb.go_empty hp z⟩
def STb.some_empty(T:STb led n t)(d:n<=7):∃m,m<8/\t.slot m = .empty:=by
 apply Classical.byContradiction;intro c;have a:∀m∈List.range 8,m∈t.place.toList:=λm b=>by
  rcases T.slot m with⟨z,_⟩ | ⟨_,z⟩
  .exact z
  .exact uh ⟨m,mem_range.mp b,z⟩ c
 have:=(List.nodup_range (n:=8)).length_le_of_subset a;rw[length_range,Array.length_toList,T.sz]at this;lia
theorem STb.goK(T:STb led n t)(a:n<=7){h:Int}:∀(k f:Nat) (p:SetTable.Probe),PbOk p->p.perturb<32^k->k+9<=f->∃j,j<8/\t.slot j = .empty/\SetTable.probe.go t (λ_=>h+1) h f p=some (.empty j none)
 | 0,f,p,hp,h0,hf=>by
  let⟨m,l,e⟩:=T.some_empty a;let⟨k,r,d⟩:=j6B p.j hp.2.2.1 m l;exact T.go0 k f p hp (by simpa using h0) ⋯ (by rw[d];exact e)
 | k+1,0,_,_,_,hf=>uh hf ⋯
 | k+1,f+1,p,hp,h0,hf=>by
  rcases T.slot p.j with⟨_,g⟩ | ⟨_,z⟩
  .let⟨q,i,b,o,c⟩:=T.go_live (h:=h) (f:=f) hp g;rw[c];exact STb.goK T a k f q i (by rw[b,Nat.div_lt_iff_lt_mul nofun];rw[Nat.pow_succ]at h0;exact h0) ⋯
  .exact⟨p.j,hp.2.2.1,z,STb.go_empty hp z⟩
def STb.free(T:STb led n t)(c:n<=7)(h:Int):∃j,j<8/\j∉t.place.toList/\t.freeSlot h=some (j,false):=by
 have d:SetTable.bits h<2^64:=by
  unfold SetTable.bits;have:=ve h (show(0:Int)<2^64 by decide);have:=vd h (show(2^64:Int)≠0 by decide);lia
 have e:t.probeStart h=⟨SetTable.bits h%8,0,SetTable.bits h%8,SetTable.bits h,none⟩:=by
  unfold SetTable.probeStart;rw[T.mask];have g:SetTable.bits h%(7+1)<8:=Nat.mod_lt _ nofun;have e:SetTable.runEnd 7 (SetTable.bits h%(7+1))=SetTable.bits h%(7+1):=by
   unfold SetTable.runEnd;rw[va ⋯]
  simp only[e,Nat.sub_self]
 let⟨j,f,b,a⟩:=T.goK c (h:=h) 13 220 ⟨SetTable.bits h%8,0,SetTable.bits h%8,SetTable.bits h,none⟩ ⟨rfl,rfl,Nat.mod_lt _ nofun,rfl⟩ (Nat.lt_of_lt_of_le d nofun) nofun;refine⟨j,f,?_,?_⟩
 .rcases T.slot j with⟨_,i,z⟩ | ⟨z,_⟩
  .rw[b]at z;cases z
  .exact z
 .unfold SetTable.freeSlot SetTable.probe;rw[e,T.mask];show(match SetTable.probe.go t (λ_=>h+1) h 220 _ with | some (.empty j dummy)=>some (dummy.getD j,dummy.isSome) | _=>none)=_;rw[a];rfl
end
section
variable{prog:Program}{w:World}{A:Around}{E:Value->Shared->Prop}{s:Shared}
noncomputable def keyI(e:Int×Value):Int:=match e.2 with | .int k _=>k | _=>0
def SetG(prog:Program)(w:World)(led:Bool)(h:Heap)(a:Addr)(ks:L9):Prop:=∃o es ep t,h.get? a=some o/\o.ExactSet/\o.data = .set es ep t/\ElemsOf (intKind prog w) es.toList/\es.toList.map keyI=ks/\ks.Nodup/\STb led es.size t/\es.size<=4
def SetG.keep{led:Bool}{h h':Heap}{a:Addr}{ks:L9}(x:SetG prog w led h a ks)(k:∀o,h.get? a=some o->h'.get? a=some o):SetG prog w led h' a ks:=by
 let⟨o,c,b,t,d,e⟩:=x;exact⟨o,c,b,t,k o d,e⟩
def STb.fits{led:Bool}{n:Nat}{t:SetTable}(T:STb led n t)(h:n<=7):t.fits n=true:=by
 unfold SetTable.fits SetTable.fill;rw[T.sz,T.dm,T.mask];simpa using h
def j1z{a:List (Int×Value)}(h:ElemsOf (intKind prog w) a){e:Int×Value}(b:e∈a):∃t,e.2 = .int (keyI e) t:=by
 let⟨⟨k,c,_⟩,_⟩:=h e b;let⟨t,d⟩:=Value.isInt_shape (k:=k) c;refine⟨t,?_⟩;unfold keyI;rw[d]
def STb.put{led:Bool}{n:Nat}{t:SetTable}(T:STb led n t){j:Nat}(o:j<8)(p:j∉t.place.toList):STb led (n+1) (t.put j).1:=by
 let⟨q,k,l⟩:=Kh T.up j;have e:(t.put j).1={t with place:=SetTable.insertAt t.place (SetTable.below t.place j) j,dummies:=#[]}:=by
  unfold SetTable.put;rw[T.dm];rfl
 rw[e];have h:∀v∈t.place.toList.take (SetTable.below t.place j),v<j:=λv b=>by
  let⟨i,a⟩:=List.getElem?_of_mem b;have m:=(vx.mp a).1;rw[vh]at m;rw[List.getElem?_take_of_lt ⋯]at a;exact k i v ⋯ a
 have d:∀v∈t.place.toList.drop (SetTable.below t.place j),j<v:=λv b=>by
  let⟨i,a⟩:=List.getElem?_of_mem b;rw[List.getElem?_drop]at a;have:=l _ v (Nat.le_add_right _ i) a;rcases Nat.lt_or_eq_of_le this with z | z
  .exact z
  .exact uh (z▸vj a) p
 have g:(SetTable.insertAt t.place (SetTable.below t.place j) j).toList=t.place.toList.take (SetTable.below t.place j)++j::t.place.toList.drop (SetTable.below t.place j):=SetTable.toList_insertAt ..;refine⟨T.mask,rfl,T.ld,T.plain,?_,?_,?_⟩
 .show(SetTable.insertAt t.place (SetTable.below t.place j) j).toList.Pairwise _;rw[g,List.pairwise_append,List.pairwise_cons];refine⟨T.up.sublist (List.take_sublist _ _),⟨d,T.up.sublist (List.drop_sublist _ _)⟩,λv b u c=>?_⟩;rcases mem_cons.mp c with rfl | c
  .exact h v b
  .exact Nat.lt_trans (h v b) (d u c)
 .show∀x∈(SetTable.insertAt t.place (SetTable.below t.place j) j).toList,x<8;intro x f;rw[g]at f;rcases vg.mp f with z | z
  .exact T.le x (mem_of_mem_take z)
  .rcases mem_cons.mp z with rfl | z
   .exact o
   .exact T.le x (List.mem_of_mem_drop z)
 .show(SetTable.insertAt t.place (SetTable.below t.place j) j).size=n+1;rw[<-Array.length_toList,(SetTable.insertAt_perm t.place _ j).length_eq,Array.toList_push,vm,Array.length_toList,T.sz];rfl
def setAddG{led:Bool}{a:Addr}{ks:L9}{k:Int}{c:Tok}{Q:Bool->Shared->Prop}(U:SetG prog w led s.heap a ks)(C:k∈ks\/ks.length<4)
  (h:∀b h' r,Heap.SameBut a s.heap h'->SetG prog w led h' a r->(∀x,x∈r↔x∈ks\/x=k)->Q b {s with heap:=h'}):wpAny (model prog w) A (setAddHashed a (.int k c) ((intKind prog w).hash k)) Q E s:=by
 let⟨o,d,D,t,q,p,l,f,g,M,T,S⟩:=U;have L:=T.fits ⋯;have kl:ks.length=d.size:=by rw[<-g,vt,Array.length_toList]
 have v:∀x,x∈ks↔∃e∈d.toList,(intKind prog w).is x e.2=true:=λx=>by
  rw[<-g,vM];constructor
  .rintro⟨e,m,rfl⟩;let⟨u,H⟩:=j1z f m;exact⟨e,m,by rw[H];exact intKind_is _ _ _ _⟩
  .rintro⟨e,m,I⟩;let⟨u,H⟩:=Value.isInt_shape (k:=x) I;refine⟨e,m,?_⟩;unfold keyI;rw[H]
 unfold setAddHashed setAddHashedIn;refine wpAny_holding (uj (wpAny_setState_of q l L ?_));dsimp only;rw[byScan_of (knd:=intKind prog w) (x:=.int k c) rfl (by unfold scanBound;lia) f];simp only[↓reduceIte];unfold setAddByScan;refine uj (uj (wpAny_rule (uj (wpAny_setScan_of (knd:=intKind prog w) (k:=k) (intKind_is _ _ _ _) q l L f ?_))));cases hr:List.findIdx? (λe=>(intKind prog w).is k e.2) d.toList with
 | some j=>
  dsimp only;let⟨Y,G,_⟩:=List.findIdx?_eq_some_iff_getElem.mp hr;have F:k∈ks:=(v k).mpr ⟨d.toList[j],getElem_mem Y,G⟩;refine ui (ui ?_);exact h _ s.heap ks (Heap.SameBut.refl a s.heap) ⟨o,d,D,t,q,p,l,f,g,M,T,S⟩ λx=>⟨.inl,λz=>z.elim id λe=>e▸F⟩
 | none=>
  dsimp only;have N:k∉ks:=λF=>by
   let⟨e,m,Z⟩:=(v k).mp F;have:=List.findIdx?_eq_none_iff.mp hr e m;rw[Z]at this;cases this
  have n4:d.size<4:=by
   rcases C with z | z
   .exact uh z N
   .lia
  let⟨j,j8,nj,R⟩:=T.free ⋯ ((intKind prog w).hash k);have i:=T.put j8 nj;have B:=SetTable.insertAt_perm d (t.put j).2 ((intKind prog w).hash k,Value.int k c);have J:(SetTable.insertAt d (t.put j).2 ((intKind prog w).hash k,Value.int k c)).size=d.size+1:=by
   rw[<-Array.length_toList,B.length_eq,Array.toList_push,vm,Array.length_toList];rfl
  have P:layNew t d ((intKind prog w).hash k) (.int k c)=(SetTable.insertAt d (t.put j).2 ((intKind prog w).hash k,Value.int k c),(t.put j).1,false,false):=by
   have K:(t.put j).1.fits (d.size+1)=true:=i.fits ⋯;unfold layNew;rw[R];dsimp only;rw[J];unfold SetTable.orStandIn;rw[vc K,K];rfl
  rw[P];dsimp only;refine uj (ui ?_);rw[vc i.plain];refine uj ?_;rw[hashByValue_scannable 8 (x:=.int k c) rfl];refine ui ?_;rw[show plainKind (.int k c)=true from rfl];simp only[↓reduceIte];generalize W:SetTable.insertAt d (t.put j).2 ((intKind prog w).hash k,Value.int k c)=es1 at B J|-;generalize a0:(t.put j).1=t1 at i|-;rw[Array.toList_push]at B;have n:ElemsOf (intKind prog w) es1.toList:=(f.push (k:=k) (x:=.int k c) (intKind_is _ _ _ _) rfl).perm B;refine uj (wpAny_storeSet_of q l ?_ (fits_of_scanBound (by unfold scanBound;lia)));have X:(s.heap.update a (Obj.putSet es1 t1)).get? a=some {o with data:=.set es1 (D+1) t1}:=by
   have:=Heap.get?_update_self (Obj.putSet es1 t1) q (by rw[putSet_of es1 t1 l];rfl);rw[putSet_of es1 t1 l]at this;exact this
  have nf:(!false&&t1.tooFull)=false:=by
   unfold SetTable.tooFull SetTable.fill;rw[i.sz,i.dm,i.mask];simp;lia
  rw[nf];simp only[Bool.false_eq_true,↓reduceIte];refine ui (ui ?_);have O:(es1.toList.map keyI).Perm (ks++[k]):=by
   have:=B.map keyI;rw[vi,g]at this;exact this
  refine h _ _ (es1.toList.map keyI) (Heap.SameBut.update s.heap a _) ⟨_,es1,D+1,t1,X,p,rfl,n,rfl,?_,J▸i,⋯⟩ λx=>?_
  .exact O.nodup_iff.mpr (nodup_append.mpr ⟨M,pairwise_singleton _ _,λx I y hy=>by rw[vo.mp hy];exact λz=>N (z▸I)⟩)
  .rw[O.mem_iff,vg,vo]
end
section
variable{prog:Program}{w:World}{A:Around}{R:Result->Shared->Prop}{I:Addr}{fp wr:N2}{G:Array GenState->Array GenState->Prop}{n:Nat}{P:Nat->Value->Prop}{St:Nat->Shared->Prop}
def j4A{led:Bool}(W:WalksS prog w A.in1 I fp wr G n P St)(a:Addr)(T:a∉fp)(xs:L9)(D:L9)(hD:D.length<=4)(Z:∀x∈xs,x∈D)(hn:xs.length=n)(hx:∀i v,P i v->∃x t,xs[i]?=some x/\v = .int x t) :
  ∀(k i:Nat) (s:Shared) (ks:L9),n-i=k->i<=n->St i s->SetG prog w led s.heap a ks->(∀x,x∈ks↔x∈xs.take i)->
   (∀s' d,Moved (a::wr) G s s'->SetG prog w led s'.heap a d->(∀x,x∈d↔x∈xs)->R (.ok (.ret .none)) s')->codeAny (model prog w) A (.builtin "set.update.loop" ⟨[.ref a,.ref I],[]⟩) R s:=by
 have Q:a∉wr:=λz=>T (W.sub _ z)
 have Y:∀c∈wr,c∈a::wr:=λc h=>vp _ h
 intro k
 induction k with
 | zero=>
  intro i s ks e le N r f q;obtain rfl:i=n:=⋯
  refine codeAny_builtin F.entry_set_update_loop ?_;rw[Around.under_plainId F.plain_set_update_loop _];refine uj (m:=pyNext (.ref I)) (W.done s _ _ N λs' l=>ui (q s' ks (l.mono Y) (r.keep λo e=>l.heap a _ Q e) λx=>?_));rw[f,<-hn,v5]
 | succ k ih=>
  intro i s ks e le N r f q;have U:i<n:=⋯
  refine codeAny_builtin F.entry_set_update_loop ?_;rw[Around.under_plainId F.plain_set_update_loop _];refine uj (m:=pyNext (.ref I)) (W.item i s _ _ U N λv s' pv O l=>?_);let⟨x,t,S,rfl⟩:=hx i v pv;have u:SetG prog w led s'.heap a ks:=r.keep λo e=>l.heap a _ Q e
  refine uj (m:=holding [Value.int x t] (setAdd a (.int x t))) (wpAny_holding ?_);unfold setAdd;refine wpAny_holding ?_;refine uj ((intKind prog w).pyHash (k:=x) (intKind_is _ _ _ _) ?_);have p:x∈ks\/ks.length<4:=by
   by_cases c:x∈ks
   .exact .inl c
   .right;let⟨_,_,_,_,_,_,_,_,_,nd,_,_⟩:=r;have:=(uo.mpr ⟨c,nd⟩).length_le_of_subset (l₂:=D) λy K=>by
     rcases mem_cons.mp K with rfl | K
     .exact Z _ (vj S)
     .exact Z _ (mem_of_mem_take ((f y).mp K))
    rw[vR]at this;lia
  refine setAddG (s:={s' with toks:=s'.toks+1}) u p λb h' d X B E=>?_
  have H:∀y,y∈d↔y∈xs.take (i+1):=λy=>by
   have e2:xs.take (i+1)=xs.take i++[x]:=by
    rw[take_succ,S];rfl
   rw[e2,E,f,vg,vo]
  refine ui ⟨plainId_quiet F.plain_set_update_loop _,ih (i+1) _ d ⋯ U (W.frame _ s' _ _ O (Nat.le_succ _) λb C o e=>?_) B H λM j L g J=>?_⟩
  .rw[X.2 b (λz:b=a=>T (by rw[<-z];exact C))];exact e
  .refine q M j (Moved.trans W.gtrans ((l.mono Y).then_heap (Nat.le_succ _) λb o C e=>?_) L) g J;rw[X.2 b (λz:b=a=>C (by rw[z];exact vq))];exact e
end
open PySem PySem.Spec PySem.W PyProof.Rows
def XS:Manifest.owners.lookup (String.ofList ['r','o','t','a','r','e','t','i','_','t','e','s'].reverse)=some Manifest.sig_set_iterator:=by kernel_rfl
def ZR:Slot "set_iterator" "__next__" "set_iterator.__next__":=
 .of (owner:="set_iterator") (n:="__next__") (by rw[typeLookup_type,builtinLookup_eq_fast];kernel_rfl) (by trivial) (by trivial) (by trivial) (by first | exact .inl (by trivial) | exact .inr (by trivial)) (by rw[isSubtype_type];kernel_rfl)
def XR:entryFor table "set_iterator.__next__"= some Builtin.«set_iterator.__next__»:=entryFor_of_tree (by kernel_rfl)
def j1X(a:Value):argsOk "set_iterator.__next__" ⟨[a],[]⟩:=by
 unfold argsOk;rw[signature?_of (id:="set_iterator.__next__") (n:=['_','_','t','x','e','n','_','_']) (o:=['r','o','t','a','r','e','t','i','_','t','e','s']) (by kernel_rfl) XS];kernel_rfl
def j1Y:Slot "set_iterator" "__iter__" "set_iterator.__iter__":=
 .of (owner:="set_iterator") (n:="__iter__") (by rw[typeLookup_type,builtinLookup_eq_fast];kernel_rfl) (by trivial) (by trivial) (by trivial) (by first | exact .inl (by trivial) | exact .inr (by trivial)) (by rw[isSubtype_type];kernel_rfl)
def j36:entryFor table "set_iterator.__iter__"= some Builtin.«dict_keyiterator.__iter__»:=entryFor_alias (id':="dict_keyiterator.__iter__") (by kernel_rfl) rfl (by trivial) (by kernel_rfl)
def j4B(a:Value):argsOk "set_iterator.__iter__" ⟨[a],[]⟩:=by
 unfold argsOk;rw[signature?_of (id:="set_iterator.__iter__") (n:=['_','_','r','e','t','i','_','_']) (o:=['r','o','t','a','r','e','t','i','_','t','e','s']) (by kernel_rfl) XS];kernel_rfl
def j4z:entryFor table "set.__iter__"= some Builtin.«frozenset.__iter__»:=entryFor_alias (id':="frozenset.__iter__") (by kernel_rfl) rfl (by trivial) (by kernel_rfl)
theorem wZ{b:Type}(nx:Nat->Nat):∀(f k:Nat) (left:List b) (out:Array b),f=left.length->(pickOrder.go nx f k left out).toList.Perm (out.toList++left)
 | 0,_,left,out,e=>by
  rw[List.eq_nil_of_length_eq_zero e.symm,append_nil];exact .rfl
 | f+1,k,left,out,e=>by
  have a:nx k%left.length<left.length:=Nat.mod_lt _ ⋯;unfold pickOrder.go;rw[vz a];dsimp only;refine(wZ nx f (k+1) _ _ (by rw[List.length_eraseIdx_of_lt a];lia)).trans ?_;rw[Array.toList_push,List.append_assoc];refine List.Perm.append_left _ ?_;rw[List.singleton_append,List.eraseIdx_eq_take_drop_succ];have c:left=left.take (nx k%left.length)++left[nx k%left.length]::left.drop (nx k%left.length+1):=by
   rw[List.getElem_cons_drop,List.take_append_drop]
  exact List.perm_middle.symm.trans (List.Perm.of_eq c.symm)
section
variable{prog:Program}{w:World}{A:Around}{E:Value->Shared->Prop}{s:Shared}
noncomputable abbrev byT(w:World):Bool:=w.params.followText "set-order"
noncomputable def ordS(w:World)(a:Addr)(ep:Nat)(es:Array (Int×Value)):Array (Int×Value):=if byT w=true then pickOrder (w.params.setOrder a ep) es else es
def YS(a:Addr)(ep:Nat)(b:Array (Int×Value)):(ordS w a ep b).toList.Perm b.toList:=by
 unfold ordS;split
 .have:=wZ (w.params.setOrder a ep) b.size 0 b.toList #[] (by rw[Array.length_toList]);rw[show(#[]:Array (Int×Value)).toList++b.toList=b.toList from nil_append _]at this;exact this
 .exact .rfl
noncomputable def plS(w:World)(t:SetTable)(i:Nat):Nat:=if byT w=true then 0 else if i=0 then 0 else t.place.getD (i-1) 0+1
def STb.below_at{led:Bool}{n:Nat}{t:SetTable}(T:STb led n t){i:Nat}(hi:i<=n):SetTable.below t.place (if i=0 then 0 else t.place.getD (i-1) 0+1)=i:=by
 let⟨g,d,f⟩:=Kh T.up (if i=0 then 0 else t.place.getD (i-1) 0+1);generalize b:(if i=0 then 0 else t.place.getD (i-1) 0+1)=j at g d f|-;have l:=T.sz;have a:∀k,k<n->t.place.toList[k]?=some (t.place.getD k 0):=λk h=>by
  rw[Array.getElem?_toList,Array.getElem?_eq_getElem ⋯];simp[Array.getD,show k<t.place.size by lia]
 rcases Nat.lt_trichotomy (SetTable.below t.place j) i with z | z | z
 .have e:=a (i-1) ⋯;have:=f (i-1) _ ⋯ e;rw[va ⋯]at b;lia
 .exact z
 .have e:=a i ⋯;have:=d i _ z e;by_cases c:i=0
  .rw[vc c]at b;lia
  .rw[va c]at b;have:=xF T.up (a (i-1) ⋯) e ⋯;lia
def nextG{a:Addr}{o:Obj}{b:Array (Int×Value)}{ep:Nat}{t:SetTable}{i:Nat}{Q:Option (Value×Nat)->Shared->Prop}(k:s.heap.get? a=some o)(g:o.data = .set b ep t)(T:STb (!byT w) b.size t)(p:b.size<=4)(hi:i<=b.size)
  (h:Q (((ordS w a ep b)[i]?).map λe=>(e.2,plS w t (i+1))) s):wpAny (model prog w) A (setNext a (plS w t i) i ep) Q E s:=by
 have j:=T.fits ⋯;have f:∀{R:Bool->Shared->Prop} {l:Shared},R (byT w) l->wpAny (model prog w) A setsByText R E l:=λh=>uj (wpAny_askSetting (ui h))
 unfold setNext;refine uj (wpAny_setState_of k g j ?_);dsimp only;refine uj (f ?_);by_cases c:byT w=true
 .rw[vc c];rw[va (by simp)];unfold setWalk;refine uj (uj (wpAny_setState_of k g j ?_));dsimp only;refine uj (f ?_);rw[vc c];refine uj (wpAny_askSetting (ui (ui ?_)));unfold ordS plS at h;rw[vc c,vc c]at h;unfold plS;rw[vc c];exact h
 .rw[va c];have n:t.led=true:=by rw[T.ld];simpa using c
  refine wpAny_ite_split (λz=>?_) (λ_=>?_)
  .exact uh (show(!t.plain&&decide (b.size>1))=true from z) (by rw[T.plain];simp)
  refine uj ?_;show wpAny _ _ (if(!t.led && !b.isEmpty)=true then _ else pure ()) _ _ _;rw[va (by rw[n];simp)];refine ui ?_;have m:=T.below_at hi;have d:plS w t i=if i=0 then 0 else t.place.getD (i-1) 0+1:=by unfold plS;rw[va c]
  rw[d,m];unfold ordS plS at h;rw[va c,va c,va (Nat.succ_ne_zero i)]at h;refine ui ?_;rcases Nat.lt_or_ge i b.size with z | z
  .have q:=T.sz;rw[Array.getElem?_eq_getElem z]at h|-;rw[Array.getElem?_eq_getElem (show i<t.place.size by lia)];dsimp only;rw[show i+1-1=i from rfl]at h;have e:t.place.getD i 0=t.place[i]'⋯:=by simp[Array.getD,show i<t.place.size by lia]
   rw[e]at h;exact h
  .rw[Array.getElem?_eq_none z]at h|-;exact h
noncomputable abbrev siO(a:Addr)(p i n ep:Nat):Obj:={cls:=.type "set_iterator",dict:=none,data:=.fields #[.int p 0,.int i 0,.ref a,.int n 0,.int ep 0],slots:=#[]}
def nextI{it a:Addr}{o:Obj}{b:Array (Int×Value)}{ep:Nat}{t:SetTable}{i:Nat}{e:Int×Value}{Q:Option Value->Shared->Prop}(g:s.heap.get? a=some o)(f:o.data = .set b ep t)(T:STb (!byT w) b.size t)(p:b.size<=4)(hi:i<b.size)(r:(ordS w a ep b)[i]?=some e)
  (c:s.heap.get? it=some (siO a (plS w t i) i b.size ep)) (q:∀h',h'.get? it=some (siO a (plS w t (i+1)) (i+1) b.size ep)->Heap.SameBut it s.heap h'->Q (some e.2) {s with heap:=h'}):wpAny (model prog w) A (pyNext (.ref it)) Q E s:=by
 have d:s.TypeIs (.ref it) "set_iterator":=⟨_,c,rfl⟩
 have u:=T.fits ⋯;unfold pyNext;refine uj (wpAny_attempt (wpAny_callSpecial?_slot (name:=Str.ofString "__next__") d ZR (wpAny_call_entry ZR d XR ?_ (j1X _))));unfold Builtin.«set_iterator.__next__»;refine uj (m:=slotArgs "__next__" 0 ⟨[.ref it],[]⟩) (ui ?_);refine uj (wpAny_fieldsOf c rfl ?_);dsimp only;refine uj (wpAny_setEntries_of g f u ?_);rw[va (by simp)];simp only[Int.toNat_natCast];refine uj (nextG g f T p (vZ hi) ?_);rw[r];dsimp only[Option.map];refine uj (wpAny_setField_rec c (by simp) λv k h=>?_);refine uj (wpAny_setField_rec k (by simp) λn l j=>?_);exact ui ⟨_,rfl,ui (q n (by rw[l];simp[rawInt]) (h.trans j))⟩
def endI{it a:Addr}{o:Obj}{c:Array (Int×Value)}{ep:Nat}{t:SetTable}{Q:Option Value->Shared->Prop}(l:A.handled=none)(g:s.heap.get? a=some o)(f:o.data = .set c ep t)(T:STb (!byT w) c.size t)(i:c.size<=4)
  (d:s.heap.get? it=some (siO a (plS w t c.size) c.size c.size ep)) (j:∀h',Heap.ExtBut it s.heap h'->Q none {s with heap:=h'}):wpAny (model prog w) A (pyNext (.ref it)) Q E s:=by
 have e:s.TypeIs (.ref it) "set_iterator":=⟨_,d,rfl⟩
 have k:=T.fits ⋯;unfold pyNext;refine uj (wpAny_attempt (wpAny_callSpecial?_slot (name:=Str.ofString "__next__") e ZR (wpAny_call_entry ZR e XR ?_ (j1X _))));unfold Builtin.«set_iterator.__next__»;refine uj (m:=slotArgs "__next__" 0 ⟨[.ref it],[]⟩) (ui ?_);refine uj (wpAny_fieldsOf d rfl ?_);dsimp only;refine uj (wpAny_setEntries_of g f k ?_);rw[va (by simp)];simp only[Int.toNat_natCast];have n:=(YS (w:=w) a ep c).length_eq;rw[Array.length_toList,Array.length_toList]at n;refine uj (nextG g f T i (vA _) ?_);rw[Array.getElem?_eq_none ⋯];dsimp only[Option.map];refine uj (wpAny_setField_rec d (by simp) λq p h=>?_);refine uj ?_;simp only[newExc,newTuple];refine uj (wpAny_newObj_type ?_ (by size_fits));refine uj (m:=firstArgMember _ _) (wpAny_of_eq (a:=Value.none) (by first | rfl | (simp only[firstArgMember];rfl)) ?_);refine wpAny_newObj_type ?_ (by size_fits);simp only[raiseNew];refine uj (wpAny_handled ?_);rw[show A.in1.handled=none from l];refine uj (ui (wpAny_throw ?_));refine uj (wpAny_isInstance (T:="StopIteration") (b:=true) ⟨_,Heap.get?_push_size _ rfl,rfl⟩ isSubtype_stop ?_);exact ui (j _ ((h.extBut.push _).push _))
def iterI{a:Addr}{o:Obj}{b:Array (Int×Value)}{ep:Nat}{t:SetTable}{Q:Value->Shared->Prop}(c:s.heap.get? a=some o)(h:o.ExactSet)(d:o.data = .set b ep t)(T:STb (!byT w) b.size t)(i:b.size<=4)
  (g:Q (.ref s.heap.objs.size) {s with heap:=s.heap.push (siO a 0 0 b.size ep)}):wpAny (model prog w) A (pyIter (.ref a)) Q E s:=by
 have f:s.TypeIs (.ref a) "set":=⟨_,c,h.1⟩
 have e:=T.fits ⋯;refine wpAny_pyIter_slot f F.slot_set_iter (wpAny_call_entry F.slot_set_iter f j4z ?_ (F.args_set_iter_1 _));unfold Builtin.«frozenset.__iter__»;refine uj (m:=Builtin.Frozenset.slot0 "__iter__" ⟨[.ref a],[]⟩) (ui ?_);unfold Builtin.Frozenset.sizeOf;refine uj (uj (wpAny_setEntries_of c d e (ui ?_)));unfold setDrawn;refine uj (uj (wpAny_setState_of c d e ?_));dsimp only;refine uj (uj (wpAny_askSetting (ui (ui ?_))));refine wpAny_ite_split (λz=>?_) (λ_=>?_)
 .exact uh (show(!byT w&&(!t.plain&&decide (b.size>1)))=true from z) (by rw[T.plain];simp)
 refine uj (ui ?_);refine uj (wpAny_setEpoch_of c d e ?_);refine uj (wpAny_newObj_type (ui ⟨_,rfl,"set_iterator",_,⟨_,Heap.get?_push_size _ rfl,rfl⟩,ZR.lookup,?_⟩));exact g
def walkI(y:A.handled=none)(I a:Addr)(m:a≠I){o:Obj}{d:Array (Int×Value)}{ep:Nat}{t:SetTable}(p:o.data = .set d ep t)(T:STb (!byT w) d.size t)(n:d.size<=4) :
  Walks prog w A I [I,a] [I] d.size (λi v=>∃e,(ordS w a ep d)[i]?=some e/\v=e.2) (λi h=>h.get? I=some (siO a (plS w t i) i d.size ep)/\h.get? a=some o) where
 sub:=λb g=>by rw[vo.mp g];exact vq
 frame:=λ_ _ _ c r=>⟨r I vq _ c.1,r a (vp _ vq) _ c.2⟩
 item:=λi s Q E B c f=>by
  have C:=(YS (w:=w) a ep d).length_eq;rw[Array.length_toList,Array.length_toList]at C;have q:(ordS w a ep d)[i]?=some ((ordS w a ep d)[i]'⋯):=Array.getElem?_eq_getElem _;refine nextI c.2 p T n B q c.1 λj x u=>?_
  exact f _ j s.toks ⟨_,q,rfl⟩ ⟨x,(u.2 a m).trans c.2⟩ λb o g e=>(u.2 b λz=>g (by rw[z];exact vq)).trans e
 done:=λs Q E c f=>endI y c.2 p T n c.1 λj l=>f j s.toks λb o g e=>l b o (λz=>g (by rw[z];exact vq)) e
 self:=λi s Q E c f=>by
  have k:s.TypeIs (.ref I) "set_iterator":=⟨_,c.1,rfl⟩
  refine wpAny_pyIter_slot k j1Y (wpAny_call_entry j1Y k j36 ?_ (j4B _));show wpAny _ _ (ret (.ref I)) _ _ s;exact ui ⟨_,rfl,"set_iterator",_,k,ZR.lookup,f⟩
def hintI{r:Addr}{Q:Bool->Shared->Prop}(c:s.TypeIs (.ref r) "set")(h:Q false s):wpAny (model prog w) A (Builtin.List.listLengthHint (.ref r)) Q E s:=by
 unfold Builtin.List.listLengthHint;refine uj (wpAny_specialOf c F.slot_set_len.lookup ?_);generalize a:("set.__len__" : String)=id0
 wp_delta
 rw[show splitId id0=some ("set","__len__")from by subst a;decide +kernel];subst a;refine uj (wpAny_isInstance (T:="set") (b:=true) c (by rw[isSubtype_type];kernel_rfl) ?_);refine wpAny_ite_split (λz=>uh z nofun) (λ_=>?_);refine wpAny_ite_split (λ_=>?_) (λz=>uh (by trivial) z);exact uj (wpAny_typeOf c (ui h))
def srcI{a:Addr}{o:Obj}{c:Array (Int×Value)}{ep:Nat}{t:SetTable}(f:o.ExactSet)(j:o.data = .set c ep t)(T:STb (!byT w) c.size t)(g:c.size<=4) :
  KdlSrc prog w "set" a a c.size (λi v=>∃e,(ordS w a ep c)[i]?=some e/\v=e.2) (λh=>h.get? a=some o) where
 type:=λ_ b=>⟨_,b,f.1⟩
 there:=λ_ b=>⟨vK b,vK b⟩
 keep:=λ_ _ b l=>l a (.inl rfl) o b
 notList:=by decide
 notTuple:=by decide
 hint:=λ_ _ s _ b d=>hintI ⟨_,b,f.1⟩ d
 iter:=λA s k b=>⟨siO a 0 0 c.size ep,_,(λ_ _ d=>iterI b f j T g d),walkI k _ a (vG (vK b)) j T g,by
  refine⟨?_,vL _ b⟩;rw[show plS w t 0=0 by unfold plS;split<;>rfl];exact Heap.get?_push_size _ rfl⟩
end
section
variable{prog:Program}{w:World}{A:Around}{E:Value->Shared->Prop}{s:Shared}
noncomputable abbrev emI(w:World):Obj:={cls:=.type "set",dict:=none,data:=.set #[] 0 (.fresh 0 0 (!byT w))}
def newI(a:Value){Q:Value->Shared->Prop}(h:Q (.ref s.heap.objs.size) {s with heap:=s.heap.push (emI w)}):codeAny (model prog w) A (.call (.builtin "set.__new__") ⟨[.type "set",a],[]⟩) (wants Q E) s:=by
 refine codeAny_of_tree ?_;show wpAny _ A.in1 (do checkBuiltinCall "set.__new__" ⟨[.type "set",a],[]⟩;again (.builtin "set.__new__" ⟨[.type "set",a],[]⟩)) _ _ s;refine uj (wpAny_of_eq (F.newCall_set_1 a) (ui ⟨plainId_quiet F.plain_set_new _,codeAny_builtin F.entry_set_new ?_⟩));rw[Around.under_plainId F.plain_set_new _];unfold Builtin.«set.__new__» Builtin.Frozenset.newClass;have b:=sub_set_self;let⟨c,g,d,f,e⟩:=s;dsimp only
 wp_walk
 refine wpAny_askSetting (ui ?_);dsimp only;simp only[newObj];exact uj (wpAny_alloc (ui (ui h)))
set_option maxRecDepth 100000 in
set_option maxHeartbeats 3200000 in
def j2p{l:Addr}{items:Array Value}{xs D:L9}{Q:Value->Shared->Prop}(hh:A.handled=none)(hl:s.heap.IsList l items)(X:D.length<=4)(xD:∀x∈xs,x∈D)(hn:xs.length=items.size)(hx:∀(i:Nat) (v:Value),items[i]?=some v->∃(x:Int) (t:Tok),xs[i]?=some x/\v = .int x t)
  (h:∀(h':Heap) (tk:Nat) (ks:L9),SetG prog w (!byT w) h' s.heap.objs.size ks->(∀x,x∈ks↔x∈xs)->(∀b o,s.heap.get? b=some o->h'.get? b=some o)->Q (.ref s.heap.objs.size) {s with heap:=h',toks:=tk}) :
  wpAny (model prog w) A (call (.type "set") [.ref l]) Q E s:=by
 let⟨c,tl,mr⟩:=F.called_set.mro;have k1:=F.called_set.made;have k2:=F.called_set.sub;refine wpAny_call (codeAny_of_tree ?_);show wpAny _ _ (callAny (.type "set") _) _ _ _;refine ui ⟨Code.quiet_builtin _ (by trivial),codeAny_builtin F.entry_type_call ?_⟩;rw[Around.under_plain (weight_type_call_type "set" [.ref l] []) rfl];have k3:=F.called_set.notType;have k4:=F.called_set.canCreate;have k5:=F.typeCall_set_1 (.ref l)
 repeat (any_goals (first | assumption | wp_step))
 refine codeAny_mono (newI (.ref l) (E:=E) (Q:=λm n=>m = .ref s.heap.objs.size/\n={s with heap:=s.heap.push (emI w)}) ⟨rfl,rfl⟩) λr s1 B=>?_
 cases r with
 | error e=>exact B
 | ok fl=>
  cases fl with
  | ret m=>
   let⟨rfl,rfl⟩:=B;have J:(s.heap.push (emI w)).get? s.heap.objs.size=some (emI w):=Heap.get?_push_size _ rfl;have Y:Shared.TypeIs {s with heap:=s.heap.push (emI w)} (.ref s.heap.objs.size) "set":=⟨_,J,rfl⟩
   have k6:=F.called_set.init.lookup;have k7:=F.called_set.init.bind (.ref s.heap.objs.size)
   repeat (any_goals (first | assumption | wp_step))
   refine codeAny_mono (codeAny_call_builtin (R:=wants (λr p=>r = .none/\∃h' tk ks,p={s with heap:=h',toks:=tk}/\SetG prog w (!byT w) h' s.heap.objs.size ks/\(∀x,x∈ks↔x∈xs)/\(∀b o,s.heap.get? b=some o->h'.get? b=some o)) E) F.called_set.init.plain F.entry_set_init (check_set_init_1 Y ?_)) λr2 s2 a=>?_
   .let⟨ol,j,d,M,f⟩:=hl;let⟨oc,od,a0,H⟩:=ol;simp only at d f;subst d f;have k:(s.heap.push (emI w)).get? l=some {cls:=.type "list",dict:=od,data:=.seq items M,slots:=H}:=vL _ j;have j1:=F.sub_list_set;have j2:=F.sub_list_frozenset;have j3:(Value.type "list"== Value.type "dict")=false:=by decide
    have g:(s.heap.push (emI w)).IsList l items:=⟨_,k,rfl,M,rfl⟩
    unfold Builtin.«set.__init__» noKeywords Builtin.Frozenset.updateFrom;generalize u:pyIter=PI
    wp_walk
    subst u;refine wpAny_pyIter_list g ?_;refine uj (wpAny_runValue ?_);have K:l<s.heap.objs.size:=vK j;have W:A.in1.in1.in1.handled=none:=by simp[hh]
    have n1:l≠(s.heap.push (emI w)).objs.size:=by rw[Heap.size_push];exact vG (Nat.lt_succ_of_lt K)
    have n2:s.heap.objs.size∉[(s.heap.push (emI w)).objs.size,l]:=by
     rw[Heap.size_push];simp only[mem_cons,not_mem_nil,or_false,not_or];exact⟨vG (Nat.lt_succ_self _),vP K⟩
    refine j4A (led:=!byT w) ((Walks.list W _ l n1 items).toS) s.heap.objs.size n2 xs D X xD hn hx (items.size-0) 0 _ [] ⋯ (vB _) ⟨⟨_,Heap.get?_push_size _ rfl,rfl,rfl⟩,(g.push _)⟩ ?hS0 (λx=>by simp) ?hR
    case hS0=>
     have hg:((s.heap.push (emI w)).push {cls:=.type "list_iterator",data:=.fields #[.ref l,.int 0 0]}).get? s.heap.objs.size=some (emI w):=vL _ J;exact⟨_,#[],0,_,hg,⟨rfl,rfl,rfl⟩,rfl,(λe Z=>nomatch Z),rfl,.nil,STb.fresh _,by decide⟩
    case hR=>
     intro s' C q y z;let⟨h',U,O,I,G⟩:=s';have S:U=s.gens:=q.gens;have P:O=s.drawn:=q.drawn;have T:G=s.os:=q.os;subst S P T;show wpAny _ _ _ _ _ _;refine ui ?_;show wpAny _ _ (ret Value.none) _ _ _;refine ui ⟨rfl,h',I,C,rfl,y,z,λb o e=>?_⟩;have L:=vK e;have N:b≠(s.heap.push (emI w)).objs.size:=by rw[Heap.size_push];exact vG (Nat.lt_succ_of_lt L)
     exact q.heap b o (by simp only[mem_cons,not_mem_nil,or_false,not_or];exact⟨vG L,N⟩) (vL _ (vL _ e))
   .cases r2 with
    | error e=>exact a
    | ok fl2=>
     cases fl2 with
     | ret r=>
      let⟨rfl,h',tk,ks,rfl,q1,q2,q3⟩:=a
      repeat (any_goals (first | assumption | wp_step))
      exact h _ _ _ q1 q2 q3
     | _=>exact a.elim
  | _=>exact B.elim
end
section
variable{X:Cx}
def j2z{prog:Program}{w:World}{l:List (Int×Value)}(h:ElemsOf (intKind prog w) l):IntsAre (l.map (·.2)) (l.map keyI):=by
 induction l with
 | nil=>exact .nil
 | cons e r ih=>
  let⟨t,b⟩:=j1z h (vq (a:=e) (l:=r));rw[v9,v9,b];exact .cons _ t (ih h.tail)
def tSS(K:Frg)(te:TE):TE:=λσ H Q=>te σ H λx H1=>∃(a:Addr) (xs D:L9),x = .ref a/\SqL K H1 a (xs.map V.int)/\D.length<=4/\(∀x∈xs,x∈D)/\∀(l:Addr) (ms:L9),H1 l=none->ms.Pairwise (· < ·)->(∀x,x∈ms↔x∈xs)->Q (.ref l) (upd H1 l (.lst (ms.map V.int)))
def j7b{K:Frg}{c:TE}{d:St}{H:Hp}{Q:VK}(h:c d H λx H1=>∃(a:Addr) (xs D:L9),x = .ref a/\SqL K H1 a (xs.map V.int)/\D.length<=4/\(∀x∈xs,x∈D)/\∀(l:Addr) (b:L9),H1 l=none->b.Pairwise (· < ·)->(∀x,x∈b↔x∈xs)->Q (.ref l) (upd H1 l (.lst (b.map V.int)))):tSS K c d H Q:=h
def j0P{e:Expr}{te:TE}{p S pos f:Pos}(hc:X.calm=true)(g1:Gl X "sorted")(m1:X.mg "sorted"= none)(g2:Gl X "set")(m2:X.mg "set"= none)(L:PE X e te)(b1:bootBuiltins "sorted"= some (.builtin "sorted"):=by trivial)
  (E:starEach [.Call (.Name "set" S) [e] [] f] X.env=[(false,eval (.Call (.Name "set" S) [e] [] f) X.env)]:=by rfl) (hs:starEach [e] X.env=[(false,eval e X.env)]:=by rfl) :
  PE X (.Call (.Name "sorted" p) [.Call (.Name "set" S) [e] [] f] [] pos) (tSS X.K te):=by
 intro k s σ H Q I h;refine wpAny_Call_Name_kw (qb I g1 m1 b1 ?_);refine PyProof.Rows.callWith_builtin1 ?_ E rfl;rw[E];refine Calls.spliced_cons ?_;refine Call_ (qb I g2 m2 j3q (PyProof.Rows.callWith_type1 ?_ hs rfl));rw[hs];refine Calls.spliced_cons (thn (L k s σ H _ I h) λu r ⟨x,H1,n,r1,a,xs,D,G,hq,hD,xD,q⟩=>Calls.spliced_nil ?_);subst G;cases r1;let⟨F,rv,pl,_⟩:=n.list hq;have lx:=rv.length;rw[vt]at lx;refine j2p (xs:=xs) (D:=D) (n.ok.hd hc) pl.isList hD xD (by rw[size_toArray];exact lx) (λi v hv=>?_) λh' tk ks hS P hk=>?_
 .have hi:i<F.length:=by
   have:=(Array.getElem?_eq_some_iff.mp hv).1;simpa using this
  have G:xs[i]?=some (xs[i]'⋯):=vz _;let⟨u,hu,ru⟩:=rv.get (i:=i) (x:=V.int (xs[i]'⋯)) (by rw[vv,G];rfl);let⟨t,rfl⟩:=ru;have:v=_:=vN (hv.symm.trans (show F.toArray[i]?=some _ by simpa using hu));exact⟨_,t,G,this⟩
 .refine Calls.spliced_nil ?_;let⟨o,B,K,t,ho,N,hd,M,C,nd,T,Z⟩:=hS;have I2:Inv X k σ H1 {r with heap:=h',toks:=tk}:=n.kept hk;refine Calls.call_function_entry kind_sorted plain_sorted entry_sorted (args_sorted1 _) ?_;unfold Builtin.«sorted»;refine uj (m:=checkCount "sorted" 1 1 _) (ui ?_);refine uj (kdu_collect (A:=X.A.in1) (srcI N hd T Z) (I2.ok.hd hc) ho (vX Z nofun) λj W c O d=>?_);have R:=YS (w:=X.w) r.heap.objs.size K B;have ol:=R.length_eq;rw[Array.length_toList,Array.length_toList]at ol;have ea:c.toList=(ordS X.w r.heap.objs.size K B).toList.map (·.2):=by
   refine List.ext_getElem? λi=>?_
   rw[vv,Array.getElem?_toList,Array.getElem?_toList];rcases Nat.lt_or_ge i c.size with z | z
   .let⟨e,j,h2⟩:=d.2 i _ (Array.getElem?_eq_getElem z);rw[Array.getElem?_eq_getElem z,j,h2];rfl
   .rw[Array.getElem?_eq_none z,Array.getElem?_eq_none (by have:=d.1;lia)];rfl
  have hI:IntsAre c.toList ((ordS X.w r.heap.objs.size K B).toList.map keyI):=by rw[ea];exact j2z (M.perm R)
  have Y:c.toList.length=B.size:=by rw[Array.length_toList];exact d.1
  refine uj (wpAny_newList ?_ (by rw[Y,sizeLine_eq];lia));have l:(j.push (seqObj "list" c.toList.toArray 0)).get? j.objs.size=some (seqObj "list" c.toList.toArray 0):=Heap.get?_push_size _ rfl;refine uj (wpAny_holding (wpAny_call_entry slot_list_sort ⟨_,l,rfl⟩ entry_list_sort (list_sort_tree l hI (by rw[Y];lia) λout J a1 a2 a3=>⟨_,rfl,?_⟩) (args_list_sort _)));refine ui ⟨_,rfl,?_⟩;have U:J.Perm ks:=a2.trans ((R.map keyI).trans (List.Perm.of_eq C));have kl:ks.length=B.size:=by rw[<-C,vt,Array.length_toList]
  have ml:J.length<=4:=by rw[U.length_eq];lia
  have g:∀b o,r.heap.get? b=some o->j.get? b=some o:=λb o e=>O b o (hk b o e)
  have hn:=n.none_at g;have hb:=n.newB g;have k2:∀b o,r.heap.get? b=some o->(sortedHeap (j.push (seqObj "list" c.toList.toArray 0)) j.objs.size c.toList out).get? b=some o:=λb o e=>by
   have lt:=vK (g b o e);rw[sortedHeap_old (vG lt) (by rw[size_push'];exact Nat.lt_succ_of_lt lt)];exact vL _ (g b o e)
  let⟨e',L⟩:=sortedHeap_at (out:=out) l;refine⟨.ref j.objs.size,_,(n.kept (t':=W) k2).track hn hb (show ObjOk X.prog X.w _ _ _ (.lst (J.map V.int))from⟨by rw[vt];exact vX ml nofun,out.toList,_,j4V a1,by rw[Array.toArray_toList];exact L⟩),rfl,q _ J hn ?_ λx=>?_⟩
  .exact(List.Pairwise.and a3 (U.nodup_iff.mpr nd)).imp λ⟨x,y⟩=>⋯
  .rw[U.mem_iff,P]
end
section
variable{prog:Program}{w:World}{A:Around}{E:Value->Shared->Prop}{s:Shared}
def j6T{a b:Int}{t u:Tok}{Q:Value->Shared->Prop}(h:Q (.bool (decide (a<b))) s):wpAny (model prog w) A (richCompare .Lt (.int a t) (.int b u)) Q E s:=
 richCompare_gives (op:=.Lt) (typeIs_int s _ t) (typeIs_int s _ u) F.slot_int_lt F.entry_int_lt (F.args_int_lt_2 _ _) (gives_int_lt _ _ t u) (λx=>nomatch x) h
def j5p(a v:Value):argsOk "min" ⟨[a],[(Str.ofString "default",v)]⟩:=by unfold argsOk;kernel_rfl
noncomputable abbrev dfN:List (Str×Value):=[(Str.ofString "default",Value.none)]
noncomputable abbrev lob(items:Array Value)(c:Nat):Obj:={cls:=.type "list",dict:=none,data:=.seq items c,slots:=#[]}
def LsI(ns:L9)(m:Int):Prop:=m∈ns/\∀x∈ns,m<=x
section
variable{R:Result->Shared->Prop}{I:Addr}{fp wr:N2}{n:Nat}{P:Nat->Value->Prop}{St:Nat->Heap->Prop}
def j0B(W:Walks prog w A.in1 I fp wr n P St){ns:L9}(hn:ns.length=n)(Y:∀i v,P i v->∃x t,ns[i]?=some x/\v = .int x t)(S:Addr)(D:S∉fp) :
  ∀(k i:Nat) (s:Shared) (m:Int) (t:Tok) (c:Nat),n-i=k->i<=n->St i s.heap->LsI (ns.take i) m->s.heap.get? S=some (lob #[.int m t,.int m t] c)->
   (∀m t h' tk,LsI ns m->(∀b o,b∉wr->b≠S->s.heap.get? b=some o->h'.get? b=some o)->R (.ok (.ret (.int m t))) {s with heap:=h',toks:=tk})->
   codeAny (model prog w) A (.builtin "min.loop" ⟨[.ref I,.none,.ref S],dfN⟩) R s:=by
 have E:S∉wr:=λh=>D (W.sub _ h)
 have U:(toString "min"++toString ".loop" : String) = "min.loop":=by decide
 intro k
 induction k with
 | zero=>
  intro i s m t c hk Z N B C H;have K:i=n:=⋯
  subst K;refine codeAny_builtin F.entry_min_loop ?_;rw[Around.under_plainId F.plain_min_loop _];show wpAny _ A.in1 (seqItems? (.ref S) >>= _) _ _ s;refine uj (wpAny_seqItems C rfl ?_);show wpAny _ A.in1 (tryCatch (pyNext (.ref I)) _ >>= _) _ _ s;refine uj (wpAny_tryCatch (W.done s _ _ N λh' tk f=>?_));have g:=f S _ E C;show wpAny _ A.in1 (updateSeq S (λ_=>#[]) >>= _) _ _ _;refine uj ?_;refine wpAny_updateSeq g rfl (uj (wpAny_letGo (ui ?_)));refine H m t _ tk (by rw[<-hn,v5]at B;exact B) λb o a d e=>(Heap.get?_update_other _ _ (Ne.symm d)).trans (f b o a e)
 | succ k ih=>
  intro i s m t c hk Z N B C H;have q:i<n:=⋯
  refine codeAny_builtin F.entry_min_loop ?_;rw[Around.under_plainId F.plain_min_loop _];show wpAny _ A.in1 (seqItems? (.ref S) >>= _) _ _ s;refine uj (wpAny_seqItems C rfl ?_);show wpAny _ A.in1 (tryCatch (pyNext (.ref I)) _ >>= _) _ _ s;refine uj (wpAny_tryCatch (W.item i s _ _ q N λv h' tk pv G f=>?_));let⟨x,u,X,rfl⟩:=Y i v pv;have g:=f S _ E C;have Q:ns.take (i+1)=ns.take i++[x]:=by
   rw[take_succ,X];rfl
  show wpAny _ A.in1 (tryCatch (holding [Value.int x u,Value.int x u] (richCompare .Lt (.int x u) (.int m t) >>= _)) _ >>= _) _ _ _;refine uj (wpAny_tryCatch (wpAny_holding (uj (j6T ?_))));refine uj (wpAny_holding (wpAny_truthy_bool ?_));refine uj (wpAny_letGo (ui ?_));by_cases T:x<m
  .rw[vI T];simp only[if_true];refine uj ?_;refine wpAny_updateSeq g rfl (uj (wpAny_letGo ?_));rw[U];refine ui ⟨plainId_quiet F.plain_min_loop _,ih (i+1) _ x u _ ⋯ q (W.frame _ _ _ G λb J o e=>?_) ?_ (Heap.get?_update_self _ g rfl) λM O p l r j=>?_⟩
   .exact(Heap.get?_update_other _ _ (λh:S=b=>D (by rw[h];exact J))).trans e
   .rw[Q];refine⟨mem_append_right _ vq,λy L=>?_⟩;rcases vg.mp L with z | z
    .have:=B.2 y z;lia
    .rw[vo.mp z];exact vC _
   .exact H M O p l r λb o a d e=>j b o a d ((Heap.get?_update_other _ _ (Ne.symm d)).trans (f b o a e))
  .rw[vJ T];simp only[Bool.false_eq_true,if_false];refine uj (wpAny_letGo ?_);rw[U];refine ui ⟨plainId_quiet F.plain_min_loop _,ih (i+1) _ m t c ⋯ q G ?_ g λM O p l r j=>?_⟩
   .rw[Q];refine⟨mem_append_left _ B.1,λy L=>?_⟩;rcases vg.mp L with z | z
    .exact B.2 y z
    .rw[vo.mp z];lia
   .exact H M O p l r λb o a d e=>j b o a d (f b o a e)
end
def j3V{l:Addr}{items:Array Value}{ns:L9}{Q:Value->Shared->Prop}(hh:A.handled=none)(K:s.heap.IsList l items)(L:ns.length=items.size)(P:∀(i:Nat) (v:Value),items[i]?=some v->∃(x:Int) (t:Tok),ns[i]?=some x/\v = .int x t)
  (h0:ns=[]->∀h' tk,(∀b o,s.heap.get? b=some o->h'.get? b=some o)->Q .none {s with heap:=h',toks:=tk}) (h1:∀m t h' tk,LsI ns m->(∀b o,s.heap.get? b=some o->h'.get? b=some o)->Q (.int m t) {s with heap:=h',toks:=tk}) :
  wpAny (model prog w) A (call (.builtin "min") [.ref l] dfN) Q E s:=by
 have X:(toString "min"++toString ".loop" : String) = "min.loop":=by decide
 have U:l<s.heap.objs.size:=by let⟨_,e,_⟩:=K;exact vK e
 refine wpAny_call (codeAny_call_builtin F.plain_min F.entry_min ?_);simp only[checkBuiltinCall,F.kind_min];have D:∀{R:Unit->Shared->Prop} {N:Value->Shared->Prop},R () s->wpAny (model prog w) A.in1 (match Manifest.signature? "min" with | none=>pure () | some sig=>Bind.checkArgs "min" sig ⟨[.ref l],dfN⟩) R N s:=λ{R N} O=>by
  have ha:=j5p (.ref l) .none;cases hsig:Manifest.signature? "min" with
  | none=>exact ui O
  | some sig=>
   have I:Bind.checkArgs "min" sig ⟨[.ref l],dfN⟩=pure ():=by simpa only[argsOk,hsig]using ha
   simp only[I];exact ui O
 refine D ?_;show wpAny _ A.in1 (Builtin.Builtins.bindParams "min" ["key","default"] 0 ⟨[],dfN⟩ >>= _) _ _ s;refine uj (wpAny_of_eq (show Builtin.Builtins.bindParams "min" ["key","default"] 0 ⟨[],dfN⟩=pure [none,some .none]from rfl) ?_);refine uj (ui ?_);refine uj (wpAny_pyIter_list K ?_);refine uj (wpAny_newObj_type ?_);rw[X];generalize c:s.heap.push _=h2;have k2:∀b o,s.heap.get? b=some o->h2.get? b=some o:=λb o e=>c▸vL _ e
 have Z:h2.objs.size=s.heap.objs.size+1:=by rw[<-c,Heap.size_push]
 have i2:h2.IsListIter s.heap.objs.size l 0:=c▸⟨_,Heap.get?_push_size _ rfl,rfl,rfl⟩;clear c;generalize f:h2.push _=h3;have j:h3.get? h2.objs.size=some (lob #[] 0):=f▸Heap.get?_push_size _ rfl;have S:∀b o,h2.get? b=some o->h3.get? b=some o:=λb o e=>f▸vL _ e
 clear f;have g:∀b o,s.heap.get? b=some o->h3.get? b=some o:=λb o e=>S b o (k2 b o e)
 have W:=Walks.list (prog:=prog) (w:=w) (A:=A.in1) hh s.heap.objs.size l (vG U) items;have Y:h3.IsListIter s.heap.objs.size l 0/\h3.IsList l items:=⟨i2.at λo e=>S _ o e,by let⟨o,e,r⟩:=K;exact⟨o,g l o e,r⟩⟩
 have d:h2.objs.size∉[s.heap.objs.size,l]:=by
  rw[Z];simp only[mem_cons,not_mem_nil,or_false,not_or];exact⟨Nat.succ_ne_self _,vP (Nat.lt_succ_of_lt U)⟩
 have H:h2.objs.size∉[s.heap.objs.size]:=λh=>d (W.sub _ h)
 have q:∀b o,s.heap.get? b=some o->b∉[s.heap.objs.size]/\b≠h2.objs.size:=λb o e=>by
  have T:=vK e;exact⟨λz=>vG T (vo.mp z),by rw[Z];exact vG (Nat.lt_succ_of_lt T)⟩
 refine ui ⟨plainId_quiet F.plain_min_loop _,?_⟩;refine codeAny_builtin F.entry_min_loop ?_;rw[Around.under_plainId F.plain_min_loop _];show wpAny _ A.in1 (seqItems? (.ref h2.objs.size) >>= _) _ _ _;refine uj (wpAny_seqItems (s:={s with heap:=h3}) j rfl ?_);show wpAny _ A.in1 (tryCatch (pyNext (.ref s.heap.objs.size)) _ >>= _) _ _ _;by_cases C:ns=[]
 .have e0:items.size=0:=by rw[<-L,C];rfl
  refine uj (wpAny_tryCatch (W.done {s with heap:=h3} _ _ (e0.symm▸Y) λh' tk a=>?_));refine uj (wpAny_rule (ui ?_));exact h0 C h' tk λb o e=>a b o (q b o e).1 (g b o e)
 .have p:0<items.size:=by
   rw[<-L];exact List.length_pos_iff.mpr C
  refine uj (wpAny_tryCatch (W.item 0 {s with heap:=h3} _ _ p Y λv h4 tk pv M a=>?_));let⟨x,u,ex,rfl⟩:=P 0 v pv;have k:=a _ _ H j;show wpAny _ A.in1 (updateSeq h2.objs.size (λ_=>#[Value.int x u,Value.int x u]) >>= _) _ _ _;refine uj ?_;refine wpAny_updateSeq k rfl ?_;rw[X];refine ui ⟨plainId_quiet F.plain_min_loop _,j0B W L P h2.objs.size d _ 1 _ x u _ rfl p (W.frame _ _ _ M λb J o e=>?_) ?_ (Heap.get?_update_self _ k rfl) λm t G B hm n=>?_⟩
  .exact(Heap.get?_update_other _ _ (λh:h2.objs.size=b=>d (by rw[h];exact J))).trans e
  .have e1:ns.take 1=[x]:=by
    cases ns with
    | nil=>exact uh rfl C
    | cons y r=>cases ex;rfl
   rw[e1];exact⟨vq,λy hy=>by rw[vo.mp hy];exact vC _⟩
  .exact h1 m t G B hm λb o e=>n b o (q b o e).1 (q b o e).2 ((Heap.get?_update_other _ _ (Ne.symm (q b o e).2)).trans (a b o (q b o e).1 (g b o e)))
end
section
variable{X:Cx}
def tMD(K:Frg)(te:TE):TE:=λσ H Q=>te σ H λx H1=>∃(a:Addr) (ns:L9),x = .ref a/\SqL K H1 a (ns.map V.int)/\(ns=[]->Q .non H1)/\∀m,LsI ns m->Q (.int m) H1
def j7a{K:Frg}{b:TE}{c:St}{H:Hp}{Q:VK}(h:b c H λx H1=>∃(a:Addr) (ns:L9),x = .ref a/\SqL K H1 a (ns.map V.int)/\(ns=[]->Q .non H1)/\∀m,LsI ns m->Q (.int m) H1):tMD K b c H Q:=h
def j5J{e:Expr}{C:TE}{p pos n:Pos}{c:Expr}(N:X.calm=true)(L:Gl X "min")(T:X.mg "min"= none)(O:PE X e C)(l:PE X c (tC .non))(F:bootBuiltins "min"= some (.builtin "min"):=by trivial)(q:starEach [e] X.env=[(false,eval e X.env)]:=by rfl)
  (f:(backToKw pos (keywordEach [⟨some "default",c,n⟩] X.env)).filterMap (·.1)=[Str.ofString "default"]:=by rfl) (d:(backToKw pos (keywordEach [⟨some "default",c,n⟩] X.env)).all (·.1.isSome)=true:=by rfl) (o:(backToKw pos (keywordEach [⟨some "default",c,n⟩] X.env)).any (·.1.isNone)=false:=by rfl) :
  PE X (.Call (.Name "min" p) [e] [⟨some "default",c,n⟩] pos) (tMD X.K C):=by
 intro b s D H Q I h;refine wpAny_Call_Name_kw (qb I L T F (callWith_kw ?_ (by rw[q];rfl) (by rw[q];rfl) d o));rw[q];refine Calls.spliced_cons (thn (O b s D H _ I h) λu s1 ⟨x,w,E,Z,a,ns,k,R,W,Y⟩=>Calls.spliced_nil ?_);subst k;cases Z;refine kws_cons (thn (l b s1 D w (λv z=>v = .non/\z=w) E ⟨rfl,rfl⟩) λy s2 ⟨y',z,j,r2,K,J⟩=>kws_nil ?_);subst K J;cases r2;rw[f];let⟨g,B,U,_⟩:=j.list R;have A:=B.length;rw[vt]at A;refine j3V (ns:=ns) (j.ok.hd N) U.isList (by rw[size_toArray];exact A) (λi v l=>?_) (λG M r f=>⟨.non,_,j.kept (t':=r) f,rfl,W G⟩) λm t M r P f=>⟨.int m,_,j.kept (t':=r) f,⟨t,rfl⟩,Y m P⟩
 have hi:i<g.length:=by
  have:=(Array.getElem?_eq_some_iff.mp l).1;simpa using this
 have k:ns[i]?=some (ns[i]'⋯):=vz _;let⟨u,S,ru⟩:=B.get (i:=i) (x:=V.int (ns[i]'⋯)) (by rw[vv,k];rfl);let⟨t,rfl⟩:=ru;have:v=_:=vN (l.symm.trans (show g.toArray[i]?=some _ by simpa using S));exact⟨_,t,k,this⟩
def j2k(D:X.calm=true):CallR X (.builtin "any") (λxs H Q=>∃(p:Addr) (a:List Bool),xs=[.ref p]/\SqL X.K H p (a.map V.bl)/\Q (.bl (a.any id)) H):=by
 intro y s T H xs S Q I r h;let⟨p,a,rfl,G,q⟩:=h;let⟨u,rfl,L⟩:=vals1 r;cases L;let⟨d,B,J,_⟩:=I.list G;have l:=J.isList;let⟨o,F,_⟩:=id l;have m:p≠s.heap.objs.size:=vG (vK F);have t:=B.length;rw[vt]at t;have W:=Walks.list (prog:=X.prog) (w:=X.w) (A:=X.A.in1) (I.ok.hd D) s.heap.objs.size p m d.toArray;refine call_any_walk (wpAny_pyIter_list l ⟨s.heap.objs.size,_,_,_,_,_,λi=>a.getD i false,rfl,W,⟨⟨_,Heap.get?_push_size _ rfl,rfl,rfl⟩,l.at λo e=>vL _ e⟩,?_,?_⟩)
 .intro i v R O N C k;have f:d[i]?=some v:=by simpa using C
  have c:i<a.length:=by have:=(vx.mp f).1;lia
  let⟨u,n,K⟩:=B.get (i:=i) (x:=.bl a[i]) (by rw[vv,vz c];rfl);rw[f]at n;cases n;cases K;dsimp only at k;rw[vy,vz c]at k;exact wpAny_truthy_bool k
 .intro P M E;have e:(List.range d.toArray.size).any (λi=>a.getD i false)=a.any id:=by
   rw[size_toArray,<-t,Bool.eq_iff_iff];simp only[any_eq_true,mem_range,id_eq];constructor
   .rintro⟨i,g,j⟩;rw[vy,vz g]at j;exact⟨_,getElem_mem g,j⟩
   .rintro⟨b,j,rfl⟩;let⟨i,g,e⟩:=mem_iff_getElem.mp j;exact⟨i,g,by rw[vy,vz g];exact e⟩
  rw[e];refine⟨.bl _,H,I.kept (t':=M) λb o e=>E b o (λz=>?_) (vL _ e),rfl,q⟩;rw[vo.mp z]at e;exact Nat.lt_irrefl _ (vK e)
def j5k{K:Frg}{n i j k:Nat}(hi:i<n)(y:j<n)(z:k<n):GKeeps n (gTup K 3 (gCons (gName i) (gCons (gName j) (gCons (gName k) gNil)))):=λx B H Q q=>by
 let⟨a,w,d,f,g,v,r,h,t,s,l,c,b,o,p,q⟩:=q;refine⟨a,w,d,f,g,v,r,h,t,s,l,c,b,o,p,λm u A e=>?_,q⟩;rw[List.getElem?_set_ne ⋯,List.getElem?_set_ne ⋯,List.getElem?_set_ne ⋯];exact e
end
end L2
namespace Rm
open PySem PySem.Spec PyProof.Rows L2
noncomputable def bgs(gs:L9)(b:Int)(qs:List Pc):L5:=qs.flatMap λq=>(List.range q.2.1.toNat).map λu:Nat=>(q.1,b+q.2.2+(u:Int)*gs.getD q.1 0)
inductive sp_begins(vs:N6)(H:Hp)(Q:VK)(xk:XK):Prop
 | mk (l s:Addr) (t:Int) (bs:N2) (qs:List Pc) (gs:L9) (_:vs=[.ref l,.ref s,.int t]) (_:H l=some (.lst (bs.map V.ref))) (_:PcsAt H bs qs) (_:H s=some (.lst (gs.map V.int))) (_:(∀q∈qs,PcOk gs q)) (_:(bgs gs t qs).length<=10000) (_:∀(p:Addr) (as:N2) (H':Hp),Same H H'->H p=none->H' p=some (.lst (as.map V.ref))->GonAt H' as (bgs gs t qs)->Q (.ref p) H'):sp_begins vs H Q xk
section
variable{L:N3}{fs:List Fn}{M:L4}{gs:L9}{names:N3}{ls:L6}{n:Nat}
end
noncomputable def setE(es:List (Int×Int))(h:L9):L9:=es.foldl (λh q=>h.set q.1.toNat q.2) h
section
variable{L:N3}{fs:List Fn}{M:L4}{gs:L9}{names:N3}{ls:L6}{n:Nat}{E:L3}
end
section
variable{α β:Type}
theorem ZH{f:α->List β}{p:α->Bool}:∀{R:List α},(∀x∈R,p x=false->f x=[])->(R.filter p).flatMap f=R.flatMap f
 | [],_=>rfl
 | x::r,k=>by
  cases e:p x with
  | true=>
   rw[List.filter_cons_of_pos e,flatMap_cons,flatMap_cons,ZH λy a=>k y (vp _ a)]
  | false=>
   rw[List.filter_cons_of_neg (by simp[e]),flatMap_cons,k x vq e,ZH λy a=>k y (vp _ a)];rfl
end
section
variable{ls:L6}{ps:N5}{gs:L9}{hs:L4}{E:L3}{t:Int}
noncomputable def ovB(gs:L9)(x:Nat×Int):Bool:=decide (gs.getD x.1 0<=x.2)
noncomputable def leafB(ps:N5)(gs:L9)(x:Nat×Int):Bool:=(pcB ps gs x.1).isEmpty
noncomputable def strH(ls:L6)(ps:N5)(gs:L9)(E:L3)(t:Int):L9:=((reach ps gs (ps.length-1) t).filter (ovB gs)).foldl (λh x=>setE (E.getD x.1 []) h) (ls.map (·.2))
def j2D{x:Nat×Int}{y:Str}{n:Int}{b:Str}(a:ps[x.1]?=some (b,.ring y n)):leafB ps gs x=true:=by
 unfold leafB pcB;rw[a];rfl
def XT(N:Sn ls ps gs hs){P:L5}(a:P.filter (leafB ps gs)=(reach ps gs (ps.length-1) t).filter λx=>!ovB gs x):P.flatMap (ringX ps)=ringsW ps gs t:=by
 have d:=N.ne;unfold ringsW;rw[<-ZH (p:=leafB ps gs) (λx _ c=>?_),a,ZH λx b c=>?_]
 .have c:ovB gs x=true:=by simpa using c
  have c:=of_decide_eq_true c;have:=(N.g (j4r N.s.w (show ps.length-1<ps.length by lia) b)).1;unfold ringX;split
  .rw[va ⋯]
  .rfl
 .unfold ringX;split
  .rename_i hp;rw[j2D hp]at c;cases c
  .rfl
end
structure StageAt(C:Addr)(H:Hp)(a:Addr)(z:Sa)(ls:L6)(ps:N5)(gs:L9)(E:L3):Prop where
 ob:∃dx,H a=some (.ins C dx (fldS z))
 hd:H z.d=some (.dK (numK (nmsOf ls)))
 hf:H z.f=some (.lst ((ls.map (·.2)).map V.int))
 ho:H z.o=some (.lst (z.fb.map V.ref))
 fo:All2 (λa p=>FormAt H a p.2) z.fb ps
 hs:H z.s=some (.lst (gs.map V.int))
 hl:H z.l=some (.lst (z.la.map V.ref))
 el:E.length=ps.length
 ea:EndsAt H z.la E
 eo:EndOk ls ps E
 hp:H z.p=some (.lst (z.pa.map V.ref))
 pa:PssAt H z.pa (ps.map λp=>pcsI gs p.2 (inP ps p.2))
def StageAt.same{C:Addr}{H H':Hp}{a:Addr}{z:Sa}{ls:L6}{ps:N5}{gs:L9}{E:L3}(A:StageAt C H a z ls ps gs E)(s:Same H H'):StageAt C H' a z ls ps gs E:=
 ⟨A.ob.imp λg h=>s _ _ h,s _ _ A.hd,s _ _ A.hf,s _ _ A.ho,All2.mono A.fo λa p h=>FormAt.same s h,s _ _ A.hs,s _ _ A.hl,A.el,All2.mono A.ea λa e ⟨c,d,f⟩=>⟨c,s _ _ d,All2.mono f λb q h=>s _ _ h⟩,A.eo,
  s _ _ A.hp,All2.mono A.pa λa e ⟨c,d,f⟩=>⟨c,s _ _ d,All2.mono f λb q h=>s _ _ h⟩⟩
inductive sp_initS(C:Addr)(vs:N6)(H:Hp)(Q:VK)(xk:XK):Prop
 | mk (a dx b pl pp:Addr) (las pas:N2) (ls:L6) (ps:N5) (gs:L9) (hs:L4) (_:vs=[.ref a,.ref b]) (_:H a=some (.ins C dx [])) (_:BookAt H b pl pp las pas ls ps) (_:Sn ls ps gs hs) (_:∀(z:Sa) (E:L3) (H':Hp),(∀c u,c≠a->H c=some u->H' c=some u)->StageAt C H' a z ls ps gs E->Q .non H'):sp_initS C vs H Q xk
inductive sp_sceneS(C:Addr)(vs:N6)(H:Hp)(Q:VK)(xk:XK):Prop
 | mk (a:Addr) (z:Sa) (ls:L6) (ps:N5) (gs:L9) (hs:L4) (E:L3) (t:Int) (_:vs=[.ref a,.int t]) (_:StageAt C H a z ls ps gs E) (_:Sn ls ps gs hs) (_:0<=t) (_:t<=gs.getD (ps.length-1) 0) (_:∀(r l1 l2:Addr) (as:N2) (P:L5) (H':Hp),Same H H'->H l1=none->H l2=none->H' r=some (.tup [.ref l1,.ref l2])->H' l1=some (.lst ((strH ls ps gs E t).map V.int))->(strH ls ps gs E t).length=ls.length->(∀h∈strH ls ps gs E t,0<=h/\h<=10^18)->H' l2=some (.lst (as.map V.ref))->l1≠l2->GonAt H' as P->P.length<=5000->(∀x∈P,x.1<ps.length/\0<=x.2/\x.2<gs.getD x.1 0)->P.filter (leafB ps gs)=((reach ps gs (ps.length-1) t).filter λx=>!ovB gs x)->Q (.ref r) H'):sp_sceneS C vs H Q xk
inductive sp_wordsS(C:Addr)(vs:N6)(H:Hp)(Q:VK)(xk:XK):Prop
 | mk (a:Addr) (z:Sa) (ls:L6) (ps:N5) (gs:L9) (hs:L4) (E:L3) (t:Int) (_:vs=[.ref a,.int t]) (_:StageAt C H a z ls ps gs E) (_:Sn ls ps gs hs) (_:0<=t) (_:t<=gs.getD (ps.length-1) 0) (_:∀(l:Addr) (H':Hp),Same H H'->H l=none->H' l=some (.lst ((ringsW ps gs t).map V.str))->(ringsW ps gs t).length<=5000->Q (.ref l) H'):sp_wordsS C vs H Q xk
def FormAt.put{H H':Hp}{a:Addr}{f:Fm}(k:∀b xs,H b=some (.tup xs)->H' b=some (.tup xs))(h:FormAt H a f):FormAt H' a f:=by
 cases f with
 | row ps=>let⟨c,d,e⟩:=h;exact⟨c,k _ _ d,k _ _ e⟩
 | side ps=>let⟨c,d,e⟩:=h;exact⟨c,k _ _ d,k _ _ e⟩
 | hold n=>exact k _ _ h
 | ring x n=>exact k _ _ h
 | rise x v n=>exact k _ _ h
 | again k' x=>exact k _ _ h
theorem j4I{a:Type}{f:a->Nat}:∀{l:List a},(∀x∈l,1<=f x)->l.length<=(l.map f).sum
 | [],_=>vA _
 | x::r,h=>by
  have c:=h x vq;have d:=j4I (l:=r) λy b=>h y (vp _ b)
  rw[v9,uz,vR];lia
section
variable{ls:L6}{ps:N5}{gs:L9}{E:L3}{D:L5}{x:Nat×Int}
noncomputable def hOf(ls:L6)(gs:L9)(E:L3)(D:L5):L9:=(D.filter (ovB gs)).foldl (λh x=>setE (E.getD x.1 []) h) (ls.map (·.2))
def Kr(h:ovB gs x=false):hOf ls gs E (if leafB ps gs x=true then D++[x]else D)=hOf ls gs E D:=by
 split
 .unfold hOf;rw[filter_append,List.filter_cons_of_neg (by rw[h];decide)];show(D.filter (ovB gs)++[]).foldl _ _=_;rw[append_nil]
 .rfl
def Ks(h:ovB gs x=true):hOf ls gs E (D++[x])=setE (E.getD x.1 []) (hOf ls gs E D):=by
 unfold hOf;rw[filter_append,List.filter_cons_of_pos h,List.foldl_append];rfl
def wX(W:WfB ls ps){i:Nat}{t:Int}(c:t<gs.getD i 0):1+((wth gs t (pcB ps gs i)).map λx=>nodes ps gs x.1 x.2).sum<=nodes ps gs i t:=by
 by_cases e:pcB ps gs i=[]
 .rw[e,yn (.inr e)];exact vA _
 .rw[KB W (λh=>h.elim (λz=>⋯) e)];exact vA _
end
structure ScAt(ls:L6)(ps:N5)(gs:L9)(E:L3)(t0:Int)(H H':Hp)(p1 p2 p4:Addr)(pas tas:N2)(D P S:L5):Prop where
 sm:Same H H'
 e1:H' p1=some (.lst ((hOf ls gs E D).map V.int))
 e2:H' p2=some (.lst (pas.map V.ref))
 eT:H' p4=some (.lst (tas.map V.ref))
 gP:GonAt H' pas P
 gT:GonAt H' tas S
 inv:D++S.reverse.flatMap (λx=>reach ps gs x.1 x.2)=reach ps gs (ps.length-1) t0
 hS:∀x∈S,x.1<ps.length/\0<=x.2
 hP:P.filter (leafB ps gs)=D.filter λx=>!ovB gs x
 bP:∀x∈P,x.1<ps.length/\0<=x.2/\x.2<gs.getD x.1 0
 bnd:P.length+(S.map λx=>nodes ps gs x.1 x.2).sum<=5000
 ll:(hOf ls gs E D).length=ls.length
 hb:∀h∈hOf ls gs E D,0<=h/\h<=10^18
end Rm
namespace L2
open PySem PySem.Spec PySem.W PyProof.Rows HT
section
variable{prog:Program}{w:World}{A:Around}{E:Value->Shared->Prop}{s:Shared}
def yL{t e:Addr}{items:Array Value}{g i:Value}{lo hi:Option Int}{Q:Value->Shared->Prop}(a:IsTup s.heap t items)(f:s.heap.IsSliceOf e g i .none)(pl:IsPart g lo)(n:IsPart i hi)
  (j:sIx items.size 0 lo=0) (k:sIx items.size items.size hi=items.size) (h:Q (.ref t) s):wpAny (model prog w) A (getItem (.ref t) (.ref e)) Q E s:=by
 let⟨m,d,c,l⟩:=id f;have b:s.TypeIs (.ref e) "slice":=⟨m,d,c⟩
 unfold getItem
 try with_reducible refine wpAny_holding ?_
 first | refine uj (ui ?_) | skip
 refine uj (wpAny_sequenceKey a.typeIs nofun ?_);refine uj (wpAny_callSpecial?_slot (name:=Str.ofString "__getitem__") a.typeIs PyProof.Rows.slot_tuple_getitem (wpAny_call_entry PyProof.Rows.slot_tuple_getitem a.typeIs entry_tuple_getitem ?_ (args_tuple_getitem _ _)));show wpAny _ _ (Builtin.Tuple.tupleItemsOf (.ref t) >>= _) _ _ s;refine uj (tupleItemsOf_ a ?_);refine uj (wpAny_typeOf b ?_);rw[vc nofun];refine uj (zc f pl n ?_);show wpAny _ _ (if(((sIx items.size 0 lo:Nat):Int)==0&&(1:Int)==1&&(sIx items.size items.size hi-sIx items.size 0 lo)==items.size)=true then _ else _) _ _ s;rw[vc (by rw[j,k];simp)];unfold Builtin.Tuple.tupleIsExact;refine uj (uj (wpAny_typeOf a.typeIs (ui ?_)));rw[vc nofun]
 first
  | exact uj (wpAny_rule (ui ⟨_,rfl,ui h⟩))
  | exact uj (wpAny_rule (uj (ui (ui ⟨_,rfl,ui h⟩))))
end
section
variable{X:Cx}
noncomputable def rSlW(K:Frg):V->Option Int->Option Int->Hp->VK->Prop:=λx lo hi H Q=>∃a xs,x = .ref a/\SqT K H a xs/\HT.sIx xs.length 0 lo=0/\HT.sIx xs.length xs.length hi=xs.length/\Q (.ref a) H
def j6Y:SlR X (rSlW X.K):=by
 intro e s z H x v w y t o u Q I m i k l h;let⟨a,n,rfl,j,f,g,q⟩:=h;cases m;let⟨c,r,d,p⟩:=I.tuple j;have b:c.toArray.size=n.length:=by rw[size_toArray];exact r.length.symm
 refine⟨"tuple",_,PyProof.Rows.slot_tuple_getitem.lookup,d.typeIs,?_⟩;exact yL d i k l (by rw[b];exact f) (by rw[b];exact g) ⟨.ref a,H,I,rfl,q⟩
def j6Z:SlR X (λx lo hi H Q=>rSlT X.K x lo hi H Q\/rSlW X.K x lo hi H Q):=SlR.or j4E j6Y
def xf{K:Frg}{e:Expr}{f:Str}{pos:Pos}{a:TE}(d:X.K=K)(c:PE X e a)(b:attributeBase e f X.env (eval e X.env)=eval e X.env):PE X (.Attribute e f pos) (tFld K a f):=d▸Jg c b
end
end L2
namespace Rm
open PySem PySem.Spec PyProof.Rows L2
structure Tq where
 s:Addr
 p:Addr
 w:Addr
 pa:N2
noncomputable def fldR(z:Tq)(g:Int):List (Str×V):=putF "wholes" (.ref z.w) (putF "pieces" (.ref z.p) (putF "last" (.int g) (putF "sizes" (.ref z.s) [])))
section
variable{z:Tq}{g:Int}
def Q5:(fldR z g).lookup ("wholes" : Str)=some (.ref z.w):=qZ
def wO:(fldR z g).lookup ("pieces" : Str)=some (.ref z.p):=(jX (by trivial)).trans qZ
def j5g:(fldR z g).lookup ("last" : Str)=some (.int g):=(jX (by trivial)).trans ((jX (by trivial)).trans qZ)
def Xe:(fldR z g).lookup ("sizes" : Str)=some (.ref z.s):=(jX (by trivial)).trans ((jX (by trivial)).trans ((jX (by trivial)).trans qZ))
end
noncomputable def ownW(x:Str):Fm->Int
 | .ring y _=>if y=x then 1 else 0
 | _=>0
noncomputable def wSum(W:L9)(qs:List Pc):Int:=(qs.map λq=>q.2.1*W.getD q.1 0).sum
def WPre(ps:N5)(gs:L9)(x:Str)(W:L9)(n:Nat):Prop:=W.length=n/\∀(j:Nat) (p:Str×Fm),j<n->ps[j]?=some p->W.getD j 0=ownW x p.2+wSum W (pcB ps gs j)
structure TalAt(C:Addr)(H:Hp)(a:Addr)(z:Tq)(ps:N5)(gs W:L9):Prop where
 o:∃dx,H a=some (.ins C dx (fldR z (gs.getD (ps.length-1) 0)))
 s:H z.s=some (.lst (gs.map V.int))
 p:H z.p=some (.lst (z.pa.map V.ref))
 pa:PssAt H z.pa (ps.map λp=>pcsI gs p.2 (inP ps p.2))
 w:H z.w=some (.lst (W.map V.int))
inductive sp_initR(C:Addr)(vs:N6)(H:Hp)(Q:VK)(xk:XK):Prop
 | mk (a dx b pl pp:Addr) (las pas:N2) (ls:L6) (ps:N5) (gs:L9) (hs:L4) (x:Str) (_:vs=[.ref a,.ref b,.str x]) (_:H a=some (.ins C dx [])) (_:BookAt H b pl pp las pas ls ps) (_:Sn ls ps gs hs) (_:Ws.isW x=true) (_:(∀p∈ps,FmWs p.2)) (_:∀(z:Tq) (W:L9) (H':Hp),(∀c u,c≠a->H c=some u->H' c=some u)->WPre ps gs x W ps.length->TalAt C H' a z ps gs W->Q .non H'):sp_initR C vs H Q xk
section
variable{ls:L6}{ps:N5}{gs:L9}{hs:L4}{x:Str}{W:L9}
def TalAt.keep{C:Addr}{H H':Hp}{a:Addr}{z:Tq}(T:TalAt C H a z ps gs W)(s:Same H H'):TalAt C H' a z ps gs W:=by
 let⟨⟨f,o⟩,g,i,j,k⟩:=T;exact⟨⟨f,s _ _ o⟩,s _ _ g,s _ _ i,All2.mono j λc e ⟨d,l,m⟩=>⟨d,s _ _ l,All2.mono m λb q h=>s _ _ h⟩,s _ _ k⟩
def j3K{l:L9}(h:∀y∈l,0<=y){y:Int}(c:y∈l):y<=l.sum/\0<=l.sum:=by
 induction l generalizing y with
 | nil=>exact nomatch c
 | cons a r ih=>
  have d:=h a vq;have e:0<=r.sum:=by
   cases r with
   | nil=>exact vC _
   | cons b r'=>exact(ih (λy c=>h y (vp _ c)) vq |>.2)
  rw[uz];rcases mem_cons.mp c with rfl | c
  .lia
  .have:=(ih (λy c=>h y (vp _ c)) c).1;lia
theorem j3P:∀{l:L9},l≠[]->∃g,g∈l/\∀y∈l,y<=g
 | [],h=>uh rfl h
 | [a],_=>⟨a,vq,λy d=>by rw[vo.mp d];exact vC _⟩
 | a::b::r,_=>by
  let⟨g,i,f⟩:=j3P (l:=b::r) (List.cons_ne_nil _ _);by_cases c:a<=g
  .exact⟨g,vp _ i,λy d=>(mem_cons.mp d).elim (λe=>e▸c) (f y)⟩
  .exact⟨a,vq,λy d=>(mem_cons.mp d).elim (λe=>e▸vC _) λz=>by have:=f y z;lia⟩
def Sn.fit(N:Sn ls ps gs hs){i:Nat}{q:Pc}(h:q∈pcB ps gs i):q.2.1*gs.getD q.1 0<=gs.getD i 0:=by
 unfold pcB at h;split at h
 case h_2=>exact nomatch h
 rename_i p hp;have B:=(vx.mp hp).1;have o:=(N.s.ln i p hp).2;have C:=(N.s.ln i p hp).1;have t:∀k∈inP ps p.2,1<=gs.getD k 0:=λk u=>by
  have:=N.s.w.inP_lt hp u;exact(N.g (show k<ps.length by lia)).1
 have f:∀y∈(inP ps p.2).map λj=>gs.getD j 0,0<=y:=λy w=>by
  let⟨j,a,rfl⟩:=vM.mp w;have:=t j a;lia
 have x:=Xp h;have c:gs.getD q.1 0∈(inP ps p.2).map λj=>gs.getD j 0:=vM.mpr ⟨q.1,x,rfl⟩
 unfold pcsI at h;split at h
 .rename_i k y e;have m:=N.a18 i p.1 y k (by rw[hp,<-e]);split at h
  .exact nomatch h
  .rename_i j r ein;have A:=t j (by rw[ein];exact vq);have b:k*gs.getD j 0=gs.getD i 0:=o _ (by rw[e]at ein|-;rw[ein];exact⟨_,rfl,rfl⟩);rw[<-b];rcases mem_cons.mp h with rfl | h
   .exact vV m.1 (by show 0<=gs.getD j 0;lia)
   .split at h
    .rw[vo.mp h];exact vV (show k-1<=k by lia) (by show 0<=gs.getD j 0;lia)
    .exact nomatch h
 .rename_i ns e;have b:=o ((inP ps p.2).map λj=>gs.getD j 0).sum (by rw[e];rfl);rw[(ZJ h).2,Int.one_mul,<-b];exact(j3K f c).1
 .rename_i n1 n2;let⟨j,a,rfl⟩:=vM.mp h;rw[Int.one_mul];cases e:p.2 with
  | side ns=>
   let⟨g,s,d⟩:=j3P (l:=(inP ps p.2).map λj=>gs.getD j 0) (λz=>by rw[z]at c;exact nomatch c);have b:=o g (by rw[e]at s d|-;exact⟨s,d⟩);rw[<-b];exact d _ c
  | row ns=>exact uh e (n2 ns)
  | again k y=>exact uh e (n1 k y)
  | hold n=>rw[e]at a;exact nomatch a
  | ring y n=>rw[e]at a;exact nomatch a
  | rise y v n=>rw[e]at a;exact nomatch a
theorem j25{b:Type}{f:b->Int}{B:Int}(c:0<=B):∀{l:List b},(∀y∈l,0<=f y/\f y<=B)->0<=(l.map f).sum/\(l.map f).sum<=l.length*B
 | [],_=>by
  rw[map_nil,sum_nil];exact⟨vC _,by show(0:Int)<=(0:Nat)*B;simp⟩
 | a::r,h=>by
  have e:=h a vq;have g:=j25 c λy d=>h y (vp _ d)
  rw[v9,uz,vR];have:((r.length+1:Nat):Int)*B=r.length*B+B:=by rw[show((r.length+1:Nat):Int)=(r.length:Int)+1 by lia,Int.add_mul,Int.one_mul]
  lia
def xa(N:Sn ls ps gs hs)(i:Nat):(pcB ps gs i).length<=8:=by
 unfold pcB;split
 .rename_i p hp;exact Xl (N.i8 hp)
 .exact vB _
def WPre.bnd(N:Sn ls ps gs hs){n:Nat}(v:n<=ps.length)(O:WPre ps gs x W n):∀i,i<n->0<=W.getD i 0/\W.getD i 0<=gs.getD i 0*8^(i+1):=by
 intro i
 induction i using Nat.strongRecOn with
 | ind i ih=>
  intro k;obtain⟨p,d⟩:∃p,ps[i]?=some p:=⟨_,vz ⋯⟩
  have e:=O.2 i p k d;have j:=N.g (show i<ps.length by lia);have C:(0:Int)<8^i:=Int.pow_pos nofun;have u:1*1<=gs.getD i 0*8^i:=Int.mul_le_mul j.1 ⋯ nofun ⋯;have b:=j25 (f:=λq:Pc=>q.2.1*W.getD q.1 0) (B:=gs.getD i 0*8^i) ⋯ (l:=pcB ps gs i) λq a=>by
   have r:=qc N.s.w a;have g:=N.pcOk a;have w:=ih q.1 r ⋯;refine⟨vO (by have:=g.2.2.2.1;lia) w.1,?_⟩;have f:=N.fit a;have s:(8:Int)^(q.1+1)<=8^i:=by
    have:=Nat.pow_le_pow_right (show 0<8 by decide) (show q.1+1<=i by lia)
    exact_mod_cast this
   have t:0<=q.2.1:=by have:=g.2.2.2.1;lia
   calc q.2.1*W.getD q.1 0<=q.2.1*(gs.getD q.1 0*8^(q.1+1)):=Int.mul_le_mul_of_nonneg_left w.2 t
    _=q.2.1*gs.getD q.1 0*8^(q.1+1):=(Int.mul_assoc ..).symm
    _<=gs.getD i 0*8^(q.1+1):=vV f (Int.le_of_lt (Int.pow_pos nofun))
    _<=gs.getD i 0*8^i:=Int.mul_le_mul_of_nonneg_left s ⋯
  have A:=xa N i;have o:0<=ownW x p.2/\ownW x p.2<=1/\(ownW x p.2=1->pcB ps gs i=[]):=by
   unfold ownW;split
   .rename_i y m e';split
    .refine⟨by decide,by decide,λ_=>?_⟩;unfold pcB;rw[d];show pcsI gs p.2 (inP ps p.2)=[]
     rw[e'];rfl
    .exact⟨by decide,by decide,λz=>by cases z⟩
   .exact⟨by decide,by decide,λz=>by cases z⟩
  rw[e,Int.pow_succ,<-Int.mul_assoc];have h:0<=wSum W (pcB ps gs i)/\wSum W (pcB ps gs i)<=(pcB ps gs i).length*(gs.getD i 0*8^i):=b;by_cases c:ownW x p.2=1
  .rw[o.2.2 c]at h|-;have:wSum W []=0:=rfl;rw[this];lia
  .have:((pcB ps gs i).length:Int)*(gs.getD i 0*8^i)<=8*(gs.getD i 0*8^i):=vV ⋯ ⋯;lia
def WPre.b250(N:Sn ls ps gs hs){n:Nat}(a:n<=ps.length)(O:WPre ps gs x W n){i:Nat}(hi:i<n):0<=W.getD i 0/\W.getD i 0<=10^200:=by
 have b:=O.bnd N a i hi;have g:=N.g (show i<ps.length by lia);have c:=N.s.w.p61;refine⟨b.1,vY b.2 ?_⟩;have d:(8:Int)^(i+1)<=8^61:=by
  have:=Nat.pow_le_pow_right (show 0<8 by decide) (show i+1<=61 by lia)
  exact_mod_cast this
 have:=Int.mul_le_mul g.2 d (Int.le_of_lt (Int.pow_pos nofun)) nofun;exact vY this nofun
def j3f{v:Int}{a:List Pc}(h:∀q∈a,q.1<W.length):wSum (W++[v]) a=wSum W a:=by
 unfold wSum;congr 1;refine map_congr_left λq b=>?_
 rw[vy,vy,vD (h q b)]
def WPre.snoc(c:WfB ls ps){n:Nat}(O:WPre ps gs x W n){p:Str×Fm}(d:ps[n]?=some p):WPre ps gs x (W++[ownW x p.2+wSum W (pcB ps gs n)]) (n+1):=by
 have b:=O.1;refine⟨by rw[vm,b];rfl,λj f g a=>?_⟩;rw[j3f λq e=>by have:=qc c e;lia];rcases Nat.lt_or_ge j n with z | z
 .rw[<-O.2 j f z a,vy,vy,vD ⋯]
 .have:j=n:=⋯
  subst this;rw[d]at a;cases a;rw[vy,vE ⋯,b,Nat.sub_self];rfl
end
def j4Q{H:Hp}{q:Addr}{f:Fm}{x:Str}(h:FormAt H q f)(j:FmWs f):∃xs:N6,H q=some (.tup xs)/\(xs.length=2\/xs.length=3\/xs.length=4)/\
  ∀(H':Hp) (p:Addr),Same H H'->H' p=some (.tup (xs.take 2))->∃d,DV H' (.ref p) d/\SeqAt.shaped d=true/\PyData.eqv d (.tuple [.str "ring",.str x])=decide (ownW x f=1):=by
 have c:∀y:Str,Ws.isW y=true->Shp 0 (.str y):=λy w=>Shp.str (j21 w)
 have g:∀{a b:PyData},Shp 1 a->Shp 1 b->SeqAt.shaped (.tuple [a,b])=true:=λt u=>(Shp.tup (n:=1) λd r=>by
  simp only[mem_cons,not_mem_nil,or_false]at r;rcases r with rfl | rfl
  .exact t
  .exact u).ok nofun
 have m:∀{d:PyData},Shp 0 d->Shp 1 d:=λh=>h.mono nofun
 have i:∀{y:Str} {a:PyData},(y==("ring" : Str))=false->PyData.eqv (.tuple [.str y,a]) (.tuple [.str "ring",.str x])=false:=λ{y a} e=>by
  show((y==("ring" : Str))&&_)=false;rw[e];rfl
 cases f with
 | hold n=>exact⟨_,h,.inl rfl,λH' p s e=>⟨_,.tup e (.cons (.str _) (.cons (.int _) .nil)),g (m (c _ (by trivial))) (m .int),by rw[i (by trivial)];rfl⟩⟩
 | ring y n=>
  refine⟨_,h,.inr (.inl rfl),λH' p s e=>⟨_,.tup e (.cons (.str _) (.cons (.str _) .nil)),g (m (c _ (by trivial))) (m (c _ j.1)),?_⟩⟩;show((("ring" : Str) == "ring")&&((y==x)&&true))=_;rw[beq_self_eq_true,Bool.true_and,Bool.and_true];show(y==x)=decide ((if y=x then(1:Int)else 0)=1);by_cases e:y=x
  .rw[e,vc rfl];simp
  .rw[va e,beq_false_of_ne e];rfl
 | rise y v n=>exact⟨_,h,.inr (.inr rfl),λH' p s e=>⟨_,.tup e (.cons (.str _) (.cons (.str _) .nil)),g (m (c _ (by trivial))) (m (c _ j.1)),by rw[i (by trivial)];rfl⟩⟩
 | row ns=>
  let⟨b,l,o⟩:=h;exact⟨_,l,.inl rfl,λH' p s e=>⟨_,.tup e (.cons (.str _) (.cons (.tup (s _ _ o) (WK ns)) .nil)),g (m (c _ (by trivial))) (Shp.tup (KU j.2)),by rw[i (by trivial)];rfl⟩⟩
 | side ns=>
  let⟨b,l,o⟩:=h;exact⟨_,l,.inl rfl,λH' p s e=>⟨_,.tup e (.cons (.str _) (.cons (.tup (s _ _ o) (WK ns)) .nil)),g (m (c _ (by trivial))) (Shp.tup (KU j.2)),by rw[i (by trivial)];rfl⟩⟩
 | again k y=>exact⟨_,h,.inr (.inl rfl),λH' p s e=>⟨_,.tup e (.cons (.str _) (.cons (.int _) .nil)),g (m (c _ (by trivial))) (m .int),by rw[i (by trivial)];rfl⟩⟩
def cut2{xs:N6}(h:xs.length=3\/xs.length=4):¬(HT.sIx xs.length 0 none=0/\HT.sIx xs.length xs.length (some 2)=xs.length)/\cutV xs none (some 2)=xs.take 2:=by
 unfold cutV;rcases h with e | e<;>rw[e]<;>exact⟨by decide,rfl⟩
def j5U{K:Frg}{H:Hp}{a:Addr}{xs:N6}{Q:VK}(e:H a=some (.tup xs))(c:xs.length=2\/xs.length=3\/xs.length=4)(k:∀(b:Addr) (H':Hp),Same H H'->H' b=some (.tup (xs.take 2))->Q (.ref b) H'):rSlT K (.ref a) none (some 2) H Q\/rSlW K (.ref a) none (some 2) H Q:=by
 rcases c with h | h
 .exact .inr ⟨a,xs,rfl,SqT.of e,by rw[h];rfl,by rw[h];rfl,k a H (Same.refl _) (by rw[take_of_length_le ⋯];exact e)⟩
 .exact .inl ⟨a,xs,rfl,SqT.of e,(cut2 h).1,λp d=>k p _ (xr d rfl) (by rw[(cut2 h).2];exact jm)⟩
end Rm
namespace Ct
def GB(r s g f:Int):Prop:=1<=g/\g ∣ r/\g ∣ s/\∃t,r*f=g+s*t
def GB.rep{r s g f y:Int}(G:GB r s g f):(∃p q,y=r*p+s*q)↔g ∣ y:=by
 let⟨h,⟨a,c⟩,⟨b,d⟩,t,e⟩:=G;constructor
 .rintro⟨p,q,rfl⟩;rw[c,d];exact⟨a*p+b*q,by rw[Int.mul_add,Int.mul_assoc,Int.mul_assoc]⟩
 .rintro⟨k,rfl⟩;refine⟨f*k,-(t*k),?_⟩;rw[<-Int.mul_assoc,e,Int.add_mul,Int.mul_neg,Int.mul_assoc s t k];lia
def j1B{r s g f m:Int}(G:GB r s g f):r*(s/g) ∣ m↔r ∣ m/\s ∣ m:=by
 let⟨w,⟨a,n⟩,⟨b,c⟩,t,v⟩:=G;have d:g≠0:=⋯
 have l:s/g=b:=by rw[c,Int.mul_ediv_cancel_left _ d]
 rw[l];constructor
 .rintro⟨k,rfl⟩;refine⟨⟨b*k,Int.mul_assoc _ _ _⟩,⟨a*k,?_⟩⟩;rw[n,c,Int.mul_assoc g a b,Int.mul_comm a b,<-Int.mul_assoc g b a,Int.mul_assoc]
 .rintro⟨⟨p,o⟩,q,u⟩;refine⟨q*f-p*t,?_⟩;have e:g*m=g*(r*b*(q*f-p*t)):=by
   have h:g*m=(r*f-s*t)*m:=by rw[v];congr 1;lia
   have i:r*f*m=r*f*(s*q):=by rw[<-u]
   have j:s*t*m=s*t*(r*p):=by rw[<-o]
   rw[h,Int.sub_mul,i,j,c];simp only[Int.mul_sub,Int.mul_left_comm,Int.mul_comm]
  exact Int.eq_of_mul_eq_mul_left d e
def j5r{r s g f b w:Int}(J:1<=r)(K:1<=s)(G:GB r s g f)(H:0<=b/\b<r)(hw:0<=w/\w<s)(h:(w-b)%g=0) :
  0<=b+(w-b)/g*f%(s/g)*r/\b+(w-b)/g*f%(s/g)*r<r*(s/g)/\r ∣ b+(w-b)/g*f%(s/g)*r-b/\s ∣ b+(w-b)/g*f%(s/g)*r-w:=by
 have D:=G;let⟨F,⟨a,y⟩,⟨c,l⟩,t,A⟩:=G;have n:g≠0:=⋯
 have v:s/g=c:=by rw[l,Int.mul_ediv_cancel_left _ n]
 have E:1<=c:=by
  by_cases z:c<=0
  .have:=Int.mul_nonpos_of_nonpos_of_nonneg z (show 0<=g by lia);rw[Int.mul_comm]at this;lia
  .lia
 rw[v];obtain⟨d,m⟩:g ∣ w-b:=Int.dvd_of_emod_eq_zero h;have x:(w-b)/g=d:=by rw[m,Int.mul_ediv_cancel_left _ n]
 rw[x];have o:=vd (d*f) (show c≠0 by lia);have B:=ve (d*f) (show 0<c by lia);have i:=Int.emod_add_mul_ediv (d*f) c;generalize I:d*f%c=k at o B i|-;generalize d*f/c=e at i;have C:0<=k*r:=vO o ⋯;have j:k*r<=(c-1)*r:=vV ⋯ ⋯;rw[Int.sub_mul,Int.one_mul]at j;refine⟨⋯,by rw[Int.mul_comm r c];lia,⟨k,by rw[Int.mul_comm r k];lia⟩,?_⟩;refine⟨d*t-a*e,?_⟩;have p:k*r=d*f*r-c*e*r:=by rw[<-i,Int.add_mul];lia
 have q:d*f*r=(w-b)+s*(d*t):=by
  rw[Int.mul_assoc,Int.mul_comm f r,A,Int.mul_add,m];simp only[Int.mul_comm,Int.mul_left_comm]
 have u:c*e*r=s*(a*e):=by
  rw[y,l];simp only[Int.mul_comm,Int.mul_left_comm]
 rw[p,q,u,Int.mul_sub];lia
def Wd{r s g f:Int}(e:1<=s)(G:GB r s g f):1<=s/g:=by
 let⟨d,_,⟨c,a⟩,_⟩:=G;have b:g≠0:=⋯
 rw[show s/g=c by rw[a,Int.mul_ediv_cancel_left _ b]];by_cases z:c<=0
 .have:=Int.mul_nonpos_of_nonpos_of_nonneg z (show 0<=g by lia);rw[Int.mul_comm]at this;lia
 .lia
end Ct
namespace Rm
open PySem PySem.Spec PyProof.Rows L2
noncomputable def rq(W:L9)(qs:List Pc):List Pc:=qs.filter λq=>decide (0<W.getD q.1 0)
noncomputable def rbL(pc:Nat->List Pc)(gs W:L9):Nat->Nat->Int->L9
 | 0,_,t=>[t]
 | n+1,i,t=>if rq W (pc i)=[]then[t]else(bgs gs t (rq W (pc i))).flatMap λx=>rbL pc gs W n x.1 x.2
noncomputable def nrL(pc:Nat->List Pc)(gs W:L9):Nat->Nat->Nat
 | 0,_=>1
 | n+1,i=>1+((bgs gs 0 (rq W (pc i))).map λx=>nrL pc gs W n x.1).sum
noncomputable def RB(ps:N5)(gs W:L9)(i:Nat)(t:Int):L9:=rbL (pcB ps gs) gs W (i+1) i t
noncomputable def NR(ps:N5)(gs W:L9)(i:Nat):Nat:=nrL (pcB ps gs) gs W (i+1) i
section
variable{ls:L6}{ps:N5}{gs W:L9}{hs:L4}{x:Str}
def j5s{a:List Pc}{b:Int}{y:Nat×Int}(h:y∈bgs gs b a):∃q∈a,y.1=q.1:=by
 let⟨q,c,d⟩:=mem_flatMap.mp h;let⟨u,_,rfl⟩:=vM.mp d;exact⟨q,c,rfl⟩
def Wa(a:WfB ls ps){i:Nat}{b:Int}{y:Nat×Int}(h:y∈bgs gs b (rq W (pcB ps gs i))):y.1<i/\0<W.getD y.1 0:=by
 let⟨q,f,e⟩:=j5s h;let⟨c,d⟩:=vQ.mp f;exact⟨e▸qc a c,e▸of_decide_eq_true d⟩
theorem j1R(a:WfB ls ps):∀{n m i:Nat} {t:Int},i<n->i<m->rbL (pcB ps gs) gs W n i t=rbL (pcB ps gs) gs W m i t
 | 0,_,_,_,h,_=>uh h (Nat.not_lt_zero _)
 | _,0,_,_,_,h=>uh h (Nat.not_lt_zero _)
 | n+1,m+1,i,t,h1,h2=>by
  unfold rbL;split
  .rfl
  .exact JG λy b=>by
    have:=(Wa a b).1;exact j1R a ⋯ ⋯
theorem j1H(a:WfB ls ps):∀{n m i:Nat},i<n->i<m->nrL (pcB ps gs) gs W n i=nrL (pcB ps gs) gs W m i
 | 0,_,_,h,_=>uh h (Nat.not_lt_zero _)
 | _,0,_,_,h=>uh h (Nat.not_lt_zero _)
 | n+1,m+1,i,h1,h2=>by
  unfold nrL;congr 2;exact map_congr_left λy b=>by
   have:=(Wa a b).1;exact j1H a ⋯ ⋯
def kD{i:Nat}{t:Int}(h:rq W (pcB ps gs i)=[]):RB ps gs W i t=[t]:=by
 unfold RB rbL;rw[vc h]
def Wt(a:WfB ls ps){i:Nat}{t:Int}(h:¬rq W (pcB ps gs i)=[]):RB ps gs W i t=(bgs gs t (rq W (pcB ps gs i))).flatMap λy=>RB ps gs W y.1 y.2:=by
 unfold RB;rw[rbL,va h];exact JG λy b=>by
  have:=(Wa a b).1;exact j1R a ⋯ ⋯
def j6j{b:Int}(a:List Pc):(bgs gs b a).map (·.1)=(bgs gs 0 a).map (·.1):=by
 unfold bgs;rw[List.map_flatMap,List.map_flatMap];exact JG λq _=>by rw[v6,v6];rfl
def j52(a:WfB ls ps){i:Nat}{t:Int}:NR ps gs W i=1+((bgs gs t (rq W (pcB ps gs i))).map λy=>NR ps gs W y.1).sum:=by
 unfold NR;rw[nrL];congr 2;have e:∀b,(bgs gs b (rq W (pcB ps gs i))).map (λy=>nrL (pcB ps gs) gs W (y.1+1) y.1)=((bgs gs b (rq W (pcB ps gs i))).map (·.1)).map λj=>nrL (pcB ps gs) gs W (j+1) j:=λb=>by rw[v6];rfl
 rw[e,j6j,<-e];exact map_congr_left λy c=>by
  have:=(Wa a c).1;exact j1H a ⋯ ⋯
def j6f(i:Nat):1<=NR ps gs W i:=by
 unfold NR nrL;lia
def j66(N:Sn ls ps gs hs)(O:WPre ps gs x W ps.length){i:Nat}(hi:i<ps.length)(t:Int):((bgs gs t (rq W (pcB ps gs i))).map λy=>W.getD y.1 0).sum<=W.getD i 0:=by
 have f:∀j,j<ps.length->0<=W.getD j 0:=λj w=>(O.bnd N (vA _) j w).1
 have e:=O.2 i _ hi (vz hi);have o:0<=ownW x ps[i].2:=by
  unfold ownW;split
  .split<;>decide
  .decide
 have s:∀b:List Pc,(∀q∈b,q.1<ps.length/\1<=q.2.1)->((bgs gs t (rq W b)).map λy=>W.getD y.1 0).sum<=wSum W b:=by
  intro b
  induction b with
  | nil=>intro _;exact vC _
  | cons q r a=>
   intro h;have d:=h q vq;have a:=a λy A=>h y (vp _ A)
   have g:=f q.1 d.1;have v:wSum W (q::r)=q.2.1*W.getD q.1 0+wSum W r:=by unfold wSum;rw[v9,uz]
   rw[v];unfold rq at a|-;by_cases c:0<W.getD q.1 0
   .rw[filter_cons,vc (vI c)];have m:bgs gs t (q::r.filter λq=>decide (0<W.getD q.1 0))=((List.range q.2.1.toNat).map λu:Nat=>(q.1,t+q.2.2+(u:Int)*gs.getD q.1 0))++bgs gs t (r.filter λq=>decide (0<W.getD q.1 0)):=by unfold bgs;rw[flatMap_cons]
    rw[m,vi,sum_append,v6];have p:((List.range q.2.1.toNat).map ((λy:Nat×Int=>W.getD y.1 0)∘λu:Nat=>(q.1,t+q.2.2+(u:Int)*gs.getD q.1 0))).sum=q.2.1*W.getD q.1 0:=by
     have k:((λy:Nat×Int=>W.getD y.1 0)∘λu:Nat=>(q.1,t+q.2.2+(u:Int)*gs.getD q.1 0))=λ_=>W.getD q.1 0:=rfl
     rw[k];have l:∀n:Nat,((List.range n).map λ_=>W.getD q.1 0).sum=(n:Int)*W.getD q.1 0:=λn=>by
      induction n with
      | zero=>simp
      | succ n a=>rw[range_succ,vi,sum_append,a,v9,map_nil,uz,sum_nil,show((n+1:Nat):Int)=(n:Int)+1 by lia,Int.add_mul];lia
     rw[l,Int.toNat_of_nonneg ⋯]
    rw[p];lia
   .rw[filter_cons,va (λz=>c (of_decide_eq_true z))];have:=vO (show 0<=q.2.1 by lia) g;lia
 have:=s (pcB ps gs i) λq d=>⟨by have:=qc N.s.w d;lia,(N.pcOk d).2.2.2.1⟩
 lia
theorem XU{b:Type}{f:b->Int}:∀{l:List b},(∀y∈l,1<=f y)->(l.length:Int)<=(l.map f).sum
 | [],_=>vC _
 | a::r,h=>by
  have:=h a vq;have:=XU λy c=>h y (vp _ c)
  rw[v9,uz,vR];lia
end
inductive sp_rung(C:Addr)(vs:N6)(H:Hp)(Q:VK)(xk:XK):Prop
 | mk (a:Addr) (z:Tq) (ls:L6) (ps:N5) (gs W:L9) (hs:L4) (x:Str) (_:vs=[.ref a]) (_:TalAt C H a z ps gs W) (_:Sn ls ps gs hs) (_:WPre ps gs x W ps.length) (_:W.getD (ps.length-1) 0<=4) (_:∀(l:Addr) (ms:L9) (H':Hp),Same H H'->H l=none->H' l=some (.lst (ms.map V.int))->ms.Pairwise (· < ·)->(∀y,y∈ms↔0<W.getD (ps.length-1) 0/\y∈RB ps gs W (ps.length-1) 0)->ms.length<=4->Q (.ref l) H'):sp_rung C vs H Q xk
inductive sp_common(vs:N6)(H:Hp)(Q:VK)(xk:XK):Prop
 | mk (r s:Int) (_:vs=[.int r,.int s]) (_:1<=r) (_:r<=10^200) (_:1<=s) (_:s<=10^100) (_:∀(p:Addr) (g f:Int) (H':Hp),Same H H'->H p=none->H' p=some (.tup [.int g,.int f])->Ct.GB r s g f->-s<=f->f<=s->Q (.ref p) H'):sp_common vs H Q xk
structure Tg(B:L9)(T:Int)(S:Int->Prop):Prop where
 t1:1<=T
 b:∀y∈B,0<=y/\y<T
 s:∀y,S y↔∃z∈B,T ∣ y-z
inductive sp_together(vs:N6)(H:Hp)(Q:VK)(xk:XK):Prop
 | mk (a b la lb:Addr) (B O:L9) (T L:Int) (S S':Int->Prop) (_:vs=[.ref a,.ref b]) (_:H a=some (.tup [.ref la,.int T])) (_:H la=some (.lst (B.map V.int))) (_:H b=some (.tup [.ref lb,.int L])) (_:H lb=some (.lst (O.map V.int))) (_:Tg B T S) (_:Tg O L S') (_:T<=10^130) (_:L<=10^61) (_:B.length*O.length<=2000) (_:∀(p l:Addr) (B':L9) (T':Int) (H':Hp),Same H H'->H p=none->H' p=some (.tup [.ref l,.int T'])->H' l=some (.lst (B'.map V.int))->Tg B' T' (λy=>S y/\S' y)->B'.length<=B.length*O.length->T'<=T*L->Q (.ref p) H'):sp_together vs H Q xk
noncomputable def mtV(T L g f b w:Int):Int:=b+(w-b)/g*f%(L/g)*T
def j5X{B O:L9}{T L g f:Int}{S n:Int->Prop}(h:Tg B T S)(k:Tg O L n)(G:Ct.GB T L g f):Tg (B.flatMap λb=>(O.filter λw=>decide ((w-b)%g=0)).map (mtV T L g f b)) (T*(L/g)) (λy=>S y/\n y):=by
 have x:=Ct.Wd k.t1 G;have l:∀{b w},b∈B->w∈O->(w-b)%g=0->0<=mtV T L g f b w/\mtV T L g f b w<T*(L/g)/\T ∣ mtV T L g f b w-b/\L ∣ mtV T L g f b w-w:=λc a e=>Ct.j5r h.t1 k.t1 G (h.b _ c) (k.b _ a) e
 refine⟨?_,λy j=>?_,λy=>?_⟩
 .have:=Int.mul_le_mul h.t1 x nofun (by have:=h.t1;lia);lia
 .let⟨b,c,j⟩:=mem_flatMap.mp j;let⟨w,a,rfl⟩:=vM.mp j;let⟨a,e⟩:=vQ.mp a;have:=l c a (of_decide_eq_true e);exact⟨this.1,this.2.1⟩
 .rw[h.s,k.s];constructor
  .rintro⟨⟨b,c,o⟩,w,a,r⟩;have s:(w-b)%g=0:=Int.emod_eq_zero_of_dvd (by
    let⟨p,z⟩:=o;let⟨q,A⟩:=r;exact G.rep.mp ⟨p,-q,by rw[Int.mul_neg];lia⟩)
   have m:=l c a s;refine⟨_,mem_flatMap.mpr ⟨b,c,vM.mpr ⟨w,vQ.mpr ⟨a,vI s⟩,rfl⟩⟩,(Ct.j1B G).mpr ⟨?_,?_⟩⟩
   .have:=Int.dvd_sub o m.2.2.1;rw[show y-b-(mtV T L g f b w-b)=y-mtV T L g f b w by lia]at this;exact this
   .have:=Int.dvd_sub r m.2.2.2;rw[show y-w-(mtV T L g f b w-w)=y-mtV T L g f b w by lia]at this;exact this
  .rintro⟨v,i,d⟩;let⟨b,c,i⟩:=mem_flatMap.mp i;let⟨w,a,rfl⟩:=vM.mp i;let⟨a,e⟩:=vQ.mp a;have m:=l c a (of_decide_eq_true e);let⟨u,t⟩:=(Ct.j1B G).mp d;refine⟨⟨b,c,?_⟩,w,a,?_⟩
   .have:=Int.dvd_add u m.2.2.1;rw[show y-mtV T L g f b w+(mtV T L g f b w-b)=y-b by lia]at this;exact this
   .have:=Int.dvd_add t m.2.2.2;rw[show y-mtV T L g f b w+(mtV T L g f b w-w)=y-w by lia]at this;exact this
def j4O:Tg [0] 1 (λ_=>True):=⟨by decide,λy a=>by rw[vo.mp a];decide,λy=>⟨λ_=>⟨0,vq,Int.one_dvd _⟩,λ_=>trivial⟩⟩
structure Mb where
 ls:L6
 ps:N5
 gs:L9
 hs:L4
 x:Str
 W:L9
noncomputable def Mb.n(d:Mb):Nat:=d.ps.length-1
noncomputable def Mb.L(d:Mb):Int:=d.gs.getD d.n 0
structure MbOk(d:Mb):Prop where
 sn:Sn d.ls d.ps d.gs d.hs
 w:WPre d.ps d.gs d.x d.W d.ps.length
 few:d.W.getD d.n 0<=4
 x1:Ws.isW d.x=true
 x2:∀p∈d.ps,FmWs p.2
 rb:∀y∈RB d.ps d.gs d.W d.n 0,0<=y/\y<d.L
def Mb.R(d:Mb)(y:Int):Prop:=∃w,(0<d.W.getD d.n 0/\w∈RB d.ps d.gs d.W d.n 0)/\d.L ∣ y-w
def BkA(H:Hp)(a:Addr)(d:Mb):Prop:=∃(pl pp:Addr) (las pas:N2),BookAt H a pl pp las pas d.ls d.ps
inductive MeetR(ds:List Mb)(b:Int)(v:V):Prop
 | no (_:v = .non) (_:∀y,¬∀d∈ds,d.R y):MeetR ds b v
 | yes (y:Int) (_:v = .int y) (_:b<=y) (_:y<=b+10^200) (_:∀d∈ds,d.R y) (_:∀y',b<=y'->(∀d∈ds,d.R y')->y<=y'):MeetR ds b v
inductive sp_meeting(vs:N6)(H:Hp)(Q:VK)(xk:XK):Prop
 | mk (a b:Addr) (as:N2) (ds:List Mb) (t:Int) (_:vs=[.ref a,.ref b,.int t]) (_:H a=some (.lst (as.map V.ref))) (_:All2 (BkA H) as ds) (_:H b=some (.lst (ds.map λd=>V.str d.x))) (_:ds.length<=3) (_:(∀d∈ds,MbOk d)) (_:∀(v:V) (H':Hp),Same H H'->MeetR ds (max t 0) v->Q v H'):sp_meeting vs H Q xk
def j50{ps:N5}{ls:L6}{gs:L9}{x:Str}{W a:L9}{n:Nat}(e:WfB ls ps)(k:n<=ps.length)(O:WPre ps gs x W n)(b:WPre ps gs x a n):W=a:=by
 have h:∀i,i<n->W.getD i 0=a.getD i 0:=by
  intro i
  induction i using Nat.strongRecOn with
  | ind i ih=>
   intro c;have d:=vz (show i<ps.length by lia);rw[O.2 i _ c d,b.2 i _ c d];congr 1;unfold wSum;congr 1;refine map_congr_left λq j=>?_
   have:=qc e j;rw[ih q.1 this ⋯]
 have l:=O.1;have m:=b.1;refine ext_getElem ⋯ λi f g=>?_
 have:=h i ⋯;rw[vy,vy,vz f,vz g]at this;exact this
end Rm
namespace Ct
structure Ce(r s a b x y:Int):Prop where
 a1:1<=a
 b0:0<=b
 bs:b<=s
 ar:a<=r\/a<=s
 sg:(0<=x/\y<=0/\b*x-a*y=s)\/(x<=0/\0<=y/\a*y-b*x=s)
 x1 : -s<=x
 x2:x<=s
 y1 : -s<=y
 y2:y<=s
 rx:∃t,r*x=a+s*t
 ry:∃t,r*y=b+s*t
 dv:∀d,d ∣ a->d ∣ b->d ∣ r/\d ∣ s
def Ce.start{r s:Int}(c:1<=r)(e:1<=s):Ce r s r s 1 0:=
 ⟨c,⋯,vC _,.inl (vC _),.inl ⟨by decide,by decide,by rw[Int.mul_one,Int.mul_zero,Int.sub_zero]⟩,⋯,⋯,⋯,⋯,⟨0,by rw[Int.mul_one,Int.mul_zero,Int.add_zero]⟩,⟨-1,by rw[Int.mul_zero,Int.mul_neg,Int.mul_one];lia⟩,λd a b=>⟨a,b⟩⟩
def wT{b y s:Int}(a:1<=b)(c:0<=y)(h:b*y<=s):y<=s:=by
 have:=vV a c;lia
def Ce.step{r s a b x y:Int}(C:Ce r s a b x y)(i:1<=b):Ce r s b (a-a/b*b) y (x-a/b*y):=by
 have g:0<=a/b:=Int.ediv_nonneg (by have:=C.a1;lia) ⋯;have B:=Int.emod_add_mul_ediv a b;have D:=vd a (show b≠0 by lia);have E:=ve a (show 0<b by lia);have F:a/b*b=b*(a/b):=Int.mul_comm ..;have f:0<=a-a/b*b:=⋯
 have n:a-a/b*b<b:=⋯
 generalize G:a/b=m at *;have H:=C.x1;have I:=C.x2;have z:=C.y1;have A:=C.y2;have o:=C.bs;have w:b*(x-m*y)-(a-m*b)*y=b*x-a*y:=by
  rw[Int.mul_sub,Int.sub_mul,Int.mul_left_comm b m y,Int.mul_assoc m b y];lia
 refine⟨i,f,⋯,.inr o,?_,z,A,?_,?_,C.ry,?_,λd e c=>?_⟩
 .rcases C.sg with⟨e,c,h⟩ | ⟨e,c,h⟩
  .refine .inr ⟨c,?_,⋯⟩;have:=Int.mul_nonpos_of_nonneg_of_nonpos g c;lia
  .refine .inl ⟨c,?_,⋯⟩;have:=vO g c;lia
 .rcases C.sg with⟨e,c,h⟩ | ⟨e,c,h⟩
  .have:=Int.mul_nonpos_of_nonneg_of_nonpos g c;lia
  .have k:0<=m*y-x:=by have:=vO g c;lia
   have p:=vO f c;have q:b*(m*y-x)<=s:=by
    rw[show m*y-x = -(x-m*y) by lia,Int.mul_neg];lia
   have:=wT i k q;lia
 .rcases C.sg with⟨e,c,h⟩ | ⟨e,c,h⟩
  .have k:0<=x-m*y:=by have:=Int.mul_nonpos_of_nonneg_of_nonpos g c;lia
   have p:=Int.mul_nonpos_of_nonneg_of_nonpos f c;exact wT i k ⋯
  .have:=vO g c;lia
 .let⟨t,v⟩:=C.rx;let⟨l,j⟩:=C.ry;refine⟨t-m*l,?_⟩;rw[Int.mul_sub,Int.mul_left_comm r m y,v,j,Int.mul_add,Int.mul_sub,Int.mul_left_comm s m l];lia
 .have u:d ∣ a:=by
   have:=Int.dvd_add c (Int.dvd_trans e (Int.dvd_mul_left m b));rw[show a-m*b+m*b=a by lia]at this;exact this
  exact C.dv d u e
def Ce.done{r s a x y:Int}(C:Ce r s a 0 x y):GB r s a x:=by
 let⟨b,c⟩:=C.dv a (Int.dvd_refl a) (Int.dvd_zero a);exact⟨C.a1,b,c,C.rx⟩
end Ct
namespace Rm
open PySem PySem.Spec PyProof.Rows L2
structure RgS(ps:N5)(gs W:L9)(R:Int->Prop)(F:L9)(S:L5):Prop where
 inv:∀y,R y↔y∈F\/∃s∈S,y∈RB ps gs W s.1 s.2
 ok:∀s∈S,s.1<ps.length/\0<W.getD s.1 0
 bnd:(F.length:Int)+(S.map λs=>W.getD s.1 0).sum<=4
section
variable{ls:L6}{ps:N5}{gs W:L9}{hs:L4}{R:Int->Prop}{F:L9}{S0:L5}{s:Nat×Int}{x:Str}
def RgS.few(h:RgS ps gs W R F S0):F.length+S0.length<=4:=by
 have b:=h.bnd;have:=XU (f:=λs:Nat×Int=>W.getD s.1 0) (l:=S0) λy a=>by have:=(h.ok y a).2;lia
 lia
def RgS.leaf(h:RgS ps gs W R F (S0++[s]))(e:rq W (pcB ps gs s.1)=[]):RgS ps gs W R (F++[s.2]) S0:=by
 refine⟨λy=>?_,λy c=>h.ok y (mem_append_left _ c),?_⟩
 .rw[h.inv,vg,vo];constructor
  .rintro(z | ⟨u,a,z⟩)
   .exact .inl (.inl z)
   .rcases vg.mp a with a | a
    .exact .inr ⟨u,a,z⟩
    .rw[vo.mp a,kD e,vo]at z;exact .inl (.inr z)
  .rintro((z | z) | ⟨u,a,z⟩)
   .exact .inl z
   .exact .inr ⟨s,mem_append_right _ vq,by rw[kD e,z];exact vq⟩
   .exact .inr ⟨u,mem_append_left _ a,z⟩
 .have b:=h.bnd;have:=(h.ok s (mem_append_right _ vq)).2;rw[vi,sum_append,v9,map_nil,uz,sum_nil]at b;rw[vm,List.length_singleton];lia
def RgS.node(N:Sn ls ps gs hs)(O:WPre ps gs x W ps.length)(h:RgS ps gs W R F (S0++[s]))(e:¬rq W (pcB ps gs s.1)=[]):RgS ps gs W R F (S0++bgs gs s.2 (rq W (pcB ps gs s.1))):=by
 have f:=h.ok s (mem_append_right _ vq);refine⟨λy=>?_,λy c=>?_,?_⟩
 .rw[h.inv];constructor
  .rintro(z | ⟨u,a,z⟩)
   .exact .inl z
   .rcases vg.mp a with a | a
    .exact .inr ⟨u,mem_append_left _ a,z⟩
    .rw[vo.mp a,Wt N.s.w e]at z;let⟨v,d,z⟩:=mem_flatMap.mp z;exact .inr ⟨v,mem_append_right _ d,z⟩
  .rintro(z | ⟨u,a,z⟩)
   .exact .inl z
   .rcases vg.mp a with a | a
    .exact .inr ⟨u,mem_append_left _ a,z⟩
    .exact .inr ⟨s,mem_append_right _ vq,by rw[Wt N.s.w e];exact mem_flatMap.mpr ⟨u,a,z⟩⟩
 .rcases vg.mp c with c | c
  .exact h.ok y (mem_append_left _ c)
  .have:=Wa N.s.w c;exact⟨⋯,this.2⟩
 .have b:=h.bnd;have w:=j66 N O f.1 s.2;rw[vi,sum_append,v9,map_nil,uz,sum_nil]at b;rw[vi,sum_append];lia
def RgS.done(h:RgS ps gs W R F [])(y:Int):R y↔y∈F:=by
 rw[h.inv];exact⟨λz=>z.elim id (λ⟨_,a,_⟩=>nomatch a),.inl⟩
end
def TlA(C:Addr)(H:Hp)(a:Addr)(d:Mb):Prop:=∃z,TalAt C H a z d.ps d.gs d.W
def MbOk.tg{d:Mb}(k:MbOk d){c:L9}(b:∀y,y∈c↔0<d.W.getD (d.ps.length-1) 0/\y∈RB d.ps d.gs d.W (d.ps.length-1) 0):Tg c d.L d.R:=by
 have g:=k.sn.ne;refine⟨(k.sn.g (show d.n<_ by unfold Mb.n;lia)).1,λy f=>k.rb y ((b y).mp f).2,λy=>⟨?_,?_⟩⟩
 .rintro⟨w,a,e⟩;exact⟨w,(b w).mpr a,e⟩
 .rintro⟨w,a,e⟩;exact⟨w,(b w).mp a,e⟩
def j5Y{ds:List Mb}{i:Nat}{d:Mb}(b:ds[i]?=some d):(λy=>(∀e∈ds.take i,e.R y)/\d.R y)=λy=>∀e∈ds.take (i+1),Mb.R e y:=by
 funext y;rw[take_snoc b];refine propext ⟨λh e a=>?_,λh=>⟨λe a=>h e (mem_append_left _ a),h d (mem_append_right _ vq)⟩⟩;rcases vg.mp a with z | z
 .exact h.1 e z
 .rw[vo.mp z];exact h.2
noncomputable def cnd(b T z:Int):Int:=b+(z-b)%T
section
variable{ds:List Mb}{B:L9}{T b:Int}
def j5q(h:Tg B T (λy=>∀d∈ds,d.R y))(e:B=[]):MeetR ds b .non:=.no rfl λy c=>by
 let⟨z,a,_⟩:=(h.s y).mp c;rw[e]at a;exact nomatch a
def j3Q(h:Tg B T (λy=>∀d∈ds,d.R y))(l:T<=10^190){m:Int}(k:LsI (B.map (cnd b T)) m):MeetR ds b (.int m):=by
 have v:=h.t1;have c:∀z,b<=cnd b T z/\cnd b T z<=b+T/\T ∣ cnd b T z-z:=λz=>by
  have s:=vd (z-b) (show T≠0 by lia);have t:=ve (z-b) (show 0<T by lia);have u:=Int.emod_add_mul_ediv (z-b) T;unfold cnd;exact⟨⋯,⋯,⟨-((z-b)/T),by rw[Int.mul_neg];lia⟩⟩
 let⟨z,j,rfl⟩:=vM.mp k.1;have e:=c z;refine .yes _ rfl e.1 ⋯ ((h.s _).mpr ⟨z,j,e.2.2⟩) λy p i=>?_
 let⟨f,a,d⟩:=(h.s y).mp i;refine vY (k.2 _ (vM.mpr ⟨f,a,rfl⟩)) ?_;let⟨q,r⟩:=d;unfold cnd;rw[show f-b=(y-b)+T*(-q) by rw[Int.mul_neg];lia,Int.add_mul_emod_self_left];have n:=Int.emod_add_mul_ediv (y-b) T;have g:0<=(y-b)/T:=Int.ediv_nonneg ⋯ ⋯;have o:=vO (show 0<=T by lia) g;lia
end
def max0(t:Int):(if(0:Int)>t then 0 else t)=max t 0:=by
 split<;>lia
section
variable{fs:List Fn}{names:N3}{x:Str}
variable{a:Int}
end
end Rm
namespace Ct
end Ct
namespace Rm
open PySem PySem.Spec PyProof.Rows L2
def BkQ(p q r:Addr)(H:Hp)(b:Addr)(d:Mb):Prop:=∃(pl pp:Addr) (las pas:N2),BookAt H b pl pp las pas d.ls d.ps/\(pl≠p/\pl≠q/\pl≠r)/\pp≠p/\pp≠q/\pp≠r
def BkQ.keep{p q r:Addr}{H H':Hp}{b:Addr}{d:Mb}(h:BkQ p q r H b d)(f:∀c xs,H c=some (.tup xs)->H' c=some (.tup xs))(j:∀c u,c≠p->c≠q->c≠r->H c=some u->H' c=some u):BkQ p q r H' b d:=by
 let⟨k,l,g,i,B,a,e⟩:=h;exact⟨k,l,g,i,⟨f _ _ B.t,j _ _ a.1 a.2.1 a.2.2 B.l,B.la.mono λc x h=>f _ _ h,j _ _ e.1 e.2.1 e.2.2 B.p,B.pa.mono λc x h=>PartAt.keep f h⟩,a,e⟩
def LsR(S:Int->Prop)(b:Int)(v:V):Prop:=(v = .non/\∀y,b<=y->¬S y)\/∃y,v = .int y/\b<=y/\S y/\∀y',b<=y'->S y'->y<=y'
def MeetR.ls{ds:List Mb}{b:Int}{v:V}(h:MeetR ds b v):LsR (λy=>∀d∈ds,d.R y) b v:=by
 cases h with
 | no e n=>exact .inl ⟨e,λy _=>n y⟩
 | yes y e b1 b2 s m=>exact .inr ⟨y,e,b1,s,m⟩
def LsR.one{S:Int->Prop}{b:Int}{v g:V}(h:LsR S b v)(h':LsR S b g):v=g:=by
 rcases h with⟨rfl,n⟩ | ⟨y,rfl,f,s,m⟩
 .rcases h' with⟨rfl,_⟩ | ⟨d,_,c,e,_⟩
  .rfl
  .exact uh e (n d c)
 .rcases h' with⟨_,n⟩ | ⟨d,rfl,c,e,i⟩
  .exact uh s (n y f)
  .have a:=m d c e;have b:=i y f s;rw[show y=d by lia]
theorem j1u(n:Str):∀hs:N3,inV (.str n) (hs.map V.str)=decide (n∈hs)
 | []=>by simp[inV]
 | h::r=>by
  have a:=j1u n r;unfold inV at a|-;rw[v9,any_cons,a];have e:eqV (.str h) (.str n)=decide (h=n):=by
   show(h==n)=_;by_cases c:h=n
   .subst c;simp
   .rw[vJ c];exact beq_eq_false_iff_ne.mpr c
  rw[e,Bool.eq_iff_iff];simp only[Bool.or_eq_true,decide_eq_true_eq,mem_cons];constructor
  .rintro(x | x)
   .exact .inl x.symm
   .exact .inr x
  .rintro(x | x)
   .exact .inl x.symm
   .exact .inr x
theorem flatW:∀hs:N3,(hs.map V.str).all flatV=true
 | []=>rfl
 | h::r=>by rw[v9,all_cons,flatW r];rfl
def Mb.R_add{d:Mb}{y k:Int}(h:d.L ∣ k):d.R (y+k)↔d.R y:=by
 unfold Mb.R;refine exists_congr λw=>and_congr_right λ_=>?_
 rw[show y+k-w=y-w+k by lia];exact Int.dvd_add_left h
noncomputable def seenL(d:Mb):List Bool:=(List.range d.L.toNat).map λt:Nat=>decide (d.x∈ringsW d.ps d.gs (t:Nat))
def j6c{H:Hp}{Q:V->Hp->Prop}(h:Q (.int (10^9)) H):rI CPow (λi j=>.int (i^j.toNat)) (.int 10) (.int 9) H Q:=⟨10,9,rfl,rfl,⟨by decide,by decide,by decide⟩,h⟩
def j43{ds:List Mb}{b w:Int}(g:1<=w)(hw:∀d∈ds,d.L ∣ w)(h:∀y,b<=y->y<b+w->¬∀d∈ds,d.R y):LsR (λy=>∀d∈ds,d.R y) b .non:=by
 refine .inl ⟨rfl,λy f c=>h (b+(y-b)%w) ?_ ?_ λd a=>?_⟩
 .have:=vd (y-b) (show w≠0 by lia);lia
 .have:=ve (y-b) (show 0<w by lia);lia
 .have e:=Int.emod_add_mul_ediv (y-b) w;have:b+(y-b)%w=y+w * -((y-b)/w):=by rw[Int.mul_neg];lia
  rw[this];exact(Mb.R_add (Int.dvd_trans (hw d a) ⟨_,rfl⟩)).mpr (c d a)
noncomputable def stepR(W:L9)(r:Nat->Int->Int)(y:Pr4):Int:=y.2.2.1*W.getD y.1 0+(match y.2.2.2 with | some u=>r y.1 u | none=>0)
noncomputable def raL(pc:Nat->List Pc)(gs W:L9):Nat->Nat->Int->Int
 | 0,_,_=>0
 | n+1,i,t=>if pc i=[]then(if 0<t then W.getD i 0 else 0)else((prg gs t (pc i)).map (stepR W (raL pc gs W n))).sum
noncomputable def RA(ps:N5)(gs W:L9)(i:Nat)(t:Int):Int:=raL (pcB ps gs) gs W (i+1) i t
noncomputable def cntR(x:Str)(ps:N5)(gs:L9)(i:Nat)(t:Int):Int:=(((reach ps gs i t).flatMap (ringX ps)).count x:Nat)
def YY{a:Type}{f g:a->Int}{l:List a}(h:∀x∈l,f x=g x):(l.map f).sum=(l.map g).sum:=by rw[map_congr_left h]
section
variable{ls:L6}{ps:N5}{gs W:L9}{hs:L4}{x:Str}
def j4j(a:WfB ls ps){i:Nat}{t:Int}{y:Pr4}(h:y∈prg gs t (pcB ps gs i)):y.1<i:=by
 let⟨q,b,e⟩:=kH h;rw[KI e];exact qc a b
theorem j1Q(a:WfB ls ps):∀{n m i:Nat} {t:Int},i<n->i<m->raL (pcB ps gs) gs W n i t=raL (pcB ps gs) gs W m i t
 | 0,_,_,_,h,_=>uh h (Nat.not_lt_zero _)
 | _,0,_,_,_,h=>uh h (Nat.not_lt_zero _)
 | n+1,m+1,i,t,h1,h2=>by
  unfold raL;split
  .rfl
  .refine YY λy b=>?_
   have:=j4j a b;unfold stepR;split
   .rw[j1Q a (show y.1<n by lia) (show y.1<m by lia)]
   .rfl
def ZB{i:Nat}{t:Int}(h:pcB ps gs i=[]):RA ps gs W i t=if 0<t then W.getD i 0 else 0:=by
 unfold RA raL;rw[vc h]
noncomputable def cQ(ps:N5)(gs W:L9)(t:Int)(q:Pc):Int:=if q.2.2<=t then ov gs t q*W.getD q.1 0+(if ov gs t q<q.2.1 then RA ps gs W q.1 (t-q.2.2-ov gs t q*gs.getD q.1 0)else 0)else 0
theorem j4H{f:Pc->Option Pr4}{g:Pr4->Int}{c:Pc->Int}(a:∀q,f q=none->c q=0)(b:∀q y,f q=some y->c q=g y):∀d:List Pc,((d.filterMap f).map g).sum=(d.map c).sum
 | []=>rfl
 | q::r=>by
  rw[v9,uz,<-j4H a b r];cases e:f q with
  | none=>rw[List.filterMap_cons_none e,a q e,ux]
  | some y=>rw[List.filterMap_cons_some e,v9,uz,b q y e]
def kC(f:WfB ls ps){i:Nat}{t:Int}(h:¬pcB ps gs i=[]):RA ps gs W i t=((pcB ps gs i).map (cQ ps gs W t)).sum:=by
 have e:RA ps gs W i t=((prg gs t (pcB ps gs i)).map (stepR W (RA ps gs W))).sum:=by
  unfold RA;rw[raL,va h];refine YY λy a=>?_
  have:=j4j f a;unfold stepR;split
  .rw[j1Q f (show y.1<i by lia) (show y.1<y.1+1 by lia)]
  .rfl
 rw[e];unfold prg;refine j4H (λq d=>?_) (λq y a=>?_) _
 .unfold prg1 at d;unfold cQ;split at d
  .cases d
  .rename_i c;rw[va c]
 .unfold prg1 at a;unfold cQ;split at a
  .rename_i c;rw[vc c];injection a with a;subst a;unfold stepR;dsimp only;by_cases b:ov gs t q<q.2.1
   .rw[vc b,vc b]
   .rw[va b,va b]
  .cases a
theorem j1U{g:Nat->Int}:∀{is:N1} {b:Int} {q:Pc},(∀j∈is,0<=gs.getD j 0)->q∈rowPc gs is b->q.2.2+gs.getD q.1 0<=b+(is.map λj=>gs.getD j 0).sum
 | [],_,_,_,h=>nomatch h
 | j::r,b,q,h0,h=>by
  have e:0<=(r.map λj=>gs.getD j 0).sum:=by
   cases r with
   | nil=>exact vC _
   | cons a s=>
    refine(j3K (l:=(a::s).map λj=>gs.getD j 0) (λy d=>?_) (vM.mpr ⟨a,vq,rfl⟩)).2;let⟨k,c,rfl⟩:=vM.mp d;exact h0 k (vp _ c)
  rw[v9,uz];rcases mem_cons.mp h with rfl | h
  .show b+gs.getD j 0<=_;lia
  .have:=j1U (g:=g) (λk c=>h0 k (vp _ c)) h;lia
def Sn.fit2(N:Sn ls ps gs hs){i:Nat}{q:Pc}(h:q∈pcB ps gs i):q.2.2+q.2.1*gs.getD q.1 0<=gs.getD i 0:=by
 have m:=N.fit h;by_cases b:q.2.2=0
 .lia
 unfold pcB at h;split at h
 case h_2=>exact nomatch h
 rename_i p hp;have d:=(N.s.ln i p hp).2;have f:∀k∈inP ps p.2,1<=gs.getD k 0:=λk l=>by
  have:=N.s.w.inP_lt hp l;have:=(vx.mp hp).1;exact(N.g (show k<ps.length by lia)).1
 unfold pcsI at h;split at h
 .rename_i k y e;split at h
  .exact nomatch h
  .rename_i j r ein;have a:k*gs.getD j 0=gs.getD i 0:=d _ (by rw[e]at ein|-;rw[ein];exact⟨_,rfl,rfl⟩);rcases mem_cons.mp h with rfl | h
   .exact uh rfl b
   .split at h
    .rw[vo.mp h,<-a];show gs.getD j 0+(k-1)*gs.getD j 0<=_;rw[Int.sub_mul];lia
    .exact nomatch h
 .rename_i ns e;have a:=d ((inP ps p.2).map λj=>gs.getD j 0).sum (by rw[e];rfl);have:=j1U (g:=λ_=>0) (λj c=>by have:=f j c;lia) h;rw[(ZJ h).2,Int.one_mul,<-a];lia
 .let⟨j,c,rfl⟩:=vM.mp h;exact uh rfl b
def XG{i:Nat}{p:Str×Fm}(a:ps[i]?=some p)(h:¬pcB ps gs i=[]):ownW x p.2=0:=by
 unfold ownW;split
 .rename_i y n e;exfalso;refine h ?_;unfold pcB;rw[a];show pcsI gs p.2 (inP ps p.2)=[]
  rw[e];rfl
 .rfl
def Wr(N:Sn ls ps gs hs):∀i,RA ps gs W i 0=0:=by
 intro i
 induction i using Nat.strongRecOn with
 | ind i ih=>
  by_cases c:pcB ps gs i=[]
  .rw[ZB c];rfl
  .rw[kC N.s.w c];have:∀q∈pcB ps gs i,cQ ps gs W 0 q=0:=λq e=>by
    have d:=N.pcOk e;have f:=qc N.s.w e;unfold cQ;split
    .have b:q.2.2=0:=by have:=d.2.2.2.2.2.1;lia
     have o:ov gs 0 q=0:=by
      unfold ov;rw[b,show(0:Int)-0=0 from rfl,Int.zero_ediv,va (by have:=d.2.2.2.1;lia)]
     rw[o,b,vc (by have:=d.2.2.2.1;lia),Int.zero_mul,Int.zero_mul,ux,show(0:Int)-0-0=0 from rfl];exact ih q.1 f
    .rfl
   rw[map_congr_left this];generalize pcB ps gs i=l
   induction l with
   | nil=>rfl
   | cons a r ih2=>rw[v9,uz,ih2];rfl
def xO(N:Sn ls ps gs hs)(O:WPre ps gs x W ps.length){i:Nat}(hi:i<ps.length):RA ps gs W i (gs.getD i 0)=W.getD i 0:=by
 have e:=(N.g hi).1;by_cases c:pcB ps gs i=[]
 .rw[ZB c,vc ⋯]
 .rw[kC N.s.w c,O.2 i _ hi (vz hi),XG (vz hi) c,ux];unfold wSum;refine YY λq b=>?_
  have a:=N.pcOk b;have d:=N.fit2 b;have f:=Int.mul_pos (show 0<q.2.1 by have:=a.2.2.2.1;lia) (show 0<gs.getD q.1 0 by have:=a.2.1;lia);unfold cQ;rw[vc ⋯];have o:ov gs (gs.getD i 0) q=q.2.1:=by
   unfold ov;have:q.2.1<=(gs.getD i 0-q.2.2)/gs.getD q.1 0:=(Int.le_ediv_iff_mul_le (by have:=a.2.1;lia)).mpr ⋯;split<;>lia
  rw[o,va (Int.lt_irrefl _),Int.add_zero]
noncomputable def nQ(x:Str)(ps:N5)(gs:L9)(t:Int)(q:Pc):Int:=if q.2.2<=t/\ov gs t q<q.2.1 then cntR x ps gs q.1 (t-q.2.2-ov gs t q*gs.getD q.1 0)else 0
def j4s{i:Nat}{g:Int}(h:1<=g):ringX ps (i,g)=[]:=by
 unfold ringX;split
 .exact va (by show¬g=0;lia)
 .rfl
def j58(a b:N3):((a++b).count x:Int)=(a.count x:Int)+(b.count x:Int):=by rw[List.count_append];lia
def Yx(N:Sn ls ps gs hs){i:Nat}{t:Int}(h:¬(gs.getD i 0<=t\/pcB ps gs i=[])):cntR x ps gs i t=((pcB ps gs i).map (nQ x ps gs t)).sum:=by
 unfold cntR;rw[zB N.s.w h];have g:∀b:List Pc,(∀q∈b,q∈pcB ps gs i)->(((((b.filterMap (prg1 gs t)).flatMap (wth1 gs)).flatMap λy=>reach ps gs y.1 y.2).flatMap (ringX ps)).count x:Int)=(b.map (nQ x ps gs t)).sum:=by
  intro b
  induction b with
  | nil=>intro _;rfl
  | cons q r f=>
   intro d;have l:=N.pcOk (d q vq);have f:=f λy k=>d y (vp _ k)
   rw[v9,uz,<-f];unfold nQ;by_cases c:q.2.2<=t
   .have e:prg1 gs t q=some (q.1,q.2.2,ov gs t q,if ov gs t q<q.2.1 then some (t-q.2.2-ov gs t q*gs.getD q.1 0)else none):=vc c;rw[List.filterMap_cons_some e,flatMap_cons,flatMap_append,flatMap_append,j58];congr 1;have j:((wth1 gs (q.1,q.2.2,ov gs t q,if ov gs t q<q.2.1 then some (t-q.2.2-ov gs t q*gs.getD q.1 0)else none)).flatMap λy=>reach ps gs y.1 y.2).flatMap (ringX ps)=if ov gs t q<q.2.1 then(reach ps gs q.1 (t-q.2.2-ov gs t q*gs.getD q.1 0)).flatMap (ringX ps)else[]:=by
     unfold wth1;rw[flatMap_append,flatMap_append];have z:((if 0<ov gs t q then[(q.1,gs.getD q.1 0)]else[]).flatMap λy:Nat×Int=>reach ps gs y.1 y.2).flatMap (ringX ps)=[]:=by
      split
      .rw[flatMap_cons,flatMap_nil,append_nil,qd (.inl (vC _)),flatMap_cons,flatMap_nil,append_nil];exact j4s l.2.1
      .rfl
     have m:((if 0<(q.1,q.2.2,ov gs t q,if ov gs t q<q.2.1 then some (t-q.2.2-ov gs t q*gs.getD q.1 0)else none).2.2.1 then[((q.1,q.2.2,ov gs t q,if ov gs t q<q.2.1 then some (t-q.2.2-ov gs t q*gs.getD q.1 0)else none).1,gs.getD q.1 0)]else[]).flatMap λy:Nat×Int=>reach ps gs y.1 y.2).flatMap (ringX ps)=[]:=z;rw[m,nil_append];by_cases a:ov gs t q<q.2.1
     .rw[vc a,vc a];show(([(q.1,t-q.2.2-ov gs t q*gs.getD q.1 0)].flatMap λy:Nat×Int=>reach ps gs y.1 y.2).flatMap (ringX ps))=_;rw[flatMap_cons,flatMap_nil,append_nil]
     .rw[va a,va a];rfl
    rw[j];by_cases a:ov gs t q<q.2.1
    .rw[vc a,vc ⟨c,a⟩];rfl
    .rw[va a,va λz=>a z.2];rfl
   .have e:prg1 gs t q=none:=va c;rw[List.filterMap_cons_none e,va λz=>c z.1,ux]
 exact g _ λq d=>d
theorem j24{b:Type}{f g h:b->Int}:∀{l:List b},(∀y∈l,f y=g y+h y)->(l.map f).sum=(l.map g).sum+(l.map h).sum
 | [],_=>rfl
 | a::r,e=>by
  rw[v9,v9,v9,uz,uz,uz,j24 λy c=>e y (vp _ c),e a vq];lia
noncomputable def fQ(w T g:Int)(r:Int->Int)(u:Int):Int:=if u/g<T then u/g*w+r (u%g)else T*w
def j5e{w T g:Int}{r c:Int->Int}{u:Int}(k:0<g)(o:0<=u)(l:r 0=0)(n:r g=w)(st:∀v,0<=v->v<g->r (v+1)=r v+c v):fQ w T g r (u+1)=fQ w T g r u+(if u/g<T then c (u%g)else 0):=by
 have e:=Int.emod_add_mul_ediv u g;have h:=vd u (show g≠0 by lia);have i:=ve u k;have f:=st _ h i;unfold fQ;rcases Int.lt_or_le (u%g+1) g with z | z
 .have d:(u+1)/g=u/g:=by
   rw[show u+1=u%g+1+g*(u/g) by lia,Int.add_mul_ediv_left _ _ ⋯,Int.ediv_eq_zero_of_lt ⋯ z,ux]
  have m:(u+1)%g=u%g+1:=by
   rw[show u+1=u%g+1+g*(u/g) by lia,Int.add_mul_emod_self_left,Int.emod_eq_of_lt ⋯ z]
  rw[d,m];split
  .rw[f];lia
  .lia
 .have j:u%g+1=g:=⋯
  have d:(u+1)/g=u/g+1:=by
   rw[show u+1=0+g*(u/g+1) by rw[Int.mul_add];lia,Int.add_mul_ediv_left _ _ ⋯,Int.zero_ediv,ux]
  have m:(u+1)%g=0:=by
   rw[show u+1=0+g*(u/g+1) by rw[Int.mul_add];lia,Int.add_mul_emod_self_left,Int.zero_emod]
  rw[d,m,l];rw[j,n]at f;by_cases a:u/g<T
  .rw[vc a,vc a];by_cases b:u/g+1<T
   .rw[vc b,Int.add_mul];lia
   .rw[va b,show T=u/g+1 by lia,Int.add_mul];lia
  .rw[va a,va a,va ⋯];lia
def j69{q:Pc}{t:Int}:ov gs t q=if(t-q.2.2)/gs.getD q.1 0<q.2.1 then(t-q.2.2)/gs.getD q.1 0 else q.2.1:=by
 unfold ov;split<;>split<;>lia
def j1T{u g:Int}:u-u/g*g=u%g:=by
 have:=Int.emod_add_mul_ediv u g;rw[Int.mul_comm (u/g) g];lia
def j3s{q:Pc}{t:Int}(a:PcOk gs q)(h:q.2.2<=t):cQ ps gs W t q=fQ (W.getD q.1 0) q.2.1 (gs.getD q.1 0) (RA ps gs W q.1) (t-q.2.2):=by
 unfold cQ fQ;rw[vc h,j69];by_cases c:(t-q.2.2)/gs.getD q.1 0<q.2.1
 .rw[vc c,vc c,vc c,j1T]
 .rw[va c,va c,va (Int.lt_irrefl _),Int.add_zero]
def j41{q:Pc}{t:Int}(a:PcOk gs q)(h:q.2.2<=t):nQ x ps gs t q=if(t-q.2.2)/gs.getD q.1 0<q.2.1 then cntR x ps gs q.1 ((t-q.2.2)%gs.getD q.1 0)else 0:=by
 unfold nQ;rw[j69];by_cases c:(t-q.2.2)/gs.getD q.1 0<q.2.1
 .rw[vc c,vc ⟨h,c⟩,vc c,j1T]
 .rw[va c,va (λz=>Int.lt_irrefl _ z.2),va c]
def Wq(N:Sn ls ps gs hs)(O:WPre ps gs x W ps.length):∀(i:Nat),i<ps.length->∀t,0<=t->t<gs.getD i 0->RA ps gs W i (t+1)=RA ps gs W i t+cntR x ps gs i t:=by
 intro i
 induction i using Nat.strongRecOn with
 | ind i ih=>
  intro e t v w;by_cases c:pcB ps gs i=[]
  .have m:W.getD i 0=ownW x ps[i].2:=by
    rw[O.2 i _ e (vz e),c];exact Int.add_zero _
   rw[ZB c,ZB c,vc ⋯,m];unfold cntR;rw[qd (.inr c),flatMap_cons,flatMap_nil,append_nil];unfold ringX ownW;rw[vz e];generalize ps[i]=p;let⟨y,f⟩:=p;cases f with
   | ring z n=>
    show(if z=x then(1:Int)else 0)=(if 0<t then(if z=x then(1:Int)else 0)else 0)+(((if t=0 then[z]else[]):N3).count x:Int);by_cases h:t=0
    .subst h;rw[va (Int.lt_irrefl _),vc rfl,ux];by_cases d:z=x
     .rw[vc d,d];simp
     .rw[va d,List.count_singleton];simp[d]
    .rw[vc (show 0<t by lia),va h];simp
   | _=>simp
  .rw[kC N.s.w c,kC N.s.w c,Yx N (λz=>z.elim (λz=>⋯) c)];refine j24 λq j=>?_
   have a:=N.pcOk j;have o:=qc N.s.w j;have k:q.1<ps.length:=⋯
   have u:=a.2.1;have s:=a.2.2.2.1;by_cases b:q.2.2<=t
   .rw[j3s a (show q.2.2<=t+1 by lia),j3s a b,j41 a b,show t+1-q.2.2=t-q.2.2+1 by lia];exact j5e ⋯ ⋯ (Wr N q.1) (xO N O k) (ih q.1 o k)
   .have r:nQ x ps gs t q=0:=va λz=>b z.1
    have l:cQ ps gs W t q=0:=va b;rw[r,l];by_cases g:q.2.2<=t+1
    .rw[j3s a g,show t+1-q.2.2=0 by lia];unfold fQ;rw[Int.zero_ediv,vc ⋯,Int.zero_mul,Int.zero_emod,Wr N]
    .exact va g
end
structure MbS(d:Mb):Prop where
 sn:Sn d.ls d.ps d.gs d.hs
 w:WPre d.ps d.gs d.x d.W d.ps.length
 x1:Ws.isW d.x=true
 x2:∀p∈d.ps,FmWs p.2
def BkA.same{H H':Hp}{a:Addr}{d:Mb}(s:Same H H')(h:BkA H a d):BkA H' a d:=by
 let⟨e,f,b,c,B⟩:=h;exact⟨e,f,b,c,B.same s⟩
section
variable{ls:L6}{ps:N5}{gs W:L9}{hs:L4}{x:Str}
def j3t(i:Nat)(t:Int):0<=cntR x ps gs i t:=Int.natCast_nonneg _
theorem j3j(N:Sn ls ps gs hs)(O:WPre ps gs x W ps.length){i:Nat}(hi:i<ps.length){v:Int}(b:0<=v):∀n:Nat,v+n<=gs.getD i 0->RA ps gs W i v<=RA ps gs W i (v+n)
 | 0,_=>by rw[show v+((0:Nat):Int)=v by lia];exact vC _
 | n+1,h=>by
  have c:=j3j N O hi b n ⋯;have a:=Wq N O i hi (v+n) ⋯ ⋯;have:=j3t (x:=x) (ps:=ps) (gs:=gs) i (v+n);rw[show v+((n+1:Nat):Int)=v+n+1 by lia,a];lia
def j1i(N:Sn ls ps gs hs)(O:WPre ps gs x W ps.length){i:Nat}(hi:i<ps.length){v:Int}(c:0<=v)(d:v<gs.getD i 0)(h:0<cntR x ps gs i v):0<W.getD i 0:=by
 have e:=Wq N O i hi v c d;have z:=Wr (W:=W) N i;have a:=j3j N O hi (vC 0) v.toNat ⋯;rw[show(0:Int)+(v.toNat:Int)=v by lia,z]at a;have b:=j3j N O hi (v:=v+1) ⋯ (gs.getD i 0-(v+1)).toNat ⋯;rw[show v+1+((gs.getD i 0-(v+1)).toNat:Int)=gs.getD i 0 by lia,xO N O hi]at b;lia
theorem Ye{j:Type}{f:j->Int}:∀{l:List j},(∀y∈l,0<=f y)->(0<(l.map f).sum↔∃y∈l,0<f y)
 | [],_=>⟨λh=>uh h (show¬(0:Int)<0 by decide),λ⟨_,h,_⟩=>nomatch h⟩
 | a::r,h=>by
  have e:=Ye (l:=r) λy d=>h y (vp _ d)
  have k:=h a vq;have i:0<=(r.map f).sum:=by
   clear e;have i:=λy (d:y∈r)=>h y (vp _ d)
   clear h k
   induction r with
   | nil=>exact vC _
   | cons b s e=>
    have:=i b vq;have:=e λy d=>i y (vp _ d)
    rw[v9,uz];lia
  rw[v9,uz];constructor
  .intro s;by_cases c:0<f a
   .exact⟨a,vq,c⟩
   .let⟨y,d,g⟩:=e.mp ⋯;exact⟨y,vp _ d,g⟩
  .rintro⟨y,d,g⟩;rcases mem_cons.mp d with rfl | d
   .lia
   .have:=e.mpr ⟨y,d,g⟩;lia
def j68(t:Int)(q:Pc):0<=nQ x ps gs t q:=by
 unfold nQ;split
 .exact j3t _ _
 .exact vC _
def Kx{t:Int}{c:List Pc}{z:Nat×Int}:z∈bgs gs t c↔∃q∈c,∃u:Nat,u<q.2.1.toNat/\z=(q.1,t+q.2.2+(u:Int)*gs.getD q.1 0):=by
 unfold bgs;rw[mem_flatMap];constructor
 .rintro⟨q,a,h⟩;let⟨u,b,e⟩:=vM.mp h;exact⟨q,a,u,mem_range.mp b,e.symm⟩
 .rintro⟨q,a,u,b,e⟩;exact⟨q,a,vM.mpr ⟨u,mem_range.mpr b,e.symm⟩⟩
def j04(N:Sn ls ps gs hs)(O:WPre ps gs x W ps.length):∀(i:Nat),i<ps.length->0<W.getD i 0->∀(t y:Int),y∈RB ps gs W i t↔0<=y-t/\y-t<gs.getD i 0/\0<cntR x ps gs i (y-t):=by
 intro i
 induction i using Nat.strongRecOn with
 | ind i ih=>
  intro n C t y;have T:=(N.g n).1;by_cases c:pcB ps gs i=[]
  .rw[kD (by rw[c];rfl),vo];have o:∀b,0<=b->b<gs.getD i 0->(0<cntR x ps gs i b↔b=0):=λb E F=>by
    have v:=Wq N O i n b E F;rw[ZB c,ZB c,vc ⋯]at v;by_cases z:b=0
    .rw[va ⋯]at v;exact⟨λ_=>z,λ_=>⋯⟩
    .rw[vc ⋯]at v;exact⟨λh=>uh h ⋯,λh=>uh h z⟩
   constructor
   .rintro rfl;exact⟨⋯,⋯,(o _ ⋯ ⋯).mpr ⋯⟩
   .rintro⟨f,k,d⟩;have:=(o _ f k).mp d;lia
  .have D:∀j,j<ps.length->0<=W.getD j 0:=λj K=>(O.bnd N (vA _) j K).1
   have r:∀{q:Pc},q∈pcB ps gs i->q.1<i:=λa=>qc N.s.w a
   have Q:¬rq W (pcB ps gs i)=[]:=λz=>by
    have e:=O.2 i _ n (vz n);rw[XG (vz n) c,ux]at e;unfold wSum at e;rw[e]at C;let⟨q,a,L⟩:=(Ye λq a=>vO (by have:=(N.pcOk a).2.2.2.1;lia) (D q.1 (by have:=r a;lia))).mp C;have wq:0<W.getD q.1 0:=by
     have:=D q.1 (by have:=r a;lia);by_cases z:W.getD q.1 0=0
     .rw[z,Int.mul_zero]at L;lia
     .lia
    have:q∈rq W (pcB ps gs i):=vQ.mpr ⟨a,vI wq⟩;rw[z]at this;exact nomatch this
   rw[Wt N.s.w Q,mem_flatMap];constructor
   .rintro⟨z,P,M⟩;let⟨q,a,u,U,rfl⟩:=Kx.mp P;let⟨a,wq⟩:=vQ.mp a;have wq:=of_decide_eq_true wq;have s:=r a;have m:=N.pcOk a;have S:=N.fit2 a;let⟨f,k,d⟩:=(ih q.1 s ⋯ wq _ y).mp M;have J:=m.2.1;have R:=m.2.2.2.2.2.1;dsimp only at f k d;generalize p:gs.getD q.1 0=g at *;have Z:(u:Int)*g+g<=q.2.1*g:=by
     have:=vV (show(u:Int)+1<=q.2.1 by lia) (show 0<=g by lia);rw[Int.add_mul]at this;lia
    have Y:0<=(u:Int)*g:=vO ⋯ ⋯;refine⟨⋯,⋯,?_⟩;rw[Yx N (by intro z;rcases z with z | z;lia;exact c z)];refine(Ye λq _=>j68 _ q).mpr ⟨q,a,?_⟩;rw[j41 m ⋯,p];have w:y-t-q.2.2=(y-(t+q.2.2+u*g))+g*u:=by rw[Int.mul_comm g];lia
    have H:(y-t-q.2.2)/g=u:=by
     rw[w,Int.add_mul_ediv_left _ _ ⋯,Int.ediv_eq_zero_of_lt f k,ux]
    have I:(y-t-q.2.2)%g=y-(t+q.2.2+u*g):=by
     rw[w,Int.add_mul_emod_self_left,Int.emod_eq_of_lt f k]
    rw[H,I,vc ⋯];exact d
   .rintro⟨f,k,d⟩;rw[Yx N (by intro z;rcases z with z | z;lia;exact c z)]at d;let⟨q,a,l⟩:=(Ye λq _=>j68 _ q).mp d;have s:=r a;have m:=N.pcOk a;have J:=m.2.1;by_cases b:q.2.2<=y-t
    case neg=>
     exfalso;unfold nQ at l;rw[va (λz=>b z.1)]at l;lia
    rw[j41 m b]at l;generalize p:gs.getD q.1 0=g at *;have A:=vd (y-t-q.2.2) (show g≠0 by lia);have B:=ve (y-t-q.2.2) (show 0<g by lia);have X:=Int.emod_add_mul_ediv (y-t-q.2.2) g;have G:0<=(y-t-q.2.2)/g:=Int.ediv_nonneg ⋯ ⋯;split at l
    .rename_i d1;have wq:=j1i N O (show q.1<ps.length by lia) A (by rw[p];exact B) l;refine⟨(q.1,t+q.2.2+(((y-t-q.2.2)/g).toNat:Int)*gs.getD q.1 0),Kx.mpr ⟨q,vQ.mpr ⟨a,vI wq⟩,((y-t-q.2.2)/g).toNat,⋯,rfl⟩,?_⟩;have e:y-(t+q.2.2+(((y-t-q.2.2)/g).toNat:Int)*g)=(y-t-q.2.2)%g:=by
      rw[Int.toNat_of_nonneg G,Int.mul_comm _ g];lia
     refine(ih q.1 s ⋯ wq _ y).mpr ?_;rw[p,e];exact⟨A,B,l⟩
    .lia
def j4X{W b:L9}{a:List Pc}(h:∀q∈a,W.getD q.1 0=b.getD q.1 0):wSum W a=wSum b a:=by
 unfold wSum;rw[map_congr_left λq c=>by rw[h q c]]
theorem j2a(N:Sn ls ps gs hs)(x:Str):∀n,n<=ps.length->∃W,WPre ps gs x W n
 | 0,_=>⟨[],rfl,λj p h=>uh h (Nat.not_lt_zero _)⟩
 | n+1,h=>by
  let⟨W,c,d⟩:=j2a N x n ⋯;have f:n<ps.length:=⋯
  refine⟨W++[ownW x ps[n].2+wSum W (pcB ps gs n)],by rw[vm,c];rfl,λj p i a=>?_⟩;have ext:∀k,k<n->(W++[ownW x ps[n].2+wSum W (pcB ps gs n)]).getD k 0=W.getD k 0:=λk e=>by
   rw[vy,vy,vD ⋯]
  have b:∀k,k<=n->wSum (W++[ownW x ps[n].2+wSum W (pcB ps gs n)]) (pcB ps gs k)=wSum W (pcB ps gs k):=λk e=>by
   refine j4X λq g=>?_
   have:=qc N.s.w g;rw[ext q.1 ⋯]
  rcases Nat.lt_or_ge j n with z | z
  .rw[ext j z,b j ⋯];exact d j p z a
  .have:j=n:=⋯
   subst this;rw[vz f]at a;cases a;rw[b j (vA _),vy,vE ⋯,c,Nat.sub_self];rfl
end
structure MbG(d:Mb):Prop where
 ms:MbS d
 rb:∀y∈RB d.ps d.gs d.W d.n 0,0<=y/\y<d.L
 r:∀y,0<=y->(d.R y↔0<cntR d.x d.ps d.gs d.n (y%d.L))
 L1:1<=d.L
 L2:d.L<=10^60
 w0:0<=d.W.getD d.n 0
def MbS.g{d:Mb}(k:MbS d):MbG d:=by
 have D:=k.sn.ne;have a:d.n<d.ps.length:=by unfold Mb.n;lia
 have o:=k.sn.g a;have B:=(k.w.bnd k.sn (vA _) d.n a).1;have A:1<=d.L:=o.1;have z:∀y∈RB d.ps d.gs d.W d.n 0,0<=y/\y<d.L:=λy i=>by
  by_cases c:0<d.W.getD d.n 0
  .let⟨p,r,_⟩:=(j04 k.sn k.w d.n a c 0 y).mp i;rw[Int.sub_zero]at p r;exact⟨p,r⟩
  .have e:rq d.W (pcB d.ps d.gs d.n)=[]:=by
    refine List.filter_eq_nil_iff.mpr λq g h=>?_
    have wq:=of_decide_eq_true h;have E:=qc k.sn.s.w g;have e:=k.w.2 d.n _ a (vz a);have b:=j66 k.sn k.w a 0;have m:(q.1,0+q.2.2+((0:Nat):Int)*d.gs.getD q.1 0)∈bgs d.gs 0 (rq d.W (pcB d.ps d.gs d.n)):=Kx.mpr ⟨q,vQ.mpr ⟨g,h⟩,0,by have:=(k.sn.pcOk g).2.2.2.1;lia,rfl⟩;have s:=(Ye (f:=λy:Nat×Int=>d.W.getD y.1 0) (l:=bgs d.gs 0 (rq d.W (pcB d.ps d.gs d.n))) λy i=>by have:=(Wa k.sn.s.w i).2;lia).mpr ⟨_,m,wq⟩;lia
   rw[kD e,vo]at i;lia
 refine⟨k,z,λy F=>?_,A,o.2,B⟩;have v:=vd y (show d.L≠0 by lia);have x:=ve y (show 0<d.L by lia);have C:=Int.emod_add_mul_ediv y d.L;constructor
 .rintro⟨w,⟨j,u⟩,q,g⟩;have n:=z w u;let⟨_,_,t⟩:=(j04 k.sn k.w d.n a j 0 w).mp u;rw[Int.sub_zero]at t;have:y%d.L=w:=by
   rw[show y=w+d.L*q by lia,Int.add_mul_emod_self_left];exact Int.emod_eq_of_lt n.1 n.2
  rw[this];exact t
 .intro h;have j:=j1i k.sn k.w a v x h;exact⟨y%d.L,⟨j,(j04 k.sn k.w d.n a j 0 _).mpr (by rw[Int.sub_zero];exact⟨v,x,h⟩)⟩,y/d.L,⋯⟩
def MbG.ok{d:Mb}(k:MbG d)(h:d.W.getD d.n 0<=4):MbOk d:=⟨k.ms.sn,k.ms.w,h,k.ms.x1,k.ms.x2,k.rb⟩
end Rm
namespace Nm
open PySem PySem.Spec PyProof.Rows L2
def Xf:∀m:Nat,1<=m->∃c r,Nat.toDigits 10 m=c::r/\c≠'0':=by
 intro m
 induction m using Nat.strongRecOn with
 | ind m ih=>
  intro h;rw[Nat.toDigits_eq_if nofun];split
  .rename_i lt;refine⟨_,[],rfl,?_⟩;have:∀k:Nat,k<10->1<=k->Nat.digitChar k≠'0':=by decide
   exact this m lt h
  .rename_i ge;let⟨c,r,e,a⟩:=ih (m/10) ⋯ ⋯;exact⟨c,r++[Nat.digitChar (m%10)],by rw[e];rfl,a⟩
def Wx:∀m:Nat,∀c∈Nat.toDigits 10 m,48<=c.toNat/\c.toNat<=57:=by
 intro m
 induction m using Nat.strongRecOn with
 | ind m ih=>
  intro c a;have b:∀k:Nat,k<10->48<=(Nat.digitChar k).toNat/\(Nat.digitChar k).toNat<=57:=by decide
  rw[Nat.toDigits_eq_if nofun]at a;split at a
  .rename_i lt;rw[vo.mp a];exact b m lt
  .rename_i ge;rcases vg.mp a with z | z
   .exact ih (m/10) ⋯ c z
   .rw[vo.mp z];exact b _ ⋯
def j47{n:Int}(b:0<=n)(i:n<=10^18):Ws.numV (Rm.tI n) 19 = .int n:=by
 let⟨m,rfl⟩:=Int.eq_ofNat_of_zero_le b;have a:(Rm.tI (m:Int)).cps.toList=(Nat.toDigits 10 m).map Char.toNat:=PySem.W.KIN.signs_num m;have p:=Rm.KW b i;have l:(Rm.tI (m:Int)).length=(Nat.toDigits 10 m).length:=by
  have:=congrArg List.length a;rw[vt]at this;exact this
 have q:1<=(Nat.toDigits 10 m).length:=by
  rw[Nat.toDigits_eq_if nofun];split
  .exact vA _
  .rw[vm];show 1<=_+1;lia
 unfold Ws.numV;rw[vc,a,PySem.W.KIN.val_back];refine⟨⟨⋯,⋯⟩,?_,?_⟩
 .unfold Ws.among;refine vI λc g=>?_
  rw[a]at g;let⟨d,j,rfl⟩:=vM.mp g;have:=Wx m d j;have f:Ws.figs.cps.toList=List.range' 48 10:=by trivial
  rw[f,List.mem_range'_1];lia
 .rintro⟨h,k⟩;by_cases z:m=0
  .subst z;exact k (by rw[l];rfl)
  .let⟨c,r,e,o⟩:=Xf m ⋯;rw[a,e]at h;have:c.toNat=48:=vN h;exact o (Char.ext (UInt32.toNat_inj.mp this))
end Nm
namespace Nm
open PySem PySem.Spec PyProof.Rows L2
def j2N{n L:Int}(h:0<=n)(o:((Rm.tI n).length:Int)<=L):Ws.numV (Rm.tI n) L = .int n:=by
 let⟨m,rfl⟩:=Int.eq_ofNat_of_zero_le h;have a:(Rm.tI (m:Int)).cps.toList=(Nat.toDigits 10 m).map Char.toNat:=PySem.W.KIN.signs_num m;have k:(Rm.tI (m:Int)).length=(Nat.toDigits 10 m).length:=by
  have:=congrArg List.length a;rw[vt]at this;exact this
 have p:1<=(Nat.toDigits 10 m).length:=by
  rw[Nat.toDigits_eq_if nofun];split
  .exact vA _
  .rw[vm];show 1<=_+1;lia
 unfold Ws.numV;rw[vc,a,PySem.W.KIN.val_back];refine⟨⟨⋯,⋯⟩,?_,?_⟩
 .unfold Ws.among;refine vI λc b=>?_
  rw[a]at b;let⟨d,i,rfl⟩:=vM.mp b;have:=Wx m d i;have f:Ws.figs.cps.toList=List.range' 48 10:=by trivial
  rw[f,List.mem_range'_1];lia
 .rintro⟨g,j⟩;by_cases z:m=0
  .subst z;exact j (by rw[k];rfl)
  .let⟨c,r,e,l⟩:=Xf m ⋯;rw[a,e]at g;have:c.toNat=48:=vN g;exact l (Char.ext (UInt32.toNat_inj.mp this))
end Nm
namespace Rm
open PySem PySem.Spec PyProof.Rows L2
open PyProof.Rows.KTD (inKeys Dat datumAt)
noncomputable def FT:List (Str×Dat):=[("raise",.tup [.str "limb",.str "height",.str "beats"]),("hold",.tup [.str "beats"]),("ring",.tup [.str "word",.str "beats"]),("again",.tup [.str "times",.str "part"])]
def WJ{k x:Str}{d:Dat}{r:List (Str×Dat)}(h:decide (k=x)=true):datumAt k ((x,d)::r)=some d:=by rw[datumAt,vc h]
def YB{k x:Str}{d:Dat}{r:List (Str×Dat)}(h:decide (k=x)=false):datumAt k ((x,d)::r)=datumAt k r:=by rw[datumAt,va (by rw[h];decide)]
def zy{c:Type}(a:c)(l:List c):ev (a::l)=a::ev (l.drop 1):=by
 cases l with
 | nil=>rfl
 | cons b r=>rfl
noncomputable def tabB(xs:N3):List (Key×V):=xs.map λx=>(Sum.inr x,V.bl true)
def j3a(xs:N3):(tabB xs).map (·.1)=xs.map Sum.inr:=by simp[tabB]
theorem Wh:∀{xs:N3} {x:Str},x∈xs->(valV (tabB xs) (Sum.inr x)).isSome=true
 | [],_,h=>nomatch h
 | y::r,x,h=>by
  by_cases e:y=x
  .subst e;rw[show tabB (y::r)=(Sum.inr y,V.bl true)::tabB r from rfl,JF rfl];rfl
  .rw[show tabB (y::r)=(Sum.inr y,V.bl true)::tabB r from rfl,Jz (λz=>e (Sum.inr.inj z))];rcases mem_cons.mp h with z | z
   .exact uh z.symm e
   .exact Wh z
theorem Wg:∀{xs:N3} {x:Str},x∉xs->valV (tabB xs) (Sum.inr x)=none
 | [],_,_=>rfl
 | y::r,x,h=>by
  rw[show tabB (y::r)=(Sum.inr y,V.bl true)::tabB r from rfl,Jz (λz=>h (by rw[Sum.inr.inj z];exact vq))];exact Wg λz=>h (vp _ z)
def j4N{xs:N3}{x:Str}(h:x∉xs):putK (tabB xs) (Sum.inr x) (.bl true)=tabB (xs++[x]):=by
 rw[XI,show tabB (xs++[x])=tabB xs++[(Sum.inr x,V.bl true)] by simp[tabB]];rw[j3a];intro z;let⟨y,a,e⟩:=vM.mp z;exact h (Sum.inr.inj e▸a)
def Cln(y:Str):Prop:=∀c∈y.cps.toList,48<=c
def xV{n:Int}(b:0<=n):Cln (tI n):=by
 let⟨m,rfl⟩:=Int.eq_ofNat_of_zero_le b;have f:(tI (m:Int)).cps.toList=(Nat.toDigits 10 m).map Char.toNat:=PySem.W.KIN.signs_num m;intro c a;rw[f]at a;let⟨d,e,rfl⟩:=vM.mp a;exact(Nm.Wx m d e).1
theorem wR{c:Nat}:∀ys:N3,(Str.join ⟨#[c]⟩ ys).cps.toList=Sp.glue c (ys.map λy=>y.cps.toList)
 | []=>rfl
 | [a]=>rfl
 | a::b::r=>by
  show(a++⟨#[c]⟩++Str.join ⟨#[c]⟩ (b::r)).cps.toList=a.cps.toList++c::Sp.glue c ((b::r).map λy=>y.cps.toList);rw[<-wR (b::r)];show((a.cps++#[c])++(Str.join ⟨#[c]⟩ (b::r)).cps).toList=_;simp
def j2g(ys:N3):(ys.map λy=>y.cps.toList).map (λu=>(⟨u.toArray⟩:Str))=ys:=by
 rw[v6]
 conv=>rhs;rw[<-List.map_id ys]
 exact map_congr_left λy _=>by simp
def no32{y:Str}(h:Cln y):32∉y.cps.toList:=λz=>by
 have:=h 32 z;lia
def PartAt.put{H H':Hp}{a:Addr}{p:Str×Fm}(k:∀b xs,H b=some (.tup xs)->H' b=some (.tup xs))(h:PartAt H a p):PartAt H' a p:=by
 let⟨b,i,d⟩:=h;refine⟨b,k _ _ i,?_⟩;generalize p.2=f at d|-;cases f with
 | row ps=>let⟨c,e,g⟩:=d;exact⟨c,k _ _ e,k _ _ g⟩
 | side ps=>let⟨c,e,g⟩:=d;exact⟨c,k _ _ e,k _ _ g⟩
 | hold n=>exact k _ _ d
 | ring x n=>exact k _ _ d
 | rise x v n=>exact k _ _ d
 | again k' x=>exact k _ _ d
end Rm
namespace L2
open PySem PySem.Spec PyProof.Rows
section
variable{X:Cx}
def ZK:MtR X "str.split" (λx vs H Q=>∃(z:Str) (c:Nat) (ws:List N1),x = .str z/\vs=[.str ⟨#[c]⟩]/\c<256/\ws≠[]/\(∀u∈ws,c∉u)/\z.cps.toList=Sp.glue c ws/\ws.length<=sizeLine/\z.length<=sizeLine/\
  ∀p,H p=none->Q (.ref p) (upd H p (.lst ((ws.map λu=>(⟨u.toArray⟩:Str)).map V.str)))):=by
 intro a s A H x vs j J Q I y n h;let⟨z,c,ws,rfl,rfl,C,f,m,g,E,G,q⟩:=h
 match ws,f with
 | v::w::r,_=>exact j3Z a s A H _ _ j J Q I y n ⟨z,c,v,w,r,rfl,rfl,C,m,g,E,G,q⟩
 | [w],_=>
  let⟨t,rfl⟩:=y;let⟨u,rfl,t',rfl⟩:=vals1 n;have B:(⟨w.toArray⟩:Str)=z:=by
   have i:z.cps.toList=w:=g;rw[<-i]
  have d:EP X a A Q (.ref s.heap.objs.size) {s with heap:=s.heap.push {cls:=.type "list",data:=.seq #[.str z t]}}:=by
   refine⟨.ref s.heap.objs.size,_,I.laid (o:=.lst (([w].map λu=>(⟨u.toArray⟩:Str)).map V.str)) (t':=s.toks) (λb K e=>vL _ e) (vA _) ?_,rfl,q _ (I.hok.fresh (vA _))⟩;exact⟨by show 1<=sizeLine;decide,[.str z t],0,.cons ⟨t,by show Value.str z t=Value.str (⟨w.toArray⟩:Str) t;rw[B]⟩ .nil,Heap.get?_push_size _ rfl⟩
  by_cases l:(decide (z.length<(⟨#[c]⟩:Str).length)||decide (Builtin.Str.strKind z<Builtin.Str.strKind ⟨#[c]⟩))=true
  .exact call_meets F.slot_str_split (typeIs_str _ _ _) F.entry_str_split (F.args_str_split_2 _ _) (meets_str_split_cannot_occur z ⟨#[c]⟩ t t' l) d
  .have D:(Builtin.Str.occurrences z ⟨#[c]⟩ 0 z.length (z.length+1)).isEmpty=true:=by
    rw[Sp.WY,g];show(Sp.pos c 0 w).isEmpty=true;have e:=Sp.KH (r:=[]) (k:=0) (m w vq);rw[append_nil]at e;rw[e];rfl
   exact call_meets F.slot_str_split (typeIs_str _ _ _) F.entry_str_split (F.args_str_split_2 _ _) (meets_str_split_not_found z ⟨#[c]⟩ t t' (Bool.eq_false_iff.mpr l) rfl D) d
end
def NdC(xs:N3)(i m:Nat):Prop:=m<=i/\(m=i↔(xs.take i).Nodup)
def NdC.nil{xs:N3}:NdC xs 0 0:=⟨vA _,λ_=>by simp,λ_=>rfl⟩
def NdC.step{xs:N3}{i m:Nat}{x:Str}(h:NdC xs i m)(g:xs[i]?=some x):NdC xs (i+1) (if decide (x∈xs.take i)=true then m else m+1):=by
 have f:xs.take (i+1)=xs.take i++[x]:=by
  rw[take_succ,g];rfl
 let⟨l,d⟩:=h;unfold NdC;rw[f,nodup_append];by_cases c:x∈xs.take i
 .rw[vc (vI c)];exact⟨⋯,λz=>uh z ⋯,λz=>uh rfl (z.2.2 x c x (vo.mpr rfl))⟩
 .rw[va (by rw[vJ c];decide)];refine⟨⋯,λz=>⟨d.mp ⋯,by simp,λa j b k e=>?_⟩,λz=>by have:=d.mpr z.1;lia⟩;rw[vo.mp k]at e;exact c (e▸j)
section
variable{prog:Program}{w:World}{A:Around}{R:Result->Shared->Prop}{I:Addr}{fp wr:N2}{G:Array GenState->Array GenState->Prop}{n:Nat}{P:Nat->Value->Prop}{St:Nat->Shared->Prop}
def j12(W:WalksS prog w A.in1 I fp wr G n P St)(a:Addr)(O:a∉fp)(xs:N3)(hn:xs.length=n)(hx:∀i v,P i v->∃x t,xs[i]?=some x/\v = .str x t)(g:n+1<scanBound) :
  ∀(k i m:Nat) (s:Shared),n-i=k->i<=n->St i s->NdC xs i m->s.heap.SetOf (strKind prog w) a (λy=>decide (y∈xs.take i)) m->
   (∀s',Moved (a::wr) G s s'->(∃S m,NdC xs n m/\s'.heap.SetOf (strKind prog w) a S m)->R (.ok (.ret .none)) s')->codeAny (model prog w) A (.builtin "set.update.loop" ⟨[.ref a,.ref I],[]⟩) R s:=by
 have M:a∉wr:=λz=>O (W.sub _ z)
 have U:∀c∈wr,c∈a::wr:=λc h=>vp _ h
 intro k
 induction k with
 | zero=>
  intro i m s e le K j B q;obtain rfl:i=n:=⋯
  refine codeAny_builtin F.entry_set_update_loop ?_;rw[Around.under_plainId F.plain_set_update_loop _];refine uj (m:=pyNext (.ref I)) (W.done s _ _ K λs' f=>ui (q s' (f.mono U) ⟨λy=>decide (y∈xs.take i),m,j,?_⟩));let⟨o,p,l,t,r,u⟩:=B;exact⟨o,p,l,t,f.heap a _ M r,u⟩
 | succ k ih=>
  intro i m s e le K j B q;have Q:i<n:=⋯
  refine codeAny_builtin F.entry_set_update_loop ?_;rw[Around.under_plainId F.plain_set_update_loop _];refine uj (m:=pyNext (.ref I)) (W.item i s _ _ Q K λv s' pv L f=>?_);let⟨x,t,N,rfl⟩:=hx i v pv;have C:s'.heap.SetOf (strKind prog w) a (λy=>decide (y∈xs.take i)) m:=by
   let⟨o,p,l,tb,r,u⟩:=B;exact⟨o,p,l,tb,f.heap a _ M r,u⟩
  refine uj (m:=holding [Value.str x t] (setAdd a (.str x t))) (wpAny_holding ?_);unfold setAdd;refine wpAny_holding ?_;refine uj ((strKind prog w).pyHash (k:=x) (strKind_is _ _ _ _) ?_);refine wpAny_setAddHashed_of (knd:=strKind prog w) (s:={s' with toks:=s'.toks+1}) (strKind_is _ _ _ _) rfl C (by have:=j.1;lia) λh' T D=>?_
  have E:h'.SetOf (strKind prog w) a (λy=>decide (y∈xs.take (i+1))) (if decide (x∈xs.take i)=true then m else m+1):=by
   refine SetOf_congr D (λy=>?_) rfl;have Z:xs.take (i+1)=xs.take i++[x]:=by
    rw[take_succ,N];rfl
   rw[Z];by_cases X:y∈xs.take i<;>by_cases Y:y=x<;>simp[X,Y]
  refine ui ⟨plainId_quiet F.plain_set_update_loop _,ih (i+1) _ _ ⋯ Q (W.frame _ s' _ _ L (Nat.le_succ _) λb g o e=>?_) (j.step N) E λJ H d=>?_⟩
  .rw[T.2 b (λz:b=a=>O (by rw[<-z];exact g))];exact e
  .refine q J (Moved.trans W.gtrans ((f.mono U).then_heap (Nat.le_succ _) λb o g e=>?_) H) d;rw[T.2 b (λz:b=a=>g (by rw[z];exact vq))];exact e
end
section
variable{prog:Program}{w:World}{A:Around}{E:Value->Shared->Prop}{s:Shared}
noncomputable abbrev emSD(led:Bool):Obj:={cls:=.type "set",dict:=none,data:=.set #[] 0 (.fresh 0 0 led)}
set_option maxRecDepth 100000 in
set_option maxHeartbeats 3200000 in
def j2o{l:Addr}{items:Array Value}{xs:N3}{Q:Value->Shared->Prop}(hh:A.handled=none)(hl:s.heap.IsList l items)(hn:xs.length=items.size)(hx:∀(i:Nat) (v:Value),items[i]?=some v->∃(x:Str) (t:Tok),xs[i]?=some x/\v = .str x t)(Z:items.size+1<scanBound)
  (h:∀(h':Heap) (tk:Nat),(∃S m,NdC xs items.size m/\h'.SetOf (strKind prog w) s.heap.objs.size S m)->(∀b o,s.heap.get? b=some o->h'.get? b=some o)->Q (.ref s.heap.objs.size) {s with heap:=h',toks:=tk}) :
  wpAny (model prog w) A (call (.type "set") [.ref l]) Q E s:=by
 let⟨c,tl,mr⟩:=F.called_set.mro;have k1:=F.called_set.made;have k2:=F.called_set.sub;refine wpAny_call (codeAny_of_tree ?_);show wpAny _ _ (callAny (.type "set") _) _ _ _;refine ui ⟨Code.quiet_builtin _ (by trivial),codeAny_builtin F.entry_type_call ?_⟩;rw[Around.under_plain (weight_type_call_type "set" [.ref l] []) rfl];have k3:=F.called_set.notType;have k4:=F.called_set.canCreate;have k5:=F.typeCall_set_1 (.ref l)
 repeat (any_goals (first | assumption | wp_step))
 refine codeAny_mono (code_set_new_1 (.ref l) (E:=E) (Q₁:=λp q=>∃a:Bool,p = .ref s.heap.objs.size/\q={s with heap:=s.heap.push (emSD a)}) λa=>⟨a,rfl,rfl⟩) λr s1 D=>?_
 cases r with
 | error e=>exact D
 | ok fl=>
  cases fl with
  | ret p=>
   let⟨a,rfl,rfl⟩:=D;have J:(s.heap.push (emSD a)).get? s.heap.objs.size=some (emSD a):=Heap.get?_push_size _ rfl;have Y:Shared.TypeIs {s with heap:=s.heap.push (emSD a)} (.ref s.heap.objs.size) "set":=⟨_,J,rfl⟩
   have k6:=F.called_set.init.lookup;have k7:=F.called_set.init.bind (.ref s.heap.objs.size)
   repeat (any_goals (first | assumption | wp_step))
   refine codeAny_mono (codeAny_call_builtin (R:=wants (λr u=>r = .none/\∃h' tk,u={s with heap:=h',toks:=tk}/\(∃S m,NdC xs items.size m/\h'.SetOf (strKind prog w) s.heap.objs.size S m)/\(∀b o,s.heap.get? b=some o->h'.get? b=some o)) E) F.called_set.init.plain F.entry_set_init (check_set_init_1 Y ?_)) λr2 s2 d=>?_
   .let⟨ol,k,f,M,g⟩:=hl;let⟨oc,od,a0,H⟩:=ol;simp only at f g;subst f g;have n:(s.heap.push (emSD a)).get? l=some {cls:=.type "list",dict:=od,data:=.seq items M,slots:=H}:=vL _ k;have j1:=F.sub_list_set;have j2:=F.sub_list_frozenset;have j3:(Value.type "list"== Value.type "dict")=false:=by decide
    have j:(s.heap.push (emSD a)).IsList l items:=⟨_,n,rfl,M,rfl⟩
    unfold Builtin.«set.__init__» noKeywords Builtin.Frozenset.updateFrom;generalize B:pyIter=PI
    wp_walk
    subst B;refine wpAny_pyIter_list j ?_;refine uj (wpAny_runValue ?_);have K:l<s.heap.objs.size:=vK k;have X:A.in1.in1.in1.handled=none:=by simp[hh]
    have n1:l≠(s.heap.push (emSD a)).objs.size:=by rw[Heap.size_push];exact vG (Nat.lt_succ_of_lt K)
    have n2:s.heap.objs.size∉[(s.heap.push (emSD a)).objs.size,l]:=by
     rw[Heap.size_push];simp only[mem_cons,not_mem_nil,or_false,not_or];exact⟨vG (Nat.lt_succ_self _),vP K⟩
    refine j12 ((Walks.list X _ l n1 items).toS) s.heap.objs.size n2 xs hn hx Z (items.size-0) 0 0 _ ⋯ (vB _) ⟨⟨_,Heap.get?_push_size _ rfl,rfl,rfl⟩,(j.push _)⟩ NdC.nil ?hS0 ?hR
    case hS0=>
     have hg:((s.heap.push (emSD a)).push {cls:=.type "list_iterator",data:=.fields #[.ref l,.int 0 0]}).get? s.heap.objs.size=some (emSD a):=vL _ J;exact PyProof.Rows.SetOf_congr ((PyProof.Rows.setObjOf_fresh (knd:=strKind prog w) a).setOf hg (by unfold scanBound;lia)) (λy=>by simp) rfl
    case hR=>
     intro s' z C;let⟨h',W,O,I,G⟩:=s';have T:W=s.gens:=z.gens;have P:O=s.drawn:=z.drawn;have U:G=s.os:=z.os;subst T P U;show wpAny _ _ _ _ _ _;refine ui ?_;show wpAny _ _ (ret Value.none) _ _ _;refine ui ⟨rfl,h',I,rfl,C,λb o e=>?_⟩;have L:=vK e;have N:b≠(s.heap.push (emSD a)).objs.size:=by rw[Heap.size_push];exact vG (Nat.lt_succ_of_lt L)
     exact z.heap b o (by simp only[mem_cons,not_mem_nil,or_false,not_or];exact⟨vG L,N⟩) (vL _ (vL _ e))
   .cases r2 with
    | error e=>exact d
    | ok fl2=>
     cases fl2 with
     | ret r=>
      let⟨rfl,h',tk,rfl,q1,q2⟩:=d
      repeat (any_goals (first | assumption | wp_step))
      exact h _ _ q1 q2
     | _=>exact d.elim
  | _=>exact D.elim
end
section
variable{X:Cx}
def tLSD(K:Frg)(te:TE):TE:=λσ H Q=>te σ H λx H1=>∃(a:Addr) (xs:N3),x = .ref a/\SqL K H1 a (xs.map V.str)/\xs.length<=200/\∀m:Nat,NdC xs xs.length m->Q (.int m) H1
def j6V{K:Frg}{b:TE}{c:St}{H:Hp}{Q:VK}(h:b c H λx H1=>∃(a:Addr) (xs:N3),x = .ref a/\SqL K H1 a (xs.map V.str)/\xs.length<=200/\∀m:Nat,NdC xs xs.length m->Q (.int m) H1):tLSD K b c H Q:=h
def j0O{e:Expr}{C:TE}{p w pos b:Pos}(M:X.calm=true)(G:Gl X "len")(m1:X.mg "len"= none)(J:Gl X "set")(m2:X.mg "set"= none)(O:PE X e C)(F:bootBuiltins "len"= some (.builtin "len"):=by trivial)
  (d:starEach [.Call (.Name "set" w) [e] [] b] X.env=[(false,eval (.Call (.Name "set" w) [e] [] b) X.env)]:=by rfl) (z:starEach [e] X.env=[(false,eval e X.env)]:=by rfl) :
  PE X (.Call (.Name "len" p) [.Call (.Name "set" w) [e] [] b] [] pos) (tLSD X.K C):=by
 intro c s D H Q I h;refine wpAny_Call_Name_kw (qb I G m1 F ?_);refine PyProof.Rows.callWith_builtin1 ?_ d rfl;rw[d];refine Calls.spliced_cons ?_;refine Call_ (qb I J m2 j3q (PyProof.Rows.callWith_type1 ?_ z rfl));rw[z];refine Calls.spliced_cons (thn (O c s D H _ I h) λu s1 ⟨x,y,l,r1,a,xs,j,Y,hz,q⟩=>Calls.spliced_nil ?_);subst j;cases r1;let⟨g,B,pl,_⟩:=l.list Y;have k:=B.length;rw[vt]at k;refine j2o (xs:=xs) (l.ok.hd M) pl.isList (by rw[size_toArray];exact k) (λi v A=>?_) (by rw[size_toArray,<-k];unfold scanBound;lia) λK tk ⟨S,m,r,L⟩ R=>?_
 .have hi:i<g.length:=by
   have:=(Array.getElem?_eq_some_iff.mp A).1;simpa using this
  have j:xs[i]?=some (xs[i]'⋯):=vz _;let⟨u,Z,ru⟩:=B.get (i:=i) (x:=V.str (xs[i]'⋯)) (by rw[vv,j];rfl);let⟨t,rfl⟩:=ru;have:v=_:=vN (A.symm.trans (show g.toArray[i]?=some _ by simpa using Z));exact⟨_,t,j,this⟩
 .refine Calls.spliced_nil ?_;let⟨o,es,ep,t,W,n,N,_,_,T,P,f⟩:=L;rw[size_toArray,<-k]at r;have U:=r.1;refine call_len_set W n N P (by rw[f];lia) ?_;have E:Inv X c D y {s1 with heap:=K,toks:=tk}:=l.kept R;rw[f];exact⟨.int m,y,(E.tok _).tok _,⟨_,rfl⟩,q m r⟩
end
def j2W(items:Array Value)(k:Nat):slicePick items (some (k:Int)) none (some 2)=(ev (items.toList.drop k)).toArray:=by
 by_cases d:k<=items.size
 .exact j4i items k d
 have a:items.toList.drop k=[]:=List.drop_eq_nil_of_le (by rw[Array.length_toList];lia);rw[a];unfold slicePick;have b:sliceBounds (some (k:Int)) none (some 2) items.size=((items.size:Int),(items.size:Int),2):=by
  unfold sliceBounds;simp only[Option.getD_some];rw[va (show¬((k:Int)<0) by lia),vc (show(2:Int)>0 by decide),vc (show(2:Int)>0 by decide)];congr 1;lia
 rw[b];show((sliceRange (items.size:Int) (items.size:Int) 2).filterMap (items[·]?)).toArray=_;unfold sliceRange;have c:((if(2:Int)>0 then(if(items.size:Int)<(items.size:Int)then((items.size:Int)-items.size+2-1)/2 else 0)else(if(items.size:Int)>(items.size:Int)then((items.size:Int)-items.size-2-1)/(-2)else 0):Int)).toNat=0:=by
  rw[vc nofun,va ⋯];rfl
 show((List.map _ (List.range (Int.toNat _))).filterMap _).toArray=_;rw[c];rfl
section
variable{X:Cx}{e:Expr}{te:TE}
def tStepA(K:Frg)(te:TE)(tl ts:TO):TE:=λσ H Q=>te σ H λx H1=>tl σ H1 λlo H2=>ts σ H2 λst H3=>st=some 2/\∃(a:Addr) (xs:N6) (k:Nat),lo=some (k:Int)/\x = .ref a/\SqL K H3 a xs/\∀p,H3 p=none->Q (.ref p) (upd H3 p (.lst (ev (xs.drop k))))
def yT{lo st:Expr}{w y:TO}{u pos:Pos}(J:PE X e te)(K:PO X (some lo) w)(L:PO X (some st) y):PE X (.Subscript e (.Slice (some lo) none (some st) u) pos) (tStepA X.K te w y):=by
 intro c s f H Q I h;refine Subscript_ (thn (J c s f H _ I h) λv W z_=>?_);obtain⟨x,A,D,U,S⟩:=z_;refine wpAny_Slice ?_;refine thn (K c W f A _ D S) λn Y z_=>?_;obtain⟨O,B,E,l,T⟩:=z_
 rw[evalPart_none];refine ui ?_;refine thn (L c Y f B _ E T) λm d z_=>?_;obtain⟨so,C,F,R,j,a,z,k,i,G,M,q⟩:=z_
 subst j G i;cases U;have g:Inv X c f C {d with heap:=d.heap.push {cls:=.type "slice",data:=.fields #[n,.none,m]}}:=F.kept (t':=d.toks) λb P q=>vL _ q
 let⟨N,r,t,Z⟩:=g.list M;have p:=r.length;show wpAny (model X.prog X.w) X.A (subscriptTail e (.Slice (some lo) none (some st) u) (.ref a) (.ref d.heap.objs.size)) (EP X c f Q) X.xe {d with heap:=d.heap.push {cls:=.type "slice",data:=.fields #[n,.none,m]}};refine tail_any (ops:=[.ref a,.ref d.heap.objs.size]) t.isList.typeIs slot_list_getitem.lookup ?_ (by with_unfolding_all rfl);refine wpAny_getItem_list_slice t.isList (Heap.IsSliceOf.new ..) l .none R nofun ?_ (by rw[size_toArray]<;>lia);rw[j2W];refine⟨.ref (d.heap.push {cls:=.type "slice",data:=.fields #[n,.none,m]}).objs.size,_,g.laid (t':=d.toks) (o:=.lst (ev (z.drop k))) (λb P q=>vL _ q) (vA _) ?_,rfl,q _ (g.hok.fresh (vA _))⟩;refine⟨?_,_,0,j29 (r.drop k),Heap.get?_push_size _ rfl⟩;have:=WM (z.drop k);rw[length_drop]at this;lia
end
def yY{K:Frg}{d:TE}{e f:TO}{b:St}{H:Hp}{Q:VK}(h:d b H λx H1=>e b H1 λlo H2=>f b H2 λst c=>st=some 2/\∃(a:Addr) (xs:N6) (k:Nat),lo=some (k:Int)/\x = .ref a/\SqL K c a xs/\∀p,c p=none->Q (.ref p) (upd c p (.lst (ev (xs.drop k))))):tStepA K d e f b H Q:=h
end L2
namespace Rm
open PySem PySem.Spec PyProof.Rows L2
noncomputable def wds(c:Nat):N1->List N1
 | []=>[[]]
 | x::r=>if x=c then[]::wds c r else match wds c r with
  | w::ws=>(x::w)::ws
  | []=>[[x]]
def KZ(c:Nat):∀l,wds c l≠[]
 | []=>by simp[wds]
 | x::r=>by
  unfold wds;split
  .simp
  .split<;>simp
theorem j4Z(c:Nat):∀l,Sp.glue c (wds c l)=l/\(∀w∈wds c l,c∉w)/\(wds c l).length<=l.length+1
 | []=>⟨rfl,λw h=>by rw[vo.mp h];simp,vA _⟩
 | x::r=>by
  let⟨a,b,d⟩:=j4Z c r;have g:=KZ c r;by_cases e:x=c
  .have f:wds c (x::r)=[]::wds c r:=by show(if x=c then _ else _)=_;rw[vc e]
   rw[f];refine⟨?_,λw h=>?_,by rw[vR,vR];lia⟩
   .cases q:wds c r with
    | nil=>exact uh q g
    | cons v s=>
     rw[q]at a;show[]++c::Sp.glue c (v::s)=x::r;rw[a,e];rfl
   .rcases mem_cons.mp h with rfl | h
    .simp
    .exact b w h
  .cases q:wds c r with
   | nil=>exact uh q g
   | cons v s=>
    have f:wds c (x::r)=(x::v)::s:=by show(if x=c then _ else _)=_;rw[va e,q]
    rw[f];rw[q]at a b d;refine⟨?_,λw h=>?_,by rw[vR]at d|-;rw[vR];lia⟩
    .rw[<-a];cases s<;>rfl
    .rcases mem_cons.mp h with rfl | h
     .intro z;rcases mem_cons.mp z with z | z
      .exact e z.symm
      .exact b v vq z
     .exact b w (vp _ h)
noncomputable def stS(u:N1):Str:=⟨u.toArray⟩
noncomputable def spW(z:Str):N3:=(wds 32 z.cps.toList).map stS
def X0{c:Nat}:∀{ws:List N1},ws≠[]->(∀w∈ws,c∉w)->wds c (Sp.glue c ws)=ws:=by
 have b:∀(w r:N1),c∉w->wds c (w++r)=(match wds c r with | v::s=>(w++v)::s | []=>[w]):=λw r=>by
  induction w with
  | nil=>
   intro _;cases q:wds c r with
   | nil=>exact uh q (KZ c r)
   | cons v s=>exact q
  | cons x w a=>
   intro h;have f:¬x=c:=λe=>h (by rw[e];exact vq)
   have a:=a λz=>h (vp _ z)
   show(if x=c then[]::wds c (w++r)else match wds c (w++r)with | w::ws=>(x::w)::ws | []=>[[x]])=_;rw[va f,a];cases q:wds c r with
   | nil=>exact uh q (KZ c r)
   | cons v s=>rfl
 intro ws
 induction ws with
 | nil=>intro h;exact uh rfl h
 | cons w r a=>
  intro _ d;cases r with
  | nil=>
   have e:=b w [] (d w vq);rw[append_nil]at e;show wds c w=[w]
   rw[e];show[w++[]]=[w]
   rw[append_nil]
  | cons v s=>
   show wds c (w++c::Sp.glue c (v::s))=_;rw[b w _ (d w vq)];have e:wds c (c::Sp.glue c (v::s))=[]::wds c (Sp.glue c (v::s)):=by show(if c=c then _ else _)=_;rw[vc rfl]
   rw[e,a (by simp) λy g=>d y (vp _ g)];show(w++[])::v::s=_;rw[append_nil]
noncomputable def numW(x:Str)(least:Int):Option Int:=match Ws.numV x 19 with
 | .int n=>if least<=n/\n<=10^18 then some n else none
 | _=>none
noncomputable def oI:Option Int->V
 | some n=>.int n
 | none=>.non
noncomputable def valW(wanted x:Str)(L P:N3):V:=
 if wanted = "height" then oI (numW x 0)else if wanted = "beats"\/wanted = "times" then oI (numW x 1)else if wanted = "word" then(if Ws.isW x=true then .str x else .non)else if wanted = "limb" then(if x∈L then .str x else .non)else if x∈P then .str x else .non
inductive sp_boundedT(vs:N6)(H:Hp)(Q:VK)(xk:XK):Prop
 | mk (x:Str) (least:Int) (_:vs=[.str x,.int least]) (_:x.length<=200) (_:∀H',Same H H'->Q (oI (numW x least)) H'):sp_boundedT vs H Q xk
inductive sp_value_ofT(vs:N6)(H:Hp)(Q:VK)(xk:XK):Prop
 | mk (wanted x:Str) (d1 d2:Addr) (L P:N3) (_:vs=[.str wanted,.str x,.ref d1,.ref d2]) (_:x.length<=200) (_:H d1=some (.dK (numK L))) (_:H d2=some (.dK (tabB P))) (_:(wanted = "height"\/wanted = "beats"\/wanted = "times"\/wanted = "word"\/wanted = "limb"\/wanted = "part")) (_:∀H',Same H H'->Q (valW wanted x L P) H'):sp_value_ofT vs H Q xk
def j5A{L:N3}{x:Str}:(valV (numK L) (Sum.inr x)).isSome=decide (x∈L):=by
 rw[<-Zy];refine Bool.eq_iff_iff.mpr ?_;rw[any_eq_true,decide_eq_true_iff];have c:=YL L;constructor
 .rintro⟨p,b,e⟩;have a:p.1∈(numK L).map (·.1):=vM.mpr ⟨p,b,rfl⟩;rw[c,of_decide_eq_true e]at a;let⟨y,f,d⟩:=vM.mp a;exact Sum.inr.inj d▸f
 .intro h;have a:(Sum.inr x:Key)∈(numK L).map (·.1):=by rw[c];exact vM.mpr ⟨x,h,rfl⟩
  let⟨p,b,e⟩:=vM.mp a;exact⟨p,b,vI e⟩
def xE{P:N3}{x:Str}:(valV (tabB P) (Sum.inr x)).isSome=decide (x∈P):=by
 by_cases h:x∈P
 .rw[Wh h,vI h]
 .rw[Wg h,vJ h];rfl
noncomputable def namsW(kind:Str)(ws P:N3):Option Fm:=
 if kind = "row" then(if(1<=ws.length/\ws.length<=8)/\∀w∈ws,w∈P then some (.row ws)else none)
 else(if(2<=ws.length/\ws.length<=4)/\∀w∈ws,w∈P then some (.side ws)else none)
noncomputable def formW(kind:Str)(ws L P:N3):Option Fm:=
 if kind = "row"\/kind = "side" then namsW kind ws P
 else if kind = "raise" then(match ws with
  | [l,h,b]=>(match numW h 0,numW b 1 with
   | some hh,some n=>if l∈L then some (.rise l hh n)else none
   | _,_=>none)
  | _=>none)
 else if kind = "hold" then(match ws with
  | [b]=>(numW b 1).map Fm.hold
  | _=>none)
 else if kind = "ring" then(match ws with
  | [x,b]=>(match numW b 1 with
   | some n=>if Ws.isW x=true then some (.ring x n)else none
   | none=>none)
  | _=>none)
 else if kind = "again" then(match ws with
  | [k,p]=>(match numW k 1 with
   | some n=>if p∈P then some (.again n p)else none
   | none=>none)
  | _=>none)
 else none
noncomputable def partW(ws L P:N3):Option (Str×Fm):=match ws with
 | k::x::kind::r=>if k = "part"/\Ws.isW x=true/\x∉P then(formW kind r L P).map λf=>(x,f)else none
 | _=>none
def FormR(H:Hp)(Q:VK)(o:Option Fm):Prop:=(o=none->∀H',Same H H'->Q .non H')/\∀f,o=some f->∀(p:Addr) (H':Hp),Same H H'->FormAt H' p f->Q (.ref p) H'
inductive sp_names_formT(vs:N6)(H:Hp)(Q:VK)(xk:XK):Prop
 | mk (kind:Str) (l d:Addr) (ws P:N3) (_:vs=[.str kind,.ref l,.ref d]) (_:(kind = "row"\/kind = "side")) (_:H l=some (.lst (ws.map V.str))) (_:ws.length<=5000) (_:H d=some (.dK (tabB P))) (_:FormR H Q (namsW kind ws P)):sp_names_formT vs H Q xk
inductive sp_form_ofT(vs:N6)(H:Hp)(Q:VK)(xk:XK):Prop
 | mk (kind:Str) (l d1 d2:Addr) (ws L P:N3) (_:vs=[.str kind,.ref l,.ref d1,.ref d2]) (_:H l=some (.lst (ws.map V.str))) (_:ws.length<=5000) (_:(∀w∈ws,w.length<=200)) (_:H d1=some (.dK (numK L))) (_:H d2=some (.dK (tabB P))) (_:FormR H Q (formW kind ws L P)):sp_form_ofT vs H Q xk
inductive sp_part_ofT(vs:N6)(H:Hp)(Q:VK)(xk:XK):Prop
 | mk (l d1 d2:Addr) (ws L P:N3) (_:vs=[.ref l,.ref d1,.ref d2]) (_:H l=some (.lst (ws.map V.str))) (_:ws.length<=5000) (_:(∀w∈ws,w.length<=200)) (_:H d1=some (.dK (numK L))) (_:H d2=some (.dK (tabB P))) (_:(partW ws L P=none->∀H',Same H H'->Q .non H')) (_:∀p,partW ws L P=some p->∀(a:Addr) (H':Hp),Same H H'->PartAt H' a p->Q (.ref a) H'):sp_part_ofT vs H Q xk
noncomputable def prsW:N3->Option L6
 | []=>some []
 | [_]=>none
 | x::h::r=>match numW h 0,prsW r with
  | some n,some ls=>if Ws.isW x=true then some ((x,n)::ls)else none
  | _,_=>none
noncomputable def limbsW:N3->Option L6
 | []=>none
 | k::r=>match prsW r with
  | some ls=>if k = "limbs"/\(1<=ls.length/\ls.length<=8)/\(ls.map (·.1)).Nodup then some ls else none
  | none=>none
inductive sp_limbs_ofT(vs:N6)(H:Hp)(Q:VK)(xk:XK):Prop
 | mk (l:Addr) (ws:N3) (_:vs=[.ref l]) (_:H l=some (.lst (ws.map V.str))) (_:ws≠[]) (_:ws.length<=5000) (_:(∀w∈ws,w.length<=200)) (_:(limbsW ws=none->∀H',Same H H'->Q .non H')) (_:∀ls,limbsW ws=some ls->∀(c:Addr) (as:N2) (H':Hp),Same H H'->H c=none->H' c=some (.lst (as.map V.ref))->All2 (LimbAt H') as ls->Q (.ref c) H'):sp_limbs_ofT vs H Q xk
def RowOk(r:Str):Prop:=(∀w∈spW r,w.length<=200)/\r.length<=4000/\10∉r.cps.toList
structure RowsOk(rows:N3):Prop where
 n1:1<=rows.length
 n2:rows.length<=1000
 r:∀r∈rows,RowOk r
def PartsAt(rows:N3)(ls:L6)(ps:N5):Prop:=ps.length<=60/\∀(i:Nat) (p:Str×Fm),ps[i]?=some p->partW (spW (rows.getD (i+1) ⟨#[]⟩)) (nmsOf ls) (nmsOf (ps.take i))=some p
structure RdT(rows:N3)(ls:L6)(ps:N5):Prop where
 l:limbsW (spW (rows.getD 0 ⟨#[]⟩))=some ls
 n:2<=rows.length
 pl:ps.length+1=rows.length
 p:PartsAt rows ls ps
inductive sp_readT(vs:N6)(H:Hp)(Q:VK)(xk:XK):Prop
 | mk (rows:N3) (ls:L6) (ps:N5) (_:vs=[.str (Txt.join "\n" rows)]) (_:RowsOk rows) (_:RdT rows ls ps) (_:∀(b pl pp:Addr) (las pas:N2) (H':Hp),Same H H'->H pl=none->H pp=none->pl≠pp->BookAt H' b pl pp las pas ls ps->Q (.ref b) H'):sp_readT vs H Q xk
open PyProof.Rows.KTD (inKeys Dat datumAt)
def j2L{kind:Str}{ws P:N3}(h:kind = "row"\/kind = "side"):∃lo hi:Int,KTD.datumAt kind [(("row" : Str),KTD.Dat.flat (.int 1)),("side",.flat (.int 2))]=some (.flat (.int lo))/\KTD.datumAt kind [(("row" : Str),KTD.Dat.flat (.int 8)),("side",.flat (.int 4))]=some (.flat (.int hi))/\
  namsW kind ws P=if(lo<=(ws.length:Int)/\(ws.length:Int)<=hi)/\∀w∈ws,w∈P then some (if kind = "row" then .row ws else .side ws)else none:=by
 have r:decide (("row" : Str) = "row")=true:=by trivial
 have a:decide (("side" : Str) = "row")=false:=by trivial
 have b:decide (("side" : Str) = "side")=true:=by trivial
 have n:¬("side" : Str) = "row":=of_decide_eq_false a;unfold namsW;rcases h with rfl | rfl
 .refine⟨1,8,by rw[KTD.datumAt,vc r],by rw[KTD.datumAt,vc r],?_⟩;rw[vc rfl,vc rfl];by_cases c:(1<=ws.length/\ws.length<=8)/\∀w∈ws,w∈P
  .rw[vc c,vc ⟨⟨by have:=c.1.1;lia,by have:=c.1.2;lia⟩,c.2⟩]
  .rw[va c,va λz=>c ⟨⟨by have:=z.1.1;lia,by have:=z.1.2;lia⟩,z.2⟩]
 .refine⟨2,4,by rw[KTD.datumAt,va (by rw[a];decide),KTD.datumAt,vc b],by rw[KTD.datumAt,va (by rw[a];decide),KTD.datumAt,vc b],?_⟩;rw[va n,va n];by_cases c:(2<=ws.length/\ws.length<=4)/\∀w∈ws,w∈P
  .rw[vc c,vc ⟨⟨by have:=c.1.1;lia,by have:=c.1.2;lia⟩,c.2⟩]
  .rw[va c,va λz=>c ⟨⟨by have:=z.1.1;lia,by have:=z.1.2;lia⟩,z.2⟩]
structure OneT(kind:Str)(wants:N3)(ws L P:N3):Prop where
 k:inKeys kind FT=true
 d:datumAt kind FT=some (.tup (wants.map PyData.str))
 n:1<=wants.length/\wants.length<=3
 w:∀x∈wants,x = "height"\/x = "beats"\/x = "times"\/x = "word"\/x = "limb"\/x = "part"
 o:ws.length≠wants.length->formW kind ws L P=none
 v:ws.length=wants.length->(inV .non ((wants.zip ws).map λp=>valW p.1 p.2 L P)=true->formW kind ws L P=none)/\
  (inV .non ((wants.zip ws).map λp=>valW p.1 p.2 L P)=false->∃f,formW kind ws L P=some f/\∀(H:Hp) (p:Addr),H p=some (.tup (.str kind::(wants.zip ws).map λp=>valW p.1 p.2 L P))->FormAt H p f)
def j7d{x:Str}{L P:N3}:valW "height" x L P=oI (numW x 0):=vc rfl
def j4T{x:Str}{L P:N3}:valW "beats" x L P=oI (numW x 1):=by
 unfold valW;rw[va (by trivial),vc (.inl rfl)]
def j7g{x:Str}{L P:N3}:valW "times" x L P=oI (numW x 1):=by
 unfold valW;rw[va (by trivial),vc (.inr rfl)]
def j7h{x:Str}{L P:N3}:valW "word" x L P=if Ws.isW x=true then .str x else .non:=by
 unfold valW;rw[va (by trivial),va (by trivial),vc rfl]
def j7e{x:Str}{L P:N3}:valW "limb" x L P=if x∈L then .str x else .non:=by
 unfold valW;rw[va (by trivial),va (by trivial),va (by trivial),vc rfl]
def j7f{x:Str}{L P:N3}:valW "part" x L P=if x∈P then .str x else .non:=by
 unfold valW;rw[va (by trivial),va (by trivial),va (by trivial),va (by trivial)]
def j2w{kind:Str}{ws L P:N3}(h:¬(kind = "row"\/kind = "side")):inKeys kind MN=false/\((inKeys kind FT=false/\formW kind ws L P=none)\/∃i,OneT kind i ws L P):=by
 have s:kind≠"row":=λe=>h (.inl e)
 have t:kind≠"side":=λe=>h (.inr e)
 refine⟨by unfold MN;simp[inKeys,s,t],?_⟩;by_cases j:kind = "raise"
 .subst j;have d:formW "raise" ws L P=(match ws with
   | [l,h,b]=>(match numW h 0,numW b 1 with
    | some hh,some n=>if l∈L then some (.rise l hh n)else none
    | _,_=>none)
   | _=>none):=by
   unfold formW;rw[va h,vc rfl]
   try rfl
  refine .inr ⟨[("limb" : Str),"height","beats"],by trivial,WJ (by trivial),by decide,?_,λa=>?_,λa=>?_⟩
  .intro x g;simp only[mem_cons,not_mem_nil,or_false]at g;rcases g with rfl | rfl | rfl<;>simp
  .rw[d]
   match ws,a with
   | [],_=>rfl
   | [_],_=>rfl
   | [_,_],_=>rfl
   | [_,_,_],a=>exact uh rfl a
   | _::_::_::_::_,_=>rfl
  .match ws,a,d with
   | [l,h,b],_,d=>
    show(inV .non [valW "limb" l L P,valW "height" h L P,valW "beats" b L P]=true->_)/\(inV .non [valW "limb" l L P,valW "height" h L P,valW "beats" b L P]=false->∃f,_/\∀(H:Hp) (p:Addr),H p=some (.tup [.str "raise",valW "limb" l L P,valW "height" h L P,valW "beats" b L P])->_);rw[d,j7e,j7d,j4T];dsimp only;cases numW h 0 with
    | none=>exact⟨λ_=>rfl,λz=>by by_cases c:l∈L<;>simp[c,oI,inV,eqV]at z⟩
    | some hh=>
     cases numW b 1 with
     | none=>exact⟨λ_=>rfl,λz=>by by_cases c:l∈L<;>simp[c,oI,inV,eqV]at z⟩
     | some n=>
      dsimp only;by_cases c:l∈L
      .rw[vc c,vc c];exact⟨λz=>by simp[oI,inV,eqV]at z,λ_=>⟨_,rfl,λH p q=>q⟩⟩
      .rw[va c,va c];exact⟨λ_=>rfl,λz=>by simp[oI,inV,eqV]at z⟩
 by_cases m:kind = "hold"
 .subst m;have d:formW "hold" ws L P=(match ws with
   | [b]=>(numW b 1).map Fm.hold
   | _=>none):=by
   unfold formW;rw[va h,va j,vc rfl]
   try rfl
  refine .inr ⟨[("beats" : Str)],by trivial,(YB (by trivial)).trans (WJ (by trivial)),by decide,?_,λa=>?_,λa=>?_⟩
  .intro x g;rw[vo.mp g];simp
  .rw[d]
   match ws,a with
   | [],_=>rfl
   | [_],a=>exact uh rfl a
   | _::_::_,_=>rfl
  .match ws,a,d with
   | [b],_,d=>
    show(inV .non [valW "beats" b L P]=true->_)/\(inV .non [valW "beats" b L P]=false->∃f,_/\∀(H:Hp) (p:Addr),H p=some (.tup [.str "hold",valW "beats" b L P])->_);rw[d,j4T];dsimp only;cases numW b 1 with
    | none=>exact⟨λ_=>rfl,λz=>by simp[oI,inV,eqV]at z⟩
    | some n=>exact⟨λz=>by simp[oI,inV,eqV]at z,λ_=>⟨_,rfl,λH p q=>q⟩⟩
 by_cases o:kind = "ring"
 .subst o;have d:formW "ring" ws L P=(match ws with
   | [x,b]=>(match numW b 1 with
    | some n=>if Ws.isW x=true then some (.ring x n)else none
    | none=>none)
   | _=>none):=by
   unfold formW;rw[va h,va j,va m,vc rfl]
   try rfl
  refine .inr ⟨[("word" : Str),"beats"],by trivial,(YB (by trivial)).trans ((YB (by trivial)).trans (WJ (by trivial))),by decide,?_,λa=>?_,λa=>?_⟩
  .intro x g;simp only[mem_cons,not_mem_nil,or_false]at g;rcases g with rfl | rfl<;>simp
  .rw[d]
   match ws,a with
   | [],_=>rfl
   | [_],_=>rfl
   | [_,_],a=>exact uh rfl a
   | _::_::_::_,_=>rfl
  .match ws,a,d with
   | [x,b],_,d=>
    show(inV .non [valW "word" x L P,valW "beats" b L P]=true->_)/\(inV .non [valW "word" x L P,valW "beats" b L P]=false->∃f,_/\∀(H:Hp) (p:Addr),H p=some (.tup [.str "ring",valW "word" x L P,valW "beats" b L P])->_);rw[d,j7h,j4T];dsimp only;cases numW b 1 with
    | none=>exact⟨λ_=>rfl,λz=>by by_cases c:Ws.isW x=true<;>simp[c,oI,inV,eqV]at z⟩
    | some n=>
     dsimp only;by_cases c:Ws.isW x=true
     .rw[vc c,vc c];exact⟨λz=>by simp[oI,inV,eqV]at z,λ_=>⟨_,rfl,λH p q=>q⟩⟩
     .rw[va c,va c];exact⟨λ_=>rfl,λz=>by simp[oI,inV,eqV]at z⟩
 by_cases r:kind = "again"
 .subst r;have d:formW "again" ws L P=(match ws with
   | [k,p]=>(match numW k 1 with
    | some n=>if p∈P then some (.again n p)else none
    | none=>none)
   | _=>none):=by
   unfold formW;rw[va h,va j,va m,va o,vc rfl]
   try rfl
  refine .inr ⟨[("times" : Str),"part"],by trivial,(YB (by trivial)).trans ((YB (by trivial)).trans ((YB (by trivial)).trans (WJ (by trivial)))),by decide,?_,λa=>?_,λa=>?_⟩
  .intro x g;simp only[mem_cons,not_mem_nil,or_false]at g;rcases g with rfl | rfl<;>simp
  .rw[d]
   match ws,a with
   | [],_=>rfl
   | [_],_=>rfl
   | [_,_],a=>exact uh rfl a
   | _::_::_::_,_=>rfl
  .match ws,a,d with
   | [k,q],_,d=>
    show(inV .non [valW "times" k L P,valW "part" q L P]=true->_)/\(inV .non [valW "times" k L P,valW "part" q L P]=false->∃f,_/\∀(H:Hp) (p:Addr),H p=some (.tup [.str "again",valW "times" k L P,valW "part" q L P])->_);rw[d,j7g,j7f];dsimp only;cases numW k 1 with
    | none=>exact⟨λ_=>rfl,λz=>by by_cases c:q∈P<;>simp[c,oI,inV,eqV]at z⟩
    | some n=>
     dsimp only;by_cases c:q∈P
     .rw[vc c,vc c];exact⟨λz=>by simp[oI,inV,eqV]at z,λ_=>⟨_,rfl,λH p q=>q⟩⟩
     .rw[va c,va c];exact⟨λ_=>rfl,λz=>by simp[oI,inV,eqV]at z⟩
 refine .inl ⟨by unfold FT;simp[inKeys,j,m,o,r],?_⟩;unfold formW;rw[va h,va j,va m,va o,va r]
def WX:∀o,flatV (oI o)=true
 | some _=>rfl
 | none=>rfl
def j4U{a x:Str}{L P:N3}:flatV (valW a x L P)=true:=by
 unfold valW;split
 .exact WX _
 split
 .exact WX _
 split
 .split<;>rfl
 split
 .split<;>rfl
 .split<;>rfl
def j0L{ws L P:N3}(h:ws.length<3):partW ws L P=none:=by
 match ws,h with
 | [],_=>rfl
 | [_],_=>rfl
 | [_,_],_=>rfl
def three{ws:N3}(h:3<=ws.length):∃k x kind r,ws=k::x::kind::r:=by
 match ws,h with
 | k::x::kind::r,_=>exact⟨k,x,kind,r,rfl⟩
theorem j0l{c d:Type}(f:c->d):∀l:List c,ev (l.map f)=(ev l).map f
 | []=>rfl
 | [_]=>rfl
 | a::b::r=>by
  rw[v9,v9,zy,zy,v9];show f a::ev (r.map f)=f a::(ev r).map f;rw[j0l f r]
theorem j0m{c:Type}{x:c}:∀{l:List c},x∈ev l->x∈l
 | [],h=>h
 | [_],h=>h
 | a::b::r,h=>by
  rw[zy]at h;rcases mem_cons.mp h with rfl | h
  .exact vq
  .exact vp _ (vp _ (j0m h))
theorem xm:∀r:N3,(prsW r=none/\¬((ev (r.drop 1)).length=(ev r).length/\(∀h∈ev (r.drop 1),numW h 0≠none)/\∀x∈ev r,Ws.isW x=true))\/
  ∃ls,prsW r=some ls/\ls.map (·.1)=ev r/\(ev (r.drop 1)).map (λh=>numW h 0)=ls.map (λp=>some p.2)/\∀x∈ev r,Ws.isW x=true
 | []=>.inr ⟨[],rfl,rfl,rfl,λ_ h=>nomatch h⟩
 | [x]=>.inl ⟨rfl,λz=>by have:=z.1;simp[ev]at this⟩
 | x::h::r=>by
  have e:ev (x::h::r)=x::ev r:=zy _ _;have f:ev ((x::h::r).drop 1)=h::ev (r.drop 1):=zy _ _;rw[e,f];cases en:numW h 0 with
  | none=>exact .inl ⟨by simp[prsW,en],λz=>z.2.1 h vq en⟩
  | some n=>
   by_cases b:Ws.isW x=true
   .rcases xm r with⟨c,d⟩ | ⟨ls,c,d,g,i⟩
    .refine .inl ⟨by simp[prsW,en,c],λz=>d ⟨?_,λy a=>z.2.1 y (vp _ a),λy a=>z.2.2 y (vp _ a)⟩⟩;have:=z.1;rw[vR,vR]at this;lia
    .refine .inr ⟨(x,n)::ls,by simp[prsW,en,c,b],by rw[v9,d],by rw[v9,v9,en,g],λy a=>?_⟩;rcases mem_cons.mp a with rfl | a
     .exact b
     .exact i y a
   .refine .inl ⟨?_,λz=>b (z.2.2 x vq)⟩;have:Ws.isW x=false:=by simpa using b
    cases ep:prsW r<;>simp[prsW,en,this,ep]
def j0s{k:Str}{r:N3}(h:¬((ev (r.drop 1)).length=(ev r).length/\(∀h∈ev (r.drop 1),numW h 0≠none)/\∀x∈ev r,Ws.isW x=true)):limbsW (k::r)=none:=by
 rcases xm r with⟨d,_⟩ | ⟨j,_,g,a,i⟩
 .simp[limbsW,d]
 .refine uh ⟨?_,λy c e=>?_,i⟩ h
  .have:=congrArg List.length a;rw[vt,vt]at this;rw[<-g,vt];exact this
  .have:=(vM (f:=λh=>numW h 0)).mpr ⟨y,c,e⟩;rw[a]at this;let⟨q,_,b⟩:=vM.mp this;cases b
def j2F{k:Str}{r:N3}(h:¬(k = "limbs"/\(1<=(ev r).length/\(ev r).length<=8)/\(ev r).Nodup)):limbsW (k::r)=none:=by
 rcases xm r with⟨b,_⟩ | ⟨a,b,c,_⟩
 .simp[limbsW,b]
 .have:limbsW (k::r)=if k = "limbs"/\(1<=a.length/\a.length<=8)/\(a.map (·.1)).Nodup then some a else none:=by
   show(match prsW r with | some a=>_ | none=>none)=_;rw[b]
  rw[this,va];rw[c,<-vt (f:=(·.1)) (as:=a),c];exact h
def j0t{k:Str}{r:N3}(h:k = "limbs"/\(1<=(ev r).length/\(ev r).length<=8)/\(ev r).Nodup)(h':(ev (r.drop 1)).length=(ev r).length/\(∀h∈ev (r.drop 1),numW h 0≠none)/\∀x∈ev r,Ws.isW x=true) :
  ∃ls,limbsW (k::r)=some ls/\ls.map (·.1)=ev r/\(ev (r.drop 1)).map (λh=>numW h 0)=ls.map (λp=>some p.2):=by
 rcases xm r with⟨_,a⟩ | ⟨ls,a,b,c,_⟩
 .exact uh h' a
 .refine⟨ls,?_,b,c⟩;have:limbsW (k::r)=if k = "limbs"/\(1<=ls.length/\ls.length<=8)/\(ls.map (·.1)).Nodup then some ls else none:=by
   show(match prsW r with | some ls=>_ | none=>none)=_;rw[a]
  rw[this,vc];rw[b,<-vt (f:=(·.1)) (as:=ls),b];exact h
def j78{a:N3}(h:inV .non (a.map λh=>oI (numW h 0))=true):¬∀y∈a,numW y 0≠none:=λz=>by
 let⟨v,b,e⟩:=any_eq_true.mp h;let⟨y,c,rfl⟩:=vM.mp b;cases en:numW y 0 with
 | none=>exact z y c en
 | some n=>rw[en]at e;cases e
def j6E{a:N3}(h:inV .non (a.map λh=>oI (numW h 0))=false):∀y∈a,numW y 0≠none:=λy b e=>by
 have:=any_eq_false.mp h (oI (numW y 0)) (vM.mpr ⟨y,b,rfl⟩);rw[e]at this;exact this rfl
def Wb(h:RowOk r):wds 32 r.cps.toList≠[]/\(∀u∈wds 32 r.cps.toList,32∉u)/\r.cps.toList=Sp.glue 32 (wds 32 r.cps.toList)/\(wds 32 r.cps.toList).length<=sizeLine/\r.length<=sizeLine/\(spW r).length<=5000/\spW r≠[]:=by
 let⟨a,b,c⟩:=j4Z 32 r.cps.toList;have f:(20000:Nat)<sizeLine:=by decide
 have l:=h.2.1;have e:r.cps.toList.length=r.length:=rfl;have d:=KZ 32 r.cps.toList;refine⟨d,b,a.symm,⋯,⋯,by unfold spW;rw[vt];lia,λz=>d (by unfold spW at z;exact List.map_eq_nil_iff.mp z)⟩
def j0V{b:N3}(h:RowsOk b):(b.map λy=>y.cps.toList)≠[]/\(∀u∈b.map (λy=>y.cps.toList),10∉u)/\(Txt.join "\n" b).cps.toList=Sp.glue 10 (b.map λy=>y.cps.toList)/\(b.map λy=>y.cps.toList).length<=sizeLine/\(Txt.join "\n" b).length<=sizeLine/\((b.map λy=>y.cps.toList).map λu=>(⟨u.toArray⟩:Str))=b:=by
 have d:(Str.ofString "\n")=⟨#[10]⟩:=by trivial
 have n:(5000000:Nat)<sizeLine:=by decide
 have f:=h.n1;have m:=h.n2;refine⟨λz=>?_,λu i=>?_,?_,by rw[vt];lia,?_,?_⟩
 .rw[List.map_eq_nil_iff]at z;rw[z]at f;simp at f
 .let⟨r,c,rfl⟩:=vM.mp i;exact(h.r r c).2.2
 .rw[WP,d];exact wR b
 .rw[WP];refine vX (Xh _ _) ?_;have g:(Str.ofString "\n").length=1:=by trivial
  rw[g];have:∀l:N3,(∀r∈l,r.length<=4000)->(l.map (·.length)).sum<=l.length*4000:=λl=>by
   induction l with
   | nil=>intro _;simp
   | cons a l ih=>
    intro e;have j:=ih λr c=>e r (vp _ c)
    have k:=e a vq;rw[v9,uz,vR];lia
  have:=this b λr c=>(h.r r c).2.1
  lia
 .rw[v6];exact(map_congr_left λy _=>rfl).trans (List.map_id _)
def j3M{ws:N3}{ls:L6}(h:limbsW ws=some ls):(1<=ls.length/\ls.length<=8)/\(ls.map (·.1)).Nodup:=by
 cases ws with
 | nil=>cases h
 | cons k r=>
  unfold limbsW at h;dsimp only at h;cases e:prsW r with
  | none=>rw[e]at h;cases h
  | some ls'=>
   rw[e]at h;dsimp only at h;split at h
   .rename_i c;cases h;exact c.2
   .cases h
def j0K{ws L P:N3}{p:Str×Fm}(h:partW ws L P=some p):p.1∉P:=by
 match ws,h with
 | k::x::kind::r,h=>
  have e:partW (k::x::kind::r) L P=if k = "part"/\Ws.isW x=true/\x∉P then(formW kind r L P).map λf=>(x,f)else none:=rfl
  rw[e]at h;split at h
  .rename_i c;let⟨f,_,rfl⟩:=vf.mp h;exact c.2.2
  .cases h
def j6W{a:N3}{i:Nat}{v:V}(h:((a.drop 1).map V.str)[i]?=some v):∃r,v = .str r/\a.getD (i+1) ⟨#[]⟩=r/\r∈a/\i+1<a.length:=by
 rw[vv,List.getElem?_drop]at h;let⟨r,b,rfl⟩:=vf.mp h;rw[Nat.add_comm]at b;exact⟨r,rfl,by rw[vy,b];rfl,vj b,(vx.mp b).1⟩
def j4v{a:N3}(h:1<=a.length):cutV (a.map V.str) (some 1) none=(a.drop 1).map V.str:=by
 cases a with
 | nil=>simp at h
 | cons r rs=>exact xZ
def j7c{a:N3}(h:1<=a.length):(a.map V.str)[0]?=some (.str (a.getD 0 ⟨#[]⟩))/\a.getD 0 ⟨#[]⟩∈a:=by
 cases a with
 | nil=>simp at h
 | cons r rs=>exact⟨rfl,vq⟩
open PySem PySem.Spec PySem.NumText PyProof.Rows L2
theorem kQ(c:Nat):∀(l m:N1),wds c (l++c::m)=wds c l++wds c m
 | [],m=>by
  show(if c=c then _ else _)=_;rw[vc rfl];rfl
 | x::l,m=>by
  have d:=kQ c l m;by_cases e:x=c
  .have a:wds c (x::(l++c::m))=[]::wds c (l++c::m):=by show(if x=c then _ else _)=_;rw[vc e]
   have b:wds c (x::l)=[]::wds c l:=by show(if x=c then _ else _)=_;rw[vc e]
   show wds c (x::(l++c::m))=_;rw[a,b,d];rfl
  .cases q:wds c l with
   | nil=>exact uh q (KZ c l)
   | cons v s=>
    have a:wds c (x::(l++c::m))=(x::v)::(s++wds c m):=by
     show(if x=c then _ else _)=_;rw[va e,d,q];rfl
    have b:wds c (x::l)=(x::v)::s:=by show(if x=c then _ else _)=_;rw[va e,q]
    show wds c (x::(l++c::m))=_;rw[a,b];rfl
def xG{c:Nat}{l:N1}(h:c∉l):wds c l=[l]:=by
 have:=X0 (c:=c) (ws:=[l]) (by simp) (λw a=>by rw[vo.mp a];exact h);exact this
def j5h{ws L P:N3}:formW "hold" ws L P=(match ws with
  | [b]=>(numW b 1).map Fm.hold
  | _=>none):=by
 unfold formW;rw[va (by trivial),va (by trivial),vc rfl]<;>rfl
def j5i{ws L P:N3}:formW "ring" ws L P=(match ws with
  | [x,b]=>(match numW b 1 with
   | some n=>if Ws.isW x=true then some (.ring x n)else none
   | none=>none)
  | _=>none):=by
 unfold formW;rw[va (by trivial),va (by trivial),va (by trivial),vc rfl]<;>rfl
def j3C{ws L P:N3}:formW "again" ws L P=(match ws with
  | [k,p]=>(match numW k 1 with
   | some n=>if p∈P then some (.again n p)else none
   | none=>none)
  | _=>none):=by
 unfold formW;rw[va (by trivial),va (by trivial),va (by trivial),va (by trivial),vc rfl]<;>rfl
def j6s{ws L P:N3}:formW "row" ws L P=if(1<=ws.length/\ws.length<=8)/\∀w∈ws,w∈P then some (.row ws)else none:=by
 unfold formW namsW;rw[vc (.inl rfl),vc rfl]
def j1P{k x kind:Str}{r L P:N3}:partW (k::x::kind::r) L P=if k = "part"/\Ws.isW x=true/\x∉P then(formW kind r L P).map λf=>(x,f)else none:=rfl
def qF{a:N3}{ls:L6}{ps:N5}{p:Str×Fm}(g:PartsAt a ls ps)(l:ps.length+1<=60)(e:partW (spW (a.getD (ps.length+1) ⟨#[]⟩)) (nmsOf ls) (nmsOf ps)=some p):PartsAt a ls (ps++[p]):=by
 refine⟨by rw[vm];exact l,λi q b=>?_⟩;by_cases f:i<ps.length
 .rw[vD f]at b;rw[List.take_append_of_le_length ⋯];exact g.2 i q b
 .have c:=(vx.mp b).1;rw[vm]at c;have d:i=ps.length:=by have:i<ps.length+1:=c;lia
  subst d;rw[vE (vA _),Nat.sub_self]at b;cases b;rw[List.take_append_of_le_length (vA _),v5];exact e
end Rm
namespace L2
open PySem PySem.Spec PySem.W PyProof.Rows
section
variable{prog:Program}{w:World}{A:Around}{E:Value->Shared->Prop}{s:Shared}{bb:Bool}
def SqB(b:Bool)(h:Heap)(a:Addr)(xs:Array Value):Prop:=∃o,h.get? a=some o/\o.cls = .type (cond b "tuple" "list")/\∃n,o.data = .seq xs n
def ItB(b:Bool)(h:Heap)(a l:Addr)(i:Nat):Prop:=∃o,h.get? a=some o/\o.cls = .type (cond b "tuple_iterator" "list_iterator")/\o.data = .fields #[.ref l,.int i 0]
def SqB.extBut{h h':Heap}{a b:Addr}{xs:Array Value}:SqB bb h a xs->Heap.ExtBut b h h'->a≠b->SqB bb h' a xs:=λ⟨o,d,r⟩ e c=>⟨o,e a o c d,r⟩
def SqB.push{h:Heap}{a:Addr}{xs:Array Value}:SqB bb h a xs->∀o,SqB bb (h.push o) a xs:=λ⟨c,b,r⟩ o=>⟨c,vL o b,r⟩
def ItB.extBut{h h':Heap}{a b t:Addr}{i:Nat}:ItB bb h a t i->Heap.ExtBut b h h'->a≠b->ItB bb h' a t i:=λ⟨o,d,r⟩ e c=>⟨o,e a o c d,r⟩
def ItB.as{h h':Heap}{a t:Addr}{i:Nat}:ItB bb h a t i->(∀o,h.get? a=some o->h'.get? a=some o)->ItB bb h' a t i:=λ⟨o,b,r⟩ e=>⟨o,e _ b,r⟩
def j0C{it t:Addr}{i:Nat}{xs:Array Value}{x:Value}{Q:Value->Shared->Prop}(a:ItB bb s.heap it t i)(c:SqB bb s.heap t xs)(d:xs[i]?=some x)
  (b:∀h',ItB bb h' it t (i+1)->Heap.SameBut it s.heap h'->Q x {s with heap:=h'}):wpAny (model prog w) A (Builtin.SmallTypes.nextOf (.ref it)) Q E s:=by
 cases bb
 .exact wpAny_nextOf_list_item a c d b
 .exact Ky a c d b
def wV{it t:Addr}{i:Nat}{xs:Array Value}{Q:Value->Shared->Prop}(c:A.handled=none)(a:ItB bb s.heap it t i)(d:SqB bb s.heap t xs)(f:xs[i]?=none)
  (b:∀h' e,Heap.ExtBut it s.heap h'->(∃o,h'.get? e=some o/\o.cls = .type "StopIteration")->E (.ref e) {s with heap:=h'}):wpAny (model prog w) A (Builtin.SmallTypes.nextOf (.ref it)) Q E s:=by
 cases bb
 .exact wpAny_nextOf_list_end c a d f b
 .exact wW c a d f b
def j77{it t:Addr}{i:Nat}{xs:Array Value}{x:Value}(b:t≠it)(a:xs[i]?=some x):Nxt prog w it [it,t] (λh=>ItB bb h it t i/\SqB bb h t xs) (λh=>ItB bb h it t (i+1)/\SqB bb h t xs) x:=by
 cases bb
 .exact kI b a
 .exact j1I b a
def j2q{t l:Addr}{xs ys:Array Value}{Q:Value->Shared->Prop}(q1:SqB bb s.heap t xs)(q2:s.heap.IsList l ys)
  (h:∀h',IsZip h' (s.heap.objs.size+4) (s.heap.objs.size+2) (s.heap.objs.size+3) .none->IsPair h' (s.heap.objs.size+2) (.ref s.heap.objs.size) (.ref (s.heap.objs.size+1))->IsPair h' (s.heap.objs.size+3) .none .none->
   ItB bb h' s.heap.objs.size t 0->h'.IsListIter (s.heap.objs.size+1) l 0->(∀c o,s.heap.get? c=some o->h'.get? c=some o)->Q (.ref (s.heap.objs.size+4)) {s with heap:=h'}):wpAny (model prog w) A (call (.type "zip") [.ref t,.ref l]) Q E s:=by
 cases bb
 .exact call_zip_2 q1 q2 λh' a b d e f _ g=>h h' a b d e f g
 .exact wI q1 q2 h
def zaB{z TI TO a b c d:Addr}(D:ZipApart z TI TO a b c d):ZA z TI TO a b [a,c] [b,d]:=
 ⟨D.TIz,D.TOz,D.i1z,D.i2z,D.TITO,D.TIi1,D.TIi2,D.TOi1,D.TOi2,by simp[D.i1z.symm,D.l1z.symm],by simp[D.TOi1,D.l1TO.symm],by simp[D.i12.symm,D.l1i2.symm],by simp[D.i2z.symm,D.l2z.symm],by simp[D.TOi2,D.l2TO.symm],by simp[D.i12,D.l2i1.symm]⟩
def kA{z TI TO T m n q r:Addr}{f:Bool}{Y:Obj}{I J:Nat}{xs ys:Array Value}{x y:Value}{Q:Value->Shared->Prop}(D:ZipApart z TI TO m n q r)
  (hz:IsZipK s.heap z TI TO T f) (p:s.heap.get? T=some Y) (F:IsPair s.heap TI (.ref m) (.ref n))
  (O:ItB bb s.heap m q I) (P:s.heap.IsListIter n r J) (G:SqB bb s.heap q xs) (H:s.heap.IsList r ys) (W:xs[I]?=some x) (X:ys[J]?=some y)
  (R:∀h',IsZipK h' z TI TO T true->ItB bb h' m q (I+1)->h'.IsListIter n r (J+1)->IsPair h' s.heap.objs.size x y->h'.objs.size=s.heap.objs.size+1->
   (∀c o,c≠z->c≠m->c≠n->s.heap.get? c=some o->h'.get? c=some o)->Q (.ref s.heap.objs.size) {s with heap:=h'}) :
  wpAny (model prog w) A (Builtin.«zip.__next__» ⟨[.ref z],[]⟩) (λC s'=>∃v,C=Fin.done (.ret v)/\Q v s') E s:=by
 show wpAny _ _ (field (.ref z) 2 >>= _) _ _ _;refine uj (wpAny_field hz rfl (x:=.bool false) rfl ?_);show wpAny _ _ (field (.ref z) 3 >>= _) _ _ _;refine uj (wpAny_field hz rfl (x:=.ref TI) rfl ?_);refine uj (wpAny_seqItems F rfl ?_);show wpAny _ _ (Builtin.SmallTypes.ownedTupleIsFree (.ref z) >>= _) _ _ _;refine uj (thn (Yg hz p) λa M z_=>?_);obtain⟨S,K,N,k,b⟩:=z_;subst S N;simp only[Bool.false_eq_true,if_false];refine uj ?_;rw[<-Array.forIn_toList];simp only[forIn_cons,forIn_nil];refine uj (uj (wpAny_holding ?_));show wpAny _ _ (Builtin.SmallTypes.nextOf (.ref m) >>= _) _ _ _;refine uj (j0C (O.extBut b.extBut D.i1z) (G.extBut b.extBut D.l1z) W λL i d=>ui ?_);refine ui ?_;refine uj (uj (wpAny_holding ?_));show wpAny _ _ (Builtin.SmallTypes.nextOf (.ref n) >>= _) _ _ _;refine uj (wpAny_nextOf_list_item ((P.extBut b.extBut D.i2z).extBut d.extBut D.i12.symm) ((H.extBut b.extBut D.l2z).extBut d.extBut D.l2i1) X λg j h=>ui ?_);refine ui (ui ?_);refine uj (wpAny_newTuple (hsz:=by show 2<=sizeLine;decide) ?_);have hsz:g.objs.size=s.heap.objs.size:=by rw[h.1,d.1,b.1]
 have l:IsZipK g z TI TO T true:=h.extBut _ _ D.i2z.symm (d.extBut _ _ D.i1z.symm k);have U:∀c o,c≠z->c≠m->c≠n->s.heap.get? c=some o->g.get? c=some o:=λc o t u B e=>h.extBut _ _ B (d.extBut _ _ u (b.extBut _ _ t e))
 refine ui ⟨_,rfl,?_⟩;show Q (.ref g.objs.size) _;have p:(g.push {cls:=.type "tuple",data:=.seq #[x,y]}).get? g.objs.size=some {cls:=.type "tuple",data:=.seq #[x,y]}:=Heap.get?_push_size _ rfl;rw[hsz]at p|-;exact R _ (vL _ l) ((i.extBut h.extBut D.i12).as λo e=>vL _ e) (j.at λo e=>vL _ e) p (by rw[Heap.size_push,hsz]) λc o t u B e=>vL _ (U c o t u B e)
def zd{z TI TO T b d e g:Addr}{f:Bool}{I:Obj}{k l:Nat}{xs ys:Array Value}{x y:Value}{Q:Option Value->Shared->Prop}(D:ZipApart z TI TO b d e g)
  (hz:IsZipK s.heap z TI TO T f) (C:s.heap.get? T=some I) (h:IsPair s.heap TI (.ref b) (.ref d))
  (u:ItB bb s.heap b e k) (v:s.heap.IsListIter d g l) (i:SqB bb s.heap e xs) (j:s.heap.IsList g ys) (G:xs[k]?=some x) (H:ys[l]?=some y)
  (B:∀h',IsZipK h' z TI TO T true->ItB bb h' b e (k+1)->h'.IsListIter d g (l+1)->IsPair h' s.heap.objs.size x y->h'.objs.size=s.heap.objs.size+1->
   (∀c o,c≠z->c≠b->c≠d->s.heap.get? c=some o->h'.get? c=some o)->Q (some (.ref s.heap.objs.size)) {s with heap:=h'}) :
  wpAny (model prog w) A (pyNext (.ref z)) Q E s:=by
 have a:s.TypeIs (.ref z) "zip":=⟨_,hz,rfl⟩
 unfold pyNext;refine uj (wpAny_attempt (wpAny_callSpecial?_slot (name:=Str.ofString "__next__") a F.slot_zip_next
  (wpAny_call_entry F.slot_zip_next a F.entry_zip_next (kA D hz C h u v i j G H λh' m n p q r t=>?_) (F.args_zip_next_1 _))))
 exact ui (B h' m n p q r t)
def K5{z TI TO T h l m I:Addr}{f:Bool}{J:Obj}{p:Nat}{xs:Array Value}{Q:Fin->Shared->Prop}(G:A.handled=none)(D:ZipApart z TI TO h l m I)
  (hz:IsZipK s.heap z TI TO T f) (B:s.heap.get? T=some J) (i:IsPair s.heap TI (.ref h) (.ref l))
  (v:ItB bb s.heap h m p) (j:SqB bb s.heap m xs) (H:xs[p]?=none)
  (y:∀h' e,(∀c o,c≠z->c≠h->c≠l->s.heap.get? c=some o->h'.get? c=some o)->(∃o,h'.get? e=some o/\o.cls = .type "StopIteration")->E (.ref e) {s with heap:=h'}) :
  wpAny (model prog w) A (Builtin.«zip.__next__» ⟨[.ref z],[]⟩) Q E s:=by
 show wpAny _ _ (field (.ref z) 2 >>= _) _ _ _;refine uj (wpAny_field hz rfl (x:=.bool false) rfl ?_);show wpAny _ _ (field (.ref z) 3 >>= _) _ _ _;refine uj (wpAny_field hz rfl (x:=.ref TI) rfl ?_);refine uj (wpAny_seqItems i rfl ?_);show wpAny _ _ (Builtin.SmallTypes.ownedTupleIsFree (.ref z) >>= _) _ _ _;refine uj (thn (Yg hz B) λa q z_=>?_);obtain⟨C,n,u,k,b⟩:=z_;subst C u;simp only[Bool.false_eq_true,if_false];refine uj ?_;rw[<-Array.forIn_toList];simp only[forIn_cons,forIn_nil];refine uj (uj (wpAny_holding ?_));show wpAny _ _ (Builtin.SmallTypes.nextOf (.ref h) >>= _) _ _ _;refine uj (wV G (v.extBut b.extBut D.i1z) (j.extBut b.extBut D.l1z) H λg e d F=>?_);exact y g e (λc o r t _ x=>d _ _ t (b.extBut _ _ r x)) F
def zJ{z TI TO T d i j x:Addr}{f:Bool}{y:Obj}{k:Nat}{xs:Array Value}{Q:Option Value->Shared->Prop}(r:A.handled=none)(D:ZipApart z TI TO d i j x)
  (hz:IsZipK s.heap z TI TO T f) (n:s.heap.get? T=some y) (g:IsPair s.heap TI (.ref d) (.ref i))
  (l:ItB bb s.heap d j k) (h:SqB bb s.heap j xs) (v:xs[k]?=none)
  (m:∀h',(∀c o,c≠z->c≠d->c≠i->s.heap.get? c=some o->h'.get? c=some o)->Q none {s with heap:=h'}):wpAny (model prog w) A (pyNext (.ref z)) Q E s:=by
 have a:s.TypeIs (.ref z) "zip":=⟨_,hz,rfl⟩
 unfold pyNext;refine uj (wpAny_attempt (wpAny_callSpecial?_slot (name:=Str.ofString "__next__") a F.slot_zip_next
  (wpAny_call_entry F.slot_zip_next a F.entry_zip_next (K5 r D hz n g l h v λh' e t q=>?_) (F.args_zip_next_1 _))))
 let⟨o,u,p⟩:=q;refine uj (wpAny_isInstance (T:="StopIteration") (b:=true) ⟨o,u,p⟩ isSubtype_stop ?_);exact ui (m _ t)
def ZipStB(bb:Bool)(h:Heap)(z TI TO i1 i2 l1 l2:Addr)(i:Nat):Prop:=
 IsPair h TI (.ref i1) (.ref i2)/\ItB bb h i1 l1 i/\h.IsListIter i2 l2 i/\((i=0/\IsZip h z TI TO .none/\∃a b,IsPair h TO a b)\/(∃T f oT,IsZipK h z TI TO T f/\h.get? T=some oT/\T≠z/\T≠i1/\T≠i2))
def X2{z TI TO n p q r:Addr}{i:Nat}{xs ys:Array Value}{x y:Value}{Q:Option Value->Shared->Prop}(D:ZipApart z TI TO n p q r)(st:ZipStB bb s.heap z TI TO n p q r i)
  (k:SqB bb s.heap q xs) (l:s.heap.IsList r ys) (J:xs[i]?=some x) (K:ys[i]?=some y)
  (H:∀h',ZipStB bb h' z TI TO n p q r (i+1)->IsPair h' s.heap.objs.size x y->s.heap.objs.size<h'.objs.size->(∀c o,c≠z->c≠TO->c≠n->c≠p->s.heap.get? c=some o->h'.get? c=some o)->Q (some (.ref s.heap.objs.size)) {s with heap:=h'}) :
  wpAny (model prog w) A (pyNext (.ref z)) Q E s:=by
 let⟨d,B,C,st⟩:=st;have S:s.heap.objs.size≠n:=by let⟨o,e,_⟩:=id B;exact vP (vK e)
 have U:s.heap.objs.size≠p:=by let⟨o,e,_⟩:=id C;exact vP (vK e)
 rcases st with⟨rfl,m,a,b,G⟩ | ⟨T,f,X,m,I,L,M,N⟩
 .have W:s.heap.objs.size≠z:=vP (vK m);have j:s.TypeIs (.ref z) "zip":=⟨_,m,rfl⟩
  unfold pyNext;refine uj (wpAny_attempt (wpAny_callSpecial?_slot (name:=Str.ofString "__next__") j F.slot_zip_next (wpAny_call_entry F.slot_zip_next j F.entry_zip_next ?_ (F.args_zip_next_1 _))));refine Wn (j77 D.l1i1 J) (kI D.l2i2 K) (zaB D) m d G ⟨B,k⟩ ⟨C,l⟩ λh' t Y u v g h=>ui ?_
  exact H h' ⟨h TI _ D.TIz D.TITO D.TIi1 D.TIi2 d,u.1,v.1,.inr ⟨_,false,_,t,g,W,S,U⟩⟩ g (vK g) h
 .refine zd D m I d B C k l J K λh' t u v g Z h=>?_
  exact H h' ⟨h TI _ D.TIz D.TIi1 D.TIi2 d,u,v,.inr ⟨T,true,X,t,h T _ L M N I,L,M,N⟩⟩ g (vK g) λc o O c2 P R e=>h c o O P R e
def j19{z TI TO m v d x:Addr}{i:Nat}{xs ys:Array Value}{Q:Option Value->Shared->Prop}(C:A.handled=none)(D:ZipApart z TI TO m v d x)(st:ZipStB bb s.heap z TI TO m v d x i)
  (l:SqB bb s.heap d xs) (P:s.heap.IsList x ys) (G:xs[i]?=none)
  (B:∀h',(∀c o,c≠z->c≠TO->c≠m->c≠v->s.heap.get? c=some o->h'.get? c=some o)->Q none {s with heap:=h'}):wpAny (model prog w) A (pyNext (.ref z)) Q E s:=by
 let⟨g,y,W,st⟩:=st;rcases st with⟨rfl,n,a,b,t⟩ | ⟨T,f,X,n,M,Y,Z,t3⟩
 .have j:s.TypeIs (.ref z) "zip":=⟨_,n,rfl⟩
  unfold pyNext;refine uj (wpAny_attempt (wpAny_callSpecial?_slot (name:=Str.ofString "__next__") j F.slot_zip_next (wpAny_call_entry F.slot_zip_next j F.entry_zip_next ?_ (F.args_zip_next_1 _))));refine X1 (zaB D) (λh=>ItB bb h m d 0/\SqB bb h d xs) (λh h' ⟨⟨o,e,r⟩,H,L,S⟩ k=>⟨⟨o,k m (by simp) o e,r⟩,H,k d (by simp) H L,S⟩)
   (λs Q E p q=>wV C p.1 p.2 G q) n g t ⟨y,l⟩ λh' e u O=>?_
  let⟨o,R,N⟩:=O;refine uj (wpAny_isInstance (T:="StopIteration") (b:=true) ⟨o,R,N⟩ isSubtype_stop ?_);exact ui (B _ u)
 .exact zJ C D n M g y l G λh' u=>B h' λc o I U J K e=>u c o I J K e
def j3g{R:Result->Shared->Prop}{z TI TO K L Z l2 S:Addr}{lo:Nat}{xs ys:Array Value}(hh:A.in1.handled=none)(D:ZipApart z TI TO K L Z l2)(n:S≠z/\S≠TI/\S≠TO/\S≠K/\S≠L/\S≠Z/\S≠l2)(g:z<lo/\TO<lo/\K<lo/\L<lo/\S<lo)(P:xs.size=ys.size)(hn:xs.size<=sizeLine)(res:Value) :
  ∀(k i:Nat) (s:Shared) (as:N2) (c:Nat),xs.size-i=k->i<=xs.size->ZipStB bb s.heap z TI TO K L Z l2 i->SqB bb s.heap Z xs->s.heap.IsList l2 ys->lo<=s.heap.objs.size->
  s.heap.get? S=some {cls:=.type "list",dict:=none,data:=.seq (as.map Value.ref).toArray c,slots:=#[]}->as.length=i->ZPs s.heap lo as xs ys->
  (∀h' v c',h'.get? S=some {cls:=.type "list",dict:=none,data:=.seq (v.map Value.ref).toArray c',slots:=#[]}->v.length=xs.size->ZPs h' lo v xs ys->
   (∀b o,b≠S->b≠z->b≠TO->b≠K->b≠L->s.heap.get? b=some o->h'.get? b=some o)->R (.ok (.ret res)) {s with heap:=h'})->
  codeAny (model prog w) A (.builtin "list.extend.loop" ⟨[.ref S,.ref z,res],[]⟩) R s:=by
 intro k
 induction k with
 | zero=>
  intro i s as c hk hi st C E t I G l hR;have a8:i=xs.size:=⋯
  refine codeAny_builtin F.entry_extend_loop ?_;rw[Around.under_plainId F.plain_extend_loop _];show wpAny _ A.in1 (pyNext (.ref z) >>= _) _ _ s;refine uj (j19 hh D st C E (by rw[Array.getElem?_eq_none_iff];lia) λh' m=>?_);have B:∀a∈as,a≠z/\a≠TO/\a≠K/\a≠L/\a≠S:=λa d=>⟨vP (Nat.lt_of_lt_of_le g.1 (l.2.1 a d).1),vP (Nat.lt_of_lt_of_le g.2.1 (l.2.1 a d).1),vP (Nat.lt_of_lt_of_le g.2.2.1 (l.2.1 a d).1),vP (Nat.lt_of_lt_of_le g.2.2.2.1 (l.2.1 a d).1),vP (Nat.lt_of_lt_of_le g.2.2.2.2 (l.2.1 a d).1)⟩
  have u:∀a∈as,∀o,s.heap.get? a=some o->h'.get? a=some o:=λa d o e=>m a o (B a d).1 (B a d).2.1 (B a d).2.2.1 (B a d).2.2.2.1 e
  refine ui (hR h' as c (m S _ n.1 n.2.2.1 n.2.2.2.1 n.2.2.2.2.1 I) ⋯ ⟨l.1,λa d=>?_,λj a e=>?_⟩ λb o _ U W X Y e=>m b o U W X Y e)
  .let⟨j,hj,ej⟩:=List.getElem_of_mem d;let⟨x,y,_,_,p⟩:=l.2.2 j a (by rw[vz hj,ej]);exact⟨(l.2.1 a d).1,vK (u a d _ p)⟩
  .let⟨x,y,p1,p2,p⟩:=l.2.2 j a e;exact⟨x,y,p1,p2,u a (vj e) _ p⟩
 | succ k ih=>
  intro i s as c hk hi st C E t I G l hR;have J:i<xs.size:=⋯
  refine codeAny_builtin F.entry_extend_loop ?_;rw[Around.under_plainId F.plain_extend_loop _];show wpAny _ A.in1 (pyNext (.ref z) >>= _) _ _ s;have ex:xs[i]?=some xs[i]:=by simp[J]
  have ey:ys[i]?=some (ys[i]'⋯):=by simp[<-P,J]
  refine uj (X2 D st C E ex ey λh' a7 hp a5 m=>?_);have N:=m S _ n.1 n.2.2.1 n.2.2.2.1 n.2.2.2.2.1 I;show wpAny _ A.in1 (updateSeq S (·.push (.ref s.heap.objs.size)) >>= _) _ _ _;refine uj ?_;have Q:(as.map Value.ref).toArray.size=i:=by simp[G]
  refine wpAny_updateSeq N rfl (ui ⟨plainId_quiet F.plain_extend_loop _,?_⟩) (by rw[Q];lia) (by show((as.map Value.ref).toArray.push _).size<=sizeLine+1;rw[Array.size_push,Q];lia);have h:∀b o,b≠S->h'.get? b=some o->(h'.update S (Obj.mapSeq (·.push (.ref s.heap.objs.size)))).get? b=some o:=λb o hb e=>(Heap.get?_update_other _ _ (Ne.symm hb)).trans e
  have H:=Heap.get?_update_self (Obj.mapSeq (·.push (.ref s.heap.objs.size))) N rfl;have e2:∃c2,(Obj.mapSeq (·.push (.ref s.heap.objs.size)) {cls:=.type "list",dict:=none,data:=.seq (as.map Value.ref).toArray c,slots:=#[]}:Obj)={cls:=.type "list",dict:=none,data:=.seq ((as++[s.heap.objs.size]).map Value.ref).toArray c2,slots:=#[]}:=by
   have e3:(as.map Value.ref).toArray.push (.ref s.heap.objs.size)=((as++[s.heap.objs.size]).map Value.ref).toArray:=by simp
   rw[<-e3];exact⟨_,rfl⟩
  let⟨c2,e2⟩:=e2;rw[e2]at H;have M:s.heap.objs.size+1<=(h'.update S (Obj.mapSeq (·.push (.ref s.heap.objs.size)))).objs.size:=by rw[(Heap.SameBut.update ..).1];exact a5
  have nS:s.heap.objs.size≠S:=vP (Nat.lt_of_lt_of_le g.2.2.2.2 t);have B:∀a∈as,a≠z/\a≠TO/\a≠K/\a≠L/\a≠S:=λa d=>⟨vP (Nat.lt_of_lt_of_le g.1 (l.2.1 a d).1),vP (Nat.lt_of_lt_of_le g.2.1 (l.2.1 a d).1),vP (Nat.lt_of_lt_of_le g.2.2.1 (l.2.1 a d).1),vP (Nat.lt_of_lt_of_le g.2.2.2.1 (l.2.1 a d).1),vP (Nat.lt_of_lt_of_le g.2.2.2.2 (l.2.1 a d).1)⟩
  have a6:∀a∈as,a<s.heap.objs.size:=λa d=>(l.2.1 a d).2
  have u:∀a∈as,∀o,s.heap.get? a=some o->(h'.update S (Obj.mapSeq (·.push (.ref s.heap.objs.size)))).get? a=some o:=λa d o e=>h a o (B a d).2.2.2.2 (m a o (B a d).1 (B a d).2.1 (B a d).2.2.1 (B a d).2.2.2.1 e)
  refine ih (i+1) _ (as++[s.heap.objs.size]) c2 ⋯ J ?_ ?_ ?_ ?_ H (by rw[vm,G];rfl) ?_ ?_
  .let⟨q1,q2,q3,q4⟩:=a7;refine⟨h _ _ n.2.1.symm q1,q2.as λo e=>h _ _ n.2.2.2.1.symm e,q3.at λo e=>h _ _ n.2.2.2.2.1.symm e,?_⟩;rcases q4 with⟨z0,_⟩ | ⟨T,f,oT,q5,q6,q7,q8,q9⟩
   .cases z0
   .by_cases zS:T=S
    .subst zS;exact .inr ⟨T,f,_,h _ _ n.1.symm q5,H,q7,q8,q9⟩
    .exact .inr ⟨T,f,oT,h _ _ n.1.symm q5,h _ _ zS q6,q7,q8,q9⟩
  .let⟨o,e,r⟩:=C;exact⟨o,h _ _ n.2.2.2.2.2.1.symm (m _ _ D.l1z D.l1TO D.l1i1 D.l1i2 e),r⟩
  .let⟨o,e,r⟩:=E;exact⟨o,h _ _ n.2.2.2.2.2.2.symm (m _ _ D.l2z D.l2TO D.l2i1 D.l2i2 e),r⟩
  .show lo<=(h'.update S _).objs.size;exact vX (Nat.le_succ_of_le t) M
  .refine⟨List.pairwise_append.mpr ⟨l.1,pairwise_singleton _ _,λa d b hb=>by rw[vo.mp hb];exact a6 a d⟩,λa d=>?_,λj a e=>?_⟩
   .show lo<=a/\a<(h'.update S _).objs.size;rcases vg.mp d with q | q
    .exact⟨(l.2.1 a q).1,Nat.lt_of_lt_of_le (Nat.lt_succ_of_lt (l.2.1 a q).2) M⟩
    .rw[vo.mp q];exact⟨t,Nat.lt_of_lt_of_le (Nat.lt_succ_self _) M⟩
   .by_cases hj:j<as.length
    .rw[vD hj]at e;let⟨x,y,p1,p2,p⟩:=l.2.2 j a e;exact⟨x,y,p1,p2,u a (vj e) _ p⟩
    .rw[vE ⋯]at e;have O:j=i:=by
      have:=(vx.mp e).1;simp at this;lia
     rw[O,G,Nat.sub_self]at e;have ea:s.heap.objs.size=a:=by simpa using e
     subst ea;subst O;exact⟨_,_,ex,ey,h _ _ nS hp⟩
  .intro a0 v c' a1 a2 a3 a4;exact hR a0 v c' a1 a2 a3 λb o b0 U W X Y e=>a4 b o b0 U W X Y (h b o b0 (m b o U W X Y e))
def X3{R:Result->Shared->Prop}{z TI TO t u v x S:Addr}{lo n:Nat}{xs ys:Array Value}(hh:A.in1.handled=none)(D:ZipApart z TI TO t u v x)(i:S≠z/\S≠TI/\S≠TO/\S≠t/\S≠u/\S≠v/\S≠x)(G:z<lo/\TO<lo/\t<lo/\u<lo/\S<lo)(q:xs.size=ys.size)(hn:xs.size<=sizeLine)(res:Value)
  (st:ZipStB bb s.heap z TI TO t u v x 0) (hz:IsZip s.heap z TI TO .none) (C:SqB bb s.heap v xs) (E:s.heap.IsList x ys) (r:lo<=s.heap.objs.size) (p:s.heap.get? S=some {cls:=.type "list",data:=.seq #[] n})
  (hR:∀h' d m,h'.get? S=some {cls:=.type "list",dict:=none,data:=.seq (d.map Value.ref).toArray m,slots:=#[]}->d.length=xs.size->ZPs h' lo d xs ys->
   (∀b o,b≠S->b≠z->b≠TO->b≠t->b≠u->s.heap.get? b=some o->h'.get? b=some o)->R (.ok (.ret res)) {s with heap:=h'}) :
  wpAny (model prog w) A.in1 (Builtin.List.listExtendWith (.ref S) (.ref z) res)
   (λy s'=>match y with | .done f=>R (.ok f) s' | .again m=>m.quiet=true/\codeAny (model prog w) A m R s') (λe s'=>R (.error e) s') s:=by
 have B:s.TypeIs (.ref z) "zip":=⟨_,hz,rfl⟩
 unfold Builtin.List.listExtendWith;refine uj (wpAny_typeOf B ?_);have Y:Builtin.List.listSameRef (.ref S) (.ref z)=false:=by simp[Builtin.List.listSameRef,i.1]
 have Z:(Value.type "zip"== Value.type "list")=false:=by decide
 have h3:(Value.type "zip"== Value.type "tuple")=false:=by decide
 simp only[Y,Z,h3,Bool.or_false,Bool.false_eq_true,if_false];refine uj (wpAny_pyIter_zip hz ?_);refine uj (wpAny_holding ?_);unfold Builtin.List.listLengthHint;refine uj (wpAny_specialOf B j1a ?_);show wpAny _ A.in1 (specialOf (Value.ref z) (Str.ofString "__length_hint__") >>= _) _ _ _;refine uj (wpAny_specialOf B X4 ?_);refine ui ?_;show wpAny _ A.in1 (rule "list.extend.makes-room" >>= λ_=>Builtin.List.listTouch (.ref S) >>= λ_=>
  again (.builtin "list.extend.loop" ⟨[.ref S,.ref z,res],[]⟩)) _ _ _
 refine uj (wpAny_rule ?_);refine uj ?_;show wpAny _ A.in1 (updateSeq S (·.push .none) >>= λ_=>updateSeq S (·.pop)) _ _ _;refine uj (wpAny_updateSeq p rfl ?_);have g:=Heap.get?_update_self (Obj.mapSeq (·.push Value.none)) p rfl;refine wpAny_updateSeq (hz:=by seq_fits) g rfl ?_;have k:=Heap.get?_update_self (Obj.mapSeq (·.pop)) g rfl;have c:∀b o,b≠S->s.heap.get? b=some o->((s.heap.update S (Obj.mapSeq (·.push Value.none))).update S (Obj.mapSeq (·.pop))).get? b=some o:=
  λb o J e=>(Heap.get?_update_other _ _ (Ne.symm J)).trans ((Heap.get?_update_other _ _ (Ne.symm J)).trans e)
 have H:((s.heap.update S (Obj.mapSeq (·.push Value.none))).update S (Obj.mapSeq (·.pop))).objs.size=s.heap.objs.size:=by rw[(Heap.SameBut.update ..).1,(Heap.SameBut.update ..).1]
 let⟨q1,q2,q3,q4⟩:=st;let⟨o1,W,r1⟩:=C;let⟨o2,X,r2⟩:=E;have l:∃a b,IsPair s.heap TO a b:=by
  rcases q4 with⟨_,_,h⟩ | ⟨T,f,oT,h,_⟩
  .exact h
  .have:=hz.symm.trans h;have:=congrArg (λo=>(o.map λo:Obj=>o.data)) this;simp[rawInt]at this
 let⟨ta,tb,l⟩:=l;refine ui ⟨plainId_quiet F.plain_extend_loop _,j3g hh D i G q hn res xs.size 0 _ [] _ rfl (vB _)
  ⟨c _ _ i.2.1.symm q1,q2.as λo e=>c _ _ i.2.2.2.1.symm e,q3.at λo e=>c _ _ i.2.2.2.2.1.symm e,.inl ⟨rfl,c _ _ i.1.symm hz,ta,tb,c _ _ i.2.2.1.symm l⟩⟩
  ⟨o1,c _ _ i.2.2.2.2.2.1.symm W,r1⟩ ⟨o2,c _ _ i.2.2.2.2.2.2.symm X,r2⟩ (by show lo<=Array.size _;rw[H];exact r) k rfl ⟨.nil,(λa h=>nomatch h),λj a h=>by simp at h⟩ λh' d m K L M N=>?_⟩
 exact hR h' d m K L M λb o I O P Q U e=>N b o I O P Q U (c b o I e)
def K6{R:Result->Shared->Prop}{z TI TO n p q r S:Addr}{lo:Nat}{xs ys:Array Value}(P:A.in1.handled=none)(D:ZipApart z TI TO n p q r)(g:S≠z/\S≠TI/\S≠TO/\S≠n/\S≠p/\S≠q/\S≠r)(x:z<lo/\TO<lo/\n<lo/\p<lo/\S<lo)(l:xs.size=ys.size)(Q:xs.size<=sizeLine)
  (st:ZipStB bb s.heap z TI TO n p q r 0) (hz:IsZip s.heap z TI TO .none) (u:SqB bb s.heap q xs) (v:s.heap.IsList r ys) (m:lo<=s.heap.objs.size) (h:s.heap.get? S=some {cls:=.type "list",data:=.seq #[]})
  (j:∃a b,IsPair s.heap TO a b)
  (hR:∀h' d k,h'.get? S=some {cls:=.type "list",dict:=none,data:=.seq (d.map Value.ref).toArray k,slots:=#[]}->d.length=xs.size->ZPs h' lo d xs ys->
   (∀b o,b≠S->b≠z->b≠TO->b≠n->b≠p->s.heap.get? b=some o->h'.get? b=some o)->R (.ok (.ret .none)) {s with heap:=h'}) :
  wpAny (model prog w) A.in1 (Builtin.«list.__init__» ⟨[.ref S,.ref z],[]⟩)
   (λt s'=>match t with | .done f=>R (.ok f) s' | .again k=>k.quiet=true/\codeAny (model prog w) A k R s') (λe s'=>R (.error e) s') s:=by
 show wpAny _ A.in1 (do let y <-Builtin.List.listItems (.ref S);Builtin.List.listUpdate (.ref S) (λ_=>#[]);letGo y.toList.reverse;Builtin.List.listExtendWith (.ref S) (.ref z) .none) _ _ s;refine uj ?_;unfold Builtin.List.listItems;refine uj (wpAny_seqItems h rfl (ui ?_));show wpAny _ A.in1 (updateSeq S (λ_=>#[]) >>= λ_=>letGo (#[]:Array Value).toList.reverse >>= λ_=>Builtin.List.listExtendWith (.ref S) (.ref z) .none) _ _ s;refine uj (wpAny_updateSeq h rfl ?_);have i:=Heap.get?_update_self (Obj.mapSeq (λ_=>(#[]:Array Value))) h rfl;have c:∀b o,b≠S->s.heap.get? b=some o->(s.heap.update S (Obj.mapSeq (λ_=>(#[]:Array Value)))).get? b=some o:=
  λb o O e=>(Heap.get?_update_other _ _ (Ne.symm O)).trans e
 have B:(s.heap.update S (Obj.mapSeq (λ_=>(#[]:Array Value)))).objs.size=s.heap.objs.size:=(Heap.SameBut.update ..).1;let⟨W,X,Y,q4⟩:=st;let⟨T,M,Z⟩:=u;let⟨U,N,r2⟩:=v;let⟨ta,tb,j⟩:=j;refine uj (wpAny_letGo ?_);refine X3 P D g x l Q .none
  ⟨c _ _ g.2.1.symm W,X.as λo e=>c _ _ g.2.2.2.1.symm e,Y.at λo e=>c _ _ g.2.2.2.2.1.symm e,.inl ⟨rfl,c _ _ g.1.symm hz,ta,tb,c _ _ g.2.2.1.symm j⟩⟩
  (c _ _ g.1.symm hz) ⟨T,c _ _ g.2.2.2.2.2.1.symm M,Z⟩ ⟨U,c _ _ g.2.2.2.2.2.2.symm N,r2⟩ (by show lo<=Array.size _;rw[B];exact m) i λh' d k E F G H=>?_
 exact hR h' d k E F G λb o C I J K L e=>H b o C I J K L (c b o C e)
def Kk{z TI TO l m t u:Addr}{xs ys:Array Value}{Q:Value->Shared->Prop}(W:A.handled=none)(D:ZipApart z TI TO l m t u)(j:xs.size=ys.size)(X:xs.size<=sizeLine)
  (hz:IsZip s.heap z TI TO .none) (g:IsPair s.heap TI (.ref l) (.ref m)) (d:∃a b,IsPair s.heap TO a b) (C:ItB bb s.heap l t 0) (G:s.heap.IsListIter m u 0) (h:SqB bb s.heap t xs) (i:s.heap.IsList u ys)
  (U:∀h' c v,h'.get? s.heap.objs.size=some {cls:=.type "list",dict:=none,data:=.seq (c.map Value.ref).toArray v,slots:=#[]}->c.length=xs.size->ZPs h' (s.heap.objs.size+1) c xs ys->
   (∀b o,b≠z->b≠TO->b≠l->b≠m->s.heap.get? b=some o->h'.get? b=some o)->Q (.ref s.heap.objs.size) {s with heap:=h'}) :
  wpAny (model prog w) A (call (.type "list") [.ref z]) Q E s:=by
 have I:=vK hz;have x:=vK g;let⟨J,K,d⟩:=d;have n:=vK d;have p:l<s.heap.objs.size:=by let⟨o,e,_⟩:=id C;exact vK e
 have q:m<s.heap.objs.size:=by let⟨o,e,_⟩:=id G;exact vK e
 have y:t<s.heap.objs.size:=by let⟨o,e,_⟩:=id h;exact vK e
 have B:u<s.heap.objs.size:=by let⟨o,e,_⟩:=id i;exact vK e
 refine callType_codes (Q₁:=λr f=>r = .ref s.heap.objs.size/\f={s with heap:=s.heap.push {cls:=.type "list",data:=.seq #[]}}) F.called_list (F.typeCall_list_1 _) F.entry_list_init
  (code_list_new _ ⟨rfl,rfl⟩) λr f k=>?_
 let⟨rfl,rfl⟩:=k;have H:(s.heap.push {cls:=.type "list",data:=.seq #[]}).get? s.heap.objs.size=some {cls:=.type "list",data:=.seq #[]}:=Heap.get?_push_size _ rfl;refine⟨⟨_,H,rfl⟩,F.args_list_init_2 _ _,K6 (lo:=s.heap.objs.size+1) (by simp[W]) D ⟨vP I,vP x,vP n,vP p,vP q,vP y,vP B⟩ ⟨Nat.lt_succ_of_lt I,Nat.lt_succ_of_lt n,Nat.lt_succ_of_lt p,Nat.lt_succ_of_lt q,Nat.lt_succ_self _⟩ j X
  ⟨vL _ g,C.as λo e=>vL _ e,G.at λo e=>vL _ e,.inl ⟨rfl,vL _ hz,J,K,vL _ d⟩⟩ (vL _ hz) (h.push _) (i.push _) (by rw[Heap.size_push];exact vA _) H ⟨J,K,vL _ d⟩ λh' c v L M N O=>?_⟩
 exact⟨rfl,U h' c v L M N λb o P R S T e=>O b o (vG (vK e)) P R S T (vL _ e)⟩
end
noncomputable def SqVB:Bool->Frg->Hp->Addr->N6->Prop
 | true=>SqT
 | false=>SqL
def Inv.sqB{X:Cx}{c:List (Addr×Obj)}{e:St}{H:Hp}{s:Shared}{d:Bool}{a:Addr}{xs:N6}(I:Inv X c e H s)(h:SqVB d X.K H a xs):∃b:N4,Vals xs b/\SqB d s.heap a b.toArray/\xs.length<=sizeLine:=by
 cases d
 .let⟨b,r,p,z⟩:=I.list h;exact⟨b,r,p.isList,z⟩
 .exact I.tuple h
def tLZB(bb:Bool)(K:Frg)(ta:TA):TE:=λσ H Q=>ta σ H λvs H1=>∃a b xs ys,vs=[.ref a,.ref b]/\SqVB bb K H1 a xs/\SqL K H1 b ys/\xs.length=ys.length/\∀(l:Addr) (as:N2) (H':Hp),Same H1 H'->H1 l=none->H' l=some (.lst (as.map V.ref))->as.length=xs.length->
 (∀(i:Nat) (c:Addr) (x y:V),as[i]?=some c->xs[i]?=some x->ys[i]?=some y->H' c=some (.tup [x,y]))->Q (.ref l) H'
def j4q{d:Bool}{K:Frg}{e:TA}{f:St}{H:Hp}{Q:VK} (h:e f H λvs H1=>∃a b xs ys,vs=[.ref a,.ref b]/\SqVB d K H1 a xs/\SqL K H1 b ys/\xs.length=ys.length/\∀(l:Addr) (as:N2) (H':Hp),Same H1 H'->H1 l=none->H' l=some (.lst (as.map V.ref))->as.length=xs.length->
 (∀(i:Nat) (c:Addr) (x y:V),as[i]?=some c->xs[i]?=some x->ys[i]?=some y->H' c=some (.tup [x,y]))->Q (.ref l) H'):tLZB d K e f H Q:=h
def kf{X:Cx}(bb:Bool){a b:Expr}{ta:TA}{p p' pos g:Pos}(T:X.calm=true)(U:Gl X "list")(Z:X.mg "list"= none)(W:Gl X "zip")(a0:X.mg "zip"= none)(ha:PA X [a,b] ta)
  (N:starEach [.Call (.Name "zip" p') [a,b] [] g] X.env=[(false,eval (.Call (.Name "zip" p') [a,b] [] g) X.env)]:=by rfl)
  (hs:starEach [a,b] X.env=[(false,eval a X.env),(false,eval b X.env)]:=by rfl) (O:starEach [b] X.env=[(false,eval b X.env)]:=by rfl) :
  PE X (.Call (.Name "list" p) [.Call (.Name "zip" p') [a,b] [] g] [] pos) (tLZB bb X.K ta):=by
 intro f s σ H Q I h;refine wpAny_Call_Name_kw (qb I U Z j1g ?_);refine PyProof.Rows.callWith_type1 ?_ N rfl;rw[N];refine Calls.spliced_cons ?_;refine Call_ (qb I W a0 j0a (PyProof.Rows.callWith_type1 (thn (ha g f s σ H _ I h) λus n ⟨vs,H1,t,r1,q1⟩=>?_) (by rw[hs,O]) (by rw[O];rfl)));let⟨l1,l2,xs,ys,rfl,M,hr,a8,q⟩:=q1;cases r1 with
 | cons r rr=>
  cases rr with
  | cons r' rr=>
   cases rr;cases r;cases r';let⟨w,rv,E,a9⟩:=t.sqB M;let⟨D,P,F,aa⟩:=t.list hr;have lx:=rv.length;have ly:=P.length;refine j2q E F.isList λB a1 a2 a3 a4 a5 Y=>?_
   refine Calls.spliced_nil ?_;have z:l1<n.heap.objs.size:=by let⟨o,e,_⟩:=id E;exact vK e
   have A:l2<n.heap.objs.size:=by let⟨o,e,_⟩:=id F.isList;exact vK e
   have m:∀{l k:Nat},l<n.heap.objs.size->l≠n.heap.objs.size+k:=λh=>vG (Nat.lt_of_lt_of_le h (Nat.le_add_right _ _))
   refine Kk (s:={n with heap:=B}) (xs:=w.toArray) (ys:=D.toArray) (t.ok.hd T)
    ⟨jN nofun,jN nofun,jN (i:=0) nofun,jN nofun,jN nofun,jN (j:=0) nofun,jN nofun,jN (j:=0) nofun,jN nofun,jN (i:=0) nofun,m z,m z,m (k:=0) z,m z,m A,m A,m (k:=0) A,m A⟩
    (by rw[size_toArray,size_toArray];lia) (by rw[size_toArray];lia) a1 a2 ⟨_,_,a3⟩ a4 a5 ?_ ?_ λC d c o2 la J k2=>?_
   .let⟨o,e,r⟩:=E;exact⟨o,Y _ _ e,r⟩
   .let⟨o,e,r⟩:=F.isList;exact⟨o,Y _ _ e,r⟩
   have R:n.heap.objs.size<=B.objs.size:=vX (Nat.le_add_right _ 4) (vZ (vK a1));have o2:C.get? B.objs.size=_:=o2;have J:ZPs C (B.objs.size+1) d w.toArray D.toArray:=J;show EP X f σ Q (.ref B.objs.size) _;have ab:d.length=w.length:=by rw[size_toArray]at la;exact la
   have k3:∀b o,n.heap.get? b=some o->C.get? b=some o:=λb o e=>k2 b o (m (vK e)) (m (vK e)) (m (k:=0) (vK e)) (m (vK e)) (Y b o e)
   have I2:Inv X f σ H1 {n with heap:=C}:=t.kept (t':=n.toks) k3;have lo:∀c∈d,n.heap.objs.size<=c:=λc T=>vX R (Nat.le_of_succ_le (J.2.1 c T).1)
   have ws:∀q∈((B.objs.size,HO.lst (d.map V.ref))::(List.range d.length).map λi=>(d.getD i 0,HO.tup [xs.getD i .non,ys.getD i .non])),H1 q.1=none/\NewA X f q.1/\∀G,ObjOk X.prog X.w G C q.1 q.2:=λq M=>by
    rcases mem_cons.mp M with rfl | M
    .exact⟨t.hok.fresh R,t.newA R,λG=>⟨by rw[vt];lia,d.map Value.ref,c,valsR d,o2⟩⟩
    .let⟨i,L,rfl⟩:=vM.mp M;have L:=mem_range.mp L;have ea:d[i]?=some (d.getD i 0):=by rw[vy,vz L];rfl
     have lc:=lo _ (vj ea);let⟨u,v,S,K,pr⟩:=J.2.2 i _ ea;have ex:xs[i]?=some (xs.getD i .non):=by rw[vy,vz ⋯];rfl
     have ey:ys[i]?=some (ys.getD i .non):=by rw[vy,vz ⋯];rfl
     let⟨u',eu,ru⟩:=rv.get ex;let⟨v',ev,a7⟩:=P.get ey;have:u=u':=by have:=S.symm.trans (show w.toArray[i]?=some u' by simpa using eu);exact vN this
     subst this;have:v=v':=by have:=K.symm.trans (show D.toArray[i]?=some v' by simpa using ev);exact vN this
     subst this;exact⟨t.hok.fresh lc,t.newA lc,λG=>⟨(by show 2<=sizeLine;decide),[u,v],.cons ru (.cons a7 .nil),⟨_,pr,rfl,_,rfl⟩⟩⟩
   have nd:(((B.objs.size,HO.lst (d.map V.ref))::(List.range d.length).map λi=>(d.getD i 0,HO.tup [xs.getD i .non,ys.getD i .non])).map (·.1)).Nodup:=by
    rw[v9,uo,v6];have K:(List.range d.length).map ((λx=>x.1)∘λi=>(d.getD i 0,HO.tup [xs.getD i .non,ys.getD i .non]))=d:=ext_getElem (by simp) λi h1 C=>by
     rw[getElem_map,getElem_range];show d.getD i 0=_;rw[vy,vz C];rfl
    rw[K];exact⟨λh=>uh (J.2.1 _ h).1 (Nat.not_succ_le_self _),J.1.imp λh=>vG h⟩
   let⟨G,I3,s3,k4⟩:=Inv.trackAll _ I2 ws nd;refine⟨.ref B.objs.size,G,I3,rfl,q _ d G s3 (t.hok.fresh R) (k4 _ vq) ⋯ λi c x y S K e3=>?_⟩;have L:=(vx.mp S).1;have:=k4 (d.getD i 0,HO.tup [xs.getD i .non,ys.getD i .non]) (vp _ (vM.mpr ⟨i,mem_range.mpr L,rfl⟩));rw[vy,vy,vy,S,K,e3]at this;exact this
open PySem PySem.Spec PyProof.Rows
noncomputable def fLook:Option Addr->Value->Bool
 | none,_=>true
 | some f,v=>v == .ref f
def FTab(K:Frg)(a:Addr)(D:List (Str×Option Addr)):Prop:=KTD.tabLook fLook (λb=>K.lookup b) a D=true
section
variable{X:Cx}
def x8{g:Type}{prog:Program}{w:World}{A:Around}{E:Value->Shared->Prop}{s:Shared}{R:g->Value->Prop}{a:Addr}{D:List (Str×g)}{k:Str}{t:Tok}{d:g}{Q:Option Value->Shared->Prop}(T:KTD.TabOf R s.heap a D)(p:KTD.datumAt k D=some d)
  (n:∀v,R d v->Q (some v) {s with toks:=s.toks+1}):wpAny (model prog w) A (dictGet a (.str k t)) Q E s:=by
 let⟨_,o,b,u,j,x,h,m⟩:=T;unfold dictGet
 try with_reducible refine wpAny_holding ?_
 refine uj (wpAny_pyHash_str (uj (KTD.kt_dictFind_strs (s:={s with toks:=s.toks+1}) j h (by let⟨l⟩:=b;simpa using m.exact) ?_)));have c:Q (findBy (λk v=>v.isStr k) b k) {s with toks:=s.toks+1}:=by
  have q:findBy (λk v=>v.isStr k) b k=(b.toList.find? λe=>e.key.isStr k).map (·.val):=by
   let⟨l⟩:=b;simp[findBy]
  rw[q];let⟨v,r,f⟩:=m.find_some p;rw[r];exact n v f
 rw[findBy_of_findIdx?]at c;cases hi:b.findIdx? λe=>e.key.isStr k with
 | none=>rw[hi]at c;exact ui c
 | some i=>rw[hi]at c;exact uj (wpAny_dictEntries (s:={s with toks:=s.toks+1}) j h (ui c))
def WO:IxR X (λx y H Q=>∃(a:Addr) (k:Str) (D:List (Str×Option Addr)) (f:Addr),x = .ref a/\y = .str k/\FTab X.K a D/\KTD.datumAt k D=some (some f)/\Q (.ref f) H):=by
 intro i g l s z H x y v u Q I r w h n;let⟨a,k,D,f,rfl,rfl,T,m,q⟩:=h;cases r;let⟨t,rfl⟩:=w;have j:KTD.TabOf (λ(d:Option Addr) v=>fLook d v=true) s.heap a D:=KTD.tab_of_look (λd v e=>e) (λb o e=>I.kIn b o e) T;have c:s.TypeIs (.ref a) "dict":=let ⟨_,o,_,_,ho,hc,_⟩:=j;⟨o,ho,hc.1⟩;refine tail_any (ops:=[.ref a,.str k t]) c slot_dict_getitem.lookup ?_ n;unfold getItem
 try with_reducible refine wpAny_holding ?_
 refine uj (wpAny_sequenceKey c nofun ?_);refine uj (wpAny_callSpecial?_slot (name:=Str.ofString "__getitem__") c slot_dict_getitem
  (wpAny_call_entry slot_dict_getitem c entry_dict_getitem ?_ (args_dict_getitem _ _)))
 show wpAny _ _ (dictGet a (.str k t) >>= _) _ _ s;refine uj (x8 j m λv p=>ui ⟨v,rfl,ui ?_⟩);have e:v = .ref f:=beq_iff_eq.mp p;subst e;exact⟨.ref f,H,I.tok _,rfl,q⟩
def tGetT(K:Frg)(to:TE)(t:TA):TE:=λσ H Q=>to σ H λx H1=>∃(a:Addr) (D:List (Str×KTD.Dat)),x = .ref a/\TabK K a D/\t σ H1 λvs H2=>∃(k:Str) (dv:V),vs=[.str k,dv]/\
 ((∃ss:N3,KTD.datumAt k D=some (.tup (ss.map PyData.str))/\ss.length<=100/\∀b,(∀H',SqT K H' b (ss.map V.str))->Q (.ref b) H2)\/(KTD.datumAt k D=none/\Q dv H2))
def j5I{o a b:Expr}{M:TE}{t:TA}{g c:Pos}(ho:PE X o M)(Z:PA X [a,b] t)
  (j:attributeBase o "get" X.env (eval o X.env)=eval o X.env:=by rfl)
  (r:((backTo c (starEach [a,b] X.env)).all (λx=>!x.1)&&(backToKw c (keywordEach [] X.env)).all (λx=>x.1.isSome)
   && decide ([a,b].length+([]:List Keyword).length+(if([]:List Keyword).isEmpty then 0 else 1)<30))=true:=by rfl)
  (l:(g.endLine==c.line)=true:=by rfl) (hs:starEach [a,b] X.env=(false,eval a X.env)::starEach [b] X.env:=by rfl) (f:(backTo c (starEach [b] X.env)).any (·.1)=false:=by rfl) :
  PE X (.Call (.Attribute o "get" g) [a,b] [] c) (tGetT X.K M t):=by
 intro i s O H Q I h;refine wpAny_Call_method_late j r l rfl (thn (ho i s O H _ I h) λv L z_=>?_);obtain⟨x,P,z,r1,B⟩:=z_;let⟨F,D,rfl,T,B⟩:=B;cases r1;let⟨Y,k1,k2⟩:=kHeap z.kIn;have E:KTD.Here Y L.heap F D:=⟨KTD.text_of_look k1 T,λb o e=>z.kIn b o (k2 b o e)⟩
 refine⟨"dict","dict.get",PySem.F.plainAttrs_dict,PySem.F.slot_dict_get,PySem.F.type_dict_get,E.typeIs,E.noDict,?_⟩;have J:=Z c i L O P _ z B;rw[hs]at J|-;refine Calls.callWith_builtin (by show(false||(backTo c (starEach [b] X.env)).any (·.1))=false;rw[f]<;>rfl) (Calls.evalArgs_plain ?_);refine thn J λus s2 z_=>?_;obtain⟨N,C,w,r2,q2⟩:=z_
 let⟨k,R,rfl,q⟩:=q2;let⟨u1,u2,rfl,⟨t1,rfl⟩,rd⟩:=vals2 r2;let⟨p,A,u⟩:=kHeap w.kIn;have m:KTD.Here p s2.heap F D:=⟨KTD.text_of_look A T,λb o e=>w.kIn b o (u b o e)⟩
 refine call_meetsIn PySem.F.slot_dict_get m.typeIs PySem.F.entry_dict_get (PySem.F.args_dict_get_3 _ _ _) (KTD.meets_get2 (h₀:=p) (D:=D)) ⟨m,λd v y hv=>?_,λK=>?_⟩
 .rcases q with⟨ss,e,hz,q⟩ | ⟨e,q⟩
  .rw[e]at y;cases y;let⟨b,N,rfl,⟨o,S,U,n,W⟩,hf⟩:=hv;have G:=yj hf;refine⟨.ref b,C,w.tok _,rfl,q b λH'=>.inr ⟨o,N.toArray,n,u _ _ S,U,W,?_,by simpa using G⟩⟩;have:=G.length;rw[vt]at this;rw[size_toArray,sizeLine_eq];lia
  .rw[e]at y;cases y
 .rcases q with⟨ss,e,hz,q⟩ | ⟨e,q⟩
  .rw[e]at K;cases K
  .exact⟨R,C,w.tok _,rd,q⟩
def tCallV(f:Addr)(sp:Sp)(dvs:N6)(E:XK)(tf:TE)(t:TA):TE:=λσ H Q=>tf σ H λx H1=>x = .ref f/\t σ H1 λvs H2=>sp (vs++dvs) H2 Q E
def KG{d e:Expr}{b:List Expr}{CX:CXT}{k:Nat}{f:Addr}{m:FuncData}{ps:N3}{sp:Sp}{ds:N4}{c:N6}{E:XK}{n:TE}{t:TA}{pos:Pos}(C:PE X d n)(F:FnOk X.prog X.w X.K X.mg X.base CX k f m ps sp)(G:Room k X.A)(D:PySem.W.keepIn X.K (.ref f)=true)(y:Binds X.K m ps ds)(z:Vals c ds)(K:Passes CX X E)
  (w:PA X (e::b) t) (B:starEach (e::b) X.env=(false,eval e X.env)::starEach b X.env:=by rfl) (g:(backTo pos (starEach b X.env)).any (·.1)=false:=by rfl)
  (J:eval (.Call d (e::b) [] pos) X.env=(do
   let u <-eval d X.env
   callWith pos u [] (backTo pos (starEach (e::b) X.env)) (backToKw pos (keywordEach [] X.env))):=by rfl) :
  PE X (.Call d (e::b) [] pos) (tCallV f sp c E n t):=by
 intro a s o H Q I h;rw[J];refine uj (thn (C a s o H _ I h) λv M z_=>?_);obtain⟨x,p,j,L,i⟩:=z_;let⟨rfl,i⟩:=i;cases L;refine PySem.W.callWith_K (h₀:=X.base) j.ok.mod.kin D (thn (w pos a M o p _ j i) λP O ⟨R,N,l,r,q⟩=>⟨l.kIn,?_⟩) B g;exact j0W F G y z K l r q
end
def j1S{K:Frg}{f:TE}{t:TA}{d:St}{H:Hp}{Q:VK} (h:f d H λx H1=>∃(a:Addr) (D:List (Str×KTD.Dat)),x = .ref a/\TabK K a D/\t d H1 λvs H2=>∃(k:Str) (e:V),vs=[.str k,e]/\
 ((∃c:N3,KTD.datumAt k D=some (.tup (c.map PyData.str))/\c.length<=100/\∀b,(∀H',SqT K H' b (c.map V.str))->Q (.ref b) H2)\/(KTD.datumAt k D=none/\Q e H2))):tGetT K f t d H Q:=h
def KK{f:Addr}{sp:Sp}{a:N6}{E:XK}{c:TE}{t:TA}{b:St}{H:Hp}{Q:VK}(h:c b H λx H1=>x = .ref f/\t b H1 λvs H2=>sp (vs++a) H2 Q E):tCallV f sp a E c t b H Q:=h
def tEi(t1 t2:TE):TE:=λσ H Q=>t1 σ H Q\/t2 σ H Q
def j6a{X:Cx}{e:Expr}{b c:TE}(f:PE X e b)(g:PE X e c):PE X e (tEi b c):=λa s d H Q I h=>h.elim (f a s d H Q I) (g a s d H Q I)
def j4p{a c:TE}{b:St}{H:Hp}{Q:VK}(h:a b H Q):tEi a c b H Q:=.inl h
def j0T{c a:TE}{b:St}{H:Hp}{Q:VK}(h:a b H Q):tEi c a b H Q:=.inr h
def j5K{d c:TE}{b:St}{H:Hp}{Q:VK}(h:d b H λy H1=>c b H1 λx H2=>∃a o,x = .ref a/\DGet H2 a y o/\Q (.bl (!o.isSome)) H2):tDNotIn d c b H Q:=h
end L2
namespace Rm
open PySem PySem.Spec PyProof.Rows L2
structure DeskAt(C:Addr)(H:Hp)(d bd:Addr)(bs:List (Key×V)):Prop where
 o:∃dx,H d=some (.ins C dx (putF "books" (.ref bd) []))
 b:H bd=some (.dK bs)
def YD{v:V}:(putF "books" v []).lookup ("books" : Str)=some v:=by rw[qm,vc rfl]
def kF{v:V}{m:Str}(h:¬m = "books"):(putF "books" v []).lookup m=none:=by
 rw[qm,va h];rfl
def DeskAt.same{C:Addr}{H H':Hp}{d a:Addr}{c:List (Key×V)}(D:DeskAt C H d a c)(s:Same H H'):DeskAt C H' d a c:=by
 let⟨⟨e,o⟩,b⟩:=D;exact⟨⟨e,s _ _ o⟩,s _ _ b⟩
inductive sp_initD(C:Addr)(vs:N6)(H:Hp)(Q:VK)(xk:XK):Prop
 | mk (x dx:Addr) (_:vs=[.ref x]) (_:H x=some (.ins C dx [])) (_:∀(bd:Addr) (H':Hp),(∀c u,c≠x->H c=some u->H' c=some u)->H bd=none->DeskAt C H' x bd []->Q .non H'):sp_initD C vs H Q xk
inductive sp_lengthD(vs:N6)(H:Hp)(Q:VK)(xk:XK):Prop
 | mk (l b pl pp:Addr) (las pas:N2) (ls:L6) (ps:N5) (gs:L9) (hs:L4) (_:vs=[.ref l]) (_:H l=some (.lst [.ref b])) (_:BookAt H b pl pp las pas ls ps) (_:Snd ls ps gs hs) (_:1<=ps.length) (_:∀H',Same H H'->Q (.str (tI (gs.getD (ps.length-1) 0))) H'):sp_lengthD vs H Q xk
def j0u{n:Int}(a:0<=n)(b:n<=10^60):n.natAbs.log2<1920:=by
 by_cases e:n.natAbs=0
 .rw[e];decide
 .exact(Nat.log2_lt e).mpr (vF (show n.natAbs<=10^60 by lia) nofun)
def j5c{gs:L9}{n:Nat}(h:1<=n)(e:gs.length=n):atI (gs.map V.int) (-1)=some (.int (gs.getD (n-1) 0)):=by
 have i:ixN n (-1)=some (n-1):=by
  unfold ixN;simp;lia
 unfold atI;rw[vt,e,i];show(gs.map V.int)[n-1]?=_;rw[vv,vy,vz ⋯];rfl
end Rm
namespace L2
open PySem PySem.Spec PyProof.Rows PySem.Builtin
def Kz:fillsNumberSlot (.type "tuple") "mul"= pure false:=
 PySem.fillsNumberSlot_seq (id:="tuple.__mul__") (r:=some (.builtin "tuple.__rmul__")) F.slot_tuple_mul.lookup (by trivial) F.slot_tuple_rmul.lookup (by trivial)
def j5M:seqRepeat? (.type "tuple")=pure (some (.builtin "tuple.__mul__")):=by
 unfold seqRepeat?;rw[PySem.seqSlot_of (T:="tuple") (name:="__mul__") (id:="tuple.__mul__") F.slot_tuple_mul.lookup (by trivial),PySem.seqSlot_of (T:="tuple") (name:="__rmul__") (id:="tuple.__rmul__") F.slot_tuple_rmul.lookup (by trivial)];rfl
def j4t(a:Int)(t:Tok)(l:Addr)(items:Array Value)(n:Nat)(c:Option Addr)(e:Array (Option Value)) :
  Meets (Builtin.«int.__rmul__» ⟨[.int a t,.ref l],[]⟩) (λ_ R s=>s.heap.get? l=some {cls:=.type "tuple",dict:=c,data:=.seq items n,slots:=e}/\R (.ok (.ret Value.notImplemented)) s):=
 .of_wp λb w A R s h=>by let⟨i,g,d,k,j⟩:=s;let⟨f,h⟩:=h;wp_walk;exact⟨_,rfl,h⟩
def j5y(l:Addr)(items:Array Value)(n:Nat)(e:Option Addr)(j:Array (Option Value))(x:Int)(u:Tok)(f:¬(decide (x < -(2^63))||decide (x>=2^63))=true)(k:¬(items.isEmpty||x==1)=true)(m:¬(decide (x<=0)||items.isEmpty)=true)(i:¬(items.size:Int)*x>(2^63-1)/8)(o:¬Builtin.Tuple.tupleTooMany (items.size*x)=true)(p:(List.foldl (λa b=>a++b) #[] (List.replicate x.toNat items)).size<=sizeLine) :
  Meets (Builtin.«tuple.__mul__» ⟨[.ref l,.int x u],[]⟩) (λ_ R s=>s.heap.get? l=some {cls:=.type "tuple",dict:=e,data:=.seq items n,slots:=j}/\R (.ok (.ret (Value.ref s.heap.objs.size))) {s with heap:=s.heap.push {cls:=Value.type "tuple",data:=Data.seq (List.foldl (λa b=>a++b) #[] (List.replicate x.toNat items))}}):=
 .of_wp λc w A R s h=>by
  let⟨r,g,d,v,t⟩:=s;let⟨q,h⟩:=h
  wp_walk
  refine wpAny_ite_false (vJ f) ?_
  wp_walk
  refine wpAny_ite_false (vJ i) ?_
  wp_walk
  exact⟨_,rfl,h⟩
def rRepT(K:Frg):R2:=λx y H Q=>∃a k xs,x = .ref a/\y = .int k/\SqT K H a xs/\xs≠[]/\2<=k/\k<=100/\xs.length<=100/\∀p,H p=none->Q (.ref p) (upd H p (.tup (List.replicate k.toNat xs).flatten))
def j5H{X:Cx}:OpR X (binaryOp .Mult) (rRepT X.K):=by
 intro A s σ H x y v u Q I R S h;let⟨a,k,xs,rfl,rfl,K,L,k2,f,C,q⟩:=h;cases R;let⟨t,rfl⟩:=S;let⟨c,i,P,_⟩:=I.tuple K;let⟨⟨D,l,j,B⟩,e,p,n,w⟩:=id P;simp only at p w;subst p w;have M:=i.length;have O:c≠[]:=λz=>L (i.nil_iff.mp z)
 have d:List.foldl (λY Z=>Y++Z) #[] (List.replicate k.toNat c.toArray)=(List.replicate k.toNat c).flatten.toArray:=by
  have:=wN c k.toNat [];rw[nil_append]at this;exact this
 have sz:(20000:Nat)<sizeLine:=by decide
 have N:(List.replicate k.toNat c).flatten.length<=10000:=by
  rw[WT];exact Nat.mul_le_mul (show k.toNat<=100 by lia) (show c.length<=100 by lia)
 have m:c.toArray.isEmpty=false:=by
  cases c with
  | nil=>exact uh rfl O
  | cons b r=>rfl
 have pk:(c.toArray.size:Int)*k<=10000:=by
  rw[size_toArray];have g:=Int.mul_le_mul (show(c.length:Int)<=100 by lia) f ⋯ nofun;exact g
 have g:¬(decide (k < -(2^63))||decide (k>=2^63))=true:=by
  rw[vJ ⋯,vJ ⋯];decide
 have E:¬(c.toArray.isEmpty||k==1)=true:=by
  rw[m,beq_eq_false_iff_ne.mpr (show k≠1 by lia)];decide
 have G:¬(decide (k<=0)||c.toArray.isEmpty)=true:=by
  rw[m,vJ ⋯];decide
 have J:¬Builtin.Tuple.tupleTooMany ((c.toArray.size:Int)*k)=true:=by
  unfold Builtin.Tuple.tupleTooMany;rw[vJ ⋯];decide
 refine wpAny_binaryOp_repeat_ref (T:="tuple") (U:="int") nofun ⟨_,e,rfl⟩ (λW=>typeIs_int W k t) Kz F.fills_int_mul F.slot_int_rmul j5M F.slot_int_index.lookup
  (call_meets F.slot_int_rmul (typeIs_int s k t) F.entry_int_rmul (F.args_int_rmul_2 _ _) (j4t k t a c.toArray n l B)
   ⟨e,rfl,⟨_,e,rfl⟩,call_meets F.slot_tuple_mul ⟨_,e,rfl⟩ F.entry_tuple_mul (F.args_tuple_mul_2 _ _) (j5y a c.toArray n l B k t g E G ⋯ J (by rw[d,size_toArray];lia)) ⟨e,?_⟩⟩)
 rw[d];refine⟨.ref s.heap.objs.size,_,I.laid (t':=s.toks) (o:=.tup (List.replicate k.toNat xs).flatten) (λb ob q=>vL _ q) (vA _) ?_,rfl,q _ (I.hok.fresh (vA _))⟩;exact⟨by rw[WT,M];rw[WT]at N;lia,_,i.rep k.toNat,IsTup.new _ _⟩
open PySem PySem.Spec PyProof.Rows
def j3d{P:Program}{w:World}{K:Frg}{N:Expr}(it:Addr)(lo:Int)(n:Nat):Turn P w K N (Itr lo n) [it] it (λi h=>IsLongIter h it (lo+(i:Nat)*1) ((n:Int)-(i:Nat)) 1) where
 mem:=by simp
 obj:=λi h a b d=>by
  have e:b=it:=by simpa using d
  subst e;exact⟨_,a,λv z=>by
   have O:Data.fields _=Data.cell v:=z;cases O⟩
 keep:=λi h g a k=>k it (by simp) _ a
 item:=by
  intro X x B u y i c s D H E I j a A;subst x B u;let⟨l,m,J,p,q,r⟩:=j it (by simp);have W:=Walks.longrange (prog:=X.prog) (w:=X.w) (I.ok.hd y) it lo 1 n;refine W.item i s _ _ A a λv g C L f M=>?_
  let⟨t,rfl⟩:=L;have F:Inv X c D H {s with heap:=g,toks:=C}:=I.turned (λb o d e=>M b o (by simpa using d) e) l m p q r;refine⟨_,rfl,j1s (s:={s with heap:=g,toks:=C}) (n:="longrange_iterator") f rfl rfl nofun ⟨.int (lo+i),H,F,⟨t,?_⟩,⟨rfl,rfl⟩,f,λb d=>(j b d).1⟩⟩;rw[Int.mul_one]
 done:=by
  intro X x B u y i c s D H E I j a A;subst x B u;let⟨l,m,J,p,q,r⟩:=j it (by simp);exact wpAny_pyNext_long_end (I.ok.hd y) a (by have:n<=i:=A;lia) λg G=>⟨rfl,I.turned (t':=s.toks) (λb o d e=>G b o d e) l m p q r⟩
 self:=λ_ _ _ _ _ a h=>wpAny_pyIter_longiter a h
section
variable{X:Cx}{tg:Expr}
def j31{a:List (Addr×Obj)}{f:St}{H:Hp}{s:Shared}{R:It->Hp->Prop}{E:Value->Shared->Prop}{lo hi:Int}{t u v:Tok}{d:Nat}(I:Inv X a f H s)
  (q:R (Itr lo (hi-lo).toNat) H):wpAny (model X.prog X.w) X.A (pyIter (.ref s.heap.objs.size)) (PIE X a f tg R) E {s with heap:=s.heap.push {cls:=.type "range",data:=.fields #[.int lo t,.int hi u,.int 1 v]},toks:=d}:=by
 have c:Inv X a f H {s with heap:=s.heap.push {cls:=.type "range",data:=.fields #[.int lo t,.int hi u,.int 1 v]},toks:=d}:=I.kept λb o e=>vL _ e
 have g:lo+((0:Nat):Int)*1=lo:=by simp
 have h:(((hi-lo).toNat:Nat):Int)-((0:Nat):Int)=Builtin.Range.rangeSize lo hi 1:=by rw[rangeSize_one];split<;>lia
 have i:∀b∈[(s.heap.push {cls:=.type "range",data:=.fields #[.int lo t,.int hi u,.int 1 v]}).objs.size],FpOk X a H b:=λb k=>by
  have e:b=(s.heap.push {cls:=.type "range",data:=.fields #[.int lo t,.int hi u,.int 1 v]}).objs.size:=by simpa using k
  subst e;exact c.fpOk (vA _) (c.hok.fresh (vA _))
 by_cases j:Builtin.Range.small lo hi 1=true
 .refine wpAny_pyIter_range (IsRange.new ..) j ?_;refine⟨(s.heap.push {cls:=.type "range",data:=.fields #[.int lo t,.int hi u,.int 1 v]}).objs.size,[(s.heap.push {cls:=.type "range",data:=.fields #[.int lo t,.int hi u,.int 1 v]}).objs.size],_,_,H,rfl,
   c.kept (t':=d) λb o e=>vL _ e,KY _ lo (hi-lo).toNat,?_,i,q⟩
  show IsRangeIter _ _ (lo+((0:Nat):Int)*1) ((((hi-lo).toNat:Nat):Int)-((0:Nat):Int)) 1;rw[g,h];exact Heap.get?_push_size _ rfl
 .refine wpAny_pyIter_longrange (IsRange.new ..) (by simpa using j) ?_;refine⟨(s.heap.push {cls:=.type "range",data:=.fields #[.int lo t,.int hi u,.int 1 v]}).objs.size,[(s.heap.push {cls:=.type "range",data:=.fields #[.int lo t,.int hi u,.int 1 v]}).objs.size],_,_,H,rfl,
   c.kept (t':=d) λb o e=>vL _ e,j3d _ lo (hi-lo).toNat,?_,i,q⟩
  show IsLongIter _ _ (lo+((0:Nat):Int)*1) ((((hi-lo).toNat:Nat):Int)-((0:Nat):Int)) 1;rw[g,h];exact Heap.get?_push_size _ rfl
def iRngB(ta:TA):TI:=λσ H R=>ta σ H λvs H1=>∃i j:Int,vs=[.int i,.int j]/\R (Itr i (j-i).toNat) H1
def j2V{a b:Expr}{f:TA}{p pos:Pos}(l:Gl X "range")(m:X.mg "range"= none)(k:PA X [a,b] f)(n:starEach [a,b] X.env=[(false,eval a X.env),(false,eval b X.env)]:=by rfl)(c:starEach [b] X.env=[(false,eval b X.env)]:=by rfl) :
  PI X tg (.Call (.Name "range" p) [a,b] [] pos) (iRngB f):=by
 intro d s v H R I h;refine Call_ (qb I l m boot_range (PyProof.Rows.callWith_type1 (thn (k pos d s v H _ I h) λz x ⟨A,w,g,u,o⟩=>?_) (by rw[n,c]) (by rw[c];rfl)));let⟨i,j,e,q⟩:=o;subst e;cases u with
 | cons r rr=>
  cases rr with
  | cons r' rr=>
   cases rr;let⟨t,rfl⟩:=r;let⟨y,rfl⟩:=r';exact call_range_2 (j31 g q)
end
def j5L{a:TA}{b:St}{H:Hp}{R:It->Hp->Prop}(h:a b H λvs H1=>∃i j:Int,vs=[.int i,.int j]/\R (Itr i (j-i).toNat) H1):iRngB a b H R:=h
end L2
namespace Rm
open PySem PySem.Spec PyProof.Rows L2
def Yd{K:Frg}{H H':Hp}{a:Addr}{xs:N6}(e:Same H H')(h:SqT K H a xs):SqT K H' a xs:=by
 rcases h with(h | ⟨o,h⟩) | h
 .exact .inl (.inl (e _ _ h))
 .exact .inl (.inr ⟨o,e _ _ h⟩)
 .exact .inr h
def KindsR(ws ks:N3):Prop:=(∃x,ws=[("length" : Str),x]/\ks=[("name" : Str)])\/(∃x y,ws=[("rings" : Str),x,y]/\ks=[("name" : Str),"number"])\/
 (∃y a b c d,ws=[("meet" : Str),y,a,b,c,d]/\ks=[("number" : Str),"name","word","name","word"])\/∃y a b c d e f,ws=[("meet" : Str),y,a,b,c,d,e,f]/\ks=[("number" : Str),"name","word","name","word","name","word"]
inductive sp_kindsM(K:Frg)(vs:N6)(H:Hp)(Q:VK)(xk:XK):Prop
 | mk (l:Addr) (ws ks:N3) (_:vs=[.ref l]) (_:H l=some (.lst (ws.map V.str))) (_:KindsR ws ks) (_:∀(b:Addr) (H':Hp),Same H H'->SqT K H' b (ks.map V.str)->Q (.ref b) H'):sp_kindsM K vs H Q xk
def ValR(k w:Str)(v:V):Prop:=(k = "number"/\∃n:Int,0<=n/\n<=10^31/\w=tI n/\v = .int n)\/(k≠"number"/\v = .str w)
structure ValsR(ks ws:N3)(us:N6):Prop where
 l:us.length=ks.length
 w:ws.length=ks.length
 v:∀(i:Nat) (k w:Str) (u:V),ks[i]?=some k->ws[i]?=some w->us[i]?=some u->ValR k w u
structure WdOk(x:Str):Prop where
 e:x≠""
 n:x.length<=100
 b:32∉x.cps.toList
inductive sp_askedM(vs:N6)(H:Hp)(Q:VK)(xk:XK):Prop
 | mk (l:Addr) (w:Str) (ws ks:N3) (us:N6) (_:vs=[.ref l]) (_:H l=some (.lst ((w::ws).map V.str))) (_:KindsR (w::ws) ks) (_:(∀x∈w::ws,WdOk x)) (_:ValsR ks ws us) (_:∀(p:Addr) (cs:N2) (H':Hp),Same H H'->H' p=some (.lst (cs.map V.ref))->cs.length=ks.length->(∀(i:Nat) (c:Addr) (k:Str) (u:V),cs[i]?=some c->ks[i]?=some k->us[i]?=some u->H' c=some (.tup [.str k,u]))->Q (.ref p) H'):sp_askedM vs H Q xk
def KindsR.len{ws ks:N3}(h:KindsR ws ks):ws.length=ks.length+1/\ks.length<=7/\ks≠[]/\∀k∈ks,k≠"limb":=by
 rcases h with⟨x,rfl,rfl⟩ | ⟨x,y,rfl,rfl⟩ | ⟨y,a,b,c,d,rfl,rfl⟩ | ⟨y,a,b,c,d,e,f,rfl,rfl⟩
 .exact⟨rfl,by decide,by simp,by trivial⟩
 .exact⟨rfl,by decide,by simp,by trivial⟩
 .exact⟨rfl,by decide,by simp,by trivial⟩
 .exact⟨rfl,by decide,by simp,by trivial⟩
def OutR(bs:List (Key×V))(k:Str)(u o:V):Prop:=(k = "name"/\∃(x:Str) (b:Addr),u = .str x/\valV bs (Sum.inr x)=some (.ref b)/\o = .ref b)\/(k≠"name"/\o=u)
structure OutsR(bs:List (Key×V))(ks:N3)(us os:N6):Prop where
 l:os.length=ks.length
 o:∀(i:Nat) (k:Str) (u o:V),ks[i]?=some k->us[i]?=some u->os[i]?=some o->OutR bs k u o
noncomputable def ansW(ws:N3):Str:=if ws=[]then "none" else Txt.join bl ws
noncomputable def ansM:V->Str
 | .int y=>tI y
 | _=>"never"
noncomputable def mixL:N2->List Mb->N6
 | a::as,d::ds=>.ref a::.str d.x::mixL as ds
 | _,_=>[]
theorem j3W:∀(as:N2) (ds:List Mb),as.length=ds.length->ev (mixL as ds)=as.map V.ref/\ev ((mixL as ds).drop 1)=ds.map λd=>V.str d.x
 | [],[],_=>⟨rfl,rfl⟩
 | a::as,d::ds,h=>by
  let⟨b,c⟩:=j3W as ds (Nat.succ.inj h);have e:ev (mixL (a::as) (d::ds))=V.ref a::ev (mixL as ds):=zy _ _;have f:ev ((mixL (a::as) (d::ds)).drop 1)=V.str d.x::ev ((mixL as ds).drop 1):=zy _ _;rw[e,f,b,c];exact⟨rfl,rfl⟩
theorem j1F:∀(as:N2) (ds:List Mb),as.length=ds.length->(mixL as ds).length=2*ds.length
 | [],[],_=>rfl
 | a::as,d::ds,h=>by
  have:=j1F as ds (Nat.succ.inj h);show(mixL as ds).length+1+1=2*(ds.length+1);lia
def AnsR(H:Hp)(w:Str)(os:N6)(Q:VK):Prop:=
 (w = "length"/\∃(b pl pp:Addr) (las pas:N2) (ls:L6) (ps:N5) (gs:L9) (hs:L4),os=[.ref b]/\BookAt H b pl pp las pas ls ps/\Snd ls ps gs hs/\1<=ps.length/\∀H',Same H H'->Q (.str (tI (gs.getD (ps.length-1) 0))) H')\/
 (w = "rings"/\∃(b pl pp:Addr) (las pas:N2) (ls:L6) (ps:N5) (gs:L9) (hs:L4) (t:Int),os=[.ref b,.int t]/\BookAt H b pl pp las pas ls ps/\Sn ls ps gs hs/\0<=t/\t<=gs.getD (ps.length-1) 0/\(ringsW ps gs t).length<=1/\(∀x∈ringsW ps gs t,x.length<=100)/\∀H',Same H H'->Q (.str (ansW (ringsW ps gs t))) H')\/
 (w = "meet"/\∃(t:Int) (as:N2) (ds:List Mb),os = .int t::mixL as ds/\All2 (BkA H) as ds/\ds.length<=3/\(∀d∈ds,MbOk d)/\0<=t/\t<=10^31/\∀(v:V) (H':Hp),Same H H'->MeetR ds t v->Q (.str (ansM v)) H')
inductive sp_ringsM(vs:N6)(H:Hp)(Q:VK)(xk:XK):Prop
 | mk (l:Addr) (os:N6) (_:vs=[.ref l]) (_:H l=some (.lst os)) (_:(∃(b pl pp:Addr) (las pas:N2) (ls:L6) (ps:N5) (gs:L9) (hs:L4) (t:Int),os=[.ref b,.int t]/\BookAt H b pl pp las pas ls ps/\Sn ls ps gs hs/\0<=t/\t<=gs.getD (ps.length-1) 0/\(ringsW ps gs t).length<=1/\(∀x∈ringsW ps gs t,x.length<=100)/\∀H',Same H H'->Q (.str (ansW (ringsW ps gs t))) H')):sp_ringsM vs H Q xk
inductive sp_listedM(vs:N6)(H:Hp)(Q:VK)(xk:XK):Prop
 | mk (l:Addr) (ws:N3) (_:vs=[.ref l]) (_:H l=some (.lst (ws.map V.str))) (_:ws.length<=100) (_:(∀x∈ws,x.length<=100)) (_:∀H',Same H H'->Q (.str (Txt.join bl ws)) H'):sp_listedM vs H Q xk
def Wc:Sp:=λvs H Q _=>∃v:V,vs=[v]/\(v = .non\/∃y:Int,v = .int y/\y.natAbs.log2<1920)/\Q (.str (ansM v)) H
inductive sp_meetM(vs:N6)(H:Hp)(Q:VK)(xk:XK):Prop
 | mk (l:Addr) (t:Int) (as:N2) (ds:List Mb) (_:vs=[.ref l]) (_:H l=some (.lst (.int t::mixL as ds))) (_:All2 (BkA H) as ds) (_:ds.length<=3) (_:(∀d∈ds,MbOk d)) (_:0<=t) (_:t<=10^31) (_:∀(v:V) (H':Hp),Same H H'->MeetR ds t v->Q (.str (ansM v)) H'):sp_meetM vs H Q xk
def RowS(row:Str)(ws:N3):Prop:=row.cps.toList=Sp.glue 32 (ws.map λy=>y.cps.toList)
inductive sp_sayM(C:Addr)(vs:N6)(H:Hp)(Q:VK)(xk:XK):Prop
 | mk (d bd:Addr) (bs:List (Key×V)) (row w:Str) (ws ks:N3) (us os:N6) (_:vs=[.ref d,.str row]) (_:DeskAt C H d bd bs) (_:RowS row (w::ws)) (_:row.length<=2000) (_:KindsR (w::ws) ks) (_:(∀x∈w::ws,WdOk x)) (_:ValsR ks ws us) (_:OutsR bs ks us os) (_:AnsR H w os Q):sp_sayM C vs H Q xk
def j33{a:Str}{ws:N3}(h:RowS a ws)(d:ws≠[])(hw:∀x∈ws,WdOk x)(f:a.length<=2000)(i:ws.length<=100):wds 32 a.cps.toList≠[]/\(∀u∈wds 32 a.cps.toList,32∉u)/\a.cps.toList=Sp.glue 32 (wds 32 a.cps.toList)/\(wds 32 a.cps.toList).length<=sizeLine/\a.length<=sizeLine/\((wds 32 a.cps.toList).map λu=>(⟨u.toArray⟩:Str)).map V.str=ws.map V.str:=by
 have g:(20000:Nat)<sizeLine:=by decide
 have e:wds 32 a.cps.toList=ws.map λy=>y.cps.toList:=by
  rw[h];refine X0 (by simpa using d) λu b=>?_
  let⟨y,c,rfl⟩:=vM.mp b;exact(hw y c).b
 rw[e];refine⟨by simpa using d,λu b=>?_,h,by rw[vt];lia,⋯,by rw[j2g]⟩;let⟨y,c,rfl⟩:=vM.mp b;exact(hw y c).b
def j46{n:Int}(a:0<=n)(b:n<=10^31):Ws.numV (tI n) 80 = .int n:=by
 refine Nm.j2N a ?_;have:(tI n).length<=32:=toString_length_le a nofun ⋯;lia
def j1D{y:Int}(a:0<=y)(b:y<=10^31+10^200):y.natAbs.log2<1920:=by
 by_cases e:y.natAbs=0
 .rw[e];decide
 .exact(Nat.log2_lt e).mpr (vF (show y.natAbs<=10^31+10^200 by lia) nofun)
section
variable{ls:L6}{ps:N5}{gs:L9}{hs:L4}
noncomputable def wdsOf(ps:N5)(gs:L9)(i:Nat)(t:Int):N3:=(reach ps gs i t).flatMap (ringX ps)
def j5Z(N:Sn ls ps gs hs){i:Nat}{t:Int}(hi:i<ps.length)(h:gs.getD i 0<=t):wdsOf ps gs i t=[]:=by
 unfold wdsOf;rw[qd (.inl h)];have a:=N.g1 i hi;show ringX ps (i,t)++[]=[]
 rw[append_nil];unfold ringX;split
 .exact va (show¬t=0 by lia)
 .rfl
def j32(x:Nat×Int):(ringX ps x).length<=1:=by
 unfold ringX;split
 .split<;>simp
 .simp
theorem j4u{N:Nat×Int->N3}{t:Int}:∀{is:N1} {b:Int},(∀k∈is,1<=gs.getD k 0/\gs.getD k 0<=10^60)->(∀k∈is,N (k,gs.getD k 0)=[])->(∀k∈is,∀r,0<=r->(N (k,r)).length<=1)->((wth gs t (rowPc gs is b)).flatMap N).length<=1
 | [],b,_,_,_=>by show((wth gs t []).flatMap N).length<=1;rw[Yf];simp
 | j::r,b,hg,h0,h1=>by
  by_cases c:b<=t
  .rw[XJ hg c];split
   .rw[flatMap_cons,h0 j vq,nil_append];exact j4u (λk a=>hg k (vp _ a)) (λk a=>h0 k (vp _ a)) λk a=>h1 k (vp _ a)
   .rw[flatMap_cons,flatMap_nil,append_nil];exact h1 j vq _ ⋯
  .rw[KM (λk a=>⟨by have:=(hg k a).1;lia,(hg k a).2⟩) ⋯];simp
def j3l{N:Nat×Int->N3}{t k:Int}{j:Nat}(h:1<=gs.getD j 0)(d:0<=t)(g:N (j,gs.getD j 0)=[])(b:∀r,0<=r->(N (j,r)).length<=1):((wth gs t ((j,1,0)::(if 1<k then[(j,k-1,gs.getD j 0)]else[]))).flatMap N).length<=1:=by
 rw[qV,xH h d,flatMap_append,vm,Int.sub_zero];by_cases c:gs.getD j 0<=t
 .rw[vc c];have e:([(j,gs.getD j 0)]:L5).flatMap N=[]:=by rw[flatMap_cons,g];rfl
  rw[e];by_cases a:1<k
  .rw[vc a,qV,Yf,append_nil,j2c c,flatMap_append,vm];have f:((if 0<ov gs t (j,k-1,gs.getD j 0)then[(j,gs.getD j 0)]else[]).flatMap N)=[]:=by
    split
    .exact e
    .rfl
   rw[f];have i:ov gs t (j,k-1,gs.getD j 0)<=(t-gs.getD j 0)/gs.getD j 0:=by
    unfold ov;split
    .rename_i z;exact Int.le_of_lt z
    .exact vC _
   have n:ov gs t (j,k-1,gs.getD j 0)*gs.getD j 0<=t-gs.getD j 0:=by
    have l:=vV i (show 0<=gs.getD j 0 by lia);have m:=Int.ediv_mul_le (t-gs.getD j 0) (show gs.getD j 0≠0 by lia);lia
   split
   .have:=b (t-gs.getD j 0-ov gs t (j,k-1,gs.getD j 0)*gs.getD j 0) ⋯;rw[flatMap_cons,flatMap_nil,append_nil];show 0+(0+(N (j,t-gs.getD j 0-ov gs t (j,k-1,gs.getD j 0)*gs.getD j 0)).length)<=1;lia
   .show 0+(0+0)<=1;decide
  .rw[va a,Yf];show 0+0<=1;decide
 .rw[va c,flatMap_cons,flatMap_nil,append_nil];have e:wth gs t (if 1<k then[(j,k-1,gs.getD j 0)]else[])=[]:=by
   split
   .rw[qV,Yf,j2b (show t<gs.getD j 0 by lia)];rfl
   .rfl
  rw[e];have:=b t d;show _+0<=1;lia
def j7j(N:Sn ls ps gs hs)(ns:∀p∈ps,∀d,p.2≠.side d):∀(i:Nat),i<ps.length->∀t:Int,0<=t->(wdsOf ps gs i t).length<=1:=by
 intro i
 induction i using Nat.strongRecOn with
 | ind i ih=>
  intro l t w;by_cases c:gs.getD i 0<=t\/pcB ps gs i=[]
  .unfold wdsOf;rw[qd c];show(ringX ps (i,t)++[]).length<=1;rw[append_nil];exact j32 _
  .have e:wdsOf ps gs i t=(wth gs t (pcB ps gs i)).flatMap λx=>wdsOf ps gs x.1 x.2:=by
    unfold wdsOf;rw[zB N.s.w c,List.flatMap_assoc]
   rw[e];have m:ps[i]?=some ps[i]:=vz l;have b:∀j∈inP ps ps[i].2,j<i:=λj a=>N.s.w.inP_lt m a
   have s:pcB ps gs i=pcsI gs ps[i].2 (inP ps ps[i].2):=by unfold pcB;rw[m]
   have q:=ns ps[i] (getElem_mem l);rw[s]at c|-;generalize ps[i].2=f at c b q|-;have g:∀j∈inP ps f,1<=gs.getD j 0/\gs.getD j 0<=10^60:=λj a=>N.g (by have:=b j a;lia)
   have o:∀j∈inP ps f,wdsOf ps gs j (gs.getD j 0)=[]:=λj a=>j5Z N (by have:=b j a;lia) (vC _)
   have u:∀j∈inP ps f,∀r,0<=r->(wdsOf ps gs j r).length<=1:=λj a r v=>ih j (b j a) (by have:=b j a;lia) r v
   cases f with
   | hold n=>exact uh (.inr rfl) c
   | ring x n=>exact uh (.inr rfl) c
   | rise x h n=>exact uh (.inr rfl) c
   | row d=>exact j4u g o u
   | side d=>exact uh rfl (q d)
   | again k x=>exact j3l (g _ vq).1 w (o _ vq) (u _ vq)
end
noncomputable def ls7:L6:=[("arm",0)]
noncomputable def ps7(a b c d k:Int):N5:=[(("a" : Str),Fm.ring "bell" a),(("b" : Str),Fm.hold b),(("c" : Str),Fm.ring "gong" c),(("d" : Str),Fm.hold d),(("inner" : Str),Fm.row ["a","b","c","d"]),(("play" : Str),Fm.again k "inner")]
noncomputable def gs7(a b c d k:Int):L9:=[a,b,c,d,a+b+c+d,k*(a+b+c+d)]
noncomputable def hs7:L4:=[[],[],[],[],[],[]]
structure B7(a b c d k:Int):Prop where
 a:1<=a/\a<=6
 b:1<=b/\b<=6
 c:1<=c/\c<=6
 d:1<=d/\d<=6
 k:1<=k/\k<=2
def inR7(a b c d k:Int):inP (ps7 a b c d k) (.row ["a","b","c","d"])=[0,1,2,3]:=by
 show(["a","b","c","d"]:N3).map (ixOf ["a","b","c","d","inner","play"])=[0,1,2,3]
 decide +kernel
def inA7(a b c d k:Int):inP (ps7 a b c d k) (.again k "inner")=[4]:=by
 show(["inner"]:N3).map (ixOf ["a","b","c","d","inner","play"])=[4]
 decide +kernel
def at7{a b c d k:Int}{i:Nat}{p:Str×Fm}(h:(ps7 a b c d k)[i]?=some p):(i=0/\p=(("a" : Str),Fm.ring "bell" a))\/(i=1/\p=(("b" : Str),Fm.hold b))\/(i=2/\p=(("c" : Str),Fm.ring "gong" c))\/(i=3/\p=(("d" : Str),Fm.hold d))\/(i=4/\p=(("inner" : Str),Fm.row ["a","b","c","d"]))\/(i=5/\p=(("play" : Str),Fm.again k "inner")):=by
 match i,h with
 | 0,h=>exact .inl ⟨rfl,(vN h).symm⟩
 | 1,h=>exact .inr (.inl ⟨rfl,(vN h).symm⟩)
 | 2,h=>exact .inr (.inr (.inl ⟨rfl,(vN h).symm⟩))
 | 3,h=>exact .inr (.inr (.inr (.inl ⟨rfl,(vN h).symm⟩)))
 | 4,h=>exact .inr (.inr (.inr (.inr (.inl ⟨rfl,(vN h).symm⟩))))
 | 5,h=>exact .inr (.inr (.inr (.inr (.inr ⟨rfl,(vN h).symm⟩))))
 | n+6,h=>exact nomatch h
def wf7(a b c d k:Int):WfB ls7 (ps7 a b c d k):=by
 refine⟨by trivial,by decide,?_,by show 6<=61;decide,λi p g=>?_,λi y x h n g=>?_⟩
 .show([("a" : Str),"b","c","d","inner","play"]).Nodup;decide +kernel
 .have j:nmsOf (ps7 a b c d k)=[("a" : Str),"b","c","d","inner","play"]:=rfl;rw[j];rcases at7 g with⟨rfl,rfl⟩ | ⟨rfl,rfl⟩ | ⟨rfl,rfl⟩ | ⟨rfl,rfl⟩ | ⟨rfl,rfl⟩ | ⟨rfl,rfl⟩
  .exact⟨(λx f=>nomatch f),vB _⟩
  .exact⟨(λx f=>nomatch f),vB _⟩
  .exact⟨(λx f=>nomatch f),vB _⟩
  .exact⟨(λx f=>nomatch f),vB _⟩
  .refine⟨λx f=>?_,by show 4<=8;decide⟩;have f:x∈[("a" : Str),"b","c","d"]:=f;simp only[mem_cons,not_mem_nil,or_false]at f;rcases f with rfl | rfl | rfl | rfl
   .exact⟨0,by decide,rfl⟩
   .exact⟨1,by decide,rfl⟩
   .exact⟨2,by decide,rfl⟩
   .exact⟨3,by decide,rfl⟩
  .refine⟨λx f=>⟨4,by decide,?_⟩,by show 1<=8;decide⟩;rw[vo.mp f];rfl
 .rcases at7 g with⟨_,e⟩ | ⟨_,e⟩ | ⟨_,e⟩ | ⟨_,e⟩ | ⟨_,e⟩ | ⟨_,e⟩<;>cases e
def mov7{ls:L6}{ps:N5}(W:WfB ls ps)(m:∀p∈ps,∀x h n,p.2≠.rise x h n){M:L4}(o:M.length=ps.length)(l:MovOk ls ps M):∀i,i<ps.length->M.getD i []=[]:=by
 intro i
 induction i using Nat.strongRecOn with
 | ind i ih=>
  intro a;have c:ps[i]?=some ps[i]:=vz a;let⟨_,b⟩:=l i _ (M.getD i []) c (by rw[vy,vz ⋯];rfl);refine List.eq_nil_iff_forall_not_mem.mpr λk f=>?_
  rcases(b k).mp f with⟨j,d,h⟩ | ⟨x,h,n,e,_⟩
  .have g:=W.inP_lt c d;rw[ih j g ⋯]at h;exact nomatch h
  .exact m _ (getElem_mem a) x h n e
def sn7{a b c d k:Int}(B:B7 a b c d k):Sn ls7 (ps7 a b c d k) (gs7 a b c d k) hs7:=by
 have W:=wf7 a b c d k;let⟨C,D,E,F,G⟩:=B;have o:∀p∈ps7 a b c d k,∀x h n,p.2≠.rise x h n:=λp f x h n e=>by
  let⟨i,l⟩:=List.getElem?_of_mem f;rcases at7 l with⟨_,rfl⟩ | ⟨_,rfl⟩ | ⟨_,rfl⟩ | ⟨_,rfl⟩ | ⟨_,rfl⟩ | ⟨_,rfl⟩<;>cases e
 have H:a+b+c+d<=k*(a+b+c+d)/\k*(a+b+c+d)<=2*(a+b+c+d):=by
  rcases(show k=1\/k=2 by lia)with rfl | rfl<;>lia
 have g:∀i,i<6->1<=(gs7 a b c d k).getD i 0/\(gs7 a b c d k).getD i 0<=10^60:=λi l=>by
  have e:(100:Int)<=10^60:=by decide
  rcases(show i=0\/i=1\/i=2\/i=3\/i=4\/i=5 by lia)with rfl | rfl | rfl | rfl | rfl | rfl
  .show 1<=a/\a<=10^60;lia
  .show 1<=b/\b<=10^60;lia
  .show 1<=c/\c<=10^60;lia
  .show 1<=d/\d<=10^60;lia
  .show 1<=a+b+c+d/\a+b+c+d<=10^60;lia
  .show 1<=k*(a+b+c+d)/\k*(a+b+c+d)<=10^60;lia
 have m:∀j,hs7.getD j []=[]:=λj=>by
  match j with
  | 0=>rfl
  | 1=>rfl
  | 2=>rfl
  | 3=>rfl
  | 4=>rfl
  | 5=>rfl
  | n+6=>rfl
 refine⟨⟨W,rfl,λi l=>⟨by have:=(g i l).1;lia,(g i l).2⟩,λM s A i l=>by rw[mov7 W o s A i l,m],λi p f=>?_,λi p I f e=>?_⟩,rfl,λi p z f r=>?_,λi l=>(g i l).1,by show 1<=6;decide,λq t=>?_,λi y x v n f=>?_,λi y x n f=>?_⟩
 .rcases at7 f with⟨rfl,rfl⟩ | ⟨rfl,rfl⟩ | ⟨rfl,rfl⟩ | ⟨rfl,rfl⟩ | ⟨rfl,rfl⟩ | ⟨rfl,rfl⟩
  .exact⟨trivial,λg h=>h⟩
  .exact⟨trivial,λg h=>h⟩
  .exact⟨trivial,λg h=>h⟩
  .exact⟨trivial,λg h=>h⟩
  .rw[show inP (ps7 a b c d k) (("inner" : Str),Fm.row ["a","b","c","d"]).2=[0,1,2,3]from inR7 a b c d k];refine⟨trivial,λg h=>?_⟩;have h:g=a+(b+(c+(d+0))):=h;show g=a+b+c+d;lia
  .rw[show inP (ps7 a b c d k) (("play" : Str),Fm.again k "inner").2=[4]from inA7 a b c d k];have e:(10:Int)^18<=10^60:=by decide
   refine⟨⟨a+b+c+d,[],rfl,⋯,⋯,⋯,⋯⟩,λg h=>?_⟩;let⟨y,u,rfl⟩:=h;cases u;rfl
 .rcases at7 f with⟨_,rfl⟩ | ⟨_,rfl⟩ | ⟨_,rfl⟩ | ⟨_,rfl⟩ | ⟨_,rfl⟩ | ⟨_,rfl⟩<;>cases e
 .have w:z=[]:=by
   have:=m i;rw[vy,r]at this;exact this
  rw[w];refine⟨List.Pairwise.nil,λk=>⟨(λh=>nomatch h),?_⟩⟩;rintro(⟨j,_,h⟩ | ⟨x,h,n,e,_⟩)
  .rw[m]at h;exact nomatch h
  .exact uh e (o p (vj f) x h n)
 .rw[vo.mp t];exact⟨by decide,by decide⟩
 .rcases at7 f with⟨_,e⟩ | ⟨_,e⟩ | ⟨_,e⟩ | ⟨_,e⟩ | ⟨_,e⟩ | ⟨_,e⟩<;>cases e
 .rcases at7 f with⟨_,e⟩ | ⟨_,e⟩ | ⟨_,e⟩ | ⟨_,e⟩ | ⟨_,e⟩ | ⟨_,e⟩<;>cases e
  lia
def ws7{a b c d k:Int}(B:B7 a b c d k):∀p∈ps7 a b c d k,FmWs p.2:=λp f=>by
 let⟨m,n,o,q,r⟩:=B;let⟨i,e⟩:=List.getElem?_of_mem f;have g:Ws.isW "bell"= true:=by trivial
 have h:Ws.isW "gong"= true:=by trivial
 have j:∀x∈[("a" : Str),"b","c","d"],Ws.isW x=true:=by trivial
 have l:Ws.isW "inner"= true:=by trivial
 rcases at7 e with⟨_,rfl⟩ | ⟨_,rfl⟩ | ⟨_,rfl⟩ | ⟨_,rfl⟩ | ⟨_,rfl⟩ | ⟨_,rfl⟩
 .exact⟨g,⋯,⋯⟩
 .exact⟨⋯,⋯⟩
 .exact⟨h,⋯,⋯⟩
 .exact⟨⋯,⋯⟩
 .exact⟨by show 4<=8;decide,j⟩
 .exact⟨⋯,⋯,l⟩
def word7{a b c d k:Int}{t:Int}{x:Str}(h:x∈ringsW (ps7 a b c d k) (gs7 a b c d k) t):x = "bell"\/x = "gong":=by
 let⟨y,_,f⟩:=mem_flatMap.mp h;unfold ringX at f;split at f
 .rename_i z m e;split at f
  .rw[vo.mp f];rcases at7 e with⟨_,e⟩ | ⟨_,e⟩ | ⟨_,e⟩ | ⟨_,e⟩ | ⟨_,e⟩ | ⟨_,e⟩
   .cases e;exact .inl rfl
   .cases e
   .cases e;exact .inr rfl
   .cases e
   .cases e
   .cases e
  .exact nomatch f
 .exact nomatch f
def W2(x:Str):Prop:=x = "bell"\/x = "gong"
def W2.ok{x:Str}(h:W2 x):Ws.isW x=true/\x.length<=100/\x≠"none"/\WdOk x:=by
 rcases h with rfl | rfl
 .exact⟨by trivial,by trivial,by trivial,by trivial,by trivial,by trivial⟩
 .exact⟨by trivial,by trivial,by trivial,by trivial,by trivial,by trivial⟩
def j6h{ws:N3}{x:Str}(a:ws.length<=1)(h:W2 x):decide (ansW ws=x)=decide (x∈ws):=by
 match ws,a with
 | [],_=>
  have:ansW [] = "none":=vc rfl;rw[this,vJ λe=>h.ok.2.2.1 e.symm,vJ (by simp)]
 | [w],_=>
  have e:ansW [w]=w:=(va (by simp)).trans (by rw[WP];rfl);rw[e];by_cases c:w=x
  .rw[vI c,vI (by rw[c];simp)]
  .rw[vJ c,vJ (by simpa using λz=>c z.symm)]
structure Mb7(a b c d k:Int)(x:Str)(m:Mb):Prop where
 ls:m.ls=ls7
 ps:m.ps=ps7 a b c d k
 gs:m.gs=gs7 a b c d k
 x:m.x=x
 g:MbG m
 ok:MbOk m
 L:m.L=k*(a+b+c+d)
def mb7{a b c d k:Int}(B:B7 a b c d k){x:Str}(o:W2 x):∃m,Mb7 a b c d k x m:=by
 have N:=sn7 B;let⟨W,O⟩:=j2a N x _ (vA _);have g:MbG ⟨ls7,ps7 a b c d k,gs7 a b c d k,hs7,x,W⟩:=MbS.g ⟨N,O,o.ok.1,ws7 B⟩;refine⟨_,rfl,rfl,rfl,rfl,g,g.ok ?_,rfl⟩;have v:=B.k;have e:∀(j:Nat) (p:Str×Fm),j<6->(ps7 a b c d k)[j]?=some p->pcB (ps7 a b c d k) (gs7 a b c d k) j=[]->W.getD j 0=ownW x p.2:=λj p i l h=>by
  rw[O.2 j p i l,h];exact Int.add_zero _
 have f:∀y n,ownW x (.ring y n)<=1:=λy n=>by
  show(if y=x then(1:Int)else 0)<=1;split<;>decide
 have r:=e 0 (("a" : Str),Fm.ring "bell" a) nofun rfl rfl;have s:=e 1 (("b" : Str),Fm.hold b) nofun rfl rfl;have t:=e 2 (("c" : Str),Fm.ring "gong" c) nofun rfl rfl;have u:=e 3 (("d" : Str),Fm.hold d) nofun rfl rfl;have A:=f "bell" a;have D:=f "gong" c;have C:ownW x (.hold b)=0:=rfl;have E:ownW x (.hold d)=0:=rfl;have w:W.getD 4 0=0+(1*W.getD 0 0+(1*W.getD 1 0+(1*W.getD 2 0+(1*W.getD 3 0+0)))):=by
  rw[O.2 4 (("inner" : Str),Fm.row ["a","b","c","d"]) (by show 4<6;decide) rfl];have:pcB (ps7 a b c d k) (gs7 a b c d k) 4=rowPc (gs7 a b c d k) [0,1,2,3] 0:=congrArg (λq=>rowPc (gs7 a b c d k) q 0) (inR7 a b c d k);rw[this];rfl
 have z:W.getD 5 0=k*W.getD 4 0:=by
  rw[O.2 5 (("play" : Str),Fm.again k "inner") (by show 5<6;decide) rfl];have:pcB (ps7 a b c d k) (gs7 a b c d k) 5=pcsI (gs7 a b c d k) (.again k "inner") [4]:=congrArg (pcsI (gs7 a b c d k) (.again k "inner")) (inA7 a b c d k);rw[this];show 0+wSum W ((4,1,0)::(if 1<k then[(4,k-1,(gs7 a b c d k).getD 4 0)]else[]))=_;rcases(show k=1\/k=2 by lia)with rfl | rfl
  .show(0:Int)+(1*W.getD 4 0+0)=1*W.getD 4 0;lia
  .show(0:Int)+(1*W.getD 4 0+((2-1)*W.getD 4 0+0))=2*W.getD 4 0;lia
 show W.getD 5 0<=4;dsimp only at r s t u;rcases(show k=1\/k=2 by lia)with rfl | rfl<;>lia
def Mb7.few{a b c d k:Int}{x:Str}{m:Mb}(B:B7 a b c d k)(M:Mb7 a b c d k x m){t:Int}(h:0<=t):(ringsW m.ps m.gs t).length<=1:=by
 rw[M.ps,M.gs];refine j7j (sn7 B) (λp g j e=>?_) 5 (by show 5<6;decide) t h;let⟨i,f⟩:=List.getElem?_of_mem g;rcases at7 f with⟨_,rfl⟩ | ⟨_,rfl⟩ | ⟨_,rfl⟩ | ⟨_,rfl⟩ | ⟨_,rfl⟩ | ⟨_,rfl⟩<;>cases e
noncomputable def fT:N3:=["ring bell ","hold ","ring gong ","hold "]
noncomputable def rw7(i:Nat)(n:Int):Str:=Str.ofString "part "++(⟨#[97+i]⟩:Str)++Str.ofString " "++(fT.getD i ⟨#[]⟩++tI n)
noncomputable def ra7(k:Int):Str:=Str.ofString "part play again "++tI k++Str.ofString " inner"
noncomputable def n7(c m:Int)(i:Nat):Int:=1+c/m^i%m
noncomputable def k7(c m:Int):Int:=1+c/m^4%2
noncomputable def rows7(c m:Int):N3:=("limbs arm 0" : Str)::(List.range 4).map (λi=>rw7 i (n7 c m i))++[("part inner row a b c d" : Str),ra7 (k7 c m)]
def j20{z:Str}{l:N1}{n:Int}(a:0<=n)(e:z.cps.toList=l++32::(tI n).cps.toList):spW z=(wds 32 l).map stS++[tI n]:=by
 unfold spW;rw[e,kQ,vi,xG (no32 (xV a))];rfl
def Jk(a b:Str):(a++b).cps.toList=a.cps.toList++b.cps.toList:=by
 show(a.cps++b.cps).toList=_;rw[Array.toList_append]
def j1W{i:Nat}(hi:i<4)(n:Int):∃l:Str,(rw7 i n).cps.toList=l.cps.toList++32::(tI n).cps.toList/\l.length<=30/\10∉l.cps.toList/\(i=0->l = "part a ring bell")/\(i=1->l = "part b hold")/\(i=2->l = "part c ring gong")/\(i=3->l = "part d hold"):=by
 have e:(rw7 i n).cps.toList=(Str.ofString "part "++(⟨#[97+i]⟩:Str)++Str.ofString " "++fT.getD i ⟨#[]⟩).cps.toList++(tI n).cps.toList:=by
  unfold rw7;rw[Jk _ (fT.getD i ⟨#[]⟩++tI n),Jk (fT.getD i ⟨#[]⟩),<-List.append_assoc,<-Jk]
 rw[e];have a:∀(p l:Str),p.cps.toList=l.cps.toList++[32]->p.cps.toList++(tI n).cps.toList=l.cps.toList++32::(tI n).cps.toList:=λp l h=>by rw[h,List.append_assoc];rfl
 rcases(show i=0\/i=1\/i=2\/i=3 by lia)with rfl | rfl | rfl | rfl
 .exact⟨"part a ring bell",a _ _ (by trivial),by trivial,by trivial,(λ_=>rfl),(λz=>nomatch z),(λz=>nomatch z),(λz=>nomatch z)⟩
 .exact⟨"part b hold",a _ _ (by trivial),by trivial,by trivial,(λz=>nomatch z),(λ_=>rfl),(λz=>nomatch z),(λz=>nomatch z)⟩
 .exact⟨"part c ring gong",a _ _ (by trivial),by trivial,by trivial,(λz=>nomatch z),(λz=>nomatch z),(λ_=>rfl),(λz=>nomatch z)⟩
 .exact⟨"part d hold",a _ _ (by trivial),by trivial,by trivial,(λz=>nomatch z),(λz=>nomatch z),(λz=>nomatch z),(λ_=>rfl)⟩
def xp(k:Int):(ra7 k).cps.toList=(Str.ofString "part play again").cps.toList++32::((tI k).cps.toList++32::(Str.ofString "inner").cps.toList):=by
 have a:(Str.ofString "part play again ").cps.toList=(Str.ofString "part play again").cps.toList++[32]:=by trivial
 have b:(Str.ofString " inner").cps.toList=32::(Str.ofString "inner").cps.toList:=by trivial
 unfold ra7;rw[Jk,Jk,a,b];simp
def w6{k:Int}(a:0<=k):spW (ra7 k)=[("part" : Str),"play","again",tI k,"inner"]:=by
 unfold spW;rw[xp,kQ,kQ,xG (no32 (xV a)),xG (c:=32) (l:=(Str.ofString "inner").cps.toList) (by trivial)];have e:wds 32 (Str.ofString "part play again").cps.toList=[(Str.ofString "part").cps.toList,(Str.ofString "play").cps.toList,(Str.ofString "again").cps.toList]:=by trivial
 rw[e];rfl
def nW{n:Int}(a:1<=n)(b:n<=100):numW (tI n) 1=some n:=by
 unfold numW;rw[Nm.j47 ⋯ ⋯];exact vc ⟨a,⋯⟩
def j5N{z:Str}{l:Str}{n:Int}(a:0<=n)(g:n<=100)(e:z.cps.toList=l.cps.toList++32::(tI n).cps.toList)(i:l.length<=30)(b:10∉l.cps.toList)(d:∀w∈(wds 32 l.cps.toList).map stS,w.length<=200):RowOk z:=by
 have f:=KW a (show n<=10^18 by lia);refine⟨λw c=>?_,?_,?_⟩
 .rw[j20 a e]at c;rcases vg.mp c with h | h
  .exact d w h
  .rw[vo.mp h];lia
 .have:z.length=l.length+((tI n).length+1):=by
   have:=congrArg List.length e;rw[vm,vR]at this;exact this
  lia
 .rw[e,vg,mem_cons];rintro(h | h | h)
  .exact b h
  .exact uh h nofun
  .have:=xV a 10 h;lia
def XL{c m:Int}(v:1<=m)(x:m<=6):RowsOk (rows7 c m):=by
 refine⟨by show 1<=7;decide,by show 7<=1000;decide,λr s=>?_⟩;have g:∀i,0<=n7 c m i/\n7 c m i<=100:=λi=>by
  unfold n7;have:=vd (c/m^i) (show m≠0 by lia);have:=ve (c/m^i) (show 0<m by lia);lia
 rcases vg.mp s with h | h
 .rcases mem_cons.mp h with rfl | h
  .exact⟨by trivial,by trivial,by trivial⟩
  .let⟨i,b,rfl⟩:=vM.mp h;have b:=mem_range.mp b;let⟨l,e,t,f,n,o,p,q⟩:=j1W b (n7 c m i);refine j5N (g i).1 (g i).2 e t f ?_;rcases(show i=0\/i=1\/i=2\/i=3 by lia)with z | z | z | z
   .rw[n z];decide +kernel
   .rw[o z];decide +kernel
   .rw[p z];decide +kernel
   .rw[q z];decide +kernel
 .rcases mem_cons.mp h with rfl | h
  .exact⟨by trivial,by trivial,by trivial⟩
  .rw[vo.mp h];have a:0<=k7 c m/\k7 c m<=10^18:=by unfold k7;lia
   have u:=KW a.1 a.2;refine⟨λw d=>?_,?_,?_⟩
   .rw[w6 a.1]at d;simp only[mem_cons,not_mem_nil,or_false]at d;rcases d with rfl | rfl | rfl | rfl | rfl
    .decide +kernel
    .decide +kernel
    .decide +kernel
    .lia
    .decide +kernel
   .have e:=congrArg List.length (xp (k7 c m));rw[vm,vR,vm,vR]at e;have j:(Str.ofString "part play again").cps.toList.length=15:=by trivial
    have k:(Str.ofString "inner").cps.toList.length=5:=by trivial
    have:(ra7 (k7 c m)).length=15+((tI (k7 c m)).length+(5+1)+1):=by rw[j,k]at e;exact e
    lia
   .rw[xp,vg,mem_cons,vg,mem_cons];rintro(h | h | h | h | h)
    .exact uh h (by trivial)
    .exact uh h nofun
    .have:=xV a.1 10 h;lia
    .exact uh h nofun
    .exact uh h (by trivial)
def b7{c m:Int}(b:1<=m)(d:m<=6):B7 (n7 c m 0) (n7 c m 1) (n7 c m 2) (n7 c m 3) (k7 c m):=by
 have a:∀i,1<=n7 c m i/\n7 c m i<=6:=λi=>by
  unfold n7;have:=vd (c/m^i) (show m≠0 by lia);have:=ve (c/m^i) (show 0<m by lia);lia
 exact⟨a 0,a 1,a 2,a 3,by unfold k7;lia⟩
def rd7{c m:Int}(t:1<=m)(u:m<=6):RdT (rows7 c m) ls7 (ps7 (n7 c m 0) (n7 c m 1) (n7 c m 2) (n7 c m 3) (k7 c m)):=by
 have B:=b7 (c:=c) t u;have f:∀i,i<4->0<=n7 c m i->∃l:Str,spW (rw7 i (n7 c m i))=(wds 32 l.cps.toList).map stS++[tI (n7 c m i)]/\(i=0->l = "part a ring bell")/\(i=1->l = "part b hold")/\(i=2->l = "part c ring gong")/\(i=3->l = "part d hold"):=λi q b=>by
  let⟨l,e,_,_,o⟩:=j1W q (n7 c m i);exact⟨l,j20 b e,o⟩
 have E:spW (rw7 0 (n7 c m 0))=[("part" : Str),"a","ring","bell",tI (n7 c m 0)]:=by
  let⟨l,e,h,_⟩:=f 0 nofun (by have:=B.a.1;lia);rw[e,h rfl];have:(wds 32 (Str.ofString "part a ring bell").cps.toList).map stS=[("part" : Str),"a","ring","bell"]:=by trivial
  rw[this];rfl
 have F:spW (rw7 1 (n7 c m 1))=[("part" : Str),"b","hold",tI (n7 c m 1)]:=by
  let⟨l,e,_,h,_⟩:=f 1 nofun (by have:=B.b.1;lia);rw[e,h rfl];have:(wds 32 (Str.ofString "part b hold").cps.toList).map stS=[("part" : Str),"b","hold"]:=by trivial
  rw[this];rfl
 have G:spW (rw7 2 (n7 c m 2))=[("part" : Str),"c","ring","gong",tI (n7 c m 2)]:=by
  let⟨l,e,_,_,h,_⟩:=f 2 nofun (by have:=B.c.1;lia);rw[e,h rfl];have:(wds 32 (Str.ofString "part c ring gong").cps.toList).map stS=[("part" : Str),"c","ring","gong"]:=by trivial
  rw[this];rfl
 have H:spW (rw7 3 (n7 c m 3))=[("part" : Str),"d","hold",tI (n7 c m 3)]:=by
  let⟨l,e,_,_,_,h⟩:=f 3 nofun (by have:=B.d.1;lia);rw[e,h rfl];have:(wds 32 (Str.ofString "part d hold").cps.toList).map stS=[("part" : Str),"d","hold"]:=by trivial
  rw[this];rfl
 have ring:∀{p w:Str} {n:Int} {P:N3},1<=n->n<=6->Ws.isW p=true->p∉P->Ws.isW w=true->partW [("part" : Str),p,"ring",w,tI n] ["arm"] P=some (p,.ring w n):=λb k d g r=>by
  rw[j1P,vc ⟨rfl,d,g⟩,j5i];show(match numW (tI _) 1 with | some n=>if Ws.isW _=true then some (Fm.ring _ n)else none | none=>none).map _=_;rw[nW b ⋯];show(if Ws.isW _=true then some (Fm.ring _ _)else none).map _=_;rw[vc r];rfl
 have a:∀{p:Str} {n:Int} {P:N3},1<=n->n<=6->Ws.isW p=true->p∉P->partW [("part" : Str),p,"hold",tI n] ["arm"] P=some (p,.hold n):=λb k d g=>by
  rw[j1P,vc ⟨rfl,d,g⟩,j5h];show((numW (tI _) 1).map Fm.hold).map _=_;rw[nW b ⋯];rfl
 have s:limbsW (spW "limbs arm 0")=some ls7:=by trivial
 have z:PartsAt (rows7 c m) ls7 []:=⟨vB _,λi p d=>by simp at d⟩
 have v:=qF (ps:=[]) (p:=(("a" : Str),Fm.ring "bell" (n7 c m 0))) z nofun (by show partW (spW (rw7 0 (n7 c m 0))) ["arm"] []=_;rw[E];exact ring B.a.1 B.a.2 (by trivial) (by simp) (by trivial));have x:=qF (p:=(("b" : Str),Fm.hold (n7 c m 1))) v (by show 2<=60;decide) (by show partW (spW (rw7 1 (n7 c m 1))) ["arm"] ["a"]=_;rw[F];exact a B.b.1 B.b.2 (by trivial) (by trivial));have y:=qF (p:=(("c" : Str),Fm.ring "gong" (n7 c m 2))) x (by show 3<=60;decide) (by show partW (spW (rw7 2 (n7 c m 2))) ["arm"] ["a","b"]=_;rw[G];exact ring B.c.1 B.c.2 (by trivial) (by trivial) (by trivial));have A:=qF (p:=(("d" : Str),Fm.hold (n7 c m 3))) y (by show 4<=60;decide) (by show partW (spW (rw7 3 (n7 c m 3))) ["arm"] ["a","b","c"]=_;rw[H];exact a B.d.1 B.d.2 (by trivial) (by trivial));have C:=qF (p:=(("inner" : Str),Fm.row ["a","b","c","d"])) A (by show 5<=60;decide) (by
  show partW (spW "part inner row a b c d") ["arm"] ["a","b","c","d"]=_;have:spW "part inner row a b c d"= [("part" : Str),"inner","row","a","b","c","d"]:=by trivial
  rw[this,j1P,vc (by trivial),j6s,vc (by trivial)];rfl)
 have D:=qF (p:=(("play" : Str),Fm.again (k7 c m) "inner")) C (by show 6<=60;decide) (by
  show partW (spW (ra7 (k7 c m))) ["arm"] ["a","b","c","d","inner"]=_;have j:=B.k;rw[w6 ⋯,j1P,vc (by trivial),j3C];show(match numW (tI (k7 c m)) 1 with | some n=>if("inner" : Str)∈[("a" : Str),"b","c","d","inner"]then some (Fm.again n "inner")else none | none=>none).map _=_;rw[nW j.1 ⋯];show(if("inner" : Str)∈[("a" : Str),"b","c","d","inner"]then some (Fm.again (k7 c m) "inner")else none).map _=_;rw[vc (by trivial)];rfl)
 exact⟨s,by show 2<=7;decide,rfl,D⟩
def _root_.L2.rd_par{i j:Nat}{b:TA}{D:Ends}{a:L2.St}{H:Hp}(h:b a H λvs H1=>∃v w,vs=[v,w]/\D.nx ((a.set i (some v)).set j (some w)) H1):tPar i j b D a H:=h
inductive sp_putM(C:Addr)(vs:N6)(H:Hp)(Q:VK)(xk:XK):Prop
 | mk (d bd:Addr) (bs:List (Key×V)) (name:Str) (rows:N3) (ls:L6) (ps:N5) (gs:L9) (hs:L4) (_:vs=[.ref d,.str name,.str (Txt.join "\n" rows)]) (_:DeskAt C H d bd bs) (_:bs.length<=100) (_:Ws.isW name=true) (_:RowsOk rows) (_:RdT rows ls ps) (_:Snd ls ps gs hs) (_:∀(b pl pp:Addr) (las pas:N2) (H':Hp),(∀c u,c≠bd->H c=some u->H' c=some u)->DeskAt C H' d bd (putK bs (Sum.inr name) (.ref b))->H pl=none->H pp=none->BookAt H' b pl pp las pas ls ps->Q .non H'):sp_putM C vs H Q xk
theorem wP{c:Nat}:∀(ws:List N1) (w:N1),Sp.glue c (w::ws)=w++ws.flatMap (λu=>c::u)
 | [],w=>by show w=w++[];rw[append_nil]
 | v::s,w=>by
  show w++c::Sp.glue c (v::s)=_;rw[wP s v];rfl
def kM{a w:Str}{ws:N3}(h:a.cps.toList=w.cps.toList++ws.flatMap λu=>32::u.cps.toList):RowS a (w::ws):=by
 unfold RowS;rw[v9,wP,h,List.flatMap_map]
noncomputable def tlR(qs:List (Str×Str)):Str:=qs.foldl (λr p=>r++Str.ofString " "++p.1++Str.ofString " "++p.2) (Str.ofString "")
noncomputable def fl2(qs:List (Str×Str)):N3:=qs.flatMap λp=>[p.1,p.2]
def j3n:(Str.ofString " ").cps.toList=[32]:=by trivial
def j28(a:List (Str×Str)):(tlR a).cps.toList=(fl2 a).flatMap λu=>32::u.cps.toList:=by
 have b:∀(a:List (Str×Str)) (r:Str),(a.foldl (λr p=>r++Str.ofString " "++p.1++Str.ofString " "++p.2) r).cps.toList=r.cps.toList++(fl2 a).flatMap λu=>32::u.cps.toList:=λa=>by
  induction a with
  | nil=>intro r;show r.cps.toList=r.cps.toList++[];rw[append_nil]
  | cons p s ih=>
   intro r;rw[List.foldl_cons,ih,Jk,Jk,Jk,Jk,j3n];show _=r.cps.toList++(32::p.1.cps.toList++(32::p.2.cps.toList++(fl2 s).flatMap λu=>32::u.cps.toList));simp
 have e:=b a (Str.ofString "");have z:(Str.ofString "").cps.toList=[]:=by trivial
 rw[z,nil_append]at e;exact e
def XW(a:List (Str×Str))(p:Str×Str):tlR (a++[p])=tlR a++Str.ofString " "++p.1++Str.ofString " "++p.2:=by
 unfold tlR;rw[List.foldl_append];rfl
structure D7(d:Mb):Prop where
 g:MbG d
 ok:MbOk d
 L:d.L<=48
 few:∀t,0<=t->(ringsW d.ps d.gs t).length<=1
 wd:∀t,∀x∈ringsW d.ps d.gs t,x.length<=100
 x:W2 d.x
def D7.of{a b c d k:Int}{x:Str}{m:Mb}(B:B7 a b c d k)(M:Mb7 a b c d k x m)(f:W2 x):D7 m:=by
 refine⟨M.g,M.ok,?_,λt g=>M.few B g,λt y e=>?_,by rw[M.x];exact f⟩
 .rw[M.L];have:=B.a;have:=B.b;have:=B.c;have:=B.d;have h:=B.k;rcases(show k=1\/k=2 by lia)with rfl | rfl<;>lia
 .rw[M.ps,M.gs]at e;exact(W2.ok (word7 e)).2.1
def j05{d:Mb}(k:MbG d){y:Int}(a:0<=y):d.R y↔d.x∈ringsW d.ps d.gs (y%d.L):=by
 rw[k.r y a];unfold cntR;have e:(reach d.ps d.gs d.n (y%d.L)).flatMap (ringX d.ps)=ringsW d.ps d.gs (y%d.L):=rfl;rw[e];constructor
 .intro h;exact List.count_pos_iff.mp ⋯
 .intro h;have:=List.count_pos_iff.mpr h;lia
def KS{d:Mb}(k:MbG d)(y:Int):atI ((seenL d).map V.bl) (y%d.L)=some (.bl (decide (d.x∈ringsW d.ps d.gs (y%d.L)))):=by
 have l:=k.L1;have c:=vd y (show d.L≠0 by lia);have e:=ve y (show 0<d.L by lia);obtain⟨n,a⟩:∃n:Nat,y%d.L=(n:Int):=⟨(y%d.L).toNat,⋯⟩
 rw[a];have b:n<d.L.toNat:=⋯
 unfold seenL;exact L2.jM (by rw[v6,vv,List.getElem?_range b];rfl)
def Yb{d:Mb}(k:MbG d):(((seenL d).map V.bl).length:Int)=d.L:=by
 have l:=k.L1;unfold seenL;rw[vt,vt,length_range];lia
def KC{n:Int}(a:0<=n)(b:n<=10^31):WdOk (tI n):=by
 have l:(tI n).length<=32:=toString_length_le a nofun ⋯;refine⟨λe=>?_,⋯,no32 (xV a)⟩;have:=j46 a b;rw[e]at this;exact uh this (by show¬Ws.numV (Str.ofString "") 80 = .int n;rw[show Ws.numV (Str.ofString "") 80 = .non by trivial];exact λz=>by cases z)
def j5P{C:Addr}{H:Hp}{Q:VK}{E:XK}{h p b:Addr}{g:List (Key×V)}{name:Str}{d:Mb}(D:DeskAt C H h p g)(r:WdOk name)(v:valV g (Sum.inr name)=some (.ref b))(B:BkA H b d)(k:MbG d)(q:∀H',Same H H'->Q (.str (tI d.L)) H'):sp_sayM C [.ref h,.str (Str.ofString "length "++name)] H Q E:=by
 let⟨s,t,l,m,B⟩:=B;have e:(Str.ofString "length ").cps.toList=(Str.ofString "length").cps.toList++[32]:=by trivial
 have y:=r.n;refine⟨h,p,g,_,"length",[name],["name"],[.str name],[.ref b],rfl,D,kM ?_,?_,.inl ⟨name,rfl,rfl⟩,λx j=>?_,⟨rfl,rfl,λi k w u a c f=>?_⟩,⟨rfl,λi k u o a c f=>?_⟩,.inl ⟨rfl,b,s,t,l,m,_,_,_,d.hs,rfl,B,k.ms.sn.s,k.ms.sn.ne,q⟩⟩
 .rw[Jk,e,List.append_assoc];simp
 .rw[Str.length_append];have:(Str.ofString "length ").length=7:=by trivial
  lia
 .rcases mem_cons.mp j with rfl | j
  .exact⟨by trivial,by trivial,by trivial⟩
  .rw[vo.mp j];exact r
 .match i,a,c,f with
  | 0,a,c,f=>
   cases a;cases c;cases f;exact .inr ⟨by trivial,rfl⟩
  | n+1,a,_,_=>exact nomatch a
 .match i,a,c,f with
  | 0,a,c,f=>
   cases a;cases c;cases f;exact .inl ⟨rfl,name,b,rfl,v,rfl⟩
  | n+1,a,_,_=>exact nomatch a
def j5S{C:Addr}{H:Hp}{Q:VK}{E:XK}{l r b:Addr}{j:List (Key×V)}{name:Str}{d:Mb}{t:Int}(D:DeskAt C H l r j)(s:WdOk name)(F:valV j (Sum.inr name)=some (.ref b))(B:BkA H b d)(k:D7 d)(h:0<=t)(A:t<=d.L)(q:∀H',Same H H'->Q (.str (ansW (ringsW d.ps d.gs t))) H'):sp_sayM C [.ref l,.str (Str.ofString "rings "++name++Str.ofString " "++tI t)] H Q E:=by
 let⟨y,z,m,p,B⟩:=B;have e:(Str.ofString "rings ").cps.toList=(Str.ofString "rings").cps.toList++[32]:=by trivial
 have I:=s.n;have G:=k.L;have v:=KC h (show t<=10^31 by lia);have J:=v.n;refine⟨l,r,j,_,"rings",[name,tI t],["name","number"],[.str name,.int t],[.ref b,.int t],rfl,D,kM ?_,?_,.inr (.inl ⟨name,tI t,rfl,rfl⟩),λx g=>?_,⟨rfl,rfl,λi k w u a c f=>?_⟩,⟨rfl,λi k u o a c f=>?_⟩,.inr (.inl ⟨rfl,b,y,z,m,p,_,_,_,d.hs,t,rfl,B,k.g.ms.sn,h,A,k.few t h,k.wd t,q⟩)⟩
 .rw[Jk,Jk,Jk,e,j3n];simp
 .rw[Str.length_append,Str.length_append,Str.length_append];have:(Str.ofString "rings ").length=6:=by trivial
  have:(Str.ofString " ").length=1:=by trivial
  lia
 .rcases mem_cons.mp g with rfl | g
  .exact⟨by trivial,by trivial,by trivial⟩
  .rcases mem_cons.mp g with rfl | g
   .exact s
   .rw[vo.mp g];exact v
 .match i,a,c,f with
  | 0,a,c,f=>
   cases a;cases c;cases f;exact .inr ⟨by trivial,rfl⟩
  | 1,a,c,f=>
   cases a;cases c;cases f;exact .inl ⟨rfl,t,h,⋯,rfl,rfl⟩
  | n+2,a,_,_=>exact nomatch a
 .match i,a,c,f with
  | 0,a,c,f=>
   cases a;cases c;cases f;exact .inl ⟨rfl,name,b,rfl,F,rfl⟩
  | 1,a,c,f=>
   cases a;cases c;cases f;exact .inr ⟨by trivial,rfl⟩
  | n+2,a,_,_=>exact nomatch a
def j5Q{C:Addr}{H:Hp}{Q:VK}{E:XK}{y F h j:Addr}{r:List (Key×V)}{q1 q2:Str×Str}{f g:Mb}{t:Int}(D:DeskAt C H y F r)(m:valV r (Sum.inr q1.1)=some (.ref h)/\q1.2=f.x/\WdOk q1.1)(p:valV r (Sum.inr q2.1)=some (.ref j)/\q2.2=g.x/\WdOk q2.1)(M:All2 (BkA H) [h,j] [f,g])(k:∀d∈[f,g],D7 d)(A:0<=t)(B:t<=10^31)(q:∀(v:V) (H':Hp),Same H H'->MeetR [f,g] t v->Q (.str (ansM v)) H'):sp_sayM C [.ref y,.str (Str.ofString "meet "++tI t++tlR [q1,q2])] H Q E:=by
 have e:(Str.ofString "meet ").cps.toList=(Str.ofString "meet").cps.toList++[32]:=by trivial
 have J:=KC A B;have K:WdOk q1.2:=by rw[m.2.1];exact(k f (by simp)).x.ok.2.2.2
 have L:WdOk q2.2:=by rw[p.2.1];exact(k g (by simp)).x.ok.2.2.2
 have G:(Str.ofString "meet "++tI t++tlR [q1,q2]).cps.toList=(Str.ofString "meet").cps.toList++([tI t,q1.1,q1.2,q2.1,q2.2]:N3).flatMap λu=>32::u.cps.toList:=by
  rw[Jk,Jk,j28,e];simp[fl2]
 have O:(Str.ofString "meet "++tI t++tlR [q1,q2]).length<=2000:=by
  have l:=congrArg List.length G;have P:(Str.ofString "meet").cps.toList.length=4:=by trivial
  simp only[List.length_append,flatMap_cons,flatMap_nil,length_cons,length_nil,P]at l;have z:∀s:Str,s.cps.toList.length=s.length:=λ_=>rfl
  simp only[z]at l;have:=J.n;have:=K.n;have:=m.2.2.n;have:=L.n;have:=p.2.2.n;lia
 refine⟨y,F,r,_,"meet",[tI t,q1.1,q1.2,q2.1,q2.2],["number","name","word","name","word"],[.int t,.str q1.1,.str q1.2,.str q2.1,.str q2.2],[.int t,.ref h,.str q1.2,.ref j,.str q2.2],rfl,D,kM G,O,.inr (.inr (.inl ⟨_,_,_,_,_,rfl,rfl⟩)),λx I=>?_,⟨rfl,rfl,λi k w u a b c=>?_⟩,⟨rfl,λi k u o a b c=>?_⟩,.inr (.inr ⟨rfl,t,[h,j],[f,g],?_,M,(by simp),λd N=>(k d N).ok,A,B,q⟩)⟩
 .simp only[mem_cons,not_mem_nil,or_false]at I;rcases I with rfl | rfl | rfl | rfl | rfl | rfl
  .exact⟨by trivial,by trivial,by trivial⟩
  .exact J
  .exact m.2.2
  .exact K
  .exact p.2.2
  .exact L
 .match i,a,b,c with
  | 0,a,b,c=>
   cases a;cases b;cases c;exact .inl ⟨rfl,t,A,B,rfl,rfl⟩
  | 1,a,b,c=>
   cases a;cases b;cases c;exact .inr ⟨by trivial,rfl⟩
  | 2,a,b,c=>
   cases a;cases b;cases c;exact .inr ⟨by trivial,rfl⟩
  | 3,a,b,c=>
   cases a;cases b;cases c;exact .inr ⟨by trivial,rfl⟩
  | 4,a,b,c=>
   cases a;cases b;cases c;exact .inr ⟨by trivial,rfl⟩
  | n+5,a,_,_=>exact nomatch a
 .match i,a,b,c with
  | 0,a,b,c=>
   cases a;cases b;cases c;exact .inr ⟨by trivial,rfl⟩
  | 1,a,b,c=>
   cases a;cases b;cases c;exact .inl ⟨rfl,q1.1,h,rfl,m.1,rfl⟩
  | 2,a,b,c=>
   cases a;cases b;cases c;exact .inr ⟨by trivial,rfl⟩
  | 3,a,b,c=>
   cases a;cases b;cases c;exact .inl ⟨rfl,q2.1,j,rfl,p.1,rfl⟩
  | 4,a,b,c=>
   cases a;cases b;cases c;exact .inr ⟨by trivial,rfl⟩
  | n+5,a,_,_=>exact nomatch a
 .rw[m.2.1,p.2.1];rfl
def j5R{C:Addr}{H:Hp}{Q:VK}{E:XK}{F J j m p:Addr}{r:List (Key×V)}{q1 q2 q3:Str×Str}{f g h:Mb}{t:Int}(D:DeskAt C H F J r)(y:valV r (Sum.inr q1.1)=some (.ref j)/\q1.2=f.x/\WdOk q1.1)(A:valV r (Sum.inr q2.1)=some (.ref m)/\q2.2=g.x/\WdOk q2.1)(B:valV r (Sum.inr q3.1)=some (.ref p)/\q3.2=h.x/\WdOk q3.1)(R:All2 (BkA H) [j,m,p] [f,g,h])(k:∀d∈[f,g,h],D7 d)(G:0<=t)(I:t<=10^31)(q:∀(v:V) (H':Hp),Same H H'->MeetR [f,g,h] t v->Q (.str (ansM v)) H'):sp_sayM C [.ref F,.str (Str.ofString "meet "++tI t++tlR [q1,q2,q3])] H Q E:=by
 have e:(Str.ofString "meet ").cps.toList=(Str.ofString "meet").cps.toList++[32]:=by trivial
 have M:=KC G I;have N:WdOk q1.2:=by rw[y.2.1];exact(k f (by simp)).x.ok.2.2.2
 have O:WdOk q2.2:=by rw[A.2.1];exact(k g (by simp)).x.ok.2.2.2
 have P:WdOk q3.2:=by rw[B.2.1];exact(k h (by simp)).x.ok.2.2.2
 have K:(Str.ofString "meet "++tI t++tlR [q1,q2,q3]).cps.toList=(Str.ofString "meet").cps.toList++([tI t,q1.1,q1.2,q2.1,q2.2,q3.1,q3.2]:N3).flatMap λu=>32::u.cps.toList:=by
  rw[Jk,Jk,j28,e];simp[fl2]
 have T:(Str.ofString "meet "++tI t++tlR [q1,q2,q3]).length<=2000:=by
  have l:=congrArg List.length K;have U:(Str.ofString "meet").cps.toList.length=4:=by trivial
  simp only[List.length_append,flatMap_cons,flatMap_nil,length_cons,length_nil,U]at l;have z:∀s:Str,s.cps.toList.length=s.length:=λ_=>rfl
  simp only[z]at l;have:=M.n;have:=N.n;have:=y.2.2.n;have:=O.n;have:=A.2.2.n;have:=P.n;have:=B.2.2.n;lia
 refine⟨F,J,r,_,"meet",[tI t,q1.1,q1.2,q2.1,q2.2,q3.1,q3.2],["number","name","word","name","word","name","word"],[.int t,.str q1.1,.str q1.2,.str q2.1,.str q2.2,.str q3.1,.str q3.2],[.int t,.ref j,.str q1.2,.ref m,.str q2.2,.ref p,.str q3.2],rfl,D,kM K,T,.inr (.inr (.inr ⟨_,_,_,_,_,_,_,rfl,rfl⟩)),λx L=>?_,⟨rfl,rfl,λi k w u a b c=>?_⟩,⟨rfl,λi k u o a b c=>?_⟩,.inr (.inr ⟨rfl,t,[j,m,p],[f,g,h],?_,R,(by simp),λd S=>(k d S).ok,G,I,q⟩)⟩
 .simp only[mem_cons,not_mem_nil,or_false]at L;rcases L with rfl | rfl | rfl | rfl | rfl | rfl | rfl | rfl
  .exact⟨by trivial,by trivial,by trivial⟩
  .exact M
  .exact y.2.2
  .exact N
  .exact A.2.2
  .exact O
  .exact B.2.2
  .exact P
 .match i,a,b,c with
  | 0,a,b,c=>
   cases a;cases b;cases c;exact .inl ⟨rfl,t,G,I,rfl,rfl⟩
  | 1,a,b,c=>
   cases a;cases b;cases c;exact .inr ⟨by trivial,rfl⟩
  | 2,a,b,c=>
   cases a;cases b;cases c;exact .inr ⟨by trivial,rfl⟩
  | 3,a,b,c=>
   cases a;cases b;cases c;exact .inr ⟨by trivial,rfl⟩
  | 4,a,b,c=>
   cases a;cases b;cases c;exact .inr ⟨by trivial,rfl⟩
  | 5,a,b,c=>
   cases a;cases b;cases c;exact .inr ⟨by trivial,rfl⟩
  | 6,a,b,c=>
   cases a;cases b;cases c;exact .inr ⟨by trivial,rfl⟩
  | n+7,a,_,_=>exact nomatch a
 .match i,a,b,c with
  | 0,a,b,c=>
   cases a;cases b;cases c;exact .inr ⟨by trivial,rfl⟩
  | 1,a,b,c=>
   cases a;cases b;cases c;exact .inl ⟨rfl,q1.1,j,rfl,y.1,rfl⟩
  | 2,a,b,c=>
   cases a;cases b;cases c;exact .inr ⟨by trivial,rfl⟩
  | 3,a,b,c=>
   cases a;cases b;cases c;exact .inl ⟨rfl,q2.1,m,rfl,A.1,rfl⟩
  | 4,a,b,c=>
   cases a;cases b;cases c;exact .inr ⟨by trivial,rfl⟩
  | 5,a,b,c=>
   cases a;cases b;cases c;exact .inl ⟨rfl,q3.1,p,rfl,B.1,rfl⟩
  | 6,a,b,c=>
   cases a;cases b;cases c;exact .inr ⟨by trivial,rfl⟩
  | n+7,a,_,_=>exact nomatch a
 .rw[y.2.1,A.2.1,B.2.1];rfl
inductive sp_seenM(C:Addr)(vs:N6)(H:Hp)(Q:VK)(xk:XK):Prop
 | mk (dk bd b:Addr) (bs:List (Key×V)) (name:Str) (d:Mb) (_:vs=[.ref dk,.str name,.int d.L,.str d.x]) (_:DeskAt C H dk bd bs) (_:WdOk name) (_:valV bs (Sum.inr name)=some (.ref b)) (_:BkA H b d) (_:D7 d) (_:∀(p:Addr) (H':Hp),Same H H'->H p=none->H' p=some (.lst ((seenL d).map V.bl))->Q (.ref p) H'):sp_seenM C vs H Q xk
inductive sp_multM(vs:N6)(H:Hp)(Q:VK)(xk:XK):Prop
 | mk (a b:Int) (_:vs=[.int a,.int b]) (_:1<=a) (_:a<=10^6) (_:1<=b) (_:b<=100) (_:∀w:Int,1<=w->w<=a*b->a ∣ w->b ∣ w->Q (.int w) H):sp_multM vs H Q xk
def SeenM(H:Hp)(s:Addr)(d:Mb):Prop:=H s=some (.lst ((seenL d).map V.bl))
inductive sp_dueM(vs:N6)(H:Hp)(Q:VK)(xk:XK):Prop
 | mk (p:Addr) (t:Int) (sas:N2) (ds:List Mb) (_:vs=[.ref p,.int t]) (_:H p=some (.lst (sas.map V.ref))) (_:All2 (SeenM H) sas ds) (_:(ds.length=2\/ds.length=3)) (_:(∀d∈ds,D7 d)) (_:0<=t) (_:t<=10^31) (_:∀v:V,LsR (λy=>∀d∈ds,d.R y) t v->Q (.str (ansM v)) H):sp_dueM vs H Q xk
inductive sp_textM(vs:N6)(H:Hp)(Q:VK)(xk:XK):Prop
 | mk (c m:Int) (_:vs=[.int c,.int m]) (_:1<=m) (_:m<=6) (_:∀H',Same H H'->Q (.str (Txt.join "\n" (rows7 c m))) H'):sp_textM vs H Q xk
noncomputable def nL7:N3:=["one","two","six"]
structure LW(C:Addr)(H:Hp)(dk bd sp wp:Addr)(bs:List (Key×V))(sv wv:N6)(nms:N3)(bas sas:N2)(ds:List Mb):Prop where
 o:∃dx,H dk=some (.ins C dx (putF "books" (.ref bd) []))
 b:H bd=some (.dK bs)
 s:H sp=some (.lst sv)
 w:H wp=some (.lst wv)
 sn:All2 (λs d=>H s=some (.lst ((seenL d).map V.bl))/\s≠sp/\s≠wp) sas ds
 bk:All2 (BkQ sp wp bd H) bas ds
 k:∀d∈ds,D7 d
 n:nms.length=ds.length
 vb:∀(i:Nat) (x:Str) (a:Addr),nms[i]?=some x->bas[i]?=some a->valV bs (Sum.inr x)=some (.ref a)
 ne:sp≠wp
def LW.desk{C:Addr}{H:Hp}{f d sp h:Addr}{e:List (Key×V)}{g i:N6}{b:N3}{a c:N2}{ds:List Mb}(L:LW C H f d sp h e g i b a c ds):DeskAt C H f d e:=⟨L.o,L.b⟩
def LW.to{C:Addr}{H H':Hp}{p l sp m:Addr}{q f:List (Key×V)}{w z sv' wv':N6}{g:N3}{b j:N2}{ds:List Mb}(L:LW C H p l sp m q w z g b j ds)
  (k:∀c u,c≠sp->c≠m->c≠l->H c=some u->H' c=some u) (s:H' l=some (.dK f)) (y:∀(i:Nat) (x:Str) (a:Addr),g[i]?=some x->b[i]?=some a->valV f (Sum.inr x)=some (.ref a)) (t:H' sp=some (.lst sv')) (hw:H' m=some (.lst wv')):LW C H' p l sp m f sv' wv' g b j ds:=by
 let⟨r,o⟩:=L.o;have v:∀c n,H c=some (.tup n)->H' c=some (.tup n):=λc n h=>k _ _ (JE h L.s (λe=>by cases e)) (JE h L.w (λe=>by cases e)) (JE h L.b (λe=>by cases e)) h
 refine⟨⟨r,k _ _ (JE o L.s (λe=>by cases e)) (JE o L.w (λe=>by cases e)) (JE o L.b (λe=>by cases e)) o⟩,s,t,hw,All2.mono L.sn λa d h=>⟨k _ _ h.2.1 h.2.2 (JE h.1 L.b (λe=>by cases e)) h.1,h.2⟩,All2.mono L.bk λa d h=>h.keep v k,L.k,L.n,y,L.ne⟩
def LW.same{C:Addr}{H H':Hp}{f d sp i:Addr}{e:List (Key×V)}{g j:N6}{b:N3}{a c:N2}{ds:List Mb}(L:LW C H f d sp i e g j b a c ds)(s:Same H H'):LW C H' f d sp i e g j b a c ds:=
 L.to (λ_ _ _ _ _ h=>s _ _ h) (s _ _ L.b) L.vb (s _ _ L.s) (s _ _ L.w)
def LW.put{C:Addr}{H H':Hp}{r m sp t b pl s:Addr}{q:List (Key×V)}{w z:N6}{j:N3}{l p:N2}{ds:List Mb}{x:Str}{n o:N2}{d:Mb}(L:LW C H r m sp t q w z j l p ds)(F:x∉j)
  (k:∀c u,c≠m->H c=some u->H' c=some u) (D:DeskAt C H' r m (putK q (Sum.inr x) (.ref b))) (f:H pl=none) (g:H s=none) (B:BookAt H' b pl s n o d.ls d.ps):LW C H' r m sp t (putK q (Sum.inr x) (.ref b)) w z j l p ds/\BkQ sp t m H' b d:=by
 refine⟨L.to (λc u _ _ h A=>k c u h A) D.b (λi y a v E=>?_) (k _ _ (JE L.s L.b (λe=>by cases e)) L.s) (k _ _ (JE L.w L.b (λe=>by cases e)) L.w),pl,s,n,o,B,⟨?_,?_,?_⟩,?_,?_,?_⟩
 .rw[XZ,va]
  .exact L.vb i y a v E
  .exact λe=>F (Sum.inr.inj e▸vj v)
 .exact λe=>by rw[e,L.s]at f;cases f
 .exact λe=>by rw[e,L.w]at f;cases f
 .exact λe=>by rw[e,L.b]at f;cases f
 .exact λe=>by rw[e,L.s]at g;cases g
 .exact λe=>by rw[e,L.w]at g;cases g
 .exact λe=>by rw[e,L.b]at g;cases g
def LW.word{C:Addr}{H:Hp}{j g sp f:Addr}{i:List (Key×V)}{k m wv':N6}{b:N3}{a d:N2}{ds:List Mb}(L:LW C H j g sp f i k m b a d ds):LW C (upd H f (.lst wv')) j g sp f i k wv' b a d ds:=
 L.to (λc u _ h _ l=>(je h).trans l) ((je (JE L.b L.w (λe=>by cases e))).trans L.b) L.vb ((je L.ne).trans L.s) jm
def LW.seen{C:Addr}{H:Hp}{i f sp j:Addr}{g:List (Key×V)}{m sv' k:N6}{b:N3}{a d:N2}{ds:List Mb}(L:LW C H i f sp j g m k b a d ds):LW C (upd H sp (.lst sv')) i f sp j g sv' k b a d ds:=
 L.to (λc u h _ _ l=>(je h).trans l) ((je (JE L.b L.s (λe=>by cases e))).trans L.b) L.vb jm ((je L.ne.symm).trans L.w)
def LW.snoc{C:Addr}{H:Hp}{t o sp n b s:Addr}{p:List (Key×V)}{u v:N6}{f:N3}{g l:N2}{ds:List Mb}{x:Str}{d:Mb}(L:LW C H t o sp n p u v f g l ds)(q:BkQ sp n o H b d)(z:H s=some (.lst ((seenL d).map V.bl)))(A:s≠sp)(B:s≠n)(k:D7 d)(E:valV p (Sum.inr x)=some (.ref b)):LW C H t o sp n p u v (f++[x]) (g++[b]) (l++[s]) (ds++[d]):=by
 have bl:=L.bk.1;have D:=L.n;refine⟨L.o,L.b,L.s,L.w,All2.snoc L.sn ⟨z,A,B⟩,All2.snoc L.bk q,λe w=>?_,by rw[vm,vm,D];rfl,λi y a j m=>?_,L.ne⟩
 .rcases vg.mp w with h | h
  .exact L.k e h
  .rw[vo.mp h];exact k
 .by_cases c:i<f.length
  .rw[vD c]at j;rw[vD ⋯]at m;exact L.vb i y a j m
  .have r:=(vx.mp j).1;rw[vm]at r;have r:i<f.length+1:=r;have e:i=f.length:=⋯
   subst e;rw[vE (vA _),Nat.sub_self]at j;rw[vE ⋯,show f.length-g.length=0 by lia]at m;cases j;cases m;exact E
def BkQ.a{p q r:Addr}{H:Hp}{b:Addr}{d:Mb}(h:BkQ p q r H b d):BkA H b d:=by
 let⟨e,f,a,c,B,_⟩:=h;exact⟨e,f,a,c,B⟩
def int48{n:Int}(a:0<=n)(b:n<=48):intText? (tI n)=some n/\(tI n).length<=100:=by
 have:∀k:Nat,k<49->intText? (tI (k:Int))=some (k:Int)/\(tI (k:Int)).length<=100:=by trivial
 have e:=this n.toNat ⋯;rw[Int.toNat_of_nonneg a]at e;exact e
def j40{i:Nat}(h:i<3):∃x,atI [V.str "one",V.str "two",V.str "six"] (i:Int)=some (.str x)/\nL7[i]?=some x/\WdOk x/\Ws.isW x=true/\x∉nL7.take i:=by
 have w:∀x∈nL7,(x≠""/\x.length<=100/\32∉x.cps.toList)/\Ws.isW x=true:=by trivial
 have g:∀x∈nL7,WdOk x/\Ws.isW x=true:=λx a=>⟨⟨(w x a).1.1,(w x a).1.2.1,(w x a).1.2.2⟩,(w x a).2⟩
 rcases(show i=0\/i=1\/i=2 by lia)with rfl | rfl | rfl
 .exact⟨"one",rfl,rfl,(g _ (by trivial)).1,(g _ (by trivial)).2,by trivial⟩
 .exact⟨"two",rfl,rfl,(g _ (by trivial)).1,(g _ (by trivial)).2,by trivial⟩
 .exact⟨"six",rfl,rfl,(g _ (by trivial)).1,(g _ (by trivial)).2,by trivial⟩
def j76{i:Nat}(h:i<3):∃m:Int,atI [V.int 6,V.int 6,V.int 2] (i:Int)=some (.int m)/\1<=m/\m<=6:=by
 rcases(show i=0\/i=1\/i=2 by lia)with rfl | rfl | rfl
 .exact⟨6,rfl,by decide,by decide⟩
 .exact⟨6,rfl,by decide,by decide⟩
 .exact⟨2,rfl,by decide,by decide⟩
def j7i(c:Int):∃x,atI [V.str "bell",V.str "gong"] (c%2)=some (.str x)/\W2 x:=by
 rcases(show c%2=0\/c%2=1 by lia)with e | e<;>rw[e]
 .exact⟨_,rfl,.inl rfl⟩
 .exact⟨_,rfl,.inr rfl⟩
def LW.meet{C:Addr}{H:Hp}{l o sp u:Addr}{p:List (Key×V)}{s w:N6}{b:N3}{c i:N2}{ds:List Mb}(L:LW C H l o sp u p s w b c i ds)(e:ds.length=2\/ds.length=3)(f:∀x∈b,WdOk x){t:Int}(m:0<=t)(n:t<=10^31){Q:VK}{E:XK}(q:∀(v:V) (H':Hp),Same H H'->MeetR ds t v->Q (.str (ansM v)) H'):sp_sayM C [.ref l,.str (Str.ofString "meet "++tI t++tlR (b.zip (ds.map (·.x))))] H Q E:=by
 have bl:=L.bk.1;have r:=L.n;have g:=L.vb;have k:=L.k;have D:=L.desk;have j:All2 (BkA H) c ds:=All2.mono L.bk λa d h=>h.a
 clear L
 match ds,c,b,bl,r with
 | [d1,d2],[a1,a2],[x1,x2],_,_=>exact j5Q (q1:=(x1,d1.x)) (q2:=(x2,d2.x)) D ⟨g 0 _ _ rfl rfl,rfl,f _ (by simp)⟩ ⟨g 1 _ _ rfl rfl,rfl,f _ (by simp)⟩ j k m n q
 | [d1,d2,d3],[a1,a2,a3],[x1,x2,x3],_,_=>exact j5R (q1:=(x1,d1.x)) (q2:=(x2,d2.x)) (q3:=(x3,d3.x)) D ⟨g 0 _ _ rfl rfl,rfl,f _ (by simp)⟩ ⟨g 1 _ _ rfl rfl,rfl,f _ (by simp)⟩ ⟨g 2 _ _ rfl rfl,rfl,f _ (by simp)⟩ j k m n q
 | [],_,_,_,_=>simp at e
 | [_],_,_,_,_=>simp at e
 | _::_::_::_::_,_,_,_,_=>simp at e
end Rm
namespace L2
inductive IvA2(a0 a1:Prop):Prop | mk:a0->a1->IvA2 a0 a1
inductive IvA3(a0 a1 a2:Prop):Prop | mk:a0->a1->a2->IvA3 a0 a1 a2
inductive IvA4(a0 a1 a2 a3:Prop):Prop | mk:a0->a1->a2->a3->IvA4 a0 a1 a2 a3
inductive IvA5(a0 a1 a2 a3 a4:Prop):Prop | mk:a0->a1->a2->a3->a4->IvA5 a0 a1 a2 a3 a4
inductive IvA6(a0 a1 a2 a3 a4 a5:Prop):Prop | mk:a0->a1->a2->a3->a4->a5->IvA6 a0 a1 a2 a3 a4 a5
inductive IvA7(a0 a1 a2 a3 a4 a5 a6:Prop):Prop | mk:a0->a1->a2->a3->a4->a5->a6->IvA7 a0 a1 a2 a3 a4 a5 a6
inductive IvE1{α0:Type}(p:α0->Prop):Prop | mk (x0) (h:p x0):IvE1 p
inductive IvE2{α0 α1:Type}(p:α0->α1->Prop):Prop | mk (x0 x1) (h:p x0 x1):IvE2 p
inductive IvE3{α0 α1 α2:Type}(p:α0->α1->α2->Prop):Prop | mk (x0 x1 x2) (h:p x0 x1 x2):IvE3 p
inductive IvE4{α0 α1 α2 α3:Type}(p:α0->α1->α2->α3->Prop):Prop | mk (x0 x1 x2 x3) (h:p x0 x1 x2 x3):IvE4 p
inductive IvE5{α0 α1 α2 α3 α4:Type}(p:α0->α1->α2->α3->α4->Prop):Prop | mk (x0 x1 x2 x3 x4) (h:p x0 x1 x2 x3 x4):IvE5 p
inductive IvE6{α0 α1 α2 α3 α4 α5:Type}(p:α0->α1->α2->α3->α4->α5->Prop):Prop | mk (x0 x1 x2 x3 x4 x5) (h:p x0 x1 x2 x3 x4 x5):IvE6 p
inductive IvE7{α0 α1 α2 α3 α4 α5 α6:Type}(p:α0->α1->α2->α3->α4->α5->α6->Prop):Prop | mk (x0 x1 x2 x3 x4 x5 x6) (h:p x0 x1 x2 x3 x4 x5 x6):IvE7 p
inductive IvE8{α0 α1 α2 α3 α4 α5 α6 α7:Type}(p:α0->α1->α2->α3->α4->α5->α6->α7->Prop):Prop | mk (x0 x1 x2 x3 x4 x5 x6 x7) (h:p x0 x1 x2 x3 x4 x5 x6 x7):IvE8 p
end L2
def L2.fsc(a:sc.kind = .function:=by rfl)(b:sc.isCoroutine=false:=by rfl)(c:sc.isGenerator=false:=by rfl)(d:N.Nodup:=by trivial)(e:N.take P.length=P:=by rfl)(f:∀x∈P,sc.names.lookup x=some .local\/sc.names.lookup x=some .cell:=by trivial)(g:∀y∈sc.names,y.2≠.free:=by trivial):L2.FnScope N P sc:=⟨a,b,c,d,e,f,g⟩
structure PySem.W.Fast:Prop where
  (tw1062203834652884052 tw11464076111533179863 tw2385908292314232441 tw2000883872455416322 tw15046313469181809389 tw18246086678837606045 tw11924386921012729547 tw15188460659516235309 tw8690747950063737170 tw4534691025224092014 tw17035548981820134124 tw14047580991941119467 tw17367068576216809653 tw10092210799203773510 tw7859031448872953544 tw7477363154011841859 tw14228928737685628406 tw8615119483661341139 tw2904824930483376332 tw9637520505643648241 tw9851983747417249271 tw14472562423840908407 tw14475416549561742483 tw6876639239048234272 tw14584063246862279745 tw12062269852069356376 tw15128903937420761800 tw10803537712875019808 tw6241144970535144121 tw758285757306354695 tw17308783640246629872 tw1863983335669822214 tw16969003078343738673 tw14219146396335111917 tw13987567655834048493 tw10801660842402628896 tw10822160637123776084 tw12052217562401553275 tw17890469373940695093 tw8166061867556642063 tw2786199580747492212 tw10405683393426573695 tw7131797138446589498 tw1626508734928463007 tw89876543529055359 tw14006643503706931281 tw11802843990854271616 tw18078758847772506963 tw14460293536634939866 tw12132201134165317680 tw16990779575315051492 tw17541399344557281815 tw4603893727819160129 tw11282963982062185740 tw1298858480370387669 tw17295348794661145719 tw5983234126822870263 tw16122283341746575384 tw8604719629683573993 tw13378944461448330855 tw15154146421282830833 tw15358274857257219831 tw5739887634108058666 tw5123206142971173988 tw6694249384334368911 tw13764584152731356900 tw10611871517481447095 tw6915804304879330484 tw4424556737047133073 tw17701994938472210146 tw9772746642891765504 tw12982312680303976701 tw10215188179778788150 tw17218778251162701634 tw2452070537143970779 tw13972254412459946343 tw3229633781159855684 tw12299832590555137233 tw1620996359353465561 tw859923033498865656 tw5313768966448508019 tw3313739671197776771 tw462821133072690845 tw528768832632309847 tw3070072672639285490 tw8426161590150355954 tw8577579647000073585 tw13221217505719346206 tw12437723853922160990 tw4817276475416778484 tw1651549148877269046 tw12723890212459818255 tw6652562402134771158 tw16979467763591319575 tw9359472071815084583 tw17845906631049726577 tw15222730597606036745 tw2525958283695521300 tw5259977848634400962 tw18204542983851733335 tw7390205865613969333 tw17816998180503076512 tw15544930179654797226 tw8050136850487277060 tw7042968114006053075 tw3580076627100289787 tw11287140645262345851 tw10791364482808214775 tw1475635479494325909 tw2272345203148684088 tw16171699909099488792 tw9618296788971637200 tw17694912240352667747 tw5708350205658834501 tw3872077510493105243 tw4863085760207150364 tw12356013091507928229 tw7689065131712093946 tw7819719621721731928 tw14861042963032120101 tw3495493692547758176 tw14373396184122914762 tw17752830065462016096 tw11509399206269264668 tw17043463941115032133 tw12941036613831560973 tw8445931424344146049 tw3152881761348470315 tw15207610841424151150 tw10203546412327026916 tw10281440622595374411 tw2130676848553716743 tw1407418253985694138 tw14923151892856453215 tw15949581566631954586 tw8599941575216572630 tw8792974373415170928 tw6709136624925237098 tw13685925492238122460 tw12845536978049091061 tw7431617049595898129 tw16348585659377041622 tw8748540346595739157 tw8753421699480699005 tw8972889136359852501 tw5849155663962992760 tw13292322370144088838 tw12194223367034569988 tw2700932395288885007 tw11626236341481108914 tw14333267466917437327 tw7249289961053118071 tw12033823353463956383 tw3359929002196837357 tw16007538040487715061 tw952168375666199693 tw11355211150065673139 tw16038873771981280978 tw17577128315304591413 tw16524036327647542403 tw4723262126270846655 tw15744598052018462104 tw7546823338454605475 tw16324221197428504162 tw8675224809427324300 tw15799725922626434890 tw18134132571604482562 tw14102538331399476949 tw14171433791932315829 tw5863004539551845359 tw15479741004594576323 tw11343881302781064155 tw13548116964236076834 tw10859911669553087258 tw4378899061266745841 tw14794626414502965046 tw9657265675952387339 tw3343046199675160498 tw1929239300406409131 tw191547466156954986 tw9985114745795496631 tw8117142506405692139 tw2054312193259170458 tw3789988011700917454 tw17976107344650569179 tw3186880383816342492 tw14678196867086082253 tw4759884318170790346 tw15952710570025642643 tw8040078556540595751 tw491918628653375587 tw5616008294982587277 tw10537698313515956035 tw51440687097942978 tw16093302973206526095 tw17959887494525494289 tw1753662022471859873 tw12661816212997961563 tw4365804399148724975 tw18107016501089424891 tw12452206019947570857 tw14488051084567831906 tw12361884199674692600 tw9383295521147280295 tw11710254357066512114 tw919529981528649232 tw3267291930529499514 tw1227837104436652726 tw5669225305173001142 tw9779004373319291956 tw16932967873264319196 tw1104120662630927889 tw7530445491090424004 tw17520533001956761623 tw1784779276890022871 tw15493880059234452724 tw13830227118974243671 tw17510660725077526404 tw598721564227067124 tw8882279979195473014 tw3491893098271231619 tw13716483514439773639 tw15115913713745204672 tw15941627252799135342 tw9633900973362944677 tw5002376574765088856 tw7933118437024265154 tw12460934336648227107 tw7126322132696060150 tw14340524241170598559 tw11207579048634652124 tw4720357778702850115 tw17930755265649194561 tw13078259726574777331 tw10572152090984931429 tw12023511068722491323 tw17096728037116223200 tw2728748477264265597 tw17811560070230237514 tw3717248554364976501 tw8127625585491872798 tw15090124902006138443 tw14092839783356398406 tw3673162551870211288 tw3835532798181855709 tw2756035173117996289 tw736842442364908512 tw2618119515485567980 tw17385493851247777920 tw4657179683482257094 tw1168049376810718914 tw821062511788678205 tw11697553687817985095 tw5458620335874536453 tw3116205285027369932 tw9112375590112237100 tw17437197254317628592 tw9846081956703137253 tw17102030731237797488 tw5407288599313962754 tw1890988849872734465 tw18317028927501847924 tw11737803277254500824 tw9552405707690837022 tw14992300682897716160 tw5958549912782937003 tw13576520676069482524 tw5362747152901531627 tw2971520386483410694 tw15336446245536447258 tw4721685513732713823 tw17942523676245628598 tw3084838293644406872 tw16225516725009914070 tw8701615687260539015 tw942552845784356301 tw9441265085228107172 tw7266589785769168487 tw6210466020192340037 tw9745619028470998581 tw7290420660953950251 tw11729631238624700233 tw9275508977933491431 tw16833249639440972137 tw2685577407106018708 tw1488862304920422979 tw7193010695689916866 tw18415423687688832692 tw11661890779901729344 tw10979100200395939816 tw14640409843057718985 tw7161079711834703773 tw6760308443840715610 tw8347531266158350581 tw708951052337971883 tw18004963857920269826 tw6470337892350559376 tw8028731954617187676 tw14893525959183879382 tw13694121761054044620 tw12713445771862557461 tw8524329107164553866 tw11147506890881555030 tw2585636503967288883 tw8654322698818044612 tw15868657228803920634 tw94797914510106862 tw11454167080223919798 tw2135660968501007193 tw7710539389223114222 tw456769325488636918 tw15816190909612230146 tw8360837887061083177 tw4204742076377212428 tw15280930109095110740 tw8630405755197097956 tw5619893644557483012 tw519491002374421853 tw11991558194868174705 tw15998316428392258767 tw8489741753762166806 tw4397957102165970080 tw11182081535139202117 tw8258913174786376071 tw7915068136200080623 tw17220417963604747379 tw1886960215860555394 tw16014582157464824794 tw15581706849984229618 tw14463520609352977976 tw10714526235538042030 tw17974084070174643275 tw18231861990942129580 tw169359031975296415 tw5013469819762581595 tw6366294833536534262 tw13151598066345053413 tw2764861036538320081 tw13174009250505340983 tw13049408672572279964 tw14642323191508964252 tw8652491109549355973 tw11482424379868098225 tw16503069409776757897:True)
namespace L2
open PySem PySem.Spec PyProof.Rows
structure Dfn(K:Frg)(mg:Str->Option Value)(x:Str)(st:Stmt)(f:Addr)(d:FuncData)(ps:N3):Prop where
  F:Fun K x x st f d
  m:mg x=some (.ref f)
  B:Binds K d ps []
def js{X:Cx}{x:Str}{st:Stmt}{f:Addr}{d:FuncData}{ps:N3}{j k:Nat}{sp:Sp}{e:Expr}{a:List Expr}{p pos:Pos}{t:TA}(D:Dfn X.K X.mg x st f d ps)(F:FnOk X.prog X.w X.K X.mg X.base CX0 j f d ps sp)(n:Room k X.A)(g:PA X (e::a) t)(m:j<=k:=by decide)(l:Gl X x:=by rfl)(b:(x==("__debug__" : Str))=false:=by decide)(i:starEach (e::a) X.env=(false,eval e X.env)::starEach a X.env:=by rfl)(c:(backTo pos (starEach a X.env)).any (·.1)=false:=by rfl):PE X (.Call (.Name x p) (e::a) [] pos) (tCall sp [] E0 t):=kJ (F.mono m) n l D.m D.F.kp D.B .nil pass0 g b i c
end L2
local macro_rules | `(tactic| specialize $e) => do
  let i:=λ(k:String)=>Lean.mkIdent (Lean.Name.mkSimple k)
  `(tactic| (refine $e (fun $(i "vs") $(i "H") $(i "Q") $(i "E") $(i "h")=>?_) (fun $(i "cdv") $(i "A") $(i "outer") $(i "s") $(i "H") $(i "vs") $(i "Q") $(i "E") $(i "hr") $(i "h")=>?_);(focus cases $(i "h"):ident;subst_vars;rfl);have $(i "sz"):ident:(10000:Nat)<PySem.sizeLine:=by decide))
def Rm.iteE0{b:Bool}{A B:Prop}(h:B)(e:b=false:=by trivial):if b=true then A else B:=Rm.iteB0 e h
def Rm.iteE1{b:Bool}{A B:Prop}(h:A)(e:b=true:=by trivial):if b=true then A else B:=Rm.iteB1 e h
namespace K57
set_option hygiene false
local macro_rules | `($n <* $f $as*) => `(FnOk P w K mg base CX0 $n $f $as*)
set_option hygiene true
open PySem L2 Rm
noncomputable def top(i:Nat):Stmt:=PySem.Challenge.pw_camplay_k57_whole_meet_by_text.main.body.getD i (.Pass ⟨0,0,0,0⟩)
noncomputable abbrev QT:Stmt:=top 14
def xu:FnScope ["text","signs"] ["text","signs"] (defScope QT):=fsc
noncomputable abbrev YU:Stmt:=top 15
def j11:FnScope ["text"] ["text"] (defScope YU):=fsc
noncomputable abbrev qo:Stmt:=top 16
def xx:FnScope ["text","most"] ["text","most"] (defScope qo):=fsc
noncomputable abbrev zE:Stmt:=top 21
def qN:FnScope ["named","numbers","number","one"] ["named"] (defScope zE):=fsc
noncomputable abbrev yt:Stmt:=top 22
def XO:FnScope ["form"] ["form"] (defScope yt):=fsc
noncomputable abbrev YT:Stmt:=top 23
def KO:FnScope ["text","least","number"] ["text","least"] (defScope YT):=fsc
noncomputable abbrev yx:Stmt:=top 24
def kj:FnScope ["wanted","text","limbs","parts","known"] ["wanted","text","limbs","parts"] (defScope yx):=fsc
noncomputable abbrev Qm:Stmt:=top 25
def wu:FnScope ["kind","words","parts"] ["kind","words","parts"] (defScope Qm):=fsc
noncomputable abbrev ZQ:Stmt:=top 26
def KP:FnScope ["kind","words","limbs","parts","values"] ["kind","words","limbs","parts"] (defScope ZQ):=fsc
noncomputable abbrev YV:Stmt:=top 27
def KR:FnScope ["words","limbs","parts","form"] ["words","limbs","parts"] (defScope YV):=fsc
noncomputable abbrev QC:Stmt:=top 28
def Zv:FnScope ["words","names","heights"] ["words"] (defScope QC):=fsc
noncomputable abbrev j0Z:Stmt:=top 29
def Qn:FnScope ["text","rows","limbs","limb_names","part_names","parts","row","line","part"] ["text"] (defScope j0Z):=fsc
noncomputable abbrev kN:Stmt:=top 33
def Zu:FnScope ["book","numbers","found","name","form"] ["book"] (defScope kN):=fsc
noncomputable abbrev j0X:Stmt:=top 34
def QV:FnScope ["book","limbs","found","part","inside","form","left","other"] ["book"] (defScope j0X):=fsc
noncomputable abbrev kO:Stmt:=top 35
def KQ:FnScope ["book","found","left"] ["book"] (defScope kO):=fsc
noncomputable abbrev Ql:Stmt:=top 36
def Q2:FnScope ["row","moves","limbs","number","limb"] ["row","moves","limbs"] (defScope Ql):=fsc
noncomputable abbrev Zq:Stmt:=top 37
def xv:FnScope ["form","inside"] ["form","inside"] (defScope Zq):=fsc
noncomputable abbrev za:Stmt:=top 38
def qf:FnScope ["book","moves","found","row","inside","form","length"] ["book"] (defScope za):=fsc
noncomputable abbrev j0Y:Stmt:=top 42
def j7k:FnScope ["start","goal","beats","j"] ["start","goal","beats","j"] (defScope j0Y):=fsc
noncomputable abbrev Zr:Stmt:=top 48
def JC:FnScope ["form","inside","sizes","part","later","found","begin"] ["form","inside","sizes"] (defScope Zr):=fsc
noncomputable abbrev QU:Stmt:=top 49
def xy:FnScope ["book","sizes"] ["book","sizes"] (defScope QU):=fsc
noncomputable abbrev yu:Stmt:=top 50
def JL:FnScope ["pieces","sizes","gone","found","part","turns","begin","over","rest"] ["pieces","sizes","gone"] (defScope yu):=fsc
noncomputable abbrev Jn:Stmt:=(inClass (top 57) 0)
def Jd:FnScope ["self","book","word","part","pieces","own"] ["self","book","word"] (defScope Jn):=fsc
noncomputable abbrev qy:Stmt:=(inClass (top 57) 1)
def j10:FnScope ["self","beat","told","playing","now","other","begin","over","rest"] ["self","beat"] (defScope qy):=fsc
noncomputable abbrev KN:Stmt:=top 71
def Qs:FnScope ["pieces","sizes","gone","found","part","begin","over","rest"] ["pieces","sizes","gone"] (defScope KN):=fsc
noncomputable abbrev Jw:Stmt:=(inClass (top 72) 0)
def y9:FnScope ["self","book"] ["self","book"] (defScope Jw):=fsc
noncomputable abbrev Q1:Stmt:=(inClass (top 72) 1)
def Jc:FnScope ["self","beat","starts","playing","todo","now","limb","height"] ["self","beat"] (defScope Q1):=fsc
noncomputable abbrev qe:Stmt:=(inClass (top 72) 2)
def X6:FnScope ["self","beat","scene","heights","part","gone","form","limb"] ["self","beat"] (defScope qe):=fsc
noncomputable abbrev qG:Stmt:=(inClass (top 72) 3)
def Jo:FnScope ["self","beat","words","part","gone","form"] ["self","beat"] (defScope qG):=fsc
noncomputable abbrev xq:Stmt:=top 74
def j4y:FnScope ["book","beat"] ["book","beat"] (defScope xq):=fsc
noncomputable abbrev yZ:Stmt:=top 89
def zb:FnScope ["pieces","sizes","beat","found","part","turns","begin"] ["pieces","sizes","beat"] (defScope yZ):=fsc
noncomputable abbrev Qk:Stmt:=top 91
def JY:FnScope ["tally","found","todo","now","ringing"] ["tally"] (defScope Qk):=fsc
noncomputable abbrev Zp:Stmt:=top 92
def JU:FnScope ["one","other","rests","factors","many"] ["one","other"] (defScope Zp):=fsc
noncomputable abbrev zG:Stmt:=top 93
def qp:FnScope ["rung","other","common","steps","beats","beat","wanted"] ["rung","other"] (defScope zG):=fsc
noncomputable abbrev JS:Stmt:=top 94
def qI:FnScope ["books","words","beat","tallies","rung","tally","begin"] ["books","words","beat"] (defScope JS):=fsc
noncomputable abbrev y8:Stmt:=top 97
def j34:FnScope ["values"] ["values"] (defScope y8):=fsc
noncomputable abbrev Qc:Stmt:=top 98
def YX:FnScope ["beat"] ["beat"] (defScope Qc):=fsc
noncomputable abbrev zF:Stmt:=top 99
def ww:FnScope ["asked"] ["asked"] (defScope zF):=fsc
noncomputable abbrev Zs:Stmt:=top 101
def Ya:FnScope ["asked","words"] ["asked"] (defScope Zs):=fsc
noncomputable abbrev yv:Stmt:=top 111
def XQ:FnScope ["asked"] ["asked"] (defScope yv):=fsc
noncomputable abbrev yr:Stmt:=top 113
def XN:FnScope ["words"] ["words"] (defScope yr):=fsc
noncomputable abbrev zD:Stmt:=top 114
def Zt:FnScope ["words","kinds","values"] ["words"] (defScope zD):=fsc
noncomputable abbrev Qa:Stmt:=(inClass (top 115) 0)
def YW:FnScope ["self"] ["self"] (defScope Qa):=fsc
noncomputable abbrev yp:Stmt:=(inClass (top 115) 1)
def kh:FnScope ["self","name","text","book"] ["self","name","text"] (defScope yp):=fsc
noncomputable abbrev zC:Stmt:=(inClass (top 115) 2)
def qT:FnScope ["self","row","words","asked","kind","value"] ["self","row"] (defScope zC):=fsc
noncomputable abbrev QB:Stmt:=top 117
def kz:FnScope ["_law_script","_law_k"] ["_law_script","_law_k"] (defScope QB):=fsc
noncomputable abbrev Zo:Stmt:=top 118
def JT:FnScope ["_law_cell","_law_most","_law_rows","_law_k","_law_beats","_law_form"] ["_law_cell","_law_most"] (defScope Zo):=fsc
noncomputable abbrev QS:Stmt:=top 119
def xt:FnScope ["_law_desk","_law_name","_law_long","_law_word"] ["_law_desk","_law_name","_law_long","_law_word"] (defScope QS):=fsc
noncomputable abbrev Qb:Stmt:=top 120
def qH:FnScope ["_law_one","_law_other","_law_first","_law_second"] ["_law_one","_law_other"] (defScope Qb):=fsc
noncomputable abbrev yq:Stmt:=top 121
def qU:FnScope ["_law_seen_here","_law_beat","_law_whole","_law_some","_law_one"] ["_law_seen_here","_law_beat"] (defScope yq):=fsc
noncomputable abbrev j4w:Stmt:=top 122
def Qd:FnScope ["_law_script","_law_desk","_law_seen_here","_law_words","_law_row","_law_k","_law_cell","_law_name","_law_beat"] ["_law_script"] (defScope j4w):=fsc
set_option genInjectivity false in
set_option genSizeOf false in
structure Ad where
 qO:Addr
 qR:FuncData
 Qo:Addr
 Qq:FuncData
 qP:Addr
 qk:FuncData
 XV:Addr
 JA:Addr
 JB:FuncData
 zm:Addr
 zu:FuncData
 ZC:Addr
 ZF:FuncData
 ya:Addr
 yi:FuncData
 Qg:Addr
 Qi:FuncData
 Yp:Addr
 Yy:FuncData
 Yq:Addr
 Yz:FuncData
 Z8:Addr
 ye:FuncData
 j06:Addr
 j0h:FuncData
 yC:Addr
 yJ:FuncData
 Wu:Addr
 WF:FuncData
 Wv:Addr
 WG:FuncData
 Qf:Addr
 Qh:FuncData
 QH:Addr
 QP:FuncData
 Qp:Addr
 Qr:FuncData
 j6g:Addr
 j6o:FuncData
 QI:Addr
 QQ:FuncData
 QJ:Addr
 QR:FuncData
 zn:Addr
 zw:FuncData
 jU:Addr
 Jl:FuncData
 QE:Addr
 QM:FuncData
 Kf:Addr
 Ko:FuncData
 Ju:Addr
 JN:FuncData
 qJ:Addr
 qK:FuncData
 Qu:Addr
 Qx:FuncData
 JM:Addr
 JO:FuncData
 Ww:Addr
 WH:FuncData
 yB:Addr
 yI:FuncData
 zk:Addr
 zr:FuncData
 QG:Addr
 QO:FuncData
 Z9:Addr
 yg:FuncData
 ZD:Addr
 ZG:FuncData
 j39:Addr
 yD:Addr
 yK:FuncData
 J0:Addr
 J2:FuncData
 qv:Addr
 zx:FuncData
 qQ:Addr
 Zg:FuncData
 Qv:Addr
 yf:FuncData
 zl:Addr
 zt:FuncData
 Z7:Addr
 yd:FuncData
 Jj:Addr
 JD:FuncData
 zj:Addr
 zq:FuncData
 Qt:Addr
 Qw:FuncData
 qu:Addr
 qw:FuncData
 QF:Addr
 QN:FuncData
 Zb:Addr
 Zf:FuncData
 JZ:Addr
 J1:FuncData
 Z6:Addr
 yc:FuncData
 j3k:Addr
 j1k:FuncData
 jA:Addr
 jR:Addr
 Jf:Addr
 Jx:Addr
 Jy:Addr
 zM:Value
 QW:Addr
 Wi:Value
 Jp:Addr
 Zx:Addr
structure Txt(K:Frg)(mg:Str->Option Value)(t:Ad):Prop where
 zP:Dfn K mg "all_among" QT t.qO t.qR ["text","signs"]
 Q3:Dfn K mg "is_word" YU t.Qo t.Qq ["text"]
 zU:FunD K "number_of" "number_of" qo t.XV t.qP t.qk
 ka:mg "number_of"= some (.ref t.qP)
 xJ:Binds K t.qk ["text","most"] []
 K8:∃ds,Binds K t.qk ["text","most"] ds/\Vals [.int 80] ds
 qt:Dfn K mg "numbers_of" zE t.JA t.JB ["named"]
 kY:Dfn K mg "names_in" yt t.zm t.zu ["form"]
 Zz:Dfn K mg "bounded" YT t.ZC t.ZF ["text","least"]
 Kb:Dfn K mg "value_of" yx t.ya t.yi ["wanted","text","limbs","parts"]
 yA:Dfn K mg "names_form" Qm t.Qg t.Qi ["kind","words","parts"]
 wz:Dfn K mg "form_of" ZQ t.Yp t.Yy ["kind","words","limbs","parts"]
 wA:Dfn K mg "part_of" YV t.Yq t.Yz ["words","limbs","parts"]
 kW:Dfn K mg "limbs_of" QC t.Z8 t.ye ["words"]
 j3i:Dfn K mg "read" j0Z t.j06 t.j0h ["text"]
 kB:Dfn K mg "inner" kN t.yC t.yJ ["book"]
 X9:Dfn K mg "ends" j0X t.Wu t.WF ["book"]
 j1c:Dfn K mg "moved" kO t.Wv t.WG ["book"]
 yz:Dfn K mg "check_side" Ql t.Qf t.Qh ["row","moves","limbs"]
 Y4:Dfn K mg "length_of" Zq t.QH t.QP ["form","inside"]
 Q4:Dfn K mg "lengths" za t.Qp t.Qr ["book"]
 j7l:Dfn K mg "ramp" j0Y t.j6g t.j6o ["start","goal","beats","j"]
 Y5:Dfn K mg "pieces_in" Zr t.QI t.QQ ["form","inside","sizes"]
 zQ:Dfn K mg "pieces_of" QU t.QJ t.QR ["book","sizes"]
 kZ:Dfn K mg "progress" yu t.zn t.zw ["pieces","sizes","gone"]
 zT:Fun K "__init__" "RingTally.__init__" Jn t.jU t.Jl
 xI:Meth K t.jA "__init__" t.jU
 zO:Binds K t.Jl ["self","book","word"] []
 j1e:Fun K "ahead" "RingTally.ahead" qy t.QE t.QM
 j0y:Meth K t.jA "ahead" t.QE
 j1b:Binds K t.QM ["self","beat"] []
 xM:Dfn K mg "within" KN t.Kf t.Ko ["pieces","sizes","gone"]
 Yj:Fun K "__init__" "Stage.__init__" Jw t.Ju t.JN
 j1E:Meth K t.jR "__init__" t.Ju
 Yh:Binds K t.JN ["self","book"] []
 wa:Fun K "scene" "Stage.scene" Q1 t.qJ t.qK
 Kw:Meth K t.jR "scene" t.qJ
 K7:Binds K t.qK ["self","beat"] []
 j02:Fun K "heights_at" "Stage.heights_at" qe t.Qu t.Qx
 X5:Meth K t.jR "heights_at" t.Qu
 X8:Binds K t.Qx ["self","beat"] []
 Yk:Fun K "words_at" "Stage.words_at" qG t.JM t.JO
 yP:Meth K t.jR "words_at" t.JM
 Yi:Binds K t.JO ["self","beat"] []
 j1d:Dfn K mg "rings" xq t.Ww t.WH ["book","beat"]
 xK:Dfn K mg "begins" yZ t.yB t.yI ["pieces","sizes","beat"]
 yy:Dfn K mg "beats_rung" Qk t.zk t.zr ["tally"]
 Y3:Dfn K mg "common_of" Zp t.QG t.QO ["one","other"]
 Ka:Dfn K mg "together" zG t.Z9 t.yg ["rung","other"]
 wB:FunD K "meeting" "meeting" JS t.j39 t.ZD t.ZG
 j2H:mg "meeting"= some (.ref t.ZD)
 j2e:Binds K t.ZG ["books","words","beat"] []
 xL:Dfn K mg "listed" y8 t.yD t.yK ["values"]
 zL:Dfn K mg "beat_or_never" Qc t.J0 t.J2 ["beat"]
 ze:Dfn K mg "say_length" zF t.qv t.zx ["asked"]
 zR:Dfn K mg "say_rings" Zs t.qQ t.Zg ["asked"]
 ZV:Dfn K mg "say_meet" yv t.Qv t.yf ["asked"]
 kU:Dfn K mg "kinds_of" yr t.zl t.zt ["words"]
 kT:Dfn K mg "asked_in" zD t.Z7 t.yd ["words"]
 ko:Fun K "__init__" "Desk.__init__" Qa t.Jj t.JD
 j2I:Meth K t.Jf "__init__" t.Jj
 km:Binds K t.JD ["self"] []
 j00:Fun K "put" "Desk.put" yp t.zj t.zq
 Xm:Meth K t.Jf "put" t.zj
 X7:Binds K t.zq ["self","name","text"] []
 j01:Fun K "say" "Desk.say" zC t.Qt t.Qw
 Zk:Meth K t.Jf "say" t.Qt
 ZU:Binds K t.Qw ["self","row"] []
 qr:Dfn K mg "_law_cell_at" QB t.qu t.qw ["_law_script","_law_k"]
 Y2:Dfn K mg "_law_text" Zo t.QF t.QN ["_law_cell","_law_most"]
 Y1:Dfn K mg "_law_seen" QS t.Zb t.Zf ["_law_desk","_law_name","_law_long","_law_word"]
 zK:Dfn K mg "_law_multiple" Qb t.JZ t.J1 ["_law_one","_law_other"]
 kR:Dfn K mg "_law_due" yq t.Z6 t.yc ["_law_seen_here","_law_beat"]
 j3h:Dfn K mg "law" j4w t.j3k t.j1k ["_law_script"]
 jz:Cls K t.jA
 xN:Mk K t.jA t.jU
 WW:mg "RingTally"= some (.ref t.jA)
 jP:NoAttr K t.jA "sizes"
 JQ:NoAttr K t.jA "last"
 Ja:NoAttr K t.jA "pieces"
 jE:NoAttr K t.jA "wholes"
 jV:Cls K t.jR
 j51:Mk K t.jR t.Ju
 j3U:mg "Stage"= some (.ref t.jR)
 QZ:NoAttr K t.jR "limbs"
 qL:NoAttr K t.jR "first"
 qM:NoAttr K t.jR "forms"
 j6:NoAttr K t.jR "sizes"
 Qj:NoAttr K t.jR "left"
 qx:NoAttr K t.jR "pieces"
 QL:Cls K t.Jf
 j6e:Mk K t.Jf t.Jj
 j5v:mg "Desk"= some (.ref t.Jf)
 JP:NoAttr K t.Jf "books"
 j3m:mg "all"= none
 j73:mg "any"= none
 j6i:mg "dict"= none
 QK:mg "enumerate"= none
 j61:mg "int"= none
 JH:mg "len"= none
 j08:mg "list"= none
 j62:mg "max"= none
 j63:mg "min"= none
 yF:mg "range"= none
 j64:mg "set"= none
 xR:mg "sorted"= none
 Y6:mg "str"= none
 j65:mg "sum"= none
 j1f:mg "tuple"= none
 Y7:mg "zip"= none
 Yr:mg "ANSWERS"= some (.ref t.Jx)
 YF:FTab K t.Jx [("length",some t.qv),("stand",none),("rings",some t.qQ),("sum",none),("at",none),("rung",none),("when",none),("first",none),("jump",none),("drums",none),("back",none),("ever",none),("meet",some t.Qv)]
 Ki:mg "FEWEST_NAMES"= some (.ref t.Jy)
 Ku:TabK K t.Jy [("row",.flat (.int 1)),("side",.flat (.int 2))]
 kq:mg "FIGURES_words"= some t.zM
 kx:RelV (.str "0123456789") t.zM
 WB:mg "FORMS"= some (.ref t.QW)
 WQ:TabK K t.QW [("raise",.tup [.str "limb",.str "height",.str "beats"]),("hold",.tup [.str "beats"]),("ring",.tup [.str "word",.str "beats"]),("again",.tup [.str "times",.str "part"])]
 j2j:mg "LETTERS"= some t.Wi
 j2Z:RelV (.str "abcdefghijklmnopqrstuvwxyz") t.Wi
 zo:mg "MOST_NAMES"= some (.ref t.Jp)
 jY:TabK K t.Jp [("row",.flat (.int 8)),("side",.flat (.int 4))]
 j6n:mg "ROWS"= some (.ref t.Zx)
 j3H:TabK K t.Zx [("length",.tup [.str "name"]),("stand",.tup [.str "name",.str "number"]),("rings",.tup [.str "name",.str "number"]),("sum",.tup [.str "name",.str "limb",.str "number"]),("at",.tup [.str "name",.str "limb",.str "number",.str "number"]),("rung",.tup [.str "name",.str "word",.str "number"]),("when",.tup [.str "name",.str "word",.str "number"]),("first",.tup [.str "name",.str "limb",.str "number",.str "number"]),("jump",.tup [.str "name",.str "number"]),("drums",.tup [.str "name"]),("back",.tup [.str "name"]),("ever",.tup [.str "name",.str "number"])]
section
variable{P:Program}{w:World}{K:Frg}{mg:Str->Option Value}{base:Heap}{t:Ad}
def YM(T:Txt K mg t):1<*t.Jj t.JD ["self"] (sp_initD t.Jf):=by
 specialize T.ko.ok YW;let⟨x,d,rfl,e,q⟩:=h;refine⟨_,(jg (Qz (pv 0) yS rfl)),?_⟩;refine jn (Z':=[some _]) rfl ?_
 try dsimp only[cxOf,Cx.nox]
 ac_nf;intro b a;have f:x≠b:=jf e a;exists⟨x,t.Jf,d,_,rfl,(je f).trans e,T.QL,T.JP,(by show 0<1000;decide),?_⟩;exact q b _ (λc u g h=>(je g).trans ((je (jf h a)).trans h)) a ⟨⟨d,jm⟩,(je f.symm).trans jm⟩
def W1(T:Txt K mg t):1<*t.qO t.qR ["text","signs"] (Ws.zH):=by
 refine T.zP.F.ok xu (λv H Q E h=>?_) (λl A g s H v Q E y h=>?_)
 .let⟨x,z,rfl,u,q⟩:=h;rfl
 let⟨x,z,rfl,u,q⟩:=h;refine⟨_,(jg (ju (jx (Yt rfl) (by rfl) T.j3m j09 (ja (jZ (ow:=["sign"]) (ci:=[1]) rfl (CompScope.of (defScope QT) ["text","signs"] rfl rfl (by trivial)) (Js nofun) (j6P (pv 0)) (λ_ _ _ _ _=>⟨(ji' 0 (jG ["text","signs"] rfl (by trivial))),Jq,(xb j6H (pv 0) (pv 1) (by with_unfolding_all rfl))⟩)) jc)))),?_⟩;refine jn (Z':=[some _,some _]) rfl ?_
 try dsimp only[cxOf,Cx.nox]
 have B:(200:Nat)<sizeLine:=by decide
 have k:=Ws.WS x;have r:x.cps.size=x.length:=rfl;exists j3u (λi j d=>j=((x.cps.toList.take i).map λc=>V.bl (decide (c∈z.cps.toList)))/\H=d) ⟨rfl,rfl⟩ ?_ ?_
 .rintro i c j d a ⟨rfl,rfl⟩;have f:x.cps.toList[i]?=some c:=by rw[Array.getElem?_toList];exact a
  refine Jb (Z':=[none,some _]) rfl ?_;exists iteT ?_;exists⟨_,_,rfl,rfl,?_⟩;refine⟨by rw[vt,vh];lia,?_,rfl⟩;rw[List.take_add_one,f,vi];rfl
 .rintro j d ⟨rfl,rfl⟩;have e:x.cps.toList.take x.cps.size=x.cps.toList:=take_of_length_le ⋯;rw[e];refine⟨by rw[vt];lia,λp o=>?_⟩;exists⟨p,x.cps.toList.map λc=>decide (c∈z.cps.toList),rfl,SqL.of (by rw[jm,v6];rfl),?_⟩;have m:(x.cps.toList.map λc=>decide (c∈z.cps.toList)).all id=Ws.among x z:=by
   unfold Ws.among;rw[Bool.eq_iff_iff,all_eq_true,decide_eq_true_iff];constructor
   .intro h c a;exact of_decide_eq_true (h _ (vM.mpr ⟨c,a,rfl⟩))
   .intro h b n;let⟨c,a,rfl⟩:=vM.mp n;exact vI (h c a)
  rw[m];exact q _ (Pr.j4x o _)
def j0F(T:Txt K mg t)(l:1<*t.qO t.qR ["text","signs"] (Ws.zH)):2<*t.Qo t.Qq ["text"] (Ws.QD):=by
 refine T.Q3.F.ok j11 (λm H Q E h=>?_) (λj A b s H m Q E k h=>?_)
 .let⟨x,rfl,c,q⟩:=h;rfl
 let⟨x,rfl,c,q⟩:=h;refine⟨_,(jg (ju (j6J (j4e Q7 Q7 jd (jx jD (by rfl) T.JH j7 (ja (pv 0) jc)) jd) (j6L (js T.zP l k (ja (pv 0) (ja (JR (by rfl) T.j2j T.j2Z) jc))))))),?_⟩;refine jn (Z':=[some _]) rfl ?_
 try dsimp only[cxOf,Cx.nox]
 have n:(200:Nat)<sizeLine:=by decide
 exists⟨_,_,rfl,⟨⋯,rfl⟩,?_⟩;exists iteD (λf=>?_) (λf=>?_)
 .exists iteD (λi=>?_) (λi=>?_)
  .exists⟨_,_,rfl,c,λd g=>?_⟩;have e:Ws.isW x=Ws.among x Ws.lets:=by
    unfold Ws.isW;rw[vI (show 1<=x.length/\x.length<=8 by lia),Bool.true_and]
   have a:=q d g;rw[e]at a;exact a
  .have e:Ws.isW x=false:=by
    unfold Ws.isW;rw[vJ (show¬(1<=x.length/\x.length<=8) by lia),Bool.false_and]
   have a:=q H (Same.refl _);rw[e]at a;exact a
 .exists iteF ?_;have e:Ws.isW x=false:=by
   unfold Ws.isW;rw[vJ (show¬(1<=x.length/\x.length<=8) by lia),Bool.false_and]
  have a:=q H (Same.refl _);rw[e]at a;exact a
def wk(T:Txt K mg t):1<*t.JA t.JB ["named"] (sp_numbers_of):=by
 specialize T.qt.F.ok qN;let⟨l,M,xs,rfl,B,U,R,X,D,q⟩:=h;refine⟨_,(jb (jo' 1 qN.nd yS)
  (jb (j4 PassesOwn.never rfl (xg (by rfl) T.QK (ja (pv 0) jc)) (Jr rfl (jp (ji' 2 qN.nd) (jp (ji' 3 qN.nd) jT)))
   (jg (kK (Zi hr) (pv 1) (jh jq (pv 3) jd) (pv 2) rfl)))
  (jg (ju (pv 1))))),?_⟩
 refine jn (Z':=[some _,none,none,none]) rfl ?_
 try dsimp only[cxOf,Cx.nox]
 ac_nf;walk_at"f d hd H1 s1 t1";exists⟨l,_,rfl,SqL.of (s1 _ _ B),?_⟩;refine Kq (xs:=M.map V.ref) (λi p c=>IvE2 λ(m n:N7)=>IvA2 (p=[some (.ref l),some (.ref d),m,n]) (Same H c/\c d=some (.dK (numK (xs.take i))))) ⟨_,_,rfl,s1,t1⟩ ?_ ?_ ?_
 .rintro i p c _ ⟨m,n,rfl,g,f⟩;exact SqL.of (g _ _ B)
 .rintro i v p c P L G ⟨m,n,rfl,g,f⟩ J Y;rw[vv]at G;let⟨a,x,rfl⟩:=vf.mp G;have Z:=(vx.mp x).1;have C:xs[i]?=some xs[i]:=vz ⋯;let⟨r,O⟩:=R i a _ x C;have I:=g.trans J;have o:(xs.take i).length=i:=by rw[vh];lia
  refine JK (SqT.of Y) ?_;exists zTu (I _ _ O) ?_;refine⟨d,_,rfl,DPut.k (k:=Sum.inr xs[i]) (J _ _ f) (by rw[j44,o];lia),?_⟩;have S:(Sum.inr xs[i]:Key)∉(numK (xs.take i)).map (·.1):=λz=>by
   rw[YL]at z;let⟨y,W,e⟩:=vM.mp z;have N:y=xs[i]:=Sum.inr.inj e;subst N;let⟨j,F,e⟩:=mem_iff_getElem.mp W;rw[List.getElem_take]at e;rw[o]at F;exact uh e (pairwise_iff_getElem.mp X j i ⋯ ⋯ F)
  refine⟨_,_,rfl,λb u h=>(je (jf h hd)).trans (I _ _ h),?_⟩;rw[jm,XI S,take_snoc C,j2M,o]
 rintro Z' c ⟨m,n,rfl,g,f⟩;rw[vt,U,v5]at f;ac_nf;exact q d c g hd f
def W5(T:Txt K mg t)(y:1<*t.qO t.qR ["text","signs"] (Ws.zH)):2<*t.qP t.qk ["text","most"] (Ws.sp_number_of):=by
 specialize T.zU.ok xx;let⟨x,m,rfl,n,q⟩:=h;refine⟨_,(jb (jL (PW.pt (Q9 (QA (Zm Q7 Q7 jd (jx jD (by rfl) T.JH j7 (ja (pv 0) jc)) (pv 1))) (Zn (QA (Q0 (js T.zP y hr (ja (pv 0) (ja (JR (by rfl) T.kq T.kx) jc))))))))
   (jg (ju j0))
   jw)
  (jb (jL (PW.pt (yo (jk JV (jh j3G (pv 0) jd) jv (nomark _)) (ZP (jk kc (pv 0) jv (nomark _)))))
   (jg (ju j0))
   jw)
  (jg (ju (jW wG (by rfl) T.j61 j3o (ja (pv 0) jc)))))),?_⟩
 refine jn (Z':=[some _,some _]) rfl ?_
 try dsimp only[cxOf,Cx.nox]
 have B:(200:Nat)<sizeLine:=by decide
 have i:∀b,Same H b->¬((1<=x.length/\(x.length:Int)<=m)/\Ws.among x Ws.figs=true/\¬(x.cps.toList.head?=some 48/\x.length≠1))->Q .non b:=λb g h=>by
  have e:=q b g;rw[Ws.j5C h]at e;exact e
 exists⟨_,_,rfl,⟨⋯,rfl⟩,?_⟩;exists iteD (λo=>?_) (λo=>?_)
 .exists iteN (λp=>?_) (λp=>?_)
  .ac_nf;exact i _ (Same.refl _) (λh=>⋯)
  exists⟨_,_,rfl,n,λb g=>?_⟩;ac_nf;cases ha:Ws.among x Ws.figs with
  | false=>
   have d:Ws.among x "0123456789"= false:=ha;rw[d];refine iteT ?_;ac_nf;exact i _ g (λh=>by rw[ha]at h;exact uh h.2.1 vH)
  | true=>
   have d:Ws.among x "0123456789"= true:=ha;rw[d];refine iteF ?_;ac_nf;let⟨c,r,v,u⟩:=Ws.j5m (x:=x) ⋯;have f:x.cps.toList.head?=some c:=by rw[v];rfl
   refine⟨x,0,c,rfl,rfl,⋯,u,?_⟩;ac_nf;have a:¬(x.cps.toList.head?=some 48/\x.length≠1)->Q (.int (NumText.digitsVal x.cps.toList:Nat)) b:=λh=>by
    have e:=q b g;rw[Ws.j45 ⟨⋯,ha,h⟩]at e;exact e
   refine iteD (λj=>?_) (λj=>?_)
   .have l:=Ws.j1Z.mp j;subst l;exists iteN (λk=>?_) (λk=>?_)
    .ac_nf;exact i _ g (λh=>h.2.2 ⟨f,λz=>k ((Ws.j2d f).mpr z)⟩)
    .ac_nf;exact⟨_,_,rfl,Ws.intText ha ⋯ n,⋯,a (λh=>h.2 ((Ws.j2d f).mp k))⟩
   .refine iteF ?_;ac_nf;exact⟨_,_,rfl,Ws.intText ha ⋯ n,⋯,a (λh=>j (Ws.j1Z.mpr (by rw[f]at h;exact vN h.1)))⟩
 .exists iteT ?_;ac_nf;exact i _ (Same.refl _) (λh=>⋯)
def j0D(T:Txt K mg t)(f:2<*t.qP t.qk ["text","most"] (Ws.sp_number_of)):3<*t.ZC t.ZF ["text","least"] (sp_boundedT):=by
 specialize T.Zz.F.ok KO;let⟨x,d,rfl,j,q⟩:=h;refine⟨_,(jb (jo' 2 KO.nd (kJ (f.mono nofun) hr (by rfl) T.ka T.zU.kp T.xJ .nil pass0 (ja (pv 0) (ja jd jc))))
  (jb (jL (PW.pt (Q9 (jk KF (pv 2) j0 (nomark _)) (Zn (QA (Zm Q7 Q7 (pv 1) (pv 2) (jt YR jd jd))))))
   (jg (ju j0))
   jw)
  (jg (ju (pv 2))))),?_⟩
 refine jn (Z':=[some _,some _,none]) rfl ?_
 try dsimp only[cxOf,Cx.nox]
 exists⟨x,19,rfl,j,λk g=>?_⟩;have a:=q _ g;unfold numW at a;rcases Ws.j5B x 19 with e | ⟨n,e⟩
 .rw[e]at a|-;exists⟨rfl,_,rfl,?_⟩;refine iteB1 (vI rfl) ?_;ac_nf;exact a
 .rw[e]at a|-;dsimp only at a;exists⟨rfl,_,rfl,?_⟩;refine iteB0 (by simp) ?_;exists iteD (λb=>?_) (λb=>?_)
  .exists iteN (λc=>?_) (λc=>?_)
   .ac_nf;rw[va (λz=>c z.2)]at a;exact a
   .ac_nf;rw[vc ⟨b,c⟩]at a;exact a
  .ac_nf;rw[va (λz=>b z.1)]at a;exact a
def XE(T:Txt K mg t)(v:2<*t.Qo t.Qq ["text"] (Ws.QD))(o:3<*t.ZC t.ZF ["text","least"] (sp_boundedT)):4<*t.ya t.yi ["wanted","text","limbs","parts"] (sp_value_ofT):=by
 specialize T.Kb.F.ok kj;let⟨a,x,y,z,L,P,rfl,n,B,C,D,q⟩:=h;refine⟨_,(jb (jL (jk JV (pv 0) jv (nomark _))
   (jg (ju (js T.Zz o hr (ja (pv 1) (ja jd jc)))))
   jw)
  (jb (jL (jk qD (pv 0) (jQ (ja jv (ja jv jc))) (by with_unfolding_all rfl))
   (jg (ju (js T.Zz o hr (ja (pv 1) (ja jd jc)))))
   jw)
  (jb (jL (jk JV (pv 0) jv (nomark _))
   (jg (ju (Jm (Q0 (js T.Q3 v hr (ja (pv 1) jc))) (pv 1) j0)))
   jw)
  (jb (jo' 4 kj.nd (Jm (jk JV (pv 0) jv (nomark _)) (pv 2) (pv 3)))
  (jg (ju (Jm (j0S (j0M (Zi hr) (pv 1) (pv 4))) (pv 1) j0))))))),?_⟩
 refine jn (Z':=[some _,some _,some _,some _,none]) rfl ?_
 try dsimp only[cxOf,Cx.nox]
 have G:(200:Nat)<sizeLine:=by decide
 have b:=λr s=>q r s
 unfold valW at b;by_cases f:a = "height"
 .rw[vc f]at b;exists iteB1 (vI f) ?_;ac_nf;exact⟨x,0,rfl,n,λH1 s1=>b _ s1⟩
 rw[va f]at b;exists iteB0 (vJ f) ?_;exists⟨ue,?_⟩;walk_at"f p hp H1 s1 t1";refine⟨p,_,rfl,.inr (SqT.of t1),rfl,rfl,?_⟩;have F:inV (.str a) [.str "beats",.str "times"]=decide (a = "beats"\/a = "times"):=by
  rcases D with rfl | rfl | rfl | rfl | rfl | rfl<;>decide +kernel
 rw[F];by_cases g:a = "beats"\/a = "times"
 .rw[vc g]at b;exists iteB1 (vI g) ?_;ac_nf;exact⟨x,1,rfl,n,λu m=>b _ (s1.trans m)⟩
 rw[va g]at b;exists iteB0 (vJ g) ?_;ac_nf;by_cases j:a = "word"
 .rw[vc j]at b;refine iteB1 (vI j) ?_;exists⟨x,rfl,n,λu m=>?_⟩;have c:=b _ (s1.trans m);cases e:Ws.isW x with
  | true=>
   rw[e,vc rfl]at c;exists iteT ?_;ac_nf;exact c
  | false=>
   rw[e,va (by simp)]at c;exists iteF ?_;ac_nf;exact c
 rw[va j]at b;refine iteB0 (vJ j) ?_;ac_nf;by_cases l:a = "limb"
 .rw[vc l]at b;refine iteB1 (vI l) ?_;exists⟨y,_,rfl,DGet.k (k:=Sum.inr x) (s1 _ _ B),?_⟩;rw[j5A];ac_nf;have c:=b _ s1;refine iteD (λd=>?_) (λd=>?_)
  .rw[vc d]at c;ac_nf;exact c
  .rw[va d]at c;ac_nf;exact c
 .rw[va l]at b;refine iteB0 (vJ l) ?_;exists⟨z,_,rfl,DGet.k (k:=Sum.inr x) (s1 _ _ C),?_⟩;rw[xE];ac_nf;have c:=b _ s1;refine iteD (λd=>?_) (λd=>?_)
  .rw[vc d]at c;ac_nf;exact c
  .rw[va d]at c;ac_nf;exact c
def wj(T:Txt K mg t):1<*t.Qg t.Qi ["kind","words","parts"] (sp_names_formT):=by
 specialize T.yA.F.ok wu;let⟨kind,l,d,ws,P,rfl,r,c,M,B,q⟩:=h;refine⟨_,(jb (jL (QA (Zm Q7 Q7 (jh j1x (JR (v:=.ref t.Jy) (by rfl) T.Ki rfl) (pv 0)) (jx jD (by rfl) T.JH j7 (ja (pv 1) jc)) (jh j1x (JR (v:=.ref t.Jp) (by rfl) T.zo rfl) (pv 0))))
   (jg (ju j0))
   jw)
  (jb (jL (QA (Q0 (jx (Yt rfl) (by rfl) T.j3m j09 (ja (jZ (ow:=["word"]) (ci:=[2]) rfl (CompScope.of (defScope Qm) ["kind","words","parts"] rfl rfl (by trivial)) (Js nofun) (jB (pv 1)) (λ_ _ _ _ _=>⟨(ji' 0 (jG ["kind","words","parts"] rfl (by trivial))),Jq,(j6K (j0M (Zi hr) (pv 0) (pv 1)))⟩)) jc))))
   (jg (ju j0))
   jw)
  (jg (ju (jQ (ja (pv 0) (ja (jW ZS (by rfl) T.j1f xT (ja (pv 1) jc)) jc))))))),?_⟩
 refine jn (Z':=[some _,some _,some _]) rfl ?_
 try dsimp only[cxOf,Cx.nox]
 have L:(20000:Nat)<sizeLine:=by decide
 let⟨D,o,I,J,F⟩:=j2L (ws:=ws) (P:=P) r;rw[F]at q;let⟨m,G⟩:=q;exists⟨_,kind,_,D,rfl,rfl,T.Ku,I,?_⟩;exists⟨_,_,rfl,.inl ⟨_,SqL.of c,rfl⟩,?_⟩;rw[vt];exists iteD (λf=>?_) (λf=>?_)
 rotate_left
 .ac_nf;exact m (va (λz=>f z.1.1)) _ (Same.refl _)
 exists⟨_,kind,_,o,rfl,rfl,T.jY,J,?_⟩;exists iteN (λg=>?_) (λg=>?_)
 .ac_nf;exact m (va (λz=>g z.1.2)) _ (Same.refl _)
 exists⟨l,rfl,⟨_,SqL.of c⟩,?_⟩;refine jS (xs:=ws.map V.str) (λi e a=>e=((ws.take i).map λw=>decide (w∈P)).map V.bl/\H=a) ⟨rfl,rfl⟩ ?_ ?_ ?_
 .rintro i e a _ ⟨rfl,rfl⟩;exact SqL.of c
 .rintro i v e a u ⟨rfl,rfl⟩;rw[vv]at u;let⟨x,y,rfl⟩:=vf.mp u;have o:=(vx.mp y).1;refine Jb (Z':=[none,some _]) rfl ?_;exists iteT ?_;exists⟨d,_,rfl,DGet.k (k:=Sum.inr x) B,?_⟩;rw[xE];refine⟨by rw[vt,vt,vh];lia,?_,rfl⟩;rw[take_snoc y,vi,vi];rfl
 rintro e a ⟨rfl,rfl⟩;rw[show(ws.map V.str).length=ws.length from vt _,v5];refine⟨by rw[vt,vt];lia,?_⟩;walk_at"f p hp H1 s1 e1";exists⟨p,_,rfl,SqL.of e1,?_⟩;have n:((ws.map λw=>decide (w∈P)).all id=true)↔∀w∈ws,w∈P:=by
  rw[all_eq_true];constructor
  .intro h w j;exact of_decide_eq_true (h _ (vM.mpr ⟨w,j,rfl⟩))
  .intro h b C;let⟨w,j,rfl⟩:=vM.mp C;exact vI (h w j)
 cases ea:(ws.map λw=>decide (w∈P)).all id with
 | false=>
  exists iteT ?_;ac_nf;exact m (va (λz=>by rw[n.mpr z.2]at ea;cases ea)) _ s1
 | true=>
  exists iteF ?_;exists⟨l,_,rfl,.inl ⟨SqL.of (s1 _ _ c),?_⟩⟩;walk_at"f 2 e";exists⟨ue,?_⟩;walk_at"f 3 e";refine G _ (vc ⟨⟨f,g⟩,n.mp ea⟩) p3 H3 (s1.trans (s2.trans s3)) ?_;rcases r with rfl | rfl
  .exact⟨p2,e3,s3 _ _ e2⟩
  .exact⟨p2,e3,s3 _ _ e2⟩
def j0E(T:Txt K mg t)(Z5:4<*t.ya t.yi ["wanted","text","limbs","parts"] (sp_value_ofT))(zh:1<*t.Qg t.Qi ["kind","words","parts"] (sp_names_formT)):5<*t.Yp t.Yy ["kind","words","limbs","parts"] (sp_form_ofT):=by
 specialize T.wz.F.ok KP;let⟨kind,l,d1,M,ws,L,P,rfl,m,wl,wc,e1,N,k,G⟩:=h;refine⟨_,(jb (jL (jk j4c (pv 0) (JR (v:=.ref t.Jp) (by rfl) T.zo rfl) (by with_unfolding_all rfl))
   (jg (ju (js T.yA zh hr (ja (pv 0) (ja (pv 1) (ja (pv 3) jc))))))
   jw)
  (jb (jL (PW.pt (Q9 (jk j2T (pv 0) (JR (v:=.ref t.QW) (by rfl) T.WB rfl) (by with_unfolding_all rfl)) (Zn (jk kc (jx jD (by rfl) T.JH j7 (ja (pv 1) jc)) (jx jD (by rfl) T.JH j7 (ja (jh j1y (JR (v:=.ref t.QW) (by rfl) T.WB rfl) (pv 0)) jc)) (nomark _)))))
   (jg (ju j0))
   jw)
  (jb (yW (i:=4) (ow:=["wanted","word"]) (ci:=[2,3]) rfl (CompScope.of (defScope ZQ) ["kind","words","limbs","parts","values"] rfl rfl (by trivial)) (zz nofun nofun) KP.nd rfl (.inl rfl) (j1M (by rfl) T.Y7 (ja (jh j1y (JR (v:=.ref t.QW) (by rfl) T.WB rfl) (pv 0)) (ja (pv 1) jc))) (λ_ _ _ _ _=>⟨(Jr rfl (jp (ji' 0 (jG ["kind","words","limbs","parts","values"] rfl (by trivial))) (jp (ji' 1 (jG ["kind","words","limbs","parts","values"] rfl (by trivial))) jT))),Jq,(js T.Kb Z5 hr (ja (pv 0) (ja (pv 1) (ja (pv 2) (ja (pv 3) jc)))))⟩))
  (jg (ju (Jm (jk qD j0 (pv 4) (by with_unfolding_all rfl)) j0 (jt j1J (jQ (ja (pv 0) jc)) (jW ZS (by rfl) T.j1f xT (ja (pv 4) jc))))))))),?_⟩
 refine jn (Z':=[some _,some _,some _,some _,none]) rfl ?_
 try dsimp only[cxOf,Cx.nox]
 have sz:(20000:Nat)<sizeLine:=by decide
 by_cases d:kind = "row"\/kind = "side"
 .have D:PyProof.Rows.KTD.inKeys kind MN=true:=by
   rcases d with rfl | rfl<;>decide +kernel
  have C:formW kind ws L P=namsW kind ws P:=vc d;rw[C]at k G;exists⟨_,_,_,rfl,rfl,T.jY,?_⟩;exists iteB1 D ?_;ac_nf;exact⟨kind,l,M,ws,P,rfl,d,m,wl,N,k,G⟩
 let⟨D,O⟩:=j2w (ws:=ws) (L:=L) (P:=P) d;exists⟨_,_,_,rfl,rfl,T.jY,?_⟩;exists iteB0 D ?_;exists⟨_,_,_,rfl,rfl,T.WQ,?_⟩;ac_nf;rcases O with⟨F,fn⟩ | ⟨c,O⟩
 .refine iteB1 (by show(!PyProof.Rows.KTD.inKeys kind FT)=true;rw[F];rfl) ?_;ac_nf;exact k fn _ (Same.refl _)
 have l3:=O.n;refine iteB0 (by show(!PyProof.Rows.KTD.inKeys kind FT)=false;rw[O.k];rfl) ?_;exists⟨_,_,rfl,.inl ⟨_,SqL.of m,rfl⟩,?_⟩;exists⟨_,kind,_,c,rfl,rfl,T.WQ,O.d,⋯,λb o=>?_⟩;exists⟨_,_,rfl,.inr ⟨_,o _,rfl⟩,?_⟩;rw[vt,vt];exists iteN (λz=>?_) (λX=>?_)
 .ac_nf;exact k (O.o (λz'=>z ⋯)) _ (Same.refl _)
 have X:ws.length=c.length:=⋯
 let⟨Y,Z⟩:=O.v X;exists⟨_,kind,_,c,rfl,rfl,T.WQ,O.d,⋯,λb o=>?_⟩;exists⟨b,l,_,_,rfl,o _,SqL.of m,?_⟩;have J:((c.zip ws).map λp=>valW p.1 p.2 L P).length=c.length:=by rw[vt,List.length_zip];lia
 generalize R:((c.zip ws).map λp=>valW p.1 p.2 L P)=rs at Y Z J;have I:∀i a w,c[i]?=some a->ws[i]?=some w->rs[i]?=some (valW a w L P):=λi a w n q=>by
  rw[<-R,vv,(List.getElem?_zip_eq_some (z:=(a,w))).mpr ⟨n,q⟩];rfl
 have fl:rs.all flatV=true:=by
  rw[all_eq_true];intro x W;rw[<-R]at W;let⟨p,_,rfl⟩:=vM.mp W;exact j4U
 refine wL (xs:=c.map V.str) (zs:=ws.map V.str) (λi r y=>r=rs.take i/\Same H y) (by rw[vt,vt];lia) ⟨rfl,Same.refl _⟩ ?_ ?_ ?_
 .rintro i r y _ ⟨rfl,g⟩;exact⟨o _,SqL.of (g _ _ m)⟩
 .rintro i u v r y P' a0 S U ⟨rfl,g⟩ s2 tP;rw[vv]at S U;let⟨a,n,rfl⟩:=vf.mp S;let⟨w,q,rfl⟩:=vf.mp U;have j:=I i a w n q;have hi:=(vx.mp j).1;have e:=g.trans s2;refine Jb (Z':=[none,none,some _,some _]) rfl ?_;refine JK (SqT.of tP) ?_;exists iteT ?_;exists⟨a,w,d1,M,L,P,rfl,wc w (vj q),e _ _ e1,e _ _ N,O.w a (vj n),λH3 s3=>?_⟩;exact⟨by rw[vh];lia,(take_snoc j).symm,e.trans s3⟩
 rintro r H1 ⟨rfl,g⟩;rw[vt,show c.length=rs.length by lia,v5];refine⟨⋯,?_⟩;walk_at"f p hp H2 s2 t2";exists⟨p,_,rfl,.inl (SqL.of t2),rfl,fl,?_⟩;ac_nf;cases ei:inV .non rs with
 | true=>
  refine iteB1 rfl ?_;ac_nf;exact k (Y ei) _ (g.trans s2)
 | false=>
  refine iteB0 rfl ?_;exists⟨uf,?_⟩;sleep 3;exists⟨p,_,rfl,.inl ⟨SqL.of (s3 _ _ t2),?_⟩⟩;sleep 4;exists⟨p3,p4,_,_,rfl,rfl,SqT.of (s4 _ _ t3),SqT.of t4,by simp,by show 1+rs.length<=sizeLine;lia,λz=>uh z (λz=>by rw[z]at J;simp at J;lia),λ_=>?_⟩;sleep 5;let⟨f,C,B⟩:=Z ei;exact G f C p5 H5 (g.trans (s2.trans (s3.trans (s4.trans s5)))) (B _ _ t5)
def j0I(T:Txt K mg t)(C:2<*t.Qo t.Qq ["text"] (Ws.QD))(D:5<*t.Yp t.Yy ["kind","words","limbs","parts"] (sp_form_ofT)):6<*t.Yq t.Yz ["words","limbs","parts"] (sp_part_ofT):=by
 specialize T.wA.F.ok KR;let⟨l,F,u,W,L,P,rfl,b,U,y,G,v,e,p⟩:=h;refine⟨_,(jb (jL (PW.pt (Q9 (jk XF (jx jD (by rfl) T.JH j7 (ja (pv 0) jc)) jd (nomark _)) (Q9 (jk kc (jh jr (pv 0) jd) jv (nomark _)) (Q9 (QA (Q0 (js T.Q3 C hr (ja (jh jr (pv 0) jd) jc)))) (Zn (j0S (j0M (Zi hr) (jh jr (pv 0) jd) (pv 2))))))))
   (jg (ju j0))
   jw)
  (jb (jo' 3 KR.nd (js T.wz D hr (ja (jh jr (pv 0) jd) (ja (Q8 kP (pv 0) (Jt jd) yV) (ja (pv 1) (ja (pv 2) jc))))))
  (jg (ju (Jm (jk KF (pv 3) j0 (nomark _)) j0 (jQ (ja (jh jr (pv 0) jd) (ja (pv 3) jc)))))))),?_⟩
 refine jn (Z':=[some _,some _,some _,none]) rfl ?_
 try dsimp only[cxOf,Cx.nox]
 have Y:(20000:Nat)<sizeLine:=by decide
 exists⟨_,_,rfl,.inl ⟨_,SqL.of b,rfl⟩,?_⟩;rw[vt];exists iteD (λc=>?_) (λc=>?_)
 .ac_nf;exact e (j0L ⋯) _ (Same.refl _)
 obtain⟨k,x,kind,r,rfl⟩:∃k x kind r,W=k::x::kind::r:=three ⋯;have S:partW (k::x::kind::r) L P=if k = "part"/\Ws.isW x=true/\x∉P then(formW kind r L P).map λf=>(x,f)else none:=rfl
 rw[S]at e p;exists ixLm (SqL.of b) (jM (j:=0) rfl) ?_;ac_nf;by_cases n:k = "part"
 rotate_left
 .refine iteB1 (by show(!decide _)=true;rw[vJ n];rfl) ?_;ac_nf;exact e (va (λz=>n z.1)) _ (Same.refl _)
 refine iteB0 (by show(!decide _)=false;rw[vI n];rfl) ?_;exists ixLm (SqL.of b) (jM (j:=1) rfl) ?_;exists⟨x,rfl,y x (by simp),λX g=>?_⟩;cases wx:Ws.isW x with
 | false=>
  exists iteT ?_;ac_nf;exact e (va (λz=>by rw[wx]at z;cases z.2.1)) _ g
 | true=>
  exists iteF ?_;exists ixLm (SqL.of (g _ _ b)) (jM (j:=1) rfl) ?_;exists⟨u,_,rfl,DGet.k (k:=Sum.inr x) (g _ _ v),?_⟩;rw[xE];exists iteD (λd=>?_) (λO=>?_)
  .ac_nf;exact e (va (λz=>z.2.2 d)) _ g
  rw[vc ⟨n,wx,O⟩]at e p;exists ixLm (SqL.of (g _ _ b)) (jM (j:=2) rfl) ?_;exists⟨l,_,rfl,SqL.of (g _ _ b),?_⟩;sleep 2;ac_nf;have a:=g.trans s2;have o:cutV ((k::x::kind::r).map V.str) (some 3) none=r.map V.str:=by
   unfold cutV;simp[HT.sIx];exact take_of_length_le (by simp)
  rw[o]at t2;refine⟨kind,p2,F,u,r,L,P,rfl,t2,by simp at U;lia,λw N=>y w (by simp[N]),a _ _ G,a _ _ v,λJ B q=>?_,λf I R B q M=>?_⟩
  .exists⟨rfl,_,rfl,?_⟩;refine iteB1 (vI rfl) ?_;ac_nf;exact e (by rw[J];rfl) _ (a.trans q)
  .have m:=a.trans q;exists⟨rfl,_,rfl,?_⟩;refine iteB0 (by simp) ?_;exists ixLm (SqL.of (m _ _ b)) (jM (j:=1) rfl) ?_;exists⟨ue,?_⟩;sleep 4;exact p (x,f) (by rw[I];rfl) p4 H4 (m.trans s4) ⟨R,t4,FormAt.same s4 M⟩
def Xz(T:Txt K mg t)(Y:2<*t.Qo t.Qq ["text"] (Ws.QD))(qB:3<*t.ZC t.ZF ["text","least"] (sp_boundedT)):4<*t.Z8 t.ye ["words"] (sp_limbs_ofT):=by
 specialize T.kW.F.ok Zv;let⟨l,R,rfl,I,wn,wl,O,o,qs⟩:=h;refine⟨_,(jb (jo' 1 Zv.nd (yT (pv 0) (Jt jd) (Jt jd)))
  (jb (yW (i:=2) (ow:=["word"]) (ci:=[]) rfl (CompScope.of (defScope QC) ["words","names","heights"] rfl rfl (by trivial)) (Js nofun) Zv.nd rfl (.inl rfl) (jB (yT (pv 0) (Jt jd) (Jt jd))) (λ_ _ _ _ _=>⟨(ji' 0 (jG ["words","names","heights"] rfl (by trivial))),Jq,(js T.Zz qB hr (ja (pv 0) (ja jd jc)))⟩))
  (jb (jL (PW.pt (Q9 (jk kc (jh jr (pv 0) jd) jv (nomark _)) (Q9 (QA (Zm Q7 Q7 jd (jx jD (by rfl) T.JH j7 (ja (pv 1) jc)) jd)) (Q9 (jk kc (jx jD (by rfl) T.JH j7 (ja (pv 2) jc)) (jx jD (by rfl) T.JH j7 (ja (pv 1) jc)) (nomark _)) (Zn (jk qD j0 (pv 2) (by with_unfolding_all rfl)))))))
   (jg (ju j0))
   jw)
  (jb (jL (PW.pt (Q9 (QA (Q0 (jx (Yt rfl) (by rfl) T.j3m j09 (ja (jZ (ow:=["name"]) (ci:=[]) rfl (CompScope.of (defScope QC) ["words","names","heights"] rfl rfl (by trivial)) (Js nofun) (jB (pv 1)) (λ_ _ _ _ _=>⟨(ji' 0 (jG ["words","names","heights"] rfl (by trivial))),Jq,(js T.Q3 Y hr (ja (pv 0) jc))⟩)) jc)))) (Zn (jk kc (j0O rfl (by rfl) T.JH (by rfl) T.j64 (pv 1)) (jx jD (by rfl) T.JH j7 (ja (pv 1) jc)) (nomark _)))))
   (jg (ju j0))
   jw)
  (jg (ju (kf false rfl (by rfl) T.j08 (by rfl) T.Y7 (ja (pv 1) (ja (pv 2) jc))))))))),?_⟩
 refine jn (Z':=[some _,none,none]) rfl ?_
 try dsimp only[cxOf,Cx.nox]
 have sz:(20000:Nat)<sizeLine:=by decide
 obtain⟨k,r,rfl⟩:∃k r,R=k::r:=by
  cases R with
  | nil=>exact uh rfl wn
  | cons k r=>exact⟨k,r,rfl⟩
 rw[vR]at wl;exists yY ?_;exists⟨rfl,l,_,1,rfl,rfl,SqL.of I,?_⟩;sleep 1;have c1:ev (((k::r).map V.str).drop 1)=(ev r).map V.str:=j0l _ r;have c2:ev (((k::r).map V.str).drop 2)=(ev (r.drop 1)).map V.str:=by
  rw[<-j0l,List.map_drop];rfl
 rw[c1]at t1;exists yY ?_;exists⟨rfl,l,_,2,rfl,rfl,SqL.of (s1 _ _ I),?_⟩;sleep 2;rw[c2]at t2;have L:=s1.trans s2;have n1:(ev r).length<=5000:=vX (WM r) ⋯;have n2:(ev (r.drop 1)).length<=5000:=vX (WM _) (by rw[length_drop];lia);have m1:∀x∈ev r,x.length<=200:=λx e=>O x (vp _ (j0m e))
 have m2:∀x∈ev (r.drop 1),x.length<=200:=λx e=>O x (vp _ (List.mem_of_mem_drop (j0m e)))
 have G:=@j0s k r;have D:=@j2F k r;have S:=@j0t k r;generalize ev r=ns at *;generalize ev (r.drop 1)=hs at *;exists⟨p2,rfl,⟨_,SqL.of t2⟩,?_⟩;refine jS (xs:=hs.map V.str) (λi f g=>f=(hs.take i).map (λh=>oI (numW h 0))/\Same H2 g) ⟨rfl,Same.refl _⟩ ?_ ?_ ?_
 .rintro i f g _ ⟨rfl,y⟩;exact SqL.of (y _ _ t2)
 .rintro i v f g u ⟨rfl,y⟩;rw[vv]at u;let⟨x,e,rfl⟩:=vf.mp u;have hi:=(vx.mp e).1;refine Jb (Z':=[none]) rfl ?_;exists iteT ?_;exists⟨x,0,rfl,m2 x (vj e),λH4 s4=>?_⟩;refine⟨by rw[vt,vh];lia,?_,y.trans s4⟩;rw[take_snoc e,vi];rfl
 rintro f H3 ⟨rfl,y⟩;rw[show(hs.map V.str).length=hs.length from vt _,v5];refine⟨by rw[vt];lia,?_⟩;sleep 4;have B:=y.trans s4;have b:=L.trans B;have n:=B _ _ (s2 _ _ t1);exists ixLm (SqL.of (b _ _ I)) (jM (j:=0) rfl) ?_;ac_nf;by_cases F:k = "limbs"
 rotate_left
 .refine iteB1 (by show(!decide _)=true;rw[vJ F];rfl) ?_;ac_nf;exact o (D λz=>F z.1) _ b
 refine iteB0 (by show(!decide _)=false;rw[vI F];rfl) ?_;exists⟨_,_,rfl,.inl ⟨_,SqL.of n,rfl⟩,?_⟩;rw[vt];exists iteD (λd1=>?_) (λc=>?_)
 rotate_left
 .ac_nf;exact o (D λz=>c (by have:=z.2.1.1;lia)) _ b
 exists iteN (λc=>?_) (λd2=>?_)
 .ac_nf;exact o (D λz=>c (by have:=z.2.1.2;lia)) _ b
 exists⟨_,_,rfl,.inl ⟨_,SqL.of t4,rfl⟩,?_⟩;exists⟨_,_,rfl,.inl ⟨_,SqL.of n,rfl⟩,?_⟩;rw[vt,vt];exists iteN (λc=>?_) (λN=>?_)
 .ac_nf;exact o (G λz=>c (by rw[z.1])) _ b
 have N:hs.length=ns.length:=⋯
 exists⟨p4,_,rfl,.inl (SqL.of t4),rfl,?_,?_⟩
 .rw[all_eq_true];intro x e;let⟨i,_,rfl⟩:=vM.mp e;exact WX _
 ac_nf;cases ei:inV .non (hs.map λh=>oI (numW h 0))with
 | true=>
  refine iteB1 rfl ?_;ac_nf;exact o (G λz=>j78 ei z.2.1) _ b
 | false=>
  have d4:=j6E ei;refine iteB0 rfl ?_;exists⟨p1,rfl,⟨_,SqL.of n⟩,?_⟩;refine jS (xs:=ns.map V.str) (λi f g=>f=((ns.take i).map Ws.isW).map V.bl/\Same H4 g) ⟨rfl,Same.refl _⟩ ?_ ?_ ?_
  .rintro i f g _ ⟨rfl,C⟩;exact SqL.of (C _ _ n)
  .rintro i v f g u ⟨rfl,C⟩;rw[vv]at u;let⟨x,e,rfl⟩:=vf.mp u;have hi:=(vx.mp e).1;refine Jb (Z':=[none]) rfl ?_;exists iteT ?_;exists⟨x,rfl,m1 x (vj e),λH6 s6=>?_⟩;refine⟨by rw[vt,vt,vh];lia,?_,C.trans s6⟩;rw[take_snoc e,vi,vi];rfl
  rintro f H5 ⟨rfl,C⟩;rw[show(ns.map V.str).length=ns.length from vt _,v5];refine⟨by rw[vt,vt];lia,?_⟩;sleep 6;have d:=C.trans s6;exists⟨p6,_,rfl,SqL.of t6,?_⟩;cases ea:(ns.map Ws.isW).all id with
  | false=>
   exists iteT ?_;exists o (G λz=>?_) _ (b.trans d);rw[show(ns.map Ws.isW).all id=true by rw[List.all_map,all_eq_true];exact z.2.2]at ea;cases ea
  | true=>
   have d5:∀x∈ns,Ws.isW x=true:=by
    rw[List.all_map,all_eq_true]at ea;exact ea
   exists iteF ?_;exists j6V ?_;exists⟨p1,ns,rfl,SqL.of (d _ _ n),⋯,λm hm=>?_⟩;have q:m=ns.length↔ns.Nodup:=by
    have:=hm.2;rw[v5]at this;exact this
   exists⟨_,_,rfl,.inl ⟨_,SqL.of (d _ _ n),rfl⟩,?_⟩;rw[vt];exists iteN (λc=>?_) (λd6=>?_)
   .ac_nf;exact o (D λz=>c (by rw[q.mpr z.2.2])) _ (b.trans d)
   have nd:ns.Nodup:=q.mp ⋯;let⟨J,U,M,W⟩:=S ⟨F,⟨⋯,⋯⟩,nd⟩ ⟨N,d4,d5⟩;have ll:J.length=ns.length:=by rw[<-M,vt]
   exists j4q ?_;exists⟨p1,p4,_,_,rfl,SqL.of (d _ _ n),SqL.of (d _ _ t4),by rw[vt,vt];lia,λc Z X s7 hc tc la pr=>?_⟩;rw[vt]at la;refine qs J U c Z X (b.trans (d.trans s7)) (none_of (b.trans d) hc) tc ⟨⋯,λi a x ha e=>?_⟩;have xh:(hs.map λh=>oI (numW h 0))[i]?=some (.int x.2):=by
    have:(hs.map λh=>oI (numW h 0))=J.map λp=>V.int p.2:=by
     rw[show(hs.map λh=>oI (numW h 0))=(hs.map λh=>numW h 0).map oI by rw[v6];rfl,W,v6];rfl
    rw[this,vv,e];rfl
   exact pr i a _ _ ha (by rw[<-M,vv,vv,e];rfl) xh
def j5F(T:Txt K mg t)(jK:1<*t.JA t.JB ["named"] (sp_numbers_of))(Yo:6<*t.Yq t.Yz ["words","limbs","parts"] (sp_part_ofT))(Z0:4<*t.Z8 t.ye ["words"] (sp_limbs_ofT)):7<*t.j06 t.j0h ["text"] (sp_readT):=by
 specialize T.j3i.F.ok Qn;let⟨g,ls,o,rfl,R,D,q⟩:=h;refine⟨_,(jb (jo' 1 Qn.nd (Je k0 w4 x_A ZK (pv 0) (ja jv jc)))
  (jb (jo' 2 Qn.nd (js T.kW Z0 hr (ja (Je k0 w4 x_A ZK (jh jr (pv 1) jd) (ja jv jc)) jc)))
  (jb (jL (jk KF (pv 2) j0 (nomark _))
   (jg Jv)
   jw)
  (jb (jL (jk JV (jx jD (by rfl) T.JH j7 (ja (pv 1) jc)) jd (nomark _))
   (jg Jv)
   jw)
  (jb (jo' 3 Qn.nd (js T.qt jK hr (ja (pv 2) jc)))
  (jb (jo' 4 Qn.nd yS)
  (jb (jo' 5 Qn.nd (jJ jc))
  (jb (j4 PassesOwn.never rfl (j4g (by rfl) T.QK (ja (Q8 kP (pv 1) (Jt jd) yV) jc) jd) (Jr rfl (jp (ji' 6 Qn.nd) (jp (ji' 7 Qn.nd) jT)))
   (jb (jo' 8 Qn.nd (js T.wA Yo hr (ja (Je k0 w4 x_A ZK (pv 7) (ja jv jc)) (ja (pv 3) (ja (pv 4) jc)))))
   (jb (jL (PW.pt (Q9 (jk KF (pv 8) j0 (nomark _)) (Zn (jk ZT (pv 6) jd (nomark _)))))
    (jg Jv)
    jw)
   (jb (kK (Zi hr) (pv 4) (jh jq (pv 8) jd) j1K rfl)
   (jg (jF (Je qA qY kS jC (pv 5) (ja (pv 8) jc))))))))
  (jg (ju (jQ (ja (pv 2) (ja (pv 5) jc))))))))))))),?_⟩
 refine jn (Z':=[some _,none,none,none,none,none,none,none,none]) rfl ?_
 try dsimp only[cxOf,Cx.nox]
 have sz:(100000:Nat)<sizeLine:=by decide
 have a8:(Str.ofString "\n")=⟨#[10]⟩:=by trivial
 have G:(Str.ofString " ")=⟨#[32]⟩:=by trivial
 have n1:=R.n1;have n2:=R.n2;have dn:=D.n;have af:=D.pl;let⟨lb,a4⟩:=j3M D.l;let⟨x1,x2,x3,x4,x5,x6⟩:=j0V R;exists⟨rfl,?_⟩;exists⟨_,10,_,rfl,by rw[a8],by decide,x1,x2,x3,x4,x5,?_⟩;rw[x6];walk_at"f r1 hr1 H1 s1 t1";ac_nf;let⟨z1,z2⟩:=j7c n1;refine ixLm (SqL.of t1) (jM (j:=0) z1) ?_;exists⟨rfl,?_⟩;ac_nf;let⟨y1,y2,y3,y4,y5,y6,y7⟩:=Wb (R.r _ z2);refine⟨_,32,_,rfl,by rw[G],by decide,y1,y2,y3,y4,y5,?_⟩;walk_at"f r2 hr2 H2 s2 t2";exists⟨r2,_,rfl,t2,y7,y6,(R.r _ z2).1,λz=>?_,λah el pl I H3 s3 a3 t3 la=>?_⟩
 .cases z.symm.trans D.l
 cases D.l.symm.trans el;have L:=s1.trans s2;have M:=L.trans s3;exists⟨rfl,_,rfl,?_⟩;refine iteB0 (by simp) ?_;ac_nf;have e1:=s3 _ _ (s2 _ _ t1);refine⟨_,_,rfl,.inl ⟨_,SqL.of e1,rfl⟩,?_⟩;rw[vt];exists iteD (λc=>uh c ⋯) (λ_=>?_);exists⟨pl,I,ls.map (·.1),rfl,t3,by rw[la.1,vt],λi a x ha hx=>?_,a4,by rw[vt];lia,λd1 H4 s4 ag t4=>?_⟩
 .rw[vv]at hx;let⟨p,Y,rfl⟩:=vf.mp hx;exact⟨_,la.2 i a p ha Y⟩
 ac_nf;walk_at"f d2 hd2 H5 s5 t5";exists⟨vB _,?_⟩;walk_at"f pp hpp H6 s6 t6";have B:=s4.trans s5;have ab:=B.trans s6;have n:d2≠pp:=jf t5 hpp;exists⟨r1,_,rfl,SqL.of (ab _ _ e1),?_⟩;walk_at"f r7 hr7 H7 s7 t7";rw[j4v n1]at t7;exists⟨rfl,r7,_,rfl,SqL.of t7,?_⟩;have a5:r7≠d2:=(jf (s6 _ _ t5) hr7).symm;have a6:r7≠pp:=(jf t6 hr7).symm;have ac:=s7 _ _ (s6 _ _ t5);have ad:=s7 _ _ t6;refine j2v (xs:=(g.drop 1).map V.str) (λi σ m=>IvE4 λ(d:N2) (Z o7 o8:N7)=>IvA5 (σ=[some (.str (Txt.join "\n" g)),some (.ref r1),some (.ref pl),some (.ref d1),some (.ref d2),some (.ref pp),Z,o7,o8]) (Same H4 m) (m r7=some (.lst ((g.drop 1).map V.str))) (m d2=some (.dK (tabB ((o.take i).map (·.1))))) (m pp=some (.lst (d.map V.ref))/\All2 (PartAt m) d (o.take i))) ⟨[],_,_,_,rfl,s5.trans (s6.trans s7),t7,ac,ad,.nil⟩ ?_ ?_ ?_
 .rintro i σ m _ ⟨d,Z,o7,o8,rfl,O,X,U,W,F⟩;exact SqL.of X
 .rintro i v σ m P ae hv ⟨d,Z,o7,o8,rfl,O,X,U,W,F⟩ sP tP;let⟨r,rfl,a2,rm,ri⟩:=j6W hv;have hi:i<o.length:=⋯
  obtain⟨p,Y⟩:∃p,o[i]?=some p:=⟨_,vz hi⟩
  have pw:=D.p.2 i p Y;have ai:=D.p.1;rw[a2]at pw;have aa:=O.trans sP;refine JK (SqT.of tP) ?_;exists⟨rfl,?_⟩;ac_nf;let⟨y1,y2,y3,y4,y5,y6,y7⟩:=Wb (R.r _ rm);refine⟨_,32,_,rfl,by rw[G],by decide,y1,y2,y3,y4,y5,?_⟩;walk_at"f r8 hr8 H8 s8 t8";have N:=sP.trans s8;ac_nf;have a7:p.1∉(o.take i).map (·.1):=j0K pw;refine⟨r8,d1,d2,_,_,_,rfl,t8,y6,(R.r _ rm).1,s8 _ _ (aa _ _ t4),N _ _ U,λz=>?_,λp' a0 a H9 s9 hP=>?_⟩
  .cases z.symm.trans pw
  cases pw.symm.trans a0;have l:=N.trans s9;exists⟨rfl,_,rfl,?_⟩;refine iteB0 (by simp) ?_;exists iteD (λc=>uh c ⋯) (λ_=>?_);ac_nf;let⟨fa,ha,hf⟩:=id hP;refine ixTm (SqT.of ha) (at0) ?_;have y:=l _ _ U;have a1:=l _ _ W;have tl:((o.take i).map (·.1)).length=i:=by rw[vt,vh];lia
  refine⟨d2,_,rfl,DPut.k (k:=Sum.inr p.1) y (by show(List.map _ _).length<_;rw[vt,tl];lia),?_⟩;rw[j4N a7];generalize eX:upd H9 d2 _=H10;have S:=Zc eX;have f:∀b u,b≠d2->H9 b=some u->H10 b=some u:=λb u hb h=>by rw[<-eX,je hb];exact h
  clear eX;have e:=f _ _ n.symm a1;have a9:=F.1;exists⟨.inl ⟨rfl,_,SqL.of e⟩,?_⟩;exists⟨pp,_,_,rfl,rfl,e,by rw[vt,a9,vh];lia,?_⟩;have tk:o.take (i+1)=o.take i++[p]:=take_snoc Y;have kt:∀b xs,H9 b=some (.tup xs)->upd H10 pp (.lst (d.map V.ref++[.ref a])) b=some (.tup xs):=λb xs h=>(je (JE (f _ _ (JE h y (λz=>by cases z)) h) e (λz=>by cases z))).trans (f _ _ (JE h y (λz=>by cases z)) h)
  have J:∀{b u},H4 b=some u->b≠d2/\b≠pp:=λh=>⟨jf h hd2,jf (s5 _ _ h) hpp⟩
  refine⟨d++[a],_,_,_,rfl,λb u h=>(je (J h).2).trans (f _ _ (J h).1 (l _ _ (O _ _ h))),(je a6).trans (f _ _ a5 (l _ _ X)),(je n).trans (by rw[tk,vi];exact S),by rw[jm,vi];rfl,?_⟩;rw[tk];exact All2.snoc (F.mono λb x h=>PartAt.put kt (PartAt.same l h)) (PartAt.put kt hP)
 rintro Z' m ⟨d,Z,o7,o8,rfl,O,X,U,W,F⟩;rw[vt,length_drop,take_of_length_le ⋯]at F;exists⟨ue,?_⟩;walk_at"f b hb H9 s9 t9";have C:=s4.trans (O.trans s9);refine q b pl pp I d H9 (M.trans C) (none_of L a3) (none_of (M.trans B) hpp) (jf (B _ _ t3) hpp) ⟨t9,C _ _ t3,la.mono λa x h=>C _ _ h,s9 _ _ W,F.mono λa x h=>PartAt.same s9 h⟩
def XA(T:Txt K mg t):1<*t.zm t.zu ["form"] (sp_names_in):=by
 specialize T.kY.F.ok XO;let⟨a,f,rfl,d,q⟩:=h;refine⟨_,(jb (jL (jk j4c (jh jq (pv 0) jd) (JR (v:=.ref t.Jp) (by rfl) T.zo rfl) (by with_unfolding_all rfl))
   (jg (ju (jh jq (pv 0) jd)))
   jw)
  (jg (ju (Jm (jk JV (jh jq (pv 0) jd) jv (nomark _)) (Q8 j4E (pv 0) (Jt jd) yV) (jQ jc))))),?_⟩
 refine jn (Z':=[some _]) rfl ?_
 try dsimp only[cxOf,Cx.nox]
 have e:(200:Nat)<sizeLine:=by decide
 cases f with
 | hold n=>
  have c:H a=some (.tup _):=d;exists zTu c ?_;exists⟨_,_,_,rfl,rfl,T.jY,?_⟩;exists iteE0 ?_;exists zTu c ?_;exists iteE0 ?_;exists⟨vB _,?_⟩;walk_at"f b hb H1 s1 t1";exact q b H1 s1 t1
 | ring x n=>
  have c:H a=some (.tup _):=d;exists zTu c ?_;exists⟨_,_,_,rfl,rfl,T.jY,?_⟩;exists iteE0 ?_;exists zTu c ?_;exists iteE0 ?_;exists⟨vB _,?_⟩;walk_at"f b hb H1 s1 t1";exact q b H1 s1 t1
 | rise x v n=>
  have c:H a=some (.tup _):=d;exists zTu c ?_;exists⟨_,_,_,rfl,rfl,T.jY,?_⟩;exists iteE0 ?_;exists zTu c ?_;exists iteE0 ?_;exists⟨vB _,?_⟩;walk_at"f b hb H1 s1 t1";exact q b H1 s1 t1
 | row ps=>
  let⟨b,c,hb⟩:=d;exists zTu c ?_;exists⟨_,_,_,rfl,rfl,T.jY,?_⟩;exists iteE1 ?_;exists zTu c ?_;exact q b H (Same.refl _) hb
 | side ps=>
  let⟨b,c,hb⟩:=d;exists zTu c ?_;exists⟨_,_,_,rfl,rfl,T.jY,?_⟩;exists iteE1 ?_;exists zTu c ?_;exact q b H (Same.refl _) hb
 | again k x=>
  have c:H a=some (.tup _):=d;exists zTu c ?_;exists⟨_,_,_,rfl,rfl,T.jY,?_⟩;exists iteE0 ?_;exists zTu c ?_;exists iteE1 ?_;exists⟨a,_,rfl,SqT.of c,(by show¬(HT.sIx 3 0 (some 2)=0/\HT.sIx 3 3 none=3);decide),?_⟩;walk_at"f b hb H1 s1 t1";exact q b H1 s1 t1
def j48(T:Txt K mg t)(jK:1<*t.JA t.JB ["named"] (sp_numbers_of))(Z1:1<*t.zm t.zu ["form"] (sp_names_in)):2<*t.yC t.yJ ["book"] (sp_inner):=by
 specialize T.kB.F.ok Zu;let⟨b,pl,pp,a1,G,ls,o,rfl,B,W,q⟩:=h;refine⟨_,(jb (jo (i:=1) Zu.nd rfl (.inr rfl) (js T.qt jK hr (ja (jh jq (pv 0) jd) jc)))
  (jb (jo' 2 Zu.nd (jJ jc))
  (jb (j4 PassesOwn.never rfl (jB (jh jq (pv 0) jd)) (Jr rfl (jp (ji' 3 Zu.nd) (jp (ji' 4 Zu.nd) jT)))
   (jg (jF (Je qA qY kS jC (pv 2) (ja (jZ (ow:=["other"]) (ci:=[1]) rfl (CompScope.of (defScope kN) ["book","numbers","found","name","form"] rfl rfl (by trivial)) (Js nofun) (j6Q (js T.kY Z1 hr (ja (pv 4) jc))) (λ_ _ _ _ _=>⟨(ji' 0 (jG ["book","numbers","found","name","form"] rfl (by trivial))),Jq,(xc (Zi hr) (pv 1) (pv 0))⟩)) jc)))))
  (jg (ju (pv 2)))))),?_⟩
 refine jn (Z':=[some _,none,none,none,none]) rfl ?_
 try dsimp only[cxOf,Cx.nox]
 have a2:=W.p61;have pa:=B.pa.1;exists zTu B.t ?_;exists⟨pp,G,nmsOf o,rfl,B.p,by rw[nmsOf,vt];exact pa,λi a x ea U=>?_,W.pn,by rw[nmsOf,vt];lia,λd H1 I hd ed=>?_⟩
 .unfold nmsOf at U;rw[vv]at U;let⟨p,ep,rfl⟩:=vf.mp U;let⟨fb,hb,_⟩:=B.pa.2 i a p ea ep;exact⟨_,hb⟩
 exists⟨vB _,?_⟩;walk_at"f l hl H2 s2 t2";have nl:=none_of I hl;have J:=I.trans s2;exists zTu (J _ _ B.t) ?_;refine⟨pp,rfl,⟨_,SqL.of (J _ _ B.p)⟩,?_⟩;refine j9 (xs:=G.map V.ref) (λi σ f=>IvE3 λ(m:N2) (N O:N7)=>IvA4 (σ=[some (.ref b),some (.ref d),some (.ref l),N,O]) (Same H1 f) (f l=some (.lst (m.map V.ref))) ((∀a∈m,H a=none/\a≠l)/\ListsAt f m ((o.take i).map λp=>(inP o p.2).map λj:Nat=>(j:Int))))
  ⟨[],_,_,rfl,s2,t2,(λa h=>nomatch h),.nil⟩ ?_ ?_ ?_
 .rintro i σ f _ ⟨m,N,O,rfl,v,z,F,C⟩;exact SqL.of ((I.trans v) _ _ B.p)
 .rintro i x σ f M ⟨m,N,O,rfl,v,z,F,C⟩;let⟨a,p,rfl,Z,fb,Y,hf⟩:=B.pa.at_ref M;have hi:=(vx.mp Z).1;have s0:=I.trans v;let⟨wn,w8⟩:=W.f i p Z;have a0:=C.1;rw[vt,vh]at a0;refine JK (SqT.of (s0 _ _ Y)) ?_;exists⟨.inl ⟨rfl,_,SqL.of z⟩,?_⟩;exists⟨fb,p.2,rfl,FormAt.same s0 hf,λc L R hc=>?_⟩;refine⟨c,rfl,⟨_,SqT.of hc⟩,?_⟩;refine j3v (xs:=p.2.ns.map V.str) (λj S f=>S=((p.2.ns.take j).map λx=>(ixOf (nmsOf o) x:Int)).map V.int/\L=f) ⟨rfl,rfl⟩ ?_ ?_ ?_
  .rintro j S f _ ⟨rfl,rfl⟩;exact SqT.of hc
  .rintro j x S f M ⟨rfl,rfl⟩;rw[vv]at M;let⟨y,X,rfl⟩:=vf.mp M;have hj:=(vx.mp X).1;let⟨k,hk,ek⟩:=wn y (vj X);refine Jb (Z':=[none,some _]) rfl ?_;exists iteT ?_;ac_nf;have g:DGet L d (.str y) (some (.int (k:Nat))):=by
    have g:=DGet.k (k:=Sum.inr y) ((v.trans R) _ _ ed);rw[Xt W.pn ek]at g;exact g
   refine⟨d,_,rfl,g,?_⟩;refine⟨by rw[vt,vt,vh];lia,?_,rfl⟩;rw[take_snoc X,vi,vi,<-yN W.pn ek];rfl
  rintro S f ⟨rfl,rfl⟩;rw[show(p.2.ns.map V.str).length=p.2.ns.length from vt _,v5];refine⟨by rw[vt,vt];lia,?_⟩;sleep 4;have r:=R.trans s4;exists⟨l,_,_,rfl,rfl,r _ _ z,by rw[vt];lia,?_⟩;have D:p4≠l:=(jf (R _ _ z) hp4).symm;have n4:H p4=none:=none_of (s0.trans R) hp4;refine⟨m++[p4],_,_,rfl,λc u h=>(je (jf h hl)).trans ((v.trans r) _ _ h),?_,λc n=>?_,?_⟩
  .rw[jm,vi];rfl
  .rcases vg.mp n with e | e
   .exact F c e
   .rw[vo.mp e];exact⟨n4,D⟩
  .rw[take_snoc Z,vi];refine All2.snoc (All2.monoM C λc n ks h=>(je (F c n).2).trans (r _ _ h)) ?_;have eq:List.map (λj:Nat=>(j:Int)) (inP o p.2)=p.2.ns.map λx=>(ixOf (nmsOf o) x:Int):=by
    unfold inP;rw[v6];rfl
   show upd H4 l _ p4=some (.lst (List.map V.int (List.map (λj:Nat=>(j:Int)) (inP o p.2))));rw[je D,t4,eq]
 rintro Z' L ⟨m,N,O,rfl,v,z,F,C⟩;rw[vt,pa,v5]at C;ac_nf;exact q l m L (I.trans v) nl z (λa ha=>(F a ha).1) C
def j5E(T:Txt K mg t)(jK:1<*t.JA t.JB ["named"] (sp_numbers_of))(Qe:2<*t.yC t.yJ ["book"] (sp_inner)):3<*t.Wu t.WF ["book"] (sp_ends):=by
 specialize T.X9.F.ok QV;let⟨b,pl,pp,an,au,ls,ps,rfl,B,W,q⟩:=h;refine⟨_,(jb (jo' 1 QV.nd (js T.qt jK hr (ja (jh jq (pv 0) jd) jc)))
  (jb (jo' 2 QV.nd (jJ jc))
  (jb (j4 PassesOwn.never rfl (xi (by rfl) T.Y7 (ja (jh jq (pv 0) jd) (ja (js T.kB Qe hr (ja (pv 0) jc)) jc))) (Jr rfl (jp (ji' 3 QV.nd) (jp (ji' 4 QV.nd) jT)))
   (jb (jo' 5 QV.nd (jh jq (pv 3) jd))
   (jb (jo' 6 QV.nd yS)
   (jb (xo (jk JV (jh jq (pv 5) jd) jv (nomark _))
    (jg (kK (Zi hr) (pv 6) (xc (Zi hr) (pv 1) (jh jq (pv 5) jd)) (jh jq (pv 5) jd) rfl))
    jw)
   (jb (j4 PassesOwn.never rfl (jB (pv 4)) (ji' 7 QV.nd)
    (jg (jF (Je PySem.F.plainAttrs_dict PySem.F.slot_dict_update PySem.F.type_dict_update j2K (pv 6) (ja (jW (j0b rfl) (by rfl) T.j6i j56 (ja (jh jr (pv 2) (pv 7)) jc)) jc)))))
   (jg (jF (Je qA qY kS jC (pv 2) (ja (jx (WD rfl) (by rfl) T.xR j2i (ja (j0N PySem.F.plainAttrs_dict PySem.F.slot_dict_items PySem.F.type_dict_items j3X (pv 6)) jc)) jc)))))))))
  (jg (ju (pv 2)))))),?_⟩
 refine jn (Z':=[some _,none,none,none,none,none,none,none]) rfl ?_
 try dsimp only[cxOf,Cx.nox]
 have aK:=W.p61;have l8:=W.l8;have pa:=B.pa.1;have la:=B.la.1;exists zTu B.t ?_;exists⟨pl,an,nmsOf ls,rfl,B.l,by rw[nmsOf,vt];exact la,λi a x ea ex=>?_,W.ln,by rw[nmsOf,vt];lia,λd H1 s1 hd ed=>?_⟩
 .unfold nmsOf at ex;rw[vv]at ex;let⟨p,ep,rfl⟩:=vf.mp ex;exact⟨_,B.la.2 i a p ea ep⟩
 exists⟨vB _,?_⟩;walk_at"f l hl H2 s2 t2";have nl:=none_of s1 hl;have ac:=s1.trans s2;have aD:d≠l:=jf ed hl;exists zTu (ac _ _ B.t) ?_;exists⟨b,pl,pp,an,au,ls,ps,rfl,B.same ac,W,λli am H3 s3 al af aF lia=>?_⟩;ac_nf;have F:=ac.trans s3;have ao:=lia.1;rw[vt]at ao;have aG:li≠l:=λz=>by rw[z,t2]at al;cases al
 refine⟨pp,li,_,_,rfl,SqL.of (F _ _ B.p),SqL.of af,?_⟩;have a9:∀{c u},H c=some u->c≠l:=λh=>jf h nl
 have t3:H3 l=some (.lst []):=s3 _ _ t2;refine j1q (xs:=au.map V.ref) (ys:=am.map V.ref) (λi σ H'=>IvE7 λ(X:N2) (E:L3) (o3 o4 o5 o6 O:N7)=>IvA6 (σ=[some (.ref b),some (.ref d),some (.ref l),o3,o4,o5,o6,O]) (∀c u,c≠l->H3 c=some u->H' c=some u) (H' l=some (.lst (X.map V.ref))) (∀a∈X,H a=none/\a≠l) (E.length=i) (EndsAt H' X E/\EndOk ls ps E))
  (by rw[vt,vt];lia) ⟨[],[],_,_,_,_,_,rfl,λc u _ h=>h,t3,(λa h=>nomatch h),rfl,.nil,λi p e _ h=>by simp at h⟩ ?_ ?_ ?_
 .rintro i σ H' _ ⟨X,E,o3,o4,o5,o6,O,rfl,sm,e1,na,lE,aE,oE⟩;exact⟨SqL.of (sm _ _ (a9 B.p) (F _ _ B.p)),SqL.of (sm _ _ aG af)⟩
 .rintro i u v σ H' P U hu hv ⟨X,E,o3,o4,o5,o6,O,rfl,sm,e1,na,lE,aE,oE⟩ sP tP;let⟨a,p,rfl,hp,fb,ag,hf⟩:=B.pa.at_ref hu;let⟨ia,is,rfl,ak,ay⟩:=lia.at_ref hv;rw[vv,hp]at ak;cases ak;have hi:=(vx.mp hp).1;have aA:ia∈am:=by
   rw[vv]at hv;let⟨a',ea,e'⟩:=vf.mp hv;injection e' with e';subst e';exact vj ea
  have aq:ia≠l:=λz=>by have:=aF ia aA;rw[z,t2]at this;cases this
  have C:∀c u,c≠l->H3 c=some u->U c=some u:=λc u Y h=>sP _ _ (sm _ _ Y h)
  have ah:U a=_:=C _ _ (a9 ag) (F _ _ ag);have Z:U ia=_:=C _ _ aq ay;have aw:U d=_:=C _ _ aD (s3 _ _ (s2 _ _ ed));have I:=sP _ _ e1;have a3:FormAt U fb p.2:=by
   have J:=FormAt.same F hf;generalize p.2=f at J;have np:∀{c:Addr} {xs:N6},H3 c=some (.tup xs)->c≠l:=λh=>JE h t3 (λz=>by cases z)
   cases f with
   | row ps=>let⟨c,y,M⟩:=J;exact⟨c,C _ _ (np y) y,C _ _ (np M) M⟩
   | side ps=>let⟨c,y,M⟩:=J;exact⟨c,C _ _ (np y) y,C _ _ (np M) M⟩
   | hold n=>exact C _ _ (np J) J
   | ring x n=>exact C _ _ (np J) J
   | rise x g n=>exact C _ _ (np J) J
   | again x n=>exact C _ _ (np J) J
  have w8:=(W.f i p hp).2;have wr:=λx h n (e:p.2 = .rise x h n)=>W.r i p.1 x h n (by rw[hp,<-e])
  have aB:=λj=>W.inP_lt (j:=j) hp
  have ad:=Kp W ⋯ oE;have ae:∀(j:Nat) (e:List (Int×Int)),E[j]?=some e->e.length<=8:=λj e h=>Xd W ⋯ oE h
  refine JK (SqT.of tP) ?_;exists zTu ah ?_;ac_nf;walk_at"f dl hdl H5 s5 t5";exists⟨λZ' H6=>Z'=[some (.ref b),some (.ref d),some (.ref l),some (.ref a),some (.ref ia),some (.ref fb),some (.ref dl),O]/\Same U H6/\H6 dl=some (.dK ((kv0 ls p.2).map iiK)),?_,?_⟩
  rotate_left
  .by_cases a6:∃x h n,p.2 = .rise x h n
   .let⟨x,h,n,e⟩:=a6;rw[e]at a3;have a4:H5 fb=some (.tup [.str "raise",.str x,.int h,.int n]):=s5 _ _ a3;let⟨j,N⟩:=wr x h n e;exists zTu a4 ?_;exists iteE1 ?_;exists zTu a4 ?_;exists zTu a4 ?_;have g:DGet H5 d (.str x) (some (.int (j:Nat))):=by
     have g:=DGet.k (k:=Sum.inr x) (s5 _ _ aw);rw[Xt W.ln N]at g;exact g
    refine⟨d,_,rfl,g,?_⟩;refine⟨dl,_,rfl,DPut.k (k:=Sum.inl (j:Int)) t5 (by show 0<sizeLine;lia),?_⟩;refine⟨rfl,λc u h=>(je (jf h hdl)).trans (s5 _ _ h),?_⟩;rw[jm,e];show _=some (HO.dK [iiK ((ixOf (nmsOf ls) x:Nat),h)]);rw[yN W.ln N];rfl
   .let⟨k,xs,hk,dk⟩:=j3I a3 λx v n e=>a6 ⟨x,v,n,e⟩
    exists ixTm (SqT.of (s5 _ _ hk)) (at0) ?_;exists iteB0 dk ?_;exists⟨rfl,s5,?_⟩;rw[j5n λx v n e=>a6 ⟨x,v,n,e⟩];exact t5
  rintro Z' H6 ⟨rfl,s6,t6⟩;ac_nf;have ai:=s6 _ _ Z;have a8:∀{c u},U c=some u->c≠dl:=λh=>jf h hdl
  refine⟨ia,rfl,⟨_,SqL.of ai⟩,?_⟩;refine j9 (xs:=((inP ps p.2).map λj:Nat=>(j:Int)).map V.int) (λt σ H7=>IvE2 λ(m:List (Int×Int)) (O:N7)=>IvA5 (σ=[some (.ref b),some (.ref d),some (.ref l),some (.ref a),some (.ref ia),some (.ref fb),some (.ref dl),O]) (Same U H7) (H7 dl=some (.dK (m.map iiK))) ((m.map (·.1)).Nodup) (∀k v,(k,v)∈m↔LastIn E ((inP ps p.2).take t) k v\/(k,v)∈kv0 ls p.2))
   ⟨_,_,rfl,s6,t6,j6z _,λk v=>⟨.inr,λh=>h.elim (λ⟨ab,j,a1,e,_⟩=>by cases ab<;>simp at e) id⟩⟩ ?_ ?_ ?_
  .rintro t σ H7 _ ⟨m,O,rfl,G,t7,D,m7⟩;exact SqL.of (G _ _ Z)
  .rintro t x σ H7 hx ⟨m,O,rfl,G,t7,D,m7⟩;rw[vv,vv]at hx;let⟨jj,az,rfl⟩:=vf.mp hx;let⟨j,N,rfl⟩:=vf.mp az;have aI:=aB j (vj N);have e0:kv0 ls p.2=[]:=by
    rcases j6y (ps:=ps) (ls:=ls) p.2 with z | z
    .rw[z]at N;simp at N
    .exact z
   rw[e0]at m7;have hE:E[j]?=some (E.getD j []):=by rw[vy,vz ⋯];rfl
   let⟨aj,ax,bs,a2,R⟩:=aE.get hE;have ap:((E.getD j []).map (·.1)).Nodup:=((oE j _ _ (vz ⋯) hE).1).imp λh=>Int.ne_of_lt h
   have e8:=ae j _ hE;have k8:m.length<=8:=by
    have z:=ZL (n:=ls.length) D λk hk=>by
     let⟨L,a5,rfl⟩:=vM.mp hk;rcases(m7 L.1 L.2).mp a5 with⟨ab,i',a1,_,o,_⟩ | o
     .exact ad i' _ o
     .exact nomatch o
    rw[vt]at z;lia
   exists⟨.inr (.inr (.inl ⟨rfl,.inl ⟨_,t7⟩⟩)),?_⟩;exists ixLm (SqL.of (G _ _ I)) (ZE (i:=(j:Int)) ⋯ ax) ?_;exists⟨aj,bs,E.getD j [],rfl,G _ _ (sP _ _ a2),R.1,λi' c L y M=>G _ _ (sP _ _ (R.2 i' c L y M)),?_⟩;walk_at"f d2 hd2 H8 s8 t8";ac_nf;rw[show([]:List (Key×V))=([]:List (Int×Int)).map iiK from rfl,yk,j0A ap]at t8;have n2:dl≠d2:=jf t7 hd2;refine⟨dl,d2,_,_,rfl,rfl,s8 _ _ t7,t8,n2,by rw[vt,vt];lia,?_⟩;rw[yk];let⟨mn,mm⟩:=wU D ap;refine⟨mergeI m (E.getD j []),_,rfl,λc u h=>(je (a8 h)).trans (s8 _ _ (G _ _ h)),jm,mn,λk v=>?_⟩;rw[mm,m7,e0,take_snoc N,j2C];constructor
   .rintro(h | ⟨y,h | h⟩)
    .exact .inl (.inl h)
    .exact .inl (.inr ⟨y,h⟩)
    .exact nomatch h
   .rintro((h | ⟨y,h⟩) | h)
    .exact .inl h
    .exact .inr ⟨y,.inl h⟩
    .exact nomatch h
  rintro Z' H7 ⟨m,aJ,rfl,G,t7,D,m7⟩;rw[vt,vt,v5]at m7;have k8:m.length<=8:=by
   have z:=ZL (n:=ls.length) D λk hk=>by
    let⟨L,a5,rfl⟩:=vM.mp hk;rcases(m7 L.1 L.2).mp a5 with⟨ab,i',a1,_,o,_⟩ | o
    .exact ad i' _ o
    .let⟨x,n,e,ek⟩:=WV.mp o;let⟨j,N⟩:=wr x _ n e;have h3:=j1w (vj N);have h4:(nmsOf ls).length=ls.length:=vt _;rw[ek];lia
   rw[vt]at z;lia
  exists⟨.inl ⟨rfl,_,SqL.of (G _ _ I)⟩,?_⟩;exists⟨.inr (.inr (.inl ⟨rfl,.inl ⟨_,t7⟩⟩)),dl,_,rfl,rfl,t7,?_⟩;walk_at"f vw hvw H8 s8 t8";exists⟨vw,dl,m,rfl,t8,s8 _ _ t7,⋯,λr cs ms H9 s9 a7 e9 n9 a0 pw aC av=>?_⟩;ac_nf;have aH:=aE.1;refine⟨l,_,_,rfl,rfl,s9 _ _ (s8 _ _ (G _ _ I)),by rw[vt];lia,?_⟩;have S:=G.trans (s8.trans s9);have aa:r≠l:=(jf (s8 _ _ (G _ _ I)) a7).symm;have nr:H r=none:=by
   cases z:H r with
   | none=>rfl
   | some u=>rw[s8 _ _ (G _ _ (C _ _ aa (F _ _ z)))]at a7;cases a7
  have ar:∀{c:Addr} {xs:N6},H9 c=some (.tup xs)->c≠l:=λh=>JE h (S _ _ I) (λz=>by cases z)
  refine⟨X++[r],E++[ms],_,_,_,_,_,rfl,λc u Y h=>(je Y).trans (S _ _ (C _ _ Y h)),?_,λc Y=>?_,by rw[vm,lE];rfl,?_,?_⟩
  .rw[jm,vi];rfl
  .rcases vg.mp Y with z | z
   .exact na c z
   .rw[vo.mp z];exact⟨nr,aa⟩
  .refine All2.snoc (All2.monoM aE λc Y e h=>?_) ?_
   .let⟨bs,a2,R⟩:=h;refine⟨bs,(je (na c Y).2).trans (S _ _ (sP _ _ a2)),All2.mono R λc' L h'=>?_⟩;have h9:=S _ _ (sP _ _ h');exact(je (ar h9)).trans h9
   .exact⟨cs,(je aa).trans e9,aC,λi' c L y M=>(je (ar (av i' c L y M))).trans (av i' c L y M)⟩
  .refine EndOk.snoc W oE (p:=p) (by rw[lE];exact hp) ?_ λk v=>?_
   .exact j37 (a0.map _) D pw
   .rw[a0.mem_iff,m7];exact⟨λh=>h.imp id WV.mp,λh=>h.imp id WV.mpr⟩
 rintro Z' H' ⟨X,E,o3,o4,o5,o6,O,rfl,sm,e1,na,lE,aE,oE⟩;rw[vt]at lE;ac_nf;exact q l X E H' (λc u h=>sm _ _ (a9 h) (F _ _ h)) nl e1 (λa ha=>(na a ha).1) ⋯ aE oE
def j49(T:Txt K mg t)(Yl:3<*t.Wu t.WF ["book"] (sp_ends)):4<*t.Wv t.WG ["book"] (sp_moved):=by
 specialize T.j1c.F.ok KQ;let⟨b,pl,pp,X,a1,ls,ps,rfl,B,W,q⟩:=h;refine⟨_,(jb (jo' 1 KQ.nd (jJ jc))
  (jb (j4 PassesOwn.never rfl (jB (js T.X9 Yl hr (ja (pv 0) jc))) (ji' 2 KQ.nd)
   (jg (jF (Je qA qY kS jC (pv 1) (ja (jZ (ow:=["limb","height"]) (ci:=[]) rfl (CompScope.of (defScope kO) ["book","found","left"] rfl rfl (by trivial)) (zz nofun nofun) (jB (pv 2)) (λ_ _ _ _ _=>⟨(Jr rfl (jp (ji' 0 (jG ["book","found","left"] rfl (by trivial))) (jp (ji' 1 (jG ["book","found","left"] rfl (by trivial))) jT))),Jq,(pv 0)⟩)) jc)))))
  (jg (ju (pv 1))))),?_⟩
 refine jn (Z':=[some _,none,none]) rfl ?_
 try dsimp only[cxOf,Cx.nox]
 have a4:=W.p61;exists⟨vB _,?_⟩;walk_at"f l hl H1 s1 t1";exists⟨b,pl,pp,X,a1,ls,ps,rfl,B.same s1,W,λe as E H2 s2 he ee ne lE aE oE=>?_⟩;have I:=aE.1;have a2:=s1.trans s2;have l2:H2 l=some (.lst []):=s2 _ _ t1;have a0:l≠e:=λz=>by rw[z,he]at t1;cases t1
 refine⟨e,rfl,⟨_,SqL.of ee⟩,?_⟩;refine j9 (xs:=as.map V.ref) (λi σ n=>IvE2 λ(g:N2) (F:N7)=>IvA4 (σ=[some (.ref b),some (.ref l),F]) (∀c u,c≠l->H2 c=some u->n c=some u) (n l=some (.lst (g.map V.ref))) ((∀c∈g,H1 c=none/\c≠l)/\ListsAt n g ((E.take i).map λe=>e.map (·.1))))
  ⟨[],_,rfl,λc u _ h=>h,l2,(λc h=>nomatch h),.nil⟩ ?_ ?_ ?_
 .rintro i σ n _ ⟨g,F,rfl,m,p,C,r⟩;exact SqL.of (m _ _ a0.symm ee)
 .rintro i x σ n R ⟨g,F,rfl,m,p,C,r⟩;let⟨a,ev,rfl,f,J,N,D⟩:=aE.at_ref R;have hi:=(vx.mp f).1;have U:=r.1;rw[vt,vh]at U;have am:a∈as:=by
   rw[vv]at R;let⟨a',ea,L⟩:=vf.mp R;injection L with L;subst L;exact vj ea
  have Y:a≠l:=λz=>by have:=ne a am;rw[z,t1]at this;cases this
  have v:n a=some (.lst (J.map V.ref)):=m _ _ Y N;have a3:=(oE i _ ev (vz ⋯) f).1;have M:=Xd W ⋯ oE f;exists⟨.inl ⟨rfl,_,SqL.of p⟩,?_⟩;exists⟨a,rfl,⟨_,SqL.of v⟩,?_⟩;refine jS (xs:=J.map V.ref) (λj G d=>G=((ev.take j).map (·.1)).map V.int/\n=d) ⟨rfl,rfl⟩ ?_ ?_ ?_
  .rintro j G d _ ⟨rfl,rfl⟩;exact SqL.of v
  .rintro j x G d S ⟨rfl,rfl⟩;let⟨c,kv,rfl,y,O⟩:=D.at_ref S;have hj:=(vx.mp y).1;have Z:c≠l:=λz=>by rw[z,l2]at O;cases O
   refine Jb (Z':=[none,none]) rfl ?_;refine JK (SqT.of (m _ _ Z O)) ?_;exists iteT ?_;exists⟨by rw[vt,vt,vh];lia,?_,rfl⟩;rw[take_snoc y,vi,vi];rfl
  rintro G d ⟨rfl,rfl⟩;rw[show(J.map V.ref).length=ev.length by rw[vt];exact D.1,v5];refine⟨by rw[vt,vt];lia,?_⟩;sleep 4;exists⟨l,_,_,rfl,rfl,s4 _ _ p,by rw[vt];lia,?_⟩;have o:p4≠l:=(jf p hp4).symm;have n4:H1 p4=none:=by
   cases z:H1 p4 with
   | none=>rfl
   | some u=>rw[m _ _ o (s2 _ _ z)]at hp4;cases hp4
  refine⟨g++[p4],_,rfl,λc u k h=>(je k).trans (s4 _ _ (m _ _ k h)),?_,λc k=>?_,?_⟩
  .rw[jm,vi];rfl
  .rcases vg.mp k with z | z
   .exact C c z
   .rw[vo.mp z];exact⟨n4,o⟩
  .rw[take_snoc f,vi];exact All2.snoc (All2.monoM r λc k ks h=>(je (C c k).2).trans (s4 _ _ h)) ((je o).trans t4)
 rintro Z' H3 ⟨g,F,rfl,m,p,C,r⟩;rw[vt,I,v5]at r;exists q l g (E.map λe=>e.map (·.1)) H3 (λc u h=>m _ _ (jf h hl) (a2 _ _ h)) hl p (λc k=>none_of s1 (C c k).1) (by rw[vt];exact lE) r (j6C lE oE)
def wg(T:Txt K mg t):1<*t.Qf t.Qh ["row","moves","limbs"] (sp_check_side):=by
 specialize T.yz.F.ok Q2;let⟨r,l,L,J,F,M,rfl,B,D,X,O,g,G,q⟩:=h;refine⟨_,(jb (jL (jk (j6I hr.units) (jJ jc) (pv 1) (by with_unfolding_all rfl))
   (jg Jv)
   jw)
  (jg (j4 PassesOwn.never rfl (xg (by rfl) T.QK (ja (pv 2) jc)) (Jr rfl (jp (ji (i:=3) Q2.nd rfl (.inr rfl)) (jp (ji' 4 Q2.nd) jT)))
   (jg (jL (jk ZT (jx jD (by rfl) T.JH j7 (ja (jZ (ow:=["move"]) (ci:=[3]) rfl (CompScope.of (defScope Ql) ["row","moves","limbs","number","limb"] rfl rfl (by trivial)) (Js nofun) (jB (pv 1)) (λ_ _ _ _ _=>⟨(ji' 0 (jG ["row","moves","limbs","number","limb"] rfl (by trivial))),(j0Q (jk (j0J (K:=K) rfl) (pv 1) (pv 0) (by with_unfolding_all rfl))),j1K⟩)) jc)) jd (nomark _))
    (jg Jv)
    jw))))),?_⟩
 refine jn (Z':=[some _,some _,some _,none,none]) rfl ?_
 try dsimp only[cxOf,Cx.nox]
 have m:=D.1;exists⟨vB _,?_⟩;sleep 0;exists⟨p0,l,J,M,rfl,rfl,t0,s0 _ _ B,m,λi b e R S=>s0 _ _ (D.2 i b e R S),?_⟩;exists iteB0 (any_empty X) ?_;exists⟨L,_,rfl,SqL.of (s0 _ _ g),?_⟩;refine Kq (xs:=F.map V.ref) (λi I f=>IvE2 λ(p u:N7)=>I=[some (.int r),some (.ref l),some (.ref L),p,u]/\Same H f) ⟨_,_,rfl,s0⟩ ?_ ?_ ?_
 .rintro i I f _ ⟨p,u,rfl,n⟩;exact SqL.of (n _ _ g)
 .rintro i v I f P N hx ⟨p,u,rfl,n⟩ Y Z;have y:=n.trans Y;refine JK (SqT.of Z) ?_;exists⟨l,rfl,⟨_,SqL.of (y _ _ B)⟩,?_⟩;refine jS (xs:=J.map V.ref) (λj z c=>z.length=((M.take j).filter λe=>decide ((i:Int)∈e)).length/\N=c) ⟨rfl,rfl⟩ ?_ ?_ ?_
  .rintro j z c _ ⟨_,rfl⟩;exact SqL.of (y _ _ B)
  .rintro j x z c C ⟨o,rfl⟩;let⟨a,e,rfl,k,U⟩:=D.at_ref C;refine Jb (Z':=[none,some _]) rfl ?_;exists⟨a,_,rfl,.inl (SqL.of (y _ _ U)),rfl,flats e,?_⟩;rw[inI];ac_nf;have W:((M.take j).filter λe=>decide ((i:Int)∈e)).length<=8:=vX (List.length_filter_le _ _) (vX (List.length_take_le' _ _) O);refine iteD (λd=>?_) (λd=>?_)
   .exists⟨⋯,?_,rfl⟩;rw[take_snoc k,filter_append,filter_cons,vc (vI d),vm,vm,o];rfl
   .refine⟨?_,rfl⟩;rw[take_snoc k,filter_append,filter_cons,va (by simpa using d),vm,o];rfl
  rintro z c ⟨o,rfl⟩;rw[vt,m,v5]at o;have o1:=G (i:Int);refine⟨⋯,?_⟩;sleep 2;exists⟨_,_,rfl,.inl ⟨_,SqL.of t2,rfl⟩,?_⟩;exists iteD (λd=>?_) (λd=>?_)
  .exfalso;lia
  .ac_nf;exact⟨_,_,rfl,y.trans s2⟩
 rintro Z' f ⟨p,u,rfl,n⟩;exact q f n
def W4(T:Txt K mg t):1<*t.QH t.QP ["form","inside"] (sp_length_of):=by
 specialize T.Y4.F.ok xv;let⟨a,l,f,j,rfl,d,i,e,q⟩:=h;refine⟨_,(jb (jL (jk JV (jh jq (pv 0) jd) jv (nomark _))
   (jg (ju (jx (wH rfl) (by rfl) T.j65 j3r (ja (pv 1) jc))))
   jw)
  (jb (jL (jk JV (jh jq (pv 0) jd) jv (nomark _))
   (jg (ju (jx (j2m rfl) (by rfl) T.j62 j3p (ja (pv 1) jc))))
   jw)
  (jb (jL (jk JV (jh jq (pv 0) jd) jv (nomark _))
   (jg (ju (jt J3 (jh jq (pv 0) jd) (jh jr (pv 1) jd))))
   jw)
  (jg (ju (jh jq (pv 0) (yU zI jd))))))),?_⟩
 refine jn (Z':=[some _,some _]) rfl ?_
 try dsimp only[cxOf,Cx.nox]
 have B:(200:Nat)<sizeLine:=by decide
 cases f with
 | hold n=>
  have c:H a=some (.tup _):=d;exists zTu c ?_;exists iteE0 ?_;exists zTu c ?_;exists iteE0 ?_;exists zTu c ?_;exists iteE0 ?_;exists zTu c ?_;exact q _ rfl
 | ring x n=>
  have c:H a=some (.tup _):=d;exists zTu c ?_;exists iteE0 ?_;exists zTu c ?_;exists iteE0 ?_;exists zTu c ?_;exists iteE0 ?_;exists zTu c ?_;exact q _ rfl
 | rise x v n=>
  have c:H a=some (.tup _):=d;exists zTu c ?_;exists iteE0 ?_;exists zTu c ?_;exists iteE0 ?_;exists zTu c ?_;exists iteE0 ?_;exists zTu c ?_;exact q _ rfl
 | row ps=>
  let⟨b,c,p⟩:=d;exists zTu c ?_;exists iteE1 ?_;exists⟨l,j,rfl,SqL.of i,?_⟩;exact q _ rfl
 | side ps=>
  let⟨b,c,p⟩:=d;exists zTu c ?_;exists iteE0 ?_;exists zTu c ?_;exists iteE1 ?_;exists⟨l,j,rfl,SqL.of i,List.length_pos_iff.mpr e,λg m o=>?_⟩;exact q g ⟨m,o⟩
 | again k x=>
  have c:H a=some (.tup _):=d;let⟨y,r,rfl,u,z,C,D⟩:=e;exists zTu c ?_;exists iteE0 ?_;exists zTu c ?_;exists iteE0 ?_;exists zTu c ?_;exists iteE1 ?_;exists zTu c ?_;exists ixLm (SqL.of i) (at0) ?_;ac_nf;exact q _ ⟨y,rfl,rfl⟩
def j0G(T:Txt K mg t)(Qe:2<*t.yC t.yJ ["book"] (sp_inner))(Wo:4<*t.Wv t.WG ["book"] (sp_moved))(zg:1<*t.Qf t.Qh ["row","moves","limbs"] (sp_check_side))(zY:1<*t.QH t.QP ["form","inside"] (sp_length_of)):5<*t.Qp t.Qr ["book"] (sp_lengths):=by
 specialize T.Q4.F.ok qf;let⟨b,pl,pp,Z,a7,ls,F,gs,hs,rfl,B,S,q⟩:=h;refine⟨_,(jb (jo (i:=1) qf.nd rfl (.inr rfl) (js T.j1c Wo hr (ja (pv 0) jc)))
  (jb (jo (i:=2) qf.nd rfl (.inr rfl) (jJ jc))
  (jb (j4 PassesOwn.never rfl (xg (by rfl) T.QK (ja (js T.kB Qe hr (ja (pv 0) jc)) jc)) (Jr rfl (jp (ji' 3 qf.nd) (jp (ji' 4 qf.nd) jT)))
   (jb (jo' 5 qf.nd (jh jq (jh jr (jh jq (pv 0) jd) (pv 3)) jd))
   (jb (xo (jk JV (jh jq (pv 5) jd) jv (nomark _))
    (jg (jF (js T.yz zg hr (ja (pv 3) (ja (jZ (ow:=["part"]) (ci:=[1]) rfl (CompScope.of (defScope za) ["book","moves","found","row","inside","form","length"] rfl rfl (by trivial)) (Js nofun) (jB (pv 4)) (λ_ _ _ _ _=>⟨(ji' 0 (jG ["book","moves","found","row","inside","form","length"] rfl (by trivial))),Jq,(jh (Q6 (K:=K) rfl) (pv 1) (pv 0))⟩)) (ja (jh jq (pv 0) jd) jc))))))
    jw)
   (jb (jo' 6 qf.nd (js T.Y4 zY hr (ja (pv 5) (ja (jZ (ow:=["part"]) (ci:=[2]) rfl (CompScope.of (defScope za) ["book","moves","found","row","inside","form","length"] rfl rfl (by trivial)) (Js nofun) (jB (pv 4)) (λ_ _ _ _ _=>⟨(ji' 0 (jG ["book","moves","found","row","inside","form","length"] rfl (by trivial))),Jq,(jh (Q6 (K:=K) rfl) (pv 1) (pv 0))⟩)) jc))))
   (jb (jL (jk ZT (pv 6) (jt YR jd jd) (nomark _))
    (jg Jv)
    jw)
   (jg (jF (Je qA qY kS jC (pv 2) (ja (pv 6) jc)))))))))
  (jg (ju (pv 2)))))),?_⟩
 refine jn (Z':=[some _,none,none,none,none,none,none]) rfl ?_
 try dsimp only[cxOf,Cx.nox]
 have W:=S.w;have pa:=B.pa.1;have gl:=S.gl;have aw:=W.p61;exists⟨b,pl,pp,Z,a7,_,_,rfl,B,W,λlm ab M H1 s1 ar ae av Ml aM oM=>?_⟩;have mg:=S.mv M Ml oM;have aq:=aM.1;exists⟨vB _,?_⟩;walk_at"f l hl H2 s2 t2";have nl:=none_of s1 hl;have a8:=s1.trans s2;exists⟨b,pl,pp,Z,a7,_,_,rfl,B.same a8,W,λli a3 H3 s3 a2 a1 al lia=>?_⟩;ac_nf;have a9:=a8.trans s3;have ao:=s2.trans s3;have J:=lia.1;rw[vt]at J;have am:li≠l:=λz=>by rw[z,t2]at a2;cases a2
 have t3:H3 l=some (.lst []):=s3 _ _ t2;have a6:∀{c u},H c=some u->c≠l:=λh=>jf h nl
 have an:∀{c u},H1 c=some u->c≠l:=λh=>jf h hl
 refine⟨li,_,rfl,SqL.of a1,?_⟩;refine Kq (xs:=a3.map V.ref) (λi σ r=>IvE4 λ(o3 o4 o5 o6:N7)=>IvA2 (σ=[some (.ref b),some (.ref lm),some (.ref l),o3,o4,o5,o6]) ((∀c u,c≠l->H3 c=some u->r c=some u)/\r l=some (.lst ((gs.take i).map V.int))))
  ⟨_,_,_,_,rfl,λc u _ h=>h,t3⟩ ?_ ?_ ?_
 .rintro i σ r _ ⟨o3,o4,o5,o6,rfl,sm,e1⟩;exact SqL.of (sm _ _ am a1)
 .rintro i v σ r P C hv ⟨o3,o4,o5,o6,rfl,sm,e1⟩ sP tP;let⟨X,as,rfl,O,ah⟩:=lia.at_ref hv;have hi:i<F.length:=by
   have:=(vx.mp O).1;rw[vt]at this;exact this
  obtain⟨p,hp⟩:∃p,F[i]?=some p:=⟨_,vz hi⟩
  rw[vv,hp]at O;cases O;let⟨a,ea,fb,af,hf⟩:=B.pa.get hp;have aj:X∈a3:=by
   rw[vv]at hv;let⟨a',ad,e'⟩:=vf.mp hv;injection e' with e';subst e';exact vj ad
  have a5:X≠l:=λz=>by have:=al X aj;rw[z,t2]at this;cases this
  have k4:∀c u,c≠l->H3 c=some u->C c=some u:=λc u I h=>sP _ _ (sm _ _ I h)
  have y:∀c u,H c=some u->C c=some u:=λc u h=>k4 _ _ (a6 h) (a9 _ _ h)
  have a4:∀c u,H1 c=some u->C c=some u:=λc u h=>k4 _ _ (an h) (ao _ _ h)
  have o:C X=some (.lst (((inP F p.2).map λj:Nat=>(j:Int)).map V.int)):=k4 _ _ a5 ah;have ac:=sP _ _ e1;have m:FormAt C fb p.2:=FormAt.same y hf;have Y:=λj=>W.inP_lt (j:=j) hp
  have w8:(inP F p.2).length<=8:=by unfold inP;rw[vt];exact(W.f i p hp).2
  let⟨lp,ak⟩:=S.ln i p hp;have au:=S.gb i hi;refine JK (SqT.of tP) ?_;exists zTu (y _ _ B.t) ?_;exists ixLm (SqL.of (y _ _ B.p)) (ZE (i:=(i:Int)) ⋯ ea) ?_;exists zTu (y _ _ af) ?_;exists⟨λZ' H5=>Z'=[some (.ref b),some (.ref lm),some (.ref l),some (.int i),some (.ref X),some (.ref fb),o6]/\Same C H5,?_,?_⟩
  rotate_left
  .by_cases U:∃qs,p.2 = .side qs
   .let⟨qs,e⟩:=U;have ap:=S.sd i p qs hp e;generalize inP F p.2=is at o Y ap w8;rw[e]at m;let⟨nb,ag,_⟩:=m;exists zTu ag ?_;exists iteE1 ?_;exists⟨X,rfl,⟨_,SqL.of o⟩,?_⟩;have aa:∀j∈is,∃c,ab[j]?=some c/\C c=some (.lst ((hs.getD j []).map V.int)):=λj D=>by
     have jl:=Y j D;let⟨c,I,h1⟩:=aM.get (i:=j) (x:=M.getD j []) (by rw[vy,vz ⋯];rfl);rw[mg j ⋯]at h1;exact⟨c,I,a4 _ _ h1⟩
    refine jS (xs:=(is.map λj:Nat=>(j:Int)).map V.int) (λt G r=>IvE1 λ(L:N2)=>IvA2 (G=L.map V.ref) (ListsAt C L ((is.take t).map λj=>hs.getD j [])/\C=r)) ⟨[],rfl,.nil,rfl⟩ ?_ ?_ ?_
    .rintro t G r _ ⟨L,rfl,lc,rfl⟩;exact SqL.of o
    .rintro t x G r hx ⟨L,rfl,lc,rfl⟩;rw[vv,vv]at hx;let⟨jj,R,rfl⟩:=vf.mp hx;let⟨j,D,rfl⟩:=vf.mp R;let⟨c,I,h1⟩:=aa j (vj D);have a0:=lc.1;rw[vt,vh]at a0;refine Jb (Z':=[none,some _]) rfl ?_;exists iteT ?_;exists ixLm (SqL.of (a4 _ _ ae)) (ZE (i:=(j:Int)) ⋯ I) ?_;refine⟨by rw[vt];lia,L++[c],by rw[vi];rfl,?_,rfl⟩;rw[take_snoc D,vi];exact All2.snoc lc h1
    rintro G r ⟨L,rfl,lc,rfl⟩;rw[vt,vt,v5]at lc;have a0:=lc.1;rw[vt]at a0;refine⟨by rw[vt];lia,?_⟩;sleep 5;exists zTu (s5 _ _ (y _ _ B.t)) ?_;exists⟨_,p5,pl,L,Z,(is.map λj=>hs.getD j []),rfl,t5,All2.mono lc λc ks h=>s5 _ _ h,λks ai=>?_,by rw[vt];lia,s5 _ _ (y _ _ B.l),ap.2,λH6 s6=>?_⟩
    .let⟨j,D,rfl⟩:=vM.mp ai;exact ap.1 j D
    ac_nf;exact⟨rfl,s5.trans s6⟩
   .have kd:∃k xs,C fb=some (.tup (.str k::xs))/\decide (k=("side" : Str))=false:=by
     generalize p.2=f at m U;cases f with
     | side qs=>exact uh ⟨qs,rfl⟩ U
     | hold n=>exact⟨_,_,m,by trivial⟩
     | ring x n=>exact⟨_,_,m,by trivial⟩
     | rise x v n=>exact⟨_,_,m,by trivial⟩
     | row qs=>let⟨_,h1,_⟩:=m;exact⟨_,_,h1,by trivial⟩
     | again k x=>exact⟨_,_,m,by trivial⟩
    let⟨k,xs,hk,dk⟩:=kd;exists ixTm (SqT.of hk) (at0) ?_;exists iteB0 dk ?_;ac_nf;exact⟨rfl,Same.refl _⟩
  rintro Z' H5 ⟨rfl,s5⟩;exists⟨X,rfl,⟨_,SqL.of (s5 _ _ o)⟩,?_⟩;have N:=s5 _ _ ac;refine jS (xs:=((inP F p.2).map λj:Nat=>(j:Int)).map V.int) (λt G r=>G=(((inP F p.2).take t).map λj=>gs.getD j 0).map V.int/\H5=r) ⟨rfl,rfl⟩ ?_ ?_ ?_
  .rintro t G r _ ⟨rfl,rfl⟩;exact SqL.of (s5 _ _ o)
  .rintro t x G r hx ⟨rfl,rfl⟩;rw[vv,vv]at hx;let⟨jj,R,rfl⟩:=vf.mp hx;let⟨j,D,rfl⟩:=vf.mp R;have jl:=Y j (vj D);refine Jb (Z':=[none,some _]) rfl ?_;exists iteT ?_;exists ixLm (SqL.of N) (j3E ⋯ jl) ?_;refine⟨by rw[vt,vt,vh];lia,?_,rfl⟩;rw[take_snoc D,vi,vi];rfl
  rintro G r ⟨rfl,rfl⟩;rw[show(((inP F p.2).map λj:Nat=>(j:Int)).map V.int).length=(inP F p.2).length by rw[vt,vt],v5];refine⟨by rw[vt,vt];lia,?_⟩;sleep 6;exists⟨fb,p6,p.2,_,rfl,FormAt.same (s5.trans s6) m,t6,lp,λg hg=>?_⟩;have eg:=ak g hg;subst eg;exists iteD (λd=>?_) (λd=>?_)
  .exfalso;lia
  exists⟨.inl ⟨rfl,_,SqL.of (s6 _ _ N)⟩,?_⟩;exists⟨l,_,_,rfl,rfl,s6 _ _ N,by rw[vt,vh];lia,?_⟩;refine⟨_,_,_,_,rfl,λc u I h=>(je I).trans (s6 _ _ (s5 _ _ (k4 _ _ I h))),?_⟩;rw[jm,j5l ⋯,vi];rfl
 rintro Z' r ⟨o3,o4,o5,o6,rfl,sm,e1⟩;rw[vt,J,<-gl,v5]at e1;ac_nf;exact q l r (λc u h=>sm _ _ (a6 h) (a9 _ _ h)) nl e1
def Xu(T:Txt K mg t)(Z:2<*t.Qo t.Qq ["text"] (Ws.QD))(z:7<*t.j06 t.j0h ["text"] (sp_readT))(Ji:5<*t.Qp t.Qr ["book"] (sp_lengths)):8<*t.zj t.zq ["self","name","text"] (sp_putM t.Jf):=by
 specialize T.j00.ok kh;let⟨d,v,J,name,p,N,X,gs,hs,rfl,D,bl,O,R,RD,S,q⟩:=h;refine⟨_,(jb (jL (QA (Q0 (js T.Q3 Z hr (ja (pv 1) jc))))
   (jg Jv)
   jw)
  (jb (jo' 3 kh.nd (js T.j3i z hr (ja (pv 2) jc)))
  (jb (jF (js T.Q4 Ji hr (ja (pv 3) jc)))
  (jg (kK (Zi hr) (Jg (pv 0) rfl) (pv 1) (pv 3) rfl))))),?_⟩
 refine jn (Z':=[some _,some _,some _,none]) rfl ?_
 try dsimp only[cxOf,Cx.nox]
 let⟨⟨L,y⟩,eb⟩:=D;exists⟨name,rfl,vX (j75 O) nofun,λH1 I=>?_⟩;exists iteB0 (by rw[O];rfl) ?_;exists⟨p,N,X,rfl,R,RD,λb U W n o H2 s2 F G _ B=>?_⟩;exists⟨b,U,W,n,o,N,X,gs,hs,rfl,B,S,λg r Y _ _=>?_⟩;have f:=I.trans (s2.trans Y);have m:=B.same Y;have j:=f _ _ eb;exists⟨d,t.Jf,L,_,_,rfl,f _ _ y,T.QL,T.JP,YD,?_⟩;exists⟨v,_,rfl,DPut.k (k:=Sum.inr name) j ⋯,?_⟩;have C:∀(a:Addr) (l:N6),r a=some (.tup l)->upd r v (.dK (putK J (Sum.inr name) (.ref b))) a=some (.tup l):=λa l h=>(je (JE h j (λe=>by cases e))).trans h
 have M:∀(a:Addr) (l:N6),r a=some (.lst l)->upd r v (.dK (putK J (Sum.inr name) (.ref b))) a=some (.lst l):=λa l h=>(je (JE h j (λe=>by cases e))).trans h
 exact q b U W n o _ (λc u hc h=>(je hc).trans (f _ _ h)) ⟨⟨L,(je (JE (f _ _ y) j (λe=>by cases e))).trans (f _ _ y)⟩,jm⟩ (none_of I F) (none_of I G) ⟨C _ _ m.t,M _ _ m.l,m.la.mono λa x h=>C _ _ h,M _ _ m.p,m.pa.mono λa x h=>PartAt.keep C h⟩
def wo(T:Txt K mg t)(i:5<*t.Qp t.Qr ["book"] (sp_lengths)):6<*t.qv t.zx ["asked"] (sp_lengthD):=by
 specialize T.ze.F.ok ww;let⟨l,b,u,v,a,c,p,e,n,o,rfl,k,B,S,r,q⟩:=h;refine⟨_,(jg (ju (jW qj (by rfl) T.Y6 Zd (ja (jh jr (js T.Q4 i hr (ja (jh jr (pv 0) jd) jc)) (yU zI jd)) jc)))),?_⟩;refine jn (Z':=[some _]) rfl ?_
 try dsimp only[cxOf,Cx.nox]
 exists ixLm (SqL.of k) (at0) ?_;exists⟨b,u,v,a,c,p,e,n,o,rfl,B,S,λg f x y j=>?_⟩;have m:=S.gl;have d:=S.gb (e.length-1) ⋯;exists ixLm (SqL.of j) (j5c r m) ?_;exists .inl ⟨_,rfl,j0u d.1 d.2,?_⟩;exact q f x
def W6(T:Txt K mg t):1<*t.QI t.QQ ["form","inside","sizes"] (sp_pieces_in):=by
 specialize T.Y5.F.ok JC;let⟨a,l,s0,f,g,C,rfl,o,el,es,i8,hj,a2,q⟩:=h;refine⟨_,(jb (jL (jk JV (jh jq (pv 0) jd) jv (nomark _))
   (jb (jo' 3 JC.nd (jh jr (pv 1) jd))
   (jb (jo' 4 JC.nd (Jm (jk ZT (jh jq (pv 0) jd) jd (nomark _)) (jJ (ja (jQ (ja (pv 3) (ja (jt qE (jh jq (pv 0) jd) jd) (ja (jh jr (pv 2) (pv 3)) jc)))) jc)) (jJ jc)))
   (jg (ju (jt j4b (jJ (ja (jQ (ja (pv 3) (ja jd (ja jd jc)))) jc)) (pv 4))))))
   jw)
  (jb (jo' 5 JC.nd (jJ jc))
  (jb (jo' 6 JC.nd jd)
  (jb (j4 PassesOwn.never rfl (jB (pv 1)) (ji' 3 JC.nd)
   (jb (jF (Je qA qY kS jC (pv 5) (ja (jQ (ja (pv 3) (ja jd (ja (pv 6) jc)))) jc)))
   (jg (jL (jk JV (jh jq (pv 0) jd) jv (nomark _))
    (jg (j6S (i:=6) JC.nd rfl (.inl rfl) (jh jr (pv 2) (pv 3)) j6t))
    jw))))
  (jg (ju (pv 5))))))),?_⟩
 refine jn (Z':=[some _,some _,some _,none,none,none,none]) rfl ?_
 try dsimp only[cxOf,Cx.nox]
 have S:∀j,j<C.length->C[j]?=some (C.getD j 0):=λj h=>by
  rw[vy,vz h];rfl
 by_cases ha:∃k x,f = .again k x
 .let⟨k,x,rfl⟩:=ha;have o:H a=some (.tup [.str "again",.int k,.str x]):=o;let⟨j,r,rfl⟩:=List.exists_cons_of_ne_nil (a2 k x rfl);have lj:=hj j vq;exists zTu o ?_;exists iteE1 ?_;exists ixLm (SqL.of el) (at0) ?_;exists zTu o ?_;exists iteD (λc=>?_) (λc=>?_)
  .exists zTu o ?_;exists ixLm (SqL.of es) (jM (j:=j) (by rw[vv,S j lj];rfl)) ?_;exists⟨ud,?_⟩;sleep 1;exists⟨uf,?_⟩;sleep 2;exists⟨ud,?_⟩;sleep 3;exists⟨uf,?_⟩;sleep 4;exists⟨p4,p2,_,_,rfl,rfl,t4,s4 _ _ (s3 _ _ t2),ue,?_⟩;sleep 5;have O:=s1.trans (s2.trans (s3.trans (s4.trans s5)));refine q p5 [p3,p1] _ O (none_of (s1.trans (s2.trans (s3.trans s4))) hp5) t5 ?_;show PcsAt H5 _ ((j,1,0)::(if 1<k then[(j,k-1,C.getD j 0)]else[]));rw[vc c];exact .cons (s5 _ _ (s4 _ _ t3)) (.cons (s5 _ _ (s4 _ _ (s3 _ _ (s2 _ _ t1)))) .nil)
  .exists⟨vB _,?_⟩;sleep 2;exists⟨ud,?_⟩;sleep 3;exists⟨uf,?_⟩;sleep 4;exists⟨p4,p2,_,_,rfl,rfl,t4,s4 _ _ (s3 _ _ t2),uf,?_⟩;sleep 5;have O:=s2.trans (s3.trans (s4.trans s5));refine q p5 [p3] _ O (none_of (s2.trans (s3.trans s4)) hp5) t5 ?_;show PcsAt H5 _ ((j,1,0)::(if 1<k then[(j,k-1,C.getD j 0)]else[]));rw[va c];exact .cons (s5 _ _ (s4 _ _ t3)) .nil
 have a3:∃W xs,H a=some (.tup (.str W::xs))/\decide (W=("again" : Str))=false/\((decide (W=("row" : Str))=true/\∃xs,f = .row xs)\/(decide (W=("row" : Str))=false/\∀g,pcsI C f g=g.map λj=>(j,1,0))):=by
  cases f with
  | hold n=>exact⟨_,_,o,by trivial,.inr ⟨by trivial,λ_=>rfl⟩⟩
  | ring x n=>exact⟨_,_,o,by trivial,.inr ⟨by trivial,λ_=>rfl⟩⟩
  | rise x v n=>exact⟨_,_,o,by trivial,.inr ⟨by trivial,λ_=>rfl⟩⟩
  | row ps=>let⟨b,F,_⟩:=o;exact⟨_,_,F,by trivial,.inl ⟨by trivial,_,rfl⟩⟩
  | side ps=>let⟨b,F,_⟩:=o;exact⟨_,_,F,by trivial,.inr ⟨by trivial,λ_=>rfl⟩⟩
  | again k x=>exact uh ⟨k,x,rfl⟩ ha
 let⟨W,xs,Z,dk,y⟩:=a3;exists ixTm (SqT.of Z) (at0) ?_;exists iteB0 dk ?_;exists⟨vB _,?_⟩;walk_at"f p hp H1 s1 t1";ac_nf;have np:∀{c u},H c=some u->c≠p:=λh=>jf h hp
 refine⟨l,rfl,⟨_,SqL.of (s1 _ _ el)⟩,?_⟩;refine j9 (xs:=(g.map λj:Nat=>(j:Int)).map V.int) (λi σ I=>IvE4 λ(o3:N7) (D:Int) (d:N2) (B:List Pc)=>IvA6 (σ=[some (.ref a),some (.ref l),some (.ref s0),o3,none,some (.ref p),some (.int D)]) (Same H I) (I p=some (.lst (d.map V.ref))) (d.length=i) (PcsAt I d B) (((∃xs,f = .row xs)->rowPc C g 0=B++rowPc C (g.drop i) D)/\(¬(∃xs,f = .row xs)->D=0/\B=(g.take i).map λj=>(j,1,0))))
  ⟨_,0,[],[],rfl,s1,t1,rfl,.nil,λ_=>rfl,λ_=>⟨rfl,rfl⟩⟩ ?_ ?_ ?_
 .rintro i σ I _ ⟨o3,D,d,B,rfl,X,J,la,hq,F,U⟩;exact SqL.of (X _ _ el)
 .rintro i v σ I hv ⟨o3,D,d,B,rfl,X,J,la,hq,F,U⟩;rw[vv,vv]at hv;let⟨jj,a1,rfl⟩:=vf.mp hv;let⟨j,G,rfl⟩:=vf.mp a1;have il:=(vx.mp G).1;have ed:g.drop i=j::g.drop (i+1):=by
   let⟨h,rfl⟩:=vx.mp G;exact List.drop_eq_getElem_cons h
  have lj:=hj j (vj G);exists⟨.inl ⟨rfl,_,SqL.of J⟩,?_⟩;exists⟨ud,?_⟩;sleep 2;exists⟨p,_,_,rfl,rfl,s2 _ _ J,by rw[vt];lia,?_⟩;have n2:p2≠p:=λz=>by rw[z,s2 _ _ J]at t2;cases t2
  have s3:Same H (upd H2 p (.lst (d.map V.ref++[.ref p2]))):=λc u h=>(je (np h)).trans (s2 _ _ (X _ _ h))
  have e3:upd H2 p (.lst (d.map V.ref++[.ref p2])) p=some (.lst ((d++[p2]).map V.ref)):=by rw[jm,vi];rfl
  have M:PcsAt (upd H2 p (.lst (d.map V.ref++[.ref p2]))) (d++[p2]) (B++[(j,1,D)]):=by
   refine All2.snoc (All2.mono hq λc x h=>?_) ((je n2).trans t2);exact(je (λz=>by rw[z,J]at h;cases h)).trans (s2 _ _ h)
  generalize upd H2 p (.lst (d.map V.ref++[.ref p2]))=H3 at s3 e3 M|-;exists ixTm (SqT.of (s3 _ _ Z)) (at0) ?_;ac_nf;rcases y with⟨Y,m,R⟩ | ⟨Y,L⟩
  .refine iteB1 Y ?_;exists ixLm (SqL.of (s3 _ _ es)) (jM (j:=j) (by rw[vv,S j lj];rfl)) ?_;exists⟨_,_,d++[p2],B++[(j,1,D)],rfl,s3,e3,by rw[vm,la];rfl,M,λh=>?_,λh=>uh ⟨m,R⟩ h⟩;rw[F h,ed,List.append_assoc];rfl
  .refine iteB0 Y ?_;exists⟨_,_,d++[p2],B++[(j,1,D)],rfl,s3,e3,by rw[vm,la];rfl,M,λh=>?_,λh=>?_⟩
   .let⟨m,R⟩:=h;subst R;have:=L [0,0];let⟨bb,a0,_⟩:=o;rw[a0]at Z;cases Z;exact uh Y (by trivial)
   .let⟨b0,eq⟩:=U h;refine⟨b0,?_⟩;rw[take_snoc G,vi,eq,b0];rfl
 rintro Z' I ⟨o3,D,d,B,rfl,X,J,la,hq,F,U⟩;rw[show((g.map λj:Nat=>(j:Int)).map V.int).length=g.length by rw[vt,vt]]at F U;exists q p d I X hp J ?_;have e:pcsI C f g=B:=by
  by_cases N:∃xs,f = .row xs
  .let⟨m,rfl⟩:=N;show rowPc C g 0=B;rw[F ⟨m,rfl⟩,List.drop_length];exact append_nil _
  .rcases y with⟨_,m,R⟩ | ⟨_,L⟩
   .exact uh ⟨m,R⟩ N
   .rw[L,(U N).2,v5]
 rw[e];exact hq
def W7(T:Txt K mg t)(Qe:2<*t.yC t.yJ ["book"] (sp_inner))(zZ:1<*t.QI t.QQ ["form","inside","sizes"] (sp_pieces_in)):3<*t.QJ t.QR ["book","sizes"] (sp_pieces_of):=by
 specialize T.zQ.F.ok xy;let⟨b,pl,pp,s0,Z,C,ls,D,gs,rfl,B,W,es,gl,q⟩:=h;refine⟨_,(jg (ju (jZ (ow:=["part","inside"]) (ci:=[1]) rfl (CompScope.of (defScope QU) ["book","sizes"] rfl rfl (by trivial)) (zz nofun nofun) (xi (by rfl) T.Y7 (ja (jh jq (pv 0) jd) (ja (js T.kB Qe hr (ja (pv 0) jc)) jc))) (λ_ _ _ _ _=>⟨(Jr rfl (jp (ji' 0 (jG ["book","sizes"] rfl (by trivial))) (jp (ji' 1 (jG ["book","sizes"] rfl (by trivial))) jT))),Jq,(js T.Y5 zZ hr (ja (jh (yO (K:=K) rfl) (pv 0) jd) (ja (pv 1) (ja (pv 2) jc))))⟩)))),?_⟩;refine jn (Z':=[some _,some _]) rfl ?_
 try dsimp only[cxOf,Cx.nox]
 have a3:=W.p61;have pa:=B.pa.1;exists zTu B.t ?_;exists⟨b,pl,pp,Z,C,ls,D,rfl,B,W,λli Y H3 F a0 n a2 lia=>?_⟩;ac_nf;have y:=lia.1;rw[vt]at y;refine⟨pp,li,_,_,rfl,SqL.of (F _ _ B.p),SqL.of n,?_⟩;refine xY (xs:=C.map V.ref) (zs:=Y.map V.ref) (λi J m=>IvE1 λ(d:N2)=>IvA4 (J=d.map V.ref) (d.length=i) (Same H3 m) ((∀a∈d,H a=none)/\PssAt m d ((D.take i).map λp=>pcsI gs p.2 (inP D p.2)))) (by rw[vt,vt];lia) ⟨[],rfl,rfl,Same.refl _,(λa h=>nomatch h),.nil⟩ ?_ ?_ ?_
 .rintro i J m _ ⟨d,rfl,G,g,I,l⟩;exact⟨SqL.of (g _ _ (F _ _ B.p)),SqL.of (g _ _ n)⟩
 .rintro i u v J m T0 H4 hu hv ⟨d,rfl,G,g,I,l⟩ sP tP;have hi:=(vx.mp hu).1;rw[vt]at hi;let⟨a,p,rfl,r,fb,R,hf⟩:=B.pa.at_ref hu;let⟨ia,is,rfl,o,S⟩:=lia.at_ref hv;rw[vv,r]at o;cases o;have a1:=(vx.mp r).1;have s4:=g.trans sP;have f:=F.trans s4;have i8:(inP D p.2).length<=8:=by unfold inP;rw[vt];exact(W.f i p r).2
  refine Jb (Z':=[none,none,some _]) rfl ?_;refine JK (SqT.of tP) ?_;exists iteT ?_;exists zTu (f _ _ R) ?_;exists⟨fb,ia,s0,p.2,inP D p.2,gs,rfl,FormAt.same f hf,s4 _ _ S,f _ _ es,i8,λj hj=>by have:=W.inP_lt r hj;lia,λk x e=>by rw[e];exact List.cons_ne_nil _ _,λp5 L H5 s5 U e5 X=>?_⟩;refine⟨by rw[vt];lia,d++[p5],by rw[vi];rfl,by rw[vm,G];rfl,s4.trans s5,λc hc=>(vg.mp hc).elim (I c) λz=>by rw[vo.mp z];exact none_of f U,?_⟩;rw[take_snoc r,vi];refine All2.snoc (All2.mono l λc x h=>?_) ⟨L,e5,X⟩;let⟨M,N,O⟩:=h;exact⟨M,s5 _ _ (sP _ _ N),All2.mono O λc x h=>s5 _ _ (sP _ _ h)⟩
 rintro J m ⟨d,rfl,G,g,I,l⟩;rw[vt]at G l;refine⟨by rw[vt];lia,?_⟩;sleep 4;refine q _ d _ (F.trans (g.trans s4)) (none_of (F.trans g) hp4) t4 ?_ I;rw[pa,v5]at l;refine All2.mono l λc x h=>?_
 let⟨M,N,O⟩:=h;exact⟨M,s4 _ _ N,All2.mono O λc x h=>s4 _ _ h⟩
def yQ(T:Txt K mg t)(jK:1<*t.JA t.JB ["named"] (sp_numbers_of))(Yl:3<*t.Wu t.WF ["book"] (sp_ends))(Ji:5<*t.Qp t.Qr ["book"] (sp_lengths))(qi:3<*t.QJ t.QR ["book","sizes"] (sp_pieces_of)):6<*t.Ju t.JN ["self","book"] (sp_initS t.jR):=by
 specialize T.Yj.ok y9;let⟨a,m,b,pl,pp,g,C,R,ps,gs,hs,rfl,ha,B,N,q⟩:=h;refine⟨_,(jb (Qz (pv 0) (js T.qt jK hr (ja (jh jq (pv 1) jd) jc)) rfl)
  (jb (Qz (pv 0) (jZ (ow:=["name","height"]) (ci:=[]) rfl (CompScope.of (defScope Jw) ["self","book"] rfl rfl (by trivial)) (zz nofun nofun) (jB (jh jq (pv 1) jd)) (λ_ _ _ _ _=>⟨(Jr rfl (jp (ji' 0 (jG ["self","book"] rfl (by trivial))) (jp (ji' 1 (jG ["self","book"] rfl (by trivial))) jT))),Jq,(pv 1)⟩)) rfl)
  (jb (Qz (pv 0) (jZ (ow:=["name","form"]) (ci:=[]) rfl (CompScope.of (defScope Jw) ["self","book"] rfl rfl (by trivial)) (zz nofun nofun) (jB (jh jq (pv 1) jd)) (λ_ _ _ _ _=>⟨(Jr rfl (jp (ji' 0 (jG ["self","book"] rfl (by trivial))) (jp (ji' 1 (jG ["self","book"] rfl (by trivial))) jT))),Jq,(pv 1)⟩)) rfl)
  (jb (Qz (pv 0) (js T.Q4 Ji hr (ja (pv 1) jc)) rfl)
  (jb (Qz (pv 0) (js T.X9 Yl hr (ja (pv 1) jc)) rfl)
  (jg (Qz (pv 0) (js T.zQ qi hr (ja (pv 1) (ja (Jg (pv 0) rfl) jc))) rfl))))))),?_⟩
 refine jn (Z':=[some _,some _]) rfl ?_
 try dsimp only[cxOf,Cx.nox]
 have W:=N.s.w;have gl:=N.s.gl;have l8:=W.l8;have ae:=W.p61;have la:=B.la.1;have ac:=B.pa.1;let⟨S,I,n0,X⟩:=B.less ha;have z0:Same S H:=I H λc u _ h=>h
 exists zTu B.t ?_;exists⟨pl,g,nmsOf R,rfl,B.l,by rw[nmsOf,vt];exact la,λi a x ea ex=>?_,W.ln,by rw[nmsOf,vt];lia,λd H1 s1 hd ed=>?_⟩
 .unfold nmsOf at ex;rw[vv]at ex;let⟨p,ep,rfl⟩:=vf.mp ex;exact⟨_,B.la.2 i a p ea ep⟩
 exists⟨a,_,m,[],rfl,s1 _ _ ha,T.jV,T.QZ,(by show 0<1000;decide),?_⟩;have nd:d≠a:=λz=>by rw[z,ha]at hd;cases hd
 generalize e2:upd H1 a _=H2;have k2:∀c u,c≠a->H1 c=some u->H2 c=some u:=λc u n h=>e2▸(je n).trans h
 have a2:=Zc e2;clear e2;have z2:Same S H2:=I H2 λc u n h=>k2 _ _ n (s1 _ _ h)
 have B2:=X.same z2;exists zTu B2.t ?_;exists⟨pl,rfl,⟨_,SqL.of B2.l⟩,?_⟩;refine jS (xs:=g.map V.ref) (λi F o=>F=((R.map (·.2)).take i).map V.int/\H2=o) ⟨rfl,rfl⟩ ?_ ?_ ?_
 .rintro i F o _ ⟨rfl,rfl⟩;exact SqL.of B2.l
 .rintro i v F o hv ⟨rfl,rfl⟩;let⟨a,p,rfl,hp,M⟩:=B2.la.at_ref hv;have hi:=(vx.mp hp).1;refine Jb (Z':=[none,none]) rfl ?_;refine JK (SqT.of M) ?_;exists iteT ?_;exists⟨by rw[vt,vh,vt];lia,?_,rfl⟩;rw[take_snoc (show(R.map (·.2))[i]?=some p.2 by rw[vv,hp];rfl),vi];rfl
 rintro F o ⟨rfl,rfl⟩;rw[show(g.map V.ref).length=(R.map (·.2)).length by rw[vt,vt];exact la,v5];refine⟨by rw[vt,vt];lia,?_⟩;sleep 3;exists⟨a,_,m,_,rfl,s3 _ _ a2,T.jV,T.qL,Rm.few (jO _ _ _) nofun,?_⟩;have n3:p3≠a:=λz=>by rw[z,a2]at hp3;cases hp3
 generalize e4:upd H3 a _=H4;have k4:∀c u,c≠a->H3 c=some u->H4 c=some u:=λc u n h=>e4▸(je n).trans h
 have a4:=Zc e4;clear e4;have z4:Same S H4:=λc u h=>k4 _ _ (n0 h) (s3 _ _ (z2 _ _ h))
 have B4:=X.same z4;exists zTu B4.t ?_;exists⟨pp,rfl,⟨_,SqL.of B4.p⟩,?_⟩;refine jS (xs:=C.map V.ref) (λi F o=>IvE1 λ(f:N2)=>IvA2 (F=f.map V.ref) (All2 (λa p=>FormAt H4 a p.2) f (ps.take i)/\H4=o)) ⟨[],rfl,.nil,rfl⟩ ?_ ?_ ?_
 .rintro i F o _ ⟨f,rfl,J,rfl⟩;exact SqL.of B4.p
 .rintro i v F o hv ⟨f,rfl,J,rfl⟩;let⟨a',p,rfl,hp,fb,M,hf⟩:=B4.pa.at_ref hv;have hi:=(vx.mp hp).1;have a5:=J.1;rw[vh]at a5;refine Jb (Z':=[none,none]) rfl ?_;refine JK (SqT.of M) ?_;exists iteT ?_;exists⟨by rw[vt];lia,f++[fb],by rw[vi];rfl,?_,rfl⟩;rw[take_snoc hp];exact All2.snoc J hf
 rintro F o ⟨f,rfl,J,rfl⟩;rw[vt,ac,v5]at J;have fl:=J.1;refine⟨by rw[vt];lia,?_⟩;sleep 5;exists⟨a,_,m,_,rfl,s5 _ _ a4,T.jV,T.qM,vF (jO _ _ _) (vF (Nat.succ_le_succ (jO _ _ _)) nofun),?_⟩;have n5:p5≠a:=λz=>by rw[z,a4]at hp5;cases hp5
 generalize e6:upd H5 a _=H6;have k6:∀c u,c≠a->H5 c=some u->H6 c=some u:=λc u n h=>e6▸(je n).trans h
 have a6:=Zc e6;clear e6;have z6:Same S H6:=λc u h=>k6 _ _ (n0 h) (s5 _ _ (z4 _ _ h))
 exists⟨b,pl,pp,g,C,R,ps,gs,hs,rfl,X.same z6,N.s,λl7 H7 s7 a1 e7=>?_⟩;exists⟨a,_,m,_,rfl,s7 _ _ a6,T.jV,T.j6,few3,?_⟩;have n7:l7≠a:=λz=>by rw[z,a6]at a1;cases a1
 generalize e8:upd H7 a _=H8;have k8:∀c u,c≠a->H7 c=some u->H8 c=some u:=λc u n h=>e8▸(je n).trans h
 have a8:=Zc e8;clear e8;have z8:Same S H8:=λc u h=>k8 _ _ (n0 h) (s7 _ _ (z6 _ _ h))
 exists⟨b,pl,pp,g,C,R,ps,rfl,X.same z8,W,λl9 as E Y U a3 e9 na lE aE oE=>?_⟩;exists⟨a,_,m,_,rfl,U _ _ a8,T.jV,T.Qj,Rm.few4,?_⟩;have n9:l9≠a:=λz=>by rw[z,a8]at a3;cases a3
 generalize L:upd Y a _=H10;have O:∀c u,c≠a->Y c=some u->H10 c=some u:=λc u n h=>L▸(je n).trans h
 have k:=Zc L;clear L;have ad:Same S H10:=λc u h=>O _ _ (n0 h) (U _ _ (z8 _ _ h))
 have w7:∀c u,c≠a->H7 c=some u->H10 c=some u:=λc u n h=>O _ _ n (U _ _ (k8 _ _ n h))
 exists⟨a,_,m,_,_,rfl,k,T.jV,T.j6,(jX (by trivial)).trans qZ,?_⟩;exists⟨b,pl,pp,l7,g,C,R,ps,gs,rfl,X.same ad,W,w7 _ _ n7 e7,gl,λy l j D G a7 a0 _=>?_⟩;exists⟨a,_,m,_,rfl,D _ _ k,T.jV,T.qx,Rm.few5,?_⟩;have a9:y≠a:=λz=>by rw[z,k]at G;cases G
 have r:∀c u,c≠a->j c=some u->upd j a (.ins t.jR m (fldS ⟨d,p3,p5,l7,l9,y,f,as,l⟩)) c=some u:=λc u n h=>(je n).trans h
 have u9:∀c u,c≠a->Y c=some u->upd j a (.ins t.jR m (fldS ⟨d,p3,p5,l7,l9,y,f,as,l⟩)) c=some u:=λc u n h=>r _ _ n (D _ _ (O _ _ n h))
 have u7:∀c u,c≠a->H7 c=some u->_=some u:=λc u n h=>u9 _ _ n (U _ _ (k8 _ _ n h))
 have u5:∀c u,c≠a->H5 c=some u->_=some u:=λc u n h=>u7 _ _ n (s7 _ _ (k6 _ _ n h))
 have u3:∀c u,c≠a->H3 c=some u->_=some u:=λc u n h=>u5 _ _ n (s5 _ _ (k4 _ _ n h))
 have u1:∀c u,c≠a->H1 c=some u->_=some u:=λc u n h=>u3 _ _ n (s3 _ _ (k2 _ _ n h))
 have nq:∀{c:Addr} {xs:N6},j c=some (.lst xs)->c≠a:=λh z=>by rw[z,D _ _ k]at h;cases h
 have ab:∀{c:Addr} {xs:N6},j c=some (.tup xs)->c≠a:=λh z=>by rw[z,D _ _ k]at h;cases h
 have nt:∀{c:Addr} {xs:N6},Y c=some (.tup xs)->c≠a:=λh z=>by rw[z,U _ _ a8]at h;cases h
 have nl:∀{c:Addr} {xs:N6},Y c=some (.lst xs)->c≠a:=λh z=>by rw[z,U _ _ a8]at h;cases h
 have aa:∀{c:Addr} {xs:N6},H4 c=some (.tup xs)->c≠a:=λh z=>by rw[z,a4]at h;cases h
 exact q ⟨d,p3,p5,l7,l9,y,f,as,l⟩ E _ (λc u n h=>u1 _ _ n (s1 _ _ h)) ⟨⟨m,jm⟩,u1 _ _ nd ed,u3 _ _ n3 t3,u5 _ _ n5 t5,All2.mono J λc p h=>FormAt.put (λb xs hb=>u5 _ _ (aa hb) (s5 _ _ hb)) h,u7 _ _ n7 e7,u9 _ _ n9 e9,lE,
  All2.mono aE λc e ⟨bs,Z,h2⟩=>⟨bs,u9 _ _ (nl Z) Z,All2.mono h2 λb q h=>u9 _ _ (nt h) h⟩,oE,r _ _ a9 a7,All2.mono a0 λc e ⟨bs,Z,h2⟩=>⟨bs,r _ _ (nq Z) Z,All2.mono h2 λb q h=>r _ _ (ab h) h⟩⟩
def XB(T:Txt K mg t):1<*t.zn t.zw ["pieces","sizes","gone"] (sp_progress):=by
 specialize T.kZ.F.ok JL;let⟨l,s0,b,bs,O,a,rfl,S,W,U,q8,ok,t1,t2,q⟩:=h;refine⟨_,(jb (jo' 3 JL.nd (jJ jc))
  (jb (j4 PassesOwn.never rfl (jB (pv 0)) (Jr rfl (jp (ji' 4 JL.nd) (jp (ji' 5 JL.nd) (jp (ji' 6 JL.nd) jT))))
   (jg (jL (jk Q7 (pv 6) (pv 2) (nomark _))
    (jb (jo' 7 JL.nd (jx (j2n rfl) (by rfl) T.j63 j6m (ja (jt qS (jt qE (pv 2) (pv 6)) (jh jr (pv 1) (pv 4))) (ja (pv 5) jc))))
    (jb (jo' 8 JL.nd (Jm (jk XF (pv 7) (pv 5) (nomark _)) (jt qE (jt qE (pv 2) (pv 6)) (jt J3 (pv 7) (jh jr (pv 1) (pv 4)))) j0))
    (jg (jF (Je qA qY kS jC (pv 3) (ja (jQ (ja (pv 4) (ja (pv 6) (ja (pv 7) (ja (pv 8) jc))))) jc))))))
    jw)))
  (jg (ju (pv 3))))),?_⟩
 refine jn (Z':=[some _,some _,some _,none,none,none,none,none,none]) rfl ?_
 try dsimp only[cxOf,Cx.nox]
 have B:∀j,j<a.length->a[j]?=some (a.getD j 0):=λj h=>by
  rw[vy,vz h];rfl
 have bl:=W.1;exists⟨vB _,?_⟩;walk_at"f p hp H1 s1 e1";have Y:∀{c u},H c=some u->c≠p:=λh=>jf h hp
 exists⟨l,rfl,⟨_,SqL.of (s1 _ _ S)⟩,?_⟩;refine j9 (xs:=bs.map V.ref) (λi R m=>IvE6 λ(F G I J L:N7) (d:N2)=>IvA4 (R=[some (.ref l),some (.ref s0),some (.int b),some (.ref p),F,G,I,J,L]) (Same H m) (m p=some (.lst (d.map V.ref))) (d.length<=i/\PrgAt m d (prg a b (O.take i))))
  ⟨_,_,_,_,_,[],rfl,s1,e1,vA _,.nil⟩ ?_ ?_ ?_
 .rintro i R m _ ⟨F,G,I,J,L,d,rfl,k,e,X,n⟩;exact SqL.of (k _ _ S)
 .rintro i v R m hv ⟨F,G,I,J,L,d,rfl,k,e,X,n⟩;let⟨c,x,rfl,N,hc⟩:=W.at_ref hv;have hi:=(vx.mp N).1;have C:=ok x (vj N);have D:=C;let⟨Z,g1,g2,n1,n2,b1,b2⟩:=D;have g:prg a b (O.take (i+1))=prg a b (O.take i)++(prg1 a b x).toList:=by
   rw[take_snoc N];unfold prg;rw[List.filterMap_append];congr 1
  refine j0U (SqT.of (k _ _ hc)) ?_;exists iteD (λr=>?_) (λr=>?_)
  .have a1:=j4d C r;exists ixLm (SqL.of (k _ _ U)) (jM (j:=x.1) (by rw[vv,B _ Z];rfl)) ?_;ac_nf;have eo:(if x.2.1<(b-x.2.2)/a.getD x.1 0 then x.2.1 else(b-x.2.2)/a.getD x.1 0)=ov a b x:=rfl;have a0:(if(b-x.2.2)/a.getD x.1 0>x.2.1 then x.2.1 else(b-x.2.2)/a.getD x.1 0)=ov a b x:=rfl;refine⟨_,_,rfl,?_⟩;rw[eo];exists iteD (λM=>?_) (λM=>?_)
   .exists ixLm (SqL.of (k _ _ U)) (jM (j:=x.1) (by rw[vv,B _ Z];rfl)) ?_;exists⟨.inl ⟨rfl,_,SqL.of e⟩,?_⟩;exists⟨uc,?_⟩;walk_at"f 2 e";exists⟨p,_,_,rfl,rfl,s2 _ _ e,by rw[vt];lia,?_⟩;have o:p2≠p:=λz=>by rw[z,s2 _ _ e]at e2;cases e2
    refine⟨_,_,_,_,_,d++[p2],rfl,λc u h=>(je (Y h)).trans (s2 _ _ (k _ _ h)),by rw[jm,vi];rfl,by rw[vm];show d.length+1<=_;lia,?_⟩;have f:prg1 a b x=some (x.1,x.2.2,ov a b x,some (b-x.2.2-ov a b x*a.getD x.1 0)):=by
     unfold prg1;rw[vc r,vc M]
    rw[g,f];refine All2.snoc (All2.mono n λc y h=>?_) ((je o).trans e2);exact(je (λz=>by rw[z,e]at h;cases h)).trans (s2 _ _ h)
   .exists⟨.inl ⟨rfl,_,SqL.of e⟩,?_⟩;exists⟨uc,?_⟩;walk_at"f 2 e";exists⟨p,_,_,rfl,rfl,s2 _ _ e,by rw[vt];lia,?_⟩;have o:p2≠p:=λz=>by rw[z,s2 _ _ e]at e2;cases e2
    refine⟨_,_,_,_,_,d++[p2],rfl,λc u h=>(je (Y h)).trans (s2 _ _ (k _ _ h)),by rw[jm,vi];rfl,by rw[vm];show d.length+1<=_;lia,?_⟩;have f:prg1 a b x=some (x.1,x.2.2,ov a b x,none):=by
     unfold prg1;rw[vc r,va M]
    rw[g,f];refine All2.snoc (All2.mono n λc y h=>?_) ((je o).trans e2);exact(je (λz=>by rw[z,e]at h;cases h)).trans (s2 _ _ h)
  .exists⟨_,_,_,_,_,d,rfl,k,e,⋯,?_⟩;have f:prg1 a b x=none:=by
    unfold prg1;rw[va r]
   rw[g,f];show PrgAt m d (_++[]);rw[append_nil];exact n
 rintro Z' m ⟨F,G,I,J,L,d,rfl,k,e,X,n⟩;rw[vt,bl,v5]at n;ac_nf;exact q p d m k hp e n
def j2R(T:Txt K mg t)(Z2:1<*t.zn t.zw ["pieces","sizes","gone"] (sp_progress)):2<*t.Kf t.Ko ["pieces","sizes","gone"] (sp_within):=by
 specialize T.xM.F.ok Qs;let⟨l,S,n,bs,C,gs,rfl,el,hq,Y,q8,ok,t1,t2,q⟩:=h;refine⟨_,(jb (jo' 3 Qs.nd (jJ jc))
  (jb (j4 PassesOwn.never rfl (jB (js T.kZ Z2 hr (ja (pv 0) (ja (pv 1) (ja (pv 2) jc))))) (Jr rfl (jp (ji' 4 Qs.nd) (jp (ji' 5 Qs.nd) (jp (ji' 6 Qs.nd) (jp (ji' 7 Qs.nd) jT)))))
   (jb (xo (jk ZT (pv 6) jd (nomark _))
    (jg (jF (Je qA qY kS jC (pv 3) (ja (jQ (ja (pv 4) (ja (jh jr (pv 1) (pv 4)) jc))) jc))))
    jw)
   (jg (jL (jk j5G (pv 7) j0 (nomark _))
    (jg (jF (Je qA qY kS jC (pv 3) (ja (jQ (ja (pv 4) (ja (pv 7) jc))) jc))))
    jw))))
  (jg (ju (pv 3))))),?_⟩
 refine jn (Z':=[some _,some _,some _,none,none,none,none,none]) rfl ?_
 try dsimp only[cxOf,Cx.nox]
 have a0:∀j,j<gs.length->gs[j]?=some (gs.getD j 0):=λj h=>by
  rw[vy,vz h];rfl
 exists⟨vB _,?_⟩;walk_at"f p hp H1 s1 e1";have np:∀{c u},H c=some u->c≠p:=λh=>jf h hp
 exists⟨l,S,n,bs,C,gs,rfl,s1 _ _ el,All2.mono hq λc x h=>s1 _ _ h,s1 _ _ Y,q8,ok,t1,t2,λl2 W H2 s2 J e2 G=>?_⟩;have a4:=j1C (gs:=gs) (t:=n) C;have U:=G.1;have a1:l2≠p:=λz=>by rw[z,e1]at J;cases J
 have D:=s2 _ _ e1;exists⟨l2,rfl,⟨_,SqL.of e2⟩,?_⟩;refine j9 (xs:=W.map V.ref) (λi σ f=>IvE5 λ(M N O R:N7) (e:N2)=>IvA4 (σ=[some (.ref l),some (.ref S),some (.int n),some (.ref p),M,N,O,R]) (∀c u,c≠p->H2 c=some u->f c=some u) (f p=some (.lst (e.map V.ref))) (e.length<=2*i/\GonAt f e (((prg gs n C).take i).flatMap (wth1 gs))))
  ⟨_,_,_,_,[],rfl,λc u _ h=>h,D,vA _,.nil⟩ ?_ ?_ ?_
 .rintro i σ f _ ⟨M,N,O,R,e,rfl,m,g,la,B⟩;exact SqL.of (m _ _ a1 e2)
 .rintro i v σ f hv ⟨M,N,O,R,e,rfl,m,g,la,B⟩;let⟨c,y,rfl,hy,b⟩:=G.at_ref hv;have hi:=(vx.mp hy).1;have a2:c≠p:=λz=>by rw[z,D]at b;cases b
  let⟨x,hx,ex⟩:=kH (vj hy);have y1:y.1<gs.length:=by rw[KI ex];exact(ok x hx).1
  have k:((prg gs n C).take (i+1)).flatMap (wth1 gs)=((prg gs n C).take i).flatMap (wth1 gs)++wth1 gs y:=by
   rw[take_snoc hy,flatMap_append,flatMap_cons,flatMap_nil,append_nil]
  have Z:f S=some (.lst (gs.map V.int)):=m _ _ (np Y) (s2 _ _ (s1 _ _ Y));refine j6U (SqT.of (m _ _ a2 b)) ?_;exists⟨λZ' H3=>IvE1 λ(a:N2)=>IvA4 (Z'=[some (.ref l),some (.ref S),some (.int n),some (.ref p),some (.int (y.1:Nat)),some (.int y.2.1),some (.int y.2.2.1),some (optV y.2.2.2)]) (∀c u,c≠p->f c=some u->H3 c=some u) (H3 p=some (.lst (a.map V.ref))) (a.length<=2*i+1/\GonAt H3 a (((prg gs n C).take i).flatMap (wth1 gs)++(if 0<y.2.2.1 then[(y.1,gs.getD y.1 0)]else[]))),?_,?_⟩
  rotate_left
  .exists iteD (λX=>?_) (λX=>?_)
   .exists⟨.inl ⟨rfl,_,SqL.of g⟩,?_⟩;exists ixLm (SqL.of Z) (jM (j:=y.1) (by rw[vv,a0 _ y1];rfl)) ?_;exists⟨ue,?_⟩;walk_at"f p2 hp2 H3 s3 e3";exists⟨p,_,_,rfl,rfl,s3 _ _ g,by rw[vt];lia,?_⟩;have o:p2≠p:=λz=>by rw[z,s3 _ _ g]at e3;cases e3
    refine⟨e++[p2],rfl,λc u b h=>(je b).trans (s3 _ _ h),by rw[jm,vi];rfl,by rw[vm];show e.length+1<=_;lia,?_⟩;rw[vc X];refine All2.snoc (All2.mono B λc y h=>?_) ((je o).trans e3);exact(je (λz=>by rw[z,g]at h;cases h)).trans (s3 _ _ h)
   .exists⟨e,rfl,λc u _ h=>h,g,⋯,?_⟩;rw[va X,append_nil];exact B
  rintro Z' H3 ⟨a,rfl,L,d,a3,I⟩;have F:wth1 gs y=(if 0<y.2.2.1 then[(y.1,gs.getD y.1 0)]else[])++(match y.2.2.2 with | some r=>[(y.1,r)] | none=>[]):=rfl;cases er:y.2.2.2 with
  | none=>
   exists⟨rfl,_,rfl,?_⟩;refine iteB0 (by simp[optV]) ?_;exists⟨_,_,_,_,a,rfl,λc u b h=>L _ _ b (m _ _ b h),d,⋯,?_⟩;rw[k,F,er,append_nil];exact I
  | some r=>
   exists⟨rfl,_,rfl,?_⟩;refine iteB1 (by simp[optV]) ?_;exists⟨.inl ⟨rfl,_,SqL.of d⟩,?_⟩;exists⟨ue,?_⟩;walk_at"f p2 hp2 H4 s4 e4";exists⟨p,_,_,rfl,rfl,s4 _ _ d,by rw[vt];lia,?_⟩;have o:p2≠p:=λz=>by rw[z,s4 _ _ d]at e4;cases e4
   refine⟨_,_,_,_,a++[p2],rfl,λc u b h=>(je b).trans (s4 _ _ (L _ _ b (m _ _ b h))),by rw[jm,vi];rfl,by rw[vm];show a.length+1<=_;lia,?_⟩;rw[k,F,er,<-List.append_assoc];refine All2.snoc (All2.mono I λc y h=>?_) ((je o).trans e4);exact(je (λz=>by rw[z,d]at h;cases h)).trans (s4 _ _ h)
 rintro Z' f ⟨M,N,O,R,e,rfl,m,g,la,B⟩;rw[vt,U,v5]at B;ac_nf;exact q p e f (λc u h=>m _ _ (np h) (s2 _ _ (s1 _ _ h))) hp g B
def KE(T:Txt K mg t)(Ke:2<*t.Kf t.Ko ["pieces","sizes","gone"] (sp_within)):3<*t.qJ t.qK ["self","beat"] (sp_sceneS t.jR):=by
 specialize T.wa.ok Jc;let⟨a,z,O,ps,gs,hs,E,t0,rfl,A,N,t1,t2,q⟩:=h;refine⟨_,(jb (jL (QA (Zm Q7 Q7 jd (pv 1) (jh jr (Jg (pv 0) rfl) (yU zI jd))))
   (jg Jv)
   jw)
  (jb (jo' 2 Jc.nd (jW WC (by rfl) T.j08 j1g (ja (Jg (pv 0) rfl) jc)))
  (jb (jo' 3 Jc.nd (jJ jc))
  (jb (jo' 4 Jc.nd (jJ (ja (jQ (ja (jt qE (jx jD (by rfl) T.JH j7 (ja (Jg (pv 0) rfl) jc)) jd) (ja (pv 1) jc))) jc)))
  (jb (yX PassesOwn.never (KJ (pv 4) (λ_=>rfl))
   (jb (jo' 5 Jc.nd (j0N qA PySem.F.slot_list_pop PySem.F.type_list_pop j3Y (pv 4)))
   (jg (jL (jk XF (jh jq (pv 5) jd) (jh jr (Jg (pv 0) rfl) (jh jq (pv 5) jd)) (nomark _))
    (jb (jF (Je qA qY kS jC (pv 3) (ja (pv 5) jc)))
    (jg (jF (Je qA PySem.F.slot_list_extend PySem.F.type_list_extend YJ (pv 4) (ja (j6M (js T.xM Ke hr (ja (jh jr (Jg (pv 0) rfl) (jh jq (pv 5) jd)) (ja (Jg (pv 0) rfl) (ja (jh jq (pv 5) jd) jc)))) (Jt (yU zI jd))) jc)))))
    (jg (j4 PassesOwn.never rfl (jB (jh jr (Jg (pv 0) rfl) (jh jq (pv 5) jd))) (Jr rfl (jp (ji' 6 Jc.nd) (jp (ji' 7 Jc.nd) jT)))
     (jg (j6R (pv 7) (j6O (pv 2) (pv 6) set_list)))))))))
  (jg (ju (jQ (ja (pv 2) (ja (pv 3) jc)))))))))),?_⟩
 refine jn (Z':=[some _,some _,none,none,none,none,none,none]) rfl ?_
 try dsimp only[cxOf,Cx.nox]
 have W:=N.s.w;have gl:=N.s.gl;have ne:=N.ne;have aZ:=W.p61;have lE:=A.el;have M8:∀i,i<ps.length->(hs.getD i []).length<=8:=λi hi=>j5x W N.hl N.m (Xg N.s N.hl hi)
 have ab:atI (gs.map V.int) (-1)=some (.int (gs.getD (ps.length-1) 0)):=kE ⋯ (by rw[gl]);have aP:∀j,j<ps.length->gs[j]?=some (gs.getD j 0):=λj h=>N.j3E h
 let⟨dx,ob⟩:=A.ob;exists iteD (λ_=>?_) (λc=>uh t1 c);exists⟨a,_,dx,_,_,rfl,ob,T.jV,T.j6,ZI,?_⟩;exists ixLm (SqL.of A.hs) (ab) ?_;exists iteN (λz=>uh t2 z) (λ_=>?_);exists⟨a,_,dx,_,_,rfl,ob,T.jV,T.qL,j2t,?_⟩;exists⟨z.f,_,rfl,.inl (SqL.of A.hf),?_⟩;walk_at"f 1 e";exists⟨vB _,?_⟩;walk_at"f 2 e";have ah:=s1.trans s2;exists⟨a,_,dx,_,_,rfl,ah _ _ ob,T.jV,T.j6,ZI,?_⟩;exists⟨_,_,rfl,.inl ⟨_,SqL.of (ah _ _ A.hs),rfl⟩,?_⟩;rw[vt,gl];exists⟨ue,?_⟩;walk_at"f 3 e";exists⟨uf,?_⟩;walk_at"f 4 e";rw[show((ps.length:Nat):Int)-1=((ps.length-1:Nat):Int) by lia]at e3;have aH:=ah.trans s3;have aV:=aH.trans s4;have ac:p1≠p2:=jf e1 hp2;have ad:p1≠p4:=jf (s3 _ _ (s2 _ _ e1)) hp4;have af:p2≠p4:=jf (s3 _ _ e2) hp4;have m1:∀{c u},H c=some u->c≠p1:=λh=>jf h hp1
 have m2:∀{c u},H c=some u->c≠p2:=λh=>jf (s1 _ _ h) hp2
 have m4:∀{c u},H c=some u->c≠p4:=λh=>jf (aH _ _ h) hp4
 have aG:=N.nodes M8 (i:=ps.length-1) (t:=t0) ⋯ t1;have aJ:∀h∈O.map (·.2),0<=h/\h<=10^18:=λh hh=>by
  let⟨q0,aR,rfl⟩:=vM.mp hh;exact N.l18 q0 aR
 exists⟨λm σ B=>IvE8 λ(o5 J L:N7) (d g:N2) (D P S:L5)=>IvA2 (σ=[some (.ref a),some (.int t0),some (.ref p1),some (.ref p2),some (.ref p4),o5,J,L]) (ScAt O ps gs E t0 H B p1 p2 p4 d g D P S/\m=(S.map λx=>nodes ps gs x.1 x.2).sum),
  ⟨_,none,none,none,[],[p3],[],[],[(ps.length-1,t0)],rfl,⟨aV,s4 _ _ (s3 _ _ (s2 _ _ e1)),s4 _ _ (s3 _ _ e2),e4,.nil,All2.snoc (as:=[]) (xs:=[]) .nil (s4 _ _ e3),by simp,λx hx=>by rw[vo.mp hx];exact⟨by show ps.length-1<_;lia,t1⟩,rfl,(λx hx=>nomatch hx),by simpa using aG,by show(O.map (·.2)).length=_;rw[vt],aJ⟩,rfl⟩,?_⟩
 rintro m σ B ⟨o5,J,L,d,g,D,P,S,rfl,Sc,rfl⟩;let⟨sm,aj,am,eT,gP,gT,G,hS,hP,bP,aL,ll,hb⟩:=Sc;have a5:S.length<=(S.map λx=>nodes ps gs x.1 x.2).sum:=j4I λx _=>wY (ps:=ps) (gs:=gs) x.1 x.2
 have pl:=gP.1;have tl:=gT.1;exists⟨_,.inl ⟨_,SqL.of eT,rfl⟩,?_⟩;rcases List.eq_nil_or_concat S with rfl | ⟨S0,x,rfl⟩
 .have et:g=[]:=length_eq_zero_iff.mp tl;subst et;refine iteF ?_;ac_nf;rw[show([]:L5).reverse.flatMap (λx=>reach ps gs x.1 x.2)=[]from rfl,append_nil]at G;subst G;have b0:([].map λx:Nat×Int=>nodes ps gs x.1 x.2).sum=0:=rfl;refine⟨ue,?_⟩;walk_at"f 5 e";exact q p5 p1 p2 d P H5 (sm.trans s5) hp1 (none_of s1 hp2) e5 (s5 _ _ aj) ll hb (s5 _ _ am) ac (All2.mono gP λc y h=>s5 _ _ h) ⋯ bP hP
 rw[List.concat_eq_append]at *;let⟨b,l,rfl,av,az⟩:=All2.last gT;rw[vi]at eT|-;refine iteB1 (by simp) ?_;let⟨x1,x2⟩:=hS x (mem_append_right _ vq);have ay:∀y∈S0,y.1<ps.length/\0<=y.2:=λy hy=>hS y (mem_append_left _ hy)
 rw[List.reverse_append,flatMap_append,vi,sum_append]at *;have aY:=wY (ps:=ps) (gs:=gs) x.1 x.2;have aq:([x].map λx:Nat×Int=>nodes ps gs x.1 x.2).sum=nodes ps gs x.1 x.2:=by simp
 have a8:([x].reverse.flatMap λx=>reach ps gs x.1 x.2)=reach ps gs x.1 x.2:=by simp
 rw[aq]at a5 aL|-;have b1:S0.length<=5000:=by rw[vm]at a5;lia
 have b2:=av.1;rw[a8]at G;refine⟨λσ B=>IvE8 λ(o5 J L:N7) (d g:N2) (D P S:L5)=>IvA2 (σ=[some (.ref a),some (.int t0),some (.ref p1),some (.ref p2),some (.ref p4),o5,J,L]) (ScAt O ps gs E t0 H B p1 p2 p4 d g D P S/\(S.map λx=>nodes ps gs x.1 x.2).sum<(S0.map λx=>nodes ps gs x.1 x.2).sum+nodes ps gs x.1 x.2),
  λZ' B ⟨o5,J,L,d,g,D,P,S,h1,h2,h3⟩=>⟨_,h3,o5,J,L,d,g,D,P,S,h1,h2,rfl⟩,?_⟩
 exists⟨.inl ⟨rfl,_,SqL.of eT⟩,?_⟩;refine⟨p4,_,.ref l,rfl,rfl,eT,by simp,?_⟩;rw[show((b.map V.ref)++[l].map V.ref).dropLast=b.map V.ref by simp];have a0:∀{c:Addr} {xs:N6},B c=some (.tup xs)->c≠p4:=λh z=>by rw[z,eT]at h;cases h
 have s5:Same H (upd B p4 (.lst (b.map V.ref))):=λc u h=>(je (m4 h)).trans (sm _ _ h)
 have a6:upd B p4 (.lst (b.map V.ref)) p4=some (.lst (b.map V.ref)):=jm;have U:=(je (o:=HO.lst (b.map V.ref)) ad).trans aj;have C:=(je (o:=HO.lst (b.map V.ref)) af).trans am;have a9:GonAt (upd B p4 (.lst (b.map V.ref))) d P:=All2.mono gP λc y h=>(je (a0 h)).trans h
 have aa:GonAt (upd B p4 (.lst (b.map V.ref))) b S0:=All2.mono av λc y h=>(je (a0 h)).trans h
 have n:=(je (o:=HO.lst (b.map V.ref)) (a0 az)).trans az;generalize upd B p4 (.lst (b.map V.ref))=H5 at s5 a6 U C a9 aa n|-;clear a0;have aO:H5 z.s=some (.lst (gs.map V.int)):=s5 _ _ A.hs;have aD:=s5 _ _ ob;exists zTu n ?_;exists⟨a,_,dx,_,_,rfl,aD,T.jV,T.j6,ZI,?_⟩;exists zTu n ?_;exists ixLm (SqL.of aO) (jM (j:=x.1) (by rw[vv,aP _ x1];rfl)) ?_;ac_nf;obtain⟨p,hp⟩:∃p,ps[x.1]?=some p:=⟨_,vz x1⟩
 have ap:pcB ps gs x.1=pcsI gs p.2 (inP ps p.2):=by unfold pcB;rw[hp]
 refine iteD (λc1=>?_) (λc1=>?_)
 .have a1:ovB gs x=false:=vJ ⋯;have aQ:(ps.map λp=>pcsI gs p.2 (inP ps p.2))[x.1]?=some (pcB ps gs x.1):=by rw[vv,hp,ap];rfl
  let⟨al,aN,bs,Y,hq⟩:=A.pa.get aQ;have aW:=(N.g x1).2;have aT:(pcB ps gs x.1).length<=8:=by rw[ap];exact Xl (N.i8 hp)
  have wl:=j5o (gs:=gs) (t:=x.2) (pcB ps gs x.1);exists⟨.inl ⟨rfl,_,SqL.of C⟩,?_⟩;exists⟨p2,_,_,rfl,rfl,C,by rw[vt];lia,?_⟩;have ag:∀{c:Addr} {xs:N6},H5 c=some (.tup xs)->c≠p2:=λh z=>by rw[z,C]at h;cases h
  have s6:Same H (upd H5 p2 (.lst (d.map V.ref++[.ref l]))):=λc u h=>(je (m2 h)).trans (s5 _ _ h)
  have an:upd H5 p2 (.lst (d.map V.ref++[.ref l])) p2=some (.lst ((d++[l]).map V.ref)):=by rw[jm,vi];rfl
  have ak:=(je (o:=HO.lst (d.map V.ref++[.ref l])) ac).trans U;have a7:=(je (o:=HO.lst (d.map V.ref++[.ref l])) af.symm).trans a6;have R:=(je (o:=HO.lst (d.map V.ref++[.ref l])) (ag n)).trans n;have ar:GonAt (upd H5 p2 (.lst (d.map V.ref++[.ref l]))) (d++[l]) (P++[x]):=All2.snoc (All2.mono a9 λc y h=>(je (ag h)).trans h) R;have aw:GonAt (upd H5 p2 (.lst (d.map V.ref++[.ref l]))) b S0:=All2.mono aa λc y h=>(je (ag h)).trans h
  generalize upd H5 p2 (.lst (d.map V.ref++[.ref l]))=H6 at s6 an ak a7 R ar aw|-;exists⟨.inl ⟨rfl,_,SqL.of a7⟩,?_⟩;exists⟨a,_,dx,_,_,rfl,s6 _ _ ob,T.jV,T.qx,j0n,?_⟩;exists zTu R ?_;exists ixLm (SqL.of (s6 _ _ A.hp)) (ZE (i:=(x.1:Int)) ⋯ aN) ?_;exists⟨a,_,dx,_,_,rfl,s6 _ _ ob,T.jV,T.j6,ZI,?_⟩;exists zTu R ?_;exists⟨al,z.s,x.2,bs,pcB ps gs x.1,gs,rfl,s6 _ _ Y,All2.mono hq λc y h=>s6 _ _ h,s6 _ _ A.hs,aT,λq hq=>N.pcOk hq,x2,⋯,λlw aI H7 s7 aX ew hw=>?_⟩;exists⟨rfl,lw,_,rfl,SqL.of ew,?_⟩;walk_at"f lr hlr H8 s8 e8";have r:=s7.trans s8;have ao:=r _ _ a7;have b3:=hw.1;refine⟨p4,lr,_,_,rfl,rfl,ao,e8,by rw[vt,List.length_reverse,vt];lia,?_⟩;have a4:∀{c:Addr} {xs:N6},H8 c=some (.tup xs)->c≠p4:=λh z=>by rw[z,ao]at h;cases h
  have au:=λ(c:Addr) (y:Nat×Int) (h:H6 c=some (.tup [.int (y.1:Nat),.int y.2]))=>(je (o:=HO.lst (b.map V.ref++(aI.map V.ref).reverse)) (a4 (r _ _ h))).trans (r _ _ h)
  have aK:∀y∈P++[x],y.1<ps.length/\0<=y.2/\y.2<gs.getD y.1 0:=λy hy=>by
   rcases vg.mp hy with h | h
   .exact bP y h
   .rw[vo.mp h];exact⟨x1,x2,c1⟩
  refine⟨_,_,_,d++[l],b++aI.reverse,if leafB ps gs x=true then D++[x]else D,P++[x],S0++(wth gs x.2 (pcB ps gs x.1)).reverse,rfl,⟨λc u h=>(je (m4 h)).trans (r _ _ (s6 _ _ h)),?_,(je af).trans (r _ _ an),by rw[jm,vi,List.map_reverse],All2.mono ar au,?_,?_,?_,?_,aK,?_,?_,?_⟩,?_⟩
  .rw[Kr a1];exact(je ad).trans (r _ _ ak)
  .exact All2.app (All2.mono aw au) (All2.mono (All2.rev hw) λc y h=>(je (a4 (s8 _ _ h))).trans (s8 _ _ h))
  .rw[List.reverse_append,List.reverse_reverse,flatMap_append,<-G];by_cases Z:leafB ps gs x=true
   .have c2:pcB ps gs x.1=[]:=List.isEmpty_iff.mp Z;rw[vc Z,c2,qd (.inr c2),List.append_assoc];rfl
   .have c2:¬(gs.getD x.1 0<=x.2\/pcB ps gs x.1=[]):=λh=>h.elim ⋯ λe=>Z (List.isEmpty_iff.mpr e)
    rw[va Z,zB W c2]
  .intro y hy;rcases vg.mp hy with h | h
   .exact ay y h
   .have h:=List.mem_reverse.mp h;have:=Y0 W h;exact⟨⋯,j18 (λq hq=>N.pcOk hq) h⟩
  .rw[filter_append,hP];by_cases Z:leafB ps gs x=true
   .rw[vc Z,filter_append,List.filter_cons_of_pos Z,List.filter_cons_of_pos (by rw[a1];rfl)];rfl
   .rw[va Z,List.filter_cons_of_neg Z];exact append_nil _
  .have:=wX W (i:=x.1) (t:=x.2) c1;rw[vi,sum_append,List.map_reverse,List.sum_reverse,vm];show P.length+1+_<=_;lia
  .rw[Kr a1];exact ll
  .rw[Kr a1];exact hb
  .have:=wX W (i:=x.1) (t:=x.2) c1;rw[vi,sum_append,List.map_reverse,List.sum_reverse];lia
 .have a2:ovB gs x=true:=vI ⋯;have hE:E[x.1]?=some (E.getD x.1 []):=by rw[vy,vz ⋯];rfl
  let⟨ae,aM,bs,Y,aF⟩:=A.ea.get hE;have ai:=Kp W ⋯ A.eo x.1;have eb:=j6q N lE A.eo x1;have a3:=s5 _ _ Y;exists⟨a,_,dx,_,_,rfl,aD,T.jV,T.Qj,j3A,?_⟩;exists zTu n ?_;exists ixLm (SqL.of (s5 _ _ A.hl)) (ZE (i:=(x.1:Int)) ⋯ aM) ?_;refine⟨ae,rfl,⟨_,SqL.of a3⟩,?_⟩;have aU:=aF.1;have aS:ae≠p1:=m1 Y;refine j9 (xs:=bs.map V.ref) (λk σ H7=>IvE2 λ(J L:N7)=>IvA4 (σ=[some (.ref a),some (.int t0),some (.ref p1),some (.ref p2),some (.ref p4),some (.ref l),J,L]) (∀c u,c≠p1->H5 c=some u->H7 c=some u) (H7 p1=some (.lst ((setE ((E.getD x.1 []).take k) (hOf O gs E D)).map V.int))) ((setE ((E.getD x.1 []).take k) (hOf O gs E D)).length=O.length/\(∀h∈setE ((E.getD x.1 []).take k) (hOf O gs E D),0<=h/\h<=10^18)))
   ⟨_,_,rfl,λc u _ h=>h,U,ll,hb⟩ ?_ ?_ ?_
  .rintro k σ H7 _ ⟨J,L,rfl,f,F,_⟩;exact SqL.of (f _ _ aS a3)
  .rintro k v σ H7 hv ⟨J,L,rfl,f,F,I,X⟩;let⟨c',y,rfl,hy,aA⟩:=aF.at_ref hv;have aB:=vj hy;have yb:=ai y aB;have yh:=eb y aB;refine JK (SqT.of (f _ _ (m1 aA) (s5 _ _ aA))) ?_;ac_nf;have M:setE ((E.getD x.1 []).take (k+1)) (hOf O gs E D)=(setE ((E.getD x.1 []).take k) (hOf O gs E D)).set y.1.toNat y.2:=by
    unfold setE;rw[take_snoc hy,List.foldl_append];rfl
   refine⟨p1,_,_,y.1.toNat,rfl,rfl,F,ixZ yb.1 (by rw[vt,I];exact yb.2),?_⟩;refine⟨_,_,rfl,λc u hc h=>(je hc).trans (f _ _ hc h),jm.trans ?_,by rw[M,List.length_set];exact I,λh hh=>?_⟩
   .rw[M,List.map_set]
   .rw[M]at hh;rcases List.mem_or_eq_of_mem_set hh with z | z
    .exact X h z
    .rw[z];exact yh
  rintro Z' H7 ⟨J,L,rfl,f,F,I,X⟩;rw[vt,aU,v5]at F I X;have aC:∀{c:Addr} {xs:N6},H5 c=some (.tup xs)->c≠p1:=λh z=>by rw[z,U]at h;cases h
  have aE:gs.getD x.1 0<=x.2:=⋯
  refine⟨_,_,_,d,b,D++[x],P,S0,rfl,⟨λc u h=>f _ _ (m1 h) (s5 _ _ h),?_,f _ _ ac.symm C,f _ _ ad.symm a6,All2.mono a9 λc y h=>f _ _ (aC h) h,All2.mono aa λc y h=>f _ _ (aC h) h,?_,ay,?_,bP,⋯,?_,?_⟩,⋯⟩
  .rw[Ks a2];exact F
  .rw[<-G,qd (.inl aE),List.append_assoc]
  .rw[hP,filter_append,List.filter_cons_of_neg (by rw[a2];decide)];exact(append_nil _).symm
  .rw[Ks a2];exact I
  .rw[Ks a2];exact X
def yR(T:Txt K mg t)(QX:3<*t.qJ t.qK ["self","beat"] (sp_sceneS t.jR)):4<*t.JM t.JO ["self","beat"] (sp_wordsS t.jR):=by
 specialize T.Yk.ok Jo;let⟨a,z,ls,j,gs,hs,E,t0,rfl,A,N,t1,t2,q⟩:=h;refine⟨_,(jb (jo' 2 Jo.nd (jJ jc))
  (jb (j4 PassesOwn.never rfl (jB (jh jq (ZM (pv 0) T.jV T.Kw (QX.mono nofun) hr T.K7 .nil pass0 (ja (pv 1) jc)) jd)) (Jr rfl (jp (ji' 3 Jo.nd) (jp (ji' 4 Jo.nd) jT)))
   (jb (jo' 5 Jo.nd (jh jr (Jg (pv 0) rfl) (pv 3)))
   (jg (jL (PW.pt (yo (jk JV (jh jq (pv 5) jd) jv (nomark _)) (ZP (jk JV (pv 4) jd (nomark _)))))
    (jg (jF (Je qA qY kS jC (pv 2) (ja (jh jq (pv 5) jd) jc))))
    jw))))
  (jg (ju (pv 2))))),?_⟩
 refine jn (Z':=[some _,some _,none,none,none,none]) rfl ?_
 try dsimp only[cxOf,Cx.nox]
 let⟨dx,ob⟩:=A.ob;exists⟨vB _,?_⟩;walk_at"f p1 hp1 H0 s0 e0";exists⟨a,dx,_,rfl,s0 _ _ ob,j3B (by trivial) (by trivial) (by trivial) (by trivial) (by trivial) (by trivial),?_⟩;exists⟨a,z,ls,j,gs,hs,E,t0,rfl,A.same s0,N,t1,t2,λr l1 l2 as P H1 s1 a0 I C M ll hb h2 a1 gP pl bP hP=>?_⟩;have F:=XT N hP;have J:=s0.trans s1;have e1:=s1 _ _ e0;have m1:∀{c u},H c=some u->c≠p1:=λh=>jf h hp1
 have n2:l2≠p1:=λe=>by rw[e,e0]at I;cases I
 have al:=gP.1;have wl:∀xs:L5,(xs.flatMap (ringX j)).length<=xs.length:=λxs=>by
  induction xs with
  | nil=>exact vA _
  | cons x r ih=>
   rw[flatMap_cons,vm,vR];have:(ringX j x).length<=1:=by
    unfold ringX;split
    .split<;>simp
    .exact vB _
   lia
 exists zTu C ?_;refine⟨l2,rfl,⟨_,SqL.of h2⟩,?_⟩;refine j9 (xs:=as.map V.ref) (λi σ m=>IvE3 λ(O R S:N7)=>IvA2 (σ=[some (.ref a),some (.int t0),some (.ref p1),O,R,S]) ((∀c u,c≠p1->H1 c=some u->m c=some u)/\m p1=some (.lst (((P.take i).flatMap (ringX j)).map V.str))))
  ⟨_,_,_,rfl,λc u _ h=>h,e1⟩ ?_ ?_ ?_
 .rintro i σ m _ ⟨O,R,S,rfl,o,B⟩;exact SqL.of (o _ _ n2 h2)
 .rintro i v σ m hv ⟨O,R,S,rfl,o,B⟩;let⟨c,x,rfl,Y,D⟩:=gP.at_ref hv;have hi:=(vx.mp Y).1;let⟨x1,x0,x2⟩:=bP x (vj Y);obtain⟨p,X⟩:∃p,j[x.1]?=some p:=⟨_,vz x1⟩
  let⟨W,U,hf⟩:=A.fo.get X;have l:(P.take (i+1)).flatMap (ringX j)=(P.take i).flatMap (ringX j)++ringX j x:=by
   rw[take_snoc Y,flatMap_append,flatMap_cons,flatMap_nil,append_nil]
  have n3:∀{c u},H c=some u->m c=some u:=λh=>o _ _ (m1 h) (J _ _ h)
  have nc:c≠p1:=λz=>by rw[z,e1]at D;cases D
  have g:FormAt m W p.2:=FormAt.put (λb xs hb=>n3 hb) hf;refine JK (SqT.of (o _ _ nc D)) ?_;exists⟨a,_,dx,_,_,rfl,n3 ob,T.jV,T.qM,j2u,?_⟩;exists ixLm (SqL.of (n3 A.ho)) (ZE (i:=(x.1:Int)) ⋯ U) ?_;ac_nf;by_cases d:∃y n,p.2 = .ring y n
  .let⟨y,n,C⟩:=d;rw[C]at g;have G:m W=some (.tup [.str "ring",.str y,.int n]):=g;have L:ringX j x=if x.2=0 then[y]else[]:=by
    unfold ringX;rw[X];let⟨pn,pf⟩:=p;have C:pf = .ring y n:=C;subst C;rfl
   refine zTu G ?_;exists iteE1 ?_;exists iteD (λc=>?_) (λc=>?_)
   .exists⟨.inl ⟨rfl,_,SqL.of B⟩,?_⟩;exists zTu G ?_;have:=wl (P.take i);rw[vh]at this;refine⟨p1,_,_,rfl,rfl,B,by rw[vt];lia,?_⟩;refine⟨_,_,_,rfl,λc u D h=>(je D).trans (o _ _ D h),jm.trans ?_⟩;rw[l,L,vc c,vi];rfl
   .exists⟨_,_,_,rfl,o,?_⟩;rw[l,L,va c,append_nil];exact B
  .have L:ringX j x=[]:=by
    unfold ringX;rw[X];let⟨pn,pf⟩:=p;cases pf with
    | ring y n=>exact uh ⟨y,n,rfl⟩ d
    | _=>rfl
   have Z:∃k xs,m W=some (.tup (.str k::xs))/\decide (k=("ring" : Str))=false:=by
    generalize p.2=f at g d;cases f with
    | hold n=>exact⟨_,_,g,by trivial⟩
    | ring y n=>exact uh ⟨y,n,rfl⟩ d
    | rise y v n=>exact⟨_,_,g,by trivial⟩
    | row j=>let⟨b',M,_⟩:=g;exact⟨_,_,M,by trivial⟩
    | side j=>let⟨b',M,_⟩:=g;exact⟨_,_,M,by trivial⟩
    | again k y=>exact⟨_,_,g,by trivial⟩
   let⟨k,xs,hk,dk⟩:=Z;refine ixTm (SqT.of hk) (at0) ?_;exists iteB0 dk ?_;exists⟨_,_,_,rfl,o,?_⟩;rw[l,L,append_nil];exact B
 rintro Z' m ⟨O,R,S,rfl,o,B⟩;rw[vt,al,v5,F]at B;ac_nf;have w1:=wl P;rw[F]at w1;exact q p1 m (λc u h=>o _ _ (m1 h) (J _ _ h)) hp1 B ⋯
def j4a(T:Txt K mg t)(M:6<*t.Ju t.JN ["self","book"] (sp_initS t.jR))(L:4<*t.JM t.JO ["self","beat"] (sp_wordsS t.jR)):8<*t.Ww t.WH ["book","beat"] (sp_ringsG):=by
 specialize T.j1d.F.ok j4y;let⟨b,I,J,e,f,k,m,g,j,R,rfl,B,N,S,U,q⟩:=h;refine⟨_,(jg (ju (ZM (j1L T.j51 (M.mono nofun) hr (by rfl) T.j3U T.Yh .nil pass0 (ja (pv 0) jc)) T.jV T.yP (L.mono nofun) hr T.Yi .nil pass0 (ja (pv 1) jc)))),?_⟩;refine jn (Z':=[some _,some _]) rfl ?_
 try dsimp only[cxOf,Cx.nox]
 ac_nf;intro o a i d W;have n:Same H (upd (upd H a (.own o)) o (.ins t.jR a [])):=λc u h=>(je (jf h i)).trans ((je (jf h d)).trans h)
 refine⟨o,a,b,I,J,e,f,k,m,g,j,rfl,jm,B.same n,N,λz E r D A=>⟨rfl,?_⟩⟩;let⟨x,G⟩:=A.ob;have p:Same H r:=λc u h=>D _ _ (jf h i) (n _ _ h)
 refine⟨o,x,_,rfl,G,j3B (by trivial) (by trivial) (by trivial) (by trivial) (by trivial) (by trivial),?_⟩;exists⟨o,z,k,m,g,j,E,R,rfl,A,N,S,U,λl v O C y F=>?_⟩;exact q l v (p.trans O) (none_of p C) y F
def j2Q(T:Txt K mg t):1<*t.yD t.yK ["values"] (sp_listedM):=by
 specialize T.xL.F.ok j34;let⟨l,b,rfl,f,j,k,q⟩:=h;refine⟨_,(jg (ju (Je k0 PySem.F.slot_str_join PySem.F.type_str_join j1G jv (ja (jZ (ow:=["value"]) (ci:=[]) rfl (CompScope.of (defScope y8) ["values"] rfl rfl (by trivial)) (Js nofun) (jB (pv 0)) (λ_ _ _ _ _=>⟨(ji' 0 (jG ["values"] rfl (by trivial))),Jq,(jW qj (by rfl) T.Y6 Zd (ja (pv 0) jc))⟩)) jc)))),?_⟩;refine jn (Z':=[some _]) rfl ?_
 try dsimp only[cxOf,Cx.nox]
 have n:(200:Nat)<sizeLine:=by decide
 exists⟨rfl,?_⟩;exists⟨l,rfl,⟨_,SqL.of f⟩,?_⟩;refine jS (xs:=b.map V.str) (λi c a=>c=(b.map V.str).take i/\a=H) ⟨rfl,rfl⟩ ?_ ?_ ?_
 .rintro i c a _ ⟨rfl,rfl⟩;exact SqL.of f
 .rintro i x c a d ⟨rfl,rfl⟩;have g:=(vx.mp d).1;rw[vt]at g;let⟨y,m,rfl⟩:=vM.mp (vj d);refine Jb (Z':=[none]) rfl ?_;exists iteT ?_;exists .inr ⟨_,rfl,?_⟩;exact⟨by rw[vh,vt];lia,(take_snoc d).symm,rfl⟩
 rintro c a ⟨rfl,rfl⟩;rw[v5];refine⟨by rw[vt];lia,?_⟩;sleep 1;exists⟨_,p1,b,rfl,rfl,SqL.of t1,?_,?_⟩
 .have:=j26 (B:=100) k;have e:(Str.ofString " ").length=1:=by trivial
  rw[e];have:b.length*100<=100*100:=Nat.mul_le_mul_right _ j;lia
 exact q H1 s1
def W8(T:Txt K mg t)(x:8<*t.Ww t.WH ["book","beat"] (sp_ringsG))(v:1<*t.yD t.yK ["values"] (sp_listedM)):9<*t.qQ t.Zg ["asked"] (sp_ringsM):=by
 specialize T.zR.F.ok Ya;let⟨l,O,rfl,n,b,I,J,k,m,F,d,c,D,f,rfl,B,N,y,z,M,G,q⟩:=h;refine⟨_,(jb (jo' 1 Ya.nd (js T.j1d x hr (ja (jh jr (pv 0) jd) (ja (jh jr (pv 0) jd) jc))))
  (jg (ju (Jm (KJ (pv 1) (λ_=>rfl)) (js T.xL v hr (ja (pv 1) jc)) jv)))),?_⟩
 refine jn (Z':=[some _,none]) rfl ?_
 try dsimp only[cxOf,Cx.nox]
 have R:(200:Nat)<sizeLine:=by decide
 exists ixLm (SqL.of n) (at0) ?_;exists ixLm (SqL.of n) (jM (j:=1) rfl) ?_;exists⟨b,I,J,k,m,F,d,c,D,f,rfl,B,N,y,z,λr p o C g _=>?_⟩;ac_nf;by_cases e:ringsW d c f=[]
 .rw[e]at g;refine⟨false,.inl ⟨_,SqL.of g,rfl⟩,?_⟩;refine iteB0 rfl ?_;ac_nf;have q:=q p o;rw[show ansW (ringsW d c f) = "none" from vc e]at q;exact q
 .refine⟨true,.inl ⟨_,SqL.of g,?_⟩,?_⟩
  .cases hc:ringsW d c f with
   | nil=>exact uh hc e
   | cons a r=>rfl
  refine iteB1 rfl ?_;exists⟨r,_,rfl,g,⋯,G,λu L=>?_⟩;have q:=q u (o.trans L);rw[show ansW (ringsW d c f)=Txt.join Rm.bl (ringsW d c f)from va e]at q;exact q
def zN(T:Txt K mg t)(Ji:5<*t.Qp t.Qr ["book"] (sp_lengths))(qi:3<*t.QJ t.QR ["book","sizes"] (sp_pieces_of)):6<*t.jU t.Jl ["self","book","word"] (sp_initR t.jA):=by
 specialize T.zT.ok Jd;let⟨a,g,b,pl,pp,ad,a1,ls,ps,gs,hs,x,rfl,ha,B,N,wx,wf,q⟩:=h;refine⟨_,(jb (Qz (pv 0) (js T.Q4 Ji hr (ja (pv 1) jc)) rfl)
  (jb (Qz (pv 0) (jh jr (Jg (pv 0) rfl) (yU zI jd)) rfl)
  (jb (Qz (pv 0) (js T.zQ qi hr (ja (pv 1) (ja (Jg (pv 0) rfl) jc))) rfl)
  (jb (Qz (pv 0) (jJ jc) rfl)
  (jg (j4 PassesOwn.never rfl (xi (by rfl) T.Y7 (ja (jh jq (pv 1) jd) (ja (Jg (pv 0) rfl) jc))) (Jr rfl (jp (ji' 3 Jd.nd) (jp (ji' 4 Jd.nd) jT)))
   (jb (jo' 5 Jd.nd (Jm (jk (j6G hr.units) (Q8 j6Z (jh jq (pv 3) jd) yV (Jt jd)) (jQ (ja jv (ja (pv 2) jc))) (nomark _)) jd jd))
   (jg (jF (Je qA qY kS jC (Jg (pv 0) rfl) (ja (jt qC (pv 5) (jx (wH rfl) (by rfl) T.j65 j3r (ja (jZ (ow:=["other","turns","begin"]) (ci:=[0]) rfl (CompScope.of (defScope Jn) ["self","book","word","part","pieces","own"] rfl rfl (by trivial)) (j5k nofun nofun nofun) (jB (pv 4)) (λ_ _ _ _ _=>⟨(Jr rfl (jp (ji' 0 (jG ["self","book","word","part","pieces","own"] rfl (by trivial))) (jp (ji' 1 (jG ["self","book","word","part","pieces","own"] rfl (by trivial))) (jp (ji' 2 (jG ["self","book","word","part","pieces","own"] rfl (by trivial))) jT)))),Jq,(jt J3 (pv 1) (jh (Q6 (K:=K) rfl) (xf (K:=K) rfl (pv 3) rfl) (pv 0)))⟩)) jc))) jc))))))))))),?_⟩
 refine jn (Z':=[some _,some _,some _,none,none,none]) rfl ?_
 try dsimp only[cxOf,Cx.nox]
 have W:=N.s.w;have gl:=N.s.gl;have aE:=W.p61;have ne:=N.ne;have au:=B.pa.1;let⟨H0,D,n0,B0⟩:=B.less ha;have z0:Same H0 H:=D H λc u _ h=>h
 exists⟨b,pl,pp,ad,a1,ls,ps,gs,hs,rfl,B,N.s,λl5 H5 s5 aa e5=>?_⟩;exists⟨a,_,g,[],rfl,s5 _ _ ha,T.jz,T.jP,(by show 0<1000;decide),?_⟩;have o:l5≠a:=λz=>by rw[z,ha]at aa;cases aa
 generalize e6:upd H5 a _=H6;have k6:∀c u,c≠a->H5 c=some u->H6 c=some u:=λc u n h=>e6▸(je n).trans h
 have a6:=Zc e6;clear e6;have z6:Same H0 H6:=D H6 λc u n h=>k6 _ _ n (s5 _ _ h)
 exists⟨a,_,g,_,_,rfl,a6,T.jz,T.jP,qZ,?_⟩;exists ixLm (SqL.of (k6 _ _ o e5)) (kE ne gl) ?_;exists⟨a,_,g,_,rfl,a6,T.jz,T.JQ,Rm.few (jO _ _ _) nofun,?_⟩;generalize e7:upd H6 a _=H7;have k7:∀c u,c≠a->H6 c=some u->H7 c=some u:=λc u n h=>e7▸(je n).trans h
 have M:=Zc e7;clear e7;have z7:Same H0 H7:=λc u h=>k7 _ _ (n0 h) (z6 _ _ h)
 exists⟨a,_,g,_,_,rfl,M,T.jz,T.jP,(jX (by trivial)).trans qZ,?_⟩;exists⟨b,pl,pp,l5,ad,a1,ls,ps,gs,rfl,B0.same z7,W,k7 _ _ o (k6 _ _ o e5),gl,λl8 m J G ab e8 U ae=>?_⟩;have n8:l8≠a:=λz=>by rw[z,M]at ab;cases ab
 exists⟨a,_,g,_,rfl,G _ _ M,T.jz,T.Ja,vF (jO _ _ _) (vF (Nat.succ_le_succ (jO _ _ _)) nofun),?_⟩;generalize e9:upd J a _=H9;have k9:∀c u,c≠a->J c=some u->H9 c=some u:=λc u n h=>e9▸(je n).trans h
 have a9:=Zc e9;clear e9;exists⟨vB _,?_⟩;walk_at"f pw hpw H10 s10 t10";have nw:pw≠a:=λz=>by rw[z,a9]at hpw;cases hpw
 exists⟨a,_,g,_,rfl,s10 _ _ a9,T.jz,T.jE,few3,?_⟩;generalize R:upd H10 a _=H11;have ac:∀c u,c≠a->H10 c=some u->H11 c=some u:=λc u n h=>R▸(je n).trans h
 have L:H11 a=some (.ins t.jA g (fldR ⟨l5,l8,pw,m⟩ (gs.getD (ps.length-1) 0))):=Zc R;clear R;have C:∀c u,c≠a->J c=some u->H11 c=some u:=λc u n h=>ac _ _ n (s10 _ _ (k9 _ _ n h))
 have ah:Same H0 H11:=λc u h=>C _ _ (n0 h) (G _ _ (z7 _ _ h))
 have F:∀{c u},c≠a->J c=some u->c≠pw:=λn h=>jf (k9 _ _ n h) hpw
 have af:∀{c u},H0 c=some u->c≠pw:=λh=>F (n0 h) (G _ _ (z7 _ _ h))
 have ay:=ac _ _ nw t10;have I:=B0.same ah;exists zTu I.t ?_;exists⟨a,_,g,_,_,rfl,L,T.jz,T.Ja,wO,?_⟩;ac_nf;have av:=U.1;rw[vt]at av;refine⟨pp,l8,_,_,rfl,SqL.of I.p,SqL.of (C _ _ n8 e8),?_⟩;refine j1q (xs:=a1.map V.ref) (ys:=m.map V.ref) (λi σ H'=>IvE4 λ(o3 o4 o5:N7) (l:L9)=>IvA3 (σ=[some (.ref a),some (.ref b),some (.str x),o3,o4,o5]) (∀c u,c≠pw->H11 c=some u->H' c=some u) (H' pw=some (.lst (l.map V.int))/\WPre ps gs x l i)) (by rw[vt,vt];lia) ⟨_,_,_,[],rfl,λc u _ h=>h,ay,rfl,λj p h=>uh h (Nat.not_lt_zero _)⟩ ?_ ?_ ?_
 .rintro i σ H' _ ⟨o3,o4,o5,l,rfl,f,e,O⟩;exact⟨SqL.of (f _ _ (af B0.p) I.p),SqL.of (f _ _ (F n8 e8) (C _ _ n8 e8))⟩
 .rintro i u v σ H' T0 a3 hu hv ⟨o3,o4,o5,l,rfl,f,ew,O⟩ sP tP;let⟨pa,p,rfl,hp,fb,al,hf⟩:=B0.pa.at_ref hu;let⟨c0,qs,rfl,Y,bs,an,a8⟩:=U.at_ref hv;rw[vv,hp]at Y;have ao:=(vx.mp hp).1;have S:qs=pcB ps gs i:=by
   unfold pcB;rw[hp];exact(vN Y).symm
  clear Y;have ai:c0∈m:=by
   rw[vv]at hv;let⟨a',ea,e'⟩:=vf.mp hv;injection e' with e';subst e';exact vj ea
  have ar:c0≠a:=λz=>by have:=ae c0 ai;rw[z,M]at this;cases this
  have a0:∀c u,H0 c=some u->a3 c=some u:=λc u h=>sP _ _ (f _ _ (af h) (ah _ _ h))
  have ag:∀c u,c≠a->J c=some u->a3 c=some u:=λc u n h=>sP _ _ (f _ _ (F n h) (C _ _ n h))
  have r:∀{c:Addr} {xs:N6},J c=some (.tup xs)->c≠a:=λh=>JE h (G _ _ M) (λz=>by cases z)
  let⟨xs,ak,aq,az⟩:=j4Q (x:=x) hf (wf p (vj hp));refine JK (SqT.of tP) ?_;exists zTu (a0 _ _ al) ?_;exists j5U (a0 _ _ ak) aq λcc aB aw aj=>?_
  exists⟨ue,?_⟩;sleep 14;have s1:=aw.trans s14;let⟨d,dv,sh,ev⟩:=az H14 cc (λc u h=>s1 _ _ (a0 _ _ h)) (s14 _ _ aj);have ax:SeqAt.shaped (.tuple [.str "ring",.str x])=true:=(Shp.tup (n:=0) (KU (xs:=["ring",x]) λy Z=>by
   rcases mem_cons.mp Z with rfl | Z
   .decide +kernel
   .rw[vo.mp Z];exact wx)).ok nofun
  refine⟨d,_,dv,.tup t14 (.cons (.str _) (.cons (.str _) .nil)),sh,ax,?_⟩;refine⟨_,rfl,?_⟩;rw[ev];have as:ownW x p.2=0\/ownW x p.2=1:=by
   unfold ownW;split
   .split
    .exact .inr rfl
    .exact .inl rfl
   .exact .inl rfl
  have a4:H14 a=_:=s1 _ _ (sP _ _ (f _ _ (Ne.symm nw) L));have a2:H14 pw=_:=s1 _ _ (sP _ _ ew);have a5:H14 c0=_:=s1 _ _ (ag _ _ ar an);have am:=a8.1;have q8:qs.length<=8:=S▸xa N i;have aC:=O.1;refine iteD (λc=>?A) (λc=>?B)
  case' A=>have eo:ownW x p.2=1:=c
  case' B=>have eo:ownW x p.2=0:=as.resolve_right c
  all_goals
   exists⟨a,_,g,_,_,rfl,a4,T.jz,T.jE,Q5,.inl ⟨rfl,_,SqL.of a2⟩,?_⟩;exists⟨c0,rfl,⟨_,SqL.of a5⟩,?_⟩;refine jS (xs:=bs.map V.ref) (λj ys k=>ys=((qs.take j).map λq=>q.2.1*l.getD q.1 0).map V.int/\H14=k) ⟨rfl,rfl⟩ ?_ ?_ ?_
   .rintro j ys k _ ⟨rfl,rfl⟩;exact SqL.of a5
   .rintro j v ys k ap ⟨rfl,rfl⟩;let⟨cq,y,rfl,Z,X⟩:=a8.at_ref ap;have aD:=(vx.mp Z).1;have ym:y∈pcB ps gs i:=S▸vj Z;have aA:=qc W ym;let⟨_,_,_,k4,k5,_,_⟩:=N.pcOk ym;have bw:=O.b250 N (vZ ao) aA;have ey:l[y.1]?=some (l.getD y.1 0):=by rw[vy,vz ⋯];rfl
    refine Jb (Z':=[none,none,none,some (.ref a)]) rfl ?_;refine j0U (SqT.of (s1 _ _ (ag _ _ (r X) X))) ?_;exists iteT ?_;exists⟨a,_,g,_,_,rfl,a4,T.jz,T.jE,Q5,?_⟩;exists ixLm (SqL.of a2) (jM (j:=y.1) (by rw[vv,ey];rfl)) ?_;exists⟨by rw[vt,vt,vh];lia,?_,rfl⟩;rw[take_snoc Z,vi,vi];rfl
   rintro ys k ⟨rfl,rfl⟩;rw[show(bs.map V.ref).length=qs.length from(vt _).trans am,v5];refine⟨by rw[vt,vt];lia,?_⟩;sleep 15;exists⟨p15,_,rfl,SqL.of t15,?_⟩;exists⟨pw,_,_,rfl,rfl,s15 _ _ a2,by rw[vt];lia,?_⟩;ac_nf;have O2:=O.snoc W hp;rw[eo]at O2;refine⟨_,_,_,_,rfl,λc u X h=>(je X).trans (s15 _ _ (s1 _ _ (sP _ _ (f _ _ X h)))),?_,O2⟩;rw[jm,vi,<-S];rfl
 .rintro σ H' ⟨o3,o4,o5,l,rfl,f,ew,O⟩;rw[vt,au]at O;exists q ⟨l5,l8,pw,m⟩ l H' (λc u n h=>?_) O ⟨⟨g,f _ _ (Ne.symm nw) L⟩,f _ _ (F o (G _ _ (k7 _ _ o (k6 _ _ o e5)))) (C _ _ o (G _ _ (k7 _ _ o (k6 _ _ o e5)))),f _ _ (F n8 e8) (C _ _ n8 e8),?_,ew⟩
  .have h8:=G _ _ (k7 _ _ n (k6 _ _ n (s5 _ _ h)));exact f _ _ (F n h8) (C _ _ n h8)
  .refine All2.monoM U λc X e ⟨bs,h1,h2⟩=>?_
   have r:∀{c:Addr} {xs:N6},J c=some (.tup xs)->c≠a:=λh=>JE h (G _ _ M) (λz=>by cases z)
   have nc:c≠a:=λz=>by have:=ae c X;rw[z,M]at this;cases this
   exact⟨bs,f _ _ (F nc h1) (C _ _ nc h1),All2.mono h2 λb' q' h=>f _ _ (F (r h) h) (C _ _ (r h) h)⟩
def j2P(T:Txt K mg t):1<*t.yB t.yI ["pieces","sizes","beat"] (sp_begins):=by
 specialize T.xK.F.ok zb;let⟨l,ss,m,Z,o,f,rfl,S,X,es,ok,bl,q⟩:=h;refine⟨_,(jb (jo' 3 zb.nd (jJ jc))
  (jb (j4 PassesOwn.never rfl (jB (pv 0)) (Jr rfl (jp (ji (i:=4) zb.nd rfl (.inr rfl)) (jp (ji' 5 zb.nd) (jp (ji (i:=6) zb.nd rfl (.inr rfl)) jT))))
   (jg (jF (Je qA PySem.F.slot_list_extend PySem.F.type_list_extend YJ (pv 3) (ja (jZ (ow:=["turn"]) (ci:=[4,2,6,1]) rfl (CompScope.of (defScope yZ) ["pieces","sizes","beat","found","part","turns","begin"] rfl rfl (by trivial)) (Js nofun) (ZN (by rfl) T.yF (ja (pv 5) jc)) (λ_ _ _ _ _=>⟨(ji' 0 (jG ["pieces","sizes","beat","found","part","turns","begin"] rfl (by trivial))),Jq,(jQ (ja (pv 1) (ja (jt qC (jt qC (pv 2) (pv 3)) (jt J3 (pv 0) (jh (Q6 (K:=K) rfl) (pv 4) (pv 1)))) jc)))⟩)) jc)))))
  (jg (ju (pv 3))))),?_⟩
 refine jn (Z':=[some _,some _,some _,none,none,none,none]) rfl ?_
 try dsimp only[cxOf,Cx.nox]
 have sz:(100000:Nat)<sizeLine:=by decide
 have O:=X.1;exists⟨vB _,?_⟩;walk_at"f p hp H1 s1 e1";exists⟨l,rfl,⟨_,SqL.of (s1 _ _ S)⟩,?_⟩;have np:∀{c u},H c=some u->c≠p:=λh=>jf h hp
 refine j9 (xs:=Z.map V.ref) (λi M n=>IvE4 λ(I J L:N7) (r:N2)=>IvA3 (M=[some (.ref l),some (.ref ss),some (.int m),some (.ref p),I,J,L]) (Same H n) (n p=some (.lst (r.map V.ref))/\GonAt n r (bgs f m (o.take i)))) ⟨_,_,_,[],rfl,s1,e1,.nil⟩ ?_ ?_ ?_
 .rintro i M n _ ⟨I,J,L,r,rfl,B,D,C⟩;exact SqL.of (B _ _ S)
 .rintro i v M n hv ⟨I,J,L,r,rfl,B,D,C⟩;let⟨a,k,rfl,U,N⟩:=X.at_ref hv;let⟨k1,k2,k3,k4,k5,k6,k7⟩:=ok k (vj U);have al:=C.1;have Y:bgs f m (o.take (i+1))=bgs f m (o.take i)++(List.range k.2.1.toNat).map λu:Nat=>(k.1,m+k.2.2+(u:Int)*f.getD k.1 0):=by
   rw[take_snoc U];unfold bgs;rw[flatMap_append,flatMap_cons,flatMap_nil,append_nil]
  have dl:(bgs f m (o.take (i+1))).length<=(bgs f m o).length:=by
   have e:bgs f m o=bgs f m (o.take (i+1))++bgs f m (o.drop (i+1)):=by
    unfold bgs;rw[<-flatMap_append,List.take_append_drop]
   rw[e,vm];lia
  rw[Y,vm,vt,length_range]at dl;have hg:f[k.1]?=some (f.getD k.1 0):=by rw[vy,vz k1];rfl
  refine j0U (SqT.of (B _ _ N)) ?_;exists⟨.inl ⟨rfl,_,SqL.of D⟩,?_⟩;exists⟨_,rfl,⋯,⋯,?_⟩;refine Kn (λu R G=>IvE1 λ(d:N2)=>IvA2 (R=d.map V.ref) (Same n G/\GonAt G d ((List.range u).map λu:Nat=>(k.1,m+k.2.2+(u:Int)*f.getD k.1 0)))) ⟨[],rfl,Same.refl _,.nil⟩ ?_ ?_
  .rintro u R G hu ⟨d,rfl,b,g⟩;have x:=g.1;rw[vt,length_range]at x;refine Jb (Z':=[none,some _,some _,some _,some _]) rfl ?_;exists iteT ?_;exists ixLm (SqL.of (b _ _ (B _ _ es))) (jM (j:=k.1) (by rw[vv,hg];rfl)) ?_;exists⟨ue,?_⟩;walk_at"f 3 e";refine⟨by rw[vt];lia,d++[p3],by rw[vi];rfl,b.trans s3,?_⟩;rw[range_succ,vi];rw[ux]at e3;exact All2.snoc (All2.mono g λc y h=>s3 _ _ h) e3
  .rintro R G ⟨d,rfl,b,g⟩;have x:=g.1;rw[vt,length_range]at x;refine⟨by rw[vt];lia,?_⟩;walk_at"f 3 e";ac_nf;have F:=s3 _ _ (b _ _ D);refine⟨p,p3,_,_,rfl,rfl,F,e3,by rw[vt,vt];lia,?_⟩;have W:∀{c:Addr} {xs:N6},H3 c=some (.tup xs)->c≠p:=λh z=>by rw[z,F]at h;cases h
   exists⟨_,_,_,r++d,rfl,λc u h=>(je (np h)).trans (s3 _ _ (b _ _ (B _ _ h))),by rw[jm,vi],?_⟩;rw[Y];exact All2.app (All2.mono C λc y h=>(je (W (s3 _ _ (b _ _ h)))).trans (s3 _ _ (b _ _ h))) (All2.mono g λc y h=>(je (W (s3 _ _ h))).trans (s3 _ _ h))
 .rintro M n ⟨I,J,L,r,rfl,B,D,C⟩;rw[vt,O,v5]at C;ac_nf;exact q p r n B hp D C
def we(T:Txt K mg t)(Kc:1<*t.yB t.yI ["pieces","sizes","beat"] (sp_begins)):2<*t.zk t.zr ["tally"] (sp_rung t.jA):=by
 specialize T.yy.F.ok JY;let⟨a,z,ls,ps,gs,f,hs,x,rfl,M,N,O,few,q⟩:=h;refine⟨_,(jb (jo' 1 JY.nd (jJ jc))
  (jb (jo' 2 JY.nd (Jm (jk ZT (jh jr (Jg (pv 0) rfl) (yU zI jd)) jd (nomark _)) (jJ (ja (jQ (ja (jt qE (jx jD (by rfl) T.JH j7 (ja (Jg (pv 0) rfl) jc)) jd) (ja jd jc))) jc)) (jJ jc)))
  (jb (yX PassesOwn.never (KJ (pv 2) (λ_=>rfl))
   (jb (jo' 3 JY.nd (j0N qA PySem.F.slot_list_pop PySem.F.type_list_pop j3Y (pv 2)))
   (jb (yW (i:=4) (ow:=["piece"]) (ci:=[0]) rfl (CompScope.of (defScope Qk) ["tally","found","todo","now","ringing"] rfl rfl (by trivial)) (Js nofun) JY.nd rfl (.inl rfl) (jB (jh jr (Jg (pv 0) rfl) (jh jq (pv 3) jd))) (λ_ _ _ _ _=>⟨(ji' 0 (jG ["tally","found","todo","now","ringing"] rfl (by trivial))),(j0Q (jk ZT (jh (Q6 (K:=K) rfl) (xf (K:=K) rfl (pv 1) rfl) (jh (yO (K:=K) rfl) (pv 0) jd)) jd (nomark _))),(pv 0)⟩))
   (jg (jL (KJ (pv 4) (λ_=>rfl))
    (jg (jF (Je qA PySem.F.slot_list_extend PySem.F.type_list_extend YJ (pv 2) (ja (js T.xK Kc hr (ja (pv 4) (ja (Jg (pv 0) rfl) (ja (jh jq (pv 3) jd) jc)))) jc))))
    (jg (jF (Je qA qY kS jC (pv 1) (ja (jh jq (pv 3) jd) jc)))))))))
  (jg (ju (j0P rfl (by rfl) T.xR (by rfl) T.j64 (pv 1))))))),?_⟩
 refine jn (Z':=[some _,none,none,none,none]) rfl ?_
 try dsimp only[cxOf,Cx.nox]
 have sz:(20000:Nat)<sizeLine:=by decide
 have W:=N.s.w;have gl:=N.s.gl;have ne:=N.ne;have wl:=O.1;let⟨dx,ob⟩:=M.o;exists⟨vB _,?_⟩;walk_at"f pf hpf H1 s1 e1";exists⟨a,_,dx,_,_,rfl,s1 _ _ ob,T.jz,T.jE,Q5,?_⟩;exists ixLm (SqL.of (s1 _ _ M.w)) (kE ne wl) ?_;exists iteD (λc=>?A) (λc=>?B)
 case' A=>
  exists⟨a,_,dx,_,_,rfl,s1 _ _ ob,T.jz,T.jP,Xe,?_⟩;exists⟨_,_,rfl,.inl ⟨_,SqL.of (s1 _ _ M.s),rfl⟩,?_⟩;rw[vt,gl];exists⟨ue,?_⟩;walk_at"f 3 e";exists⟨uf,?_⟩;walk_at"f 4 e";rw[show((ps.length:Nat):Int)-1=((ps.length-1:Nat):Int) by lia]at e3;have X:=s3.trans s4;have st:∃(e:N2) (S:L5),H4 p4=some (.lst (e.map V.ref))/\GonAt H4 e S/\RgS ps gs f (λy=>0<f.getD (ps.length-1) 0/\y∈RB ps gs f (ps.length-1) 0) [] S:=
   ⟨[p3],[(ps.length-1,0)],e4,All2.snoc (as:=[]) (xs:=[]) .nil (s4 _ _ e3),⟨λy=>⟨λh=>.inr ⟨_,vq,h.2⟩,λh=>⟨c,h.elim (λz=>nomatch z) λ⟨u,k,z⟩=>by rw[vo.mp k]at z;exact z⟩⟩,λu k=>by rw[vo.mp k];exact⟨by show ps.length-1<_;lia,c⟩,by simpa using few⟩⟩
  have n4:pf≠p4:=jf (s3 _ _ e1) hp4;have m4:∀{c u},H c=some u->c≠p4:=λh=>jf (s3 _ _ (s1 _ _ h)) hp4
 case' B=>
  exists⟨vB _,?_⟩;walk_at"f 4 e";have X:=s4;have st:∃(e:N2) (S:L5),H4 p4=some (.lst (e.map V.ref))/\GonAt H4 e S/\RgS ps gs f (λy=>0<f.getD (ps.length-1) 0/\y∈RB ps gs f (ps.length-1) 0) [] S:=
   ⟨[],[],e4,.nil,⟨λy=>⟨λh=>uh h.1 c,λh=>h.elim (λz=>nomatch z) λ⟨u,k,_⟩=>nomatch k⟩,(λu k=>nomatch k),(show(0:Int)+0<=4 by decide)⟩⟩
  have n4:pf≠p4:=jf e1 hp4;have m4:∀{c u},H c=some u->c≠p4:=λh=>jf (s1 _ _ h) hp4
 all_goals
  let⟨e,S,e4,gT,L⟩:=st;have mf:∀{c u},H c=some u->c≠pf:=λh=>jf h hpf
  exists⟨λm σ g=>IvE5 λ(Y Z:N7) (e:N2) (S:L5) (F:L9)=>IvA6 (σ=[some (.ref a),some (.ref pf),some (.ref p4),Y,Z]) (Same H g) (g pf=some (.lst (F.map V.int))) (g p4=some (.lst (e.map V.ref))) (GonAt g e S) (RgS ps gs f (λy=>0<f.getD (ps.length-1) 0/\y∈RB ps gs f (ps.length-1) 0) F S/\m=(S.map λs=>NR ps gs f s.1).sum),
   ⟨_,none,none,e,S,[],rfl,s1.trans X,X _ _ e1,e4,gT,L,rfl⟩,?_⟩
  clear gT L e4 e S;rintro m σ g ⟨Y,Z,e,S,F,rfl,sm,ef,eT,gT,L,rfl⟩;have few4:=L.few;have tl:=gT.1;exists⟨_,.inl ⟨_,SqL.of eT,rfl⟩,?_⟩;rcases List.eq_nil_or_concat S with rfl | ⟨S0,y,rfl⟩
  .have et:e=[]:=length_eq_zero_iff.mp tl;subst et;refine iteF ?_;exists j7b ?_;exists⟨pf,F,F,rfl,SqL.of ef,⋯,λy hy=>hy,?_⟩;intro l ms hl up mm;have ml:ms.length<=4:=by
    have:=len_sub (a:=ms) (b:=F) (up.imp λh=>⋯) λy hy=>(mm y).mp hy
    lia
   exact q l ms _ (sm.trans (xr hl rfl)) (none_of sm hl) jm up (λy=>(mm y).trans (L.done y).symm) ml
  rw[List.concat_eq_append]at *;let⟨d,ax,rfl,a6,a9⟩:=All2.last gT;rw[vi]at eT|-;refine iteB1 (by simp) ?_;let⟨y1,y2⟩:=L.ok y (mem_append_right _ vq);have nr:=j52 (gs:=gs) (W:=f) (ps:=ps) W (i:=y.1) (t:=y.2);rw[vi,sum_append];have a4:([y].map λs:Nat×Int=>NR ps gs f s.1).sum=NR ps gs f y.1:=by simp
  rw[a4];have ar:=a6.1;rw[vm,List.length_singleton]at few4;refine⟨λσ g=>IvE5 λ(Y Z:N7) (e:N2) (S:L5) (F:L9)=>IvA6 (σ=[some (.ref a),some (.ref pf),some (.ref p4),Y,Z]) (Same H g) (g pf=some (.lst (F.map V.int))) (g p4=some (.lst (e.map V.ref))) (GonAt g e S) (RgS ps gs f (λy=>0<f.getD (ps.length-1) 0/\y∈RB ps gs f (ps.length-1) 0) F S/\(S.map λs=>NR ps gs f s.1).sum<(S0.map λs=>NR ps gs f s.1).sum+NR ps gs f y.1),
   λZ' g ⟨Y,Z,e,S,F,h1,h2,h3,h4,h5,h6,h7⟩=>⟨_,h7,Y,Z,e,S,F,h1,h2,h3,h4,h5,h6,rfl⟩,?_⟩
  exists⟨.inl ⟨rfl,_,SqL.of eT⟩,?_⟩;refine⟨p4,_,.ref ax,rfl,rfl,eT,by simp,?_⟩;rw[show((d.map V.ref)++[ax].map V.ref).dropLast=d.map V.ref by simp];have n:∀{c:Addr} {xs:N6},g c=some (.tup xs)->c≠p4:=λh z=>by rw[z,eT]at h;cases h
  have I:Same H (upd g p4 (.lst (d.map V.ref))):=λc u h=>(je (m4 h)).trans (sm _ _ h)
  have a1:upd g p4 (.lst (d.map V.ref)) p4=some (.lst (d.map V.ref)):=jm;have a3:=(je (o:=HO.lst (d.map V.ref)) n4).trans ef;have a7:GonAt (upd g p4 (.lst (d.map V.ref))) d S0:=All2.mono a6 λc y h=>(je (n h)).trans h
  have R:=(je (o:=HO.lst (d.map V.ref)) (n a9)).trans a9;generalize upd g p4 (.lst (d.map V.ref))=H5 at I a1 a3 a7 R|-;clear n;have ab:=I _ _ ob;obtain⟨p,hp⟩:∃p,ps[y.1]?=some p:=⟨_,vz y1⟩
  have ag:pcB ps gs y.1=pcsI gs p.2 (inP ps p.2):=by unfold pcB;rw[hp]
  have ai:(ps.map λp=>pcsI gs p.2 (inP ps p.2))[y.1]?=some (pcB ps gs y.1):=by rw[vv,hp,ag];rfl
  let⟨al,ad,bs,aa,hq⟩:=M.pa.get ai;have ah:=hq.1;have aq:=xa N y.1;exists⟨a,_,dx,_,_,rfl,ab,T.jz,T.Ja,wO,?_⟩;exists zTu R ?_;exists ixLm (SqL.of (I _ _ M.p)) (jM (j:=y.1) (by rw[vv,ad];rfl)) ?_;exists⟨al,rfl,⟨_,SqL.of (I _ _ aa)⟩,?_⟩;refine jS (xs:=bs.map V.ref) (λj ys C=>IvE1 λ(r:N2)=>IvA3 (ys=r.map V.ref) (r.length<=j) (PcsAt H5 r (rq f ((pcB ps gs y.1).take j))/\H5=C)) ⟨[],rfl,vA _,.nil,rfl⟩ ?_ ?_ ?_
  .rintro j ys C _ ⟨r,rfl,fl,J,rfl⟩;exact SqL.of (I _ _ aa)
  .rintro j v ys C aj ⟨r,rfl,fl,J,rfl⟩;let⟨cq,u,rfl,k,hc⟩:=hq.at_ref aj;have ao:=(vx.mp k).1;have au:=qc W (vj k);have ey:f[u.1]?=some (f.getD u.1 0):=by rw[vy,vz ⋯];rfl
   refine Jb (Z':=[none,some (.ref a)]) rfl ?_;exists⟨a,_,dx,_,_,rfl,ab,T.jz,T.jE,Q5,?_⟩;exists zTu (I _ _ hc) ?_;exists ixLm (SqL.of (I _ _ M.w)) (jM (j:=u.1) (by rw[vv,ey];rfl)) ?_;ac_nf;have ef:rq f ((pcB ps gs y.1).take (j+1))=rq f ((pcB ps gs y.1).take j)++(if decide (0<f.getD u.1 0)=true then[u]else[]):=by
    unfold rq;rw[take_snoc k,filter_append];congr 1;rw[filter_cons,List.filter_nil]
   refine iteD (λc=>?_) (λc=>?_)
   .exists⟨by rw[vt];lia,r++[cq],by rw[vi];rfl,by rw[vm,List.length_singleton];lia,?_,rfl⟩;rw[ef,vc (vI c)];exact All2.snoc J (I _ _ hc)
   .refine⟨r,rfl,⋯,?_,rfl⟩;rw[ef,va (by rw[decide_eq_true_eq];exact c),append_nil];exact J
  rintro ys C ⟨r,rfl,fl,J,rfl⟩;rw[vt]at fl J;rw[ah,v5]at J;refine⟨by rw[vt];lia,?_⟩;walk_at"f 6 e";have G:=I.trans s6;have U:=s6 _ _ a1;have D:=s6 _ _ a3;have a0:=s6 _ _ R;have a8:GonAt H6 d S0:=All2.mono a7 λc y h=>s6 _ _ h
  have a5:=J.1;exists⟨_,.inl ⟨_,SqL.of e6,rfl⟩,?_⟩;by_cases c1:rq f (pcB ps gs y.1)=[]
  .have af:r=[]:=length_eq_zero_iff.mp (by rw[a5,c1];rfl);subst af;refine iteF ?_;exists⟨.inl ⟨rfl,_,SqL.of D⟩,?_⟩;exists zTu a0 ?_;exists⟨pf,_,_,rfl,rfl,D,by rw[vt];lia,?_⟩;ac_nf;have ak:∀{c:Addr} {xs:N6},H6 c=some (.tup xs)->c≠pf:=λh z=>by rw[z,D]at h;cases h
   refine⟨_,_,d,S0,F++[y.2],rfl,λc u h=>(je (mf h)).trans (G _ _ h),by rw[jm,vi];rfl,(je (Ne.symm n4)).trans U,All2.mono a8 λc y h=>(je (ak h)).trans h,L.leaf c1,?_⟩;have:=j6f (ps:=ps) (gs:=gs) (W:=f) y.1;lia
  .have am:¬r.map V.ref=[]:=λz=>by
    have:=congrArg List.length z;rw[vt,a5]at this;exact c1 (length_eq_zero_iff.mp this)
   refine iteB1 (by simpa using am) ?_;have rN:=L.node N O c1;have few5:=rN.few;rw[vm]at few5;exists⟨.inl ⟨rfl,_,SqL.of U⟩,?_⟩;exists⟨a,_,dx,_,_,rfl,G _ _ ob,T.jz,T.jP,Xe,?_⟩;exists zTu a0 ?_;exists⟨p6,z.s,y.2,r,rq f (pcB ps gs y.1),gs,rfl,e6,All2.mono J λc q h=>s6 _ _ h,G _ _ M.s,λu k=>N.pcOk (vQ.mp k).1,⋯,λp7 ac H7 s7 ap e7 g7=>?_⟩;have a2:=s7 _ _ U;have ae:=s7 _ _ D;have an:=g7.1;exists⟨p4,p7,_,_,rfl,rfl,a2,e7,by rw[vt,vt];lia,?_⟩;ac_nf;have n:∀{c:Addr} {xs:N6},H7 c=some (.tup xs)->c≠p4:=λh z=>by rw[z,a2]at h;cases h
   refine⟨_,_,d++ac,_,F,rfl,λc u h=>(je (m4 h)).trans (s7 _ _ (G _ _ h)),(je n4).trans ae,by rw[jm,vi],All2.app (All2.mono a8 λc y h=>(je (n (s7 _ _ h))).trans (s7 _ _ h)) (All2.mono g7 λc y h=>(je (n h)).trans h),rN,?_⟩;rw[vi,sum_append,nr];lia
def W3(T:Txt K mg t):1<*t.QG t.QO ["one","other"] (sp_common):=by
 specialize T.Y3.F.ok JU;let⟨r,s,rfl,N,X,O,Y,q⟩:=h;refine⟨_,(jb (jo' 2 JU.nd (jQ (ja (pv 0) (ja (pv 1) jc))))
  (jb (jo' 3 JU.nd (jQ (ja jd (ja jd jc))))
  (jb (yX PassesOwn.never (jk ZT (jh jq (pv 2) jd) jd (nomark _))
   (jb (jo' 4 JU.nd (jt qS (jh jq (pv 2) jd) (jh jq (pv 2) jd)))
   (jb (jo' 2 JU.nd (jQ (ja (jh jq (pv 2) jd) (ja (jt qE (jh jq (pv 2) jd) (jt J3 (pv 4) (jh jq (pv 2) jd))) jc))))
   (jg (jo' 3 JU.nd (jQ (ja (jh jq (pv 3) jd) (ja (jt qE (jh jq (pv 3) jd) (jt J3 (pv 4) (jh jq (pv 3) jd))) jc))))))))
  (jg (ju (jQ (ja (jh jq (pv 2) jd) (ja (jh jq (pv 3) jd) jc)))))))),?_⟩
 refine jn (Z':=[some _,some _,none,none,none]) rfl ?_
 try dsimp only[cxOf,Cx.nox]
 have g:(2:Nat)<=sizeLine:=by decide
 exists⟨g,?_⟩;walk_at"f p1 hp1 H1 z1 e1";exists⟨g,?_⟩;walk_at"f p2 hp2 H2 z2 e2";exists⟨λn Z' f=>IvE7 λ(m o:Addr) (a b x y:Int) (v:N7)=>IvA5 (Z'=[some (.int r),some (.int s),some (.ref m),some (.ref o),v]) (Same H f) (f m=some (.tup [.int a,.int b])) (f o=some (.tup [.int x,.int y])) (Ct.Ce r s a b x y/\n=b.toNat),
  ⟨_,p1,p2,_,_,_,_,_,rfl,z1.trans z2,z2 _ _ e1,e2,Ct.Ce.start N O,rfl⟩,?_⟩
 rintro n Z' f ⟨m,o,a,b,x,y,v,rfl,p,d,u,C,rfl⟩;let⟨R,D,F,z,G,j,k,I,J,_⟩:=id C;exists zTu d ?_;exists iteD (λc=>?_) (λc=>?_)
 .have l:1<=b:=⋯
  have S:=C.step l;have W:=WL (x:=a) (b:=b) (B:=10^200) ⋯ ⋯ ⋯;have Z:=S.b0;have L:=Int.emod_add_mul_ediv a b;have M:=ve a (show 0<b by lia);have U:a/b*b=b*(a/b):=Int.mul_comm ..;refine⟨_,λZ' f h=>h,?_⟩;exists zTu d ?_;exists zTu d ?_;exists zTu d ?_;exists zTu d ?_;exists zTu d ?_;exists⟨g,?_⟩;walk_at"f p3 hp3 H3 z3 e3";have e:=z3 _ _ u;exists zTu e ?_;exists zTu e ?_;exists zTu e ?_;exists⟨g,?_⟩;walk_at"f p4 hp4 H4 z4 e4";exists⟨(a-a/b*b).toNat,⋯,p3,p4,_,_,_,_,_,rfl,p.trans (z3.trans z4),z4 _ _ e3,e4,S,rfl⟩
 .have l:b=0:=⋯
  subst l;exists zTu d ?_;exists zTu u ?_;exists⟨g,?_⟩;walk_at"f p3 hp3 H3 z3 e3";exact q p3 a x H3 (p.trans z3) (none_of p hp3) e3 C.done j k
def XD(T:Txt K mg t)(zX:1<*t.QG t.QO ["one","other"] (sp_common)):2<*t.Z9 t.yg ["rung","other"] (sp_together):=by
 specialize T.Ka.F.ok qp;let⟨a,b,la,lb,B,O,TT,d,S,S',rfl,Y,N,eb,Z,tB,tO,T2,a4,a7,q⟩:=h;refine⟨_,(jb (jo (i:=2) qp.nd rfl (.inr rfl) (js T.Y3 zX hr (ja (jh jq (pv 0) jd) (ja (jh jq (pv 1) jd) jc))))
  (jb (jo' 3 qp.nd (jt qS (jh jq (pv 1) jd) (jh jq (pv 2) jd)))
  (jb (jo' 4 qp.nd (jJ jc))
  (jb (j4 PassesOwn.never rfl (jB (jh jq (pv 0) jd)) (ji (i:=5) qp.nd rfl (.inr rfl))
   (jg (j4 PassesOwn.never rfl (jB (jZ (ow:=["one"]) (ci:=[5,2]) rfl (CompScope.of (defScope zG) ["rung","other","common","steps","beats","beat","wanted"] rfl rfl (by trivial)) (Js nofun) (jB (jh jq (pv 1) jd)) (λ_ _ _ _ _=>⟨(ji' 0 (jG ["rung","other","common","steps","beats","beat","wanted"] rfl (by trivial))),(j0Q (jk JV (jt JX (jt qE (pv 0) (pv 1)) (jh (yO (K:=K) rfl) (pv 2) jd)) jd (nomark _))),(pv 0)⟩))) (ji' 6 qp.nd)
    (jg (jF (Je qA qY kS jC (pv 4) (ja (jt qC (pv 5) (jt J3 (jt JX (jt J3 (jt qS (jt qE (pv 6) (pv 5)) (jh jq (pv 2) jd)) (jh jq (pv 2) jd)) (pv 3)) (jh jq (pv 0) jd))) jc)))))))
  (jg (ju (jQ (ja (pv 4) (ja (jt J3 (jh jq (pv 0) jd) (pv 3)) jc))))))))),?_⟩
 refine jn (Z':=[some _,some _,none,none,none,none,none]) rfl ?_
 try dsimp only[cxOf,Cx.nox]
 have sz:(5000:Nat)<sizeLine:=by decide
 have T1:=tB.t1;have L1:=tO.t1;exists zTu Y ?_;exists zTu eb ?_;exists⟨TT,d,rfl,T1,⋯,L1,⋯,λp g f H1 z a6 e1 G f1 f2=>?_⟩;have g1:=G.1;have g2:g<=d:=Int.le_of_dvd ⋯ G.2.2.1;have st:=Ct.Wd L1 G;have a9:=WL (x:=d) (b:=g) (B:=10^61) ⋯ ⋯ ⋯;exists zTu (z _ _ eb) ?_;exists zTu e1 ?_;exists⟨vB _,?_⟩;walk_at"f pb hpb H2 s2 e2";have U:=z.trans s2;have nb:∀{c u},H1 c=some u->c≠pb:=λh=>jf h hpb
 exists zTu (U _ _ Y) ?_;exists⟨la,rfl,⟨_,SqL.of (U _ _ N)⟩,?_⟩;have pl:∀i,(((B.take i).flatMap λb=>(O.filter λw=>decide ((w-b)%g=0)).map (mtV TT d g f b)).length)<=(B.take i).length*O.length:=λi=>by
  generalize B.take i=l
  induction l with
  | nil=>exact vB _
  | cons y r ih=>
   rw[flatMap_cons,vm,vt,vR,Nat.add_mul,Nat.one_mul];have:=List.length_filter_le (λw=>decide ((w-y)%g=0)) O;lia
 refine j9 (xs:=B.map V.int) (λi J M=>IvE2 λ(o5 I:N7)=>IvA2 (J=[some (.ref a),some (.ref b),some (.ref p),some (.int (d/g)),some (.ref pb),o5,I]) ((∀c u,c≠pb->H2 c=some u->M c=some u)/\M pb=some (.lst (((B.take i).flatMap λb=>(O.filter λw=>decide ((w-b)%g=0)).map (mtV TT d g f b)).map V.int)))) ⟨_,_,rfl,λc u _ h=>h,e2⟩ ?_ ?_ ?_
 .rintro i J M _ ⟨o5,I,rfl,X,e⟩;exact SqL.of (X _ _ (nb (z _ _ N)) (U _ _ N))
 .rintro i v J H3 hv ⟨o5,I,rfl,X,e⟩;rw[vv]at hv;let⟨k,R,rfl⟩:=vf.mp hv;have hi:=(vx.mp R).1;have bb:=tB.b k (vj R);have C:∀{c u},H1 c=some u->H3 c=some u:=λh=>X _ _ (nb h) (s2 _ _ h)
  have a1:=C (z _ _ eb);have a5:=C (z _ _ Y);have a2:=C e1;exists zTu a1 ?_;exists⟨lb,rfl,⟨_,SqL.of (C (z _ _ Z))⟩,?_⟩;refine jS (xs:=O.map V.int) (λj ys D=>ys=((O.take j).filter λw=>decide ((w-k)%g=0)).map V.int/\H3=D) ⟨rfl,rfl⟩ ?_ ?_ ?_
  .rintro j ys D _ ⟨rfl,rfl⟩;exact SqL.of (C (z _ _ Z))
  .rintro j v ys D o ⟨rfl,rfl⟩;rw[vv]at o;let⟨L,m,rfl⟩:=vf.mp o;have hj:=(vx.mp m).1;refine Jb (Z':=[none,some (.int k),some (.ref p)]) rfl ?_;exists zTu a2 ?_;ac_nf;have ef:(O.take (j+1)).filter (λw=>decide ((w-k)%g=0))=((O.take j).filter λw=>decide ((w-k)%g=0))++(if decide ((L-k)%g=0)=true then[L]else[]):=by
    rw[take_snoc m,filter_append];congr 1;rw[filter_cons,List.filter_nil]
   refine iteD (λc=>?_) (λc=>?_)
   .exists⟨?_,?_,rfl⟩
    .have:=List.length_filter_le (λw=>decide ((w-k)%g=0)) (O.take j);rw[vh]at this;have:O.length<=B.length*O.length:=Nat.le_mul_of_pos_left _ ⋯;rw[vt];lia
    .rw[ef,vc (vI c),vi];rfl
   .refine⟨?_,rfl⟩;rw[ef,va (by rw[decide_eq_true_eq];exact c),append_nil]
  rintro ys D ⟨rfl,rfl⟩;rw[show(O.map V.int).length=O.length from vt _,v5];have fl:=List.length_filter_le (λw=>decide ((w-k)%g=0)) O;have ol:O.length<=B.length*O.length:=Nat.le_mul_of_pos_left _ ⋯;refine⟨by first | lia | (rw[vt];lia),?_⟩;walk_at"f 4 e";ac_nf;have n4:p4≠pb:=(jf e hp4).symm;generalize hF:O.filter (λw=>decide ((w-k)%g=0))=F at e4 fl|-;refine⟨p4,rfl,⟨_,SqL.of e4⟩,?_⟩;have pi:=pl i;rw[vh]at pi;have a8:min i B.length*O.length+O.length<=B.length*O.length:=by
   have:=Nat.mul_le_mul_right O.length (show i+1<=B.length by lia);rw[Nat.add_mul,Nat.one_mul]at this;rw[Nat.min_eq_left ⋯];exact this
  generalize hA:(B.take i).flatMap (λb=>(O.filter λw=>decide ((w-b)%g=0)).map (mtV TT d g f b))=Ac at e pi;refine j9 (xs:=F.map V.int) (λj J M=>IvE1 λ(I:N7)=>IvA2 (J=[some (.ref a),some (.ref b),some (.ref p),some (.int (d/g)),some (.ref pb),some (.int k),I]) ((∀c u,c≠pb->H4 c=some u->M c=some u)/\M pb=some (.lst ((Ac++(F.take j).map (mtV TT d g f k)).map V.int)))) ⟨_,rfl,λc u _ h=>h,by rw[List.take_zero,map_nil,append_nil];exact s4 _ _ e⟩ ?_ ?_ ?_
  .rintro j J M _ ⟨I,rfl,n,W⟩;exact SqL.of (n _ _ n4 e4)
  .rintro j v J H5 o ⟨I,rfl,n,W⟩;rw[vv]at o;let⟨L,m,rfl⟩:=vf.mp o;have hj:=(vx.mp m).1;have wm:L∈O:=by
    have:=vj m;rw[<-hF]at this;exact(vQ.mp this).1
   have wb:=tO.b L wm;have k5:∀{c u},H1 c=some u->H5 c=some u:=λh=>n _ _ (nb h) (s4 _ _ (C h))
   have a0:=k5 e1;have d1:=WL (x:=L-k) (b:=g) (B:=10^130) ⋯ ⋯ ⋯;have r1:=vd ((L-k)/g*f) (show d/g≠0 by lia);have r2:=ve ((L-k)/g*f) (show 0<d/g by lia);exists⟨.inl ⟨rfl,_,SqL.of W⟩,?_⟩;exists zTu a0 ?_;exists zTu a0 ?_;exists zTu (k5 (z _ _ Y)) ?_;exists⟨pb,_,_,rfl,rfl,W,by rw[vt,vm,vt,vh];lia,?_⟩;exists⟨_,rfl,λc u hc h=>(je hc).trans (n _ _ hc h),?_⟩;rw[jm,take_snoc m,vi (f:=mtV TT d g f k),<-List.append_assoc,vi (l₁:=Ac++_)];rfl
  .rintro J H5 ⟨I,rfl,n,W⟩;rw[vt,v5]at W;exists⟨_,_,rfl,λc u hc h=>n _ _ hc (s4 _ _ (X _ _ hc h)),?_⟩;rw[W,take_snoc R,flatMap_append,flatMap_cons,flatMap_nil,append_nil,hA,hF]
 .rintro J H3 ⟨o5,I,rfl,X,e⟩;rw[vt,v5]at e;have C:∀{c u},H1 c=some u->H3 c=some u:=λh=>X _ _ (nb h) (s2 _ _ h)
  have pe:=pl B.length;rw[v5]at pe;exists zTu (C (z _ _ Y)) ?_;exists⟨ue,?_⟩;walk_at"f 6 e";have a3:Same H H6:=λc u h=>s6 _ _ (C (z _ _ h))
  have n6:H p6=none:=by
   cases hh:H p6 with
   | none=>rfl
   | some u=>rw[C (z _ _ hh)]at hp6;cases hp6
  have up:TT*(d/g)<=TT*d:=by
   have:d/g<=d:=by
    have:=Int.ediv_le_self g (show 0<=d by lia);exact this
   exact Int.mul_le_mul_of_nonneg_left this ⋯
  exact q p6 pb _ _ H6 a3 n6 e6 (s6 _ _ e) (j5X tB tO G) pe up
def j0H(T:Txt K mg t)(JI:6<*t.jU t.Jl ["self","book","word"] (sp_initR t.jA))(zf:2<*t.zk t.zr ["tally"] (sp_rung t.jA))(Z4:2<*t.Z9 t.yg ["rung","other"] (sp_together)):8<*t.ZD t.ZG ["books","words","beat"] (sp_meeting):=by
 specialize T.wB.ok qI;let⟨a,b,as,C,t0,rfl,ea,Bk,eb,d3,ok,q⟩:=h;refine⟨_,(jb (yW (i:=3) (ow:=["book","word"]) (ci:=[]) rfl (CompScope.of (defScope JS) ["books","words","beat","tallies","rung","tally","begin"] rfl rfl (by trivial)) (zz nofun nofun) qI.nd rfl (.inl rfl) (xi (by rfl) T.Y7 (ja (pv 0) (ja (pv 1) jc))) (λ_ _ _ _ _=>⟨(Jr rfl (jp (ji' 0 (jG ["books","words","beat","tallies","rung","tally","begin"] rfl (by trivial))) (jp (ji' 1 (jG ["books","words","beat","tallies","rung","tally","begin"] rfl (by trivial))) jT))),Jq,(j1L T.xN (JI.mono nofun) hr (by rfl) T.WW T.zO .nil pass0 (ja (pv 0) (ja (pv 1) jc)))⟩))
  (jb (jL (Q0 (jx (j2k rfl) (by rfl) T.j73 j6l (ja (jZ (ow:=["tally"]) (ci:=[]) rfl (CompScope.of (defScope JS) ["books","words","beat","tallies","rung","tally","begin"] rfl rfl (by trivial)) (Js nofun) (jB (pv 3)) (λ_ _ _ _ _=>⟨(ji' 0 (jG ["books","words","beat","tallies","rung","tally","begin"] rfl (by trivial))),Jq,(xb ZT (jh (Q6 (K:=K) rfl) (xf (K:=K) rfl (pv 0) rfl) (yU zI jd)) jd (nomark _))⟩)) jc)))
   (jg Jv)
   jw)
  (jb (jo (i:=4) qI.nd rfl (.inr rfl) (jQ (ja (jJ (ja jd jc)) (ja jd jc))))
  (jb (j4 PassesOwn.never rfl (jB (pv 3)) (ji' 5 qI.nd)
   (jg (jo (i:=4) qI.nd rfl (.inr rfl) (js T.Ka Z4 hr (ja (pv 4) (ja (jQ (ja (js T.yy zf hr (ja (pv 5) jc)) (ja (Jg (pv 5) rfl) jc))) jc))))))
  (jb (jo (i:=6) qI.nd rfl (.inr rfl) (jx (j2l rfl) (by rfl) T.j62 j3p (ja (pv 2) (ja jd jc))))
  (jg (ju (j5J rfl (by rfl) T.j63 (jZ (ow:=["one"]) (ci:=[6,4]) rfl (CompScope.of (defScope JS) ["books","words","beat","tallies","rung","tally","begin"] rfl rfl (by trivial)) (Js nofun) (jB (jh jq (pv 4) jd)) (λ_ _ _ _ _=>⟨(ji' 0 (jG ["books","words","beat","tallies","rung","tally","begin"] rfl (by trivial))),Jq,(jt qC (pv 1) (jt JX (jt qE (pv 0) (pv 1)) (jh (yO (K:=K) rfl) (pv 2) jd)))⟩)) j0)))))))),?_⟩
 refine jn (Z':=[some _,some _,some _,none,none,none,none]) rfl ?_
 try dsimp only[cxOf,Cx.nox]
 have sz:(20000:Nat)<sizeLine:=by decide
 have bl:=Bk.1;exists⟨a,b,_,_,rfl,SqL.of ea,SqL.of eb,?_⟩;refine xY (xs:=as.map V.ref) (zs:=C.map λd=>V.str d.x) (λi n x=>IvE1 λ(f:N2)=>IvA3 (n=f.map V.ref) (f.length=i) (Same H x/\All2 (TlA t.jA x) f (C.take i))) (by rw[vt,vt];exact bl) ⟨[],rfl,rfl,Same.refl _,.nil⟩ ?_ ?_ ?_
 .rintro i n x _ ⟨f,rfl,hl,X,U⟩;exact⟨SqL.of (X _ _ ea),SqL.of (X _ _ eb)⟩
 .rintro i u v n x T0 H4 hu F ⟨f,rfl,hl,X,U⟩ sP tP;let⟨ba,d,rfl,r,pl,pp,a7,a8,Bd⟩:=Bk.at_ref hu;rw[vv,r]at F;cases F;have hi:=(vx.mp r).1;have k:=ok d (vj r);refine Jb (Z':=[none,none]) rfl ?_;refine JK (SqT.of tP) ?_;exists iteT ?_;ac_nf;intro o M ho a6 ne;have s3:Same H4 (upd (upd H4 M (.own o)) o (.ins t.jA M [])):=λc u h=>(je (jf h ho)).trans ((je (jf h a6)).trans h)
  have a0:=X.trans sP;refine⟨o,M,ba,pl,pp,a7,a8,d.ls,d.ps,d.gs,d.hs,d.x,rfl,jm,Bd.same (a0.trans s3),k.sn,k.x1,k.x2,λz W H5 k5 O A=>⟨rfl,?_⟩⟩;have eW:=j50 k.sn.s.w (vA _) O k.w;subst eW;have a3:Same H4 H5:=λc u h=>k5 _ _ (jf h ho) (s3 _ _ h)
  refine⟨by rw[vt];lia,f++[o],by rw[vi];rfl,by rw[vm,hl];rfl,a0.trans a3,?_⟩;rw[take_snoc r];exact All2.snoc (All2.mono U λc e ⟨z,h⟩=>⟨z,h.keep (sP.trans a3)⟩) ⟨z,A⟩
 rintro n x ⟨f,rfl,hl,X,U⟩;rw[vt]at hl;rw[vt,bl,v5]at U;refine⟨by rw[vt];lia,?_⟩;walk_at"f 1 e";have a9:=X.trans s1;have I:All2 (TlA t.jA H1) f C:=All2.mono U λc e ⟨z,h⟩=>⟨z,h.keep s1⟩
 clear U;exists⟨p1,rfl,⟨_,SqL.of e1⟩,?_⟩;refine jS (xs:=f.map V.ref) (λi n g=>n=(List.replicate i false).map V.bl/\H1=g) ⟨rfl,rfl⟩ ?_ ?_ ?_
 .rintro i n g _ ⟨rfl,rfl⟩;exact SqL.of e1
 .rintro i v n g F ⟨rfl,rfl⟩;let⟨ta,d,rfl,r,z,A⟩:=I.at_ref F;have hi:=(vx.mp r).1;have k:=ok d (vj r);let⟨M,ob⟩:=A.o;refine Jb (Z':=[none]) rfl ?_;exists iteT ?_;exists⟨ta,_,M,_,_,rfl,ob,T.jz,T.jE,Q5,?_⟩;exists ixLm (SqL.of A.w) (kE k.sn.ne k.w.1) ?_;ac_nf;have few:d.W.getD (d.ps.length-1) 0<=4:=k.few;refine⟨by rw[vt,List.length_replicate];lia,?_,rfl⟩;rw[List.replicate_succ',vi,vJ ⋯];rfl
 rintro n g ⟨rfl,rfl⟩;refine⟨by rw[vt,List.length_replicate,vt];lia,?_⟩;walk_at"f 2 e";exists⟨p2,_,rfl,SqL.of e2,?_⟩;rw[show(List.replicate (f.map V.ref).length false).any id=false by rw[List.any_replicate];simp];exists iteF ?_;exists⟨uf,?_⟩;walk_at"f 3 e";exists⟨ue,?_⟩;walk_at"f 4 e";have a2:=s2.trans (s3.trans s4);exists⟨p1,rfl,⟨_,SqL.of (a2 _ _ e1)⟩,?_⟩;refine j9 (xs:=f.map V.ref) (λi σ x=>IvE5 λ(o5:N7) (R N:Addr) (B:L9) (TT:Int)=>IvA6 (σ=[some (.ref a),some (.ref b),some (.int t0),some (.ref p1),some (.ref R),o5,none]) (Same H1 x) (x R=some (.tup [.ref N,.int TT])) (x N=some (.lst (B.map V.int))) (Tg B TT (λy=>∀d∈C.take i,d.R y)) (B.length<=4^i/\TT<=(10^60)^i))
  ⟨_,p4,p3,[0],1,rfl,a2,e4,s4 _ _ e3,?_,vA _,vC _⟩ ?_ ?_ ?_
 .rw[show(λy=>∀d∈C.take 0,Mb.R d y)=λ_=>True from funext λy=>propext ⟨λ_=>trivial,λ_ d h=>nomatch h⟩];exact j4O
 .rintro i σ x _ ⟨o5,R,N,B,TT,rfl,p,_⟩;exact SqL.of (p _ _ e1)
 .rintro i v σ H5 F ⟨o5,R,N,B,TT,rfl,p,er,D,G,Y,J⟩;let⟨ta,d,rfl,r,z,A⟩:=I.at_ref F;have hi:=(vx.mp r).1;have k:=ok d (vj r);have A5:=A.keep p;let⟨M,ob⟩:=A5.o;have bL:=(k.sn.g (show d.n<d.ps.length by have:=k.sn.ne;unfold Mb.n;lia)).2;exists⟨ta,z,d.ls,d.ps,d.gs,d.W,d.hs,d.x,rfl,A5,k.sn,k.w,k.few,λl ms H6 s6 ae e6 up mm ml=>?_⟩;exists⟨ta,_,M,_,_,rfl,s6 _ _ ob,T.jz,T.JQ,j5g,?_⟩;exists⟨ue,?_⟩;walk_at"f 7 e";have S:=s6.trans s7;have i2:i<=2:=⋯
  have Z:B.length<=16:=vX Y (Nat.pow_le_pow_right nofun i2);have L:TT<=10^130:=by
   have:i=0\/i=1\/i=2:=⋯
   rcases this with e | e | e<;>rw[e]at J<;>exact vY J nofun
  have ad:B.length*ms.length<=16*4:=Nat.mul_le_mul Z ml;have aa:B.length*ms.length<=4^(i+1):=by rw[Nat.pow_succ];exact Nat.mul_le_mul Y ml
  have tO:Tg ms d.L d.R:=k.tg mm;exists⟨R,p7,N,l,B,ms,TT,d.L,_,d.R,rfl,S _ _ er,S _ _ D,e7,s7 _ _ e6,G,tO,L,by show d.gs.getD d.n 0<=_;lia,⋯,λp8 l8 B8 T8 H8 s8 af e8 a5 a4 ab ac=>?_⟩;ac_nf;rw[j5Y r]at a4;refine⟨_,p8,l8,B8,T8,rfl,p.trans (S.trans s8),e8,a5,a4,⋯,?_⟩;have t1:=G.t1;have:=Int.mul_le_mul J (show d.L<=10^60 from bL) (by have:=tO.t1;lia) (Int.le_of_lt (Int.pow_pos nofun));rw[Int.pow_succ];lia
 .rintro σ H5 ⟨o5,R,N,B,TT,rfl,p,er,D,G,Y,J⟩;have tl:=I.1;rw[show(f.map V.ref).length=C.length from(vt _).trans tl]at G Y J;rw[v5]at G;have L:TT<=10^190:=by
   have:C.length=0\/C.length=1\/C.length=2\/C.length=3:=⋯
   rcases this with e | e | e | e<;>rw[e]at J<;>exact vY J nofun
  have Z:B.length<=4^3:=vX Y (Nat.pow_le_pow_right nofun d3);have t1:=G.t1;exists⟨_,_,rfl,?_⟩;rw[max0];exists j7a ?_;exists zTu er ?_;exists⟨N,rfl,⟨_,SqL.of D⟩,?_⟩;refine jS (xs:=B.map V.int) (λj n g=>n=((B.take j).map (cnd (max t0 0) TT)).map V.int/\H5=g) ⟨rfl,rfl⟩ ?_ ?_ ?_
  .rintro j n g _ ⟨rfl,rfl⟩;exact SqL.of D
  .rintro j v n g F ⟨rfl,rfl⟩;rw[vv]at F;let⟨y,hy,rfl⟩:=vf.mp F;have hj:=(vx.mp hy).1;refine Jb (Z':=[none,some (.int (max t0 0)),some (.ref R)]) rfl ?_;exists iteT ?_;exists zTu er ?_;exists⟨by rw[vt,vt,vh];lia,?_,rfl⟩;rw[take_snoc hy,vi,vi];rfl
  rintro n g ⟨rfl,rfl⟩;rw[show(B.map V.int).length=B.length from vt _,v5];refine⟨by rw[vt,vt];lia,?_⟩;walk_at"f 6 e";have a1:=a9.trans (p.trans s6);refine⟨p6,_,rfl,SqL.of e6,λe=>?_,λm hm=>?_⟩
  .exact q _ _ a1 (j5q G (List.map_eq_nil_iff.mp e))
  .exact q _ _ a1 (j3Q G L hm)
def YQ(T:Txt K mg t):1<*t.J0 t.J2 ["beat"] (Wc):=by
 refine T.zL.F.ok YX (λe H Q E h=>?_) (λc A a s H e Q E f h=>?_)
 .let⟨v,rfl,b,q⟩:=h;rfl
 let⟨v,rfl,b,q⟩:=h;refine⟨_,(jg (ju (Jm (jk KF (pv 0) j0 (nomark _)) jv (jW qj (by rfl) T.Y6 Zd (ja (pv 0) jc))))),?_⟩;refine jn (Z':=[some _]) rfl ?_
 try dsimp only[cxOf,Cx.nox]
 rcases b with rfl | ⟨y,rfl,d⟩
 .exists⟨rfl,_,rfl,?_⟩;refine iteB1 (vI rfl) ?_;exact q
 .exists⟨rfl,_,rfl,?_⟩;refine iteB0 (vJ (λz=>by cases z)) ?_;exists .inl ⟨_,rfl,d,?_⟩;exact q
def XC(T:Txt K mg t)(m:8<*t.ZD t.ZG ["books","words","beat"] (sp_meeting))(u:1<*t.J0 t.J2 ["beat"] (Wc)):9<*t.Qv t.yf ["asked"] (sp_meetM):=by
 specialize T.ZV.F.ok XQ;let⟨l,g,b,c,rfl,i,j,n,r,z,B,q⟩:=h;refine⟨_,(jg (ju (js T.zL u hr (ja (kJ (m.mono nofun) hr (by rfl) T.j2H T.wB.kp T.j2e .nil pass0 (ja (yT (pv 0) (Jt jd) (Jt jd)) (ja (yT (pv 0) (Jt jd) (Jt jd)) (ja (jh jr (pv 0) jd) jc)))) jc)))),?_⟩;refine jn (Z':=[some _]) rfl ?_
 try dsimp only[cxOf,Cx.nox]
 have D:(200:Nat)<sizeLine:=by decide
 have bl:=j.1;let⟨o,p⟩:=j3W b c bl;have C:=j1F b c bl;exists yY ?_;exists⟨rfl,l,_,1,rfl,rfl,SqL.of i,?_⟩;rw[show ev ((V.int g::mixL b c).drop 1)=b.map V.ref from o];sleep 1;exists yY ?_;exists⟨rfl,l,_,2,rfl,rfl,SqL.of (s1 _ _ i),?_⟩;rw[show ev ((V.int g::mixL b c).drop 2)=c.map (λd=>V.str d.x)from p];sleep 2;exists ixLm (SqL.of (s2 _ _ (s1 _ _ i))) (at0) ?_;ac_nf;have f:=s1.trans s2;refine⟨p1,p2,b,c,g,rfl,s2 _ _ t1,j.mono λa d h=>BkA.same f h,t2,n,r,λv k x M=>?_⟩;rw[show max g 0=g by lia]at M;exists⟨v,rfl,?_,q v k (f.trans x) M⟩;cases M with
 | no e _=>exact .inl e
 | yes y e y0 y1 _ _=>exact .inr ⟨y,e,j1D ⋯ ⋯⟩
def Xy(T:Txt K mg t):1<*t.zl t.zt ["words"] (sp_kindsM K):=by
 specialize T.kU.F.ok XN;let⟨l,n,k,rfl,g,j,q⟩:=h;refine⟨_,(jb (jL (PW.pt (yo (jk JV (jh jr (pv 0) jd) jv (nomark _)) (ZP (jk qD (jx jD (by rfl) T.JH j7 (ja (pv 0) jc)) (jQ (ja jd (ja jd (ja jd jc)))) (by with_unfolding_all rfl)))))
   (jg (ju (jt j1J (jQ (ja jv jc)) (jt j5H (jQ (ja jv (ja jv jc))) (jt qE (jt qS (jx jD (by rfl) T.JH j7 (ja (pv 0) jc)) jd) jd)))))
   jw)
  (jg (ju (j5I (JR (v:=.ref t.Zx) (by rfl) T.j6n rfl) (ja (jh jr (pv 0) jd) (ja (jQ jc) jc)))))),?_⟩
 refine jn (Z':=[some _]) rfl ?_
 try dsimp only[cxOf,Cx.nox]
 have m:(200:Nat)<sizeLine:=by decide
 rcases j with⟨x,rfl,rfl⟩ | ⟨x,y,rfl,rfl⟩ | ⟨y,a,b,c,d,rfl,rfl⟩ | ⟨y,a,b,c,d,e,f,rfl,rfl⟩
 .exists ixLm (SqL.of g) (at0) ?_;exists iteD (λc=>uh c (by trivial)) (λ_=>?_);refine iteF ?_;exists j1S ?_;exists⟨t.Zx,_,rfl,T.j3H,?_⟩;exists ixLm (SqL.of g) (at0) ?_;exists⟨(by show 0<=sizeLine;lia),?_⟩;sleep 1;exists⟨_,_,rfl,.inl ⟨["name"],by rw[PyProof.Rows.KTD.datumAt,vc (by trivial)];rfl,by decide,λb i=>?_⟩⟩;exact q b H1 s1 (i _)
 .exists ixLm (SqL.of g) (at0) ?_;exists iteD (λc=>uh c (by trivial)) (λ_=>?_);refine iteF ?_;exists j1S ?_;exists⟨t.Zx,_,rfl,T.j3H,?_⟩;exists ixLm (SqL.of g) (at0) ?_;exists⟨(by show 0<=sizeLine;lia),?_⟩;sleep 1;exists⟨_,_,rfl,.inl ⟨["name","number"],by rw[PyProof.Rows.KTD.datumAt,va (by trivial),PyProof.Rows.KTD.datumAt,va (by trivial),PyProof.Rows.KTD.datumAt,vc (by trivial)];rfl,by decide,λb i=>?_⟩⟩;exact q b H1 s1 (i _)
 .exists ixLm (SqL.of g) (at0) ?_;exists iteD (λ_=>?_) (λc=>uh rfl c);exists⟨_,_,rfl,.inl ⟨_,SqL.of g,rfl⟩,?_⟩;exists⟨ud,?_⟩;sleep 1;exists⟨p1,_,rfl,.inr (SqT.of t1),rfl,rfl,?_⟩;refine⟨_,rfl,?_⟩;refine iteB1 rfl ?_;exists⟨uf,?_⟩;sleep 2;exists⟨ue,?_⟩;sleep 3;exists⟨_,6,rfl,.inl ⟨_,SqL.of (s3 _ _ (s2 _ _ (s1 _ _ g))),rfl⟩,?_⟩;exists⟨p3,_,_,rfl,rfl,SqT.of t3,by simp,by decide,by decide,by decide,?_⟩;sleep 4;rw[show(((6:Nat):Int)/2-1).toNat=2 from by decide]at t4;exists⟨p2,p4,_,_,rfl,rfl,SqT.of (s4 _ _ (s3 _ _ t2)),SqT.of t4,by simp,(by show 5<=sizeLine;lia),(λz=>by cases z),λ_=>?_⟩;sleep 5;exact q p5 H5 (s1.trans (s2.trans (s3.trans (s4.trans s5)))) (SqT.of t5)
 .exists ixLm (SqL.of g) (at0) ?_;exists iteD (λ_=>?_) (λc=>uh rfl c);exists⟨_,_,rfl,.inl ⟨_,SqL.of g,rfl⟩,?_⟩;exists⟨ud,?_⟩;sleep 1;exists⟨p1,_,rfl,.inr (SqT.of t1),rfl,rfl,?_⟩;refine⟨_,rfl,?_⟩;refine iteB1 rfl ?_;exists⟨uf,?_⟩;sleep 2;exists⟨ue,?_⟩;sleep 3;exists⟨_,8,rfl,.inl ⟨_,SqL.of (s3 _ _ (s2 _ _ (s1 _ _ g))),rfl⟩,?_⟩;exists⟨p3,_,_,rfl,rfl,SqT.of t3,by simp,by decide,by decide,by decide,?_⟩;sleep 4;rw[show(((8:Nat):Int)/2-1).toNat=3 from by decide]at t4;exists⟨p2,p4,_,_,rfl,rfl,SqT.of (s4 _ _ (s3 _ _ t2)),SqT.of t4,by simp,(by show 7<=sizeLine;lia),(λz=>by cases z),λ_=>?_⟩;sleep 5;exact q p5 H5 (s1.trans (s2.trans (s3.trans (s4.trans s5)))) (SqT.of t5)
def Xx(T:Txt K mg t)(qh:2<*t.qP t.qk ["text","most"] (Ws.sp_number_of))(ZZ:1<*t.zl t.zt ["words"] (sp_kindsM K)):3<*t.Z7 t.yd ["words"] (sp_askedM):=by
 specialize T.kT.F.ok Zt;let⟨l,w,x,m,p,rfl,S,U,W,I,q⟩:=h;let⟨f,d,e⟩:=T.K8;refine⟨_,(jb (jo' 1 Zt.nd (js T.kU ZZ hr (ja (pv 0) jc)))
  (jb (jL (PW.pt (Q9 (jk qD jv (pv 0) (by with_unfolding_all rfl)) (Q9 (QA (KJ (pv 1) (λ_=>rfl))) (Zn (jk kc (jx jD (by rfl) T.JH j7 (ja (pv 1) jc)) (jt qE (jx jD (by rfl) T.JH j7 (ja (pv 0) jc)) jd) (nomark _))))))
   (jg Jv)
   jw)
  (jb (yW (i:=2) (ow:=["kind","word"]) (ci:=[]) rfl (CompScope.of (defScope zD) ["words","kinds","values"] rfl rfl (by trivial)) (zz nofun nofun) Zt.nd rfl (.inl rfl) (j1M (by rfl) T.Y7 (ja (pv 1) (ja (Q8 kP (pv 0) (Jt jd) yV) jc))) (λ_ _ _ _ _=>⟨(Jr rfl (jp (ji' 0 (jG ["words","kinds","values"] rfl (by trivial))) (jp (ji' 1 (jG ["words","kinds","values"] rfl (by trivial))) jT))),Jq,(Jm (jk JV (pv 0) jv (nomark _)) (kJ (qh.mono nofun) hr (by rfl) T.ka T.zU.kp d e pass0 (ja (pv 1) jc)) (pv 1))⟩))
  (jb (jL (jk qD j0 (pv 2) (by with_unfolding_all rfl))
   (jg Jv)
   jw)
  (jg (ju (kf true rfl (by rfl) T.j08 (by rfl) T.Y7 (ja (pv 1) (ja (pv 2) jc))))))))),?_⟩
 refine jn (Z':=[some _,none,none]) rfl ?_
 try dsimp only[cxOf,Cx.nox]
 let⟨Y,k7,kn,kb⟩:=U.len;rw[vR]at Y;have Y:x.length=m.length:=⋯
 have ul:=I.l;exists⟨l,w::x,m,rfl,S,U,λb H1 Z M=>?_⟩;have B:=Z _ _ S;exists⟨l,_,rfl,.inl (SqL.of B),rfl,flatW _,?_⟩;refine⟨_,rfl,?_⟩;refine iteB0 (by rw[va nofun,j1u];exact vJ λz=>(W _ z).e rfl) ?_;exists⟨true,.inr (.inl ⟨_,M,?_⟩),?_⟩
 .cases m with
  | nil=>exact uh rfl kn
  | cons a r=>rfl
 refine iteB0 rfl ?_;exists⟨_,_,rfl,.inr ⟨_,M,rfl⟩,?_⟩;exists⟨_,_,rfl,.inl ⟨_,SqL.of B,rfl⟩,?_⟩;exists iteN (λz=>uh (show(((m.map V.str).length:Nat):Int)=((((w::x).map V.str).length:Nat):Int)-1 by rw[vt,vt,vR];lia) z) (λ_=>?_);exists⟨l,_,rfl,SqL.of B,?_⟩;rw[show cutV ((w::x).map V.str) (some 1) none=x.map V.str from xZ];sleep 2;have C:=Yd s2 M;exists⟨b,p2,_,_,rfl,C,SqL.of t2,?_⟩;refine wL (xs:=m.map V.str) (zs:=x.map V.str) (λi J L=>J=p.take i/\Same H2 L) (by rw[vt,vt];lia) ⟨rfl,Same.refl _⟩ ?_ ?_ ?_
 .rintro i J L _ ⟨rfl,o⟩;exact⟨Yd o C,SqL.of (o _ _ t2)⟩
 .rintro i u v J L P' a0 j G ⟨rfl,o⟩ s4 tP;rw[vv]at j G;let⟨k,g,rfl⟩:=vf.mp j;let⟨y,X,rfl⟩:=vf.mp G;have F:=(vx.mp g).1;obtain⟨r,D⟩:∃r,p[i]?=some r:=⟨_,vz ⋯⟩
  have yw:=W y (vp _ (vj X));have tl:(p.take i).length<sizeLine:=by rw[vh];lia
  refine Jb (Z':=[none,none]) rfl ?_;refine JK (SqT.of tP) ?_;exists iteT ?_;ac_nf;rcases I.v i k y r g X D with⟨rfl,n,n0,n1,rfl,rfl⟩ | ⟨ne,rfl⟩
  .refine iteD (λ_=>?_) (λc=>uh rfl c);exists⟨_,_,rfl,by have:=yw.n;lia,λO N=>?_⟩;rw[j46 n0 n1];exact⟨tl,(take_snoc D).symm,o.trans (s4.trans N)⟩
  .refine iteD (λc=>uh c ne) (λ_=>?_);ac_nf;exact⟨tl,(take_snoc D).symm,o.trans s4⟩
 rintro J H3 ⟨rfl,o⟩;rw[vt,show p.take m.length=p by rw[<-ul,v5]];refine⟨⋯,?_⟩;sleep 4;ac_nf;have nn:inV .non p=false:=by
  show(p.any λy=>eqV y .non)=false;refine any_eq_false.mpr λu j=>?_
  let⟨i,F⟩:=List.getElem?_of_mem j;have il:=(vx.mp F).1;rcases I.v i _ _ u (vz (show i<m.length by lia)) (vz (show i<x.length by lia)) F with⟨_,n,_,_,_,rfl⟩ | ⟨_,rfl⟩
  .exact vH
  .exact vH
 have fl:p.all flatV=true:=all_eq_true.mpr λu j=>by
  let⟨i,F⟩:=List.getElem?_of_mem j;have il:=(vx.mp F).1;rcases I.v i _ _ u (vz (show i<m.length by lia)) (vz (show i<x.length by lia)) F with⟨_,n,_,_,_,rfl⟩ | ⟨_,rfl⟩
  .rfl
  .rfl
 refine⟨p4,_,rfl,.inl (SqL.of t4),rfl,fl,?_⟩;refine⟨_,rfl,?_⟩;refine iteB0 (by rw[va nofun];exact nn) ?_;exists j4q ?_;exists⟨b,p4,_,_,rfl,Yd s4 (Yd o C),SqL.of t4,by rw[vt];lia,λlz as O N _ e5 R z5=>?_⟩;rw[vt]at R;exact q lz as O (Z.trans (s2.trans (o.trans (s4.trans N)))) e5 R λi c k u hc g j=>z5 i c _ _ hc (by rw[vv,g];rfl) j
def Xv(T:Txt K mg t)(zi:6<*t.qv t.zx ["asked"] (sp_lengthD))(Za:9<*t.qQ t.Zg ["asked"] (sp_ringsM))(Z3:9<*t.Qv t.yf ["asked"] (sp_meetM))(ZY:3<*t.Z7 t.yd ["words"] (sp_askedM)):10<*t.Qt t.Qw ["self","row"] (sp_sayM t.Jf):=by
 specialize T.j01.ok qT;let⟨d,bd,bs,a2,w,ws,X,us,n,rfl,D,rs,rl,hk,hw,hv,ho,ha⟩:=h;refine⟨_,(jb (jo' 2 qT.nd (Je k0 w4 x_A ZK (pv 1) (ja jv jc)))
  (jb (jo' 3 qT.nd (jJ jc))
  (jb (j4 PassesOwn.never rfl (jB (js T.kT ZY hr (ja (pv 2) jc))) (Jr rfl (jp (ji' 4 qT.nd) (jp (ji' 5 qT.nd) jT)))
   (jb (jL (PW.pt (yo (jk JV (pv 4) jv (nomark _)) (ZP (j0S (j2U (Zi hr) (pv 5) (Jg (pv 0) rfl))))))
    (jg Jv)
    jw)
   (jb (jL (PW.pt (yo (jk JV (pv 4) jv (nomark _)) (ZP (jk W9 (pv 5) (jZ (ow:=["limb"]) (ci:=[]) rfl (CompScope.of (defScope zC) ["self","row","words","asked","kind","value"] rfl rfl (by trivial)) (Js nofun) (jB (jh jq (jh jr (pv 3) jd) jd)) (λ_ _ _ _ _=>⟨(ji' 0 (jG ["self","row","words","asked","kind","value"] rfl (by trivial))),Jq,(jh (yO (K:=K) rfl) (pv 0) jd)⟩)) (by with_unfolding_all rfl)))))
    (jg Jv)
    jw)
   (jg (jF (Je qA qY kS jC (pv 3) (ja (Jm (jk JV (pv 4) jv (nomark _)) (xc (Zi hr) (Jg (pv 0) rfl) (pv 5)) (pv 5)) jc)))))))
  (jg (ju (j6a (KG (jh WO (JR (v:=.ref t.Jx) (by rfl) T.Yr rfl) (jh jr (pv 2) jd)) (zi.mono nofun) hr T.ze.F.kp T.ze.B .nil pass0 (ja (pv 3) jc)) (j6a (KG (jh WO (JR (v:=.ref t.Jx) (by rfl) T.Yr rfl) (jh jr (pv 2) jd)) (Za.mono nofun) hr T.zR.F.kp T.zR.B .nil pass0 (ja (pv 3) jc)) (KG (jh WO (JR (v:=.ref t.Jx) (by rfl) T.Yr rfl) (jh jr (pv 2) jd)) (Z3.mono nofun) hr T.ZV.F.kp T.ZV.B .nil pass0 (ja (pv 3) jc))))))))),?_⟩
 refine jn (Z':=[some _,some _,none,none,none,none]) rfl ?_
 try dsimp only[cxOf,Cx.nox]
 have sz:(2000:Nat)<sizeLine:=by decide
 have a0:(Str.ofString " ")=⟨#[32]⟩:=by trivial
 let⟨⟨dx,eo⟩,eb⟩:=D;let⟨kl,k7,kn,kb⟩:=hk.len;rw[vR]at kl;have ul:=hv.l;have ol:=ho.l;let⟨y1,y2,y3,y4,y5,y6⟩:=j33 rs (by simp) hw rl (by rw[vR];lia);exists⟨rfl,?_⟩;exists⟨_,32,_,rfl,by rw[a0],by decide,y1,y2,y3,y4,y5,?_⟩;rw[y6];walk_at"f w1 hw1 H1 s1 t1";exists⟨(by show 0<=sizeLine;lia),?_⟩;walk_at"f w2 hw2 H2 s2 t2";have a3:=s1.trans s2;exists⟨w1,w,ws,X,us,rfl,s2 _ _ t1,hk,hw,hv,λp C H3 s3 ep cl ec=>?_⟩;have a4:=a3.trans s3;refine⟨p,rfl,⟨_,SqL.of ep⟩,?_⟩;have Z:=s3 _ _ t2;have a5:=s3 _ _ (s2 _ _ t1);have W:H w2=none:=none_of s1 hw2;have n1:w1≠w2:=jf t1 hw2;have a1:p≠w2:=λe=>by
  rw[e,Z]at ep;have:([]:N6).length=(C.map V.ref).length:=congrArg List.length (HO.lst.inj (vN ep));rw[vt]at this;have k1:X.length≠0:=λz=>kn (length_eq_zero_iff.mp z)
  exact k1 (by rw[<-cl];exact this.symm)
 refine j9 (xs:=C.map V.ref) (λi σ l=>IvE2 λ(o4 o5:N7)=>IvA5 (σ=[some (.ref d),some (.str a2),some (.ref w1),some (.ref w2),o4,o5]) (Same H l) (l p=some (.lst (C.map V.ref))) (l w1=some (.lst ((w::ws).map V.str))) ((∀(i:Nat) (c:Addr) (k:Str) (u:V),C[i]?=some c->X[i]?=some k->us[i]?=some u->l c=some (.tup [.str k,u]))/\l w2=some (.lst (n.take i))))
  ⟨_,_,rfl,a4,ep,a5,ec,Z⟩ ?_ ?_ ?_
 .rintro i σ l _ ⟨o4,o5,rfl,g,y,_⟩;exact SqL.of y
 .rintro i v σ l U ⟨o4,o5,rfl,g,y,m,r,f⟩;rw[vv]at U;let⟨c,hc,rfl⟩:=vf.mp U;have hi:=(vx.mp hc).1;obtain⟨k,F⟩:∃k,X[i]?=some k:=⟨_,vz ⋯⟩
  obtain⟨u,R⟩:∃u,us[i]?=some u:=⟨_,vz ⋯⟩
  obtain⟨o,O⟩:∃o,n[i]?=some o:=⟨_,vz ⋯⟩
  have a6:=r i c k u hc F R;have kL:k≠"limb":=kb k (vj F);have f1:Same H (upd l w2 (.lst (n.take i++[o]))):=λa u h=>(je (jf h W)).trans (g _ _ h)
  have f2:upd l w2 (.lst (n.take i++[o])) p=some (.lst (C.map V.ref)):=(je a1).trans y;have f3:upd l w2 (.lst (n.take i++[o])) w1=some (.lst ((w::ws).map V.str)):=(je n1).trans m;have f4:∀(j:Nat) (c:Addr) (k:Str) (u:V),C[j]?=some c->X[j]?=some k->us[j]?=some u->upd l w2 (.lst (n.take i++[o])) c=some (.tup [.str k,u]):=λj c k u J h2 h3=>(je (JE (r j c k u J h2 h3) f (λe=>by cases e))).trans (r j c k u J h2 h3)
  have f5:upd l w2 (.lst (n.take i++[o])) w2=some (.lst (n.take (i+1))):=by rw[jm,take_snoc O]
  refine JK (SqT.of a6) ?_;ac_nf;rcases ho.o i k u o F R O with⟨rfl,x,b,rfl,vb,rfl⟩ | ⟨ne,rfl⟩
  .refine iteD (λ_=>?_) (λc=>uh rfl c);exists j5K ?_;exists⟨d,t.Jf,dx,_,_,rfl,g _ _ eo,T.QL,T.JP,YD,?_⟩;refine⟨bd,_,rfl,DGet.k (k:=Sum.inr x) (g _ _ eb),?_⟩;rw[vb];refine⟨_,rfl,?_⟩;refine iteB0 rfl ?_;exists iteD (λc=>uh c (by trivial)) (λ_=>?_);refine iteF ?_;exists⟨.inl ⟨rfl,_,SqL.of f⟩,?_⟩;exists iteD (λ_=>?_) (λc=>uh rfl c);exists⟨d,t.Jf,dx,_,_,rfl,g _ _ eo,T.QL,T.JP,YD,?_⟩;exists⟨bd,_,rfl,by have:=DGet.k (k:=Sum.inr x) (g _ _ eb);rw[vb]at this;exact this,?_⟩;exists⟨w2,_,_,rfl,rfl,f,by rw[vh];lia,?_⟩;exact⟨_,_,rfl,f1,f2,f3,f4,f5⟩
  .refine iteD (λc=>uh c ne) (λ_=>?_);refine iteF ?_;exists iteD (λc=>uh c kL) (λ_=>?_);refine iteF ?_;exists⟨.inl ⟨rfl,_,SqL.of f⟩,?_⟩;exists iteD (λc=>uh c ne) (λ_=>?_);exists⟨w2,_,_,rfl,rfl,f,by rw[vh];lia,?_⟩;exact⟨_,_,rfl,f1,f2,f3,f4,f5⟩
 rintro Z' H4 ⟨o4,o5,rfl,g,y,m,r,f⟩;rw[vt,show n.take C.length=n by rw[show C.length=n.length by lia,v5]]at f;ac_nf;rcases ha with⟨rfl,b,pl,pp,G,I,ls,ps,gs,hs,rfl,B,S,p1,q⟩ | ⟨rfl,b,pl,pp,G,I,ls,ps,gs,hs,t0,rfl,B,N,h0,J,l1,lx,q⟩ | ⟨rfl,t0,as,ds,rfl,Bk,d3,ok,h0,J,q⟩
 .refine j4p (KK ?_);exists ixLm (SqL.of m) (at0) ?_;exists⟨t.Jx,_,_,t.qv,rfl,rfl,T.YF,by rw[PyProof.Rows.KTD.datumAt,vc (by trivial)],?_⟩;exists⟨rfl,?_⟩;ac_nf;exact⟨w2,b,pl,pp,G,I,ls,ps,gs,hs,rfl,f,B.same g,S,p1,λL Y=>q L (g.trans Y)⟩
 .refine j0T (j4p (KK ?_));exists ixLm (SqL.of m) (at0) ?_;exists⟨t.Jx,_,_,t.qQ,rfl,rfl,T.YF,by repeat (first | rw[PyProof.Rows.KTD.datumAt,vc (by trivial)] | rw[PyProof.Rows.KTD.datumAt,va (by trivial)]),?_⟩;exists⟨rfl,?_⟩;ac_nf;exact⟨w2,_,rfl,f,b,pl,pp,G,I,ls,ps,gs,hs,t0,rfl,B.same g,N,h0,J,l1,lx,λL Y=>q L (g.trans Y)⟩
 .refine j0T (j0T (KK ?_));exists ixLm (SqL.of m) (at0) ?_;exists⟨t.Jx,_,_,t.Qv,rfl,rfl,T.YF,by repeat (first | rw[PyProof.Rows.KTD.datumAt,vc (by trivial)] | rw[PyProof.Rows.KTD.datumAt,va (by trivial)]),?_⟩;exists⟨rfl,?_⟩;ac_nf;exact⟨w2,t0,as,ds,rfl,f,Bk.mono λa d h=>BkA.same g h,d3,ok,h0,J,λv L Y M=>q v L (g.trans Y) M⟩
def ku(T:Txt K mg t):1<*t.qu t.qw ["_law_script","_law_k"] (Pr.sp_cell_at K):=by
 specialize T.qr.F.ok kz;let⟨a,g,k,rfl,b,f,d,q⟩:=h;refine⟨_,(jb (jL (jk XF (pv 1) (jx jD (by rfl) T.JH j7 (ja (pv 0) jc)) (nomark _))
   (jg (ju (jh jr (pv 0) (pv 1))))
   jw)
  (jg (ju jd))),?_⟩
 refine jn (Z':=[some _,some _]) rfl ?_
 try dsimp only[cxOf,Cx.nox]
 exists⟨_,_,rfl,.inl ⟨_,b,rfl⟩,?_⟩;exists iteD (λc=>?_) (λc=>?_)
 .ac_nf;exact⟨a,_,k,_,rfl,rfl,b,Pr.j54 d (by rw[vt]at c;exact c),q⟩
 .ac_nf;have e:Pr.cell g k=0:=by
   rw[vt]at c;unfold Pr.cell;rw[vy,List.getElem?_eq_none ⋯];rfl
  rw[e]at q;exact q
def W0(T:Txt K mg t):1<*t.QF t.QN ["_law_cell","_law_most"] (sp_textM):=by
 specialize T.Y2.F.ok JT;let⟨c,m,rfl,m1,m6,q⟩:=h;refine⟨_,(jb (jo' 2 JT.nd (jJ (ja jv jc)))
  (jb (j4 PassesOwn.never rfl (ZN (by rfl) T.yF (ja jd jc)) (ji' 3 JT.nd)
   (jb (jo' 4 JT.nd (jW qj (by rfl) T.Y6 Zd (ja (jt qC jd (jt JX (pv 0) (pv 1))) jc)))
   (jb (jo' 0 JT.nd (jt qS (pv 0) (pv 1)))
   (jb (jo' 5 JT.nd (jt jI (jh jr (jJ (ja jv (ja jv (ja jv (ja jv jc))))) (pv 3)) (pv 4)))
   (jg (jF (Je qA qY kS jC (pv 2) (ja (jt jI (jt jI (jt jI jv (jh j3G jv (pv 3))) jv) (pv 5)) jc))))))))
  (jb (jF (Je qA qY kS jC (pv 2) (ja jv jc)))
  (jb (jF (Je qA qY kS jC (pv 2) (ja (jt jI (jt jI jv (jW qj (by rfl) T.Y6 Zd (ja (jt qC jd (jt JX (pv 0) jd)) jc))) jv) jc)))
  (jg (ju (Je k0 PySem.F.slot_str_join PySem.F.type_str_join j1G jv (ja (pv 2) jc)))))))),?_⟩
 refine jn (Z':=[some _,some _,none,none,none,none]) rfl ?_
 try dsimp only[cxOf,Cx.nox]
 have sz:(200000:Nat)<sizeLine:=by decide
 exists⟨uf,?_⟩;walk_at"f p hp H1 s1 t1";exists⟨_,rfl,⋯,⋯,?_⟩;have o:∀(x:Str) (a:Hp) (L:N3),Same H a->a p=some (.lst (L.map V.str))->Same H (upd a p (.lst (L.map V.str++[.str x])))/\upd a p (.lst (L.map V.str++[.str x])) p=some (.lst ((L++[x]).map V.str)):=λx a L s' _=>⟨λb u h=>(je (jf h hp)).trans (s' _ _ h),by rw[jm,vi];rfl⟩
 refine YE (λi N a=>IvE3 λ(F G I:N7)=>IvA2 (N=[some (.int (c/m^i)),some (.int m),some (.ref p),F,G,I]) (Same H a/\a p=some (.lst ((("limbs arm 0" : Str)::(List.range i).map (λj=>rw7 j (Rm.n7 c m j))).map V.str)))) ⟨_,_,_,by rw[Int.pow_zero,Int.ediv_one],s1,t1⟩ ?_ ?_
 .rintro i N a hi ⟨F,G,I,rfl,J,e⟩;have i4:i<4:=⋯
  rw[ux];have n:0<=Rm.n7 c m i/\Rm.n7 c m i<=10^18:=by
   unfold Rm.n7;have:=vd (c/m^i) (show m≠0 by lia);have:=ve (c/m^i) (show 0<m by lia);lia
  have nl:=KW n.1 n.2;have O:∀k:Nat,k<4->atI (Str.ofString "abcd").cps.toList (k:Int)=some (97+k)/\(fT.getD k ⟨#[]⟩).length<=10:=by trivial
  let⟨Y,g2⟩:=O i i4;have S:atI [V.str "ring bell ",V.str "hold ",V.str "ring gong ",V.str "hold "] (i:Int)=some (.str (fT.getD i ⟨#[]⟩)):=by
   rcases(show i=0\/i=1\/i=2\/i=3 by lia)with rfl | rfl | rfl | rfl<;>rfl
  exists .inl ⟨_,rfl,j3N n.1 n.2,?_⟩;ac_nf;have X:c/m^i/m=c/m^(i+1):=by
   rw[Int.pow_succ,Int.ediv_ediv_of_nonneg (Int.pow_nonneg ⋯)]
  rw[X];exists⟨uc,?_⟩;sleep 2;exists ixLm (SqL.of t2) (S) ?_;exists⟨_,_,rfl,rfl,?_,?_⟩
  .show _+(tI (Rm.n7 c m i)).length<=_;lia
  ac_nf;have D:(Str.ofString "part ").length=5:=by trivial
  have M:(Str.ofString " ").length=1:=by trivial
  have d:∀c:Nat,(⟨#[c]⟩:Str).length=1:=λ_=>rfl
  refine⟨.inl ⟨rfl,_,SqL.of (s2 _ _ e)⟩,?_⟩;exists⟨_,_,_,rfl,rfl,(by trivial),Y,?_⟩;refine⟨_,_,rfl,rfl,by rw[D,d];lia,?_⟩;exists⟨_,_,rfl,rfl,by rw[Str.length_append,D,d,M];lia,?_⟩;exists⟨_,_,rfl,rfl,?_,?_⟩
  .rw[Str.length_append,Str.length_append,Str.length_append,D,d,M];show _+(_+(tI (Rm.n7 c m i)).length)<=_;lia
  exists⟨p,_,_,rfl,rfl,s2 _ _ e,by rw[vt,vR,vt,length_range];lia,?_⟩;let⟨g,f⟩:=o (rw7 i (Rm.n7 c m i)) _ _ (J.trans s2) (s2 _ _ e);refine⟨_,_,_,rfl,g,?_⟩;rw[range_succ,vi];exact f
 rintro Z' a ⟨F,G,I,rfl,J,e⟩;have l:0<=Rm.k7 c m/\Rm.k7 c m<=10^18:=by unfold Rm.k7;lia
 have kl:=KW l.1 l.2;have R:=XL (c:=c) m1 m6;exists⟨.inl ⟨rfl,_,SqL.of e⟩,?_⟩;exists⟨p,_,_,rfl,rfl,e,by rw[vt,vR,vt,length_range];lia,?_⟩;let⟨g,f⟩:=o "part inner row a b c d" _ _ J e;generalize upd a p _=H2 at g f|-;exists⟨.inl ⟨rfl,_,SqL.of f⟩,?_⟩;exists .inl ⟨_,rfl,j3N l.1 l.2,?_⟩;have C:(Str.ofString "part play again ").length=16:=by trivial
 have l6:(Str.ofString " inner").length=6:=by trivial
 refine⟨_,_,rfl,rfl,?_,?_⟩
 .show _+(tI (Rm.k7 c m)).length<=_;lia
 exists⟨_,_,rfl,rfl,?_,?_⟩
 .rw[Str.length_append,C,l6];show _+(tI (Rm.k7 c m)).length+_<=_;lia
 exists⟨p,_,_,rfl,rfl,f,by rw[vt,vm,vR,vt,length_range];show 4+1+1<_;lia,?_⟩;let⟨U,W⟩:=o (ra7 (Rm.k7 c m)) _ _ g f;generalize z:upd H2 p _=H3;have r:Same H H3:=by rw[<-z];exact U
 have v:H3 p=some (.lst ((rows7 c m).map V.str)):=by rw[<-z];refine W.trans ?_;unfold rows7;rw[List.append_assoc];rfl
 clear z;exists⟨rfl,?_⟩;exists⟨_,p,_,rfl,rfl,SqL.of v,?_,?_⟩
 .have sl:=j26 (ys:=rows7 c m) (B:=4000) λy Z=>(R.r y Z).2.1
  have n2:=R.n2;have le:(Str.ofString "\n").length=1:=by trivial
  rw[le];lia
 exact q H3 r
def WZ(T:Txt K mg t)(u:10<*t.Qt t.Qw ["self","row"] (sp_sayM t.Jf)):11<*t.Zb t.Zf ["_law_desk","_law_name","_law_long","_law_word"] (sp_seenM t.Jf):=by
 specialize T.Y1.F.ok xt;let⟨g,C,b,F,c,d,rfl,D,j,x,l,k,q⟩:=h;refine⟨_,(jg (ju (jZ (ow:=["_law_beat"]) (ci:=[3,0,1]) rfl (CompScope.of (defScope QS) ["_law_desk","_law_name","_law_long","_law_word"] rfl rfl (by trivial)) (Js nofun) (ZN (by rfl) T.yF (ja (pv 2) jc)) (λ_ _ _ _ _=>⟨(ji' 0 (jG ["_law_desk","_law_name","_law_long","_law_word"] rfl (by trivial))),Jq,(xb JV (ZM (pv 2) T.QL T.Zk (u.mono nofun) hr T.ZU .nil pass0 (ja (jt jI (jt jI (jt jI jv (pv 3)) jv) (jW qj (by rfl) T.Y6 Zd (ja (pv 0) jc))) jc)) (pv 1) (nomark _))⟩)))),?_⟩;refine jn (Z':=[some _,some _,some _,some _]) rfl ?_
 try dsimp only[cxOf,Cx.nox]
 have N:(2000:Nat)<sizeLine:=by decide
 have z:=k.g.L1;have B:=k.L;have M:=j.n;have m:=D;let⟨⟨o,p⟩,G⟩:=m;have L:(Str.ofString "rings ").length=6:=by trivial
 have J:(Str.ofString " ").length=1:=by trivial
 exists⟨_,rfl,⋯,⋯,?_⟩;refine Kn (λi e f=>e=((List.range i).map λt:Nat=>decide (d.x∈ringsW d.ps d.gs (t:Nat))).map V.bl/\Same H f) ⟨rfl,Same.refl _⟩ ?_ ?_
 .rintro i e f I ⟨rfl,a⟩;have r:i<48:=⋯
  refine Jb (Z':=[none,some (.str d.x),some (.ref g),some (.str c)]) rfl ?_;rw[ux];have v:=KC (n:=(i:Int)) ⋯ ⋯;have O:=v.n;exists iteT ?_;exists⟨g,o,_,rfl,a _ _ p,kF (by trivial),?_⟩;exists⟨_,_,rfl,rfl,⋯,?_⟩;exists⟨_,_,rfl,rfl,by rw[Str.length_append];lia,?_⟩;exists .inl ⟨_,rfl,j0u ⋯ ⋯,?_⟩;refine⟨_,_,rfl,rfl,?_,?_⟩
  .rw[Str.length_append,Str.length_append];show _+(tI (i:Int)).length<=_;lia
  exists j5S (t:=(i:Int)) (D.same a) j x (BkA.same a l) k ⋯ ⋯ λH4 s4=>?_
  exists⟨by rw[vt,vt,length_range];lia,?_,a.trans s4⟩;rw[j6h (k.few _ ⋯) k.x,range_succ,vi,vi];rfl
 rintro e y ⟨rfl,a⟩;refine⟨by rw[vt,vt,length_range];lia,?_⟩;sleep 4;exact q p4 H4 (a.trans s4) (none_of a hp4) t4
def YO(T:Txt K mg t):1<*t.JZ t.J1 ["_law_one","_law_other"] (sp_multM):=by
 specialize T.zK.F.ok qH;let⟨a,b,rfl,o,p,r,x,q⟩:=h;refine⟨_,(jb (j4k (i:=2) (j:=3) rfl qH.nd rfl rfl nofun rfl rfl (ja (pv 0) (ja (pv 1) jc)) (by rfl))
  (jb (yX PassesOwn.never (jk ZT (pv 3) jd (nomark _))
   (jg (j4k (i:=2) (j:=3) rfl qH.nd rfl rfl nofun rfl rfl (ja (pv 3) (ja (jt JX (pv 2) (pv 3)) jc)) (by rfl))))
  (jg (ju (jt J3 (jt qS (pv 0) (pv 2)) (pv 1)))))),?_⟩
 refine jn (Z':=[some _,some _,none,none]) rfl ?_
 try dsimp only[cxOf,Cx.nox]
 exists rd_par ?_;exists⟨_,_,rfl,?_⟩;exists⟨λn Z' g=>IvE2 λ(f s:Int)=>IvA7 (Z'=[some (.int a),some (.int b),some (.int f),some (.int s)]) (H=g) (1<=f) (0<=s) (s<=100) (f<=10^6) ((∀e:Int,e ∣ f->e ∣ s->e ∣ a/\e ∣ b)/\n=s.toNat),⟨_,_,_,rfl,rfl,o,⋯,x,p,λe d k=>⟨d,k⟩,rfl⟩,?_⟩;rintro n Z' g ⟨f,s,rfl,rfl,y,N,O,L,l,rfl⟩;exists iteD (λc=>?_) (λc=>?_)
 .have D:=vd f (show s≠0 by lia);have M:=ve f (show 0<s by lia);refine⟨_,λZ' g h=>h,?_⟩;refine rd_par ?_;exists⟨_,_,rfl,(f%s).toNat,⋯,_,_,rfl,rfl,⋯,D,⋯,⋯,λe d k=>l e ?_ d,rfl⟩;rw[<-Int.emod_add_mul_ediv f s];exact Int.dvd_add k (Int.dvd_trans d ⟨_,rfl⟩)
 .have B:s=0:=⋯
  subst B;let⟨⟨u,m⟩,v,C⟩:=l f ⟨1,⋯⟩ ⟨0,⋯⟩;have e:a/f=u:=by rw[m];exact Int.mul_ediv_cancel_left _ ⋯
  ac_nf;rw[e];have F:1<=u:=by
   by_cases z:1<=u
   .exact z
   .have:=Int.mul_nonpos_of_nonneg_of_nonpos (show 0<=f by lia) (show u<=0 by lia);lia
  have I:u<=a:=by
   have:=vV y (show 0<=u by lia);rw[Int.one_mul]at this;lia
  refine⟨u,b,rfl,rfl,mulOk ⋯ ⋯ ⋯ ⋯,?_⟩;have J:=Int.mul_le_mul I (vC b) ⋯ ⋯;have G:=Int.mul_le_mul F r nofun ⋯;refine q (u*b) ⋯ J ⟨v,?_⟩ ⟨u,Int.mul_comm ..⟩;rw[m,C,Int.mul_assoc,Int.mul_left_comm u f v]
def Xw(T:Txt K mg t)(qX:1<*t.JZ t.J1 ["_law_one","_law_other"] (sp_multM)):2<*t.Z6 t.yc ["_law_seen_here","_law_beat"] (sp_dueM):=by
 specialize T.kR.F.ok qU;let⟨p,a,c,b,rfl,u,al,a0,k7,h0,f,q⟩:=h;refine⟨_,(jb (jo' 2 qU.nd jd)
  (jb (j4 PassesOwn.never rfl (jB (pv 0)) (ji' 3 qU.nd)
   (jg (jo' 2 qU.nd (js T.zK qX hr (ja (pv 2) (ja (jx jD (by rfl) T.JH j7 (ja (pv 3) jc)) jc))))))
  (jb (j4 PassesOwn.never rfl (j2V (by rfl) T.yF (ja (pv 1) (ja (jt qC (pv 1) (pv 2)) jc))) (ji' 4 qU.nd)
   (jg (jL (PW.pt (yo (Q0 (jh jr (jh jr (pv 0) jd) (jt JX (pv 4) (jx jD (by rfl) T.JH j7 (ja (jh jr (pv 0) jd) jc))))) (yo (Q0 (jh jr (jh jr (pv 0) jd) (jt JX (pv 4) (jx jD (by rfl) T.JH j7 (ja (jh jr (pv 0) jd) jc))))) (ZP (Q0 (jh jr (jh jr (pv 0) (yU zI jd)) (jt JX (pv 4) (jx jD (by rfl) T.JH j7 (ja (jh jr (pv 0) (yU zI jd)) jc)))))))))
    (jg (ju (jW qj (by rfl) T.Y6 Zd (ja (pv 4) jc))))
    jw)))
  (jg (ju jv))))),?_⟩
 refine jn (Z':=[some _,some _,none,none,none]) rfl ?_
 try dsimp only[cxOf,Cx.nox]
 have sz:(20000:Nat)<sizeLine:=by decide
 have bl:=al.1;exists⟨p,rfl,⟨_,SqL.of u⟩,?_⟩;refine j9 (xs:=c.map V.ref) (λi F r=>IvE2 λ(L:N7) (w:Int)=>IvA5 (F=[some (.ref p),some (.int a),some (.int w),L,none]) (H=r) (1<=w) (w<=48^i) (∀d∈b.take i,d.L ∣ w)) ⟨_,1,rfl,rfl,by decide,vC _,λd h=>nomatch h⟩ ?_ ?_ ?_
 .rintro i F r _ ⟨L,w,rfl,rfl,_⟩;exact SqL.of u
 .rintro i v F r hv ⟨L,w,rfl,rfl,w1,D,wd⟩;rw[vv]at hv;let⟨n,J,rfl⟩:=vf.mp hv;have hi:=(vx.mp J).1;obtain⟨d,B⟩:∃d,b[i]?=some d:=⟨_,vz ⋯⟩
  have k:=k7 d (vj B);have kl:=k.L;have k1:=k.g.L1;have S:H n=some (.lst ((seenL d).map V.bl)):=al.2 i n d J B;have w3:w<=10^6:=by
   have:i=0\/i=1\/i=2:=⋯
   rcases this with e | e | e<;>rw[e]at D<;>exact vY D nofun
  exists⟨_,_,rfl,.inl ⟨_,SqL.of S,rfl⟩,?_⟩;rw[Yb k.g];exists⟨w,d.L,rfl,w1,w3,k1,⋯,λw' a1 a2 d1 d2=>?_⟩;refine⟨_,w',rfl,rfl,a1,?_,λe he=>?_⟩
  .have:=Int.mul_le_mul D kl ⋯ (Int.le_of_lt (Int.pow_pos nofun));rw[Int.pow_succ];exact vY a2 this
  .rw[take_snoc B]at he;rcases vg.mp he with z | z
   .exact Int.dvd_trans (wd e z) d1
   .rw[vo.mp z];exact d2
 rintro Z' r ⟨L,w,rfl,rfl,w1,D,wd⟩;rw[vt,bl,v5]at wd;exists j5L ?_;exists⟨_,_,rfl,?_⟩;rw[show(a+w-a).toNat=w.toNat by lia];refine YE (λi F r=>IvE1 λ(o4:N7)=>IvA3 (F=[some (.ref p),some (.int a),some (.int w),L,o4]) (H=r) (∀y,a<=y->y<a+(i:Nat)->¬∀d∈b,Mb.R d y)) ⟨_,rfl,rfl,λy f G=>⋯⟩ ?_ ?_
 .rintro i F r hi ⟨o4,rfl,rfl,I⟩;have it:∀(j:Nat) (x:Int) (d:Mb),b[j]?=some d->atI (c.map V.ref) x=(c.map V.ref)[j]?->∃n,atI (c.map V.ref) x=some (.ref n)/\H n=some (.lst ((seenL d).map V.bl)):=λj x d B e=>by
   have C:=(vx.mp B).1;obtain⟨n,J⟩:∃n,c[j]?=some n:=⟨_,vz ⋯⟩
   exact⟨n,by rw[e,vv,J];rfl,al.2 j n d J B⟩
  obtain⟨g,X⟩:∃d,b[0]?=some d:=⟨_,vz ⋯⟩
  obtain⟨l,Y⟩:∃d,b[1]?=some d:=⟨_,vz ⋯⟩
  obtain⟨m,Z⟩:∃d,b[b.length-1]?=some d:=⟨_,vz ⋯⟩
  have ln:(c.map V.ref).length=b.length:=by rw[vt];exact bl
  let⟨s0,i0,S0⟩:=it 0 0 g X (by unfold atI ixN;rw[ln];rw[vc nofun,vc ⋯];rfl);let⟨s1,i1,S1⟩:=it 1 1 l Y (by unfold atI ixN;rw[ln];rw[vc nofun,vc ⋯];rfl);let⟨s2,i2,S2⟩:=it (b.length-1) (-1) m Z (by unfold atI ixN;rw[ln];rw[va nofun,vc ⋯,show((-1:Int)+(b.length:Int)).toNat=b.length-1 by lia];rfl);have M:=k7 g (vj X);have N:=k7 l (vj Y);have O:=k7 m (vj Z);have y0:0<=a+(i:Nat):=⋯
  have o:(∀d∈b,Mb.R d (a+(i:Nat)))↔(g.x∈ringsW g.ps g.gs ((a+(i:Nat))%g.L)/\l.x∈ringsW l.ps l.gs ((a+(i:Nat))%l.L)/\m.x∈ringsW m.ps m.gs ((a+(i:Nat))%m.L)):=by
   rw[<-j05 M.g y0,<-j05 N.g y0,<-j05 O.g y0];constructor
   .intro h;exact⟨h _ (vj X),h _ (vj Y),h _ (vj Z)⟩
   .rintro⟨r0,r1,r2⟩ d B;let⟨j,C⟩:=List.getElem?_of_mem B;have hl:=(vx.mp C).1;rcases(show j=0\/j=1\/j=b.length-1 by lia)with rfl | rfl | rfl
    .rw[X]at C;cases C;exact r0
    .rw[Y]at C;cases C;exact r1
    .rw[Z]at C;cases C;exact r2
  exists ixLm (SqL.of u) (i0) ?_;exists ixLm (SqL.of u) (i0) ?_;exists⟨_,_,rfl,.inl ⟨_,SqL.of S0,rfl⟩,?_⟩;rw[Yb M.g];dsimp only;have a3:=M.g.L1;refine⟨_,_,rfl,rfl,⋯,?_⟩;refine ixLm (SqL.of S0) (KS M.g _) ?_;refine⟨_,rfl,?_⟩;by_cases R:g.x∈ringsW g.ps g.gs ((a+(i:Nat))%g.L)
  case neg=>
   refine iteB0 (vJ R) ?_;ac_nf;exact⟨_,rfl,rfl,λy f G=>by
    by_cases z:y=a+(i:Nat)
    .rw[z,o];exact λh=>R h.1
    .exact I y f ⋯⟩
  refine iteB1 (vI R) ?_;exists ixLm (SqL.of u) (i1) ?_;exists ixLm (SqL.of u) (i1) ?_;exists⟨_,_,rfl,.inl ⟨_,SqL.of S1,rfl⟩,?_⟩;rw[Yb N.g];dsimp only;have a4:=N.g.L1;refine⟨_,_,rfl,rfl,⋯,?_⟩;refine ixLm (SqL.of S1) (KS N.g _) ?_;refine⟨_,rfl,?_⟩;by_cases U:l.x∈ringsW l.ps l.gs ((a+(i:Nat))%l.L)
  case neg=>
   refine iteB0 (vJ U) ?_;ac_nf;exact⟨_,rfl,rfl,λy f G=>by
    by_cases z:y=a+(i:Nat)
    .rw[z,o];exact λh=>U h.2.1
    .exact I y f ⋯⟩
  refine iteB1 (vI U) ?_;exists ixLm (SqL.of u) (i2) ?_;exists ixLm (SqL.of u) (i2) ?_;exists⟨_,_,rfl,.inl ⟨_,SqL.of S2,rfl⟩,?_⟩;rw[Yb O.g];dsimp only;have a5:=O.g.L1;refine⟨_,_,rfl,rfl,⋯,?_⟩;refine ixLm (SqL.of S2) (KS O.g _) ?_;refine⟨_,rfl,?_⟩;by_cases W:m.x∈ringsW m.ps m.gs ((a+(i:Nat))%m.L)
  case neg=>
   refine iteB0 (vJ W) ?_;ac_nf;exact⟨_,rfl,rfl,λy f G=>by
    by_cases z:y=a+(i:Nat)
    .rw[z,o];exact λh=>W h.2.2
    .exact I y f ⋯⟩
  refine iteB1 (vI W) ?_;ac_nf;have w3:w<=10^6:=by
   rw[ln]at D;rcases a0 with e | e<;>rw[e]at D<;>exact vY D nofun
  refine .inl ⟨_,rfl,j1D y0 ⋯,?_⟩;refine q (.int (a+(i:Nat))) (.inr ⟨_,rfl,⋯,o.mpr ⟨R,U,W⟩,λy' f G=>?_⟩);by_cases z:a+(i:Nat)<=y'
  .exact z
  .exact uh G (I y' f ⋯)
 .rintro F r ⟨o4,rfl,rfl,I⟩;exists q .non (j43 w1 wd λy f G=>I y f ⋯)
def j6F(T:Txt K mg t)(qW:1<*t.Jj t.JD ["self"] (sp_initD t.Jf))(ZW:8<*t.zj t.zq ["self","name","text"] (sp_putM t.Jf))(qa:10<*t.Qt t.Qw ["self","row"] (sp_sayM t.Jf))(JJ:1<*t.qu t.qw ["_law_script","_law_k"] (Pr.sp_cell_at K))(zW:1<*t.QF t.QN ["_law_cell","_law_most"] (sp_textM))(zV:11<*t.Zb t.Zf ["_law_desk","_law_name","_law_long","_law_word"] (sp_seenM t.Jf))(ZX:2<*t.Z6 t.yc ["_law_seen_here","_law_beat"] (sp_dueM)):12<*t.j3k t.j1k ["_law_script"] (Pr.sp_law K):=by
 specialize T.j3h.F.ok Qd;let⟨a,o,rfl,hS,J,hB,q⟩:=h;refine⟨_,(jb (jo' 1 Qd.nd (j4f T.j6e (qW.mono nofun) hr (by rfl) T.j5v T.km .nil pass0))
  (jb (jo' 2 Qd.nd (jJ jc))
  (jb (jo' 3 Qd.nd (jJ jc))
  (jb (jo' 4 Qd.nd jv)
  (jb (j4 PassesOwn.never rfl (ZN (by rfl) T.yF (ja (jt qC jd (jt JX (js T.qr JJ hr (ja (pv 0) (ja jd jc))) jd)) jc)) (ji' 5 Qd.nd)
   (jb (jo' 6 Qd.nd (js T.qr JJ hr (ja (pv 0) (ja (jt qC jd (pv 5)) jc))))
   (jb (xo (jk XF (pv 6) (jt YR jd jd) (nomark _))
    (jg (jo' 6 Qd.nd (jt JX (jt J3 (jt qC (jt JX (pv 6) (jt YR jd jd)) (jt J3 jd (pv 5))) (jt qC (jt JX (pv 6) (jt YR jd jd)) jd)) jd)))
    jw)
   (jb (jo' 7 Qd.nd (jh jr (jJ (ja jv (ja jv (ja jv jc)))) (pv 5)))
   (jb (jF (ZM (pv 1) T.QL T.Xm (ZW.mono nofun) hr T.X7 .nil pass0 (ja (pv 7) (ja (js T.Y2 zW hr (ja (pv 6) (ja (jh jr (jJ (ja jd (ja jd (ja jd jc)))) (pv 5)) jc))) jc))))
   (jb (jF (Je qA qY kS jC (pv 3) (ja (jh jr (jJ (ja jv (ja jv jc))) (jt JX (js T.qr JJ hr (ja (pv 0) (ja (jt qC jd (pv 5)) jc))) jd)) jc)))
   (jb (jo' 4 Qd.nd (jt jI (jt jI (jt jI (jt jI (pv 4) jv) (pv 7)) jv) (jh jr (pv 3) (pv 5))))
   (jg (jF (Je qA qY kS jC (pv 2) (ja (js T.Y1 zV hr (ja (pv 1) (ja (pv 7) (ja (jW wG (by rfl) T.j61 j3o (ja (ZM (pv 1) T.QL T.Zk (qa.mono nofun) hr T.ZU .nil pass0 (ja (jt jI jv (pv 7)) jc)) jc)) (ja (jh jr (pv 3) (pv 5)) jc))))) jc)))))))))))
  (jb (j4 PassesOwn.never rfl (jB (jt j4b (jJ (ja jd jc)) (Q8 kP (pv 0) (Jt jd) (Jt jd)))) (ji' 6 Qd.nd)
   (jb (jo' 8 Qd.nd (jt JX (jt qS (pv 6) jd) (jh jr (jJ (ja jd (ja (jt YR jd jd) jc))) (jt JX (pv 6) jd))))
   (jg (jL (jk kc (ZM (pv 1) T.QL T.Zk (qa.mono nofun) hr T.ZU .nil pass0 (ja (jt jI (jt jI jv (jW qj (by rfl) T.Y6 Zd (ja (pv 8) jc))) (pv 4)) jc)) (js T.kR ZX hr (ja (pv 2) (ja (pv 8) jc))) (nomark _))
    (jg (ju j1K))
    jw))))
  (jg (ju j1K)))))))),?_⟩
 refine jn (Z':=[some _,none,none,none,none,none,none,none,none]) rfl ?_
 try dsimp only[cxOf,Cx.nox]
 have sz:(20000:Nat)<sizeLine:=by decide
 ac_nf;intro z aj a2 Y aC;refine⟨z,aj,rfl,jm,λD H1 k1 a7 D1=>⟨rfl,?_⟩⟩;have s1:Same H H1:=λc u h=>k1 _ _ (jf h a2) ((je (jf h a2)).trans ((je (jf h Y)).trans h))
 have a8:H D=none:=none_of (λc u h=>(je (jf h a2)).trans ((je (jf h Y)).trans h)) a7;clear k1 a7;exists⟨vB _,?_⟩;walk_at"f sp hsp H2 s2 t2";exists⟨vB _,?_⟩;walk_at"f wp hwp H3 s3 t3";have ac:=s1.trans (s2.trans s3);have L0:LW t.Jf H3 z D sp wp [] [] [] [] [] [] []:=⟨((D1.same s2).same s3).o,((D1.same s2).same s3).b,s3 _ _ t2,t3,.nil,.nil,(λd h=>nomatch h),rfl,(λi x a h=>nomatch h),jf t2 hwp⟩
 have aq:H wp=none:=none_of (s1.trans s2) hwp;have ao:H sp=none:=none_of s1 hsp;have m1:∀{c u},H c=some u->c≠sp:=λh=>jf h ao
 have m2:∀{c u},H c=some u->c≠wp:=λh=>jf h aq
 have m3:∀{c u},H c=some u->c≠D:=λh=>jf h a8
 exists⟨a,o,_,rfl,ac.seq hS,J,⋯,?_⟩;have r0:=vd (Pr.cell o 5) (show(2:Int)≠0 by decide);have r1:=ve (Pr.cell o 5) (show(0:Int)<2 by decide);exists⟨_,rfl,⋯,⋯,?_⟩;have hn:(2+Pr.cell o 5%2).toNat=2\/(2+Pr.cell o 5%2).toNat=3:=⋯
 generalize(2+Pr.cell o 5%2).toNat=n at hn|-;clear r0 r1;refine YE (λi σ C=>IvE7 λ(Z o6 O:N7) (X:List (Key×V)) (I l:N2) (g:List Mb)=>IvA5 (σ=[some (.ref a),some (.ref z),some (.ref sp),some (.ref wp),some (.str (tlR ((nL7.take i).zip (g.map (·.x))))),Z,o6,O,none]) (Same H C) (LW t.Jf C z D sp wp X (l.map V.ref) (g.map λd=>V.str d.x) (nL7.take i) I l g) (X.length<=i) (g.length=i/\(tlR ((nL7.take i).zip (g.map (·.x)))).length<=300*i))
  ⟨_,_,_,[],[],[],[],rfl,ac,L0,vA _,rfl,by trivial⟩ ?_ ?_
 .rintro i σ H4 hi ⟨Z,o6,O,X,I,l,g,rfl,sm,L,bl,dl,rl⟩;have i3:i<3:=⋯
  rw[ux];exists⟨a,o,_,rfl,sm.seq hS,J,⋯,?_⟩;exists⟨λZ' C=>∃(c:Int),Z'=[some (.ref a),some (.ref z),some (.ref sp),some (.ref wp),some (.str (tlR ((nL7.take i).zip (g.map (·.x))))),some (.int (i:Nat)),some (.int c),O,none]/\H4=C,?_,?_⟩
  rotate_left
  .exists iteD (λ_=>?_) (λ_=>?_)
   .have c0:=vd (Pr.cell o (6+(i:Int))) (show(10^9:Int)≠0 by decide);have c1:=ve (Pr.cell o (6+(i:Int))) (show(0:Int)<10^9 by decide);exists j6c ?_;exists j6c ?_;ac_nf;exact⟨_,rfl,rfl⟩
   .ac_nf;exact⟨_,rfl,rfl⟩
  rintro Z' C ⟨c,rfl,rfl⟩;let⟨x,hx,a9,xw,xW,xn⟩:=j40 i3;let⟨m,hm,N,m6⟩:=j76 i3;let⟨y,hy,yw⟩:=j7i (Pr.cell o (2+(i:Int)));have B:=b7 (c:=c) N m6;let⟨d,M⟩:=mb7 B yw;have k:=D7.of B M yw;obtain rfl:y=d.x:=M.x.symm;have xl:=xw.n;have yl:=yw.ok.2.1;have aA:=k.g.L1;have kL:=k.L;exists⟨ud,?_⟩;sleep 5;exists ixLm (SqL.of t5) (hx) ?_;ac_nf;let⟨dx,od⟩:=(L.same s5).o;refine⟨z,dx,_,rfl,od,kF (by trivial),?_⟩;exists⟨ud,?_⟩;sleep 6;exists ixLm (SqL.of t6) (hm) ?_;exists⟨c,m,rfl,N,m6,λH7 s7=>?_⟩;have a3:=s5.trans (s6.trans s7);have L7:=L.same a3;clear t5 t6 hp5 hp6 hx hm od;exists⟨z,D,X,x,_,ls7,_,_,hs7,rfl,L7.desk,⋯,xW,XL N m6,rd7 N m6,(sn7 B).s,λb pl pp aB aD H8 k8 D8 aa ab B8=>?_⟩;rw[<-M.ls,<-M.ps]at B8;let⟨L8,q8⟩:=L7.put xn k8 D8 aa ab B8;have af:Same H H8:=λe u h=>k8 _ _ (m3 h) (a3 _ _ (sm _ _ h))
  clear k8 D8 aa ab B8 L7 L a3 s5 s6 s7 sm;have U:valV (putK X (Sum.inr x) (.ref b)) (Sum.inr x)=some (.ref b):=by rw[XZ,vc rfl]
  have a5:(putK X (Sum.inr x) (.ref b)).length<=i+1:=by
   unfold putK;split
   .rw[vt];lia
   .rw[vm];exact Nat.succ_le_succ bl
  generalize putK X (Sum.inr x) (.ref b)=bs' at L8 U a5;exists⟨.inl ⟨rfl,_,SqL.of L8.w⟩,?_⟩;exists⟨ue,?_⟩;sleep 9;have a4:=af.trans s9;exists⟨a,o,_,rfl,a4.seq hS,J,⋯,?_⟩;exists ixLm (SqL.of t9) (hy) ?_;have W:=L8.same s9;have q9:BkQ sp wp D H9 b d:=q8.keep (λ_ _ h=>s9 _ _ h) (λ_ _ _ _ _ h=>s9 _ _ h);exists⟨wp,_,_,rfl,rfl,W.w,by rw[vt];lia,?_⟩;have f:=W.word (wv':=(g.map λd=>V.str d.x)++[.str d.x]);have R:BkQ sp wp D (upd H9 wp (.lst ((g.map λd=>V.str d.x)++[.str d.x]))) b d:=q9.keep (λ_ _ h=>(je (JE h W.w (λe=>by cases e))).trans h) (λ_ _ _ h _ h'=>(je h).trans h');have a0:Same H (upd H9 wp (.lst ((g.map λd=>V.str d.x)++[.str d.x]))):=λe u h=>(je (m2 h)).trans (a4 _ _ h)
  generalize upd H9 wp (.lst ((g.map λd=>V.str d.x)++[.str d.x]))=ag at f R a0|-;clear L8 q8 W q9 s9 t9 hp9 af a4;have wi:atI ((g.map λd=>V.str d.x)++[.str d.x]) (i:Int)=some (.str d.x):=jM (by rw[vE (by rw[vt];lia),vt,dl,Nat.sub_self];rfl);have l1:(Str.ofString " ").length=1:=by trivial
  have l7:(Str.ofString "length ").length=7:=by trivial
  exists⟨_,_,rfl,rfl,⋯,?_⟩;exists⟨_,_,rfl,rfl,by rw[Str.length_append];lia,?_⟩;exists⟨_,_,rfl,rfl,by rw[Str.length_append,Str.length_append];lia,?_⟩;exists ixLm (SqL.of f.w) (wi) ?_;refine⟨_,_,rfl,rfl,by rw[Str.length_append,Str.length_append,Str.length_append];lia,?_⟩;exists⟨.inl ⟨rfl,_,SqL.of f.s⟩,?_⟩;ac_nf;let⟨ak,as⟩:=f.o;refine⟨z,ak,_,rfl,as,kF (by trivial),?_⟩;exists⟨_,_,rfl,rfl,⋯,?_⟩;exists j5P f.desk xw U R.a k.g λaw S=>?_
  let⟨ar,az⟩:=int48 (n:=d.L) ⋯ kL;exists⟨_,_,rfl,ar,⋯,?_⟩;exists ixLm (SqL.of (S _ _ f.w)) (wi) ?_;ac_nf;have F:=f.same S;refine⟨z,D,b,bs',x,d,rfl,F.desk,xw,U,BkA.same S R.a,k,λs a1 ae r al=>?_⟩;have p:=S.trans ae;have G:=F.same ae;have au:BkQ sp wp D a1 b d:=R.keep (λ_ _ h=>p _ _ h) (λ_ _ _ _ _ h=>p _ _ h);have n1:s≠sp:=λe=>by rw[e,F.s]at r;cases r
  have n2:s≠wp:=λe=>by rw[e,F.w]at r;cases r
  exists⟨sp,_,_,rfl,rfl,G.s,by rw[vt];have:=G.sn.1;lia,?_⟩;have ah:=G.seen (sv':=l.map V.ref++[.ref s]);have av:BkQ sp wp D (upd a1 sp (.lst (l.map V.ref++[.ref s]))) b d:=au.keep (λ_ _ h=>(je (JE h G.s (λe=>by cases e))).trans h) (λ_ _ h _ _ h'=>(je h).trans h');have am:upd a1 sp (.lst (l.map V.ref++[.ref s])) s=some (.lst ((seenL d).map V.bl)):=(je n1).trans al;have ai:=ah.snoc av am n1 n2 k U;have zp:(nL7.take (i+1)).zip ((g++[d]).map (·.x))=(nL7.take i).zip (g.map (·.x))++[(x,d.x)]:=by
   rw[take_snoc a9,vi,List.zip_append]
   .rfl
   .rw[vh,vt];have:nL7.length=3:=rfl;lia
  refine⟨some (.int (i:Nat)),some (.int c),some (.str x),bs',I++[b],l++[s],g++[d],?_,λe u h=>(je (m1 h)).trans (p _ _ (a0 _ _ h)),?_,a5,by rw[vm,dl];rfl,?_⟩
  .rw[zp,XW]
  .rw[take_snoc a9,vi,vi];exact ai
  .rw[zp,XW,Str.length_append,Str.length_append,Str.length_append,Str.length_append];show _+_+x.length+_+d.x.length<=_;lia
 rintro Z' H4 ⟨Z,o6,O,X,I,l,g,rfl,sm,L,bl,dl,rl⟩;exists⟨uf,?_⟩;sleep 5;exists⟨a,_,rfl,(sm.trans s5).seq hS,?_⟩;sleep 6;ac_nf;have cl:(cutV (o.map V.int) (some 12) (some 16)).length<=63:=vX (Ze _ _ _) (by rw[vt];exact J);refine⟨p5,p6,_,_,rfl,rfl,s6 _ _ t5,t6,(by show 1+_<=sizeLine;lia),λp7 an=>?_⟩;have s7:Same H6 (upd H6 p7 (.lst ([V.int 0]++cutV (o.map V.int) (some 12) (some 16)))):=λe u h=>(je (jf h an)).trans h
 have t7:upd H6 p7 (.lst ([V.int 0]++cutV (o.map V.int) (some 12) (some 16))) p7=some (.lst ([V.int 0]++cutV (o.map V.int) (some 12) (some 16))):=jm;generalize upd H6 p7 (.lst ([V.int 0]++cutV (o.map V.int) (some 12) (some 16)))=H7 at s7 t7|-;have L7:=L.same (s5.trans (s6.trans s7));have a6:g.length=2\/g.length=3:=⋯
 have nw:∀x∈nL7.take n,WdOk x:=λx hx=>by
  let⟨j,hj⟩:=List.getElem?_of_mem (mem_of_mem_take hx);have h3:j<3:=(vx.mp hj).1;let⟨y,_,hy,yw,_⟩:=j40 h3;rw[hj]at hy;cases hy;exact yw
 generalize nL7.take n=nms at L7 rl nw;refine⟨p7,rfl,⟨_,SqL.of t7⟩,?_⟩;refine j9 (xs:=[V.int 0]++cutV (o.map V.int) (some 12) (some 16)) (λ_ σ C=>IvE4 λ(Z o6 O o8:N7)=>σ=[some (.ref a),some (.ref z),some (.ref sp),some (.ref wp),some (.str (tlR (nms.zip (g.map (·.x))))),Z,o6,O,o8]/\Same H7 C) ⟨_,_,_,_,rfl,Same.refl _⟩ ?_ ?_ ?_
 .rintro i σ C _ ⟨Z,o6,O,o8,rfl,s8⟩;exact SqL.of (s8 _ _ t7)
 .rintro i v σ C hv ⟨Z,o6,O,o8,rfl,s8⟩;obtain⟨c,rfl⟩:∃c,v = .int c:=by
   rcases vg.mp (vj hv)with h | h
   .exact⟨0,vo.mp h⟩
   .let⟨c,_,e⟩:=Pr.j5t h;exact⟨c,e⟩
  have L8:=L7.same s8;obtain⟨m,hm,ax,ay⟩:∃m:Int,atI [V.int 100,V.int (10^30)] (c%2)=some (.int m)/\1<=m/\m<=10^30:=by
   rcases(show c%2=0\/c%2=1 by lia)with e | e<;>rw[e]
   .exact⟨_,rfl,by decide,by decide⟩
   .exact⟨_,rfl,by decide,by decide⟩
  exists⟨ue,?_⟩;sleep 9;have W:=L8.same s9;exists ixLm (SqL.of t9) (hm) ?_;have b0:=vd (c/2) (show m≠0 by lia);have b1:=ve (c/2) (show 0<m by lia);refine⟨_,_,rfl,rfl,⋯,?_⟩;dsimp only;generalize c/2%m=bt at b0 b1|-;have tw:=KC (n:=bt) b0 ⋯;have tl:=tw.n;have l5:(Str.ofString "meet ").length=5:=by trivial
  let⟨dx,od⟩:=W.o;exists⟨z,dx,_,rfl,od,kF (by trivial),?_⟩;exists .inl ⟨_,rfl,j0u b0 ⋯,?_⟩;refine⟨_,_,rfl,rfl,?_,?_⟩
  .show _+(tI bt).length<=_;lia
  exists⟨_,_,rfl,rfl,?_,?_⟩
  .rw[Str.length_append,l5];show _+(tI bt).length+_<=_;lia
  exists W.meet a6 nw b0 ⋯ λv ag ad M=>?_
  have f:=W.same ad;exists⟨sp,bt,l,g,rfl,f.s,All2.mono f.sn λa d h=>h.1,a6,f.k,b0,⋯,λv' ap=>?_⟩;have e:=LsR.one (MeetR.ls M) ap;subst e;exists iteB0 (by rw[vI rfl];rfl) ?_;ac_nf;exact⟨_,_,_,_,rfl,s8.trans (s9.trans ad)⟩
 .rintro σ C ⟨Z,o6,O,o8,rfl,s8⟩;ac_nf;exact q _
def j53(T:Txt K mg t):12<*t.j3k t.j1k ["_law_script"] (Pr.sp_law K):=by
 have S:1<*t.Jj t.JD _ _:=YM T;have j:1<*t.qO t.qR _ _:=W1 T;have a:=j0F T j;have c:1<*t.JA t.JB _ _:=wk T;have k:=W5 T j;have g:=j0D T k;have I:=XE T a g;have zh:1<*t.Qg t.Qi _ _:=wj T;have x:=j0E T I zh;have z:=j0I T a x;have B:=Xz T a g;have e:=j5F T c z B;have C:1<*t.zm t.zu _ _:=XA T;have d:=j48 T c C;have f:=j5E T c d;have u:=j49 T f;have zg:1<*t.Qf t.Qh _ _:=wg T;have zY:1<*t.QH t.QP _ _:=W4 T;have b:=j0G T d u zg zY;have J:=Xu T a e b;have zi:=wo T b;have zZ:1<*t.QI t.QQ _ _:=W6 T;have l:=W7 T d zZ;have X:=yQ T c f b l;have D:1<*t.zn t.zw _ _:=XB T;have q:=j2R T D;have r:=KE T q;have R:=yR T r;have v:=j4a T X R;have p:1<*t.yD t.yK _ _:=j2Q T;have O:=W8 T v p;have m:=zN T b l;have o:1<*t.yB t.yI _ _:=j2P T;have zf:=we T o;have zX:1<*t.QG t.QO _ _:=W3 T;have G:=XD T zX;have y:=j0H T m zf G;have W:1<*t.J0 t.J2 _ _:=YQ T;have F:=XC T y W;have N:1<*t.zl t.zt _ _:=Xy T;have M:=Xx T k N;have i:=Xv T zi O F M;have n:1<*t.qu t.qw _ _:=ku T;have Z:1<*t.QF t.QN _ _:=W0 T;have Y:=WZ T i;have U:1<*t.JZ t.J1 _ _:=YO T;have L:=Xw T U;exact j6F T S J i n Z Y L
end
@[elab_as_elim] theorem uu1{P:N4->Prop}(us:N4)(hl:us.length=1)(h:∀a0,P [a0]):P us:=match us,hl with | [a0],_=>h a0
def bb1{K:Frg}{x q:Str}{st:Stmt}{f:Addr}{l:FuncData}{m:Str}(F:Fun K x q st f l)(h:∀(kV j r:Value) (n:Option Addr) (i o:Value) (k:Value),bindArgs (W.fnOf x q (defArgs st) (defBody st) (defScope st) .none kV j r n i o) ⟨[k],[]⟩=pure ([m].zip [k]):=by intros;rfl):Binds K l [m] []:=F.binds λa b c d e g s p=>uu1 s p (h a b c d e g)
@[elab_as_elim] theorem uu2{P:N4->Prop}(us:N4)(hl:us.length=2)(h:∀a0 a1,P [a0,a1]):P us:=match us,hl with | [a0,a1],_=>h a0 a1
def bb2{K:Frg}{x q:Str}{st:Stmt}{f:Addr}{m:FuncData}{n o:Str}(F:Fun K x q st f m)(h:∀(kV j t:Value) (p:Option Addr) (i r:Value) (k l:Value),bindArgs (W.fnOf x q (defArgs st) (defBody st) (defScope st) .none kV j t p i r) ⟨[k,l],[]⟩=pure ([n,o].zip [k,l]):=by intros;rfl):Binds K m [n,o] []:=F.binds λa b c d e g u s=>uu2 u s (h a b c d e g)
@[elab_as_elim] theorem uu3{P:N4->Prop}(us:N4)(hl:us.length=3)(h:∀a0 a1 a2,P [a0,a1,a2]):P us:=match us,hl with | [a0,a1,a2],_=>h a0 a1 a2
def bb3{K:Frg}{x q:Str}{st:Stmt}{f:Addr}{n:FuncData}{o p r:Str}(F:Fun K x q st f n)(h:∀(kV j v:Value) (s:Option Addr) (i t:Value) (k l m:Value),bindArgs (W.fnOf x q (defArgs st) (defBody st) (defScope st) .none kV j v s i t) ⟨[k,l,m],[]⟩=pure ([o,p,r].zip [k,l,m]):=by intros;rfl):Binds K n [o,p,r] []:=F.binds λa b c d e g w u=>uu3 w u (h a b c d e g)
@[elab_as_elim] theorem uu4{P:N4->Prop}(us:N4)(hl:us.length=4)(h:∀a0 a1 a2 a3,P [a0,a1,a2,a3]):P us:=match us,hl with | [a0,a1,a2,a3],_=>h a0 a1 a2 a3
def bb4{K:Frg}{x q:Str}{st:Stmt}{f:Addr}{o:FuncData}{p r s t:Str}(F:Fun K x q st f o)(h:∀(kV j y:Value) (u:Option Addr) (i v:Value) (k l m n:Value),bindArgs (W.fnOf x q (defArgs st) (defBody st) (defScope st) .none kV j y u i v) ⟨[k,l,m,n],[]⟩=pure ([p,r,s,t].zip [k,l,m,n]):=by intros;rfl):Binds K o [p,r,s,t] []:=F.binds λa b c d e g z w=>uu4 z w (h a b c d e g)
abbrev Ng(K:Frg)(x:Str)(f:Addr):Prop:=W.nsIn K mainGlobals x=some (some (.ref f))
abbrev N0(K:Frg)(x:Str):Prop:=W.nsIn K mainGlobals x=some none
abbrev Nn(K:Frg)(C:Addr)(x:Str):Prop:=W.findIn K (.ref C) x=some none
abbrev Nx(K:Frg)(C:Addr)(x:Str)(f:Addr):Prop:=W.findIn K (.ref C) x=some (some (.ref f))
abbrev Fn1(K:Frg)(x:Str)(st:Stmt)(f:Addr)(d:FuncData):Prop:=Fun K x x st f d
set_option autoImplicit true in
def j72{K:Frg}{h:Heap}{mg:Str->Option Value}(X:K.In h)(G:h.Ns mainGlobals mg)
  {c:Addr}
  (D:Ng K "Desk" c) (J:W.plainGet K c Str.empty=true) (F:W.hasDictIn K c=true) (L:W.plainOver K c=true) (N:W.findIn K (.ref c) "__setattr__"= some (some (.builtin "object.__setattr__"))) (I:W.makesIn K c=true) (H:W.keepIn K (.ref c)=true) (JP:Nn K c "books")
  {b:Addr}
  (u:Ng K "Stage" b) (A:W.plainGet K b Str.empty=true) (w:W.hasDictIn K b=true) (B:W.plainOver K b=true) (C:W.findIn K (.ref b) "__setattr__"= some (some (.builtin "object.__setattr__"))) (z:W.makesIn K b=true) (y:W.keepIn K (.ref b)=true) (QZ:Nn K b "limbs") (qL:Nn K b "first") (qM:Nn K b "forms") (j6:Nn K b "sizes") (Qj:Nn K b "left") (qx:Nn K b "pieces")
  {a:Addr}
  (i:Ng K "RingTally" a) (n:W.plainGet K a Str.empty=true) (k:W.hasDictIn K a=true) (o:W.plainOver K a=true) (p:W.findIn K (.ref a) "__setattr__"= some (some (.builtin "object.__setattr__"))) (m:W.makesIn K a=true) (l:W.keepIn K (.ref a)=true) (jP:Nn K a "sizes") (JQ:Nn K a "last") (Ja:Nn K a "pieces") (jE:Nn K a "wholes")
  (a1:Ng K "all_among" f1) (F1:Fn1 K "all_among" QT f1 d1)
  (a2:Ng K "is_word" f2) (F2:Fn1 K "is_word" YU f2 d2)
  {c4 bO:Option Addr} {c7:Array (Option Value)} {c2 bZ bR c6 aU bQ:Value} {f3:Addr} {T3:Addr} {c5:Value} {b5:Option Addr} {b3:Array (Option Value)} {n3:Nat} {P:Tok}
  (a3:Ng K "number_of" f3) (l3:K.lookup f3=some ⟨c2,c4,.func (W.fnOf "number_of" "number_of" (defArgs qo) (defBody qo) (defScope qo) (.ref T3) bZ bR c6 bO aU bQ),c7⟩) (c3:W.codeIn K aU "number_of"= true) (k3:W.keepIn K (.ref f3)=true) (t3:K.lookup T3=some ⟨c5,b5,.seq #[.int 80 P] n3,b3⟩)
  (a4:Ng K "numbers_of" f4) (F4:Fn1 K "numbers_of" zE f4 d4)
  (a5:Ng K "names_in" f5) (F5:Fn1 K "names_in" yt f5 d5)
  (a6:Ng K "bounded" f6) (F6:Fn1 K "bounded" YT f6 d6)
  (a7:Ng K "value_of" f7) (F7:Fn1 K "value_of" yx f7 d7)
  (a8:Ng K "names_form" f8) (F8:Fn1 K "names_form" Qm f8 d8)
  (a9:Ng K "form_of" f9) (F9:Fn1 K "form_of" ZQ f9 d9)
  (b9:Ng K "part_of" f10) (ai:Fn1 K "part_of" YV f10 d10)
  (ba:Ng K "limbs_of" f11) (aj:Fn1 K "limbs_of" QC f11 d11)
  (bb:Ng K "read" f12) (ak:Fn1 K "read" j0Z f12 d12)
  (bc:Ng K "inner" f13) (al:Fn1 K "inner" kN f13 d13)
  (bd:Ng K "ends" f14) (am:Fn1 K "ends" j0X f14 d14)
  (be:Ng K "moved" f15) (an:Fn1 K "moved" kO f15 d15)
  (bf:Ng K "check_side" f16) (ao:Fn1 K "check_side" Ql f16 d16)
  (bg:Ng K "length_of" f17) (ap:Fn1 K "length_of" Zq f17 d17)
  (bh:Ng K "lengths" f18) (aq:Fn1 K "lengths" za f18 d18)
  (bi:Ng K "ramp" f19) (ar:Fn1 K "ramp" j0Y f19 d19)
  (bj:Ng K "pieces_in" f20) (as:Fn1 K "pieces_in" Zr f20 d20)
  (bk:Ng K "pieces_of" f21) (au:Fn1 K "pieces_of" QU f21 d21)
  (bm:Ng K "progress" f22) (av:Fn1 K "progress" yu f22 d22)
  (aQ:Nx K a "__init__" f23) (aX:W.isFn K (.ref f23)=true) (U:Fun K "__init__" "RingTally.__init__" Jn f23 d23)
  (bn:Nx K a "ahead" f24) (bS:W.isFn K (.ref f24)=true) (Y:Fun K "ahead" "RingTally.ahead" qy f24 d24)
  (bo:Ng K "within" f25) (aw:Fn1 K "within" KN f25 d25)
  (aR:Nx K b "__init__" f26) (aY:W.isFn K (.ref f26)=true) (Z:Fun K "__init__" "Stage.__init__" Jw f26 d26)
  (bp:Nx K b "scene" f27) (bT:W.isFn K (.ref f27)=true) (a0:Fun K "scene" "Stage.scene" Q1 f27 d27)
  (bq:Nx K b "heights_at" f28) (bU:W.isFn K (.ref f28)=true) (aa:Fun K "heights_at" "Stage.heights_at" qe f28 d28)
  (br:Nx K b "words_at" f29) (bV:W.isFn K (.ref f29)=true) (ab:Fun K "words_at" "Stage.words_at" qG f29 d29)
  (bs:Ng K "rings" f30) (ax:Fn1 K "rings" xq f30 d30)
  (bt:Ng K "begins" f31) (ay:Fn1 K "begins" yZ f31 d31)
  (bu:Ng K "beats_rung" f32) (az:Fn1 K "beats_rung" Qk f32 d32)
  (bv:Ng K "common_of" f33) (aA:Fn1 K "common_of" Zp f33 d33)
  (bw:Ng K "together" f34) (aB:Fn1 K "together" zG f34 d34)
  {b2 aT:Option Addr} {b8:Array (Option Value)} {b1 b0 aW b6 T aV:Value} {Q:Addr} {af:Addr} {b4:Value} {ah:Option Addr} {ag:Array (Option Value)} {c1:Nat} {S:Tok}
  (bx:Ng K "meeting" Q) (c0:K.lookup Q=some ⟨b1,b2,.func (W.fnOf "meeting" "meeting" (defArgs JS) (defBody JS) (defScope JS) (.ref af) b0 aW b6 aT T aV),b8⟩) (bP:W.codeIn K T "meeting"= true) (bY:W.keepIn K (.ref Q)=true) (c8:K.lookup af=some ⟨b4,ah,.seq #[.int 0 S] c1,ag⟩)
  (bz:Ng K "listed" f36) (aD:Fn1 K "listed" y8 f36 d36)
  (bA:Ng K "beat_or_never" f37) (aE:Fn1 K "beat_or_never" Qc f37 d37)
  (bB:Ng K "say_length" f38) (aF:Fn1 K "say_length" zF f38 d38)
  (bC:Ng K "say_rings" f39) (aG:Fn1 K "say_rings" Zs f39 d39)
  (bD:Ng K "say_meet" f40) (aH:Fn1 K "say_meet" yv f40 d40)
  (bE:Ng K "kinds_of" f41) (aI:Fn1 K "kinds_of" yr f41 d41)
  (bF:Ng K "asked_in" f42) (aJ:Fn1 K "asked_in" zD f42 d42)
  (aS:Nx K c "__init__" f43) (aZ:W.isFn K (.ref f43)=true) (ac:Fun K "__init__" "Desk.__init__" Qa f43 d43)
  (bG:Nx K c "put" f44) (bW:W.isFn K (.ref f44)=true) (ad:Fun K "put" "Desk.put" yp f44 d44)
  (bH:Nx K c "say" f45) (bX:W.isFn K (.ref f45)=true) (ae:Fun K "say" "Desk.say" zC f45 d45)
  (bI:Ng K "_law_cell_at" f46) (aK:Fn1 K "_law_cell_at" QB f46 d46)
  (bJ:Ng K "_law_text" f47) (aL:Fn1 K "_law_text" Zo f47 d47)
  (bK:Ng K "_law_seen" f48) (aM:Fn1 K "_law_seen" QS f48 d48)
  (bL:Ng K "_law_multiple" f49) (aN:Fn1 K "_law_multiple" Qb f49 d49)
  (bM:Ng K "_law_due" f50) (aO:Fn1 K "_law_due" yq f50 d50)
  (bN:Ng K "law" f51) (aP:Fn1 K "law" j4w f51 d51)
  {Jx:Addr}
  (r:Ng K "ANSWERS" Jx) (kk_ANSWERS:FTab K Jx [("length",some f38),("stand",none),("rings",some f39),("sum",none),("at",none),("rung",none),("when",none),("first",none),("jump",none),("drums",none),("back",none),("ever",none),("meet",some f40)])
  {Jy:Addr}
  (g:Ng K "FEWEST_NAMES" Jy) (kk_FEWEST_NAMES:TabK K Jy [("row",.flat (.int 1)),("side",.flat (.int 2))])
  {d:Tok}
  (f:W.nsIn K mainGlobals "FIGURES_words"= some (some (.str "0123456789" d)))
  {QW:Addr}
  (E:Ng K "FORMS" QW) (kk_FORMS:TabK K QW [("raise",.tup [.str "limb",.str "height",.str "beats"]),("hold",.tup [.str "beats"]),("ring",.tup [.str "word",.str "beats"]),("again",.tup [.str "times",.str "part"])])
  {q:Tok}
  (s:W.nsIn K mainGlobals "LETTERS"= some (some (.str "abcdefghijklmnopqrstuvwxyz" q)))
  {Jp:Addr}
  (j:Ng K "MOST_NAMES" Jp) (kk_MOST_NAMES:TabK K Jp [("row",.flat (.int 8)),("side",.flat (.int 4))])
  {Zx:Addr}
  (R:Ng K "ROWS" Zx) (kk_ROWS:TabK K Zx [("length",.tup [.str "name"]),("stand",.tup [.str "name",.str "number"]),("rings",.tup [.str "name",.str "number"]),("sum",.tup [.str "name",.str "limb",.str "number"]),("at",.tup [.str "name",.str "limb",.str "number",.str "number"]),("rung",.tup [.str "name",.str "word",.str "number"]),("when",.tup [.str "name",.str "word",.str "number"]),("first",.tup [.str "name",.str "limb",.str "number",.str "number"]),("jump",.tup [.str "name",.str "number"]),("drums",.tup [.str "name"]),("back",.tup [.str "name"]),("ever",.tup [.str "name",.str "number"])])
  (z0:N0 K "all") (z1:N0 K "any") (z2:N0 K "dict") (z3:N0 K "enumerate") (z4:N0 K "int") (z5:N0 K "len") (z6:N0 K "list") (z7:N0 K "max") (z8:N0 K "min") (z9:N0 K "range") (c9:N0 K "set") (ca:N0 K "sorted") (cb:N0 K "str") (cc:N0 K "sum") (cd:N0 K "tuple") (ce:N0 K "zip") :
  ∃t:Ad,Txt K mg t:=by
 have F3:=j1r (st:=qo) l3 c3 k3;have aC:=j1r (st:=JS) c0 bP bY;have M:∀{x v},W.nsIn K mainGlobals x=some (some v)->mg x=some v:=λe=>W.mg_of X G e
 have O:∀{x},N0 K x->mg x=none:=λe=>W.mg_none_of X G e
 exact⟨⟨f1,_,f2,_,f3,_,T3,f4,_,f5,_,f6,_,f7,_,f8,_,f9,_,f10,_,f11,_,f12,_,f13,_,f14,_,f15,_,f16,_,f17,_,f18,_,f19,_,f20,_,f21,_,f22,_,f23,_,f24,_,f25,_,f26,_,f27,_,f28,_,f29,_,f30,_,f31,_,f32,_,f33,_,f34,_,Q,_,af,f36,_,f37,_,f38,_,f39,_,f40,_,f41,_,f42,_,f43,_,f44,_,f45,_,f46,_,f47,_,f48,_,f49,_,f50,_,f51,_,a,b,c,_,_,_,_,_,_,_⟩,⟨⟨F1,M a1,bb2 F1⟩,⟨F2,M a2,bb1 F2⟩,F3,M a3,(FunD.binds (ps:=["text","most"]) (ds:=[]) 2 F3 t3 rfl rfl λ_ _ _ _ _ _ us hl=>match us,hl with | [_,_],_=>⟨_,rfl,rfl⟩),⟨[.int 80 P],(FunD.binds (ps:=["text","most"]) 1 F3 t3 rfl rfl λ_ _ _ _ _ _ us hl=>match us,hl with | [_],_=>⟨_,rfl,rfl⟩),(.cons ⟨_,rfl⟩ .nil)⟩,⟨F4,M a4,bb1 F4⟩,⟨F5,M a5,bb1 F5⟩,⟨F6,M a6,bb2 F6⟩,⟨F7,M a7,bb4 F7⟩,⟨F8,M a8,bb3 F8⟩,⟨F9,M a9,bb4 F9⟩,⟨ai,M b9,bb3 ai⟩,⟨aj,M ba,bb1 aj⟩,⟨ak,M bb,bb1 ak⟩,⟨al,M bc,bb1 al⟩,⟨am,M bd,bb1 am⟩,⟨an,M be,bb1 an⟩,⟨ao,M bf,bb3 ao⟩,⟨ap,M bg,bb2 ap⟩,⟨aq,M bh,bb1 aq⟩,⟨ar,M bi,bb4 ar⟩,⟨as,M bj,bb3 as⟩,⟨au,M bk,bb2 au⟩,⟨av,M bm,bb3 av⟩,U,⟨aQ,aX,U.kp⟩,bb3 U,Y,⟨bn,bS,Y.kp⟩,bb2 Y,⟨aw,M bo,bb3 aw⟩,Z,⟨aR,aY,Z.kp⟩,bb2 Z,a0,⟨bp,bT,a0.kp⟩,bb2 a0,aa,⟨bq,bU,aa.kp⟩,bb2 aa,ab,⟨br,bV,ab.kp⟩,bb2 ab,⟨ax,M bs,bb2 ax⟩,⟨ay,M bt,bb3 ay⟩,⟨az,M bu,bb1 az⟩,⟨aA,M bv,bb2 aA⟩,⟨aB,M bw,bb2 aB⟩,aC,M bx,(FunD.binds (ps:=["books","words","beat"]) (ds:=[]) 3 aC c8 rfl rfl λ_ _ _ _ _ _ us hl=>match us,hl with | [_,_,_],_=>⟨_,rfl,rfl⟩),⟨aD,M bz,bb1 aD⟩,⟨aE,M bA,bb1 aE⟩,⟨aF,M bB,bb1 aF⟩,⟨aG,M bC,bb1 aG⟩,⟨aH,M bD,bb1 aH⟩,⟨aI,M bE,bb1 aI⟩,⟨aJ,M bF,bb1 aJ⟩,ac,⟨aS,aZ,ac.kp⟩,bb1 ac,ad,⟨bG,bW,ad.kp⟩,bb3 ad,ae,⟨bH,bX,ae.kp⟩,bb2 ae,⟨aK,M bI,bb2 aK⟩,⟨aL,M bJ,bb2 aL⟩,⟨aM,M bK,bb4 aM⟩,⟨aN,M bL,bb2 aN⟩,⟨aO,M bM,bb2 aO⟩,⟨aP,M bN,bb1 aP⟩,⟨n,k,o,p⟩,⟨m,aQ,aX,l⟩,M i,jP,JQ,Ja,jE,⟨A,w,B,C⟩,⟨z,aR,aY,y⟩,M u,QZ,qL,qM,j6,Qj,qx,⟨J,F,L,N⟩,⟨I,aS,aZ,H⟩,M D,JP,O z0,O z1,O z2,O z3,O z4,O z5,O z6,O z7,O z8,O z9,O c9,O ca,O cb,O cc,O cd,O ce,M r,kk_ANSWERS,M g,kk_FEWEST_NAMES,M f,⟨_,rfl⟩,M E,kk_FORMS,M s,⟨_,rfl⟩,M j,kk_MOST_NAMES,M R,kk_ROWS⟩⟩
end K57
open PySem PySem.W PyProof.Rows
set_option maxRecDepth 100000 in
set_option maxHeartbeats 0 in
theorem PySem.Challenge.cw_camplay_k57_whole_meet_by_text_holds : PySem.Challenge.rw_camplay_k57_whole_meet_by_text.Holds := by
 w_on;o_law;k_head;(case hw=>w_witness2)
 k_fill
 refine L2.j4Y (l:=PySem.Challenge.rw_camplay_k57_whole_meet_by_text) (n:=63) (k:=12) (x:="_law_script") (CX:=L2.CX0) (sp:=Pr.sp_law) rfl nofun rfl ⟨rfl,by decide,by decide⟩ (λw h Y=>PySem.W.kIn_of Y) ?F (λK H a ns hl hb hO hS=>⟨a,ns,rfl,hS,hl,hb,λ_=>rfl⟩) (λ_ _ _ _ z=>z)
 case F=>
  intro w mg fa h KX G hmg;have TT:∃t:K57.Ad,K57.Txt (L2.KOf KX) mg t:=by
   dsimp only[L2.KOf];refine' K57.j72 KX G ?_ ?_ ?_ ?_ ?_ ?_ ?_ ?_ ?_ ?_ ?_ ?_ ?_ ?_ ?_ ?_ ?_ ?_ ?_ ?_ ?_ ?_ ?_ ?_ ?_ ?_ ?_ ?_ ?_ ?_ ?_ ?_ ?_ (L2.jy ?_ ?_ ?_) ?_ (L2.jy ?_ ?_ ?_) ?_ ?_ ?_ ?_ ?_ ?_ (L2.jy ?_ ?_ ?_) ?_ (L2.jy ?_ ?_ ?_) ?_ (L2.jy ?_ ?_ ?_) ?_ (L2.jy ?_ ?_ ?_) ?_ (L2.jy ?_ ?_ ?_) ?_ (L2.jy ?_ ?_ ?_) ?_ (L2.jy ?_ ?_ ?_) ?_ (L2.jy ?_ ?_ ?_) ?_ (L2.jy ?_ ?_ ?_) ?_ (L2.jy ?_ ?_ ?_) ?_ (L2.jy ?_ ?_ ?_) ?_ (L2.jy ?_ ?_ ?_) ?_ (L2.jy ?_ ?_ ?_) ?_ (L2.jy ?_ ?_ ?_) ?_ (L2.jy ?_ ?_ ?_) ?_ (L2.jy ?_ ?_ ?_) ?_ (L2.jy ?_ ?_ ?_) ?_ (L2.jy ?_ ?_ ?_) ?_ (L2.jy ?_ ?_ ?_) ?_ ?_ (L2.jy ?_ ?_ ?_) ?_ ?_ (L2.jy ?_ ?_ ?_) ?_ (L2.jy ?_ ?_ ?_) ?_ ?_ (L2.jy ?_ ?_ ?_) ?_ ?_ (L2.jy ?_ ?_ ?_) ?_ ?_ (L2.jy ?_ ?_ ?_) ?_ ?_ (L2.jy ?_ ?_ ?_) ?_ (L2.jy ?_ ?_ ?_) ?_ (L2.jy ?_ ?_ ?_) ?_ (L2.jy ?_ ?_ ?_) ?_ (L2.jy ?_ ?_ ?_) ?_ (L2.jy ?_ ?_ ?_) ?_ ?_ ?_ ?_ ?_ ?_ (L2.jy ?_ ?_ ?_) ?_ (L2.jy ?_ ?_ ?_) ?_ (L2.jy ?_ ?_ ?_) ?_ (L2.jy ?_ ?_ ?_) ?_ (L2.jy ?_ ?_ ?_) ?_ (L2.jy ?_ ?_ ?_) ?_ (L2.jy ?_ ?_ ?_) ?_ ?_ (L2.jy ?_ ?_ ?_) ?_ ?_ (L2.jy ?_ ?_ ?_) ?_ ?_ (L2.jy ?_ ?_ ?_) ?_ (L2.jy ?_ ?_ ?_) ?_ (L2.jy ?_ ?_ ?_) ?_ (L2.jy ?_ ?_ ?_) ?_ (L2.jy ?_ ?_ ?_) ?_ (L2.jy ?_ ?_ ?_) ?_ (L2.jy ?_ ?_ ?_) ?_ ?kk_ANSWERS ?_ ?kk_FEWEST_NAMES ?_ ?_ ?kk_FORMS ?_ ?_ ?kk_MOST_NAMES ?_ ?kk_ROWS ?_ ?_ ?_ ?_ ?_ ?_ ?_ ?_ ?_ ?_ ?_ ?_ ?_ ?_ ?_ ?_
   any_goals first | (show PySem.W.nsIn _ _ _=_;k_is) | (show PySem.W.findIn _ _ _=_;k_is) | k_is
   (case kk_ANSWERS=>(show PyProof.Rows.KTD.tabLook _ _ _ _=true);kernel_rfl)
   (case kk_FEWEST_NAMES=>(show PyProof.Rows.KTD.tabLook _ _ _ _=true);kernel_rfl)
   (case kk_FORMS=>(show PyProof.Rows.KTD.tabLook _ _ _ _=true);kernel_rfl)
   (case kk_MOST_NAMES=>(show PyProof.Rows.KTD.tabLook _ _ _ _=true);kernel_rfl)
   (case kk_ROWS=>(show PyProof.Rows.KTD.tabLook _ _ _ _=true);kernel_rfl)
  let⟨t,T⟩:=TT;let⟨_,_,kV,dc,pm,an,cd,ct,_,e,_⟩:=T.j3h.F.ex;have e0:=hmg.symm.trans T.j3h.m;cases e0;refine⟨t.j1k,λs v=>?_,λbase _ _=>K57.j53 T⟩;rw[e];exact .of_eq rfl
#print axioms PySem.Challenge.cw_camplay_k57_whole_meet_by_text_holds
