import PyProof.Rows.All
import Wide.All
import OpenK.AllK
import Wide.FinOn
import Lean
import PyProof.EqAt
import PyProof.EqKinds
import PyProof.TupleCall
import PySem.Challenge.RW_camplay_k25_whole_counts_grow
set_option Elab.async false
set_option linter.all false
set_option compiler.extract_closed false
set_option bootstrap.genMatcherCode false
set_option maxRecDepth 100000
set_option maxHeartbeats 4000000
open List (all_cons all_eq_true any_cons any_eq_true append_nil cons_ne_nil ext_getElem filterMap_cons filterMap_cons_none filterMap_cons_some filter_append filter_cons filter_cons_of_neg filter_cons_of_pos filter_nil flatMap_append flatMap_cons flatMap_nil foldl_append foldl_cons getD_eq_getElem?_getD getElem_map getElem_mem getElem_range getElem_take isEmpty_iff length_cons length_eq_zero_iff length_filter_le length_map length_nil length_pos_iff length_pos_of_mem length_range length_replicate length_set length_singleton length_take lookup_cons map_append map_congr_left map_cons map_map map_nil map_take mem_append mem_append_left mem_append_right mem_cons mem_cons_of_mem mem_cons_self mem_filter mem_filterMap mem_flatMap mem_iff_getElem mem_map mem_of_mem_take mem_range mem_singleton nodup_append nodup_cons nodup_nil nodup_range of_mem_zip pairwise_cons pairwise_iff_getElem pairwise_map pairwise_singleton reverse_cons size_toArray sum_append sum_cons sum_nil take_length take_sublist)
open Lean in
def Ba:Nat->Term->MacroM (TSyntax `rcasesPat)
 | 0,_=>Macro.throwUnsupported
 | n+1,t=>match t with
  | `(⟨$xs,*⟩)=>do let ps<-xs.getElems.mapM λx=>do let p<-Ba n x;`(Parser.Tactic.rcasesPatLo| $p:rcasesPat)
                   `(rcasesPat| ⟨$ps,*⟩)
  | `(_)=>`(rcasesPat| _)
  | `($x:ident)=>`(rcasesPat| $x:ident)
  | _=>Macro.throwUnsupported
local macro_rules | `(tactic| let $p:term:=$e) => do let q<-Ba 9 p;`(tactic| obtain $q:rcasesPat:=$e)
set_option hygiene false
local macro_rules | `(⇑$x) => `(($x).length)
local macro_rules | `(↥$x) => `(some (.ref $x))
local macro_rules | `(~~~$x) => `(some (.int $x))
local macro_rules | `($x∘$y) => `(($x).getD $y 0)
set_option hygiene true
local macro_rules | `(∅) => `(by trivial)
local macro_rules | `(#v[$x]) => `(by simpa using $x)
abbrev Nz:=PySem.Value->PySem.Shared->Prop
abbrev Ny:=List (PySem.Addr×PySem.Obj)
abbrev Nw:=PySem.Str->Option PySem.Value
abbrev Nv:=Option PySem.Value
abbrev Nu:=Option Int
abbrev Nt:=List PySem.Expr
abbrev Nr:=List PySem.Env
abbrev Nq:=List (Int×Int)
local macro_rules | `(tactic| and_intros) => `(tactic| first | exact .inl rfl | exact .inr rfl | assumption)
local macro_rules | `(⋯) => `(by lia)
local macro_rules | `(nofun) => `(by decide)
abbrev vz:=@List.getElem?_eq_getElem
abbrev vy:=@List.getD_eq_getElem?_getD
abbrev vx:=@List.getElem?_eq_some_iff
abbrev vv:=@List.getElem?_map
abbrev vt:=@List.length_map
abbrev vq:=@List.mem_cons_self
abbrev vp:=@List.mem_cons_of_mem
abbrev vo:=@List.mem_singleton
abbrev vn:=@List.length_append
abbrev vm:=@List.mem_of_getElem?
abbrev vj:=@List.map_append
abbrev vi:=@List.length_take
abbrev vh:=@List.mem_append
abbrev vg:=@Option.map_eq_some_iff
abbrev vf:=@Int.emod_lt_of_pos
abbrev ve:=@Int.emod_nonneg
abbrev vd:=@if_pos
abbrev vc:=@if_neg
abbrev vb:=@Nat.le_refl
abbrev va:=@Nat.zero_le
abbrev vA:=@Int.le_refl
abbrev vB:=@List.getElem?_append_left
abbrev vC:=@List.getElem?_append_right
abbrev vD:=@Nat.lt_of_le_of_lt
abbrev vE:=@Nat.ne_of_lt
abbrev vF:=@Bool.false_ne_true
abbrev vG:=@decide_eq_true
abbrev vH:=@decide_eq_false
abbrev vI:=@PySem.Heap.lt_size
abbrev vJ:=@PySem.Heap.get?_push_of_some
abbrev vK:=@List.mem_map
abbrev vL:=@Option.some.inj
abbrev vM:=@Int.mul_nonneg
abbrev vN:=@Nat.ne_of_gt
abbrev vO:=@List.mem_filter
abbrev vP:=@List.length_cons
abbrev vR:=@List.length_singleton
abbrev vT:=@Int.mul_le_mul_of_nonneg_right
abbrev vU:=@List.pairwise_cons
abbrev vV:=@Nat.le_trans
abbrev vX:=@Nat.le_of_lt
abbrev vY:=@Nat.lt_trans
abbrev vZ:=@Int.emod_eq_of_lt
abbrev v2:=@List.mem_range
abbrev v3:=@List.take_length
abbrev v4:=@List.map_map
abbrev v5:=@List.foldl_cons
abbrev v6:=@List.filter_cons
abbrev v7:=@List.map_cons
abbrev v8:=@List.sum_cons
abbrev uz:=@Int.zero_add
abbrev uy:=@Int.add_zero
abbrev uw:=@Int.one_mul
abbrev uv:=@Int.add_mul
abbrev ut:=@List.getElem?_take_of_lt
abbrev ur:=@List.nodup_cons
abbrev uh:=@PySem.wpAny_bind
abbrev ug:=@PySem.wpAny_pure
abbrev uf:=@absurd
def ue:1<=PySem.sizeLine:=by decide
def ud:2<=PySem.sizeLine:=by decide
def uc:3<=PySem.sizeLine:=by decide
def ub:4<=PySem.sizeLine:=by decide
abbrev cA := PySem.W.Frag
abbrev L0:=List (List (Int×Int))
abbrev L1:=List (List Int)
abbrev L3:=List (Nat×Int)
abbrev L4:=List (PySem.Str×Int)
abbrev L5:=List Int
abbrev L6:=List Nat
abbrev L7:=List PySem.Addr
abbrev L8:=List PySem.Str
abbrev L9:=List PySem.Value
abbrev q4:=@PySem.F.plainAttrs_list
abbrev q5:=@PySem.F.slot_list_append
abbrev q7:=@PySem.F.type_list_append
namespace L2
open PySem PySem.Spec PyProof.Rows
noncomputable abbrev Key:=Sum Int Str
noncomputable def fP:Key->Value->Bool
 | .inl k,v=>Value.isInt k v
 | .inr x,v=>Value.isStrOf x v
noncomputable def AO(w:World):Key->Int
 | .inl k=>hashInt k
 | .inr x=>hashStr w x
def JU:∀{k:Key} {v:Value},fP k v=true->(∃i t,k=Sum.inl i/\v=Value.int i t)\/(∃x t,k=Sum.inr x/\v=Value.str x t)
 | .inl i,v,h=>by
  let⟨t,e⟩:=Value.isInt_shape (k:=i) (v:=v) h;exact .inl ⟨i,t,rfl,e⟩
 | .inr x,v,h=>by
  let⟨t,e⟩:=Value.isStrOf_shape (x:=x) (v:=v) h;exact .inr ⟨x,t,rfl,e⟩
def wo(i:Int)(t:Tok):fP (.inl i) (.int i t)=true:=by simp[fP,Value.isInt]
def xU(x:Str)(t:Tok):fP (.inr x) (.str x t)=true:=by simp[fP,Value.isStrOf]
def IP(a b:Int):decide ((Sum.inl a:Key)=Sum.inl b)=(a==b):=by
 by_cases e:a=b
 .subst e;simp
 .have h:¬(Sum.inl a:Key)=Sum.inl b:=λq=>e (Sum.inl.inj q)
  rw[vH h];exact(beq_eq_false_iff_ne.mpr e).symm
def IT(a b:Str):decide ((Sum.inr a:Key)=Sum.inr b)=decide (a=b):=by
 by_cases e:a=b
 .subst e;simp
 .have h:¬(Sum.inr a:Key)=Sum.inr b:=λq=>e (Sum.inr.inj q)
  rw[vH h,vH e]
def IQ(a:Int)(b:Str):decide ((Sum.inl a:Key)=Sum.inr b)=false:=vH (λq=>nomatch q)
def IS(a:Str)(b:Int):decide ((Sum.inr a:Key)=Sum.inl b)=false:=vH (λq=>nomatch q)
noncomputable def cn(prog:Program)(w:World):PySem.KeyKind prog w Key where
 is:=fP
 hash:=AO w
 inj:=λv a b ha hb=>by
  rcases JU ha with⟨i,t,rfl,rfl⟩ | ⟨x,t,rfl,rfl⟩
  .rcases JU hb with⟨j,u,rfl,e⟩ | ⟨y,u,rfl,e⟩
   .injection e with e1 _;rw[e1]
   .exact nomatch e
  .rcases JU hb with⟨j,u,rfl,e⟩ | ⟨y,u,rfl,e⟩
   .exact nomatch e
   .injection e with e1 _;rw[e1]
 byValue:=λk v h=>by
  rcases JU h with⟨i,t,rfl,rfl⟩ | ⟨x,t,rfl,rfl⟩<;>rfl
 pyHash:=λhv h=>by
  rcases JU hv with⟨i,t,rfl,rfl⟩ | ⟨x,t,rfl,rfl⟩
  .exact wpAny_pyHash_int h
  .exact wpAny_pyHash_str h
 eqBool:=λhu hv h=>by
  rcases JU hu with⟨i,t,rfl,rfl⟩ | ⟨x,t,rfl,rfl⟩
  .rcases JU hv with⟨j,u,rfl,rfl⟩ | ⟨y,u,rfl,rfl⟩
   .rw[IP]at h;exact wpAny_eqBool_int h
   .rw[IQ]at h;exact SeqAt.EqAt.int_str i t y u _ _ _ _ h
  .rcases JU hv with⟨j,u,rfl,rfl⟩ | ⟨y,u,rfl,rfl⟩
   .rw[IS]at h;exact SeqAt.EqAt.str_int x t j u _ _ _ _ h
   .rw[IT]at h;exact wpAny_eqBool_str h
 «strs»:=λk x t v h=>by
  rcases JU h with⟨i,u,rfl,e⟩ | ⟨y,u,rfl,e⟩
  .exact nomatch e
  .injection e with e1 _;subst e1;cases v<;>rfl
def DQ(prog:Program)(w:World)(i:Int)(t:Tok):(cn prog w).is (.inl i) (.int i t)=true:=wo i t
def DR(prog:Program)(w:World)(x:Str)(t:Tok):(cn prog w).is (.inr x) (.str x t)=true:=xU x t
inductive V where
 | cW | bl (b:Bool) | int (i:Int) | str (x:Str) | lC (b:Array UInt8) | rd (b:UInt64) | ref (a:Addr) | ty (n:String)
 deriving DecidableEq
abbrev N3:=Option V
abbrev N2:=List V
noncomputable def RelV:V->Value->Prop
 | .cW,u=>u=Value.none
 | .bl b,u=>u=Value.bool b
 | .int i,u=>∃t,u=Value.int i t
 | .str x,u=>∃t,u=Value.str x t
 | .lC b,u=>∃t,u=Value.bytes b t
 | .rd b,u=>∃t,u=Value.float b t
 | .ref a,u=>u=Value.ref a
 | .ty n,u=>u=Value.type n
noncomputable abbrev Vals:N2->L9->Prop:=Paired RelV
def Vals.length(r:Vals xs us):⇑xs=⇑us:=Paired.length r
theorem Vals.get:∀{xs:N2} {us:L9} {i:Nat} {x:V},Vals xs us->xs[i]?=some x->∃u,us[i]?=some u/\RelV x u
 | _,_,_,_,.nil,e=>by simp at e
 | _,_,0,_,.cons r _,e=>by simp at e;subst e;exact⟨_,rfl,r⟩
 | _,_,i+1,x,.cons _ t,e=>by
  let⟨u,a,b⟩:=Vals.get (i:=i) (x:=x) t #v[e];exact⟨u,#v[a],b⟩
theorem Vals.set(r:RelV x u):∀{xs:N2} {us:L9} (i:Nat),Vals xs us->Vals (xs.set i x) (us.set i u)
 | _,_,_,.nil=>.nil
 | _,_,0,.cons _ t=>.cons r t
 | _,_,i+1,.cons q t=>.cons q (Vals.set r i t)
def Vals.append:∀{xs ys:N2} {us a:L9},Vals xs us->Vals ys a->Vals (xs++ys) (us++a):=by
 intro xs ys us a h s
 induction h with
 | nil=>exact s
 | cons r t ih=>exact .cons r ih
theorem Vals.take:∀{xs:N2} {us:L9} (n:Nat),Vals xs us->Vals (xs.take n) (us.take n)
 | _,_,0,_=>.nil
 | _,_,_+1,.nil=>.nil
 | _,_,n+1,.cons r t=>.cons r (Vals.take n t)
theorem Vals.drop:∀{xs:N2} {us:L9} (n:Nat),Vals xs us->Vals (xs.drop n) (us.drop n)
 | _,_,0,r=>r
 | _,_,_+1,.nil=>.nil
 | _,_,n+1,.cons _ t=>Vals.drop n t
noncomputable def eO:N3->Option Value->Prop
 | some v,some u=>RelV v u
 | none,none=>True
 | _,_=>False
noncomputable def KV{κ:Type}:List (κ×V)->List (κ×Value)->Prop:=Paired λ(p:κ×V) (q:κ×Value)=>p.1=q.1/\RelV p.2 q.2
noncomputable def kV:Key->V
 | .inl i=>.int i
 | .inr x=>.str x
inductive HO where
 | lst (xs:N2)
 | tup (xs:N2)
 | dK (kvs:List (Key×V)) | dT (kvs:List (List Key×V))
 | set (S:Int->Bool) (n:Nat)
 | ins (C dx:Addr) (fs:List (Str×V))
 | own (x:Addr)
 | xd (fs:List (Str×V))
 | met (f x:Addr)
 | uH (lo hi:Int)
 | gD (o:Obj) (u:HO)
 | pM (ps:Array Value)
 | ext (φ:Heap->Prop)
noncomputable abbrev Hp:=Addr->Option HO
noncomputable def upd(H:Hp)(a:Addr)(o:HO):Hp:=λb=>if b=a then some o else H b
def jw{H:Hp}:upd H a o a=some o:=by unfold upd;rw[vd rfl]
def jg{H:Hp}(h:b≠a):upd H a o b=H b:=by unfold upd;rw[vc h]
def JG{H:Hp}(h:H a=some o)(h':H b=some u)(d:o≠u):a≠b:=by
 intro e;subst e;rw[h]at h';exact d (vL h')
def je{H:Hp}(h:H a=some o)(h':H b=none):a≠b:=by
 intro e;subst e;rw[h]at h';cases h'
section
variable(P:Program)(w:World)
noncomputable def cD(H:Hp)(h:Heap)(a:Addr):HO->Prop
 | .lst xs=>⇑xs<=sizeLine/\∃(its:L9) (n:Nat),Vals xs its/\h.get? a=some {cls:=.type "list",data:=.seq its.toArray n}
 | .tup xs=>⇑xs<=sizeLine/\∃its:L9,Vals xs its/\IsTup h a its.toArray
 | .dK kvs=>⇑kvs<=sizeLine/\(a==sysModules)=false/\∃vs,KV kvs vs/\h.DictOf (cn P w) a vs
 | .dT kvs=>⇑kvs<=sizeLine/\(a==sysModules)=false/\∃xs:List (List Key×Addr×Value),
   Paired (λ(p:List Key×V) (q:List Key×Addr×Value)=>p.1=q.1/\H q.2.1=some (.tup (p.1.map kV))/\RelV p.2 q.2.2) kvs xs/\
   ∃o es ep,h.get? a=some o/\o.ExactDict/\o.data = .dict es ep/\es.toList=xs.map (entryOfKey (tupleKind (cn P w)))/\(xs.map (·.1)).Nodup
 | .set S n=>h.SetOf (intKind P w) a S n
 | .ins C dx fs=>H dx=some (.own a)/\⇑fs<=1000/\dx≠a/\h.get? a=some (PySem.W.instObj C dx)/\
   ∃mA,h.Ns1 dx mA/\(∀f,eO (fs.lookup f) (mA f))/\PySem.Within mA (fs.map (·.1))
 | .own _=>∃o,h.get? a=some o
 | .xd fs=>∃mA,h.Ns1 a mA/\∀f,eO (fs.lookup f) (mA f)
 | .uH lo hi=>∃t u v,h.get? a=some {cls:=.type "range",data:=.fields #[.int lo t,.int hi u,.int 1 v]}
 | .gD o u=>h.get? a=some o/\cD H h a u
 | .pM ps=>h.get? a=some {cls:=.none,data:=.fields ps}
 | .met f x=>h.get? a=some (PySem.W.methodObj (.ref f) (.ref x))
 | .ext φ=>φ h/\(∃o,h.get? a=some o)/\∀h1 h2:Heap,φ h1->(∀o,h1.get? a=some o->h2.get? a=some o)->φ h2
def fO(H:Hp)(h:Heap):Prop:=∀a o,H a=some o->cD P w H h a o
end
section
variable{P:Program}{w:World}{H H':Hp}{h h':Heap}{a:Addr}{o:HO}
def cD.lt(x:cD P w H h a o):a<h.objs.size:=by
 cases o with
 | lst xs=>let⟨q,q,q,q,e⟩:=x;exact vI e
 | tup xs=>let⟨q,q,q,p⟩:=x;exact p.lt
 | dK kvs=>let⟨q,q,q,q,o,q,q,e,q⟩:=x;exact vI e
 | dT kvs=>let⟨q,q,q,q,o,q,q,e,q⟩:=x;exact vI e
 | set S n=>let⟨o,q,q,q,e,q⟩:=x;exact vI e
 | ins C dx fs=>let⟨q,q,q,e,q⟩:=x;exact vI e
 | own y=>let⟨q,e⟩:=x;exact vI e
 | xd fs=>let⟨q,⟨q,q,q,e,q⟩,q⟩:=x;exact vI e
 | uH lo hi=>let⟨q,q,q,e⟩:=x;exact vI e
 | gD ob u=>let⟨e,q⟩:=x;exact vI e
 | pM ps=>exact vI (show h.get? a=some _ from x)
 | met f y=>exact vI (show h.get? a=some _ from x)
 | ext φ=>let⟨q,⟨q,e⟩,q⟩:=x;exact vI e
def Paired.sS{d e:Type}{F G:d->e->Prop}:∀{c:List d} {l₂:List e},Paired F c l₂->(∀a b,F a b->G a b)->Paired G c l₂:=by
 intro c l₂ h f
 induction h with
 | nil=>exact .nil
 | cons r t ih=>exact .cons (f _ _ r) ih
def cD.i5(x:cD P w H h a o)(k:∀b u,(b=a\/H b=some (.own a))->h.get? b=some u->h'.get? b=some u)
  (D:∀b,H b=some (.own a)->H' b=some (.own a)) (E:∀b xs,H b=some (.tup xs)->H' b=some (.tup xs)):cD P w H' h' a o:=by
 induction o with
 | lst xs=>let⟨z,l,n,r,e⟩:=x;exact⟨z,l,n,r,k _ _ (.inl rfl) e⟩
 | tup xs=>let⟨z,l,r,g,e,c⟩:=x;exact⟨z,l,r,g,k _ _ (.inl rfl) e,c⟩
 | dK kvs=>let⟨z,y,J,r,g,j,i,e,c⟩:=x;exact⟨z,y,J,r,g,j,i,k _ _ (.inl rfl) e,c⟩
 | dT kvs=>
  let⟨z,y,xs,r,g,j,i,e,c⟩:=x;exact⟨z,y,xs,Paired.sS r λp q z=>⟨z.1,E _ _ z.2.1,z.2.2⟩,g,j,i,k _ _ (.inl rfl) e,c⟩
 | set S n=>let⟨g,j,i,t,e,c⟩:=x;exact⟨g,j,i,t,k _ _ (.inl rfl) e,c⟩
 | ins C dx fs=>
  let⟨d,z,I,e,m,⟨s,j,i,B,c⟩,r⟩:=x;exact⟨D _ d,z,I,k _ _ (.inl rfl) e,m,⟨s,j,i,k _ _ (.inr d) B,c⟩,r⟩
 | own y=>let⟨g,e⟩:=x;exact⟨g,k _ _ (.inl rfl) e⟩
 | xd fs=>let⟨m,⟨s,j,i,e,c⟩,r⟩:=x;exact⟨m,⟨s,j,i,k _ _ (.inl rfl) e,c⟩,r⟩
 | uH lo hi=>let⟨t,u,v,e⟩:=x;exact⟨t,u,v,k _ _ (.inl rfl) e⟩
 | gD g u ih=>let⟨e,q⟩:=x;exact⟨k _ _ (.inl rfl) e,ih q⟩
 | pM ps=>
  have e:h.get? a=some {cls:=.none,data:=.fields ps}:=x;show h'.get? a=some {cls:=.none,data:=.fields ps};exact k a _ (.inl rfl) e
 | met f y=>
  have e:h.get? a=some (PySem.W.methodObj (.ref f) (.ref y)):=x;show h'.get? a=some (PySem.W.methodObj (.ref f) (.ref y));exact k a _ (.inl rfl) e
 | ext φ=>let⟨p,⟨o,e⟩,A⟩:=x;exact⟨A _ _ p λo q=>k _ _ (.inl rfl) q,⟨o,k _ _ (.inl rfl) e⟩,A⟩
def fO.lt(x:fO P w H h)(e:H a=some o):a<h.objs.size:=(x a o e).lt
def fO.fresh(x:fO P w H h)(e:h.objs.size<=a):H a=none:=by
 cases q:H a with
 | none=>rfl
 | some u=>exact uf (Nat.lt_of_lt_of_le (x.lt q) e) (Nat.lt_irrefl _)
def fO.kept(x:fO P w H h)(k:∀b u,h.get? b=some u->h'.get? b=some u):fO P w H h':=λa o e=>
 (x a o e).i5 (λb u j q=>k b u q) (λj q=>q) λj j q=>q
def fO.laid(x:fO P w H h)(k:∀b u,h.get? b=some u->h'.get? b=some u)(i:h.objs.size<=a)(d:cD P w (upd H a o) h' a o):fO P w (upd H a o) h':=λb u e=>by
 have g:=x.fresh i;by_cases f:b=a
 .subst f;rw[jw]at e;cases e;exact d
 .rw[jg f]at e;exact(x b u e).i5 (λc v Z q=>k c v q) (λc q=>by rw[jg (je q g)];exact q) λc j q=>by rw[jg (je q g)];exact q
end
def Rd(H:Hp)(a:Addr)(u:HO):Prop:=H a=some u\/∃o,H a=some (.gD o u)
def Rd.ok{H:Hp}(r:Rd H a u)(x:fO P w H h):cD P w H h a u:=by
 rcases r with r | ⟨o,r⟩
 .exact x a u r
 .let⟨_,q⟩:=x a _ r;exact q
noncomputable def rZ:Option HO->Prop
 | some (.lst _)=>True
 | some (.dK _)=>True
 | some (.dT _)=>True
 | some (.set _ _)=>True
 | some (.ins _ _ _)=>True
 | some (.ext _)=>True
 | _=>False
section
variable{P:Program}{w:World}{H:Hp}{h h':Heap}{x e:Addr}{o':HO}
def fO.write(t:fO P w H h)(j:rZ (H x))(o:e=x\/H e=some (.own x))(k:∀b u,b≠e->h.get? b=some u->h'.get? b=some u)(m:∃u,h'.get? e=some u)
  (n:cD P w (upd H x o') h' x o'):fO P w (upd H x o') h':=λb u q=>by
 have d:∀c y,H c=some (.own y)->c≠x:=λc y r z=>by subst z;rw[r]at j;exact j
 have f:∀c l,H c=some (.tup l)->c≠x:=λc l r z=>by subst z;rw[r]at j;exact j
 by_cases g:b=x
 .subst g;rw[jw]at q;cases q;exact n
 .rw[jg g]at q;by_cases a:b=e
  .have p:H b=some (.own x):=by
    rcases o with z | z
    .exact uf (a.trans z) g
    .rw[a];exact z
   rw[q]at p;cases p;let⟨v,s⟩:=m;exact⟨v,by rw[a];exact s⟩
  .refine(t b u q).i5 (λc v i r=>k c v ?_ r) (λc r=>by rw[jg (d c b r)];exact r) λc l r=>by rw[jg (f c l r)];exact r
   rcases i with rfl | i
   .exact a
   .rintro rfl;rcases o with z | z
    .exact d c b i z
    .rw[i]at z;cases z;exact g rfl
end
structure Un(fs ex:L7)(H H':Hp)(h h':Heap):Prop where
 keep:∀b o,h.get? b=some o->H b=none->b∉fs->b∉ex->h'.get? b=some o
 slot:∀b o,h.get? b=some o->H b=none->b∈fs->b∉ex->∃sl,h'.get? b=some {o with slots:=sl}
 free:∀b o,h.get? b=some o->H b=none->b∉ex->H' b=none
 there:∀b o,h.get? b=some o->b∉ex->∃o',h'.get? b=some o'
 ly:∀b xs,H b=some (.tup xs)->H' b=some (.tup xs)
 iX:∀b o u,H b=some (.gD o u)->H' b=some (.gD o u)
 lT:∀b ps,H b=some (.pM ps)->∃more,H' b=some (.pM (ps++more))
section
variable{fs fs' ex ex':L7}{H H1 H2:Hp}{h h1 h2 h':Heap}{a x e:Addr}{o:HO}
def Un.any(u:Un fs ex H H1 h h1)(q:h.get? b=some ob)(n:H b=none)(c:b∉ex):∃d,h1.get? b=some {ob with slots:=d}:=by
 by_cases a:b∈fs
 .exact u.slot b ob q n a c
 .exact⟨ob.slots,u.keep b ob q n a c⟩
def Un.kept(k:∀b u,h.get? b=some u->h'.get? b=some u):Un fs ex H H h h':=
 ⟨λb a q j j j=>k b a q,λb a q j j j=>⟨a.slots,k b a q⟩,λj j j n j=>n,λb a q j=>⟨a,k b a q⟩,λj j q=>q,λj j j q=>q,λj c q=>⟨#[],by rw[q];simp⟩⟩
def Un.refl:Un fs ex H H h h:=Un.kept λj j q=>q
def Un.laid(k:∀b u,h.get? b=some u->h'.get? b=some u)(d:h.objs.size<=a)(c:H a=none):Un fs ex H (upd H a o) h h' where
 keep:=λb u q j j j=>k b u q
 slot:=λb u q j j j=>⟨u.slots,k b u q⟩
 free:=λb u q n j=>by rw[jg (vE (Nat.lt_of_lt_of_le (vI q) d))];exact n
 there:=λb u q j=>⟨u,k b u q⟩
 ly:=λb e q=>by rw[jg (je q c)];exact q
 iX:=λb u e q=>by rw[jg (je q c)];exact q
 lT:=λb f q=>⟨#[],by rw[jg (je q c),q];simp⟩
def Un.write(c:rZ (H x))(j:e=x\/H e=some (.own x))(k:∀b u,b≠e->h.get? b=some u->h'.get? b=some u)(d:∃u,h'.get? e=some u):Un fs ex H (upd H x o) h h':=by
 have i:∀b,H b=none->b≠x:=λb n z=>by subst z;rw[n]at c;exact c
 have g:∀b,H b=none->b≠e:=λb n z=>by
  subst z;rcases j with r | r
  .exact i b n r
  .rw[n]at r;cases r
 have f:∀b u,H b=some u->¬rZ (some u)->b≠x:=λb u q l z=>by subst z;rw[q]at c;exact l c
 refine⟨λb u q n Z Z=>k b u (g b n) q,λb u q n Z Z=>⟨u.slots,k b u (g b n) q⟩,λb u q n Z=>by rw[jg (i b n)];exact n,λb u q Z=>?_,
  λb m q=>by rw[jg (f b _ q λz=>z)];exact q,λb u m q=>by rw[jg (f b _ q λz=>z)];exact q,λb p q=>⟨#[],by rw[jg (f b _ q λz=>z),q];simp⟩⟩
 by_cases a:b=e
 .subst a;exact d
 .exact⟨u,k b u a q⟩
end
noncomputable def uI(h:Heap)(H:Hp):L7:=(List.range h.objs.size).filter λa=>(H a).isSome
noncomputable def iY(h:Heap)(H:Hp):Heap:=PySem.W.hideAll h (uI h H)
def FA(h:Heap)(H:Hp):(iY h H).objs.size=h.objs.size:=PySem.W.hideAll_size _ _
def GI{H:Hp}(e:h.get? b=some o)(n:H b=none):(iY h H).get? b=some o:=
 PySem.W.hideAll_get _ e λa=>by
  have q:(H b).isSome=true:=(vO.mp a).2;rw[n]at q;simp at q
def Iu{H:Hp}(e:(iY h H).get? b=some o):h.get? b=some o/\H b=none:=by
 have a:h.get? b=some o:=PySem.W.of_hideAll (uI h H) e;refine⟨a,?_⟩;cases q:H b with
 | none=>rfl
 | some x=>
  have c:b∈uI h H:=vO.mpr ⟨v2.mpr (vI a),by simp[q]⟩;have z:(iY h H).get? b=none:=PySem.W.hideAll_none (uI h H) c;rw[z]at e;cases e
structure Mod(K:cA)(mg:Nw)(base:Heap):Prop where
 sQ:K.In base
 glob:base.Ns mainGlobals mg
 blt:∃mb,base.Ns builtinsNs mb/\∀x:Str,x≠"__name__"->mb x=bootBuiltins x
 nolimit:base.NoLimit
structure Cx where
 prog:Program
 w:World
 K:cA
 mg:Str->Option Value
 base:Heap
 A:Around
 N:L8
 s₀:Shared
 H₀:Hp
 env:Env
 outer:List Env
 stack:List Env
 ex:L7
 fn:Str->Bool
 calm:Bool
 pn:List (Addr×Obj)
 xe:Nz
noncomputable def mI(l:Nr):L7:=l.filterMap (·.frame)
noncomputable abbrev Cx.fs(X:Cx):L7:=mI X.outer
def si(sc:Scope)(x:Str):Prop:=sc.names.lookup x=some .local\/sc.names.lookup x=some .cell\/sc.names.lookup x=some .free
def Loc(sc:Scope)(x:Str):Prop:=sc.names.lookup x=some .local\/sc.names.lookup x=some .cell
def Look(env:Env)(h:Heap)(m:Nw)(x:Str)(u:Value):Prop:=
 (env.kindOf x=some .local/\m x=some u)\/((env.kindOf x=some .cell\/env.kindOf x=some .free)/\∃c,env.cells.lookup x=some c/\h.IsCell c (some u))
structure Cx.Ok(X:Cx):Prop where
 mod:Mod X.K X.mg X.base
 kind:X.env.scope.kind = .function
 glob:X.env.globals=mainGlobals
 blt:X.env.builtins=builtinsNs
 above:X.s₀.heap.objs.size<=X.env.locals
 inj:∀x y c,X.env.cells.lookup x=some c->X.env.cells.lookup y=some c->x=y
 has:∀x,(X.env.kindOf x=some .cell\/X.env.kindOf x=some .free)->∃c,X.env.cells.lookup x=some c
 rN:∀x c,X.fn x=true->X.env.cells.lookup x=some c->X.s₀.heap.objs.size<=c
 hd:X.calm=true->X.A.handled=none
 frames:X.A.frames=some X.stack
 tD:X.stack=X.outer\/(X.stack=X.env::X.outer/\X.env.frame=some X.env.locals)
 vQ:∀b∈X.ex,b≠X.env.locals/\∀x c,X.env.cells.lookup x=some c->c≠b
 bs:∀b o,X.base.get? b=some o->X.s₀.heap.get? b=some o/\X.H₀ b=none
 oa:X.base.objs.size<=X.s₀.heap.objs.size
 mN:∀b o,X.base.get? b=some o->b∉X.ex
 nI:∀b∈X.ex,b∉X.fs
 gE:X.s₀.heap.FunFrames X.base X.outer
 oW:∀b∈X.fs,X.H₀ b=none
structure Inv(X:Cx)(pins:Ny)(σ:List N3)(H:Hp)(s:Shared):Prop where
 ok:X.Ok
 os:s.os=X.s₀.os
 bare:AllBare s.gens
 base:Un X.fs X.ex X.H₀ H X.s₀.heap s.heap
 loc:∃m,s.heap.Ns X.env.locals m/\∀(i:Nat) (x:Str) (v:V),X.N[i]?=some x->σ[i]?=some (some v)->si X.env.scope x->∃u,RelV v u/\Look X.env s.heap m x u
 cell:∀x c,X.env.cells.lookup x=some c->∃v,s.heap.IsCell c v
 free:H X.env.locals=none
 fe:∀x c,X.env.cells.lookup x=some c->H c=none
 pin:∀p∈X.pn++pins,s.heap.get? p.1=some p.2/\H p.1=none/\p.1≠X.env.locals/\p.1∉X.fs/\∀v,p.2.data≠.cell v
 cJ:fO X.prog X.w H s.heap
 len:⇑σ=X.N.length
section
variable{X:Cx}{pins:Ny}{σ:List N3}{H H':Hp}{s:Shared}{h':Heap}
def Cx.Ok.AU(c:X.Ok)(e:X.base.get? b=some o):b∉X.fs:=λa=>by
 have:=(c.gE.mem a).1;rw[e]at this;cases this
def Inv.bs(I:Inv X pins σ H s):∀b o,X.base.get? b=some o->s.heap.get? b=some o/\H b=none:=λb o e=>
 ⟨I.base.keep b o (I.ok.bs b o e).1 (I.ok.bs b o e).2 (I.ok.AU e) (I.ok.mN b o e),I.base.free b o (I.ok.bs b o e).1 (I.ok.bs b o e).2 (I.ok.mN b o e)⟩
def Inv.bk(I:Inv X pins σ H s):∀b o,X.base.get? b=some o->s.heap.get? b=some o:=λb o e=>(I.bs b o e).1
def Inv.mod(I:Inv X pins σ H s):Mod X.K X.mg X.base:=I.ok.mod
def Inv.g8(I:Inv X pins σ H s):X.K.In s.heap:=I.ok.mod.sQ.keeps I.bk
def Inv.lt(I:Inv X pins σ H s):X.env.locals<s.heap.objs.size:=let ⟨_,hn,_⟩:=I.loc;hn.lt
def Inv.sz(I:Inv X pins σ H s):X.s₀.heap.objs.size<=s.heap.objs.size:=vV I.ok.above (vX I.lt)
def Inv.AV(I:Inv X pins σ H s)(h:s.heap.objs.size<=a):a∉X.fs:=λb=>by
 let⟨q,o,c,q⟩:=I.ok.gE.mem b;exact uf (Nat.lt_of_lt_of_le (vI c) (vV I.sz h)) (Nat.lt_irrefl _)
def Inv.uX(I:Inv X pins σ H s):∀x c,X.env.cells.lookup x=some c->c≠X.env.locals:=λx c e z=>by
 let⟨v,o,f,d⟩:=I.cell x c e;let⟨m,⟨i,h,g,b,a,q⟩,q⟩:=I.loc;rw[z,b]at f;cases f;rw[a]at d;cases d
def Inv.gE(I:Inv X pins σ H s):s.heap.FunFrames X.base X.outer:=by
 have a:∀(l:Nr),(∀b∈mI l,b∈X.fs)->X.s₀.heap.FunFrames X.base l->s.heap.FunFrames X.base l:=by
  intro l
  induction l with
  | nil=>intro q q;trivial
  | cons env r ih=>
   intro g j;let⟨i,⟨L,o,f,k,m,h⟩,n⟩:=j;have c:L∈X.fs:=g L (by unfold mI;rw[filterMap_cons,f];exact vq);let⟨p,e⟩:=I.base.slot L o m (I.ok.oW L c) c λz=>I.ok.nI L z c
   exact⟨i,⟨L,_,f,k,e,h⟩,ih (λb d=>g b (by unfold mI;rw[filterMap_cons,f];exact vp _ d)) n⟩
 exact a X.outer (λq d=>d) I.ok.gE
def Inv.stack(I:Inv X pins σ H s):s.heap.FunFrames X.base X.stack:=by
 rcases I.ok.tD with e | ⟨e,a⟩
 .rw[e];exact I.gE
 .rw[e];let⟨m,b,q⟩:=I.loc;refine .cons (by rw[I.ok.kind];decide) a b ?_ I.gE;exact Heap.get?_none_of_le (vV I.ok.oa I.ok.above)
def Inv.iC(I:Inv X pins σ H s):∀b∈mI X.stack,b∈X.env.locals::X.fs:=λb a=>by
 rcases I.ok.tD with e | ⟨e,c⟩
 .rw[e]at a;exact vp _ a
 .rw[e]at a;unfold mI at a;rw[filterMap_cons,c]at a;exact a
def Inv.md(I:Inv X pins σ H s):∀b∈mI X.stack,H b=none:=λb a=>by
 rcases mem_cons.mp (I.iC b a)with e | a
 .rw[e];exact I.free
 .let⟨_,o,c,_⟩:=I.ok.gE.mem a;exact I.base.free b o c (I.ok.oW b a) λz=>I.ok.nI b z a
def Inv.step{g':Array GenState}{t':Nat}{d':Drawn}{ch:L7}(I:Inv X pins σ H s)
  (h:∀b∈ch,(b∈X.ex\/X.s₀.heap.objs.size<=b)/\b≠X.env.locals/\(∀x c,X.env.cells.lookup x=some c->c≠b)/\∀p∈X.pn++pins,p.1≠b)
  (j:∀b o,b≠X.env.locals->b∉X.fs->b∉ch->s.heap.get? b=some o->H b=none->h'.get? b=some o)
  (A:∀b o,b≠X.env.locals->b∈X.fs->b∉ch->s.heap.get? b=some o->H b=none->∃P,h'.get? b=some {o with slots:=P}) (f:∀b o,b∉ch->s.heap.get? b=some o->H b=none->H' b=none)
  (C:∀b o,b∉ch->s.heap.get? b=some o->∃o',h'.get? b=some o')
  (M:∀b xs,H b=some (.tup xs)->H' b=some (.tup xs)) (J:∀b o u,H b=some (.gD o u)->H' b=some (.gD o u)) (L:∀b ps,H b=some (.pM ps)->∃more,H' b=some (.pM (ps++more)))
  (ns:∀m,s.heap.Ns X.env.locals m->h'.Ns X.env.locals m) (O:fO X.prog X.w H' h') (Y:AllBare g') :
  Inv X pins σ H' {s with heap:=h',gens:=g',drawn:=d',toks:=t'}:=by
 have K:∀b o,X.s₀.heap.get? b=some o->b≠X.env.locals:=λb o e=>vE (Nat.lt_of_lt_of_le (vI e) I.ok.above)
 have y:∀b o,X.s₀.heap.get? b=some o->b∉X.ex->b∉ch:=λb o e a B=>by
  rcases(h b B).1 with z | z
  .exact a z
  .exact uf (Nat.lt_of_lt_of_le (vI e) z) (Nat.lt_irrefl _)
 have g:∀x c,X.env.cells.lookup x=some c->∀v,s.heap.IsCell c v->h'.IsCell c v:=λx c e v ⟨o,D,N⟩=>by
  have t:c∉ch:=λz=>(h c z).2.2.1 x c e rfl
  by_cases R:c∈X.fs
  .let⟨P,q⟩:=A c o (I.uX x c e) R t D (I.fe x c e);exact⟨_,q,N⟩
  .exact⟨o,j c o (I.uX x c e) R t D (I.fe x c e),N⟩
 refine⟨I.ok,I.os,Y,⟨λb o e n B a=>?_,λb o e n B a=>?_,λb o e n a=>?_,λb o e a=>?_,λb xs e=>M b xs (I.base.ly b xs e),λb o xs e=>J b o xs (I.base.iX b o xs e),λb ps e=>?_⟩,?_,λx c e=>?_,?_,λx c e=>?_,λp S=>?_,O,I.len⟩
 .exact j b o (K b o e) B (y b o e a) (I.base.keep b o e n B a) (I.base.free b o e n a)
 .let⟨P,w⟩:=I.base.slot b o e n B a;let⟨Q,E⟩:=A b _ (K b o e) B (y b o e a) w (I.base.free b o e n a);exact⟨Q,E⟩
 .let⟨o',w⟩:=I.base.there b o e a;exact f b o' (y b o e a) w (I.base.free b o e n a)
 .let⟨o',w⟩:=I.base.there b o e a;exact C b o' (y b o e a) w
 .let⟨m1,w⟩:=I.base.lT b ps e;let⟨m2,E⟩:=L b _ w;exact⟨m1++m2,by rw[E,Array.append_assoc]⟩
 .let⟨m,hn,Z⟩:=I.loc;refine⟨m,ns m hn,λi x v w E W=>?_⟩;let⟨u,r,l⟩:=Z i x v w E W;refine⟨u,r,?_⟩;rcases l with l | ⟨k,c,e,z⟩
  .exact .inl l
  .exact .inr ⟨k,c,e,g x c e _ z⟩
 .let⟨v,z⟩:=I.cell x c e;exact⟨v,g x c e v z⟩
 .let⟨m,⟨o,_,_,D,_⟩,_⟩:=I.loc;exact f _ o (λz=>(h _ z).2.1 rfl) D I.free
 .let⟨v,o,D,N⟩:=I.cell x c e;exact f c o (λz=>(h c z).2.2.1 x c e rfl) D (I.fe x c e)
 .let⟨e,n,T,U,d⟩:=I.pin p S;have t:p.1∉ch:=λz=>(h p.1 z).2.2.2 p S rfl
  exact⟨j p.1 p.2 T U t e n,f p.1 p.2 t e n,T,U,d⟩
def Inv.un{t':Nat}(I:Inv X pins σ H s)(u:Un X.fs [] H H' s.heap h')(g:fO X.prog X.w H' h'):Inv X pins σ H' {s with heap:=h',toks:=t'}:=by
 let⟨m,⟨o,p,l,h,r⟩,q⟩:=id I.loc;let⟨v,i⟩:=u.any h I.free (by simp);exact I.step (g':=s.gens) (d':=s.drawn) (ch:=[]) (λq z=>nomatch z) (λb o q f q e n=>u.keep b o e n f (by simp)) (λb o q f q e n=>u.slot b o e n f (by simp)) (λb o q e n=>u.free b o e n (by simp)) (λb o q e=>u.there b o e (by simp)) u.ly u.iX u.lT (λq j=>by
  let⟨t,d,c,a,k⟩:=j;rw[h]at a;cases a;exact⟨_,d,c,i,k⟩) g I.bare
def Inv.call{g':Array GenState}{t':Nat}{d':Drawn}{ch:L7}(I:Inv X pins σ H s)(u:Un (mI X.stack) ch H H' s.heap h')(j:fO X.prog X.w H' h')(q:AllBare g')
  (d:∀b∈ch,(b∈X.ex\/X.s₀.heap.objs.size<=b)/\b≠X.env.locals/\(∀x c,X.env.cells.lookup x=some c->c≠b)/\∀p∈X.pn++pins,p.1≠b) :
  Inv X pins σ H' {s with heap:=h',gens:=g',drawn:=d',toks:=t'}:=by
 let⟨m,⟨o,y,w,k,r⟩,Z⟩:=id I.loc;let⟨C,i⟩:=u.any k I.free λz=>(d _ z).2.1 rfl
 exact I.step (ch:=ch) d (λb o i l a e n=>u.keep b o e n (λz=>(mem_cons.mp (I.iC b z)).elim i l) a) (λb o Z Z a e n=>u.any e n a) (λb o a e n=>u.free b o e n a) (λb o a e=>u.there b o e a) u.ly u.iX u.lT (λA t=>by
  let⟨B,h,g,f,v⟩:=t;rw[k]at f;cases f;exact⟨_,h,g,i,v⟩) j q
def Inv.turned{t':Nat}{it:Addr}(I:Inv X pins σ H s)(k:∀b o,b≠it->s.heap.get? b=some o->h'.get? b=some o)(y:H it=none)(f:it≠X.env.locals)
  (i:it∈X.ex\/X.s₀.heap.objs.size<=it) (j:∀x c,X.env.cells.lookup x=some c->c≠it) (l:∀p∈X.pn++pins,p.1≠it):Inv X pins σ H {s with heap:=h',toks:=t'}:=by
 have d:∀b u,H b=some u->b≠it:=λb u e z=>by rw[z,y]at e;cases e
 refine I.step (g':=s.gens) (d':=s.drawn) (ch:=[it]) (λb t=>?_) (λb o Z Z a e Z=>k b o (λz=>a (by simp[z])) e) (λb o Z Z a e Z=>⟨o.slots,k b o (λz=>a (by simp[z])) e⟩) (λZ Z Z Z n=>n)
  (λb o a e=>⟨o,k b o (λz=>a (by simp[z])) e⟩) (λZ Z e=>e) (λZ Z Z e=>e) (λb B e=>⟨#[],by rw[e];simp⟩) (λm w=>?_) (λb u e=>?_) I.bare
 .have e:b=it:=by simpa using t
  subst e;exact⟨i,f,j,l⟩
 .let⟨o,h,g,A,r⟩:=w;exact⟨o,h,g,k _ o (Ne.symm f) A,r⟩
 .refine(I.cJ b u e).i5 (λc v a q=>k c v ?_ q) (λZ q=>q) λZ Z q=>q
  rcases a with z | z
  .rw[z];exact d b u e
  .exact d c _ z
def Inv.tok(I:Inv X pins σ H s)(t:Nat):Inv X pins σ H {s with toks:=t}:=I.un (h':=s.heap) (t':=t) Un.refl I.cJ
def Inv.kept(I:Inv X pins σ H s)(k:∀b u,s.heap.get? b=some u->h'.get? b=some u):Inv X pins σ H {s with heap:=h',toks:=t'}:=I.un (Un.kept k) (I.cJ.kept k)
def Inv.laid(I:Inv X pins σ H s)(k:∀b u,s.heap.get? b=some u->h'.get? b=some u)(c:s.heap.objs.size<=a)(d:cD X.prog X.w (upd H a o) h' a o) :
  Inv X pins σ (upd H a o) {s with heap:=h',toks:=t'}:=I.un (Un.laid k c (I.cJ.fresh c)) (I.cJ.laid k c d)
def Inv.write(I:Inv X pins σ H s)(f:rZ (H x))(d:e=x\/H e=some (.own x))(k:∀b u,b≠e->s.heap.get? b=some u->h'.get? b=some u)(a:∃u,h'.get? e=some u)
  (c:cD X.prog X.w (upd H x o) h' x o):Inv X pins σ (upd H x o) {s with heap:=h',toks:=t'}:=I.un (Un.write f d k a) (I.cJ.write f d k a c)
def Inv.weak(I:Inv X pins σ H s)(d:S'.length=⇑σ)(w:∀(i:Nat) v,S'[i]?=some (some v)->σ[i]?=some (some v)):Inv X pins S' H s:=
 ⟨I.ok,I.os,I.bare,I.base,let ⟨m,hn,hl'⟩:=I.loc;⟨m,hn,λi x v a b c=>hl' i x v a (w i v b) c⟩,I.cell,I.free,I.fe,I.pin,I.cJ,d.trans I.len⟩
def Inv.hH(I:Inv X pins σ H s)(h:∀p∈pins',s.heap.get? p.1=some p.2/\H p.1=none/\p.1≠X.env.locals/\p.1∉X.fs/\∀v,p.2.data≠.cell v):Inv X pins' σ H s:=
 ⟨I.ok,I.os,I.bare,I.base,I.loc,I.cell,I.free,I.fe,λp a=>(vh.mp a).elim (λz=>I.pin p (mem_append_left _ z)) (h p),I.cJ,I.len⟩
def Bv{N:L8}(e:N.Nodup){i j:Nat}{x:Str}(a:N[i]?=some x)(b:N[j]?=some x):i=j:=by
 let⟨f,c⟩:=vx.mp a;let⟨g,d⟩:=vx.mp b;exact(List.getElem_inj e).mp (c.trans d.symm)
def Xg{M:Model}{A:Around}{E:Nz}{i:Nat}{x:Str}{v:V}{u:Value}{Q:Unit->Shared->Prop}(I:Inv X pins σ H s)(hN:X.N.Nodup)(hi:X.N[i]?=some x)(w:Loc X.env.scope x)(r:RelV v u)
  (h:∀s',Inv X pins (σ.set i (some v)) H s'->(∃a,Heap.SameBut a s.heap s'.heap/\(a=X.env.locals\/X.env.cells.lookup x=some a))->Q () s') (hf:X.fn x=true\/X.env.scope.names.lookup x=some .local:=by and_intros):wpAny M A (storeName X.env x u) Q E s:=by
 let⟨m,hn,hl⟩:=id I.loc;have T:(X.env.scope.kind == .class||(X.env.scope.kind == .module&&X.env.locals != X.env.globals))=false:=by rw[I.ok.kind];rfl
 have D:i<⇑σ:=by rw[I.len];exact(vx.mp hi).1
 have K:=I.uX;have l:∀{a:Addr} {P:Heap},(∃o,s.heap.get? a=some o/\H a=none)->Heap.SameBut a s.heap P->fO X.prog X.w H P:=λ{a P} ha f b ob e=>by
  let⟨_,_,B⟩:=ha;refine(I.cJ b ob e).i5 (λc w' t q=>(f.2 c ?_).trans q) (λ_ q=>q) λ_ _ q=>q
  rintro rfl;rcases t with rfl | t
  .rw[B]at e;cases e
  .rw[B]at t;cases t
 rcases w with J | J
 .refine wpAny_storeName_local J hn (λP a0 f=>?_) T;let⟨oL,_,_,a1,_⟩:=id hn;refine h _ ⟨I.ok,I.os,I.bare,⟨λb o e n L w=>?_,λb o e n L w=>?_,I.base.free,λb o e w=>?_,I.base.ly,I.base.iX,I.base.lT⟩,⟨_,a0,λj y v' g C e3=>?_⟩,λy c e=>?_,I.free,I.fe,λp hp=>?_,l ⟨oL,a1,I.free⟩ f,#v[I.len]⟩ ⟨_,f,.inl rfl⟩
  .exact(f.2 b (vE (Nat.lt_of_lt_of_le (vI e) I.ok.above))).trans (I.base.keep b o e n L w)
  .let⟨sl,g⟩:=I.base.slot b o e n L w;exact⟨sl,(f.2 b (vE (Nat.lt_of_lt_of_le (vI e) I.ok.above))).trans g⟩
  .let⟨o',g⟩:=I.base.there b o e w;exact⟨o',(f.2 b (vE (Nat.lt_of_lt_of_le (vI e) I.ok.above))).trans g⟩
  .by_cases O:j=i
   .subst O;rw[hi]at g;cases g;rw[List.getElem?_set_self D]at C;cases C;exact⟨u,r,.inl ⟨J,by simp⟩⟩
   .rw[List.getElem?_set_ne (Ne.symm O)]at C;let⟨u',r',q⟩:=hl j y v' g C e3;refine⟨u',r',?_⟩;rcases q with⟨k,e⟩ | ⟨k,c,e,z⟩
    .refine .inl ⟨k,?_⟩;have:y≠x:=λe=>O (Bv hN g (e▸hi))
     simp[this,e]
    .exact .inr ⟨k,c,e,z.sameBut f (K y c e)⟩
  .let⟨w',z⟩:=I.cell y c e;exact⟨w',z.sameBut f (K y c e)⟩
  .let⟨e,n,Z,nf,d⟩:=I.pin p hp;exact⟨(f.2 p.1 Z).trans e,n,Z,nf,d⟩
 .have N:X.fn x=true:=by
   rcases hf with z | z
   .exact z
   .rw[z]at J;cases J
  let⟨c,t⟩:=I.ok.has x (.inl J);let⟨w',z⟩:=I.cell x c t;refine wpAny_storeName_cell I.ok.kind J t z (λP R f=>?_);let⟨oc,U,W⟩:=id z;refine h {s with heap:=P} ⟨I.ok,I.os,I.bare,⟨λb o e n L w=>?_,λb o e n L w=>?_,I.base.free,λb o e w=>?_,I.base.ly,I.base.iX,I.base.lT⟩,⟨m,hn.sameBut f (Ne.symm (K x c t)),λj y v' g C e3=>?_⟩,λy Y e=>?_,I.free,I.fe,λp hp=>?_,l ⟨oc,U,I.fe x c t⟩ f,#v[I.len]⟩ ⟨c,f,.inr t⟩
  .exact(f.2 b (vE (Nat.lt_of_lt_of_le (vI e) (I.ok.rN x c N t)))).trans (I.base.keep b o e n L w)
  .let⟨sl,g⟩:=I.base.slot b o e n L w;exact⟨sl,(f.2 b (vE (Nat.lt_of_lt_of_le (vI e) (I.ok.rN x c N t)))).trans g⟩
  .let⟨o',g⟩:=I.base.there b o e w;exact⟨o',(f.2 b (vE (Nat.lt_of_lt_of_le (vI e) (I.ok.rN x c N t)))).trans g⟩
  .by_cases O:j=i
   .subst O;rw[hi]at g;cases g;rw[List.getElem?_set_self D]at C;cases C;exact⟨u,r,.inr ⟨.inl J,c,t,R⟩⟩
   .rw[List.getElem?_set_ne (Ne.symm O)]at C;let⟨u',r',q⟩:=hl j y v' g C e3;refine⟨u',r',?_⟩;rcases q with q | ⟨k,Y,e,z'⟩
    .exact .inl q
    .refine .inr ⟨k,Y,e,z'.sameBut f ?_⟩;rintro rfl;exact O (Bv hN g (I.ok.inj _ _ _ e t▸hi))
  .by_cases S:Y=c
   .subst S;exact⟨_,R⟩
   .let⟨w2,z2⟩:=I.cell y Y e;exact⟨w2,z2.sameBut f S⟩
  .let⟨e,n,Z,nf,d⟩:=I.pin p hp;refine⟨(f.2 p.1 ?_).trans e,n,Z,nf,d⟩;intro q;rw[q,U]at e;have q':oc=p.2:=vL e;exact d w' (by rw[<-q'];exact W)
def W2{E:Nz}{Q:Unit->Shared->Prop}(I:Inv X pins σ H s)(b:X.N.Nodup)(hi:X.N[i]?=some x)(d:Loc X.env.scope x)(r:RelV v u)
  (h:∀s',Inv X pins (σ.set i (some v)) H s'->Q () s') (c:X.fn x=true\/X.env.scope.names.lookup x=some .local:=by and_intros):wpAny M A (storeName X.env x u) Q E s:=
 Xg I b hi d r (λs' a q=>h s' a) c
def Inv.sj(I:Inv X pins σ H s)(g:s'.os=s.os)(u:Un (mI X.stack) ch H H' s.heap s'.heap)(d:fO X.prog X.w H' s'.heap)(f:AllBare s'.gens)
  (a:∀b∈ch,(b∈X.ex\/X.s₀.heap.objs.size<=b)/\b≠X.env.locals/\(∀x c,X.env.cells.lookup x=some c->c≠b)/\∀p∈X.pn++pins,p.1≠b):Inv X pins σ H' s':=by
 let⟨i,g',d',t',h⟩:=s';have e:h=s.os:=g;subst e;exact I.call (g':=g') (t':=t') (d':=d') u d f a
end
noncomputable abbrev XK:=Value->Option Addr->Hp->Prop
noncomputable abbrev St:=List N3
noncomputable abbrev VK:=V->Hp->Prop
noncomputable abbrev TE:=St->Hp->VK->Prop
noncomputable abbrev TT:=St->Hp->(Bool->Hp->Prop)->Prop
noncomputable abbrev TA:=St->Hp->(N2->Hp->Prop)->Prop
structure Ends where
 nx:St->Hp->Prop
 rt:VK
 bk:St->Hp->Prop:=λ_ _=>False
 ct:St->Hp->Prop:=λ_ _=>False
noncomputable abbrev TS:=Ends->St->Hp->Prop
def EP(X:Cx)(pins:Ny)(σ:St)(Q:VK)(u:Value)(s':Shared):Prop:=∃v H',Inv X pins σ H' s'/\RelV v u/\Q v H'
def TP(X:Cx)(pins:Ny)(σ:St)(Q:Bool->Hp->Prop)(b:Bool)(s':Shared):Prop:=∃H',Inv X pins σ H' s'/\Q b H'
def AP(X:Cx)(pins:Ny)(σ:St)(Q:N2->Hp->Prop)(us:L9)(s':Shared):Prop:=∃vs H',Inv X pins σ H' s'/\Vals vs us/\Q vs H'
def SP(X:Cx)(pins:Ny)(D:Ends)(f:Flow)(s':Shared):Prop:=
 match f with
 | .next=>∃S' H',Inv X pins S' H' s'/\D.nx S' H'
 | .brk=>∃S' H',Inv X pins S' H' s'/\D.bk S' H'
 | .cont=>∃S' H',Inv X pins S' H' s'/\D.ct S' H'
 | .ret u=>∃v S' H',Inv X pins S' H' s'/\RelV v u/\D.rt v H'
def PE(X:Cx)(e:Expr)(t:TE):Prop:=
 ∀(pins:Ny) (s:Shared) (σ:St) (H:Hp) (Q:VK),Inv X pins σ H s->t σ H Q->wpAny (model X.prog X.w) X.A (eval e X.env) (EP X pins σ Q) X.xe s
def PT(X:Cx)(e:Expr)(t:TT):Prop:=
 ∀(pins:Ny) (s:Shared) (σ:St) (H:Hp) (Q:Bool->Hp->Prop),Inv X pins σ H s->t σ H Q->wpAny (model X.prog X.w) X.A (isTrue e X.env (eval e X.env)) (TP X pins σ Q) X.xe s
def PW(X:Cx)(e:Expr)(t:TT):Prop:=
 ∀(whole:Sem Value) (pins:Ny) (s:Shared) (σ:St) (H:Hp) (Q:Bool->Hp->Prop),Inv X pins σ H s->t σ H Q->wpAny (model X.prog X.w) X.A (isTrue e X.env whole) (TP X pins σ Q) X.xe s
def PW.pt(h:PW X e t):PT X e t:=h _
def PA(X:Cx)(es:Nt)(t:TA):Prop:=
 ∀(pos:Pos) (pins:Ny) (s:Shared) (σ:St) (H:Hp) (Q:N2->Hp->Prop),Inv X pins σ H s->t σ H Q->wpAny (model X.prog X.w) X.A (spliced (backTo pos (starEach es X.env))) (AP X pins σ Q) X.xe s
def PS(X:Cx)(st:Stmt)(t:TS):Prop:=
 ∀(pins:Ny) (s:Shared) (σ:St) (H:Hp) (D:Ends),Inv X pins σ H s->t D σ H->wpAny (model X.prog X.w) X.A (exec st X.env) (SP X pins D) X.xe s
def lN(X:Cx)(st:List Stmt)(t:TS):Prop:=
 ∀(pins:Ny) (s:Shared) (σ:St) (H:Hp) (D:Ends),Inv X pins σ H s->t D σ H->wpAny (model X.prog X.w) X.A (execs st X.env) (SP X pins D) X.xe s
def cM{c:Type}{t:Sem c}{Q b:c->Shared->Prop}{M:Model}{A:Around}{E:Nz}{s:Shared}(h:wpAny M A t Q E s)(d:∀a s,Q a s->b a s):wpAny M A t b E s:=wpAny_mono h d λq q x=>x
section
variable{X:Cx}
def eC(i:Nat):TE:=λσ H Q=>∃v,σ[i]?=some (some v)/\Q v H
def tC(v:V):TE:=λq H Q=>Q v H
def LD(n:X.N[i]?=some x)(t:si X.env.scope x)(j:(x==("__debug__" : Str))=false:=by decide)(g:(x==("__classdict__" : Str))=false:=by decide):PE X (.Name x pos) (eC i):=by
 intro f s w H Q I h;let⟨v,e,h⟩:=h;let⟨m,q,o⟩:=I.loc;let⟨u,r,l⟩:=o i x v n e t;have b:EP X f w Q u s:=⟨v,H,I,r,h⟩
 rcases l with⟨d,p⟩ | ⟨d,c,k,a⟩
 .exact wpAny_Name (wpAny_loadName_local I.ok.kind d q p b) j
 .rcases d with d | d
  .exact wpAny_Name (wpAny_loadName_cell I.ok.kind d k a b) j
  .exact wpAny_Name (wpAny_loadName_free I.ok.kind d k a b g) j
def jd{i j pos}:PE X (.Constant (.int i) j pos) (tC (.int i)):=λq q q H q I h=>wpAny_Constant_int ⟨.int i,H,I.tok _,⟨_,rfl⟩,h⟩
def kc{b j pos}:PE X (.Constant (.bool b) j pos) (tC (.bl b)):=λq q q H q I h=>Constant_bool ⟨.bl b,H,I,rfl,h⟩
def zL{j pos}:PE X (.Constant .none j pos) (tC .cW):=λq q q H q I h=>Constant_none ⟨.cW,H,I,rfl,h⟩
def jI{x j pos}:PE X (.Constant (.str x) j pos) (tC (.str x)):=λq q q H q I h=>Calls.Constant_str ⟨.str x,H,I.tok _,⟨_,rfl⟩,h⟩
def Gl(X:Cx)(x:Str):Prop:=X.env.kindOf x=some .globalImplicit
def XR{E:Nz}{d:St}{H:Hp}{Q:Nz}(I:Inv X pins d H s)(b:Gl X x)(c:X.mg x=some u)(h:Q u s)
  (a:(x==("__debug__" : Str))=false:=by decide):wpAny (model X.prog X.w) X.A (eval (.Name x pos) X.env) Q E s:=
 Calls.Name_function_global I.ok.kind b (Calls.loadGlobal_global (by rw[I.ok.glob];exact I.mod.glob.keeps I.bk) c h) a
def ZU{E:Nz}{i:St}{H:Hp}{Q:Nz}(I:Inv X pins i H s)(d:Gl X x)(e:X.mg x=none)(g:bootBuiltins x=some u)(h:Q u s)
  (f:x≠"__name__":=by decide) (c:(x==("__debug__" : Str))=false:=by decide):wpAny (model X.prog X.w) X.A (eval (.Name x pos) X.env) Q E s:=by
 let⟨j,a,b⟩:=I.mod.blt;exact Calls.Name_function_global I.ok.kind d (Calls.loadGlobal_builtin (by rw[I.ok.glob];exact I.mod.glob.keeps I.bk) e (by rw[I.ok.blt];exact a.keeps I.bk) ((b x f).trans g) h) c
def IB(b:Gl X x)(c:X.mg x=some u)(r:RelV v u)(a:(x==("__debug__" : Str))=false:=by decide):PE X (.Name x pos) (tC v):=
 λq q q H q I h=>XR I b c ⟨v,H,I,r,h⟩ a
def B3(b:Gl X x)(c:X.mg x=none)(e:bootBuiltins x=some u)(r:RelV v u)(d:x≠"__name__":=by decide)(a:(x==("__debug__" : Str))=false:=by decide):PE X (.Name x pos) (tC v):=
 λq q q H q I h=>ZU I b c e ⟨v,H,I,r,h⟩ d a
variable{a b:Expr}{ta tb:TE}{pos:Pos}
def tB(t:TE):TT:=λσ H Q=>t σ H λx H1=>∃c,x = .bl c/\Q c H1
def Yr{e:Expr}{t:TE}(h:PE X e t)(g:∀a,isTrue e X.env a=(do let v <-a;standAt e.pos;holding [v] (truthy v)):=by intro Z;rfl):PT X e (tB t):=by
 intro b s l H Q I i;refine isTrue_plain (cM (h b s l H _ I i) λv m z_=>?_) (g _);obtain⟨x,c,f,k,j⟩:=z_;let⟨d,rfl,q⟩:=j;cases k;exact wpAny_truthy_bool ⟨c,f,q⟩
variable{tA tB':TT}{rest:Nt}
def tE(t u:TT):TT:=λσ H Q=>t σ H λc H1=>if c=true then u σ H1 Q else Q false H1
def DE(t u:TT):TT:=λσ H Q=>t σ H λc H1=>if c=true then Q true H1 else u σ H1 Q
def tL(t:TT):TT:=λσ H Q=>t σ H λc H1=>Q (!c) H1
def QC(d:PT X a tA):PW X (.BoolOp .And [a] pos) tA:=by
 intro i b s f H Q I h;refine isTrue_and (cM (d b s f H Q I h) λc g e=>?_);cases c with
 | true=>exact isTrue_and_nil e
 | false=>exact e
def WS(d:PT X a tA):PW X (.BoolOp .Or [a] pos) tA:=by
 intro i b s f H Q I h;refine isTrue_or (cM (d b s f H Q I h) λc g e=>?_);cases c with
 | false=>exact isTrue_or_nil e
 | true=>exact e
def Q1(j:PT X a tA)(k:PW X (.BoolOp .And (b::rest) pos) tB'):PW X (.BoolOp .And (a::b::rest) pos) (tE tA tB'):=by
 intro m d s i H Q I h;refine isTrue_and (cM (j d s i H _ I h) λc l z_=>?_);obtain⟨e,f,g⟩:=z_;cases c with
 | true=>exact k m d l i e Q f g
 | false=>exact⟨e,f,g⟩
def WR(j:PT X a tA)(k:PW X (.BoolOp .Or (b::rest) pos) tB'):PW X (.BoolOp .Or (a::b::rest) pos) (DE tA tB'):=by
 intro m d s i H Q I h;refine isTrue_or (cM (j d s i H _ I h) λc l z_=>?_);obtain⟨e,f,g⟩:=z_;cases c with
 | true=>exact⟨e,f,g⟩
 | false=>exact k m d l i e Q f g
def ZW(e:PT X a tA):PT X (.UnaryOp .Not a pos) (tL tA):=by
 intro b s f H Q I h;exact isTrue_not (e b s f H (λc d=>Q (!c) d) I h)
def pA(ta tb:TE):TE:=λσ H Q=>ta σ H λx H1=>∃c,x = .bl c/\if c=true then tb σ H1 Q else Q (.bl false) H1
def pJ(ta:TE):TE:=λσ H Q=>ta σ H λx H1=>∃c,x = .bl c/\Q (.bl (!c)) H1
def Dg{op}(h:PE X a t):PE X (.BoolOp op [a] pos) t:=λb s d H Q I c=>BoolOp_one (h b s d H Q I c)
def Df(j:PE X a ta)(k:PE X (.BoolOp .And (b::rest) pos) tb):PE X (.BoolOp .And (a::b::rest) pos) (pA ta tb):=by
 intro d s i H Q I h;refine BoolOp_and (cM (j d s i H _ I h) λv m z_=>?_);obtain⟨x,f,g,l,e⟩:=z_;let⟨c,rfl,e⟩:=e;cases l;refine wpAny_truthy_bool ?_;cases c with
 | true=>exact k d m i f Q g e
 | false=>exact⟨.bl false,f,g,rfl,e⟩
def LB(g:PE X a ta):PE X (.UnaryOp .Not a pos) (pJ ta):=by
 intro b s j H Q I h;refine UnaryOp_ (cM (g b s j H _ I h) λv k z_=>?_);obtain⟨x,e,f,i,d⟩:=z_;let⟨c,rfl,d⟩:=d;cases i;exact not_of (wpAny_truthy_bool ⟨.bl (!c),e,f,rfl,d⟩)
def DD(t:TT)(ta tb:TE):TE:=λσ H Q=>t σ H λc H1=>if c=true then ta σ H1 Q else tb σ H1 Q
def Zx{c:Expr}(n:PT X c tA)(l:PE X a ta)(m:PE X b tb):PE X (.IfExp c a b pos) (DD tA ta tb):=by
 intro e s f H Q I h;refine wpAny_IfExp (cM (n e s f H _ I h) λd k z_=>?_);obtain⟨g,i,j⟩:=z_;cases d with
 | true=>exact l e k f g Q i j
 | false=>exact m e k f g Q i j
end
def bZ(K:cA)(H:Hp)(a:Addr)(xs:N2):Prop:=
 Rd H a (.lst xs)\/
  ∃(o:Obj) (its:Array Value) (n:Nat),K.lookup a=some o/\o.cls = .type "list"/\o.dict=none/\o.data = .seq its n/\its.size<=sizeLine/\Vals xs its.toList
def cU(K:cA)(H:Hp)(a:Addr)(xs:N2):Prop:=
 Rd H a (.tup xs)\/
  ∃(o:Obj) (its:Array Value) (n:Nat),K.lookup a=some o/\o.cls = .type "tuple"/\o.data = .seq its n/\its.size<=sizeLine/\Vals xs its.toList
noncomputable def uS:Value->N3
 | .none=>some .cW
 | .bool b=>some (.bl b)
 | .int i _=>~~~i
 | .str x _=>some (.str x)
 | .bytes b _=>some (.lC b)
 | .float b _=>some (.rd b)
 | .ref a=>↥a
 | .type n=>some (.ty n)
 | _=>none
def RelV.abs(r:RelV x u):uS u=some x:=by
 cases x with
 | cW=>cases r;rfl
 | bl _=>cases r;rfl
 | int _=>let⟨t,rfl⟩:=r;rfl
 | str _=>let⟨t,rfl⟩:=r;rfl
 | lC _=>let⟨t,rfl⟩:=r;rfl
 | rd _=>let⟨t,rfl⟩:=r;rfl
 | ref _=>cases r;rfl
 | ty _=>cases r;rfl
def RelV.inj(r:RelV x u)(q:RelV y u):x=y:=vL (r.abs.symm.trans q.abs)
def Vals.inj:∀{xs ys:N2} {us:L9},Vals xs us->Vals ys us->xs=ys:=by
 intro xs ys us h
 induction h generalizing ys with
 | nil=>intro k;cases k;rfl
 | cons r t ih=>
  intro k;cases k with
  | cons r' t'=>rw[r.inj r',ih t']
section
variable{X:Cx}{pins:Ny}{σ:St}{H:Hp}{s:Shared}{a:Addr}{xs ys:N2}
def bZ.of{K:cA}(h:H a=some (.lst xs)):bZ K H a xs:=.inl (.inl h)
def cU.of{K:cA}(h:H a=some (.tup xs)):cU K H a xs:=.inl (.inl h)
def Inv.list(I:Inv X pins σ H s)(h:bZ X.K H a xs):∃b:L9,Vals xs b/\PlainL s.heap a b.toArray/\⇑xs<=sizeLine:=by
 rcases h with h | ⟨o,b,n,f,c,d,g,i,r⟩
 .let⟨z,b,n,r,e⟩:=h.ok I.cJ;exact⟨b,r,⟨_,n,e,rfl,rfl,rfl⟩,z⟩
 .refine⟨b.toList,r,⟨o,n,I.g8 a o f,c,d,#v[g]⟩,?_⟩;have e:=⇑r;simp only[Array.length_toList]at e;lia
def Inv.tuple(I:Inv X pins σ H s)(h:cU X.K H a xs):∃b:L9,Vals xs b/\IsTup s.heap a b.toArray/\⇑xs<=sizeLine:=by
 rcases h with h | ⟨o,b,n,d,c,f,g,r⟩
 .let⟨z,b,r,p⟩:=h.ok I.cJ;exact⟨b,r,p,z⟩
 .refine⟨b.toList,r,⟨o,I.g8 a o d,c,n,#v[f]⟩,?_⟩;have e:=⇑r;simp only[Array.length_toList]at e;lia
def Inv.fg(I:Inv X pins σ H s)(h:bZ X.K H a xs)(h':bZ X.K H a ys):xs=ys:=by
 let⟨c,r,⟨o,n,e,q,q,d⟩,q⟩:=I.list h;let⟨b,i,⟨k,j,g,q,q,f⟩,q⟩:=I.list h';rw[e]at g;cases g;rw[d]at f;injection f with d1 _;have:c=b:=by simpa using congrArg Array.toList d1
 subst this;exact r.inj i
def Inv.mR(I:Inv X pins σ H s)(h:cU X.K H a xs)(h':cU X.K H a ys):xs=ys:=by
 let⟨c,r,⟨o,e,q,n,d⟩,q⟩:=I.tuple h;let⟨b,i,⟨k,g,q,j,f⟩,q⟩:=I.tuple h';rw[e]at g;cases g;rw[d]at f;injection f with d1 _;have:c=b:=by simpa using congrArg Array.toList d1
 subst this;exact r.inj i
end
noncomputable abbrev Cx.iO(X:Cx)(E:Nz):Cx:={X with xe:=E}
noncomputable abbrev Cx.lu(X:Cx):Cx:=X.iO λq q=>False
def Cx.Ok.iO{X:Cx}(a:X.Ok)(E:Nz):(X.iO E).Ok:=
 ⟨a.mod,a.kind,a.glob,a.blt,a.above,a.inj,a.has,a.rN,a.hd,a.frames,a.tD,a.vQ,a.bs,a.oa,a.mN,a.nI,a.gE,a.oW⟩
def Cx.Ok.fB{X:Cx}{E:Nz}(a:(X.iO E).Ok):X.Ok:=
 ⟨a.mod,a.kind,a.glob,a.blt,a.above,a.inj,a.has,a.rN,a.hd,a.frames,a.tD,a.vQ,a.bs,a.oa,a.mN,a.nI,a.gE,a.oW⟩
section
variable{X:Cx}{pins:Ny}{σ:St}{H:Hp}{s:Shared}{E:Nz}
def Inv.iO(I:Inv X pins σ H s)(E:Nz):Inv (X.iO E) pins σ H s:=⟨I.ok.iO E,I.os,I.bare,I.base,I.loc,I.cell,I.free,I.fe,I.pin,I.cJ,I.len⟩
def Inv.fB(I:Inv (X.iO E) pins σ H s):Inv X pins σ H s:=⟨I.ok.fB,I.os,I.bare,I.base,I.loc,I.cell,I.free,I.fe,I.pin,I.cJ,I.len⟩
def SP.fB(h:SP (X.iO E) pins D f s'):SP X pins D f s':=by
 cases f with
 | next=>let⟨a,b,I,q⟩:=h;exact⟨a,b,I.fB,q⟩
 | brk=>let⟨a,b,I,q⟩:=h;exact⟨a,b,I.fB,q⟩
 | cont=>let⟨a,b,I,q⟩:=h;exact⟨a,b,I.fB,q⟩
 | ret u=>let⟨v,a,b,I,r,q⟩:=h;exact⟨v,a,b,I.fB,r,q⟩
def lN.lu{st:List Stmt}{t:TS}(h:lN X.lu st t):lN X st t:=λa s c H D I b=>
 wpAny_mono (h a s c H D (I.iO _) b) (λj j q=>q.fB) λj j z=>False.elim z
end
section
variable{X:Cx}{st:Stmt}{rest:List Stmt}{t u:TS}{e:Expr}{te:TE}{pos:Pos}
def pH:TS:=λD σ H=>D.nx σ H
def tO(t u:TS):TS:=λD σ H=>t {D with nx:=u D} σ H
def jB:lN X [] pH:=λq q a H q I h=>wpAny_execs_nil ⟨a,H,I,h⟩
def jb(e:PS X st t)(g:lN X rest u):lN X (st::rest) (tO t u):=by
 intro a s j H D I h;refine wpAny_execs_cons (cM (e a s j H {D with nx:=u D} I h) λf i q=>?_);cases f with
 | next=>
  let⟨b,c,d,q⟩:=q;exact g a i b c D d q
 | ret v=>exact q
 | brk=>exact q
 | cont=>exact q
def jf(b:PS X st t):lN X [st] t:=by
 intro a s c H D I h;refine wpAny_execs_cons (cM (b a s c H D I h) λf d q=>?_);cases f with
 | next=>exact wpAny_execs_nil q
 | ret v=>exact q
 | brk=>exact q
 | cont=>exact q
def Inv.quiet{a:St}{H:Hp}(I:Inv X pins a H s):interactive X.env=false:=by simp[interactive,I.ok.kind]
def pE(te:TE):TS:=λD σ H=>te σ H λq H1=>D.nx σ H1
def j5(f:PE X e te)(g:swapsWith e none pos.line X.env=pure false:=by rfl):PS X (.Expr e pos) (pE te):=by
 intro a s b H D I h;refine wpAny_Expr_any (cM (f a s b H _ I h) λv k z_=>?_) I.quiet g;let⟨x,c,d,j,i⟩:=z_;exact⟨b,c,d,i⟩
def tN(te:TE):TS:=λD σ H=>te σ H D.rt
def jx(f:PE X e te):PS X (.Return (some e) pos) (tN te):=by
 intro a s b H D I h;refine wpAny_Return_some (cM (f a s b H _ I h) λv j z_=>?_);let⟨x,c,d,i,g⟩:=z_;exact⟨x,b,c,d,i,g⟩
def rA(c:TT)(t u:TS):TS:=λD σ H=>c σ H λb H1=>if b=true then t D σ H1 else u D σ H1
def Ja{c:Expr}{a b:List Stmt}{l:TT}(o:PT X c l)(m:lN X a t)(n:lN X b u):PS X (.If c a b pos) (rA l t u):=by
 intro e s f H D I h;refine wpAny_If (cM (o e s f H _ I h) λd k z_=>?_);obtain⟨g,i,j⟩:=z_;cases d with
 | true=>exact m e k f g D i j
 | false=>exact n e k f g D i j
def rB:TS:=λq q q=>False
def Yp:PS X st rB:=λq q q q q q h=>h.elim
end
noncomputable abbrev TG:=V->St->Hp->(St->Hp->Prop)->Prop
noncomputable abbrev rL:=N2->St->Hp->(St->Hp->Prop)->Prop
def PG(X:Cx)(target:Expr)(t:TG):Prop:=
 ∀(pins:Ny) (s:Shared) (σ:St) (H:Hp) (v:V) (u:Value) (Q:St->Hp->Prop),Inv X pins σ H s->RelV v u->t v σ H Q->
  wpAny (model X.prog X.w) X.A (assign target X.env u) (λq s'=>∃S' H',Inv X pins S' H' s'/\Q S' H') X.xe s
def tY(X:Cx)(ts:Nt)(t:rL):Prop:=
 ∀(pins:Ny) (s:Shared) (σ:St) (H:Hp) (vs:N2) (us:L9) (Q:St->Hp->Prop),Inv X pins σ H s->Vals vs us->t vs σ H Q->
  wpAny (model X.prog X.w) X.A (assignInOrder ((assignEach ts X.env).map (·.2)) us) (λq s'=>∃S' H',Inv X pins S' H' s'/\Q S' H') X.xe s
noncomputable abbrev pW:=V->V->V->Hp->(Hp->Prop)->Prop
def r9(X:Cx)(t:pW):Prop:=
 ∀(pins:Ny) (s:Shared) (σ:St) (H:Hp) (o i v:V) (ov iv u:Value) (Q:Hp->Prop),Inv X pins σ H s->RelV o ov->RelV i iv->RelV v u->t o i v H Q->
  wpAny (model X.prog X.w) X.A (setItem ov iv u) (λq s'=>∃H',Inv X pins σ H' s'/\Q H') X.xe s
noncomputable abbrev tZ:=V->V->Hp->VK->Prop
def A6(X:Cx)(op:Operator)(t:tZ):Prop:=
 ∀(pins:Ny) (s:Shared) (σ:St) (H:Hp) (x y:V) (v u:Value) (Q:VK),Inv X pins σ H s->RelV x v->RelV y u->t x y H Q->
  wpAny (model X.prog X.w) X.A (inplaceOp op v u) (EP X pins σ Q) X.xe s
section
variable{X:Cx}{pos:Pos}
def cv(i:Nat):TG:=λv σ H Q=>Q (σ.set i (some v)) H
def jt(c:X.N.Nodup)(hi:X.N[i]?=some x)(e:Loc X.env.scope x)(d:X.fn x=true\/X.env.scope.names.lookup x=some .local:=by and_intros):PG X (.Name x pos) (cv i):=by
 intro a s g H v u Q I r h;exact wpAny_assign_Name (W2 I c hi e r (λf b=>⟨_,H,b,h⟩) d)
def cN(i:Nat)(c:X.N.Nodup)(hi:X.N[i]?=some x:=by exact rfl)(e:Loc X.env.scope x:=by exact .inl rfl)(d:X.fn x=true\/X.env.scope.names.lookup x=some .local:=by and_intros):PG X (.Name x pos) (cv i):=jt (i:=i) c hi e d
def mJ:rL:=λvs σ H Q=>vs=[]/\Q σ H
def dO(t:TG)(u:rL):rL:=λvs σ H Q=>∃v r,vs=v::r/\t v σ H λS' H'=>u r S' H' Q
def Jw:tY X [] mJ:=by
 intro a s b H d c Q I r h;let⟨e,h⟩:=h;subst e;cases r;exact assignInOrder_nil ⟨b,H,I,h⟩
def jA{e:Expr}{b:Nt}{t:TG}{u:rL}(i:PG X e t)(j:tY X b u)
  (k:(assignEach (e::b) X.env).map (·.2)=assign e X.env::(assignEach b X.env).map (·.2):=by rfl):tY X (e::b) (dO t u):=by
 intro a s n H q o Q I r h;let⟨v,p,g,h⟩:=h;subst g;cases r with
 | cons r rr=>
  rw[k];refine assignInOrder_cons (cM (i a s n H _ _ _ I r h) λZ m z_=>?_);obtain⟨c,d,f,l⟩:=z_;exact j a m c d _ _ Q f rr l
def mK(K:cA)(n:Nat)(t:rL):TG:=λv σ H Q=>∃a xs,v = .ref a/\cU K H a xs/\⇑xs=n/\t xs σ H Q
def J1(p:X.calm=true)(h:tY X es t)
  (w:⇑(assignEach es X.env)=n:=by rfl) (d:(assignEach es X.env).findIdx? (·.1)=none:=by rfl):PG X (.Tuple es k pos) (mK X.K n t):=by
 intro c s i H v u Q I r f;let⟨a,B,l,x,q,f⟩:=f;subst l;cases r;let⟨A,g,y,C⟩:=I.tuple x;refine assign_Tuple_tuple (I.ok.hd p) y (by simp[w,<-q,⇑g]) d λm z=>?_
 have j:Inv X c i H {s with heap:=m}:=I.kept (t':=s.toks) λb o e=>z b o (vE (vI e)) e
 exact h c _ i H B _ Q j #v[g] f
def sA(to ti:TE)(t:pW):TG:=λv σ H Q=>to σ H λo H1=>ti σ H1 λi H2=>t o i v H2 λH3=>Q σ H3
def wE{o i:Expr}{e d:TE}{t:pW}(p:PE X o e)(hi:PE X i d)(q:r9 X t)
  (n:∀v,assign (.Subscript o i pos) X.env v=(do
   let ov <-holding [v] (eval o X.env)
   let b <-holding [v,ov] (eval i X.env)
   standAt pos
   holding [v,ov,b] (setItem ov b v)
   release [v,ov,b] []):=by intro Z;rfl):PG X (.Subscript o i pos) (sA e d t):=by
 intro a s c H v u Q I r h;rw[n];refine uh (wpAny_holding (cM (p a s c H _ I h) λov D z_=>?_));obtain⟨x,f,k,B,w⟩:=z_;refine uh (wpAny_holding (cM (hi a D c f _ k w) λb E z_=>?_));obtain⟨y,g,l,C,z⟩:=z_;refine uh (wpAny_standAt (uh (wpAny_holding (cM (q a E c g x y v ov b u _ l B C r z) λZ J z_=>?_))));obtain⟨j,m,A⟩:=z_;exact wpAny_release ⟨c,j,m,A⟩
def nO(te:TE)(g:TG):TS:=λD σ H=>te σ H λx H1=>g x σ H1 D.nx
def kK{b e:Expr}{c:TE}{g:TG}(k:PE X e c)(l:PG X b g)(m:swapsWithSole [b] e pos.line X.env=pure false:=by rfl)(hw:swappedStores [b] e X.env=pure none:=by rfl)
  (j:(assignEach [b] X.env).map (·.2)=[assign b X.env]:=by rfl):PS X (.Assign [b] e pos) (nO c g):=by
 intro a s d H D I h;refine wpAny_Assign_stores (cM (k a s d H _ I h) λv p z_=>?_) m hw;obtain⟨x,f,i,o,n⟩:=z_;rw[j];exact cM (l a p d f x v _ i o n) λZ r q=>q
def jq{i:Nat}{x:Str}{e:Expr}{c:TE}{a:Pos}(j:X.N.Nodup)(hi:X.N[i]?=some x)(n:Loc X.env.scope x)(k:PE X e c)(m:swapsWith e (some (.Name x a)) pos.line X.env=pure false:=by rfl)(l:X.fn x=true\/X.env.scope.names.lookup x=some .local:=by and_intros) :
  PS X (.Assign [.Name x a] e pos) (nO c (cv i)):=by
 intro b s q H D I h;refine wpAny_Assign_Name (cM (k b s q H _ I h) λv r z_=>?_) m;obtain⟨y,d,f,p,o⟩:=z_;exact W2 f j hi n p (λt g=>⟨_,d,g,o⟩) l
def cz(i:Nat){x:Str}{e:Expr}{c:TE}{a:Pos}(j:X.N.Nodup)(k:PE X e c)(hi:X.N[i]?=some x:=by exact rfl)(n:Loc X.env.scope x:=by exact .inl rfl)(m:swapsWith e (some (.Name x a)) pos.line X.env=pure false:=by rfl)(l:X.fn x=true\/X.env.scope.names.lookup x=some .local:=by and_intros) : PS X (.Assign [.Name x a] e pos) (nO c (cv i)):=jq (i:=i) j hi n k m l
def tF(i:Nat)(te:TE)(ti:tZ):TS:=λD σ H=>∃x,σ[i]?=some (some x)/\te σ H λy H1=>ti x y H1 λz H2=>D.nx (σ.set i (some z)) H2
def wF{i:Nat}{x:Str}{e:Expr}{t:TE}{o:Operator}{A:tZ}{f:Pos}(N:X.N.Nodup)(hi:X.N[i]?=some x)(n:Loc X.env.scope x)(P:PE X e t)(U:A6 X o A)(Q:X.fn x=true\/X.env.scope.names.lookup x=some .local:=by and_intros) :
  PS X (.AugAssign (.Name x f) o e pos) (tF i t A):=by
 intro a s B H D I h;let⟨v,M,h⟩:=h;let⟨m,T,R⟩:=I.loc;have p:si X.env.scope x:=by rcases n with k | k;exact .inl k;exact .inr (.inl k)
 let⟨u,r,l⟩:=R i x v hi M p;refine wpAny_AugAssign_Name ?_;have q:wpAny (model X.prog X.w) X.A (eval e X.env) (λw g=>wpAny (model X.prog X.w) X.A (inplaceOp o u w) (λr j=>wpAny (model X.prog X.w) X.A (storeName X.env x r) (λ_=>SP X a D .next) X.xe j) X.xe g) X.xe s:=by
  refine cM (P a s B H _ I h) λw s1 z_=>?_;obtain⟨y,C,J,Z,W⟩:=z_
  refine cM (U a s1 B C v y u w _ J r Z W) λz s2 z_=>?_;obtain⟨zv,E,K,r2,Y⟩:=z_
  exact W2 K N hi n r2 (λs3 L=>⟨_,E,L,Y⟩) Q
 rcases l with⟨b,S⟩ | ⟨b,c,O,d⟩
 .exact wpAny_loadName_local I.ok.kind b T S q
 .rcases b with b | b
  .exact wpAny_loadName_cell I.ok.kind b O d q
  .rcases n with k | k
   .have:X.env.scope.names.lookup x=some .free:=b;rw[k]at this;cases this
   .have:X.env.scope.names.lookup x=some .free:=b;rw[k]at this;cases this
noncomputable def Bf(f:Int->Int->Int):tZ:=λx y H Q=>∃i j,x = .int i/\y = .int j/\Q (.int (f i j)) H
def wm:A6 X .Add (Bf λi j=>i+j):=by
 intro a s g H x y v u Q I d e h;let⟨i,j,b,c,q⟩:=h;subst b;subst c;let⟨t,rfl⟩:=d;let⟨f,rfl⟩:=e;exact iadd_int ⟨.int _,H,I.tok _,⟨_,rfl⟩,q⟩
def rC(c:TT)(tb:TS):TS:=λD σ H=>∃W:Nat->St->Hp->Prop,(∃m,W m σ H)/\∀m σ H,W m σ H->
 c σ H λb H1=>if b=true then∃N:St->Hp->Prop,(∀S' H',N S' H'->∃m',m'<m/\W m' S' H')/\tb {D with nx:=N,ct:=N,bk:=D.nx} σ H1 else D.nx σ H1
def Yq{c:Expr}{g:List Stmt}{C:TT}{B:TS}(A:PassesOwn (model X.prog X.w) X.A X.env X.xe)(K:PT X c C)(J:lN X g B):PS X (.While c g [] pos) (rC C B):=by
 intro a s S H D I h;let⟨W,⟨L,Q⟩,j⟩:=h;refine wpAny_While (codeAny_whileLoop (λn M=>∃k u,Inv X a k u M/\W n k u) ?_ L ⟨S,H,I,Q⟩);rintro n O ⟨e,w,E,R⟩;refine wpAny_passesOwn A (cM (K a O e w _ E (j n e w R)) λb P z_=>?_);obtain⟨x,y,l⟩:=z_;cases b with
 | true=>
  let⟨N,z,l⟩:=l;rw[vd rfl];refine wpAny_passesOwn A (cM (J a P e x _ y l) λf T m=>?_);cases f with
  | next=>
   let⟨d,i,o,r⟩:=m;let⟨q,p,t⟩:=z d i r;exact⟨q,p,d,i,o,t⟩
  | cont=>
   let⟨d,i,o,r⟩:=m;let⟨q,p,t⟩:=z d i r;exact⟨q,p,d,i,o,t⟩
  | brk=>exact m
  | ret v=>exact m
 | false=>
  rw[vc vF];exact wpAny_execs_nil ⟨e,x,y,l⟩
end
structure It where
 go:Nat->Hp->Prop
 lA:Nat->Hp->V->Hp->Prop
 stop:Nat->Hp->Prop
def fI(X:Cx)(pins:Ny)(H:Hp)(b:Addr):Prop:=
 H b=none/\b≠X.env.locals/\b∉X.fs/\(b∈X.ex\/X.s₀.heap.objs.size<=b)/\(∀x c,X.env.cells.lookup x=some c->c≠b)/\∀p∈X.pn++pins,p.1≠b
def Inv.gC{g:St}{H H':Hp}(I:Inv X pins g H s)(a:s.heap.objs.size<=b)(d:H' b=none):fI X pins H' b:=by
 refine⟨d,vN (Nat.lt_of_lt_of_le I.lt a),I.AV a,.inr (vV I.sz a),λx c e z=>?_,λp f z=>?_⟩
 .let⟨v,q⟩:=I.cell x c e;exact uf (Nat.lt_of_lt_of_le q.lt (by rw[z];exact a)) (Nat.lt_irrefl _)
 .exact uf (Nat.lt_of_lt_of_le (vI (I.pin p f).1) (by rw[z];exact a)) (Nat.lt_irrefl _)
structure Turn(P:Program)(w:World)(K:cA)(tg:Expr)(J:It)(fp:L7)(it:Addr)(tn:Nat->Heap->Prop):Prop where
 mem:it∈fp
 obj:∀i h,tn i h->∀b∈fp,∃o,h.get? b=some o/\∀v,o.data≠.cell v
 keep:∀i h h',tn i h->(∀b∈fp,∀o,h.get? b=some o->h'.get? b=some o)->tn i h'
 item:∀(X:Cx),X.prog=P->X.w=w->X.K=K->X.calm=true->∀(i:Nat) (pins:Ny) (s:Shared) (σ:St) (H:Hp) (E:Nz),Inv X pins σ H s->(∀b∈fp,fI X pins H b)->tn i s.heap->J.go i H->
  wpAny (model P w) X.A (pyNext (.ref it)) (λr s1=>∃u,r=some u/\
   wpAny (model P w) X.A (letOwnedTupleGo tg (.ref it) u) (λ_ s2=>∃x H',Inv X pins σ H' s2/\RelV x u/\J.lA i H x H'/\tn (i+1) s2.heap/\∀b∈fp,H' b=none) E s1) E s
 done:∀(X:Cx),X.prog=P->X.w=w->X.K=K->X.calm=true->∀(i:Nat) (pins:Ny) (s:Shared) (σ:St) (H:Hp) (E:Nz),Inv X pins σ H s->(∀b∈fp,fI X pins H b)->tn i s.heap->J.stop i H->
  wpAny (model P w) X.A (pyNext (.ref it)) (λr s1=>r=none/\Inv X pins σ H s1) E s
 self:∀(A:Around) (i:Nat) (s:Shared) (Q:Nz) (E:Nz),tn i s.heap->Q (.ref it) s->wpAny (model P w) A (pyIter (.ref it)) Q E s
noncomputable abbrev TI:=St->Hp->(It->Hp->Prop)->Prop
def uO(X:Cx)(pins:Ny)(σ:St)(tg:Expr)(R:It->Hp->Prop)(itv:Value)(s2:Shared):Prop:=
 ∃(it:Addr) (fp:L7) (tn:Nat->Heap->Prop) (J:It) (H':Hp),itv = .ref it/\Inv X pins σ H' s2/\Turn X.prog X.w X.K tg J fp it tn/\tn 0 s2.heap/\(∀b∈fp,fI X pins H' b)/\R J H'
def PI(X:Cx)(tg iter:Expr)(wi:TI):Prop:=
 ∀(pins:Ny) (s:Shared) (σ:St) (H:Hp) (R:It->Hp->Prop),Inv X pins σ H s->wi σ H R->
  wpAny (model X.prog X.w) X.A (eval iter X.env) (λv s1=>wpAny (model X.prog X.w) X.A (pyIter v) (uO X pins σ tg R) X.xe s1) X.xe s
def sJ{E:Nz}{Q:Unit->Shared->Prop}(e:s.heap.get? it=some o)(b:o.cls = .type n)(c:o.data = .fields vs)
    (d:["enumerate","zip","dict_itemiterator","dict_reverseitemiterator","odict_iterator","itertools.zip_longest","itertools.pairwise"].contains n=false) (a:Q () s):wpAny M A (letOwnedTupleGo tg (.ref it) u) Q E s:=by
  unfold letOwnedTupleGo;cases tg<;>first
    | exact ug a
    | (cases u<;>first
        | exact ug a
        | (refine uh (wpAny_load e ?_)
           rw[b,c];show wpAny M A (if(["enumerate","zip","dict_itemiterator","dict_reverseitemiterator","odict_iterator","itertools.zip_longest","itertools.pairwise"].contains n&&vs[0]?==some (rawInt _))=true then _ else _) Q E s;rw[vc (by intro h;rw[d,Bool.false_and]at h;cases h)];exact ug a))
def oe(K:cA)(a:Addr):It:=
 ⟨λi H=>∃xs x,bZ K H a xs/\xs[i]?=some x,λi H x H'=>H'=H/\∀xs,bZ K H a xs->xs[i]?=some x,λi H=>∃xs,bZ K H a xs/\⇑xs<=i⟩
def rF(K:cA)(a:Addr):It:=
 ⟨λi H=>∃xs x,cU K H a xs/\xs[i]?=some x,λi H x H'=>H'=H/\∀xs,cU K H a xs->xs[i]?=some x,λi H=>∃xs,cU K H a xs/\⇑xs<=i⟩
def nY(lo:Int)(n:Nat):It:=⟨λi q=>i<n,λi H x H'=>H'=H/\x = .int (lo+i),λi q=>n<=i⟩
def FR{P:Program}{w:World}{K:cA}{tg:Expr}(a it:Addr):Turn P w K tg (oe K a) [it] it (λi h=>h.IsListIter it a i) where
 mem:=by simp
 obj:=λi h f b j=>by
  have e:b=it:=by simpa using j
  subst e;let⟨o,e,c,d⟩:=f;exact⟨o,e,λv z=>by rw[d]at z;cases z⟩
 keep:=λi h m f k=>f.at λo e=>k it (by simp) o e
 item:=by
  intro X D L C Q i g s R H E I n f J;subst D L C;let⟨xs,x,q,M⟩:=J;let⟨N,O,p,Z⟩:=I.list q;let⟨u,W,ru⟩:=O.get M;let⟨r,t,U,y,A,B⟩:=n it (by simp);refine wpAny_pyNext_list_item f p.isList (x:=u) #v[W] λm l sb=>?_
  have S:Inv X g R H {s with heap:=m}:=I.turned (t':=s.toks) (λb o j e=>(sb.2 b j).trans e) r t y A B;let⟨o,e,c,d⟩:=id l;exact⟨u,rfl,sJ (s:={s with heap:=m}) e c d nofun ⟨x,H,S,ru,⟨rfl,λys Y=>by rw[I.fg Y q];exact M⟩,l,λb j=>(n b j).1⟩⟩
 done:=by
  intro X D L C Q i g s R H E I n f J;subst D L C;let⟨xs,q,M⟩:=J;let⟨N,O,p,Z⟩:=I.list q;let⟨r,t,U,y,A,B⟩:=n it (by simp);have hl:=⇑O;exact wpAny_pyNext_list_end (I.ok.hd Q) f p.isList (by simp;lia) λm T=>⟨rfl,I.turned (t':=s.toks) (λb o j e=>T b o j e) r t y A B⟩
 self:=λ_ _ _ _ _ f h=>wpAny_pyIter_listiter f h
def EH{P:Program}{w:World}{K:cA}{tg:Expr}(a it:Addr):Turn P w K tg (rF K a) [it] it (λi h=>h.IsTupleIter it a i) where
 mem:=by simp
 obj:=λi h f b j=>by
  have e:b=it:=by simpa using j
  subst e;let⟨o,e,c,d⟩:=f;exact⟨o,e,λv z=>by rw[d]at z;cases z⟩
 keep:=λi h n f k=>f.at λo e=>k it (by simp) o e
 item:=by
  intro X J M D Q i g s R H E I q f L;subst J M D;let⟨xs,x,r,N⟩:=L;let⟨l,O,p,Z⟩:=I.tuple r;let⟨u,W,ru⟩:=O.get N;let⟨t,y,U,A,B,C⟩:=q it (by simp);refine wpAny_pyNext_tuple_item f (show s.heap.IsTuple a l.toArray from p) (x:=u) #v[W] λn m sb=>?_
  have S:Inv X g R H {s with heap:=n}:=I.turned (t':=s.toks) (λb o j e=>(sb.2 b j).trans e) t y A B C;let⟨o,e,c,d⟩:=id m;exact⟨u,rfl,sJ (s:={s with heap:=n}) e c d nofun ⟨x,H,S,ru,⟨rfl,λys Y=>by rw[I.mR Y r];exact N⟩,m,λb j=>(q b j).1⟩⟩
 done:=by
  intro X J M D Q i g s R H E I q f L;subst J M D;let⟨xs,r,N⟩:=L;let⟨l,O,p,Z⟩:=I.tuple r;let⟨t,y,U,A,B,C⟩:=q it (by simp);have hl:=⇑O;exact wpAny_pyNext_tuple_end (I.ok.hd Q) f (show s.heap.IsTuple a l.toArray from p) (by simp;lia) λn T=>⟨rfl,I.turned (t':=s.toks) (λb o j e=>T b o j e) t y A B C⟩
 self:=λ_ _ _ _ _ f h=>wpAny_pyIter_tupleiter f h
def EG{P:Program}{w:World}{K:cA}{Q:Expr}(it:Addr)(lo:Int)(n:Nat):Turn P w K Q (nY lo n) [it] it (λi h=>IsRangeIter h it (lo+(i:Nat)*1) ((n:Int)-(i:Nat)) 1) where
 mem:=by simp
 obj:=λi h a b d=>by
  have e:b=it:=by simpa using d
  subst e;exact⟨_,a,λv z=>by
   have R:Data.fields _=Data.cell v:=z;cases R⟩
 keep:=λi h g a k=>k it (by simp) _ a
 item:=by
  intro X x B u y i c s D H E I j a A;subst x B u;let⟨l,m,M,p,q,r⟩:=j it (by simp);have W:=Walks.range (prog:=X.prog) (w:=X.w) (I.ok.hd y) it lo 1 n;refine W.item i s _ _ A a λv g C N f O=>?_
  let⟨t,rfl⟩:=N;have J:Inv X c D H {s with heap:=g,toks:=C}:=I.turned (λb o d e=>O b o #v[d] e) l m p q r;refine⟨_,rfl,sJ (s:={s with heap:=g,toks:=C}) (n:="range_iterator") f rfl rfl nofun ⟨.int (lo+i),H,J,⟨t,?_⟩,⟨rfl,rfl⟩,f,λb d=>(j b d).1⟩⟩;rw[Int.mul_one]
 done:=by
  intro X x B u y i c s D H E I j a A;subst x B u;let⟨l,m,M,p,q,r⟩:=j it (by simp);exact wpAny_pyNext_range_end (I.ok.hd y) a (by have:n<=i:=A;lia) λg L=>⟨rfl,I.turned (t':=s.toks) (λb o d e=>L b o d e) l m p q r⟩
 self:=λZ Z Z Z Z a h=>wpAny_pyIter_rangeiter a h
section
variable{X:Cx}{tg:Expr}
def oZ(K:cA)(tl:TE):TI:=λσ H R=>tl σ H λx H1=>∃a,x = .ref a/\(∃xs,bZ K H1 a xs)/\R (oe K a) H1
def sE(K:cA)(tl:TE):TI:=λσ H R=>tl σ H λx H1=>∃a,x = .ref a/\(∃xs,cU K H1 a xs)/\R (rF K a) H1
def jQ{l:Expr}{g:TE}(k:PE X l g):PI X tg l (oZ X.K g):=by
 intro c s u H R I h;refine cM (k c s u H _ I h) λv f z_=>?_;obtain⟨x,i,d,t,r⟩:=z_
 let⟨a,e,⟨z,m⟩,q⟩:=r;subst e;cases t;let⟨n,y,p,w⟩:=d.list m;refine wpAny_pyIter_list p.isList ?_;refine⟨f.heap.objs.size,[f.heap.objs.size],_,_,i,rfl,d.kept (t':=f.toks) λb o e=>vJ _ e,FR a _,⟨_,Heap.get?_push_size _ rfl,rfl,rfl⟩,λb j=>?_,q⟩;have e:b=f.heap.objs.size:=by simpa using j
 subst e;exact d.gC (vb _) (d.cJ.fresh (vb _))
def uk{l:Expr}{i:TE}(m:PE X l i):PI X tg l (sE X.K i):=by
 intro c s u H R I h;refine cM (m c s u H _ I h) λv d z_=>?_;obtain⟨x,j,f,t,r⟩:=z_
 let⟨a,e,⟨z,n⟩,q⟩:=r;subst e;cases t;let⟨g,y,p,w⟩:=f.tuple n;refine wpAny_pyIter_tuple (show d.heap.IsTuple a g.toArray from p) ?_;refine⟨d.heap.objs.size,[d.heap.objs.size],_,_,j,rfl,f.kept (t':=d.toks) λb o e=>vJ _ e,EH a _,⟨_,Heap.get?_push_size _ rfl,rfl,rfl⟩,λb k=>?_,q⟩;have e:b=d.heap.objs.size:=by simpa using k
 subst e;exact f.gC (vb _) (f.cJ.fresh (vb _))
def Hg{a:Ny}{f:St}{H:Hp}{s:Shared}{R:It->Hp->Prop}{E:Nz}{lo hi:Int}{t u v:Tok}{d:Nat}(I:Inv X a f H s)(i : -(2^62)<=lo)(j:lo<2^62)(k : -(2^62)<=hi)(l:hi<2^62)
  (q:R (nY lo (hi-lo).toNat) H):wpAny (model X.prog X.w) X.A (pyIter (.ref s.heap.objs.size)) (uO X a f tg R) E {s with heap:=s.heap.push {cls:=.type "range",data:=.fields #[.int lo t,.int hi u,.int 1 v]},toks:=d}:=by
 refine wpAny_pyIter_range (IsRange.new ..) (small_one i j k l) ?_;have c:Inv X a f H {s with heap:=s.heap.push {cls:=.type "range",data:=.fields #[.int lo t,.int hi u,.int 1 v]},toks:=d}:=I.kept λb o e=>vJ _ e
 refine⟨(s.heap.push {cls:=.type "range",data:=.fields #[.int lo t,.int hi u,.int 1 v]}).objs.size,[(s.heap.push {cls:=.type "range",data:=.fields #[.int lo t,.int hi u,.int 1 v]}).objs.size],_,_,H,rfl,
  c.kept (t':=d) λb o e=>vJ _ e,EG _ lo (hi-lo).toNat,?_,λb m=>?_,q⟩
 .have g:lo+((0:Nat):Int)*1=lo:=by simp
  have h:(((hi-lo).toNat:Nat):Int)-((0:Nat):Int)=Builtin.Range.rangeSize lo hi 1:=by rw[rangeSize_one];split<;>lia
  show IsRangeIter _ _ (lo+((0:Nat):Int)*1) ((((hi-lo).toNat:Nat):Int)-((0:Nat):Int)) 1;rw[g,h];exact Heap.get?_push_size _ rfl
 .have e:b=(s.heap.push {cls:=.type "range",data:=.fields #[.int lo t,.int hi u,.int 1 v]}).objs.size:=by simpa using m
  subst e;exact c.gC (vb _) (c.cJ.fresh (vb _))
def pb(ta:TA):TI:=λσ H R=>ta σ H λvs H1=>∃j:Int,vs=[.int j]/\-(2^62)<=j/\j<2^62/\R (nY 0 j.toNat) H1
def QN{a:Expr}{f:TA}{p c:Pos}(k:Gl X "range")(l:X.mg "range"= none)(i:PA X [a] f)(m:starEach [a] X.env=[(false,eval a X.env)]:=by rfl):PI X tg (.Call (.Name "range" p) [a] [] c) (pb f):=by
 intro b s u H R I h;refine Call_ (ZU I k l boot_range (PyProof.Rows.callWith_type1 (cM (i c b s u H _ I h) λx w z_=>?_) m rfl));obtain⟨y,v,g,o,d⟩:=z_;let⟨j,e,d,n,q⟩:=d;subst e;cases o with
 | cons r rr=>
  cases rr;let⟨t,rfl⟩:=r;exact call_range_1 (Hg g ⋯ ⋯ d n #v[q])
def tH(wi:TI)(g:TG)(tb:TS):TS:=λD σ H=>wi σ H λJ H1=>∃W:Nat->Nat->St->Hp->Prop,(∃m,W 0 m σ H1)/\∀i m σ H,W i m σ H->
 (J.stop i H/\D.nx σ H)\/(J.go i H/\∃N:St->Hp->Prop,(∀S' H',N S' H'->∃m',m'<m/\W (i+1) m' S' H')/\∀x H',J.lA i H x H'->g x σ H' λσ2 H2=>tb {D with nx:=N,ct:=N,bk:=D.nx} σ2 H2)
noncomputable def ie(fp:L7)(h:Heap):Ny:=fp.filterMap λb=>(h.get? b).map λo=>(b,o)
def yH(a:b∈fp)(e:h.get? b=some o):(b,o)∈ie fp h:=mem_filterMap.mpr ⟨b,a,by rw[e];rfl⟩
def EU(d:p∈ie fp h):p.1∈fp/\h.get? p.1=some p.2:=by
 let⟨b,c,e⟩:=mem_filterMap.mp d;cases q:h.get? b with
 | none=>rw[q]at e;cases e
 | some o=>
  rw[q]at e;have a:(b,o)=p:=vL e;subst a;exact⟨c,q⟩
def Inv.pinned{f:St}{H:Hp}(I:Inv X pins f H s)(j:∀b∈fp,fI X pins H b)(k:∀b∈fp,∃o,s.heap.get? b=some o/\∀v,o.data≠.cell v):Inv X (pins++ie fp s.heap) f H s:=
 I.hH λp l=>(vh.mp l).elim (λz=>I.pin p (mem_append_right _ z)) λz=>by
  let⟨c,e⟩:=EU z;let⟨g,h,i,q⟩:=j p.1 c;let⟨o,a,d⟩:=k p.1 c;rw[e]at a;cases a;exact⟨e,g,h,i,d⟩
def Inv.iE{a:St}{H:Hp}(I:Inv X (pins++pl) a H s):Inv X pins a H s:=I.hH λp b=>I.pin p (mem_append_right _ (mem_append_left _ b))
def Jd{q:Expr}{A:List Stmt}{wi:TI}{g:TG}{tb:TS}{a0:Pos}(L:PassesOwn (model X.prog X.w) X.A X.env X.xe)(hc:X.calm=true)(hi:PI X tg q wi)(hg:PG X tg g)(p:lN X A tb)
  (hs:∀x,foldedSetIterable q X.env x=pure x:=by intro _;rfl):PS X (.For tg q A [] a0) (tH wi g tb):=by
 intro a s σ H D I h;refine wpAny_For (cM (hi a s σ H _ I h) λv s1 h1=>cM h1 λa3 s2 h2=>?_) hs;let⟨it,E,tn,J,H2,e,I2,T,a1,f2,W,⟨m0,w0⟩,R⟩:=h2;subst e;have t:∀{z:Hp},(∀b∈E,z b=none)->∀b∈E,fI X a z b:=λhn b p=>⟨hn b p,(f2 b p).2⟩
 refine codeAny_forLoop_any (λn s'=>∃i w z,Inv X a w z s'/\tn i s'.heap/\(∀b∈E,z b=none)/\W i n w z) ?_ m0 ⟨0,σ,H2,I2,a1,λb p=>(f2 b p).1,w0⟩;rintro n s3 ⟨i,y,S,I3,O,K,w3⟩;rcases R i n y S w3 with⟨Q,qn⟩ | ⟨go,N,hN,P⟩
 .refine wpAny_passesOwn L (cM (T.done X rfl rfl rfl hc i a s3 y S X.xe I3 (t K) O Q) λr s4 ⟨Z,I4⟩=>?_);subst Z;exact wpAny_execs_nil ⟨y,S,I4,qn⟩
 .refine wpAny_passesOwn L (cM (T.item X rfl rfl rfl hc i a s3 y S X.xe I3 (t K) O go) λr s4 ⟨u,Z,h4⟩=>?_);subst Z;refine wpAny_passesOwn L (cM h4 λ_ s5 z_=>?_);obtain⟨x,H5,I5,r5,y5,C,Y⟩:=z_;have U:=I5.pinned (t Y) (T.obj _ _ C);refine wpAny_passesOwn L (cM (hg _ s5 y H5 x u _ U r5 (P x H5 y5)) λ_ s6 z_=>?_);obtain⟨a2,H6,I6,q6⟩:=z_;refine wpAny_passesOwn L (cM (p _ s6 a2 H6 _ I6 q6) λf s7 B=>?_);have l:∀{c:St} {j:Hp},Inv X (a++ie E s5.heap) c j s7->N c j->∃m,m<n/\∃i w z,Inv X a w z s7/\tn i s7.heap/\(∀b∈E,z b=none)/\W i m w z:=λ{c j} k M=>by
   let⟨m',hm,w7⟩:=hN c j M;refine⟨m',hm,i+1,c,j,k.iE,T.keep _ _ _ C λb p o e=>(k.pin (b,o) (mem_append_right _ (mem_append_right _ (yH p e)))).1,λb p=>?_,w7⟩;let⟨o,e,d⟩:=T.obj _ _ C b p;exact(k.pin (b,o) (mem_append_right _ (mem_append_right _ (yH p e)))).2.1
  cases f with
  | next=>let⟨c,j,k,M⟩:=B;exact l k M
  | cont=>let⟨c,j,k,M⟩:=B;exact l k M
  | brk=>let⟨c,j,k,B⟩:=B;exact⟨c,j,k.iE,B⟩
  | ret v=>let⟨x7,c,j,k,r7,B⟩:=B;exact⟨x7,c,j,k.iE,r7,B⟩
end
def Ji{K:cA}{a:Addr}{xs:N2}{g:TG}{j:TS}{D:Ends}{b:St}{H:Hp}(c:Nat->St->Hp->Prop)(k:c 0 b H)(o:∀i b H,i<=⇑xs->c i b H->bZ K H a xs)
  (r:∀i x b H,xs[i]?=some x->c i b H->g x b H λd H2=>j {D with nx:=c (i+1),ct:=c (i+1),bk:=D.nx} d H2) (l:∀b H,c ⇑xs b H->D.nx b H) :
  ∃W:Nat->Nat->St->Hp->Prop,(∃m,W 0 m b H)/\∀i m b H,W i m b H->
   ((oe K a).stop i H/\D.nx b H)\/((oe K a).go i H/\∃N:St->Hp->Prop,(∀S' H',N S' H'->∃h,h<m/\W (i+1) h S' H')/\∀x H',(oe K a).lA i H x H'->g x b H' λd H2=>j {D with nx:=N,ct:=N,bk:=D.nx} d H2):=by
 refine⟨λi m b H=>m=⇑xs-i/\i<=⇑xs/\c i b H,⟨⇑xs,by simp,va _,k⟩,?_⟩;rintro i m b H ⟨rfl,n,p⟩;have q:=o i b H n p;by_cases f:i<⇑xs
 .refine .inr ⟨⟨xs,xs[i],q,by simp[f]⟩,c (i+1),λS' H' s=>⟨⇑xs-(i+1),⋯,rfl,f,s⟩,λx H' y=>?_⟩;let⟨e,y⟩:=y;subst e;exact r i x b _ (y xs q) p
 .have e:i=⇑xs:=⋯
  subst e;exact .inl ⟨⟨xs,q,vb _⟩,l b H p⟩
def zg{lo:Int}{n:Nat}{g:TG}{h:TS}{D:Ends}{a:St}{H:Hp}(b:Nat->St->Hp->Prop)(j:b 0 a H)
  (l:∀i a H,i<n->b i a H->g (.int (lo+i)) a H λd H2=>h {D with nx:=b (i+1),ct:=b (i+1),bk:=D.nx} d H2) (k:∀a H,b n a H->D.nx a H) :
  ∃W:Nat->Nat->St->Hp->Prop,(∃m,W 0 m a H)/\∀i m a H,W i m a H->
   ((nY lo n).stop i H/\D.nx a H)\/((nY lo n).go i H/\∃N:St->Hp->Prop,(∀S' H',N S' H'->∃f,f<m/\W (i+1) f S' H')/\∀x H',(nY lo n).lA i H x H'->g x a H' λd H2=>h {D with nx:=N,ct:=N,bk:=D.nx} d H2):=by
 refine⟨λi m a H=>m=n-i/\i<=n/\b i a H,⟨n,by simp,va _,j⟩,?_⟩;rintro i m a H ⟨rfl,q,p⟩;by_cases c:i<n
 .refine .inr ⟨c,b (i+1),λS' H' o=>⟨n-(i+1),⋯,rfl,c,o⟩,λx H' y=>?_⟩;let⟨e,y⟩:=y;subst e y;exact l i a _ c p
 .have e:i=n:=⋯
  subst e;exact .inl ⟨vb _,k a H p⟩
noncomputable abbrev R2:=V->V->Hp->VK->Prop
def fR(X:Cx)(f:Value->Value->Sem Value)(r:R2):Prop:=
 ∀(pins:Ny) (s:Shared) (σ:St) (H:Hp) (x y:V) (v u:Value) (Q:VK),Inv X pins σ H s->RelV x v->RelV y u->r x y H Q->
  wpAny (model X.prog X.w) X.A (f v u) (EP X pins σ Q) X.xe s
def uQ(X:Cx)(f:Value->Sem Value)(r:V->Hp->VK->Prop):Prop:=
 ∀(pins:Ny) (s:Shared) (σ:St) (H:Hp) (x:V) (v:Value) (Q:VK),Inv X pins σ H s->RelV x v->r x H Q->
  wpAny (model X.prog X.w) X.A (f v) (EP X pins σ Q) X.xe s
def dw(X:Cx)(f:Value)(r:N2->Hp->VK->Prop):Prop:=
 ∀(pins:Ny) (s:Shared) (σ:St) (H:Hp) (xs:N2) (us:L9) (Q:VK),Inv X pins σ H s->Vals xs us->r xs H Q->
  wpAny (model X.prog X.w) X.A (call f us) (EP X pins σ Q) X.xe s
def uP(X:Cx)(r:V->Hp->(Bool->Hp->Prop)->Prop):Prop:=
 ∀(pins:Ny) (s:Shared) (σ:St) (H:Hp) (x:V) (v:Value) (Q:Bool->Hp->Prop),Inv X pins σ H s->RelV x v->r x H Q->
  wpAny (model X.prog X.w) X.A (truthy v) (TP X pins σ Q) X.xe s
def tM(r:R2)(ta tb:TE):TE:=λσ H Q=>ta σ H λx H1=>tb σ H1 λy H2=>r x y H2 Q
def DH(r:V->Hp->VK->Prop)(ta:TE):TE:=λσ H Q=>ta σ H λx H1=>r x H1 Q
def rI(C:Int->Int->Prop)(g:Int->Int->V):R2:=λx y H Q=>∃i j,x = .int i/\y = .int j/\C i j/\Q (g i j) H
def oC(g:Int->Int->V):R2:=λx y H Q=>∃i j,x = .int i/\y = .int j/\Q (g i j) H
noncomputable def rU(g:Int->V):V->Hp->VK->Prop:=λx H Q=>∃i,x = .int i/\Q (g i) H
section
variable{X:Cx}{a b c:Expr}{ta tb tc:TE}{pos:Pos}
def pZ(k:PE X a ta)(l:PE X b tb){c:St}{H:Hp}{R:V->V->Hp->Prop}(I:Inv X pins c H s)
  (h:ta c H λx H1=>tb c H1 λy H2=>R x y H2) {Q:Nz} {f:Value->Value->Sem Value}
  (m:∀v u g x y H2,Inv X pins c H2 g->RelV x v->RelV y u->R x y H2->wpAny (model X.prog X.w) X.A (f v u) Q X.xe g) :
  wpAny (model X.prog X.w) X.A (eval a X.env) (λv d=>wpAny (model X.prog X.w) X.A (eval b X.env) (λu e=>wpAny (model X.prog X.w) X.A (f v u) Q X.xe e) X.xe d) X.xe s:=by
 refine cM (k pins s c H _ I h) λv r z_=>?_;obtain⟨x,H1,i,p,n⟩:=z_
 refine cM (l pins r c H1 _ i n) λu g z_=>?_;obtain⟨y,H2,j,q,o⟩:=z_
 exact m v u g x y H2 j p q o
def jo(i:fR X (binaryOp op) r)(f:PE X a ta)(g:PE X b tb):PE X (.BinOp a op b pos) (tM r ta tb):=by
 intro c s m H Q I h;exact wpAny_BinOp (pZ f g I h λv u l x y d e j k q=>i c l m d x y v u Q e j k q)
def Yo{r:V->Hp->VK->Prop}(g:uQ X (unaryOp op) r)(f:PE X a ta):PE X (.UnaryOp op a pos) (DH r ta):=by
 intro b s c H Q I h;refine UnaryOp_ (cM (f b s c H _ I h) λv k z_=>?_);let⟨x,d,e,j,i⟩:=z_;exact g b k c d x v Q e j i
def uF{f:Value->Value->Sem Value}{C:Int->Int->Prop}{g:Int->Int->Int}
  (a:∀(i j:Int) (t u:Tok) (s:Shared) (Q:Nz) (E:Nz),C i j->Q (.int (g i j) s.toks) {s with toks:=s.toks+1}->wpAny (model X.prog X.w) X.A (f (.int i t) (.int j u)) Q E s) :
  fR X f (rI C λi j=>.int (g i j)):=by
 intro b s l H x y v u Q I d e h;let⟨i,j,rfl,rfl,c,q⟩:=h;let⟨t,rfl⟩:=d;let⟨k,rfl⟩:=e;exact a i j t k s _ _ c ⟨.int (g i j),H,I.tok _,⟨_,rfl⟩,q⟩
def sY{f:Value->Value->Sem Value}{g:Int->Int->Int}
  (a:∀(i j:Int) (t u:Tok) (s:Shared) (Q:Nz) (E:Nz),Q (.int (g i j) s.toks) {s with toks:=s.toks+1}->wpAny (model X.prog X.w) X.A (f (.int i t) (.int j u)) Q E s) :
  fR X f (oC λi j=>.int (g i j)):=by
 intro b s k H x y v u Q I c d h;let⟨i,j,rfl,rfl,q⟩:=h;let⟨t,rfl⟩:=c;let⟨e,rfl⟩:=d;exact a i j t e s _ _ ⟨.int (g i j),H,I.tok _,⟨_,rfl⟩,q⟩
def oy{f:Value->Value->Sem Value}{g:Int->Int->Bool}
  (a:∀(i j:Int) (t u:Tok) (s:Shared) (Q:Nz) (E:Nz),Q (.bool (g i j)) s->wpAny (model X.prog X.w) X.A (f (.int i t) (.int j u)) Q E s) :
  fR X f (oC λi j=>.bl (g i j)):=by
 intro b s k H x y v u Q I c d h;let⟨i,j,rfl,rfl,q⟩:=h;let⟨t,rfl⟩:=c;let⟨e,rfl⟩:=d;exact a i j t e s _ _ ⟨.bl (g i j),H,I,rfl,q⟩
def mh(i j:Int):Prop:=0<=j/\j<=1000000/\i.natAbs<2^64
def jL:fR X (binaryOp .Add) (oC λi j=>.int (i+j)):=sY λZ Z Z Z Z Z Z q=>add_int q
def Jm:fR X (binaryOp .Sub) (oC λi j=>.int (i-j)):=sY λZ Z Z Z Z Z Z q=>sub_int q
def Je:fR X (binaryOp .Mod) (rI (λZ j=>0<j) λi j=>.int (i%j)):=uF λi j Z Z Z Z Z a q=>by
 have b:(0:Int)<j:=a;exact mod_int' ⋯ (by rw[Int.fmod_eq_emod_of_nonneg i ⋯];exact q)
def zh:fR X (binaryOp .Pow) (rI mh λi j=>.int (i^j.toNat)):=uF λZ Z Z Z Z Z Z a q=>pow_int_small a.1 a.2.1 a.2.2 q
def LW{f:Value->Sem Value}{g:Int->Int}
  (a:∀(i:Int) (t:Tok) (s:Shared) (Q:Nz) (E:Nz),Q (.int (g i) s.toks) {s with toks:=s.toks+1}->wpAny (model X.prog X.w) X.A (f (.int i t)) Q E s) :
  uQ X f (rU λi=>.int (g i)):=by
 intro b s d H x v Q I c h;let⟨i,rfl,q⟩:=h;let⟨t,rfl⟩:=c;exact a i t s _ _ ⟨.int (g i),H,I.tok _,⟨_,rfl⟩,q⟩
def ZA:uQ X (unaryOp .USub) (rU λi=>.int (-i)):=LW λj j j j j q=>neg_int q
end
noncomputable def tw:V->V->Bool
 | .cW,.cW=>true | .cW,.int _=>true | .int _,.cW=>true | .cW,.bl _=>true | .bl _,.cW=>true | .cW,.str _=>true | .str _,.cW=>true
 | .int _,.int _=>true | .bl _,.bl _=>true | .str _,.str _=>true | .lC _,.lC _=>true
 | .int _,.str _=>true | .str _,.int _=>true | .bl _,.str _=>true | .str _,.bl _=>true
 | _,_=>false
def AX:R2:=λx y H Q=>tw x y=true/\Q (.bl (decide (x=y))) H
def DA:R2:=λx y H Q=>tw x y=true/\Q (.bl (!decide (x=y))) H
def CC:decide (V.int i=V.int j)=(i==j):=by
 rw[Bool.eq_iff_iff];simp
def C6:decide (V.bl i=V.bl j)=(i==j):=by
 rw[Bool.eq_iff_iff];simp
def CD:decide (V.str i=V.str j)=(i==j):=by
 rw[Bool.eq_iff_iff];simp
def CB:decide (V.lC i=V.lC j)=(i.toList==j.toList):=by
 rw[Bool.eq_iff_iff];cases i;cases j;simp
section
variable{X:Cx}{a b c:Expr}{ta tb tc:TE}{pos:Pos}
def Jl{a:St}{H:Hp}(I:Inv X pins a H s)(q:Q (.bl k) H)(e:k=k'):EP X pins a Q (.bool k') s:=by
 subst e;exact⟨.bl k,H,I,rfl,q⟩
def Jr:fR X (compareOp .Eq) AX:=by
 intro e s f H x y v u Q I d a h;let⟨c,q⟩:=h;cases x with
 | cW=>
  cases d;cases y with
  | cW=>cases a;exact PySem.EqNone.eq_none_none (Jl I q (by simp))
  | bl j=>cases a;exact PySem.EqNone.eq_none_bool (Jl I q (by simp))
  | int j=>let⟨b,rfl⟩:=a;exact PySem.EqNone.eq_none_int (Jl I q (by simp))
  | str j=>let⟨b,rfl⟩:=a;exact PySem.EqNone.eq_none_str (Jl I q (by simp))
  | _=>exact uf (show false=true from c) vF
 | bl i=>
  cases d;cases y with
  | cW=>cases a;exact PySem.EqNone.eq_bool_none (Jl I q (by simp))
  | bl j=>cases a;exact eq_bool (Jl I q C6)
  | str j=>let⟨b,rfl⟩:=a;exact PySem.EqMixed.eq_bool_str (Jl I q (by simp))
  | _=>exact uf (show false=true from c) vF
 | int i=>
  let⟨t,rfl⟩:=d;cases y with
  | cW=>cases a;exact PySem.EqNone.eq_int_none (Jl I q (by simp))
  | int j=>let⟨b,rfl⟩:=a;exact eq_int (Jl I q CC)
  | str j=>let⟨b,rfl⟩:=a;exact PySem.EqMixed.eq_int_str (Jl I q (by simp))
  | _=>exact uf (show false=true from c) vF
 | str i=>
  let⟨t,rfl⟩:=d;cases y with
  | cW=>cases a;exact PySem.EqNone.eq_str_none (Jl I q (by simp))
  | bl j=>cases a;exact PySem.EqMixed.eq_str_bool (Jl I q (by simp))
  | int j=>let⟨b,rfl⟩:=a;exact PySem.EqMixed.eq_str_int (Jl I q (by simp))
  | str j=>let⟨b,rfl⟩:=a;exact eq_str (Jl I q CD)
  | _=>exact uf (show false=true from c) vF
 | lC i=>
  let⟨t,rfl⟩:=d;cases y with
  | lC j=>let⟨b,rfl⟩:=a;exact PySem.W.eq_bytes (Jl I q CB)
  | _=>exact uf (show false=true from c) vF
 | _=>cases y<;>exact uf (show false=true from c) vF
def sN:fR X (compareOp .NotEq) DA:=by
 intro e s f H x y v u Q I d a h;let⟨c,q⟩:=h;cases x with
 | cW=>
  cases d;cases y with
  | cW=>cases a;exact PySem.EqNone.ne_none_none (Jl I q (by simp))
  | bl j=>cases a;exact PySem.EqNone.ne_none_bool (Jl I q (by simp))
  | int j=>let⟨b,rfl⟩:=a;exact PySem.EqNone.ne_none_int (Jl I q (by simp))
  | str j=>let⟨b,rfl⟩:=a;exact PySem.EqNone.ne_none_str (Jl I q (by simp))
  | _=>exact uf (show false=true from c) vF
 | bl i=>
  cases d;cases y with
  | cW=>cases a;exact PySem.EqNone.ne_bool_none (Jl I q (by simp))
  | bl j=>cases a;exact ne_bool (Jl I q (congrArg not C6))
  | str j=>let⟨b,rfl⟩:=a;exact PySem.EqMixed.ne_bool_str (Jl I q (by simp))
  | _=>exact uf (show false=true from c) vF
 | int i=>
  let⟨t,rfl⟩:=d;cases y with
  | cW=>cases a;exact PySem.EqNone.ne_int_none (Jl I q (by simp))
  | int j=>let⟨b,rfl⟩:=a;exact ne_int (Jl I q (congrArg not CC))
  | str j=>let⟨b,rfl⟩:=a;exact PySem.EqMixed.ne_int_str (Jl I q (by simp))
  | _=>exact uf (show false=true from c) vF
 | str i=>
  let⟨t,rfl⟩:=d;cases y with
  | cW=>cases a;exact PySem.EqNone.ne_str_none (Jl I q (by simp))
  | bl j=>cases a;exact PySem.EqMixed.ne_str_bool (Jl I q (by simp))
  | int j=>let⟨b,rfl⟩:=a;exact PySem.EqMixed.ne_str_int (Jl I q (by simp))
  | str j=>let⟨b,rfl⟩:=a;exact ne_str (Jl I q (congrArg not CD))
  | _=>exact uf (show false=true from c) vF
 | lC i=>
  let⟨t,rfl⟩:=d;cases y with
  | lC j=>let⟨b,rfl⟩:=a;exact PySem.W.ne_bytes (Jl I q (congrArg not CB))
  | _=>exact uf (show false=true from c) vF
 | _=>cases y<;>exact uf (show false=true from c) vF
def ka:fR X (compareOp .Lt) (oC λi j=>.bl (decide (i<j))):=oy λZ Z Z Z Z Z Z q=>lt_int q
def Xd:fR X (compareOp .LtE) (oC λi j=>.bl (decide (i<=j))):=oy λZ Z Z Z Z Z Z q=>le_int q
def Zw:fR X (compareOp .Gt) (oC λi j=>.bl (decide (j<i))):=oy λZ Z Z Z Z Z Z q=>gt_int q
def Lf:fR X (compareOp .GtE) (oC λi j=>.bl (decide (j<=i))):=oy λZ Z Z Z Z Z Z q=>ge_int q
def C4:fR X (compareOp .Is) (λx y H Q=>y = .cW/\Q (.bl (decide (x = .cW))) H):=by
 intro a s d H x y v u Q I b c h;let⟨rfl,q⟩:=h;cases c;refine is_none_gen (Jl I q ?_);cases x<;>first
  | (cases b;rfl)
  | (let⟨t,rfl⟩:=b;rfl)
def YY:fR X (compareOp .IsNot) (λx y H Q=>y = .cW/\Q (.bl (!decide (x = .cW))) H):=by
 intro a s d H x y v u Q I b c h;let⟨rfl,q⟩:=h;cases c;refine isnot_none_gen (Jl I q ?_);cases x<;>first
  | (cases b;rfl)
  | (let⟨t,rfl⟩:=b;rfl)
def bY(b:Expr)(h:op≠.In:=by decide)(d:op≠.NotIn:=by decide):behindInMarks op b=false:=by
 have a:(op==CmpOp.In)=false:=⋯
 have c:(op==CmpOp.NotIn)=false:=⋯
 cases b<;>simp[behindInMarks,a,c]
def B7(j:fR X (compareOp op) r)(f:PE X a ta)(g:PE X b tb)(i:behindInMarks op b=false):PE X (.Compare a [op] [b] pos) (tM r ta tb):=by
 intro c s n H Q I h;exact wpAny_Compare1 (pZ f g I h λv u m x y d e k l q=>j c m n d x y v u Q e k l q) i
def nV(t:TE):TT:=λσ H Q=>t σ H λx H'=>∃k,x = .bl k/\Q k H'
def jr(t:fR X (compareOp op) r)(o:PE X a ta)(p:PE X b tb)(q:behindInMarks op b=false):PT X (.Compare a [op] [b] pos) (nV (tM r ta tb)):=by
 intro d s f H Q I h;refine wpAny_isTrue_Compare1 (cM (o d s f H _ I h) λv J ⟨x,g,l,C,w⟩=>cM (p d J f g _ l w) λu K ⟨y,i,m,D,A⟩=>
  cM (t d K f i x y v u _ m C D A) λc L ⟨z,j,n,E,k,e,B⟩=>?_) q
 subst e;cases E;exact wpAny_truthy_bool ⟨j,n,B⟩
def nR(r r':R2)(ta tb tc:TE):TE:=λσ H Q=>ta σ H λx H1=>tb σ H1 λy H2=>r x y H2 λz H3=>∃k,z = .bl k/\
 (if k=true then tc σ H3 λw' H4=>r' y w' H4 Q else Q (.bl false) H3)
def BJ(N:fR X (compareOp op) r)(i:fR X (compareOp op') r')(J:PE X a ta)(K:PE X b tb)(L:PE X c tc)
  (M:lastMarks [op,op'] [b,c]=false:=by with_unfolding_all rfl):PT X (.Compare a [op,op'] [b,c] pos) (nV (nR r r' ta tb tc)):=by
 intro f s g H Q I h;refine isTrue_chain (cM (J f s g H _ I h) λv s1 ⟨x,o,w,U,P⟩=>test_link (cM (K f s1 g o _ w P) λu s2 ⟨y,p,A,n,R⟩=>
  cM (N f s2 g p x y v u _ A U n R) λd s3 ⟨z,j,l,W,k,e,m⟩=>?_)) M
 subst e;cases W;refine wpAny_truthy_bool ?_;cases k with
 | false=>
  let⟨k',D,O⟩:=m;cases D;exact ite_ff ⟨j,l,O⟩
 | true=>
  refine ite_tt (test_last (cM (L f s3 g j _ l m) λw' s4 z_=>?_));let⟨z',q,B,Y,S⟩:=z_;refine cM (i f s4 g q y z' u w' _ B n Y S) λd' s5 z_=>?_;obtain⟨z2,t,C,Z,k2,E,T⟩:=z_;subst E;cases Z;exact wpAny_truthy_bool ⟨t,C,T⟩
def mB(K:cA)(x:V)(H:Hp)(k:Bool):Prop:=
 match x with
 | .cW=>k=false
 | .bl b=>k=b
 | .int i=>k=(i != 0)
 | .str y=>⇑y<=sizeLine/\k=((⇑y:Int) != 0)
 | .lC y=>y.size<=sizeLine/\k=((y.size:Int) != 0)
 | .ref p=>(∃xs,bZ K H p xs/\k = !xs.isEmpty)\/(∃xs,cU K H p xs/\k = !xs.isEmpty)\/∃kvs,H p=some (.dK kvs)/\k = !kvs.isEmpty
 | _=>False
def Ee{κ:Type}{kvs:List (κ×V)}{vs:List (κ×Value)}(r:KV kvs vs):(!vs.isEmpty) = !kvs.isEmpty:=by
 cases r<;>rfl
def WK{xs:N2}{a:L9}(r:Vals xs a):(!a.toArray.isEmpty) = !xs.isEmpty:=by
 cases r<;>simp
def gH:(sizeLine:Nat)<2^63:=by rw[sizeLine_eq];decide
def Dh:uP X (λx H Q=>∃k,mB X.K x H k/\Q k H):=by
 intro w s D H x v Q I g h;let⟨k,e,q⟩:=h;have B:=gH;have C:sizeLine=16777216:=sizeLine_eq;cases x with
 | cW=>
  cases g;have a:k=false:=e;subst a;exact truthy_none ⟨H,I,q⟩
 | bl b=>
  cases g;have a:k=b:=e;subst a;exact wpAny_truthy_bool ⟨H,I,q⟩
 | int i=>
  let⟨t,rfl⟩:=g;have a:k=(i != 0):=e;subst a;exact PySem.P.truthy_int ⟨H,I,q⟩
 | str y=>
  let⟨t,rfl⟩:=g;obtain⟨A,a⟩:⇑y<=sizeLine/\k=((⇑y:Int) != 0):=e;subst a;exact PySem.P.truthy_str ⋯ ⟨H,I.tok _,q⟩
 | lC y=>
  let⟨t,rfl⟩:=g;obtain⟨A,a⟩:y.size<=sizeLine/\k=((y.size:Int) != 0):=e;subst a;exact PySem.W.truthy_bytes ⋯ ⟨H,I.tok _,q⟩
 | ref p=>
  cases g;have a:(∃f,bZ X.K H p f/\k = !f.isEmpty)\/(∃f,cU X.K H p f/\k = !f.isEmpty)\/∃c,H p=some (.dK c)/\k = !c.isEmpty:=e;rcases a with⟨f,j,a⟩ | ⟨f,j,a⟩ | ⟨c,j,a⟩
  .subst a;let⟨n,r,o,u⟩:=I.list j;have d:=⇑r;exact wpAny_truthy_list o.isList (by simp only[size_toArray];lia) ⟨H,I.tok _,by rw[WK r];exact q⟩
  .subst a;let⟨n,r,o,u⟩:=I.tuple j;have d:=⇑r;exact truthy_tuple o (by simp only[size_toArray];lia) ⟨H,I.tok _,by rw[WK r];exact q⟩
  .subst a;obtain⟨u,z,l,r,m⟩:⇑c<=sizeLine/\(p==sysModules)=false/\∃l,KV c l/\s.heap.DictOf (cn X.prog X.w) p l:=I.cJ p _ j;have d:⇑c=⇑l:=Paired.length r;exact wpAny_truthy_dict z m ⋯ ⟨H,I.tok _,by rw[Ee r];exact q⟩
 | _=>exact(show False from e).elim
def GN(f:PE X a ta)(g:∀b,isTrue a X.env b=(do let v <-b;standAt a.pos;holding [v] (truthy v))) :
  PT X a (λσ H Q=>ta σ H λx H'=>∃k,mB X.K x H' k/\Q k H'):=by
 intro c s σ H Q I h;refine isTrue_plain (cM (f c s σ H _ I h) λv l z_=>?_) (g _);let⟨x,d,e,j,i⟩:=z_;exact Dh c l σ d x v Q e j i
def kH:fR X (binaryOp .Add) (λx y H Q=>∃i j,x = .str i/\y = .str j/\⇑i+⇑j<=sizeLine/\Q (.str (i++j)) H):=by
 intro a s g H x y v u Q I c d h;let⟨i,j,rfl,rfl,b,q⟩:=h;let⟨t,rfl⟩:=c;let⟨e,rfl⟩:=d;exact add_str (λe f=>⟨.str (i++j),H,I.tok _,⟨_,rfl⟩,q⟩) b
def vals1(r:Vals [x] us):∃u,us=[u]/\RelV x u:=by
 cases r with
 | cons r1 r2=>cases r2;exact⟨_,rfl,r1⟩
def vals2(r:Vals [x,y] us):∃u a,us=[u,a]/\RelV x u/\RelV y a:=by
 cases r with
 | cons r1 r2=>
  cases r2 with
  | cons r3 r4=>cases r4;exact⟨_,_,rfl,r1,r3⟩
def Ww:dw X (.builtin "abs") (λxs H Q=>∃i,xs=[.int i]/\Q (.int (if i<0 then -i else i)) H):=by
 intro a s d H xs c Q I r h;let⟨i,rfl,q⟩:=h;let⟨u,rfl,t,rfl⟩:=vals1 r;exact call_abs_int λu b=>⟨.int (if i<0 then -i else i),H,I.tok _,⟨_,rfl⟩,q⟩
def K2(c:X.calm=true):dw X (.builtin "max") (λxs H Q=>∃i j,xs=[.int i,.int j]/\Q (.int (if j>i then j else i)) H):=by
 intro b s m H xs g Q I r h;let⟨i,j,rfl,q⟩:=h;let⟨u,l,rfl,⟨t,rfl⟩,⟨e,rfl⟩⟩:=vals2 r;refine max_two_ints (I.ok.hd c) λd f k=>⟨_,H,I.kept k,?_,q⟩
 by_cases a:j>i
 .rw[vd a,vd a];exact⟨_,rfl⟩
 .rw[vc a,vc a];exact⟨_,rfl⟩
def YO(c:X.calm=true):dw X (.builtin "min") (λxs H Q=>∃i j,xs=[.int i,.int j]/\Q (.int (if j<i then j else i)) H):=by
 intro b s m H xs g Q I r h;let⟨i,j,rfl,q⟩:=h;let⟨u,l,rfl,⟨t,rfl⟩,⟨e,rfl⟩⟩:=vals2 r;refine min_two_ints (I.ok.hd c) λd f k=>⟨_,H,I.kept k,?_,q⟩
 by_cases a:j<i
 .rw[vd a,vd a];exact⟨_,rfl⟩
 .rw[vc a,vc a];exact⟨_,rfl⟩
def rX(K:cA)(x:V)(H:Hp)(n:Nat):Prop:=
 match x with
 | .str y=>⇑y<=sizeLine/\n=⇑y
 | .lC y=>y.size<=sizeLine/\n=y.size
 | .ref p=>(∃xs,bZ K H p xs/\n=⇑xs)\/∃xs,cU K H p xs/\n=⇑xs
 | _=>False
def jX:dw X (.builtin "len") (λxs H Q=>∃x n,xs=[x]/\rX X.K x H n/\Q (.int n) H):=by
 intro j s w H xs v Q I r h;let⟨x,n,rfl,e,q⟩:=h;let⟨u,rfl,i⟩:=vals1 r;have m:=gH;have o:sizeLine=16777216:=sizeLine_eq;cases x with
 | str y=>
  let⟨t,rfl⟩:=i;obtain⟨k,b⟩:⇑y<=sizeLine/\n=⇑y:=e;subst b;exact len_str ⋯ ⟨.int _,H,I.tok _,⟨_,rfl⟩,q⟩
 | lC y=>
  let⟨t,rfl⟩:=i;obtain⟨k,b⟩:y.size<=sizeLine/\n=y.size:=e;subst b;exact PySem.W.len_bytes ⋯ ⟨.int _,H,I.tok _,⟨_,rfl⟩,q⟩
 | ref p=>
  cases i;have b:(∃xs,bZ X.K H p xs/\n=⇑xs)\/∃xs,cU X.K H p xs/\n=⇑xs:=e;rcases b with⟨xs,c,b⟩ | ⟨xs,c,b⟩
  .subst b;let⟨d,g,f,l⟩:=I.list c;have a:=⇑g;exact Calls.call_len_list f.isList (by simp only[size_toArray];lia) ⟨.int ⇑xs,H,I.tok _,⟨_,by simp only[size_toArray];rw[a]⟩,q⟩
  .subst b;let⟨d,g,f,l⟩:=I.tuple c;have a:=⇑g;exact len_tuple f (by simp only[size_toArray];lia) ⟨.int ⇑xs,H,I.tok _,⟨_,by simp only[size_toArray];rw[a]⟩,q⟩
 | _=>exact(show False from e).elim
end
structure lM(h:Heap)(x dx C:Addr)(mA:Nw):Prop where
 obj:h.get? x=some (PySem.W.instObj C dx)
 ns:h.Ns1 dx mA
 ne:dx≠x
def FN{h:Heap}{c:Addr}{f:Nw}(n:h.Ns1 c f):∃g,h.get? c=some g/\∀name,PySem.W.lookIn name g=some (f name):=by
 let⟨o,d,r,m,j,k,Z,l⟩:=n;refine⟨o,m,λname=>?_⟩;have e:=l name;unfold nsFind findBy at e;rw[<-Array.find?_toList]at e;unfold PySem.W.lookIn;rw[j];dsimp only;split
 .rename_i y q;rw[q]at e;exact congrArg some e
 .rename_i q;rw[q]at e;have a:d.toList.any (·.refKey)=false:=by
   rw[List.any_eq_false];intro y p;let⟨z,t,b⟩:=k y (Array.mem_toList_iff.mp p);simp[DictEntry.refKey,b]
  have i:¬d.toList.any (·.refKey)=true:=by rw[a];exact vF
  rw[vc i];exact congrArg some e
def lM.look{b:Nw}(I:lM h x dx C b):∃a,PySem.W.InstAt h x (PySem.W.instObj C dx) C (some a)/\∀name,PySem.W.lookIn name a=some (b name):=
 let ⟨a,ho,hl⟩:=FN I.ns
 ⟨a,⟨I.obj,rfl,rfl,ho⟩,hl⟩
section
variable{prog:Program}{w:World}{A:Around}{E:Nz}{s:Shared}{K:cA}{x dx C f:Addr}{mA:Nw}{name:Str}{v:Value}
def HG{Q:Nz}(X:K.In s.heap)(I:lM s.heap x dx C mA)(c:PySem.W.plainGet K C name=true)(d:PySem.W.hasDictIn K C=true)
  (b:PySem.W.findIn K (.ref C) name=some none) (f:mA name=some v) (a:PySem.W.handedIn v=true) (h:Q v {s with toks:=s.toks+1}) :
  wpAny (model prog w) A (getAttr (.ref x) name expr) Q E s:=by
 let⟨g,J,e⟩:=I.look;exact PySem.W.get_value X J (PySem.W.plainGet_of c).1 (PySem.W.findObj_own d b rfl (by rw[e,f])) a h
def GH{Q:Value×L9->Shared->Prop}(X:K.In s.heap)(I:lM s.heap x dx C mA)(a:PySem.W.plainGet K C name=true)
  (b:PySem.W.findIn K (.ref C) name=some (↥f)) (d:PySem.W.isFn K (.ref f)=true) (e:mA name=none) (h:Q (.ref f,[.ref x]) s) :
  wpAny (model prog w) A (getMethod (.ref x) name pl) Q E s:=by
 let⟨g,J,c⟩:=I.look;exact PySem.W.method_fn X J (PySem.W.plainGet_of a).1 (PySem.W.plainGet_of a).2 b (beq_iff_eq.mp d) (by show(PySem.W.lookIn name g).map (·.isSome)=some false;rw[c,e];rfl) h
def HI{Q:Unit->Shared->Prop}(X:K.In s.heap)(I:lM s.heap x dx C mA)
  (o:PySem.W.findIn K (.ref C) "__setattr__"= some (some (.builtin "object.__setattr__"))) (n:PySem.W.plainOver K C=true) (p:PySem.W.takerIn K C name=some none) (m:PySem.W.hasDictIn K C=true)
  (hw:PySem.Within mA ns) (hsz:⇑ns<=sizeLine)
  (h:∀h',lM h' x dx C (λy=>if y=name then some v else mA y)->Heap.SameBut dx s.heap h'->Q () {s with heap:=h',toks:=s.toks+2}) :
  wpAny (model prog w) A (setAttr (.ref x) name v) Q E s:=by
 let⟨B,J,u⟩:=I.look;refine PySem.W.set_plain X J o (PySem.W.osa_open (s:={s with toks:=s.toks+1}) (r:=none) X J n p λb=>?_);let⟨t,l,f⟩:=PySem.W.any_some m;have q:s.heap.get? x=some ⟨.ref C,some dx,.plain,#[]⟩:=I.obj;refine uh (ug (uh (uh (wpAny_loadPart q (uh (PySem.W.Looks.here (s:={s with toks:=s.toks+1}) (PySem.W.looks_clsIn X l) ?_))))));rw[f];refine ug (a:=some dx) (uh (ug (uh ?_)));refine wpAny_nsSet1 (s:={s with toks:=s.toks+1}) I.ns λh' c d=>?_
 let⟨z,k,j,i,g,e⟩:=c.count (PySem.Within.cons name v hw);refine uh (wpAny_lookBehind i (by rw[g];exact pastItsLine_dict (vV e (by rw[vP];lia))) ?_);exact ug (h _ ⟨(d.2 _ (Ne.symm I.ne)).trans I.obj,c,I.ne⟩ d)
def Ge{R:Result->Shared->Prop}(X:K.In s.heap)(c:PySem.W.makesIn K C=true)
  (hi:PySem.W.findIn K (.ref C) "__init__"= some (↥f)) (b:PySem.W.typeIn K (.ref f)=some (.type "function"))
  (h:codeAny (model prog w) (A.under (.builtin "type.__call__" ⟨.ref C::vs,kw⟩)) (.call (.ref f) ⟨.ref (s.heap.objs.size+1)::vs,kw⟩) (PySem.W.InitBack (s.heap.objs.size+1) R)
   {s with heap:=(s.heap.push PySem.W.emptyDict).push (PySem.W.instObj C s.heap.objs.size)}) :
  codeAny (model prog w) A (.call (.ref C) ⟨vs,kw⟩) R s:=by
 let⟨e,g,d,t,i⟩:=s;exact PySem.W.make_core (PySem.W.makes_of X c) (PySem.W.looks_findIn X hi) (λa=>PySem.W.bind_fn X a b) (.inl rfl) h
end
noncomputable def cx(f:Str)(v:V):List (Str×V)->List (Str×V)
 | []=>[(f,v)]
 | (g,x)::r=>if g=f then(g,v)::r else(g,x)::cx f v r
theorem ZN(f g:Str)(v:V):∀fs:List (Str×V),(cx f v fs).lookup g=if g=f then some v else fs.lookup g
 | []=>by
  show List.lookup g [(f,v)]=_;by_cases h:g=f
  .have a:(g==f)=true:=beq_iff_eq.mpr h;simp only[List.lookup,a,if_pos h]
  .have a:(g==f)=false:=beq_eq_false_iff_ne.mpr h;simp only[List.lookup,a,if_neg h]
 | (k,x)::r=>by
  have c:=ZN f g v r;rw[show cx f v ((k,x)::r)=(if k=f then(k,v)::r else(k,x)::cx f v r)from rfl];by_cases b:k=f
  .rw[vd b];by_cases h:g=k
   .have a:(g==k)=true:=beq_iff_eq.mpr h;simp only[List.lookup,a,if_pos (h.trans b)]
   .have a:(g==k)=false:=beq_eq_false_iff_ne.mpr h;simp only[List.lookup,a,if_neg (λe:g=f=>h (e.trans b.symm))]
  .rw[vc b];by_cases h:g=k
   .have a:(g==k)=true:=beq_iff_eq.mpr h;simp only[List.lookup,a,if_neg (λe:g=f=>b (h.symm.trans e))]
   .have a:(g==k)=false:=beq_eq_false_iff_ne.mpr h;simp only[List.lookup,a];exact c
theorem wp(f:Str)(v:V):∀fs:List (Str×V),f∈(cx f v fs).map (·.1)/\∀g,g∈fs.map (·.1)->g∈(cx f v fs).map (·.1)
 | []=>⟨by simp[cx],λg h=>by simp at h⟩
 | (k,x)::r=>by
  let⟨b,c⟩:=wp f v r;rw[show cx f v ((k,x)::r)=(if k=f then(k,v)::r else(k,x)::cx f v r)from rfl];by_cases a:k=f
  .rw[vd a];subst a;exact⟨by simp,λg h=>#v[h]⟩
  .rw[vc a];refine⟨?_,λg h=>?_⟩
   .rw[v7];exact vp _ b
   .rw[v7]at h|-;rcases mem_cons.mp h with e | e
    .exact mem_cons.mpr (.inl e)
    .exact vp _ (c g e)
theorem wR(f:Str)(v:V):∀fs:List (Str×V),⇑(cx f v fs)<=⇑fs+1
 | []=>by simp[cx]
 | (k,x)::r=>by
  have b:=wR f v r;rw[show cx f v ((k,x)::r)=(if k=f then(k,v)::r else(k,x)::cx f v r)from rfl];by_cases a:k=f
  .rw[vd a,vP,vP];lia
  .rw[vc a,vP,vP];lia
def eO.some_of(r:eO (some v) o):∃u,o=some u/\RelV v u:=by
 cases o with
 | none=>exact(show False from r).elim
 | some u=>exact⟨u,rfl,r⟩
def eO.none_of(r:eO none o):o=none:=by
 cases o with
 | none=>rfl
 | some u=>exact(show False from r).elim
def Fz(r:RelV v u):PySem.W.handedIn u=true:=by
 cases v with
 | cW=>cases(show u=Value.none from r);rfl
 | bl b=>cases(show u=Value.bool b from r);rfl
 | int i=>let⟨t,e⟩:=(show∃t,u=Value.int i t from r);cases e;rfl
 | str x=>let⟨t,e⟩:=(show∃t,u=Value.str x t from r);cases e;rfl
 | lC b=>let⟨t,e⟩:=(show∃t,u=Value.bytes b t from r);cases e;rfl
 | rd b=>let⟨t,e⟩:=(show∃t,u=Value.float b t from r);cases e;rfl
 | ref a=>cases(show u=Value.ref a from r);rfl
 | ty n=>cases(show u=Value.type n from r);rfl
section
variable{P:Program}{w:World}{H H':Hp}{h h':Heap}{a C dx:Addr}{fs fs':List (Str×V)}
def Wh(b:fO P w H h)(e:H a=some (.ins C dx fs)):∃mA,lM h a dx C mA/\(∀f,eO (fs.lookup f) (mA f))/\PySem.Within mA (fs.map (·.1))/\⇑fs<=1000/\H dx=some (.own a):=by
 let⟨d,z,c,g,mA,n,r,q⟩:=(show cD P w H h a (.ins C dx fs)from b a _ e)
 exact⟨mA,⟨g,n,c⟩,r,q,z,d⟩
end
structure lI(K:cA)(C:Addr):Prop where
 pg:PySem.W.plainGet K C Str.empty=true
 hd:PySem.W.hasDictIn K C=true
 po:PySem.W.plainOver K C=true
 sa:PySem.W.findIn K (.ref C) "__setattr__"= some (some (.builtin "object.__setattr__"))
def lI.get{K:cA}{C:Addr}(c:lI K C)(f:Str):PySem.W.plainGet K C f=true:=c.pg
def cE(K:cA)(C:Addr)(f:Str):Prop:=PySem.W.findIn K (.ref C) f=some none
def cE.tT{K:cA}{C:Addr}{f:Str}(n:cE K C f):PySem.W.takerIn K C f=some none:=by
 unfold PySem.W.takerIn;rw[show PySem.W.findIn K (.ref C) f=some none from n];rfl
structure Meth(K:cA)(C:Addr)(m:Str)(f:Addr):Prop where
 at_:PySem.W.findIn K (.ref C) m=some (↥f)
 fn:PySem.W.isFn K (.ref f)=true
 kp:PySem.W.keepIn K (.ref f)=true
section
variable{X:Cx}{pins:Ny}{σ:St}{H:Hp}{s:Shared}{a C dx:Addr}{fs:List (Str×V)}{f:Str}{v:V}{A:Around}{E:Nz}
def Eb{Q:Nz}(I:Inv X pins σ H s)(e:H a=some (.ins C dx fs))(c:lI X.K C)(n:cE X.K C f)(l:fs.lookup f=some v)
  (h:∀u s',Inv X pins σ H s'->RelV v u->Q u s'):wpAny (model X.prog X.w) A (getAttr (.ref a) f b) Q E s:=by
 let⟨i,O,r,q,q,q⟩:=Wh I.cJ e;let⟨u,g,d⟩:=eO.some_of (v:=v) (o:=i f) (by rw[<-l];exact r f);exact HG I.g8 O (c.get f) c.hd n g (Fz d) (h u _ (I.tok _) d)
def Ec{Q:Value×L9->Shared->Prop}(I:Inv X pins σ H s)(e:H a=some (.ins C dx fs))(c:lI X.K C)(k:Meth X.K C m g)(l:fs.lookup m=none)
  (h:Q (.ref g,[.ref a]) s):wpAny (model X.prog X.w) A (getMethod (.ref a) m pl) Q E s:=by
 let⟨d,O,r,q,q,q⟩:=Wh I.cJ e;have b:d m=none:=eO.none_of (by rw[<-l];exact r m);exact GH I.g8 O (c.get m) k.at_ k.fn b h
def ED{Q:Unit->Shared->Prop}(I:Inv X pins σ H s)(e:H a=some (.ins C dx fs))(c:lI X.K C)(n:cE X.K C f)(D:⇑fs<1000)(w:RelV y u)
  (h:∀s',Inv X pins σ (upd H a (.ins C dx (cx f y fs))) s'->Q () s'):wpAny (model X.prog X.w) A (setAttr (.ref a) f u) Q E s:=by
 let⟨j,O,r,k,Z,i⟩:=Wh I.cJ e;have v:⇑(fs.map (·.1))<=sizeLine:=by rw[vt,sizeLine_eq];lia
 refine HI I.g8 O c.sa c.po n.tT c.hd k v λl d B=>h _ ?_
 have p:∃o,l.get? dx=some o:=let ⟨o,_,_,e',_⟩:=d.ns;⟨o,e'⟩;refine I.write (x:=a) (e:=dx) (by rw[e];exact True.intro) (.inr i) (λb q m z=>(B.2 b m).trans z) p ?_;refine⟨by rw[jg O.ne];exact i,?_,O.ne,d.obj,_,d.ns,λg=>?_,λg t=>?_⟩
 .have:=wR f y fs;lia
 .show eO ((cx f y fs).lookup g) (if g=f then some u else j g);rw[ZN];by_cases q:g=f
  .rw[vd q,vd q];exact w
  .rw[vc q,vc q];exact r g
 .by_cases q:g=f
  .rw[q];exact(wp f y fs).1
  .refine(wp f y fs).2 g (k g λz=>t ?_);show(if g=f then some u else j g)=none;rw[vc q];exact z
def Inv.made(I:Inv X pins σ H s):Inv X pins σ (upd (upd H s.heap.objs.size (.own (s.heap.objs.size+1))) (s.heap.objs.size+1) (.ins C s.heap.objs.size []))
  {s with heap:=(s.heap.push PySem.W.emptyDict).push (PySem.W.instObj C s.heap.objs.size)}:=by
 have c:(s.heap.push PySem.W.emptyDict).get? s.heap.objs.size=some PySem.W.emptyDict:=Heap.get?_push_size s.heap rfl;have g:((s.heap.push PySem.W.emptyDict).push (PySem.W.instObj C s.heap.objs.size)).get? (s.heap.objs.size+1)=some (PySem.W.instObj C s.heap.objs.size):=by
  have:=Heap.get?_push_size (s.heap.push PySem.W.emptyDict) (o:=PySem.W.instObj C s.heap.objs.size) rfl
  rwa [Heap.size_push]at this
 have h:(s.heap.push PySem.W.emptyDict).Ns s.heap.objs.size (λZ=>none):=⟨PySem.W.emptyDict,#[],_,c,rfl,(λe i=>uf i (by simp)),λZ=>rfl⟩
 have f:=I.laid (a:=s.heap.objs.size) (o:=.own (s.heap.objs.size+1)) (h':=s.heap.push PySem.W.emptyDict) (t':=s.toks) (λb u q=>vJ _ q) (vb _) ⟨_,c⟩;refine f.laid (a:=s.heap.objs.size+1) (o:=.ins C s.heap.objs.size []) (t':=s.toks) (λb u q=>vJ _ q) (Nat.le_of_eq (Heap.size_push _ _)) ?_;have d:s.heap.objs.size≠s.heap.objs.size+1:=vE (Nat.lt_succ_self _);refine⟨by rw[jg d,jw],va _,d,g,λZ=>none,(Heap.Ns1.of_empty h).at λo q=>vJ _ q,λZ=>True.intro,λy j=>uf rfl j⟩
def G6{f:Str}{s:Shared}{Q:Nz}(b:attributeBase e f env (eval e env)=eval e env)
  (h:wpAny (model prog w) A (eval e env) (λo a=>wpAny (model prog w) A (getAttr o f true) Q E a) E s):wpAny (model prog w) A (eval (.Attribute e f pos) env) Q E s:=
 Attribute_any_ h (by rw[arm_eval_Attribute,b])
end
def rz(K:cA)(ta:TE)(f:Str):TE:=λσ H Q=>ta σ H λx H1=>∃a C dx fs v,x = .ref a/\H1 a=some (.ins C dx fs)/\lI K C/\cE K C f/\fs.lookup f=some v/\Q v H1
def tu(K:cA)(ta tv:TE)(f:Str):TS:=λD σ H=>tv σ H λy H1=>ta σ H1 λx H2=>∃a C dx fs,x = .ref a/\H2 a=some (.ins C dx fs)/\lI K C/\cE K C f/\⇑fs<1000/\
 D.nx σ (upd H2 a (.ins C dx (cx f y fs)))
section
variable{X:Cx}{o e value:Expr}{f:Str}{pos pos' tpos:Pos}{ta tv:TE}
def jM(o:PE X e ta)(m:attributeBase e f X.env (eval e X.env)=eval e X.env):PE X (.Attribute e f pos) (rz X.K ta f):=by
 intro b s t H Q I h;refine G6 m (cM (o b s t H _ I h) λu y z_=>?_);obtain⟨x,d,g,r,a,C,w,fs,v,k,j,c,n,l,q⟩:=z_;subst k;obtain rfl:u=Value.ref a:=r;exact Eb g j c n l λA z i p=>⟨v,d,i,p,q⟩
def qN(p:PE X o ta)(t:PE X value tv)(r:swapsWith value (some (.Attribute o f pos')) pos.line X.env=pure false):PS X (.Assign [.Attribute o f pos'] value pos) (tu X.K ta tv f):=by
 intro b s d H D I h;refine plainObj_wpAny_Assign_Attribute (cM (t b s d H _ I h) λu A z_=>?_) r;let⟨y,e,g,z,q⟩:=z_;refine cM (p b A d e _ g q) λov J z_=>?_;obtain⟨x,B,i,w,a,C,E,fs,m,k,c,n,l,v⟩:=z_;subst m;obtain rfl:ov=Value.ref a:=w;exact ED i k c n l z λK j=>⟨d,_,j,v⟩
end
section
variable{X:Cx}{pins:Ny}{σ:St}{H:Hp}{s:Shared}{A:Around}{E:Nz}{Q:Nz}{c:Value}{b:Bool}
inductive gA(K:cA)(H:Hp):V->Value->Prop where
 | cW:gA K H .cW (.type "NoneType")
 | bl (x:Bool):gA K H (.bl x) (.type "bool")
 | int (i:Int):gA K H (.int i) (.type "int")
 | str (x:Str):gA K H (.str x) (.type "str")
 | rd (x:UInt64):gA K H (.rd x) (.type "float")
 | lst {a:Addr} {xs:N2} (e:H a=some (.lst xs)):gA K H (.ref a) (.type "list")
 | gD {a:Addr} {o:Obj} {xs:N2} (e:H a=some (.gD o (.lst xs))):gA K H (.ref a) (.type "list")
 | tup {a:Addr} {xs:N2} (e:H a=some (.tup xs)):gA K H (.ref a) (.type "tuple")
 | dK {a:Addr} {kvs:List (Key×V)} (e:H a=some (.dK kvs)):gA K H (.ref a) (.type "dict")
 | dT {a:Addr} {kvs:List (List Key×V)} (e:H a=some (.dT kvs)):gA K H (.ref a) (.type "dict")
 | ins {a C dx:Addr} {fs:List (Str×V)} (e:H a=some (.ins C dx fs)) (cl:lI K C) (ha:PySem.W.findIn K (.ref C) "__class__"= some (some (.builtin "object.__class__")))
   (hn:PySem.W.specialIn K (.builtin "object.__class__") "__get__"= some (some (.builtin "getset_descriptor.__get__"))) (htk:PySem.W.takesIn K (.builtin "object.__class__")=some true)
   (hm:PySem.W.mroIn K C (.type "object")=some true):gA K H (.ref a) (.ref C)
def FF(I:Inv X pins σ H s)(d:RelV x u)(m:gA X.K H x t)(e:PySem.W.kitOne X.K t c=some b)(h:∀tk,Q (.bool b) {s with toks:=tk}) :
  wpAny (model X.prog X.w) A (call (.builtin "isinstance") [u,c]) Q E s:=by
 cases m with
 | cW=>cases(show u=Value.none from d);exact PySem.W.kia_one PySem.W.kitx_none I.g8 True.intro e (λz=>nomatch z) h
 | bl y=>cases(show u=Value.bool y from d);exact PySem.W.kia_one PySem.W.kitx_bool I.g8 True.intro e (λz=>nomatch z) h
 | int i=>let⟨t,q⟩:=(show∃t,u=Value.int i t from d);cases q;exact PySem.W.kia_one PySem.W.kitx_int I.g8 True.intro e (λz=>nomatch z) h
 | str y=>let⟨t,q⟩:=(show∃t,u=Value.str y t from d);cases q;exact PySem.W.kia_one PySem.W.kitx_str I.g8 True.intro e (λz=>nomatch z) h
 | rd y=>let⟨t,q⟩:=(show∃t,u=Value.float y t from d);cases q;exact PySem.W.kia_one PySem.W.kitx_float I.g8 True.intro e (λz=>nomatch z) h
 | @lst a g ea=>
  cases(show u=Value.ref a from d);let⟨Z,Z,n,Z,f⟩:=(show cD X.prog X.w H s.heap a (.lst g)from I.cJ a _ ea)
  exact PySem.W.kia_one PySem.W.kitx_list I.g8 ⟨_,f,rfl⟩ e (λz=>nomatch z) h
 | @gD a ob g ea=>
  cases(show u=Value.ref a from d);let⟨Z,Z,Z,n,Z,f⟩:=(show cD X.prog X.w H s.heap a (.gD ob (.lst g))from I.cJ a _ ea)
  exact PySem.W.kia_one PySem.W.kitx_list I.g8 ⟨_,f,rfl⟩ e (λz=>nomatch z) h
 | @tup a g ea=>
  cases(show u=Value.ref a from d);let⟨Z,Z,Z,p⟩:=(show cD X.prog X.w H s.heap a (.tup g)from I.cJ a _ ea)
  let⟨o,f,j,Z⟩:=p;exact PySem.W.kia_one PySem.W.kitx_tuple I.g8 ⟨o,f,j⟩ e (λz=>nomatch z) h
 | @dK a kvs ea=>
  cases(show u=Value.ref a from d);let⟨Z,Z,w,Z,p⟩:=(show cD X.prog X.w H s.heap a (.dK kvs)from I.cJ a _ ea)
  let⟨o,l,k,f,j,Z⟩:=p;exact PySem.W.kia_one PySem.W.kitx_dict I.g8 ⟨o,f,j.1⟩ e (λz=>nomatch z) h
 | @dT a kvs ea=>
  cases(show u=Value.ref a from d);let⟨Z,Z,g,Z,o,l,k,f,j,Z⟩:=(show cD X.prog X.w H s.heap a (.dT kvs)from I.cJ a _ ea)
  exact PySem.W.kia_one PySem.W.kitx_dict I.g8 ⟨o,f,j.1⟩ e (λz=>nomatch z) h
 | @ins a C dx fs ea cl ha hn htk hm=>
  cases(show u=Value.ref a from d);let⟨r,O,Z⟩:=Wh I.cJ ea;let⟨v,J,Z⟩:=O.look;exact PySem.W.kia_one (PySem.W.kitx_own (cl.get _) cl.hd ha hn htk hm) I.g8 J e (λz=>nomatch z) h
end
structure dC(k:Nat)(A:Around):Prop where
 hd:A.handled=none
 dp:A.depth+3*k+5<recursionLimit
 un:A.units+16*k+200<cLine
def dC.mono(r:dC k A)(h:j<=k):dC j A:=⟨r.hd,by have:=r.dp;lia,by have:=r.un;lia⟩
def dC.deeper(r:dC (k+1) A)(env:Env):dC k (A.deeper env):=
 ⟨r.hd,by have:=r.dp;show A.depth+1+3*k+5<_;lia,by have:=r.un;show A.units+3+16*k+200<_;lia⟩
def Ef{A:Around}{C:Addr}{us:L9}{a:List (Str×Value)}:(A.under (.builtin "type.__call__" ⟨.ref C::us,a⟩)).depth=A.depth+1:=by
 first | rfl | simp[Around.under,Code.weight,Code.isCreation,Code.isGuard,Code.isCaller,Code.frames,Code.isFrame,guardIds]
def Eg{A:Around}{C:Addr}{us:L9}{a:List (Str×Value)}:(A.under (.builtin "type.__call__" ⟨.ref C::us,a⟩)).units=A.units+1:=by
 first | rfl | simp[Around.under,Code.cUnits,Code.frames,Code.isFrame]
def dC.make(r:dC (k+1) A)(C:Addr)(us:L9)(a:List (Str×Value)):dC k (A.under (.builtin "type.__call__" ⟨.ref C::us,a⟩)):=
 ⟨r.hd,by have:=r.dp;rw[Ef];lia,by have:=r.un;rw[Eg];lia⟩
def dC.depth(r:dC k A):A.depth<recursionLimit:=by have:=r.dp;lia
def dC.units(r:dC k A):A.units+64<cLine:=by have:=r.un;lia
def tK:TA:=λq H Q=>Q [] H
def pB(ta:TE)(tr:TA):TA:=λσ H Q=>ta σ H λx H1=>tr σ H1 λxs H2=>Q (x::xs) H2
section
variable{X:Cx}{e:Expr}{es:Nt}{te:TE}{t:TA}{pos:Pos}
def jc:PA X [] tK:=λq q q q H Q I h=>Calls.spliced_nil ⟨[],H,I,.nil,h⟩
def ja(j:PE X e te)(k:PA X es t)(l:starEach (e::es) X.env=(false,eval e X.env)::starEach es X.env:=by rfl):PA X (e::es) (pB te t):=by
 intro b a s c H Q I h;rw[l];show wpAny _ _ (spliced ((false,eval e X.env)::backTo b (starEach es X.env))) _ _ s;refine Calls.spliced_cons (cM (j a s c H _ I h) λu q z_=>?_);obtain⟨x,d,g,o,m⟩:=z_;refine cM (k b a q c d _ g m) λw v z_=>?_;let⟨r,f,i,p,n⟩:=z_;exact⟨x::r,f,i,.cons o p,n⟩
def tR(t:TA):TE:=λσ H Q=>t σ H λxs H1=>⇑xs<=sizeLine/\∀p,H1 p=none->Q (.ref p) (upd H1 p (.tup xs))
def tJ(t:TA):TE:=λσ H Q=>t σ H λxs H1=>⇑xs<=sizeLine/\∀p,H1 p=none->Q (.ref p) (upd H1 p (.lst xs))
def jR{x1}(h:PA X es t):PE X (.Tuple es x1 pos) (tR t):=by
 intro a s l H Q I i;refine wpAny_Tuple_spliced (cM (h pos a s l H _ I i) λj c ⟨k,d,f,r,z,q⟩=>⟨by rw[<-⇑r];exact z,?_⟩);have g:d c.heap.objs.size=none:=f.cJ.fresh (vb _);refine⟨.ref c.heap.objs.size,upd d c.heap.objs.size (.tup k),f.laid (t':=c.toks) (λb u e=>vJ _ e) (vb _) ?_,rfl,q _ g⟩;exact⟨z,j,r,⟨_,Heap.get?_push_size _ rfl,rfl,_,rfl⟩⟩
def jP(h:PA X es t):PE X (.List es pos) (tJ t):=by
 intro a s l H Q I i;refine wpAny_List_spliced (cM (h pos a s l H _ I i) λj c ⟨k,d,f,r,z,q⟩=>⟨by rw[<-⇑r];exact z,?_⟩);have g:d c.heap.objs.size=none:=f.cJ.fresh (vb _);refine⟨.ref c.heap.objs.size,upd d c.heap.objs.size (.lst k),f.laid (t':=c.toks) (λb u e=>vJ _ e) (vb _) ?_,rfl,q _ g⟩;exact⟨z,j,0,r,Heap.get?_push_size _ rfl⟩
end
noncomputable abbrev Sp:=N2->Hp->VK->XK->Prop
noncomputable abbrev mZ:=List Env->Hp->Shared->XK->Value->Shared->Prop
structure lK(P:Program)(w:World)(K:cA)(mg:Nw)(base:Heap)(A:Around)(outer:Nr)(s:Shared)(H:Hp):Prop where
 frames:A.frames=some outer
 mod:Mod K mg base
 bs:∀b o,base.get? b=some o->s.heap.get? b=some o/\H b=none
 oa:base.objs.size<=s.heap.objs.size
 gE:s.heap.FunFrames base outer
 oW:∀b∈mI outer,H b=none
 cJ:fO P w H s.heap
 bare:AllBare s.gens
def CE(outer:Nr)(P:Program)(w:World)(H:Hp)(s:Shared)(Q:VK)(u:Value)(s':Shared):Prop:=
 ∃v H',s'.os=s.os/\AllBare s'.gens/\Un (mI outer) [] H H' s.heap s'.heap/\fO P w H' s'.heap/\RelV v u/\Q v H'
def CR(CX:mZ)(outer:Nr)(P:Program)(w:World)(H:Hp)(s:Shared)(Q:VK)(E:XK)(r:Result)(s':Shared):Prop:=
 match r with
 | .ok (.ret u)=>CE outer P w H s Q u s'
 | .ok _=>False
 | .error e=>CX outer H s E e s'
structure fH(P:Program)(w:World)(K:cA)(mg:Nw)(base:Heap)(CX:mZ)(k:Nat)(f:Addr)(fd:FuncData)(ps:L8)(sp:Sp):Prop where
 len:∀vs H Q E,sp vs H Q E->⇑vs=⇑ps
 run:∀(A:Around) (outer:Nr) (s:Shared) (H:Hp) (args:Args) (us:L9) (vs:N2) (Q:VK) (E:XK),dC k A->lK P w K mg base A outer s H->BindsTo s fd args (ps.zip us)->Vals vs us->sp vs H Q E->
  codeAny (model P w) A (.call (.ref f) args) (CR CX outer P w H s Q E) s
def fH.mono{P:Program}{w:World}{K:cA}{e:Nw}{a:Heap}{CX:mZ}{j k:Nat}{f:Addr}{d:FuncData}{ps:L8}{sp:Sp}(F:fH P w K e a CX j f d ps sp)(h:j<=k) :
  fH P w K e a CX k f d ps sp:=⟨F.len,λA b s H c i l Q E g=>F.run A b s H c i l Q E (g.mono h)⟩
def lK.make{P:Program}{w:World}{K:cA}{c:Nw}{b:Heap}{A:Around}{a:Nr}{s:Shared}{H:Hp}(e:lK P w K c b A a s H)(C:Addr)(us:L9)(d:List (Str×Value)) :
  lK P w K c b (A.under (.builtin "type.__call__" ⟨.ref C::us,d⟩)) a s H:=⟨by first | exact e.frames | (simpa [Around.under,Code.envs,Code.isFrame,pushEnvs]using e.frames),e.mod,e.bs,e.oa,e.gE,e.oW,e.cJ,e.bare⟩
section
variable{X:Cx}{pins:Ny}{σ:St}{H:Hp}{s s':Shared}
def Inv.sr(I:Inv X pins σ H s):lK X.prog X.w X.K X.mg X.base X.A X.stack s H:=
 ⟨I.ok.frames,I.ok.mod,I.bs,vV I.ok.oa I.sz,I.stack,I.md,I.cJ,I.bare⟩
def Inv.after(I:Inv X pins σ H s)(h:CE X.stack X.prog X.w H s Q u s'):EP X pins σ Q u s':=by
 let⟨v,f,j,a,k,c,r,q⟩:=h;let⟨i,g,d,t,e⟩:=s';obtain rfl:e=s.os:=j;exact⟨v,f,I.call (h':=i) (g':=g) (d':=d) (t':=t) (ch:=[]) k c a (λb z=>uf z (by simp)),r,q⟩
end
def nP(sp:Sp)(dvs:N2)(E:XK)(t:TA):TE:=λσ H Q=>t σ H λvs H1=>sp (vs++dvs) H1 Q E
def pG(C:Addr)(m:Str)(sp:Sp)(dvs:N2)(E:XK)(ta:TE)(t:TA):TE:=λσ H Q=>ta σ H λx H1=>∃a dx fs,x = .ref a/\H1 a=some (.ins C dx fs)/\fs.lookup m=none/\
 t σ H1 λvs H2=>sp (x::(vs++dvs)) H2 Q E
def pF(C:Addr)(sp:Sp)(dvs:N2)(E:XK)(t:TA):TE:=λσ H Q=>t σ H λvs H1=>∀x dx,H1 x=none->H1 dx=none->dx≠x->
 sp (.ref x::(vs++dvs)) (upd (upd H1 dx (.own x)) x (.ins C dx [])) (λv H2=>v = .cW/\Q (.ref x) H2) E
def Binds(K:cA)(fd:FuncData)(ps:L8)(ds:L9):Prop:=
 ∀(s:Shared) (us:L9),K.In s.heap->⇑(us++ds)=⇑ps->BindsTo s fd ⟨us,[]⟩ (ps.zip (us++ds))
def Binds.all{K:cA}{a:FuncData}{ps:L8}(h:∀us:L9,⇑us=⇑ps->bindArgs a ⟨us,[]⟩=pure (ps.zip us)):Binds K a ps []:=λs us q b=>by
 rw[append_nil]at b|-;exact .of_eq (h us b)
def Passes(CX:mZ)(X:Cx)(E:XK):Prop:=∀(pins:Ny) (σ:St) (H:Hp) (s:Shared) (e:Value) (s':Shared),Inv X pins σ H s->CX X.stack H s E e s'->X.xe e s'
section
variable{X:Cx}{CX:mZ}{k:Nat}{f C:Addr}{fd:FuncData}{ps:L8}{sp:Sp}{dvs:N2}{ds:L9}{E:XK}{x m:Str}{p pos apos:Pos}{e o:Expr}{es:Nt}{ta:TE}{t:TA}
def Dp{b:St}{H:Hp}(F:fH X.prog X.w X.K X.mg X.base CX k f fd ps sp)(j:dC k X.A)(d:Binds X.K fd ps ds)(g:Vals dvs ds)(l:Passes CX X E)
  (I:Inv X pins b H s) (r:Vals vs us) (h:sp (vs++dvs) H Q E):wpAny (model X.prog X.w) X.A (call (.ref f) us) (EP X pins b Q) X.xe s:=by
 have c:Vals (vs++dvs) (us++ds):=r.append g;have i:⇑(us++ds)=⇑ps:=by rw[<-⇑c];exact F.len _ _ _ _ h
 refine wpAny_call (codeAny_mono (F.run X.A X.stack s H ⟨us,[]⟩ (us++ds) (vs++dvs) Q E j I.sr (d s us I.g8 i) c h) λr m a=>?_);cases r with
 | error e=>exact l pins b H s e m I a
 | ok fl=>
  cases fl with
  | ret u=>exact I.after a
  | next=>exact False.elim a
  | brk=>exact False.elim a
  | cont=>exact False.elim a
def Iz(F:fH X.prog X.w X.K X.mg X.base CX k f fd ps sp)(u:dC k X.A)(m:Gl X x)(o:X.mg x=↥f)(n:PySem.W.keepIn X.K (.ref f)=true)(i:Binds X.K fd ps ds)(j:Vals dvs ds)(v:Passes CX X E)
  (g:PA X (e::es) t) (b:(x==("__debug__" : Str))=false:=by decide) (l:starEach (e::es) X.env=(false,eval e X.env)::starEach es X.env:=by rfl) (c:(backTo pos (starEach es X.env)).any (·.1)=false:=by rfl) :
  PE X (.Call (.Name x p) (e::es) [] pos) (nP sp dvs E t):=by
 intro a s w H Q I h;refine wpAny_Call_Name_kw (XR I m o ?_ b);refine PySem.W.callWith_K (h₀:=X.base) I.ok.mod.sQ n (cM (g pos a s w H _ I h) λB z z_=>?_) l c;let⟨C,y,d,r,q⟩:=z_;refine⟨d.g8,?_⟩;exact Dp F u i j v d r q
def Zf(J:PE X o ta)(c:lI X.K C)(n:Meth X.K C m f)(F:fH X.prog X.w X.K X.mg X.base CX k f fd ps sp)(K:dC k X.A)(B:Binds X.K fd ps ds)(D:Vals dvs ds)(M:Passes CX X E)(z:PA X (e::es) t)
  (g:starEach (e::es) X.env=(false,eval e X.env)::starEach es X.env:=by rfl) (d:(backTo pos (starEach es X.env)).any (·.1)=false:=by rfl)
  (L:eval (.Call (.Attribute o m apos) (e::es) [] pos) X.env=(do
   let ov <-eval o X.env
   standAt apos.atName
   let (f,first) <-holding [ov] (getMethod ov m pl)
   callWith pos f first (backTo pos (starEach (e::es) X.env)) (backToKw pos (keywordEach [] X.env))):=by rfl) :
  PE X (.Call (.Attribute o m apos) (e::es) [] pos) (pG C m sp dvs E ta t):=by
 intro b s p H Q I h;refine PySem.W.methodCall_KW (pl:=pl) (cM (J b s p H _ I h) λu P z_=>?_) L;obtain⟨x,v,i,O,a,S,fs,y,w,l,q⟩:=z_;subst y;obtain rfl:u=Value.ref a:=O;refine Ec i w c n l ?_;refine PySem.W.callWith_K (first:=[.ref a]) (h₀:=X.base) I.ok.mod.sQ n.kp (cM (z pos b P p v _ i q) λus T z_=>?_) g d;let⟨vs,R,j,r,N⟩:=z_;refine⟨j.g8,?_⟩;exact Dp (us:=.ref a::us) (vs:=.ref a::vs) F K B D M j (.cons rfl r) N
structure Mk(K:cA)(C f:Addr):Prop where
 makes:PySem.W.makesIn K C=true
 init:PySem.W.findIn K (.ref C) "__init__"= some (↥f)
 fn:PySem.W.isFn K (.ref f)=true
 kp:PySem.W.keepIn K (.ref C)=true
def Hm{c:St}{H:Hp}(M:Mk X.K C f)(F:fH X.prog X.w X.K X.mg X.base CX k f fd ps sp)(p:dC (k+1) X.A)(m:Binds X.K fd ps ds)(n:Vals dvs ds)
  (q:Passes CX X E) (I:Inv X pins c H s) (r:Vals vs us)
  (h:∀x dx,H x=none->H dx=none->dx≠x->sp (.ref x::(vs++dvs)) (upd (upd H dx (.own x)) x (.ins C dx [])) (λv H2=>v = .cW/\Q (.ref x) H2) E) :
  wpAny (model X.prog X.w) X.A (call (.ref C) us) (EP X pins c Q) X.xe s:=by
 have d:=h (s.heap.objs.size+1) s.heap.objs.size (I.cJ.fresh (Nat.le_succ _)) (I.cJ.fresh (vb _)) (vE (Nat.lt_succ_self _));have b:=Inv.made (C:=C) I;have g:Vals (V.ref (s.heap.objs.size+1)::(vs++dvs)) (Value.ref (s.heap.objs.size+1)::(us++ds)):=.cons rfl (r.append n);have o:⇑(Value.ref (s.heap.objs.size+1)::us++ds)=⇑ps:=by
  have e:=⇑g;rw[F.len _ _ _ _ d]at e;exact e.symm
 refine wpAny_call (Ge (f:=f) I.g8 M.makes M.init (beq_iff_eq.mp M.fn) (codeAny_mono (F.run _ X.stack _ _ ⟨Value.ref (s.heap.objs.size+1)::us,[]⟩ (Value.ref (s.heap.objs.size+1)::(us++ds)) _ _ E (p.make C us [])
  (b.sr.make C us []) (m _ (Value.ref (s.heap.objs.size+1)::us) b.g8 o) g d) λr y a=>?_))
 cases r with
 | error e=>exact q pins c _ _ e y b a
 | ok fl=>
  cases fl with
  | ret u=>
   let⟨v,i,j,w,l,t⟩:=b.after a;subst l;exact⟨w,⟨V.ref (s.heap.objs.size+1),i,j,rfl,t⟩⟩
  | next=>exact False.elim a
  | brk=>exact False.elim a
  | cont=>exact False.elim a
def YZ(M:Mk X.K C f)(F:fH X.prog X.w X.K X.mg X.base CX k f fd ps sp)(o:dC (k+1) X.A)(m:Gl X x)(n:X.mg x=↥C)(i:Binds X.K fd ps ds)(j:Vals dvs ds)(u:Passes CX X E)
  (g:PA X (e::es) t) (b:(x==("__debug__" : Str))=false:=by decide) (l:starEach (e::es) X.env=(false,eval e X.env)::starEach es X.env:=by rfl) (c:(backTo pos (starEach es X.env)).any (·.1)=false:=by rfl) :
  PE X (.Call (.Name x p) (e::es) [] pos) (pF C sp dvs E t):=by
 intro a s v H Q I h;refine wpAny_Call_Name_kw (XR I m n ?_ b);refine PySem.W.callWith_K (h₀:=X.base) I.ok.mod.sQ M.kp (cM (g pos a s v H _ I h) λz y z_=>?_) l c;let⟨B,w,d,r,q⟩:=z_;refine⟨d.g8,?_⟩;exact Hm M F o i j u d r q
end
structure cf(N P:L8)(sc:Scope):Prop where
 kind:sc.kind = .function
 co:sc.isCoroutine=false
 gen:sc.isGenerator=false
 nd:N.Nodup
 pre:N.take ⇑P=P
 par:∀x∈P,sc.names.lookup x=some .local\/sc.names.lookup x=some .cell
 rk:∀y∈sc.names,y.2≠.free
theorem xE{b:Str->Option NameKind}:∀{a:List (Str×Value)} {m:Nw},(∀v,(x,v)∉a)->bindL b a m x=m x
 | [],_,_=>rfl
 | (n,v)::r,m,h=>by
  unfold bindL;rw[xE λw c=>h w (vp _ c)];split
  .have:x≠n:=by rintro rfl;exact h v vq
   simp[this]
  .rfl
theorem xB{b:Str->Option NameKind}:∀{a:List (Str×Value)} {m:Nw},(∀v,(x,v)∉a)->bindC b a m x=m x
 | [],_,_=>rfl
 | (n,v)::r,m,h=>by
  unfold bindC;rw[xB λw c=>h w (vp _ c)];split
  .rfl
  .have:x≠n:=by rintro rfl;exact h v vq
   simp[this]
theorem xC{a:Str->Option NameKind}:∀{P:L8} {vs:L9} {i:Nat} {m:Nw},P.Nodup->P[i]?=some x->vs[i]?=some v->a x=some .local->
  bindL a (P.zip vs) m x=some v
 | [],_,_,_,_,h,_,_=>by simp at h
 | _::_,[],_,_,_,_,h,_=>by simp at h
 | p::P,w::vs,0,m,nd,h1,h2,hk=>by
  simp at h1 h2;subst h1;subst h2;show bindL a ((p,w)::P.zip vs) m p=_;unfold bindL;rw[xE λv b=>(ur.mp nd).1 (of_mem_zip b).1,vd hk];simp
 | p::P,w::vs,i+1,m,nd,h1,h2,hk=>by
  show bindL a ((p,w)::P.zip vs) m x=_;unfold bindL;exact xC (i:=i) (ur.mp nd).2 #v[h1] #v[h2] hk
theorem xA{a:Str->Option NameKind}:∀{P:L8} {vs:L9} {i:Nat} {m:Nw},P.Nodup->P[i]?=some x->vs[i]?=some v->a x≠some .local->
  bindC a (P.zip vs) m x=some v
 | [],_,_,_,_,h,_,_=>by simp at h
 | _::_,[],_,_,_,_,h,_=>by simp at h
 | p::P,w::vs,0,m,nd,h1,h2,hk=>by
  simp at h1 h2;subst h1;subst h2;show bindC a ((p,w)::P.zip vs) m p=_;unfold bindC;rw[xB λv b=>(ur.mp nd).1 (of_mem_zip b).1,vc hk];simp
 | p::P,w::vs,i+1,m,nd,h1,h2,hk=>by
  show bindC a ((p,w)::P.zip vs) m x=_;unfold bindC;exact xA (i:=i) (ur.mp nd).2 #v[h1] #v[h2] hk
noncomputable def start(N:L8)(vs:N2):St:=vs.map some++List.replicate (⇑N-⇑vs) none
noncomputable def eF(CX:mZ)(P:Program)(w:World)(K:cA)(mg:Nw)(base:Heap)(N:L8)(qual:Str)(scope:Scope)(f:Addr)(cd:Value)(A:Around)(outer:Nr)(s:Shared)(H:Hp)(E:XK):Cx where
 prog:=P
 w:=w
 K:=K
 mg:=mg
 base:=base
 A:=A.deeper (envOfC qual scope s.heap.objs.size f cd)
 N:=N
 s₀:=s
 H₀:=H
 env:=envOfC qual scope s.heap.objs.size f cd
 outer:=outer
 stack:=envOfC qual scope s.heap.objs.size f cd::outer
 ex:=[]
 calm:=true
 fn:=λq=>true
 pn:=[]
 xe:=λe s'=>wpAny (model P w) (A.deeper (envOfC qual scope s.heap.objs.size f cd)) (leaving (envOfC qual scope s.heap.objs.size f cd) e) (λq s''=>CX outer H s E e s'') (λe' s''=>CX outer H s E e' s'') s'
def BF{a:Scope}{n:Nat}{x:Str}(h:a.names.lookup x=some .cell):∃c,(cellsFrom n a.names []).lookup x=some c:=by
 have q:=PySem.W.cellsFrom_some a.names n [] (.inl h);exact Option.isSome_iff_exists.mp q
def FE{CX:mZ}{P:Program}{w:World}{K:cA}{M:Nw}{m:Heap}{N ps:L8}{j:Str}{d:Scope}{f:Addr}{I:Value}{A:Around}{g:Nr}{s R:Shared}{H:Hp}{E:XK}{us:L9}{vs:N2}
  (S:cf N ps d) (U:A.handled=none) (o:lK P w K M m A g s H) (Z:⇑vs=⇑ps) (r:Vals vs us)
  (x:InCallC s s.heap.objs.size (bindL (envOfC j d s.heap.objs.size f I).kindOf (ps.zip us) λ_=>none) (cellsFrom (s.heap.objs.size+1) d.names []) (bindC (envOfC j d s.heap.objs.size f I).kindOf (ps.zip us) λ_=>none) R) :
  Inv (eF CX P w K M m N j d f I A g s H E) [] (start N vs) H R:=by
 have W:⇑ps<=⇑N:=by have:=congrArg List.length S.pre;rw[vi]at this;lia
 let⟨J,tk,rfl,O⟩:=x.done;have B:∀b:Addr,b∉(eF CX P w K M m N j d f I A g s H E).ex:=λb z=>uf (show b∈([]:L7)from z) (by simp)
 refine⟨⟨o.mod,S.kind,rfl,rfl,vb _,λy z c J l=>?_,λy t=>?_,λy c _ h=>?_,λ_=>U,Around.frames_deeper o.frames,.inr ⟨rfl,rfl⟩,λb z=>uf z (B b),o.bs,o.oa,λb _ _=>B b,λb z=>uf z (B b),o.gE,o.oW⟩,
  rfl,o.bare,Un.kept O,⟨_,x.toInCall.ns,λi y v J l Y=>?_⟩,λy c h=>⟨_,x.cell y c h⟩,o.cJ.fresh (vb _),λy c h=>?_,λp C=>uf (show p∈([]:Ny)from C) (by simp),o.cJ.kept O,?_⟩
 .exact name_of_addr x.apart (PySem.mem_of_lookup J) (PySem.mem_of_lookup l)
 .have t:d.names.lookup y=some .cell\/d.names.lookup y=some .free:=t;rcases t with t | t
  .exact BF t
  .exact uf rfl (S.rk _ (PySem.mem_of_lookup t))
 .exact vX (x.above y c (PySem.mem_of_lookup h))
 .have L:i<⇑vs:=by
   unfold start at l;by_cases L:i<⇑vs
   .exact L
   .rw[vC #v[L]]at l;rw[List.getElem?_replicate]at l;split at l<;>cases l
  have T:vs[i]?=some v:=by
   unfold start at l;rw[vB #v[L],vv]at l;cases e:vs[i]? with
   | none=>rw[e]at l;cases l
   | some a=>rw[e]at l;cases l;rfl
  let⟨u,Q,X⟩:=r.get T;have C:ps[i]?=some y:=by
   rw[<-S.pre,ut ⋯];exact J
  have D:ps.Nodup:=by rw[<-S.pre];exact S.nd.sublist (take_sublist _ _)
  refine⟨u,X,?_⟩;rcases S.par y (vm C)with k | k
  .exact .inl ⟨k,xC D C Q k⟩
  .let⟨c,e⟩:=BF (n:=s.heap.objs.size+1) k;refine .inr ⟨.inl k,c,e,?_⟩;have q:=x.cell y c e;rw[xA D C Q (by show d.names.lookup y≠_;rw[k];decide)]at q;exact q
 .exact o.cJ.fresh (vX (x.above y c (PySem.mem_of_lookup h)))
 .unfold start;show _=⇑N;rw[vn,vt,length_replicate];lia
def La{CX:mZ}{P:Program}{w:World}{K:cA}{O:Nw}{i:Heap}{k:Nat}{f:Addr}{name d:Str}{j:Arguments}{l:List Stmt}{a:Scope}{dV kV C pm g ct oc:Value}{an od:Option Addr}
  {W:Array (Nv)} {N ps:L8} {sp:Sp} (lk:K.lookup f=some ⟨oc,od,.func (PySem.W.fnOf name d j l a dV kV C pm an g ct),W⟩) (R:PySem.W.codeIn K g d=true) (S:cf N ps a)
  (len:∀vs H Q E,sp vs H Q E->⇑vs=⇑ps)
  (p:∀(A:Around) (c:Nr) (s:Shared) (H:Hp) (vs:N2) (Q:VK) (E:XK),dC k (A.deeper (envOfC d a s.heap.objs.size f g))->sp vs H Q E->
   ∃t,lN (eF CX P w K O i N d a f g A c s H E) l t/\t {nx:=λ_ H'=>Q .cW H',rt:=Q} (start N vs) H) :
  fH P w K O i CX (k+1) f (PySem.W.fnOf name d j l a dV kV C pm an g ct) ps sp:=by
 refine⟨len,λA c s H a0 us vs Q E T D hb r M=>?_⟩;have hl:=len _ _ _ _ M;have Z:K.In s.heap:=D.mod.sQ.keeps λb o e=>(D.bs b o e).1
 have U:s.heap.NoLimit:=D.mod.nolimit.keeps λb o e=>(D.bs b o e).1
 have z:∀y∈ps.zip us,a.names.lookup y.1=some .local\/(a.names.lookup y.1=some .cell/\((cellsFrom (s.heap.objs.size+1) a.names []).lookup y.1).isSome=true):=λ⟨n,v⟩ hy=>by
  rcases S.par n (of_mem_zip hy).1 with q | q
  .exact .inl q
  .exact .inr ⟨q,PySem.W.cellsFrom_some _ _ _ (.inl q)⟩
 refine codeAny_call_function T.depth (Z _ _ lk) rfl S.co S.gen rfl (PySem.W.codeRec_of Z R) (hb _ _ _ _ ?_);refine wpAny_newFunctionEnv_cells S.kind z λa1 he s1 x=>?_
 subst he;refine⟨U.keeps x.toInCall.keep,codeAny_func ?_⟩;let⟨t,ht,hq⟩:=p A c s H vs Q E (T.deeper _) M;have I:Inv (eF CX P w K O i N d a f g A c s H E) [] (start N vs) H s1:=FE S T.hd D hl r x;refine wpAny_mono (ht [] s1 (start N vs) H _ I hq) (λfl Y B=>?_) λe Y B=>B
 have L:∀{m:St} {H':Hp} {v:V} {u:Value},Inv (eF CX P w K O i N d a f g A c s H E) [] m H' Y->RelV v u->Q v H'->CE c P w H s Q u Y:=
  λ{m H' v u} J X q=>⟨v,H',J.os,J.bare,J.base,J.cJ,X,q⟩
 cases fl with
 | ret u=>
  let⟨v,m,H',J,X,q⟩:=B;exact L J X q
 | next=>
  let⟨m,H',J,q⟩:=B;exact L (v:=V.cW) (u:=Value.none) J rfl q
 | brk=>
  let⟨_,_,_,q⟩:=B;exact False.elim q
 | cont=>
  let⟨_,_,_,q⟩:=B;exact False.elim q
section
variable{X:Cx}{x:Str}{p pos:Pos}{e:Expr}{es:Nt}{t:TA}{id T:String}{r:N2->Hp->VK->Prop}
def A3(r:N2->Hp->VK->Prop)(t:TA):TE:=λσ H Q=>t σ H λvs H1=>r vs H1 Q
def jD(j:dw X (.builtin id) r)(l:Gl X x)(m:X.mg x=none)(o:bootBuiltins x=some (.builtin id))(i:PA X (e::es) t)(n:x≠"__name__":=by decide)(b:(x==("__debug__" : Str))=false:=by decide)
  (k:starEach (e::es) X.env=(false,eval e X.env)::starEach es X.env:=by rfl) (c:(backTo pos (starEach es X.env)).any (·.1)=false:=by rfl):PE X (.Call (.Name x p) (e::es) [] pos) (A3 r t):=by
 intro a s d H Q I h;refine wpAny_Call_Name_kw (ZU I l m o ?_ n b);refine PyProof.Rows.callWith_builtin1 (cM (i pos a s d H _ I h) λw v z_=>?_) k c;let⟨y,f,g,u,q⟩:=z_;exact j a v d f y w Q g u q
def qz(j:dw X (.type T) r)(l:Gl X x)(m:X.mg x=none)(o:bootBuiltins x=some (.type T))(i:PA X (e::es) t)(n:x≠"__name__":=by decide)(b:(x==("__debug__" : Str))=false:=by decide)
  (k:starEach (e::es) X.env=(false,eval e X.env)::starEach es X.env:=by rfl) (c:(backTo pos (starEach es X.env)).any (·.1)=false:=by rfl):PE X (.Call (.Name x p) (e::es) [] pos) (A3 r t):=by
 intro a s d H Q I h;refine wpAny_Call_Name_kw (ZU I l m o ?_ n b);refine PyProof.Rows.callWith_type1 (cM (i pos a s d H _ I h) λw v z_=>?_) k c;let⟨y,f,g,u,q⟩:=z_;exact j a v d f y w Q g u q
end
end L2
namespace HT
open PySem PyProof.Rows
section
variable{prog:Program}{w:World}{A:Around}{E:Nz}{s:Shared}
noncomputable def c9(n d:Nat):Option Int->Nat
 | none=>d
 | some v=>if v<0 then(v+(n:Int)).toNat else min v.toNat n
def Ce(n d k:Nat):c9 n d (some (k:Int))=min k n:=by
 show(if(k:Int)<0 then((k:Int)+(n:Int)).toNat else min (k:Int).toNat n)=min k n;rw[vc ⋯,Int.toNat_natCast]
def LO(n d:Nat)(b:d<=n)(o:Nu):c9 n d o<=n:=by
 cases o with
 | none=>exact b
 | some v=>
  show(if v<0 then(v+(n:Int)).toNat else min v.toNat n)<=n;by_cases a:v<0
  .rw[vd a];lia
  .rw[vc a];exact Nat.min_le_right _ _
def Cz(v:Int)(n d:Nat):(if v<0 then max (v+(n:Int)) 0 else min v (n:Int))=((c9 n d (some v):Nat):Int):=by
 show(if v<0 then max (v+(n:Int)) 0 else min v (n:Int))=(((if v<0 then(v+(n:Int)).toNat else min v.toNat n):Nat):Int)
 by_cases a:v<0
 .simp only[if_pos a];lia
 .simp only[if_neg a];lia
def Es(lo hi:Nu)(n:Nat):Builtin.Slice.sliceAdjust lo hi 1 (n:Int)=(((c9 n 0 lo:Nat):Int),((c9 n n hi:Nat):Int)):=by
 have a:¬((1:Int)<0):=⋯
 unfold Builtin.Slice.sliceAdjust;simp only[a,if_false];refine Prod.ext ?_ ?_
 .cases lo with
  | none=>rfl
  | some v=>exact Cz v n 0
 .cases hi with
  | none=>rfl
  | some v=>exact Cz v n n
def En(i j:Nat):Builtin.Slice.slicePlaces (i:Int) (j:Int) 1=j-i:=by
 unfold Builtin.Slice.slicePlaces;have a:(1:Int)>0:=⋯
 simp only[a,if_true,Int.ediv_one];split<;>lia
def iq{Q:Option Int->Shared->Prop}(p:IsPart v o)(h:Q o s):wpAny (model prog w) A (Builtin.Slice.slicePartIndex v) Q E s:=by
 cases p with
 | none=>exact slicePart_none h
 | int i t=>exact slicePart_int h
def Z8{e:Addr}{c d:Value}{lo hi:Nu}{n:Nat}{Q:Int×Int×Nat->Shared->Prop}(g:s.heap.IsSliceOf e c d .none)(pl:IsPart c lo)(i:IsPart d hi)
  (h:Q (((c9 n 0 lo:Nat):Int),1,c9 n n hi-c9 n 0 lo) s):wpAny (model prog w) A (Builtin.Slice.sliceApplied (.ref e) (pure (n:Int))) Q E s:=by
 let⟨j,b,f,a⟩:=id g;unfold Builtin.Slice.sliceApplied Builtin.Slice.sliceFields;refine uh (uh (wpAny_field b a (x:=c) rfl (uh (wpAny_field b a (x:=d) rfl (uh (wpAny_field b a (x:=.none) rfl (ug ?_)))))));refine uh (slicePart_none ?_);show wpAny _ _ (if((1:Int)==0)=true then _ else _) _ _ s;rw[vc nofun];refine uh (iq pl (uh (iq i (uh (ug ?_)))));show wpAny _ _ (match Builtin.Slice.sliceAdjust lo hi 1 (n:Int)with | (lo,hi)=>pure (lo,(1:Int),Builtin.Slice.slicePlaces lo hi 1)) _ _ s;rw[Es lo hi n];show wpAny _ _ (pure (((c9 n 0 lo:Nat):Int),(1:Int),Builtin.Slice.slicePlaces ((c9 n 0 lo:Nat):Int) ((c9 n n hi:Nat):Int) 1)) _ _ s;rw[En];exact ug h
def GL(xs:Array Value)(i k:Nat):((List.range k).filterMap λ(m:Nat)=>xs[((i:Int)+(m:Int)*1).toNat]?).toArray=((xs.toList.drop i).take k).toArray:=by
 have e:(λ(m:Nat)=>xs[((i:Int)+(m:Int)*1).toNat]?)=λm=>xs[i+m]?:=by
  funext m;have:((i:Int)+(m:Int)*1).toNat=i+m:=⋯
  rw[this]
 rw[e];have:=pick_run xs i k;rw[List.filterMap_map]at this;have a:(Function.comp (λx=>xs[x]?) λx=>i+x)=λm=>xs[i+m]?:=rfl
 rw[a]at this;rw[this]
def Ks{t g:Addr}{items:Array Value}{j k:Value}{lo hi:Nu}{Q:Nz}(b:IsTup s.heap t items)(i:s.heap.IsSliceOf g j k .none)(pl:IsPart j lo)(o:IsPart k hi)
  (hw:¬(c9 items.size 0 lo=0/\c9 items.size items.size hi=items.size))
  (h:Q (.ref s.heap.objs.size) {s with heap:=s.heap.push {cls:=.type "tuple",data:=.seq ((items.toList.drop (c9 items.size 0 lo)).take (c9 items.size items.size hi-c9 items.size 0 lo)).toArray}})
  (hsz:items.size<=sizeLine):wpAny (model prog w) A (getItem (.ref t) (.ref g)) Q E s:=by
 have a:sizeOk (.seq ((items.toList.drop (c9 items.size 0 lo)).take (c9 items.size items.size hi-c9 items.size 0 lo)).toArray):=by
  show((items.toList.drop (c9 items.size 0 lo)).take (c9 items.size items.size hi-c9 items.size 0 lo)).toArray.size<=sizeLine;rw[size_toArray,vi,List.length_drop,Array.length_toList];lia
 have p:c9 items.size items.size hi<=items.size:=LO _ _ (vb _) hi;let⟨n,f,d,l⟩:=id i;have c:s.TypeIs (.ref g) "slice":=⟨n,f,d⟩
 unfold getItem
 try with_reducible refine wpAny_holding ?_
 first | refine uh (ug ?_) | skip
 refine uh (wpAny_sequenceKey b.typeIs nofun ?_);refine uh (wpAny_callSpecial?_slot (name:=Str.ofString "__getitem__") b.typeIs PyProof.Rows.slot_tuple_getitem
  (wpAny_call_entry PyProof.Rows.slot_tuple_getitem b.typeIs entry_tuple_getitem ?_ (args_tuple_getitem _ _)))
 show wpAny _ _ (Builtin.Tuple.tupleItemsOf (.ref t) >>= _) _ _ s;refine uh (tupleItemsOf_ b ?_);refine uh (wpAny_typeOf c ?_);rw[vd nofun];refine uh (Z8 i pl o ?_);have e:¬((((c9 items.size 0 lo:Nat):Int)==0&&(1:Int)==1&&(c9 items.size items.size hi-c9 items.size 0 lo)==items.size)=true):=by
  intro q;rw[Bool.and_eq_true,Bool.and_eq_true]at q;have r:((c9 items.size 0 lo:Nat):Int)=0:=eq_of_beq q.1.1;have u:c9 items.size items.size hi-c9 items.size 0 lo=items.size:=eq_of_beq q.2;exact hw ⟨⋯,⋯⟩
 show wpAny _ _ (if(((c9 items.size 0 lo:Nat):Int)==0&&(1:Int)==1&&(c9 items.size items.size hi-c9 items.size 0 lo)==items.size)=true then _ else _) _ _ s;rw[vc e,GL]
 first
  | exact uh (m:=Builtin.Tuple.tupleExact _) (wpAny_newObj_type (ug ⟨_,rfl,ug h⟩) a)
  | exact uh (m:=Builtin.Tuple.tupleExact _) (wpAny_newObj_type (uh (ug (ug ⟨_,rfl,ug h⟩))) a)
  | exact uh (uh (m:=Builtin.Tuple.tupleExact _) (wpAny_newObj_type (ug (ug ⟨_,rfl,ug h⟩)) a))
  | exact uh (uh (m:=Builtin.Tuple.tupleExact _) (wpAny_newObj_type (ug ⟨_,rfl,ug h⟩) a))
end
end HT
namespace L2
open PySem PySem.Spec PyProof.Rows
noncomputable abbrev TO:=St->Hp->(Option Int->Hp->Prop)->Prop
def PO(X:Cx)(e:Option Expr)(t:TO):Prop:=
 ∀(pins:Ny) (s:Shared) (σ:St) (H:Hp) (Q:Option Int->Hp->Prop),Inv X pins σ H s->t σ H Q->
  wpAny (model X.prog X.w) X.A (evalPart e X.env) (λu s'=>∃o H',Inv X pins σ H' s'/\IsPart u o/\Q o H') X.xe s
def me:TO:=λq H Q=>Q none H
def pK(t:TE):TO:=λσ H Q=>t σ H λx H1=>∃i,x = .int i/\Q (some i) H1
def intsAre_of:∀{us:L9},Vals (ns.map V.int) us->IntsAre us ns:=by
 induction ns with
 | nil=>intro us r;rw[map_nil]at r;cases r;exact .nil
 | cons n ns ih=>
  intro us r;rw[v7]at r;cases r with
  | cons r1 r2=>
   let⟨t,e⟩:=r1;subst e;exact .cons n t (ih r2)
section
variable{X:Cx}{e:Expr}{te:TE}{lo hi:Option Expr}{tl th:TO}{pos p2:Pos}
def ZO:PO X none me:=by
 intro a s b H Q I h;rw[evalPart_none];exact ug ⟨none,H,I,.none,h⟩
def Zg(h:PE X e te):PO X (some e) (pK te):=by
 intro a s j H Q I d;rw[evalPart_some];refine cM (h a s j H _ I d) λu k z_=>?_;obtain⟨x,b,c,g,f⟩:=z_
 let⟨i,rfl,q⟩:=f;let⟨t,rfl⟩:=g;exact⟨some i,b,c,.int i t,q⟩
def nC(X:Cx)(r:V->Option Int->Option Int->Hp->VK->Prop):Prop:=
 ∀(pins:Ny) (s:Shared) (σ:St) (H:Hp) (x:V) (v vl vu:Value) (lo hi:Nu) (sl:Addr) (Q:VK),Inv X pins σ H s->RelV x v->s.heap.IsSliceOf sl vl vu .none->IsPart vl lo->IsPart vu hi->r x lo hi H Q->
  ∃T id,typeLookup (.type T) "__getitem__"= pure (some (.builtin id))/\s.TypeIs v T/\wpAny (model X.prog X.w) X.A (getItem v (.ref sl)) (EP X pins σ Q) X.xe s
def nC.or{r e:V->Option Int->Option Int->Hp->VK->Prop}(h:nC X r)(h':nC X e):nC X (λx lo hi H Q=>r x lo hi H Q\/e x lo hi H Q):=by
 intro a s k H x v i j lo hi g Q I f b c d q;rcases q with q | q
 .exact h a s k H x v i j lo hi g Q I f b c d q
 .exact h' a s k H x v i j lo hi g Q I f b c d q
def DG(r:V->Option Int->Option Int->Hp->VK->Prop)(te:TE)(tl th:TO):TE:=λσ H Q=>te σ H λx H1=>tl σ H1 λl H2=>th σ H2 λu H3=>r x l u H3 Q
def zF{r:V->Option Int->Option Int->Hp->VK->Prop}(z:nC X r)(t:PE X e te)(y:PO X lo tl)(B:PO X hi th):PE X (.Subscript e (.Slice lo hi none p2) pos) (DG r te tl th):=by
 intro a s d H Q I h;refine Subscript_ (cM (t a s d H _ I h) λv M z_=>?_);obtain⟨x,j,m,L,E⟩:=z_;refine wpAny_Slice (cM (y a M d j _ m E) λf N z_=>?_);let⟨l,k,n,C,J⟩:=z_;refine cM (B a N d k _ n J) λg c z_=>?_;obtain⟨u,i,o,D,K⟩:=z_;rw[evalPart_none];refine ug ?_;have p:Inv X a d i {c with heap:=c.heap.push {cls:=.type "slice",data:=.fields #[f,g,.none]}}:=o.kept (t':=c.toks) λb P q=>vJ _ q
 let⟨T,O,hT,A,w⟩:=z a {c with heap:=c.heap.push {cls:=.type "slice",data:=.fields #[f,g,.none]}} d i x v f g l u c.heap.objs.size Q p L (Heap.IsSliceOf.new ..) C D K;show wpAny (model X.prog X.w) X.A (subscriptTail e (.Slice lo hi none p2) v (.ref c.heap.objs.size)) (EP X a d Q) X.xe {c with heap:=c.heap.push {cls:=.type "slice",data:=.fields #[f,g,.none]}};exact tail_any (ops:=[.ref c.heap.objs.size,v]) A hT w (by with_unfolding_all rfl)
noncomputable def fc(xs:N2)(lo hi:Nu):N2:=(xs.drop (HT.c9 ⇑xs 0 lo)).take (HT.c9 ⇑xs ⇑xs hi-HT.c9 ⇑xs 0 lo)
def ZI(xs:N2)(lo hi:Nu):⇑(fc xs lo hi)<=⇑xs:=by
 unfold fc;rw[vi,List.length_drop];lia
noncomputable def rm(K:cA):V->Option Int->Option Int->Hp->VK->Prop:=λx lo hi H Q=>∃a xs,x = .ref a/\cU K H a xs/\
 ¬(HT.c9 ⇑xs 0 lo=0/\HT.c9 ⇑xs ⇑xs hi=⇑xs)/\∀p,H p=none->Q (.ref p) (upd H p (.tup (fc xs lo hi)))
def AE:nC X (rm X.K):=by
 intro k s B H x v z A e f y Q I u l p t h;let⟨a,d,rfl,n,m,q⟩:=h;cases u;let⟨g,r,i,j⟩:=I.tuple n;have c:g.toArray.size=⇑d:=by rw[size_toArray];exact r.length.symm
 refine⟨"tuple",_,PyProof.Rows.slot_tuple_getitem.lookup,i.typeIs,?_⟩;refine HT.Ks i l p t (by rw[c];exact m) ?_ (by rw[c];exact j);rw[c];refine⟨.ref s.heap.objs.size,_,I.laid (t':=s.toks) (o:=.tup (fc d e f)) (λb w q=>vJ _ q) (vb _) ?_,rfl,q _ (I.cJ.fresh (vb _))⟩;exact⟨vV (ZI d e f) j,_,(r.drop (HT.c9 ⇑d 0 e)).take (HT.c9 ⇑d ⇑d f-HT.c9 ⇑d 0 e),IsTup.new _ _⟩
end
noncomputable def lF(n:Nat)(i:Int):Option Nat:=if 0<=i then(if i<n then some i.toNat else none)else if -(n:Int)<=i then some (i+n).toNat else none
noncomputable def eW{α:Type}(xs:List α)(i:Int):Option α:=(lF ⇑xs i).bind λj=>xs[j]?
def CL(h:lF n i=some j):seqIndex? i n=some j/\j<n/\-(n:Int)<=i/\i<n:=by
 unfold lF at h;by_cases b:0<=i
 .rw[vd b]at h;by_cases a:i<n
  .rw[vd a]at h;have e:i.toNat=j:=vL h;exact⟨by rw[seqIndex_of b a,e],⋯,⋯,a⟩
  .rw[vc a]at h;cases h
 .rw[vc b]at h;by_cases a : -(n:Int)<=i
  .rw[vd a]at h;have e:(i+n).toNat=j:=vL h;exact⟨by rw[seqIndex_neg ⋯ a,e],⋯,a,⋯⟩
  .rw[vc a]at h;cases h
def Xr{a:Type}{xs:List a}{i:Int}{v:a}(h:eW xs i=some v):∃j,seqIndex? i ⇑xs=some j/\xs[j]?=some v/\j<⇑xs/\-(⇑xs:Int)<=i/\i<⇑xs:=by
 unfold eW at h;cases e:lF ⇑xs i with
 | none=>rw[e]at h;cases h
 | some j=>
  rw[e]at h;let⟨b,c,d,f⟩:=CL e;exact⟨j,b,h,c,d,f⟩
def jJ{a:Type}{xs:List a}{j:Nat}{v:a}(h:xs[j]?=some v):eW xs (j:Int)=some v:=by
 have b:j<⇑xs:=(vx.mp h).1;have e:lF ⇑xs (j:Int)=some j:=by
  unfold lF
  simp_all
 unfold eW;rw[e];exact h
def Gu{a:Type}(xs:List a)(v:a):eW (xs++[v]) (-1)=some v:=by
 have b:⇑(xs++[v])=⇑xs+1:=by simp
 have e:lF ⇑(xs++[v]) (-1)=some ⇑xs:=by
  unfold lF;rw[b,vc nofun,vd ⋯];congr 1;lia
 unfold eW;rw[e];show(xs++[v])[⇑xs]?=some v;simp
def om(b:Expr):Prop:=∀o i,subscripted b false o i=operate [o,i] (getItem o i)
def rH(X:Cx)(r:R2):Prop:=
 ∀(value slice:Expr) (pins:Ny) (s:Shared) (σ:St) (H:Hp) (x y:V) (v u:Value) (Q:VK),Inv X pins σ H s->RelV x v->RelV y u->r x y H Q->
  subscripted slice false v u=operate [v,u] (getItem v u)->wpAny (model X.prog X.w) X.A (subscriptTail value slice v u) (EP X pins σ Q) X.xe s
def rY(X:Cx)(id:String)(r:V->N2->Hp->VK->Prop):Prop:=
 ∀(pins:Ny) (s:Shared) (σ:St) (H:Hp) (x:V) (xs:N2) (v:Value) (us:L9) (Q:VK),Inv X pins σ H s->RelV x v->Vals xs us->r x xs H Q->
  wpAny (model X.prog X.w) X.A (call (.builtin id) (v::us)) (EP X pins σ Q) X.xe s
section
variable{X:Cx}{a b:Expr}{ta tb:TE}{pos:Pos}
def jk(i:rH X r)(f:PE X a ta)(g:PE X b tb)(j:om b:=by exact λZ Z=>rfl):PE X (.Subscript a b pos) (tM r ta tb):=by
 intro c s n H Q I h;exact Subscript_ (pZ f g I h λv u m x y d e k l q=>i a b c m n d x y v u Q e k l q (j _ _))
def rl(K:cA):R2:=λx y H Q=>∃p xs i v,x = .ref p/\y = .int i/\bZ K H p xs/\eW xs i=some v/\Q v H
def oD(K:cA):R2:=λx y H Q=>∃p xs i v,x = .ref p/\y = .int i/\cU K H p xs/\eW xs i=some v/\Q v H
def AZ:R2:=λx y H Q=>∃z i c,x = .str z/\y = .int i/\⇑z<=sizeLine/\eW z.cps.toList i=some c/\Q (.str ⟨#[c]⟩) H
def ju:rH X (rl X.K):=by
 intro l k a s A H x y v u Q I L M h o;let⟨p,S,i,z,rfl,rfl,K,E,q⟩:=h;cases L;let⟨t,rfl⟩:=M;let⟨e,r,f,R⟩:=I.list K;let⟨j,c,B,O,C,D⟩:=Xr E;let⟨w,m,g⟩:=r.get B;have J:=⇑r;have P:=gH;have b:EP X a A Q w s:=⟨z,H,I,g,q⟩
 by_cases n:0<=i
 .have d:i.toNat=j:=by
   rw[seqIndex_of n D]at c;exact vL c
  exact item_listR f.isList n ⋯ (by rw[d];simpa using m) b o
 .have d:(i+(e.toArray.size:Int)).toNat=j:=by
   rw[seqIndex_neg ⋯ C]at c;rw[size_toArray,<-J];exact vL c
  exact subscriptTail_builtinR (x:=w) f.isList.typeIs slot_list_getitem.lookup
   (wpAny_getItem_list_neg (Q:=λr N=>r=w/\EP X a A Q r N) f.isList ⋯ (by rw[size_toArray]<;>lia) ⋯ (by rw[d];simpa using m) ⟨rfl,b⟩) o
def jv:rH X (oD X.K):=by
 intro e d a s g H x y v u Q I D E h B;let⟨p,P,i,z,rfl,rfl,A,n,q⟩:=h;cases D;let⟨t,rfl⟩:=E;let⟨C,r,f,O⟩:=I.tuple A;let⟨j,l,m,K,L,M⟩:=Xr n;let⟨w,k,c⟩:=r.get m;have o:=⇑r;have N:=gH;have b:EP X a g Q w s:=⟨z,H,I,c,q⟩
 exact subscriptTail_builtinR (x:=w) f.typeIs slot_tuple_getitem.lookup
  (getItem_tuple (j:=j) (Q:=λr J=>r=w/\EP X a g Q r J) f ⋯ ⋯ (by rw[size_toArray,<-o];exact l) #v[k] ⟨rfl,b⟩) B
def Dd:rH X AZ:=by
 intro b a e s E H x y v u Q I r w h p;let⟨z,i,c,rfl,rfl,C,n,q⟩:=h;let⟨t,rfl⟩:=r;let⟨D,rfl⟩:=w;let⟨j,d,k,A,l,m⟩:=Xr n;have o:⇑z.cps.toList=⇑z:=by simp[Str.length]
 rw[o]at d l m;have B:=gH;exact tail_any (typeIs_str s z t) slot_str_getitem.lookup (getItem_str (c:=c) (by
  have f:decide (i < -(2^63:Int))=false:=vH ⋯;have g:decide (i>=2^63)=false:=vH ⋯;rw[f,g,Bool.or_false]) (by rw[d];simpa using k) ⟨.str ⟨#[c]⟩,H,I.tok _,⟨_,rfl⟩,q⟩) p
def Eh(a:L9)(n j:Nat)(u:Value):Obj.mapSeq (·.setIfInBounds j u) {cls:=.type "list",data:=.seq a.toArray n}={cls:=.type "list",data:=.seq (a.set j u).toArray n}:=by
 simp[Obj.mapSeq]
def Inv.lst{b:St}{H:Hp}(I:Inv X pins b H s)(h:H p=some (.lst xs)) :
  ∃(a:L9) (n:Nat),Vals xs a/\s.heap.get? p=some {cls:=.type "list",data:=.seq a.toArray n}/\⇑xs<=sizeLine:=by
 let⟨z,a,n,r,e⟩:=I.cJ p _ h;exact⟨a,n,r,e,z⟩
def Inv.rj{a:Ny}{i:St}{H:Hp}{s:Shared}{p:Addr}{xs ys:N2}{c its':L9}{n d:Nat}{f:Obj->Obj}(I:Inv X a i H s)(h:H p=some (.lst xs))
  (k:s.heap.get? p=some {cls:=.type "list",data:=.seq c.toArray n}) (g:f {cls:=.type "list",data:=.seq c.toArray n}={cls:=.type "list",data:=.seq its'.toArray d}) (r:Vals ys its') (l:⇑ys<=sizeLine) (t:Nat) :
  Inv X a i (upd H p (.lst ys)) {s with heap:=s.heap.update p f,toks:=t}:=by
 have e:(s.heap.update p f).get? p=some {cls:=.type "list",data:=.seq its'.toArray d}:=by
  rw[Heap.get?_update_self f k (by rw[g]<;>rfl),g]
 refine I.write (x:=p) (e:=p) (by rw[h];trivial) (.inl rfl) (λb u j q=>(Heap.get?_update_other _ _ (Ne.symm j)).trans q) ⟨_,e⟩ ?_;exact⟨l,its',d,r,e⟩
noncomputable def sZ:V->V->V->Hp->(Hp->Prop)->Prop:=λo i v H Q=>∃p xs k j,o = .ref p/\i = .int k/\H p=some (.lst xs)/\lF ⇑xs k=some j/\Q (upd H p (.lst (xs.set j v)))
def set_list:r9 X sZ:=by
 intro b s E H o i v ov L u Q I B A C h;let⟨p,D,k,j,rfl,rfl,x,y,q⟩:=h;cases B;let⟨t,rfl⟩:=A;let⟨a,n,r,f,z⟩:=I.lst x;let⟨c,J,m,w⟩:=CL y;have e:=⇑r;have K:=gH;have g:Inv X b E (upd H p (.lst (D.set j v))) {s with heap:=s.heap.update p (Obj.mapSeq (·.setIfInBounds j u))}:=
  I.rj x f (Eh a n j u) (r.set C j) (by rw[length_set];exact z) s.toks
 by_cases l:0<=k
 .have d:k.toNat=j:=by
   rw[seqIndex_of l w]at c;exact vL c
  exact PySem.W.ki_setAt f l ⋯ (by rw[size_toArray,<-e];exact w) (by rw[d];exact⟨_,g,q⟩)
 .have d:(k+(a.toArray.size:Int)).toNat=j:=by
   rw[seqIndex_neg ⋯ m]at c;rw[size_toArray,<-e];exact vL c
  exact PySem.W.ki_setBack f ⋯ (by rw[size_toArray,<-e];exact m) ⋯ (by rw[d];exact⟨_,g,q⟩)
def D1(lo hi:Nu)(n:Nat):(sliceBounds lo hi none n).1=((HT.c9 n 0 lo:Nat):Int)/\(sliceBounds lo hi none n).2.1=((HT.c9 n n hi:Nat):Int)/\(sliceBounds lo hi none n).2.2=1:=by
 refine⟨?_,?_,rfl⟩
 .cases lo with
  | none=>simp[sliceBounds,HT.c9]
  | some i=>
   simp only[sliceBounds,HT.c9,Option.getD_none,show(1:Int)>0 by decide,if_true];by_cases h:i<0
   .simp only[h,if_true]<;>lia
   .simp only[h,if_false]<;>lia
 .cases hi with
  | none=>simp[sliceBounds,HT.c9]
  | some i=>
   simp only[sliceBounds,HT.c9,Option.getD_none,show(1:Int)>0 by decide,if_true];by_cases h:i<0
   .simp only[h,if_true]<;>lia
   .simp only[h,if_false]<;>lia
def xw(a:L9)(lo hi:Nu):slicePick a.toArray lo hi none=((a.drop (HT.c9 ⇑a 0 lo)).take (HT.c9 ⇑a ⇑a hi-HT.c9 ⇑a 0 lo)).toArray:=by
 let⟨b,c,d⟩:=D1 lo hi a.toArray.size;unfold slicePick;rw[b,c,d];simp only[sliceRange_one,pick_run,size_toArray]<;>rfl
noncomputable def A1(K:cA):V->Option Int->Option Int->Hp->VK->Prop:=λx lo hi H Q=>∃a xs,x = .ref a/\bZ K H a xs/\∀p,H p=none->Q (.ref p) (upd H p (.lst (fc xs lo hi)))
def Ag:nC X (A1 X.K):=by
 intro i s A H x v y z e f w Q I t j n p h;let⟨a,c,rfl,k,q⟩:=h;cases t;let⟨m,r,g,l⟩:=I.list k;have d:=⇑r;refine⟨"list",_,slot_list_getitem.lookup,g.isList.typeIs,?_⟩;refine wpAny_getItem_list_slice g.isList j n p .none (by simp) ?_ (by rw[size_toArray]<;>lia);rw[xw,<-d];refine⟨.ref s.heap.objs.size,_,I.laid (t':=s.toks) (o:=.lst (fc c e f)) (λb u q=>vJ _ q) (vb _) ?_,rfl,q _ (I.cJ.fresh (vb _))⟩;exact⟨vV (ZI c e f) l,_,0,(r.drop (HT.c9 ⇑c 0 e)).take (HT.c9 ⇑c ⇑c f-HT.c9 ⇑c 0 e),Heap.get?_push_size _ rfl⟩
noncomputable def eu:V->Bool
 | .cW=>true
 | .bl _=>true
 | .int _=>true
 | .str _=>true
 | _=>false
noncomputable def lV:V->V->Bool
 | .cW,.cW=>true
 | .bl a,.bl b=>a==b
 | .bl a,.int b=>(if a then 1 else 0)==b
 | .int a,.bl b=>a==(if b then 1 else 0)
 | .int a,.int b=>a==b
 | .str a,.str b=>a==b
 | _,_=>false
def Ig(f:RelV y u)(c:RelV x v)(g:eu y=true)(e:eu x=true):SeqAt.EqAt A s u v (lV y x):=by
 cases y with
 | cW=>
  cases f;cases x with
  | cW=>cases c;exact SeqAt.EqAt.same _
  | bl b=>cases c;exact SeqAt.EqAt.none_bool b
  | int b=>let⟨t,rfl⟩:=c;exact SeqAt.EqAt.none_int b t
  | str b=>let⟨t,rfl⟩:=c;exact SeqAt.EqAt.none_str b t
  | _=>exact uf (show false=true from e) vF
 | bl a=>
  cases f;cases x with
  | cW=>cases c;exact SeqAt.EqAt.bool_none a
  | bl b=>cases c;exact SeqAt.EqAt.bool_bool a b
  | int b=>let⟨t,rfl⟩:=c;exact SeqAt.EqAt.bool_int a b t
  | str b=>let⟨t,rfl⟩:=c;exact SeqAt.EqAt.bool_str a b t
  | _=>exact uf (show false=true from e) vF
 | int a=>
  let⟨d,rfl⟩:=f;cases x with
  | cW=>cases c;exact SeqAt.EqAt.int_none a d
  | bl b=>cases c;exact SeqAt.EqAt.int_bool a d b
  | int b=>let⟨t,rfl⟩:=c;exact SeqAt.EqAt.int_int a d b t
  | str b=>let⟨t,rfl⟩:=c;exact SeqAt.EqAt.int_str a d b t
  | _=>exact uf (show false=true from e) vF
 | str a=>
  let⟨d,rfl⟩:=f;cases x with
  | cW=>cases c;exact SeqAt.EqAt.str_none a d
  | bl b=>cases c;exact SeqAt.EqAt.str_bool a d b
  | int b=>let⟨t,rfl⟩:=c;exact SeqAt.EqAt.str_int a d b t
  | str b=>let⟨t,rfl⟩:=c;exact SeqAt.EqAt.str_str a d b t
  | _=>exact uf (show false=true from e) vF
 | _=>exact uf (show false=true from g) vF
noncomputable def lD(x:V)(u:Value):Bool:=match u with
 | .none=>lV .cW x
 | .bool b=>lV (.bl b) x
 | .int i _=>lV (.int i) x
 | .str z _=>lV (.str z) x
 | _=>false
def XH(r:RelV y u)(f:eu y=true):lD x u=lV y x:=by
 cases y with
 | cW=>cases r;rfl
 | bl b=>cases r;rfl
 | int i=>let⟨t,rfl⟩:=r;rfl
 | str z=>let⟨t,rfl⟩:=r;rfl
 | _=>exact uf (show false=true from f) vF
theorem Ki:∀{xs:N2} {us:L9},Vals xs us->xs.all eu=true->us.any (lD x)=xs.any λy=>lV y x
 | _,_,.nil,_=>rfl
 | y::xs,u::us,.cons r t,f=>by
  rw[all_cons,Bool.and_eq_true]at f;rw[any_cons,any_cons,XH r f.1,Ki t f.2]
theorem Z5(c:RelV x v)(b:eu x=true):∀{xs:N2} {us:L9},Vals xs us->xs.all eu=true->∀u∈us,SeqAt.EqAt A s u v (lD x u)
 | _,_,.nil,_=>λu a=>by cases a
 | y::xs,u::us,.cons r t,f=>λd a=>by
  rw[all_cons,Bool.and_eq_true]at f;rcases mem_cons.mp a with rfl | a
  .rw[XH r f.1];exact Ig r c f.1 b
  .exact Z5 c b t f.2 d a
noncomputable def mL(x:V)(xs:N2):Bool:=xs.any λy=>lV y x
def AY(K:cA)(neg:Bool):R2:=λx y H Q=>∃p xs,y = .ref p/\(bZ K H p xs\/cU K H p xs)/\eu x=true/\xs.all eu=true/\Q (.bl (if neg then !mL x xs else mL x xs)) H
def Xc:fR X (compareOp .In) (AY X.K false):=by
 intro f s l H x y v u Q I g j h;let⟨p,k,rfl,b,e,fs,q⟩:=h;cases j;rcases b with b | b
 .let⟨a,r,d,i⟩:=I.list b;refine SeqAt.in_listAt (lD x) d.isList (λw c=>Z5 g e r fs w #v[c]) ⟨.bl _,H,I,rfl,?_⟩;rw[show a.toArray.any (lD x)=a.any (lD x) by simp,Ki r fs];exact q
 .let⟨a,r,d,i⟩:=I.tuple b;refine SeqAt.in_tupleAt (lD x) d (λw c=>Z5 g e r fs w #v[c]) ⟨.bl _,H,I,rfl,?_⟩;rw[show a.toArray.any (lD x)=a.any (lD x) by simp,Ki r fs];exact q
def DN:fR X (compareOp .NotIn) (AY X.K true):=by
 intro f s l H x y v u Q I g j h;let⟨p,k,rfl,b,e,fs,q⟩:=h;cases j;rcases b with b | b
 .let⟨a,r,d,i⟩:=I.list b;refine SeqAt.notIn_listAt (lD x) d.isList (λw c=>Z5 g e r fs w #v[c]) ⟨.bl _,H,I,rfl,?_⟩;rw[show a.toArray.any (lD x)=a.any (lD x) by simp,Ki r fs];exact q
 .let⟨a,r,d,i⟩:=I.tuple b;refine SeqAt.notIn_tupleAt (lD x) d (λw c=>Z5 g e r fs w #v[c]) ⟨.bl _,H,I,rfl,?_⟩;rw[show a.toArray.any (lD x)=a.any (lD x) by simp,Ki r fs];exact q
def Kl:dw X (.type "list") (λxs H Q=>∃p ys,xs=[.ref p]/\(bZ X.K H p ys\/cU X.K H p ys)/\∀l,H l=none->Q (.ref l) (upd H l (.lst ys))):=by
 intro t s B H xs C Q I r h;let⟨p,ys,rfl,j,q⟩:=h;let⟨u,rfl,A⟩:=vals1 r;cases A;have g:∀(a:L9),Vals ys a->⇑ys<=sizeLine->∀(c:Heap) (d:Nat),(∀b z,s.heap.get? b=some z->c.get? b=some z)->
   c.get? s.heap.objs.size=some {cls:=.type "list",dict:=none,data:=.seq a.toArray d,slots:=#[]}->EP X t B Q (.ref s.heap.objs.size) {s with heap:=c}:=λa f k c d m e=>
  ⟨.ref s.heap.objs.size,_,I.laid (t':=s.toks) m (vb _) (show cD X.prog X.w _ c _ (.lst ys)from⟨k,a,d,f,e⟩),rfl,q _ (I.cJ.fresh (vb _))⟩
 rcases j with j | j
 .let⟨a,f,y,k⟩:=I.list j;have i:=⇑f;let⟨o,x,v,n,w⟩:=y.isList;exact call_list_seq p (.inl rfl) x v w (λc d m e=>g a f k c d m e) (by simp only[size_toArray]<;>lia)
 .let⟨a,f,y,k⟩:=I.tuple j;have i:=⇑f;let⟨o,x,v,n,w⟩:=y;exact call_list_seq p (.inr rfl) x v w (λc d m e=>g a f k c d m e) (by simp only[size_toArray]<;>lia)
def zm:dw X (.type "tuple") (λxs H Q=>∃p ys,xs=[.ref p]/\((bZ X.K H p ys/\∀l,H l=none->Q (.ref l) (upd H l (.tup ys)))\/(cU X.K H p ys/\Q (.ref p) H))):=by
 intro a s n H xs x Q I r h;let⟨p,ys,rfl,h⟩:=h;let⟨u,rfl,w⟩:=vals1 r;cases w;rcases h with⟨f,q⟩ | ⟨f,q⟩
 .let⟨c,i,g,m⟩:=I.list f;have k:=⇑i;refine call_tuple_list g.isList (λd v=>?_) (by simp only[size_toArray]<;>lia);have j:Inv X a n H {s with heap:=d}:=I.kept (t':=s.toks) v;have t:Inv X a n (upd H d.objs.size (.tup ys)) {s with heap:=d.push {cls:=.type "tuple",data:=.seq c.toArray}}:=
   j.laid (t':=s.toks) (λb o e=>vJ _ e) (vb _) (show cD X.prog X.w _ _ _ (.tup ys)from⟨m,c,i,IsTup.new _ _⟩)
  exact⟨.ref d.objs.size,_,t,rfl,q _ (j.cJ.fresh (vb _))⟩
 .let⟨c,i,g,m⟩:=I.tuple f;exact call_tuple_same g ⟨.ref p,H,I,rfl,q⟩
def tU(K:cA)(T:String)(x:V)(H:Hp):Prop:=match x with
 | .str _=>T = "str"
 | .int _=>T = "int"
 | .ref p=>(T = "list"/\∃xs,bZ K H p xs)\/(T = "tuple"/\∃o,K.lookup p=some o/\o.cls = .type "tuple"/\o.dict=none)\/
   (T = "dict"/\((∃kvs,H p=some (.dK kvs))\/∃kvs,H p=some (.dT kvs)))\/(T = "set"/\∃S n,H p=some (.set S n))
 | _=>False
def Di{w:St}{H:Hp}(I:Inv X pins w H s)(r:RelV x v)(f:tU X.K T x H) :
  s.TypeIs v T/\∀a,v = .ref a->∃k,s.heap.get? a=some k/\k.dict=none:=by
 cases x with
 | str z=>
  let⟨t,rfl⟩:=r;cases(show T = "str" from f);exact⟨typeIs_str s z t,λZ e=>nomatch e⟩
 | int i=>
  let⟨t,rfl⟩:=r;cases(show T = "int" from f);exact⟨typeIs_int s i t,λZ e=>nomatch e⟩
 | ref p=>
  cases r;rcases f with⟨rfl,y,q⟩ | ⟨rfl,o,b,m,h⟩ | ⟨rfl,b⟩ | ⟨rfl,S,n,b⟩
  .let⟨u,_,l,_⟩:=I.list q;refine⟨l.isList.typeIs,λa e=>?_⟩;cases e;let⟨o,n,e,c,h,Z⟩:=l;exact⟨o,e,h⟩
  .refine⟨⟨o,I.g8 p o b,m⟩,λa e=>?_⟩;cases e;exact⟨o,I.g8 _ o b,h⟩
  .have z:∃o,s.heap.get? p=some o/\o.ExactDict:=by
    rcases b with⟨j,b⟩ | ⟨j,b⟩
    .let⟨_,_,_,_,o,_,_,e,d,_⟩:=I.cJ p _ b;exact⟨o,e,d⟩
    .let⟨_,_,_,_,o,_,_,e,d,_⟩:=I.cJ p _ b;exact⟨o,e,d⟩
   let⟨o,e,d⟩:=z;refine⟨⟨o,e,d.1⟩,λa g=>?_⟩;cases g;exact⟨o,e,d.2.1⟩
  .let⟨o,_,_,_,e,d,_⟩:=I.cJ p _ b;refine⟨⟨o,e,d.1⟩,λa g=>?_⟩;cases g;exact⟨o,e,d.2.1⟩
 | _=>exact False.elim f
def tG(K:cA)(T:String)(r:V->N2->Hp->VK->Prop)(to:TE):TE:=λσ H Q=>to σ H λx H1=>tU K T x H1/\r x [] H1 Q
def DC(K:cA)(T:String)(r:V->N2->Hp->VK->Prop)(to:TE)(t:TA):TE:=λσ H Q=>to σ H λx H1=>tU K T x H1/\t σ H1 λxs H2=>r x xs H2 Q
variable{o e:Expr}{es:Nt}{to:TE}{t:TA}{name:Str}{apos cpos:Pos}{T id:String}{r:V->N2->Hp->VK->Prop}
def Am(p:PlainAttrs T)(d:Slot T name id)(e:typeOf (.builtin id)=pure (.type "method_descriptor"))(m:rY X id r)(n:PE X o to)
  (b:attributeBase o name X.env (eval o X.env)=eval o X.env:=by rfl) (c:(apos.endLine==cpos.line)=true:=by rfl):PE X (.Call (.Attribute o name apos) [] [] cpos) (tG X.K T r to):=by
 intro a s i H Q I h;refine wpAny_Call_method0_late b c (cM (n a s i H _ I h) λv t z_=>?_);obtain⟨x,j,f,g,u,q⟩:=z_;let⟨k,l⟩:=Di f g u;exact⟨T,id,p,d,e,k,l,Calls.callWith_builtin rfl (PySem.evalArgs_none (m a t i j x [] v [] Q f g .nil q))⟩
def JP(C:PlainAttrs T)(g:Slot T name id)(i:typeOf (.builtin id)=pure (.type "method_descriptor"))(z:rY X id r)(A:PE X o to)(y:PA X (e::es) t)
  (c:attributeBase o name X.env (eval o X.env)=eval o X.env:=by rfl)
  (f:((backTo cpos (starEach (e::es) X.env)).all (λx=>!x.1)&&(backToKw cpos (keywordEach [] X.env)).all (λx=>x.1.isSome)
   && decide (⇑(e::es)+⇑([]:List Keyword)+(if([]:List Keyword).isEmpty then 0 else 1)<30))=true:=by rfl)
  (d:(apos.endLine==cpos.line)=true:=by rfl) (B:starEach (e::es) X.env=(false,eval e X.env)::starEach es X.env:=by rfl) (b:(backTo cpos (starEach es X.env)).any (·.1)=false:=by rfl) :
  PE X (.Call (.Attribute o name apos) (e::es) [] cpos) (DC X.K T r to t):=by
 intro a s j H Q I h;refine wpAny_Call_method_late c f d rfl (cM (A a s j H _ I h) λv K z_=>?_);obtain⟨x,n,k,m,M,D⟩:=z_;let⟨u,w⟩:=Di k m M;refine⟨T,id,C,g,i,u,w,?_⟩;have l:=y cpos a K j n _ k D;rw[B]at l|-;refine Calls.callWith_builtin (by show(false||(backTo cpos (starEach es X.env)).any (·.1))=false;rw[b]<;>rfl) (Calls.evalArgs_plain ?_);refine cM l λN L z_=>?_;let⟨O,p,q,J,E⟩:=z_;exact z a L j p x O v N Q q m J E
end
def uM(X:Cx)(id:String)(r:V->N2->Hp->VK->Prop):Prop:=
 ∀(pins:Ny) (s:Shared) (σ:St) (H:Hp) (x:V) (xs:N2) (v:Value) (us:L9) (Q:VK),Inv X pins σ H s->RelV x v->Vals xs us->r x xs H Q->
  wpAny (model X.prog X.w) X.A (call (.builtin id) (v::us)) (EP X pins σ Q) X.xe s
def Vals.one:∀{x:V} {us:L9},Vals [x] us->∃u,us=[u]/\RelV x u:=by
 intro x us h;cases h with
 | cons r t=>
  cases t;exact⟨_,rfl,r⟩
def Vals.zero:∀{us:L9},Vals [] us->us=[]
 | _,.nil=>rfl
def Vals.dropLast{xs:N2}{us:L9}(h:Vals xs us):Vals xs.dropLast us.dropLast:=by
 induction h with
 | nil=>exact .nil
 | cons r t ih=>
  cases t with
  | nil=>exact .nil
  | cons q t'=>exact .cons r ih
def Mb{a:Type}(l:List a):l.eraseIdx (⇑l-1)=l.dropLast:=by
 simp_all
section
variable{X:Cx}{pins:Ny}{σ:St}{H:Hp}{s:Shared}{l b:Addr}{xs ys zs:N2}
def Inv.ri{a its':L9}{n:Nat}{f:Array Value->Array Value}{t':Nat}(I:Inv X pins σ H s)(b:H l=some (.lst xs))
  (e:s.heap.get? l=some {cls:=.type "list",data:=.seq a.toArray n}) (d:f a.toArray=its'.toArray) (h:Vals ys its') (i:⇑ys<=sizeLine) :
  Inv X pins σ (upd H l (.lst ys)) {s with heap:=s.heap.update l (Obj.mapSeq f),toks:=t'}:=by
 have q:=PySem.IsL.update e f;rw[d]at q;refine I.write (x:=l) (e:=l) (by rw[b];exact trivial) (.inl rfl) (λj u c g=>(Heap.get?_update_other s.heap (Obj.mapSeq f) (Ne.symm c)).trans g) ⟨_,q⟩ ?_;exact⟨i,its',_,h,q⟩
def Inv.AQ(I:Inv X pins σ H s)(a:Vals ys its)(b:⇑ys<=sizeLine) :
  Inv X pins σ (upd H s.heap.objs.size (.lst ys)) {s with heap:=s.heap.push {cls:=.type "list",data:=.seq its.toArray},toks:=t'}:=
 I.laid (λj j q=>vJ _ q) (vb _) ⟨b,its,0,a,Heap.get?_push_size _ rfl⟩
def Inv.fresh(I:Inv X pins σ H s):H s.heap.objs.size=none:=I.cJ.fresh (vb _)
def Inv.i3(I:Inv X pins σ H s)(b:H l=some (.lst xs)):⇑xs<=sizeLine/\∃(a:L9) (n:Nat),Vals xs a/\⇑xs=⇑a/\s.heap.get? l=some {cls:=.type "list",data:=.seq a.toArray n}:=by
 let⟨z,a,n,r,e⟩:=I.cJ l _ b;exact⟨z,a,n,r,⇑r,e⟩
def nK(h:n<=sizeLine):Builtin.List.listTooLong n=false:=by
 unfold Builtin.List.listTooLong;exact vH ⋯
end
section
variable{X:Cx}
noncomputable def oA:V->N2->Hp->VK->Prop:=λx vs H Q=>∃l xs y,x = .ref l/\vs=[y]/\H l=some (.lst xs)/\⇑xs<sizeLine/\Q .cW (upd H l (.lst (xs++[y])))
def jO:uM X "list.append" oA:=by
 intro c s p H x m v k Q I g f h;let⟨l,o,y,rfl,rfl,b,j,q⟩:=h;cases g;let⟨u,rfl,d⟩:=f.one;let⟨z,a,n,r,i,e⟩:=I.i3 b;refine call_meets F.slot_list_append ⟨_,e,rfl⟩ F.entry_list_append (F.args_list_append_2 _ _) (PySem.list_append l a.toArray n u (by rw[size_toArray];lia)) ⟨e,?_⟩;refine⟨.cW,_,I.ri (its':=a++[u]) b e (by simp) (r.append (.cons d .nil)) ?_,rfl,q⟩;rw[vn,vR];lia
noncomputable def oB:V->N2->Hp->VK->Prop:=λx vs H Q=>∃l b xs zs,x = .ref l/\vs=[.ref b]/\H l=some (.lst xs)/\H b=some (.lst zs)/\⇑xs+⇑zs<=sizeLine/\Q .cW (upd H l (.lst (xs++zs)))
def FQ:uM X "list.extend" oB:=by
 intro i s L H x D v C Q I y w h;let⟨l,b,E,K,rfl,rfl,g,k,B,q⟩:=h;cases y;let⟨u,rfl,t⟩:=w.one;cases t;let⟨z,c,n,r,A,e⟩:=I.i3 g;let⟨J,a,o,p,m,j⟩:=I.i3 k;have f:c.toArray.size+a.toArray.size<=sizeLine:=by rw[size_toArray,size_toArray];lia
 have d:¬(!c.toArray.isEmpty&&Builtin.List.listTooLong (c.toArray.size+a.toArray.size))=true:=by
  rw[nK f,Bool.and_false];exact vF
 refine call_meets F.slot_list_extend ⟨_,e,rfl⟩ F.entry_list_extend (F.args_list_extend_2 _ _)
  (AutoSeq1.list_extend_list_list_0 l c.toArray n b a.toArray o d (by rw[size_toArray];lia) ⋯) ⟨e,j,?_⟩
 refine⟨.cW,_,I.ri (its':=c++a) g e (by simp) (r.append p) ?_,rfl,q⟩;rw[vn];lia
noncomputable def A0:V->N2->Hp->VK->Prop:=λx vs H Q=>∃l xs y,x = .ref l/\vs=[]/\H l=some (.lst xs)/\xs[⇑xs-1]?=some y/\Q y (upd H l (.lst xs.dropLast))
def C0:uM X "list.pop" A0:=by
 intro f s A H x t v p Q I o m h;let⟨l,w,y,rfl,rfl,d,j,q⟩:=h;cases o;have b:=m.zero;subst b;let⟨z,a,n,r,g,e⟩:=I.i3 d;let⟨u,i,k⟩:=r.get j;have c:a.toArray[a.toArray.size-1]?=some u:=by
  show a.toArray[⇑a-1]?=some u;rw[<-Array.getElem?_toList,<-g];exact i
 refine call_meets F.slot_list_pop ⟨_,e,rfl⟩ F.entry_list_pop (F.args_list_pop_1 _) (MeetsSeq.list_pop_last l a.toArray n u c (by rw[size_toArray];lia)) ⟨e,?_⟩;refine⟨y,_,I.ri (its':=a.dropLast) d e ?_ r.dropLast ?_,k,q⟩
 .simp_all
 .rw[List.length_dropLast];lia
def AW:R2:=λx y H Q=>∃l b xs zs,x = .ref l/\y = .ref b/\H l=some (.lst xs)/\H b=some (.lst zs)/\⇑xs+⇑zs<=sizeLine/\∀p,H p=none->Q (.ref p) (upd H p (.lst (xs++zs)))
def kI:fR X (binaryOp .Add) AW:=by
 intro d s E H x y v u Q I o p h;let⟨l,b,B,D,rfl,rfl,j,i,w,q⟩:=h;cases o;cases p;let⟨z,c,n,r,t,e⟩:=I.i3 j;let⟨C,a,A,m,k,f⟩:=I.i3 i;refine PySem.P.add_list e f ?_ (by rw[size_toArray,size_toArray];lia);have g:c.toArray++a.toArray=(c++a).toArray:=by simp
 rw[g];exact⟨.ref _,_,I.AQ (t':=s.toks) (r.append m) (by rw[vn];lia),rfl,q _ I.fresh⟩
end
end L2
namespace Att
open PySem PySem.W PySem.Calls PyProof.Rows
def wX:∀(c:L5) (vs:L9),WellAll P h vs (c.map WData.int)->IntsAre vs c:=by
 intro c
 induction c with
 | nil=>
  intro vs w;rw[map_nil]at w;cases w;exact .nil
 | cons n c ih=>
  intro vs w;rw[v7]at w;cases w with
  | cons a b=>
   cases a;exact .cons _ _ (ih _ b)
def Fd{l:OpenLaw}{n:Nat}(t:l.most=some n){P:Params}{h:Heap}{args:List WData}{e:L9}
  (c:l.row.toRowW.claim.pre args=true) (k:WellAll P h e args) :
  ∃a vs b,e=[Value.ref a]/\args=[WData.list (b.map WData.int)]/\h.get? a=some {cls:=.type "list",data:=.seq vs.toArray}/\IntsAre vs b/\⇑b<=n:=by
 have j:WShape.hasAll [] args [.list .int]=true:=(pre_splitW c).1;have m:l.pre.holds [] {args:=args}=true:=(pre_splitW c).2;let⟨d,r,rfl,o,p⟩:=hasAllW_cons j;obtain rfl:=hasAllW_nil p;let⟨v,rfl,s⟩:=hasW_list o;let⟨b,rfl⟩:=items_int s;have f:⇑b<=n:=by
  unfold OpenLaw.pre at m;have g:(WTm.not (.lt (.lit (.int (n:Int))) (.len (.arg 0)))).holds [] {args:=[.list (b.map .int)]}=true:=by
   have g:=(holds_andW m).1;rw[t]at g;exact g
  have i:=condW_of g (w_not (w_lt w_lit (w_len_list (w_arg rfl))));rw[vt]at i;refine Nat.le_of_not_lt λq=>?_
  have u:(n:Int)<((⇑b:Nat):Int):=⋯
  first
   | (rw[vG u]at i;exact uf i nofun)
   | (simp at i;lia)
 cases k with
 | cons w1 w2=>
  cases w2;cases w1 with
  | list ho hall=>exact⟨_,_,b,rfl,rfl,ho,wX b _ hall,f⟩
def EZ(l:OpenLaw)(args:List WData):l.row.toRowW.claim.post args (.bool true) args=true:=
 postW_of (r:=l.row.toRowW) (X:=(true==true))
  (show WShape.has [] (.bool true) .bool=true by first | rfl | decide | simp[WShape.has,WShape.arms,WShape.armsAll])
  (show(WTm.eq .res (.lit (.bool true))).value [] {args:=args,res:=some (.bool true),after:=args}=some (.bool (true==true))from w_eq_bool (w_res rfl) w_lit) rfl
end Att
namespace L2
open PySem PySem.Spec PyProof.Rows
theorem Xh:∀{vs:L9} {a:L5},IntsAre vs a->Vals (a.map V.int) vs
 | _,_,.nil=>.nil
 | _,_,.cons n t h=>.cons ⟨t,rfl⟩ (Xh h)
def pU(H:Hp):Prop:=∀b,H b=none\/∃o xs,H b=some (.gD o (.lst xs))
def Ga{P:Program}{w:World}{K:cA}{I U:Nw}{CX:mZ}{k:Nat}{fa a:Addr}{Y:FuncData}{x:Str}{sp:Sp}{c:Shared}{vs:L9}{J:L5}
  (X:K.In c.heap) (B:c.heap.Ns mainGlobals I) (g:c.heap.Ns builtinsNs U) (S:∀x:Str,x≠"__name__"->U x=bootBuiltins x) (y:c.heap.NoLimit) (hg:c.gens = #[])
  (R:c.heap.get? a=some {cls:=.type "list",data:=.seq vs.toArray}) (hi:IntsAre vs J) (hl:⇑J<=sizeLine) (hr:dC k callerA)
  (F:∀base:Heap,K.In base->base.Ns mainGlobals I->fH P w K I base CX k fa Y [x] sp) (l:∀(s:Shared) (u:Value),BindsTo s Y ⟨[u],[]⟩ [(x,u)])
  (T:∀H:Hp,pU H->bZ K H a (J.map V.int)->sp [.ref a] H (λv _=>v = .bl true) λ_ _ _=>False)
  (O:∀H e s',CX [] H c (λ_ _ _=>False) e s'->False) :
  codeAny (model P w) callerA (.call (.ref fa) ⟨[.ref a],[]⟩) (λr s'=>r = .ok (.ret (.bool true))/\OldK c.heap s'.heap/\s'.os=c.os/\AllBare s'.gens) c:=by
 have rv:=Xh hi;have a0:=⇑hi;have j:∀H:Hp,pU H->bZ K H a (J.map V.int)->fO P w H c.heap->(∀b,H b≠none->b=a)->(H a≠none->K.lookup a=none)->
   codeAny (model P w) callerA (.call (.ref fa) ⟨[.ref a],[]⟩) (λr s'=>r = .ok (.ret (.bool true))/\OldK c.heap s'.heap/\s'.os=c.os/\AllBare s'.gens) c:=by
  intro H Z hS C hA hK;have f:∀{b:Addr} {o:Obj},c.heap.get? b=some o->H b=none->(iY c.heap H).get? b=some o:=λe n=>GI e n
  have W:∀{b:Addr} {o:Obj} {N:Array DictEntry} {M:Nat},c.heap.get? b=some o->o.data = .dict N M->H b=none:=λ{b o N M} e d=>by
   grind
  have i:∀{b:Addr} {m:Nw},c.heap.Ns b m->(iY c.heap H).Ns b m:=λ{b m} ⟨o,N,M,e,d,r⟩=>⟨o,N,M,f e (W e d),d,r⟩
  have t:K.In (iY c.heap H):=λb o e=>f (X b o e) (by
   grind)
  have hM:Mod K I (iY c.heap H):=⟨t,i B,⟨U,i g,S⟩,let ⟨mc,h1,h2⟩:=y;⟨mc,i h1,h2⟩⟩
  have e0:lK P w K I (iY c.heap H) callerA [] c H:=⟨rfl,hM,λb o e=>Iu e,Nat.le_of_eq (FA _ _),trivial,λb g=>uf (show b∈([]:L7)from g) (by simp),C,.of_eq hg⟩
  refine codeAny_mono ((F _ t (i B)).run callerA [] c H ⟨[.ref a],[]⟩ [.ref a] [.ref a] _ _ hr e0 (l c (.ref a)) (.cons rfl .nil) (T H Z hS)) λr s' h=>?_
  cases r with
  | error e=>exact(O H e s' h).elim
  | ok fl=>
   cases fl with
   | next=>exact False.elim h
   | brk=>exact False.elim h
   | cont=>exact False.elim h
   | ret u=>
    let⟨v,H',os,p,un,D,r',q⟩:=h;have q':v = .bl true:=q;subst q';obtain rfl:u=Value.bool true:=r';refine⟨rfl,OldK.of_keep λb o e=>?_,os,p⟩;cases q:H b with
    | none=>exact un.keep b o e q (by intro z;exact uf (show b∈([]:L7)from z) (by simp)) (by simp)
    | some u=>
     rcases Z b with z | ⟨ob,xs,z⟩
     .rw[q]at z;cases z
     .have z2:=un.iX b ob _ z;let⟨e1,_⟩:=C b _ z;let⟨e2,_⟩:=D b _ z2
      lia
 cases hk:K.lookup a with
 | some o=>
  have e:=X a o hk;rw[R]at e;cases e;refine j (λ_=>none) (λ_=>.inl rfl) (.inr ⟨_,vs.toArray,_,hk,rfl,rfl,rfl,by simp_all,#v[rv]⟩) (λb u z=>by have L:(none:Option HO)=some u:=z;cases L) (λb z=>uf rfl z) λz=>uf rfl z
 | none=>
  refine j (λb=>if b=a then some (.gD {cls:=.type "list",data:=.seq vs.toArray} (.lst (J.map V.int)))else none) (λb=>?_) (.inl (.inr ⟨{cls:=.type "list",data:=.seq vs.toArray},vd rfl⟩)) (λb u z=>?_) (λb z=>?_) λ_=>hk
  .by_cases g:b=a
   .exact .inr ⟨_,_,vd g⟩
   .exact .inl (vc g)
  .by_cases g:b=a
   .have L:=(vd g).symm.trans z;cases L;subst g;exact⟨R,by rw[vt];exact hl,vs,_,rv,R⟩
   .have L:=(vc g).symm.trans z;cases L
  .by_cases g:b=a
   .exact g
   .exact uf (vc g) z
noncomputable abbrev KOf{K:cA}{h:Heap}(_:K.In h):cA:=K
noncomputable def inClass(s:Stmt)(j:Nat):Stmt:=match s with
 | .ClassDef _ _ _ body _ _ _ _ _ _ _=>body.getD j (.Pass ⟨0,0,0,0⟩)
 | _=>.Pass ⟨0,0,0,0⟩
noncomputable def dI(s:Stmt):Arguments:=match s with
 | .FunctionDef _ a _ _ _ _ _ _ _ _=>a
 | _=>{posonlyargs:=[],args:=[],vararg:=none,kwonlyargs:=[],kw_defaults:=[],kwarg:=none,defaults:=[]}
noncomputable def du(s:Stmt):List Stmt:=match s with
 | .FunctionDef _ _ b _ _ _ _ _ _ _=>b
 | _=>[]
noncomputable def bV(s:Stmt):Scope:=match s with
 | .FunctionDef _ _ _ _ _ _ sc _ _ _=>sc
 | _=>{kind:=.function,names:=[],isGenerator:=false,isCoroutine:=false}
noncomputable abbrev oN:mZ:=λq q q q q q=>False
noncomputable abbrev E0:XK:=λq q q=>False
def dG:Passes oN X E0:=λq q q q q q q h=>h.elim
structure fC(K:cA)(x qual:Str)(st:Stmt)(f:Addr)(fd:FuncData):Prop where
 ex:∃(oc:Value) (od:Option Addr) (kV doc pm:Value) (an:Option Addr) (cdv ct:Value) (LU:Array (Nv)),
  fd=PySem.W.fnOf x qual (dI st) (du st) (bV st) .none kV doc pm an cdv ct/\K.lookup f=some ⟨oc,od,.func fd,LU⟩/\PySem.W.codeIn K cdv qual=true
 kp:PySem.W.keepIn K (.ref f)=true
section
variable{P:Program}{w:World}{K:cA}{mg:Nw}{base:Heap}
def fC.ok{x b:Str}{st:Stmt}{f:Addr}{i:FuncData}{N ps:L8}{k:Nat}{sp:Sp}(F:fC K x b st f i)(S:cf N ps (bV st))(len:∀vs H Q E,sp vs H Q E->⇑vs=⇑ps)
  (d:∀(c:Value) (A:Around) (a:Nr) (s:Shared) (H:Hp) (vs:N2) (Q:VK) (E:XK),dC k (A.deeper (envOfC b (bV st) s.heap.objs.size f c))->sp vs H Q E->
   ∃t,lN (eF oN P w K mg base N b (bV st) f c A a s H E).lu (du st) t/\t {nx:=λZ H'=>Q .cW H',rt:=Q} (start N vs) H):fH P w K mg base oN (k+1) f i ps sp:=by
 let⟨r,u,kV,j,v,o,c,p,n,rfl,m,e⟩:=F.ex;refine La m e S len λA a s H vs Q E l g=>?_
 let⟨t,h,q⟩:=d c A a s H vs Q E l g;exact⟨t,h.lu,q⟩
def fC.binds{x a:Str}{st:Stmt}{f:Addr}{i:FuncData}{ps:L8}(F:fC K x a st f i)
  (h:∀(kV c g:Value) (d:Option Addr) (b e:Value) (us:L9),⇑us=⇑ps->bindArgs (PySem.W.fnOf x a (dI st) (du st) (bV st) .none kV c g d b e) ⟨us,[]⟩=pure (ps.zip us)):Binds K i ps []:=by
 let⟨m,n,kV,c,g,d,b,e,k,rfl,l,j⟩:=F.ex;exact .all (h kV c g d b e)
def jK{x a:Str}{st:Stmt}{f:Addr}{j:Value}{m g:Option Addr}{e:Array (Nv)}{kV d i b h:Value}(l:K.lookup f=some ⟨j,m,.func (PySem.W.fnOf x a (dI st) (du st) (bV st) .none kV d i g b h),e⟩)
  (c:PySem.W.codeIn K b a=true) (k:PySem.W.keepIn K (.ref f)=true):fC K x a st f (PySem.W.fnOf x a (dI st) (du st) (bV st) .none kV d i g b h):=⟨⟨j,m,kV,d,i,g,b,h,e,rfl,l,c⟩,k⟩
end
def qS(a:dC k A):A.units+1<cLine:=vD (Nat.add_le_add_left (by decide:1<=64) _) a.units
section
variable{X:Cx}
def pv(i:Nat)(b:X.N[i]?=some x:=by rfl)(d:si X.env.scope x:=by first | exact Or.inl rfl | exact Or.inr (Or.inl rfl) | exact Or.inr (Or.inr rfl))(c:(x==("__debug__" : Str))=false:=by decide)
  (a:(x==("__classdict__" : Str))=false:=by decide):PE X (.Name x pos) (eC i):=LD b d c a
end
def iZ{A B:Prop}(h:B):if false=true then A else B:=by
 rw[vc vF];exact h
def dP{A B:Prop}(h:A):if true=true then A else B:=by
 rw[vd rfl];exact h
def bX(H H':Hp):Prop:=∀b o,H b=some o->H' b=some o
def bX.refl(H:Hp):bX H H:=λq q h=>h
def bX.trans{H d e:Hp}(a:bX H d)(b:bX d e):bX H e:=λc o h=>b c o (a c o h)
def bX.seq{K:cA}{H H':Hp}{a:Addr}{xs:N2}(e:bX H H')(h:bZ K H a xs):bZ K H' a xs:=by
 rcases h with(h | ⟨o,h⟩) | h
 .exact .inl (.inl (e _ _ h))
 .exact .inl (.inr ⟨o,e _ _ h⟩)
 .exact .inr h
section
variable{κ:Type}[DecidableEq κ]
noncomputable def cO(kvs:List (κ×V))(k:κ):N3:=(kvs.find? λkv=>decide (kv.1=k)).map (·.2)
noncomputable def putK(kvs:List (κ×V))(k:κ)(v:V):List (κ×V):=
 if(kvs.any λkv=>decide (kv.1=k))=true then kvs.map (λkv=>if kv.1=k then(kv.1,v)else kv)else kvs++[(k,v)]
def qU{p:κ×V}{r:List (κ×V)}{k:κ}(e:p.1=k):cO (p::r) k=some p.2:=by simp[cO,List.find?_cons,e]
def qT{p:κ×V}{r:List (κ×V)}{k:κ}(e:¬p.1=k):cO (p::r) k=cO r k:=by simp[cO,List.find?_cons,e]
def zH(k:κ):∀kvs:List (κ×V),(kvs.any λkv=>decide (kv.1=k))=(cO kvs k).isSome:=by
 intro a
 induction a with
 | nil=>
  exact rfl
 | cons p r ih0=>
  rw[any_cons];by_cases e:p.1=k
  .simp only[qU e,decide_eq_true e,Bool.true_or,Option.isSome_some]
  .rw[qT e,vH e,Bool.false_or];exact ih0
def GV(k j:κ)(y:V):∀kvs:List (κ×V),cO (kvs.map λkv=>if kv.1=k then(kv.1,y)else kv) j=(cO kvs j).map λx=>if j=k then y else x:=by
 intro b
 induction b with
 | nil=>
  exact rfl
 | cons p r ih0=>
  have a:=ih0;rw[v7];by_cases h:p.1=k
  .rw[vd h];by_cases e:p.1=j
   .rw[qU (p:=(p.1,y)) e,qU e,Option.map_some,vd (e.symm.trans h)]
   .rw[qT (p:=(p.1,y)) e,qT e,a]
  .rw[vc h];by_cases e:p.1=j
   .rw[qU (p:=p) e,qU e,Option.map_some,vc (λz=>h (e.trans z))]
   .rw[qT (p:=p) e,qT e,a]
def FT(k j:κ)(y:V):∀kvs:List (κ×V),cO kvs k=none->cO (kvs++[(k,y)]) j=if j=k then some y else cO kvs j:=by
 intro d
 induction d with
 | nil=>
  intro q;by_cases e:k=j
  .rw[vd e.symm];exact qU (p:=(k,y)) e
  .rw[vc (λz=>e z.symm)];exact qT (p:=(k,y)) e
 | cons p r ih0=>
  intro a;rw[List.cons_append];have b:¬p.1=k:=λz=>by rw[qU z]at a;cases a
  rw[qT b]at a;have c:=ih0 a;by_cases e:p.1=j
  .rw[qU e,qU e,vc (λz=>b (e.trans z))]
  .rw[qT e,qT e,c]
def YG(kvs:List (κ×V))(k j:κ)(y:V):cO (putK kvs k y) j=if j=k then some y else cO kvs j:=by
 unfold putK;by_cases a:(kvs.any λkv=>decide (kv.1=k))=true
 .rw[vd a,GV];rw[zH]at a;by_cases e:j=k
  .let⟨x,b⟩:=Option.isSome_iff_exists.mp a
   simp_all
  simp_all
 .rw[vc a];refine FT k j y kvs ?_;rw[zH]at a
  simp_all
def Yl(kvs:List (κ×V))(k:κ)(v:V):⇑(putK kvs k v)<=⇑kvs+1:=by
 unfold putK;split
 .rw[vt];lia
 .rw[vn,vP,length_nil];lia
def KH{kvs:List (κ×V)}{k:κ}(v:V)(h:cO kvs k=none):putK kvs k v=kvs++[(k,v)]:=by
 unfold putK;rw[zH,h];exact vc nofun
def eO.mM(r:eO o u):o.isSome=u.isSome:=by
 cases o with
 | none=>cases u with
  | none=>rfl
  | some _=>exact(show False from r).elim
 | some _=>cases u with
  | none=>exact(show False from r).elim
  | some _=>rfl
def eO.getD(r:eO o u)(a:RelV d d'):RelV (o.getD d) (u.getD d'):=by
 cases o with
 | none=>cases u with
  | none=>exact a
  | some _=>exact(show False from r).elim
 | some _=>cases u with
  | none=>exact(show False from r).elim
  | some _=>exact r
def KV.val{kvs:List (κ×V)}{vs:List (κ×Value)}(r:KV kvs vs)(k:κ):eO (cO kvs k) (valueAt vs k):=by
 unfold KV at r
 induction r with
 | nil=>exact True.intro
 | @cons p q ps qs h t ih=>
  let⟨c,d⟩:=h;by_cases e:p.1=k
  .have a:q.1=k:=c.symm.trans e;have b:valueAt (q::qs) k=some q.2:=by simp[valueAt,List.find?_cons,a]
   rw[qU e,b];exact d
  .have a:¬q.1=k:=λz=>e (c.trans z)
   have b:valueAt (q::qs) k=valueAt qs k:=by simp[valueAt,List.find?_cons,a]
   rw[qT e,b];exact ih
def KV.any(r:KV kvs vs)(k:κ):(kvs.any λkv=>decide (kv.1=k))=vs.any λkv=>decide (kv.1=k):=by
 unfold KV at r
 induction r with
 | nil=>rfl
 | cons h t ih=>simp_all
def KV.rq(r:KV kvs vs)(k:κ)(c:RelV y u) :
  KV (kvs.map λkv=>if kv.1=k then(kv.1,y)else kv) (vs.map λkv=>if kv.1=k then(kv.1,u)else kv):=by
 unfold KV at r|-
 induction r with
 | nil=>exact .nil
 | @cons p q ps qs h t ih=>
  rw[v7,v7];refine .cons ?_ ih;let⟨a,b⟩:=h;by_cases e:p.1=k
  .rw[vd e,vd (a.symm.trans e)];exact⟨a,c⟩
  .rw[vc e,vc (λz=>e (a.trans z))];exact⟨a,b⟩
def KV.put(r:KV kvs vs)(k:κ)(a:RelV y u):KV (putK kvs k y) (stored vs k u):=by
 unfold putK stored;rw[r.any k];by_cases e:(vs.any λkv=>decide (kv.1=k))=true
 .rw[vd e,vd e];exact r.rq k a
 .rw[vc e,vc e];exact Paired.snoc r ⟨rfl,a⟩
def KV.keys{kvs:List (κ×V)}{vs:List (κ×Value)}(r:KV kvs vs):kvs.map (·.1)=vs.map (·.1):=by
 unfold KV at r
 induction r with
 | nil=>rfl
 | cons h t ih=>simp_all
def KV.length(r:KV kvs vs):⇑kvs=⇑vs:=Paired.length r
end
def uD(r:RelV (kV k) u):(cn P w).is k u=true:=by
 cases k with
 | inl i=>let⟨t,e⟩:=(show∃t,u=Value.int i t from r);subst e;exact DQ P w i t
 | inr x=>let⟨t,e⟩:=(show∃t,u=Value.str x t from r);subst e;exact DR P w x t
def FG:∀{ks:List Key} {us:L9},Vals (ks.map kV) us->ItemsAre (cn P w) ks us:=by
 intro a
 induction a with
 | nil=>
  intro q r;rw[map_nil]at r;cases r;exact .nil
 | cons k ks ih0=>
  intro q r;rw[v7]at r;cases r with
  | cons h t=>exact .cons (uD h) (ih0 t)
noncomputable abbrev KT(H:Hp):List (List Key×V)->List (List Key×Addr×Value)->Prop:=Paired λp q=>p.1=q.1/\H q.2.1=some (.tup (p.1.map kV))/\RelV p.2 q.2.2
def KT.val{H:Hp}{kvs:List (List Key×V)}{xs:List (List Key×Addr×Value)}(r:KT H kvs xs)(k:List Key):eO (cO kvs k) ((atKey xs k).map (·.2)):=by
 induction r with
 | nil=>exact True.intro
 | @cons p q ps qs h t ih=>
  let⟨c,j,d⟩:=h;by_cases e:p.1=k
  .have a:q.1=k:=c.symm.trans e;have b:atKey (q::qs) k=some q.2:=by simp[atKey,List.find?_cons,a]
   rw[qU e,b];exact d
  .have a:¬q.1=k:=λz=>e (c.trans z)
   have b:atKey (q::qs) k=atKey qs k:=by simp[atKey,List.find?_cons,a]
   rw[qT e,b];exact ih
def KT.rq{H:Hp}(r:KT H kvs xs)(k:List Key)(d:RelV y u) :
  KT H (kvs.map λkv=>if kv.1=k then(kv.1,y)else kv) (xs.map (putAt k u)):=by
 induction r with
 | nil=>exact .nil
 | @cons p q ps qs h t ih=>
  rw[v7,v7];refine .cons ?_ ih;let⟨a,b,c⟩:=h;unfold putAt;by_cases e:p.1=k
  .rw[vd e,vd (a.symm.trans e)];exact⟨a,b,d⟩
  .rw[vc e,vc (λz=>e (a.trans z))];exact⟨a,b,c⟩
def KT.put{H:Hp}(r:KT H kvs xs)(k:List Key)(c:H b=some (.tup (k.map kV)))(a:RelV y u) :
  KT H (putK kvs k y) (storedH xs k b u):=by
 have e:(kvs.any λkv=>decide (kv.1=k))=(atKey xs k).isSome:=by
  rw[zH,(r.val k).mM,Option.isSome_map]
 unfold putK storedH;rw[e];by_cases q:(atKey xs k).isSome=true
 .rw[vd q,vd q];exact r.rq k a
 .rw[vc q,vc q];exact Paired.snoc r ⟨rfl,c,a⟩
def KT.keeps{H H':Hp}(r:KT H kvs xs)(a:∀b ys,H b=some (.tup ys)->H' b=some (.tup ys)):KT H' kvs xs:=
 Paired.sS r λq q z=>⟨z.1,a _ _ z.2.1,z.2.2⟩
section
variable{P:Program}{w:World}{H:Hp}{h:Heap}{a:Addr}
def Dx(b:fO P w H h)(e:Rd H a u):cD P w H h a u:=e.ok b
def sH(b:fO P w H h)(e:Rd H a (.dK kvs)):⇑kvs<=sizeLine/\(a==sysModules)=false/\∃vs,KV kvs vs/\h.DictOf (cn P w) a vs:=
 show cD P w H h a (.dK kvs)from Dx b e
def xI(b:fO P w H h)(e:H a=some (.dK kvs)):⇑kvs<=sizeLine/\(a==sysModules)=false/\∃vs,KV kvs vs/\h.DictOf (cn P w) a vs:=sH b (.inl e)
def XM(g:fO P w H h)(e:H a=some (.tup (ks.map kV))):(tupleKind (cn P w)).is h ks a:=by
 let⟨q,b,r,o,c,d,n,f⟩:=(show cD P w H h a (.tup (ks.map kV))from g a _ e)
 exact⟨o,b.toArray,n,c,d,f,#v[FG r]⟩
def sI(d:fO P w H h)(e:Rd H a (.dT kvs)):⇑kvs<=sizeLine/\(a==sysModules)=false/\
  ∃xs,KT H kvs xs/\h.DictOfH (tupleKind (cn P w)) a xs:=by
 let⟨z,y,xs,r,o,g,f,i,j,k,n,s⟩:=(show cD P w H h a (.dT kvs)from Dx d e)
 refine⟨z,y,xs,r,o,g,f,i,j,k,n,λx b=>?_,s⟩;have c:∀{l:List (List Key×V)} {m:List (List Key×Addr×Value)},KT H l m->∀x∈m,(tupleKind (cn P w)).is h x.1 x.2.1:=by
  intro l m q
  induction q with
  | nil=>intro x b;exact nomatch b
  | @cons p q ps qs hq t ih=>
   intro x b;rcases mem_cons.mp b with e | b
   .subst e;exact XM d (by rw[<-hq.1];exact hq.2.1)
   .exact ih x b
 exact c r x b
def K3(b:fO P w H h)(e:H a=some (.dT kvs)):⇑kvs<=sizeLine/\(a==sysModules)=false/\
  ∃xs,KT H kvs xs/\h.DictOfH (tupleKind (cn P w)) a xs:=sI b (.inl e)
end
def dg(H:Hp)(a:Addr)(y:V)(r:N3):Prop:=
 (∃kvs k,Rd H a (.dK kvs)/\y=kV k/\r=cO kvs k)\/∃kvs k b,Rd H a (.dT kvs)/\y = .ref b/\H b=some (.tup (k.map kV))/\r=cO kvs k
def g5(H:Hp)(a:Addr)(y v:V)(H':Hp):Prop:=
 (∃kvs k,H a=some (.dK kvs)/\y=kV k/\⇑kvs<sizeLine/\H'=upd H a (.dK (putK kvs k v)))\/
 ∃kvs k b,H a=some (.dT kvs)/\y = .ref b/\H b=some (.tup (k.map kV))/\⇑kvs<sizeLine/\H'=upd H a (.dT (putK kvs k v))
def dg.k{H:Hp}{a:Addr}{kvs:List (Key×V)}{k:Key}(e:H a=some (.dK kvs)):dg H a (kV k) (cO kvs k):=.inl ⟨kvs,k,.inl e,rfl,rfl⟩
def g5.k{H:Hp}{a:Addr}{kvs:List (Key×V)}{k:Key}{v:V}(e:H a=some (.dK kvs))(b:⇑kvs<sizeLine):g5 H a (kV k) v (upd H a (.dK (putK kvs k v))):=.inl ⟨kvs,k,e,rfl,b,rfl⟩
section
variable{X:Cx}{pins:Ny}{σ:St}{H:Hp}{s:Shared}{a:Addr}{y v:V}{u r:Value}{o:N3}{A:Around}{E:Nz}
def Inv.big(I:Inv X pins σ H s):sysModules<s.heap.objs.size:=by
 have h:mainGlobals<s.heap.objs.size:=(I.mod.glob.keeps I.bk).lt;exact vY nofun h
def Fp{Q:Nz}(B:A.units+1<cLine)(I:Inv X pins σ H s)(g:dg H a y (some v))(r:RelV y u)(h:∀f s',Inv X pins σ H s'->RelV v f->Q f s') :
  wpAny (model X.prog X.w) A (getItem (.ref a) u) Q E s:=by
 rcases g with⟨q,k,e,j,l⟩ | ⟨q,k,b,e,j,t,l⟩
 .subst j;let⟨z,w,C,c,i⟩:=sH I.cJ e;let⟨f,n,d⟩:=eO.some_of (v:=v) (o:=valueAt C k) (by rw[l];exact c.val k);exact wpAny_getItem_of (uD r) i.mapOf n (h f _ (I.tok _) d)
 .subst j;cases(show u=Value.ref b from r);let⟨z,w,D,c,i⟩:=sI I.cJ e;let⟨f,n,d⟩:=eO.some_of (v:=v) (o:=(atKey D k).map (·.2)) (by rw[l];exact c.val k);let⟨p,x,m⟩:=vg.mp n;refine wpAny_getItem_heap (tupleKind_room_in1 B) (XM I.cJ t) i x ?_;rw[m];exact h f _ (I.tok _) d
def XG(I:Inv X pins σ H s)(h:rZ (H a))(g:Heap.SameBut a s.heap h')(f:∃q,h'.get? a=some q)(c:cD X.prog X.w (upd H a ob) h' a ob) :
  Inv X pins σ (upd H a ob) {s with heap:=h',toks:=t'}:=
 I.write (x:=a) (e:=a) h (.inl rfl) (λb q d z=>(g.2 b d).trans z) f c
def WC{H':Hp}(z:⇑kvs<=sizeLine)(d:(a==sysModules)=false)(b:KV kvs vs)(c:h'.DictOf (cn P w) a vs) :
  cD P w H' h' a (.dK kvs):=⟨z,d,vs,b,c⟩
def Fq{H':Hp}{Q:Unit->Shared->Prop}(T:A.units+1<cLine)(I:Inv X pins σ H s)(g:g5 H a y v H')(K:RelV y u)(J:RelV v r)(h:∀s',Inv X pins σ H' s'->Q () s') :
  wpAny (model X.prog X.w) A (setItem (.ref a) u r) Q E s:=by
 rcases g with⟨d,k,e,o,l,n⟩ | ⟨d,k,b,e,o,B,l,n⟩
 .subst o n;let⟨z,p,U,f,m⟩:=xI I.cJ e;have x:⇑U<=sizeLine:=by rw[<-⇑f];exact z
  have t:⇑(putK d k v)<=sizeLine:=by have:=Yl d k v;lia
  refine wpAny_setItem_pairs (hsz:=x) (uD K) m λD i w=>h _ ?_
  have S:∃q,D.get? a=some q:=let ⟨q,_,_,j,_⟩:=i;⟨q,j⟩;exact XG I (by rw[e];exact True.intro) w S (WC t p (f.put k J) i)
 .subst o n;cases(show u=Value.ref b from K);let⟨z,p,W,f,m⟩:=K3 I.cJ e;have x:⇑W<=sizeLine:=by rw[<-Paired.length f];exact z
  have t:⇑(putK d k v)<=sizeLine:=by have:=Yl d k v;lia
  refine wpAny_setItem_heap (hsz:=x) (tupleKind_room_in1 T) (XM I.cJ B) m λD i w=>h _ ?_
  let⟨q,M,L,j,N,O,P,Z,R⟩:=i;refine XG I (by rw[e];exact True.intro) w ⟨q,j⟩ ⟨t,p,_,(f.put k B J).keeps λc Y C=>?_,q,M,L,j,N,O,P,R⟩;rw[jg (JG C e (λz=>nomatch z))];exact C
end
def r8(i:Expr):Prop:=∀ov iv,subscripted i false ov iv=operate [ov,iv] (getItem ov iv)
def HK{prog:Program}{w:World}{A:Around}{E:Nz}{s:Shared}{env:Env}{b a:Expr}{l:Pos}{T id:String}{Q:Nz}
  (m:typeLookup (.type T) "__getitem__"= pure (some (.builtin id))) (n:r8 a)
  (h:wpAny (model prog w) A (eval b env) (λo e=>wpAny (model prog w) A (eval a env) (λi c=>c.TypeIs o T/\wpAny (model prog w) A (getItem o i) Q E c) E e) E s) :
  wpAny (model prog w) A (eval (.Subscript b a l) env) Q E s:=by
 refine Subscript_ (wpAny_mono h (λo e j=>wpAny_mono j (λi c d=>?_) λq q x=>x) λq q x=>x);let⟨hT,d⟩:=d;unfold subscriptTail;refine uh ?_;rw[getitemInPython_of_ne hT.not_modules];refine uh (wpAny_specialOf hT m ?_);have g:wpAny (model prog w) A (subscripted a false o i) (λr f=>wpAny (model prog w) A (letTemporaryGo b o r >>= λq=>pure r) Q E f) E c:=by
  rw[n o i];exact wpAny_operating (wpAny_mono d (λr f k=>uh (wpAny_letTemporaryGo (ug k))) λq q x=>x)
 first
  | exact ug (uh g)
  | exact uh (ug (uh g))
  | exact uh g
def DO{f:St}{H:Hp}(I:Inv X pins f H s)(g:dg H a y o):s.TypeIs (.ref a) "dict":=by
 rcases g with⟨d,k,e,_,_⟩ | ⟨d,k,b,e,_,_,_⟩
 .let⟨_,_,h,_,c⟩:=sH I.cJ e;exact c.typeIs
 .let⟨_,_,i,_,c⟩:=sI I.cJ e;exact c.typeIs
def pC(td ty:TE):TE:=λσ H Q=>td σ H λx H1=>ty σ H1 λy H2=>∃a v,x = .ref a/\dg H2 a y (some v)/\Q v H2
def pq(td ty tv:TE):TS:=λD σ H=>tv σ H λv H1=>td σ H1 λx H2=>ty σ H2 λy H3=>∃a H4,x = .ref a/\g5 H3 a y v H4/\D.nx σ H4
section
variable{X:Cx}{o i e value:Expr}{pos pos' tpos:Pos}{td ty tv:TE}
def qj(q:X.A.units+1<cLine)(n:PE X o td)(hi:PE X i ty)(p:r8 i:=by exact λZ Z=>rfl):PE X (.Subscript o i pos) (pC td ty):=by
 intro b s e H Q I h;refine HK PySem.F.slot_dict_getitem.lookup p (cM (n b s e H _ I h) λu A z_=>?_);let⟨x,f,k,w,r⟩:=z_;refine cM (hi b A e f _ k r) λB C z_=>?_;obtain⟨y,j,d,z,a,v,m,g,t⟩:=z_;subst m;obtain rfl:u=Value.ref a:=w;exact⟨DO d g,Fp q d g z λE D l c=>⟨v,j,l,c,t⟩⟩
def yJ(t:X.A.units+1<cLine)(p:PE X o td)(hi:PE X i ty)(w:PE X value tv)(q:swapsWith value (some (.Subscript o i pos')) pos.line X.env=pure false) :
  PS X (.Assign [.Subscript o i pos'] value pos) (pq td ty tv):=by
 intro b s c H D I h;refine wpAny_Assign_Subscript (cM (w b s c H _ I h) λr K z_=>?_) q;let⟨v,d,j,C,z⟩:=z_;refine cM (p b K c d _ j z) λu L z1_=>?_;let⟨x,e,k,E,A⟩:=z1_;refine cM (hi b L c e _ k A) λN O z_=>?_;obtain⟨y,M,l,J,a,f,n,g,B⟩:=z_;subst n;obtain rfl:u=Value.ref a:=E;exact Fq t l g J C λP m=>⟨c,f,m,B⟩
end
def Gx{H:Hp}(h:Heap)(a:sysModules<h.objs.size):cD P w H (h.push {cls:=.type "dict",data:=.dict #[]}) h.objs.size (.dK []):=
 ⟨va _,beq_eq_false_iff_ne.mpr (Ne.symm (vE a)),[],.nil,Heap.DictOf.new h⟩
def nU:TE:=λq H Q=>∀p,H p=none->Q (.ref p) (upd H p (.dK []))
section
variable{X:Cx}{pos:Pos}
def Z6:PE X (.Dict [] [] pos) nU:=λb s c H Q I h=>
 wpAny_Dict_empty ⟨.ref s.heap.objs.size,_,I.laid (a:=s.heap.objs.size) (o:=.dK []) (t':=s.toks) (λj j q=>vJ _ q) (vb _) (Gx s.heap I.big),rfl,h _ (I.cJ.fresh (vb _))⟩
end
noncomputable def cS(kvs more:List (Key×V)):List (Key×V):=more.foldl (λacc kv=>putK acc kv.1 kv.2) kvs
def KV.merge:∀{more:List (Key×V)} {a:List (Key×Value)} {kvs:List (Key×V)} {vs:List (Key×Value)},KV more a->KV kvs vs->KV (cS kvs more) (merged vs a):=by
 intro more a kvs vs r;unfold KV at r
 induction r generalizing kvs vs with
 | nil=>intro q;exact q
 | @cons p q ps qs h t ih=>
  intro b;have e:KV (putK kvs p.1 p.2) (stored vs q.1 q.2):=by
   have:=b.put p.1 h.2;rw[<-h.1];exact this
  exact ih e
def zn:∀(more kvs:List (Key×V)),⇑(cS kvs more)<=⇑kvs+⇑more:=by
 intro a
 induction a with
 | nil=>
  intro kvs;show ⇑kvs<=⇑kvs+0;lia
 | cons p r ih0=>
  intro kvs;have b:=ih0 (putK kvs p.1 p.2);have c:=Yl kvs p.1 p.2;show(cS (putK kvs p.1 p.2) r).length<=_;rw[vP];lia
structure M1(X:Cx)(o:Expr)(m:Str)(apos:Pos)(e:Expr)(cpos:Pos):Prop where
 base:attributeBase o m X.env (eval o X.env)=eval o X.env
 rO:((backTo cpos (starEach [e] X.env)).all (λx=>!x.1)&&(backToKw cpos (keywordEach [] X.env)).all (λx=>x.1.isSome)
  && decide (⇑([e]:Nt)+⇑([]:List Keyword)+(if([]:List Keyword).isEmpty then 0 else 1)<30))=true
 line:(apos.endLine==cpos.line)=true
 trees:backTo cpos (starEach [e] X.env)=[(false,eval e X.env)]
def uL(H:Hp)(a:Addr):Prop:=(∃kvs,Rd H a (.dK kvs))\/∃kvs,Rd H a (.dT kvs)
def IM{k:St}{H:Hp}(I:Inv X pins k H s)(d:uL H a) :
  s.TypeIs (.ref a) "dict"/\(∀b,Value.ref a = .ref b->∃c,s.heap.get? b=some c/\c.dict=none)/\(a==sysModules)=false:=by
 rcases d with⟨j,e⟩ | ⟨j,e⟩
 .let⟨_,i,l,_,f⟩:=sH I.cJ e;refine⟨f.typeIs,λb q=>?_,i⟩;cases q;let⟨c,Z,Z,g,h,Z⟩:=f;exact⟨c,g,h.2.1⟩
 .let⟨_,i,m,_,f⟩:=sI I.cJ e;refine⟨f.typeIs,λb q=>?_,i⟩;cases q;let⟨c,Z,Z,g,h,Z⟩:=f;exact⟨c,g,h.2.1⟩
section
variable{X:Cx}{pins:Ny}{σ:St}{H:Hp}{s:Shared}{a:Addr}{y d:V}{u r:Value}{o:N3}{A:Around}{E:Nz}
def Ie{Q:Nz}(q:A.units+1<cLine)(I:Inv X pins σ H s)(g:dg H a y o)(m:RelV y u)(h:∀n s',Inv X pins σ H s'->RelV (o.getD .cW) n->Q n s') :
  wpAny (model X.prog X.w) A (call (.builtin "dict.get") [.ref a,u]) Q E s:=by
 rcases g with⟨j,k,e,f,l⟩ | ⟨j,k,b,e,f,p,l⟩
 .subst f;let⟨z,i,t,c,d⟩:=sH I.cJ e;refine call_meetsIn PySem.F.slot_dict_get d.typeIs PySem.F.entry_dict_get (PySem.F.args_dict_get_2 _ _) (meets_dict_get (cn X.prog X.w) a (uD m) i) ⟨_,d.mapOf,h _ _ (I.tok _) ?_⟩;rw[l];exact(c.val k).getD rfl
 .subst f;cases(show u=Value.ref b from m);let⟨z,i,r,c,d⟩:=sI I.cJ e;refine call_meetsIn PySem.F.slot_dict_get d.typeIs PySem.F.entry_dict_get (PySem.F.args_dict_get_2 _ _) (meetsH_dict_get (tupleKind (cn X.prog X.w)) a b i) ⟨tupleKind_room_in1 q,k,r,XM I.cJ p,d,h _ _ (I.tok _) ?_⟩;rw[l];exact(c.val k).getD rfl
end
def nT(td ty:TE):TE:=λσ H Q=>td σ H λx H1=>∃a,x = .ref a/\uL H1 a/\ty σ H1 λy H2=>∃o,dg H2 a y o/\Q (o.getD .cW) H2
section
variable{X:Cx}{o e f:Expr}{apos cpos:Pos}{td ty tx:TE}
def GK(t:X.A.units+1<cLine)(r:PE X o td)(q:PE X e ty)(m:M1 X o "get" apos e cpos):PE X (.Call (.Attribute o "get" apos) [e] [] cpos) (nT td ty):=by
 intro b s i H Q I h;refine wpAny_Call_method m.base m.rO m.line PySem.F.plainAttrs_dict PySem.F.slot_dict_get PySem.F.type_dict_get (cM (r b s i H _ I h) λu B z_=>?_);obtain⟨x,j,f,z,a,p,d,v⟩:=z_;subst p;obtain rfl:u=Value.ref a:=z;let⟨C,D,Z⟩:=IM f d;refine⟨C,D,?_⟩;rw[m.trees];refine Calls.callWith_builtin rfl (Calls.evalArgs_plain (Calls.spliced_cons (cM (q b B i j _ f v) λE J z_=>?_)));let⟨y,k,l,A,ov,g,w⟩:=z_;refine Calls.spliced_nil ?_;exact Ie t l g A λL K n c=>⟨_,k,n,c,w⟩
end
section
variable{κ:Type}[DecidableEq κ]
def BU{kvs:List (κ×V)}{k:κ}(h:cO kvs k=none):¬k∈kvs.map (·.1):=by
 intro m;let⟨p,a,e⟩:=vK.mp m;have q:(kvs.any λkv=>decide (kv.1=k))=true:=any_eq_true.mpr ⟨p,a,vG e⟩;rw[zH,h]at q;exact uf q (by simp)
def Cq{kvs:List (κ×V)}{k:κ}{v:V}(h:cO kvs k=some v):k∈kvs.map (·.1):=by
 have q:(kvs.any λkv=>decide (kv.1=k))=true:=by
  rw[zH,h]
  all_goals rfl
 let⟨p,a,e⟩:=any_eq_true.mp q;exact vK.mpr ⟨p,a,of_decide_eq_true e⟩
def Iq:∀{l:List κ} {k:κ},l.Nodup->¬k∈l->(l++[k]).Nodup:=by
 intro e
 induction e with
 | nil=>
  intro k j j;simp
 | cons a r ih0=>
  intro k h b;let⟨c,d⟩:=ur.mp h;show(a::(r++[k])).Nodup;refine ur.mpr ⟨λm=>?_,ih0 d λm=>b (mem_cons.mpr (Or.inr m))⟩;rcases vh.mp m with q | q
  .exact c q
  .exact b (mem_cons.mpr (Or.inl (vo.mp q).symm))
def Ip{kvs:List (κ×V)}{k:κ}(v:V)(a:(kvs.map (·.1)).Nodup)(h:cO kvs k=none):((putK kvs k v).map (·.1)).Nodup:=by
 rw[KH v h,vj];exact Iq a (BU h)
end
def mF{R:Result->Shared->Prop}(I:Nat->Shared->Prop)
  (u:∀n s,I n s->wpAny (model prog w) A (pyNext it) (λr b=>match r with
   | none=>R (.ok .next) b
   | some v=>wpAny (model prog w) A (letOwnedTupleGo target it v) (λZ g=>wpAny (model prog w) A (assign target env v) (λZ i=>
     wpAny (model prog w) A (forIn ifs true λc r=>if r=true then do let t <-isTrue c env (eval c env);pure (ForInStep.yield t)else pure (ForInStep.yield r)) (λt d=>
      if t=true then wpAny (model prog w) A (eval elt env) (λx j=>
       wpAny (model prog w) A (call (.builtin "list.append") [acc,x]) (λZ k=>∃m,m<n/\I m k) (λZ Z=>False) j) (λZ Z=>False) d
      else∃m,m<n/\I m d) (λZ Z=>False) i) (λZ Z=>False) g) (λZ Z=>False) b) (λZ Z=>False) s)
  (n:Nat) (h:I n s) :
  codeAny (model prog w) A (.compLoop (.ListComp elt [⟨target,iter,ifs,0⟩] scope pos) 0 it acc env) R s:=by
 refine codeAny_loop rfl I (λn s y=>?_) n h;show wpAny _ A ((compTurn (.ListComp elt [⟨target,iter,ifs,0⟩] scope pos) 0 it acc env).onRaise (λx=>do noteFrame x env;theTreesLotGoes x)) _ _ s;refine wpAny_noted ?_;rw[compTurn_list];refine uh (wpAny_standAt (uh (wpAny_mono (u n s y) (λr b e=>?_) λZ Z a=>a.elim)));cases r with
 | none=>exact ug e
 | some v=>
  refine uh (wpAny_mono e (λZ g l=>?_) λZ Z a=>a.elim);refine uh (wpAny_mono l (λZ i o=>uh (wpAny_mono o (λt d f=>?_) λZ Z a=>a.elim)) λZ Z a=>a.elim);cases t with
  | false=>exact ug ⟨rfl,f⟩
  | true=>
   exact uh (uh (wpAny_mono f (λx j p=>uh (wpAny_mono p (λZ k q=>ug (ug ⟨rfl,q⟩)) λZ Z a=>a.elim)) λZ Z a=>a.elim))
def PF(X:Cx)(ifs:Nt)(t:TT):Prop:=
 ∀(pins:Ny) (s:Shared) (σ:St) (H:Hp) (Q:Bool->Hp->Prop),Inv X pins σ H s->t σ H Q->
  wpAny (model X.prog X.w) X.A (forIn ifs true λc r=>if r=true then do let ok <-isTrue c X.env (eval c X.env);pure (ForInStep.yield ok)else pure (ForInStep.yield r)) (TP X pins σ Q) X.xe s
def tS:TT:=λq H Q=>Q true H
def Qu:PF X [] tS:=λq q q H q I h=>wpAny_tests_nil ⟨H,I,h⟩
def wD(b:PT X c t):PF X [c] t:=λa s d H Q I h=>wpAny_tests_one (b a s d H Q I h)
noncomputable def di(env:Env):List (Str×NameKind)->List (Str×Addr)->List (Str×Addr)
 | [],acc=>acc
 | (n,k)::r,acc=>di env r (if k == .free then(n,(env.cells.lookup n).getD 0)::acc else acc)
def Km(h:∀y∈scope.names,y.2 = .free->∃c,env.cells.lookup y.1=some c):closureFor scope env=pure (di env scope.names []):=by
 have l:∀(names:List (Str×NameKind)) (b:List (Str×Addr)),(∀y∈names,y.2 = .free->∃c,env.cells.lookup y.1=some c)->
   (forIn (m:=Sem) names b λx r=>(match x with | (name,kind)=>if(kind == .free)=true then do let a <-cellOf env name;pure (ForInStep.yield ((name,a)::r))else pure (ForInStep.yield r)))=pure (di env names b):=by
  intro names
  induction names with
  | nil=>intro b q;rfl
  | cons y r ih=>
   let⟨n,k⟩:=y;intro b d;rw[List.forIn_cons];cases hk:(k==NameKind.free)with
   | true=>
    have e:k = .free:=by simpa using hk
    let⟨c,i⟩:=d (n,k) vq e;have j:cellOf env n=pure c:=by unfold cellOf;rw[i]
    simp only[hk,if_true,j,pure_bind,di,i,Option.getD_some];exact ih _ λy f=>d y (vp _ f)
   | false=>
    simp only[hk,Bool.false_eq_true,if_false,pure_bind,di];exact ih _ λy f=>d y (vp _ f)
 have g:=l scope.names [] h;unfold closureFor;simp only[g,pure_bind]
theorem xH:∀(names:List (Str×NameKind)) (acc:List (Str×Addr)),(∀y∈names,y.2 = .free->∃c,env.cells.lookup y.1=some c)->(∀x c,acc.lookup x=some c->env.cells.lookup x=some c)->
  ∀x c,(di env names acc).lookup x=some c->env.cells.lookup x=some c
 | [],_,_,ha,x,c,h=>ha x c h
 | (n,k)::r,acc,hh,ha,x,c,h=>by
  refine xH r _ (λy d=>hh y (vp _ d)) (λx c e=>?_) x c h;cases hk:(k==NameKind.free)with
  | false=>rw[hk]at e;exact ha x c e
  | true=>
   rw[hk]at e;have a:k = .free:=by simpa using hk
   let⟨f,b⟩:=hh (n,k) vq a;simp only[if_true,b,Option.getD_some]at e;rw[lookup_cons]at e;cases hx:(x==n)with
   | true=>
    rw[hx]at e;have:x=n:=by simpa using hx
    rw[this,b];exact e
   | false=>rw[hx]at e;exact ha x c e
theorem xG:∀(names:List (Str×NameKind)) (acc:List (Str×Addr)) (x:Str),(∃c,acc.lookup x=some c)->∃c,(di env names acc).lookup x=some c
 | [],_,_,h=>h
 | (n,k)::r,acc,x,h=>by
  refine xG r _ x ?_;cases hk:(k==NameKind.free)with
  | false=>exact h
  | true=>
   simp only[if_true];rw[lookup_cons];cases hx:(x==n)with
   | true=>exact⟨_,rfl⟩
   | false=>exact h
theorem K5:∀(names:List (Str×NameKind)) (acc:List (Str×Addr)) (x:Str),(x,NameKind.free)∈names->∃c,(di env names acc).lookup x=some c
 | [],_,_,h=>by simp at h
 | (n,k)::r,acc,x,h=>by
  rcases mem_cons.mp h with e | h
  .cases e;refine xG r _ _ ?_;simp
  .exact K5 r _ x h
theorem Zu{env:Env}:∀{names:List (Str×NameKind)} {x:Str} {k:NameKind},(names.map λ(n,k)=>if(k==NameKind.free&&env.scope.kind == .function&&env.kindOf n==some .cell)then(n,NameKind.cell)else(n,k)).lookup x=some k->
  ∃b,(x,b)∈names/\names.lookup x=some b/\(b=k\/(b = .free/\k = .cell))
 | [],_,_,h=>by simp at h
 | (n,k₀)::r,x,k,h=>by
  have i:=@Zu env r x k;rw[v7]at h;dsimp only at h;cases hx:x==n with
  | true=>
   have e:x=n:=by simpa using hx
   subst e;refine⟨k₀,vq,by simp,?_⟩;by_cases a:(k₀==NameKind.free&&env.scope.kind == .function&&env.kindOf x==some .cell)=true
   .rw[vd a]at h;simp only[lookup_cons,beq_self_eq_true]at h;simp only[Bool.and_eq_true,beq_iff_eq]at a;exact .inr ⟨a.1.1,(vL h).symm⟩
   .rw[vc a]at h;simp only[lookup_cons,beq_self_eq_true]at h;exact .inl (vL h)
  | false=>
   have c:(r.map λ(n,k)=>if(k==NameKind.free&&env.scope.kind == .function&&env.kindOf n==some .cell)then(n,NameKind.cell)else(n,k)).lookup x=some k:=by
    by_cases a:(k₀==NameKind.free&&env.scope.kind == .function&&env.kindOf n==some .cell)=true
    .rw[vd a]at h;simpa only[lookup_cons,hx]using h
    .rw[vc a]at h;simpa only[lookup_cons,hx]using h
   let⟨b,d,f,g⟩:=i c;exact⟨b,vp _ d,by simpa only[lookup_cons,hx]using f,g⟩
theorem K4:∀(names:List (Str×NameKind)) (n:Nat) (acc:List (Str×Addr)) (x:Str) (c:Addr),(cellsFrom n names acc).lookup x=some c->n<=c\/acc.lookup x=some c
 | [],_,_,_,_,h=>.inr h
 | (y,k)::r,n,acc,x,c,h=>by
  unfold cellsFrom at h;split at h
  .rcases K4 r (n+1) _ x c h with q | q
   .exact .inl ⋯
   .rw[lookup_cons]at q;cases hx:x==y with
    | true=>rw[hx]at q;cases q;exact .inl (vb _)
    | false=>rw[hx]at q;exact .inr q
  .exact K4 r n acc x c h
theorem Az:∀(names:List (Str×NameKind)) (n:Nat) (acc:List (Str×Addr)),(∀x c,acc.lookup x=some c->c<n)->(∀x y c,acc.lookup x=some c->acc.lookup y=some c->x=y)->
  ∀x y c,(cellsFrom n names acc).lookup x=some c->(cellsFrom n names acc).lookup y=some c->x=y
 | [],_,_,_,hi,x,y,c,h1,h2=>hi x y c h1 h2
 | (z,k)::r,n,acc,hb,hi,x,y,c,h1,h2=>by
  unfold cellsFrom at h1 h2;split at h1
  .rename_i hk;rw[vd hk]at h2;refine Az r (n+1) _ (λx c e=>?_) (λx y c b a=>?_) x y c h1 h2
   .rw[lookup_cons]at e;cases hx:x==z with
    | true=>rw[hx]at e;cases e;exact Nat.lt_succ_self _
    | false=>rw[hx]at e;exact Nat.lt_succ_of_lt (hb x c e)
   .rw[lookup_cons]at b a;cases hx:x==z with
    | true=>
     rw[hx]at b;cases b;cases hy:y==z with
     | true=>rw[beq_iff_eq.mp hx,beq_iff_eq.mp hy]
     | false=>rw[hy]at a;exact uf (hb y n a) (Nat.lt_irrefl _)
    | false=>
     rw[hx]at b;cases hy:y==z with
     | true=>rw[hy]at a;cases a;exact uf (hb x n b) (Nat.lt_irrefl _)
     | false=>rw[hy]at a;exact hi x y c b a
  .rename_i hk;rw[vc hk]at h2;exact Az r n acc hb hi x y c h1 h2
theorem XB:∀(names:List (Str×NameKind)) (n:Nat) (acc:List (Str×Addr)) (x:Str),(∃c,acc.lookup x=some c)->∃c,(cellsFrom n names acc).lookup x=some c
 | [],_,_,_,h=>h
 | (y,k)::r,n,acc,x,h=>by
  unfold cellsFrom;split
  .refine XB r (n+1) _ x ?_;rw[lookup_cons];cases hx:x==y with
   | true=>exact⟨_,rfl⟩
   | false=>exact h
  .exact XB r n acc x h
theorem Ay:∀(names:List (Str×NameKind)) (n:Nat) (acc:List (Str×Addr)) (x:Str),(x,NameKind.cell)∈names->∃c,(cellsFrom n names acc).lookup x=some c
 | [],_,_,_,h=>by simp at h
 | (y,k)::r,n,acc,x,h=>by
  unfold cellsFrom;rcases mem_cons.mp h with e | h
  .cases e;simp only[beq_self_eq_true,if_true];exact XB r _ _ _ (by simp)
  .split
   .exact Ay r _ _ x h
   .exact Ay r _ _ x h
theorem AB:∀(names:List (Str×NameKind)) (n:Nat) (acc:List (Str×Addr)) (x:Str),(x,NameKind.cell)∉names->(cellsFrom n names acc).lookup x=acc.lookup x
 | [],_,_,_,_=>rfl
 | (y,k)::r,n,acc,x,h=>by
  have a:(x,NameKind.cell)∉r:=λq=>h (vp _ q)
  unfold cellsFrom;split
  .rename_i hk;rw[AB r _ _ x a,lookup_cons];cases hx:x==y with
   | true=>rw[beq_iff_eq.mp hx,beq_iff_eq.mp hk]at h;exact uf vq h
   | false=>rfl
  .exact AB r n acc x a
theorem AA:∀(names:List (Str×NameKind)) (a n:Nat) (acc:List (Str×Addr)) (x:Str) (c:Addr),a<=n->((x,NameKind.cell)∈names\/∀c,acc.lookup x=some c->a<=c)->(cellsFrom n names acc).lookup x=some c->a<=c
 | [],_,_,_,_,c,_,h,e=>h.elim (λz=>by simp at z) λz=>z c e
 | (y,k)::r,a,n,acc,x,c,hn,h,e=>by
  unfold cellsFrom at e;split at e
  .refine AA r a (n+1) _ x c ⋯ ?_ e;rcases h with h | h
   .rcases mem_cons.mp h with q | q
    .cases q;exact .inr λc q=>by rw[lookup_cons,beq_self_eq_true]at q;cases q;exact hn
    .exact .inl q
   .refine .inr λc q=>?_
    rw[lookup_cons]at q;cases hx:x==y with
    | true=>rw[hx]at q;cases q;exact hn
    | false=>rw[hx]at q;exact h c q
  .rename_i hk;refine AA r a n acc x c hn ?_ e;rcases h with h | h
   .rcases mem_cons.mp h with q | q
    .cases q;exact uf rfl hk
    .exact .inl q
   .exact .inr h
theorem Wy:∀(names:List (Str×NameKind)) (h:Heap) (acc:List (Str×Addr)) (x:Str) (c:Addr),(cellsFrom h.objs.size names acc).lookup x=some c->acc.lookup x=some c\/(pushCells h names).IsCell c none
 | [],_,_,_,_,e=>.inl e
 | (y,k)::r,h,acc,x,c,e=>by
  unfold cellsFrom at e;unfold pushCells;split
  .rename_i hk;rw[vd hk]at e;rw[<-Heap.size_push h {cls:=.type "cell",data:=.cell none}]at e;rcases Wy r _ _ x c e with q | q
   .rw[lookup_cons]at q;cases hx:x==y with
    | true=>
     rw[hx]at q;cases q;exact .inr ⟨_,pushCells_keeps _ _ _ _ (Heap.get?_push_size _ rfl),rfl⟩
    | false=>rw[hx]at q;exact .inl q
   .exact .inr q
  .rename_i hk;rw[vc hk]at e;exact Wy r h acc x c e
def vr{E:Nz}{Q:Env->Shared->Prop}
  (h:Q (newEnv scope s.heap.objs.size globals (cellsFrom (s.heap.objs.size+1) scope.names cl) qual none .none (some env) builtinsNs) {s with heap:=pushCells (s.heap.push {cls:=.type "dict",data:=.dict #[]}) scope.names}) :
  wpAny M A (newFunctionEnv scope globals cl [] qual none .none (some env)) Q E s:=by
 simp only[newFunctionEnv,Option.isSome_some,if_true];refine uh (wpAny_alloc ?_);refine uh (wpAny_layCells _ (λc a b=>by cases hkc:a==NameKind.cell<;>simp[hkc]) _ _ _ _ ?_);rw[show({s with heap:=s.heap.push {cls:=.type "dict",data:=.dict #[]}}:Shared).heap.objs.size=s.heap.objs.size+1 from Heap.size_push ..];rw[List.forIn_nil];exact uh (ug (ug h))
noncomputable def mD(X:Cx)(scope:Scope)(ow:L8)(ci:L6)(C:Addr)(s₀:Shared)(H₀:Hp)(ex:L7)(pn:Ny):Cx:=
 {X with N:=ow++ci.map λj=>X.N.getD j "",s₀:=s₀,H₀:=H₀,env:=compEnvC scope (cellsFrom (C+1) scope.names (di X.env scope.names [])) C X.env,outer:=X.stack,stack:=X.stack,ex:=ex,fn:=λx=>scope.names.lookup x==some .cell,pn:=pn,xe:=λq q=>False}
structure cj(X:Cx)(scope:Scope)(ow:L8)(ci:L6):Prop where
 kind:scope.kind = .function
 cell:∀y∈scope.names,y.2 = .cell->scope.names.lookup y.1=some .cell
 names:∀y∈scope.names,y.2 = .local->scope.names.lookup y.1=some .local
 free:∀y∈scope.names,y.2 = .free->X.env.kindOf y.1=some .cell\/X.env.kindOf y.1=some .free
 ix:∀j∈ci,j<X.N.length/\scope.names.lookup (X.N.getD j "")=some .free
noncomputable def nH(dh:Scope)(N:L8)(scope:Scope)(ci:L6):Bool:=
 scope.kind == .function&&scope.names.all (λy=>y.2 != .cell||scope.names.lookup y.1==some .cell)&&scope.names.all (λy=>y.2 != .local||scope.names.lookup y.1==some .local) &&
 scope.names.all (λy=>y.2 != .free||dh.names.lookup y.1==some .cell||dh.names.lookup y.1==some .free)&&ci.all (λj=>decide (j<⇑N)&&scope.names.lookup (N.getD j "")==some .free)
def cj.of(a:Scope)(N:L8)(c:X.env.scope=a)(d:X.N=N)(h:nH a N scope ci=true):cj X scope ow ci:=by
 subst c d;unfold nH at h;simp only[Bool.and_eq_true,all_eq_true,Bool.or_eq_true,bne_iff_ne,ne_eq,beq_iff_eq,decide_eq_true_eq]at h;let⟨⟨⟨⟨f,g⟩,i⟩,k⟩,l⟩:=h;refine⟨f,λy b e=>(g y b).resolve_left λz=>z e,λy b e=>?_,λy b e=>?_,λj m=>l j m⟩
 .rcases i y b with z | z
  .exact uf e z
  .exact z
 .rcases k y b with(z | z) | z
  .exact uf e z
  .exact .inl z
  .exact .inr z
def Jy{a:Hp}(N:L8)(e:X.N=N)(h:(ow++ci.map λj=>N.getD j "").Nodup):(mD X scope ow ci C s₀ a ex pn).N.Nodup:=by
 subst e;exact h
noncomputable def nG(σ:St)(j:Nat):N3:=match σ[j]? with | some o=>o | none=>none
noncomputable def dd(n:Nat)(ci:L6)(σ:St):St:=List.replicate n none++ci.map (nG σ)
def nS(wi:TI)(n:Nat)(ci:L6)(g:TG)(tf:TT)(te:TE):TE:=λσ H Q=>wi σ H λJ H1=>∃W:Nat->Nat->N2->Hp->Prop,(∃m,W 0 m [] H1)/\∀i m ys H,W i m ys H->
 (J.stop i H/\⇑ys<=sizeLine/\∀p,H p=none->Q (.ref p) (upd H p (.lst ys)))\/
 (J.go i H/\∃N:N2->Hp->Prop,(∀ys' H',N ys' H'->∃m',m'<m/\W (i+1) m' ys' H')/\∀x H',J.lA i H x H'->g x (dd n ci σ) H' λσ2 H2=>tf σ2 H2 λb H3=>
  if b=true then te σ2 H3 λv H4=>⇑ys<sizeLine/\N (ys++[v]) H4 else N ys H3)
section
variable{X:Cx}{pins:Ny}{σ:St}{H:Hp}{s:Shared}{elt iter tg:Expr}{ifs:Nt}{scope:Scope}{pos:Pos}{ow:L8}{ci:L6}{g:TG}{tf:TT}{te:TE}
def cj.cells(S:cj X scope ow ci)(b:X.Ok):∀y∈scope.names,y.2 = .free->∃c,X.env.cells.lookup y.1=some c:=λy a e=>b.has y.1 (S.free y a e)
def cj.sub(S:cj X scope ow ci)(a:X.Ok):∀x c,(di X.env scope.names []).lookup x=some c->X.env.cells.lookup x=some c:=
 xH scope.names [] (S.cells a) λq q e=>by simp at e
def cj.uW(S:cj X scope ow ci)(a:X.Ok)(h:(cellsFrom (C+1) scope.names (di X.env scope.names [])).lookup x=some c):C+1<=c\/X.env.cells.lookup x=some c:=
 (K4 _ _ _ _ _ h).imp id (S.sub a x c)
def HY(S:cj X scope ow ci)(I:Inv X pins σ H s)(f:s.heap.objs.size<=C)
  (a:∀b∈ex,b<s.heap.objs.size/\fI X pins H b):(mD X scope ow ci C s H ex pn).Ok where
 mod:=I.ok.mod
 kind:=S.kind
 glob:=I.ok.glob
 blt:=I.ok.blt
 above:=f
 inj:=Az scope.names (C+1) _ (λx c e=>by
   let⟨v,q⟩:=I.cell x c (S.sub I.ok x c e);exact Nat.lt_succ_of_le (vX (Nat.lt_of_lt_of_le q.lt f))) λx y c i j=>I.ok.inj x y c (S.sub I.ok x c i) (S.sub I.ok y c j)
 has:=λx h=>by
  have n:∃k,(relabel scope X.env).names.lookup x=some k/\(k = .cell\/k = .free):=by
   rcases h with h | h
   .exact⟨_,h,.inl rfl⟩
   .exact⟨_,h,.inr rfl⟩
  let⟨k,t,r⟩:=n;let⟨m,l,Z,e⟩:=Zu (env:=X.env) t;have g:m = .cell\/m = .free:=by
   rcases e with e | ⟨e,Z⟩
   .subst e;exact r
   .exact .inr e
  rcases g with g | g
  .subst g;exact Ay scope.names _ _ x l
  .subst g;exact XB scope.names _ _ x (K5 scope.names [] x l)
 rN:=λx c h e=>vV (vV f (Nat.le_succ _)) (AA scope.names (C+1) (C+1) _ x c (vb _) (.inl (PySem.mem_of_lookup (beq_iff_eq.mp h))) e)
 hd:=I.ok.hd
 frames:=I.ok.frames
 tD:=.inl rfl
 vQ:=λb d=>⟨vE (Nat.lt_of_lt_of_le (a b d).1 f),λx c e=>(S.uW I.ok e).elim (λq z=>Nat.lt_irrefl _ (Nat.lt_of_lt_of_le (z▸(a b d).1) (vV f (vV (Nat.le_succ _) q)))) λq=>(a b d).2.2.2.2.2.1 x c q⟩
 bs:=I.bs
 oa:=vV I.ok.oa I.sz
 mN:=λb o e d=>by
  let⟨Z,Z,Z,p,Z⟩:=(a b d).2;rcases p with z | z
  .exact I.ok.mN b o e z
  .exact uf (Nat.lt_of_lt_of_le (vI e) (vV I.ok.oa z)) (Nat.lt_irrefl _)
 nI:=λb d z=>by
  let⟨Z,i,j,Z⟩:=(a b d).2;rcases mem_cons.mp (I.iC b z)with e | e
  .exact i e
  .exact j e
 gE:=I.stack
 oW:=I.md
def EK(S:cj X scope ow ci)(I:Inv X pins σ H s){h:Nw}(D:s.heap.objs.size<=C)
  (J:∀b∈ex,b<s.heap.objs.size/\fI X pins H b) (hn:h₁.Ns C h) (k:∀b o,s.heap.get? b=some o->h₁.get? b=some o)
  (A:∀x c,(cellsFrom (C+1) scope.names (di X.env scope.names [])).lookup x=some c->(di X.env scope.names []).lookup x=some c\/h₁.IsCell c none) :
  Inv (mD X scope ow ci C s H ex (X.pn++pins)) [] (dd ⇑ow ci σ) H {s with heap:=h₁,toks:=t₁}:=by
 have ok:=HY (pn:=X.pn++pins) S I D J;refine⟨ok,rfl,I.bare,Un.kept k,⟨h,hn,λi x v T f U=>?_⟩,λx c e=>?_,I.cJ.fresh D,λx c e=>(S.uW I.ok e).elim (λq=>I.cJ.fresh (vV D (vV (Nat.le_succ _) q))) (I.fe x c),λp hp=>?_,I.cJ.kept k,?_⟩
 .have l:(ow++ci.map λj=>X.N.getD j "")[i]?=some x:=T;unfold dd at f;by_cases K:i<⇑ow
  .rw[vB #v[K],List.getElem?_replicate,vd K]at f;cases f
  .rw[vC #v[K],vv,length_replicate]at f;rw[vC ⋯,vv]at l;cases hj:ci[i-⇑ow]? with
   | none=>rw[hj]at f;cases f
   | some j=>
    rw[hj]at l f;let⟨hl,E⟩:=S.ix j (vm hj);have w:X.N.getD j ""= x:=vL l;have W:X.N[j]?=some x:=by
     rw[<-w,vy,vz hl];rfl
    have Y:σ[j]?=some (some v):=by
     have a:nG σ j=some v:=vL f;unfold nG at a;cases q:σ[j]? with
     | none=>rw[q]at a;cases a
     | some o=>rw[q]at a;rw[show o=some v from a]
    rw[w]at E;have g:(x,NameKind.free)∈scope.names:=PySem.mem_of_lookup E;have P:=S.free _ g rfl;let⟨m,_,L⟩:=I.loc;have N:si X.env.scope x:=by
     rcases P with q | q
     .exact .inr (.inl q)
     .exact .inr (.inr q)
    let⟨u,r,lk⟩:=L j x v W Y N;refine⟨u,r,.inr ⟨?_,?_⟩⟩
    .rcases U with q | q | q
     .let⟨k',_,O,B⟩:=Zu (env:=X.env) q;rw[E]at O;cases O;rcases B with B | ⟨_,B⟩<;>cases B
     .exact .inl q
     .exact .inr q
    .rcases lk with⟨q,_⟩ | ⟨_,c,Z,t⟩
     .have Q:X.env.kindOf x=some .local:=q;rcases P with z | z<;>(rw[z]at Q;cases Q)
     .let⟨R,y⟩:=K5 (env:=X.env) scope.names [] x g;have e:=S.sub I.ok x R y;rw[Z]at e;cases e;refine⟨c,?_,t.keeps k⟩;show(cellsFrom (C+1) scope.names (di X.env scope.names [])).lookup x=some c;rw[AB scope.names _ _ x λz=>?_]
      .exact y
      .have:=S.cell _ z rfl;rw[E]at this;cases this
 .rcases A x c e with q | q
  .let⟨v,q⟩:=I.cell x c (S.sub I.ok x c q);exact⟨v,q.keeps k⟩
  .exact⟨_,q⟩
 .have M:p∈X.pn++pins:=by
   rcases vh.mp hp with z | z
   .exact z
   .cases z
  let⟨e,n,ne,nf,d⟩:=I.pin p M;refine⟨k _ _ e,n,vE (Nat.lt_of_lt_of_le (vI e) D),λz=>?_,d⟩;rcases mem_cons.mp (I.iC p.1 z)with q | q
  .exact ne q
  .exact nf q
 .show(dd ⇑ow ci σ).length=(ow++ci.map λj=>X.N.getD j "").length;simp[dd]
def Inv.forget{S':St}(I:Inv X pins S' H s)(n:Nat)(ci:L6)(a:St)(c:⇑(dd n ci a)=X.N.length)(h:∀i v,n<=i->(dd n ci a)[i]?=some (some v)->S'[i]?=some (some v)):Inv X pins (dd n ci a) H s:=
 I.weak (by rw[c,I.len]) λi v e=>by
  by_cases b:n<=i
  .exact h i v b e
  .unfold dd at e;rw[vB #v[b],List.getElem?_replicate,vd ⋯]at e;cases e
def gv(n:Nat)(g:TG):Prop:=∀x σ H (Q:St->Hp->Prop),g x σ H Q->g x σ H λσ2 H2=>(∀(i:Nat) v,n<=i->σ[i]?=some (some v)->σ2[i]?=some (some v))/\Q σ2 H2
def qi(h:i<n):gv n (cv i):=λx b H Q q=>⟨λj v a e=>by rw[List.getElem?_set_ne ⋯];exact e,q⟩
def We{K:cA}{n i j:Nat}(hi:i<n)(p:j<n):gv n (mK K 2 (dO (cv i) (dO (cv j) mJ))):=λx t H Q q=>by
 let⟨a,o,b,c,d,v,r,f,m,l,g,h,q⟩:=q;refine⟨a,o,b,c,d,v,r,f,m,l,g,h,λk u s e=>?_,q⟩;rw[List.getElem?_set_ne ⋯,List.getElem?_set_ne ⋯];exact e
def Wz{E:Nz}{tn:Nat->Heap->Prop}{RR:Value->Addr->Result->Shared->Prop}(hc:X.calm=true)(S:cj X scope ow ci)(hk:gv ⇑ow g)
  (a:∀C M y ex pn,PG (mD X scope ow ci C M y ex pn) tg g/\PF (mD X scope ow ci C M y ex pn) ifs tf/\PE (mD X scope ow ci C M y ex pn) elt te)
  (I:Inv X pins σ H s) (T:Turn X.prog X.w X.K tg J fp it tn) (st:tn 0 s.heap) (hf:∀b∈fp,fI X pins H b) (Z:N2->Hp->Prop)
  (W:Nat->Nat->N2->Hp->Prop) (w0:∃m,W 0 m [] H)
  (aP:∀i m ys H,W i m ys H->(J.stop i H/\⇑ys<=sizeLine/\Z ys H)\/
   (J.go i H/\∃N:N2->Hp->Prop,(∀aQ H',N aQ H'->∃m',m'<m/\W (i+1) m' aQ H')/\∀x H',J.lA i H x H'->g x (dd ⇑ow ci σ) H' λaR H2=>tf aR H2 λb H3=>
    if b=true then te aR H3 λv H4=>⇑ys<sizeLine/\N (ys++[v]) H4 else N ys H3))
  (aY:∀D C s' H' m ys,Inv X pins σ (upd H' D (.lst ys)) s'->H' D=none->Z ys H'->s'.heap.Ns C m->s.heap.objs.size<=C->C≠D->H' C=none->RR (.ref D) C (.ok .next) s') :
  wpAny (model X.prog X.w) X.A (newList []) (λacc aN=>wpAny (model X.prog X.w) X.A (newFunctionEnv scope X.env.globals (di X.env scope.names []) [] X.env.qual none .none (some X.env)) (λa7 aO=>
   codeAny (model X.prog X.w) X.A (.compStart (.ListComp elt [⟨tg,iter,ifs,0⟩] scope pos) 0 (.ref it) acc {a7 with scope:=relabel scope X.env}) (RR acc a7.locals) aO) E aN) E s:=by
 refine wpAny_newObj_type (vr ?_);dsimp only;generalize Q:({s with heap:=s.heap.push {cls:=.type "list",dict:=none,data:=.seq ([]:L9).toArray}}:Shared)=s3;have e3:s3.heap=s.heap.push {cls:=.type "list",dict:=none,data:=.seq ([]:L9).toArray}:=by rw[<-Q]
 rw[<-e3];generalize ae:pushCells (s3.heap.push {cls:=.type "dict",data:=.dict #[]}) scope.names=h₁;have k3:∀b o,s.heap.get? b=some o->s3.heap.get? b=some o:=λb o e=>by rw[e3];exact vJ _ e
 have hsz:s3.heap.objs.size=s.heap.objs.size+1:=by rw[e3,Heap.size_push]
 have I3:Inv X pins σ H s3:=by rw[<-Q];exact I.kept (t':=s.toks) λb o e=>vJ _ e
 have b4:s3.heap.get? s.heap.objs.size=some {cls:=.type "list",dict:=none,data:=.seq ([]:L9).toArray}:=by rw[e3];exact Heap.get?_push_size _ rfl
 generalize ad:s.heap.objs.size=D at *;generalize l:s3.heap.objs.size=C at *;have A:D<C:=⋯
 have ar:H D=none:=I.cJ.fresh (Nat.le_of_eq ad);have aZ:fI X pins H D:=I.gC (Nat.le_of_eq ad) ar;have af:∀(b:Addr) o,s.heap.get? b=some o->b<D:=λb o e=>by rw[<-ad];exact vI e
 have bd:∀(b:Addr) o,s3.heap.get? b=some o->b<C:=λb o e=>by rw[<-l];exact vI e
 have a9:∀b∈fp,b<D:=λb a=>by
  let⟨o,e,_⟩:=T.obj 0 _ st b a;exact af b o e
 have O:∀b∈D::fp,b<s3.heap.objs.size/\fI X pins H b:=λb a=>by
  rw[l];rcases mem_cons.mp a with rfl | a
  .exact⟨A,aZ⟩
  .exact⟨vY (a9 b a) A,hf b a⟩
 have kk:∀b o,s3.heap.get? b=some o->h₁.get? b=some o:=λb o e=>by rw[<-ae];exact pushCells_keeps _ _ b o (vJ _ e)
 have P:h₁.Ns C λ_=>none:=by rw[<-ae,<-l];exact(Heap.Ns.new s3.heap (.type "dict")).keeps (pushCells_keeps _ _)
 have ay:∀x c,(cellsFrom (C+1) scope.names (di X.env scope.names [])).lookup x=some c->(di X.env scope.names []).lookup x=some c\/h₁.IsCell c none:=λx c e=>by
  rw[<-ae];refine Wy scope.names _ _ x c ?_;rw[Heap.size_push,l];exact e
 let⟨hg,av,he⟩:=a C s3 H (D::fp) (X.pn++pins);generalize w:mD X scope ow ci C s3 H (D::fp) (X.pn++pins)=Y at hg av he;have f:Y.prog=X.prog:=by rw[<-w];rfl
 have Yw:Y.w=X.w:=by rw[<-w];rfl
 have YK:Y.K=X.K:=by rw[<-w];rfl
 have YA:Y.A=X.A:=by rw[<-w];rfl
 have Yc:Y.calm=true:=by rw[<-w];exact hc
 have h:Y.env=compEnvC scope (cellsFrom (C+1) scope.names (di X.env scope.names [])) C X.env:=by rw[<-w];rfl
 have ab:Y.xe=λ_ _=>False:=by rw[<-w];rfl
 have an:Y.fs=mI X.stack:=by rw[<-w];rfl
 have am:Y.ex=D::fp:=by rw[<-w];rfl
 have aW:Y.pn=X.pn++pins:=by rw[<-w];rfl
 have Ys:Y.s₀=s3:=by rw[<-w];rfl
 have YH:Y.H₀=H:=by rw[<-w];rfl
 have YN:⇑(dd ⇑ow ci σ)=Y.N.length:=by rw[<-w];show(dd ⇑ow ci σ).length=(ow++ci.map λj=>X.N.getD j "").length;simp[dd]
 have ag:∀b∈D::fp,b≠Y.env.locals/\b∉Y.fs/\b∈Y.ex/\(∀x c,Y.env.cells.lookup x=some c->c≠b)/\∀p∈Y.pn,p.1≠b:=λb a=>by
  let⟨h0,h1,h2,h3,h4,h5⟩:=(O b a).2;refine⟨by rw[h];exact vE (l▸(O b a).1),λz=>?_,by rw[am];exact a,λx c e=>?_,by rw[aW];exact h5⟩
  .rw[an]at z;rcases mem_cons.mp (I.iC b z)with q | q
   .exact h1 q
   .exact h2 q
  .rw[h]at e;rcases S.uW I.ok e with q | q
   .exact λz=>Nat.lt_irrefl _ (Nat.lt_of_lt_of_le (l▸(O b a).1) (vV (Nat.le_succ _) (z▸q)))
   .exact h4 x c q
 have aE:D∉fp:=λz=>Nat.lt_irrefl _ (a9 D z)
 have aC:∀s4:Shared,Inv Y [] (dd ⇑ow ci σ) H s4->tn 0 s4.heap->s4.heap.PlainList D #[]->
   codeAny (model X.prog X.w) X.A (.compLoop (.ListComp elt [⟨tg,iter,ifs,0⟩] scope pos) 0 (.ref it) (.ref D) (compEnvC scope (cellsFrom (C+1) scope.names (di X.env scope.names [])) C X.env)) (RR (.ref D) C) s4:=by
  intro s4 J4 U ah;let⟨m0,w0⟩:=w0;refine mF (λn s'=>∃i ys k H',Inv Y [] (dd ⇑ow ci σ) H' s'/\tn i s'.heap/\(∀b∈fp,H' b=none)/\H' D=none/\s'.heap.PlainList D k/\Vals ys k.toList/\W i n ys H') ?_ m0
   ⟨0,[],#[],H,J4,U,λb a=>(hf b a).1,ar,ah,.nil,w0⟩
  rintro n s5 ⟨i,ys,k,H5,J5,aK,ap,t,⟨aH,b9⟩,a0,w5⟩;have vl:⇑ys=k.size:=by have:=⇑a0;simpa using this
  have aF:∀{H':Hp} {s':Shared} {aj:St},Inv Y [] aj H' s'->H' D=none->∀{o:Obj},s'.heap.get? D=some o->(∀v,o.data≠.cell v)->Inv Y [(D,o)] aj H' s':=λ{H' s' aj} K hD o e d=>
   K.hH λp hp=>by
    have ep:p=(D,o):=by simpa using hp
    subst ep;let⟨a1,a2,_⟩:=ag D vq;exact⟨e,hD,a1,a2,d⟩
  have P5:=aF J5 t b9 (λv z=>by cases z);have ac:∀{H':Hp},(∀b∈fp,H' b=none)->∀{o:Obj},∀b∈fp,fI Y [(D,o)] H' b:=λ{H'} hn {o} b a=>by
   let⟨a1,a2,a3,a4,a5⟩:=ag b (vp _ a);refine⟨hn b a,a1,a2,.inl a3,a4,λp hp=>?_⟩;rcases vh.mp hp with q | q
   .exact a5 p q
   .have ep:p=(D,o):=by simpa using q
    subst ep;exact λz=>aE (by have z':D=b:=z;rw[z'];exact a)
  rcases aP i n ys H5 w5 with⟨aM,aB,z5⟩ | ⟨go,NN,as,aL⟩
  .have d:=T.done Y f Yw YK Yc i [(D,_)] s5 _ H5 (λ_ _=>False) P5 (ac ap) aK aM;rw[YA]at d;refine cM d λr s6 z_=>?_;obtain⟨hr,J6⟩:=z_
   subst hr;have D6:=(J6.pin (D,_) (mem_append_right _ vq)).1;let⟨mC,aw,_⟩:=J6.loc;rw[h]at aw;have ax:s6.heap.Ns C mC:=aw;have b3:H5 C=none:=by have:=J6.free;rw[h]at this;exact this
   refine aY D C s6 H5 mC ys ?_ t z5 ax (vX A) (vN A) b3;have B:=J6.base;rw[an,am,YH,Ys]at B;have aD:∀b o,s.heap.get? b=some o->b≠D/\b≠C:=λb o e=>⟨vE (af b o e),vE (vY (af b o e) A)⟩
   have R:∀b o,s.heap.get? b=some o->b∉fp->b∉D::fp:=λb o e a z=>by
    rcases mem_cons.mp z with q | q
    .exact(aD b o e).1 q
    .exact a q
   have uN:Un (mI X.stack) fp H (upd H5 D (.lst ys)) s.heap s6.heap:=by
    refine⟨λb o e n a hx=>B.keep b o (k3 b o e) n a (R b o e hx),λb o e n a hx=>B.slot b o (k3 b o e) n a (R b o e hx),λb o e n hx=>?_,λb o e hx=>B.there b o (k3 b o e) (R b o e hx),λb xs q=>?_,λb o u q=>?_,λb ps q=>?_⟩
    .rw[jg (aD b o e).1];exact B.free b o (k3 b o e) n (R b o e hx)
    .rw[jg (je (B.ly b xs q) t)];exact B.ly b xs q
    .rw[jg (je (B.iX b o u q) t)];exact B.iX b o u q
    .let⟨mo,q'⟩:=B.lT b ps q;exact⟨mo,by rw[jg (je q' t)];exact q'⟩
   have az:fO X.prog X.w H5 s6.heap:=by rw[<-f,<-Yw];exact J6.cJ
   have aA:fO X.prog X.w (upd H5 D (.lst ys)) s6.heap:=λb u e=>by
    by_cases au:b=D
    .subst au;rw[jw]at e;cases e;exact⟨aB,k.toList,_,a0,#v[D6]⟩
    .rw[jg au]at e;exact(az b u e).i5 (λc v _ q=>q) (λc q=>by rw[jg (je q t)];exact q) λc xs q=>by rw[jg (je q t)];exact q
   refine I.sj (by rw[J6.os,Ys,<-Q]) uN aA J6.bare λb a=>?_
   let⟨h0,h1,h2,h3,h4,h5⟩:=hf b a;exact⟨h3,h1,h4,h5⟩
  .have d:=T.item Y f Yw YK Yc i [(D,_)] s5 _ H5 (λ_ _=>False) P5 (ac ap) aK go;rw[YA]at d;refine cM d λr s6 z_=>?_;obtain⟨u,hr,h6⟩:=z_
   subst hr;refine cM h6 λ_ s7 z_=>?_;obtain⟨x,H7,J7,r7,y7,ai,b0⟩:=z_
   have aT:=J7.pinned (ac b0) (T.obj _ _ ai);have h8:=hg _ s7 _ H7 x u _ aT r7 (hk _ _ _ _ (aL x H7 y7));rw[f,Yw,YA,h,ab]at h8;refine cM h8 λ_ s8 z_=>?_;obtain⟨ak,H8,J8,b7,q8⟩:=z_
   have h9:=av _ s8 ak H8 _ J8 q8;rw[f,Yw,YA,h,ab]at h9;refine cM h9 λb s9 z_=>?_;obtain⟨H9,J9,q9⟩:=z_
   have a6:∀{H':Hp} {s':Shared},Inv Y ([(D,({cls:=.type "list",data:=.seq k aH}:Obj))]++ie fp s7.heap) ak H' s'->Inv Y [] (dd ⇑ow ci σ) H' s'/\tn (i+1) s'.heap/\(∀b∈fp,H' b=none)/\H' D=none/\s'.heap.get? D=some {cls:=.type "list",data:=.seq k aH}:=λ{H' s'} K=>by
    have pD:=K.pin (D,_) (mem_append_right _ (mem_append_left _ vq));refine⟨(K.hH (pins':=[]) (by simp)).forget _ _ _ YN (λj v hj e=>b7 j v hj e),T.keep _ _ _ ai λb a o e=>(K.pin (b,o) (mem_append_right _ (mem_append_right _ (yH a e)))).1,λb a=>?_,pD.2.1,pD.1⟩;let⟨o,e,_⟩:=T.obj _ _ ai b a;exact(K.pin (b,o) (mem_append_right _ (mem_append_right _ (yH a e)))).2.1
   cases b with
   | false=>
    rw[vc vF]at q9|-;let⟨m',hm,w9⟩:=as _ _ q9;let⟨K9,bb,b1,b5,e9⟩:=a6 J9;exact⟨m',hm,i+1,ys,k,H9,K9,bb,b1,b5,⟨_,e9⟩,a0,w9⟩
   | true=>
    rw[vd rfl]at q9|-;have aq:=he _ s9 ak H9 _ J9 q9;rw[f,Yw,YA,h,ab]at aq;refine cM aq λz aI z_=>?_;obtain⟨v,al,aS,ba,b6,b8⟩:=z_
    let⟨m',hm,bc⟩:=as _ _ b8;let⟨aU,aJ,ao,a8,aX⟩:=a6 aS;refine wpAny_list_append_plain (hsz:=by rw[<-vl];exact vX b6) ⟨_,aX⟩ λb2 aG aa=>?_
    let⟨a1,a2,a3,a4,a5⟩:=ag D vq;have aV:Inv Y [] (dd ⇑ow ci σ) al {aI with heap:=b2}:=aU.turned (t':=aI.toks) (λb o a e=>(aa.2 b a).trans e) a8 a1 (.inl a3) a4 (λp hp=>a5 p #v[hp]);refine⟨m',hm,i+1,ys++[v],k.push z,al,aV,T.keep _ _ _ aJ λb a o e=>(aa.2 b (λq=>aE (q▸a))).trans e,ao,a8,aG,?_,bc⟩;rw[Array.toList_push];exact a0.append (.cons ba .nil)
 have J4:Inv Y [] (dd ⇑ow ci σ) H {s3 with heap:=h₁}:=by
  rw[<-w];exact EK (t₁:=s3.toks) S I3 (Nat.le_of_eq l) O P kk ay
 have U:tn 0 h₁:=T.keep _ _ _ st λb _ o e=>kk b o (k3 b o e)
 have ah:h₁.PlainList D #[]:=⟨_,kk _ _ b4⟩
 have L:=aC _ J4 U ah;subst Q;exact codeAny_compStart_list L (T.self _ 0 _ _ _ U L)
variable{wi:TI}
def JR(U:X.calm=true)(S:cj X scope ow ci)(Y:gv ⇑ow g)(hi:PI X tg iter wi)
  (n:∀C c a ex pn,PG (mD X scope ow ci C c a ex pn) tg g/\PF (mD X scope ow ci C c a ex pn) ifs tf/\PE (mD X scope ow ci C c a ex pn) elt te)
  (hs:∀x,foldedSetIterable iter X.env x=pure x:=by intro _;rfl):PE X (.ListComp elt [⟨tg,iter,ifs,0⟩] scope pos) (nS wi ⇑ow ci g tf te):=by
 intro d s u H Q I h;rw[eval_ListComp];refine wpAny_comprehension_free (use:=none) rfl hs (Km (S.cells I.ok)) S.kind S.names (cM (hi d s u H _ I h) λv s1 N=>cM N λa0 s2 O=>?_);let⟨it,fp,tn,J,H2,e,t,T,r,A,W,w0,f⟩:=O;subst e;refine Wz (RR:=λj C=>compPost (model X.prog X.w) X.A X.xe none (EP X d u Q) j C) U S Y n t T r A (λi H=>∀p,H p=none->Q (.ref p) (upd H p (.lst i))) W w0 f λD C s' H' m i K R z Z P l k=>?_
 refine⟨m,Z,λh' q=>⟨.ref D,upd H' D (.lst i),?_,rfl,z D R⟩⟩;let⟨w,y,B,E,L,M⟩:=t.gC (H':=upd H' D (.lst i)) P (by rw[jg l];exact k);exact K.turned (t':=s'.toks) (λb o n e=>(q.2 b n).trans e) w y E L M
def wk(hc:X.calm=true)(S:cj X scope ow ci)(hk:gv ⇑ow g)(hN:X.N.Nodup)(A:X.N[i]?=some x)(hx:Loc X.env.scope x)(hi:PI X tg iter wi)
  (t:∀C f c ex pn,PG (mD X scope ow ci C f c ex pn) tg g/\PF (mD X scope ow ci C f c ex pn) ifs tf/\PE (mD X scope ow ci C f c ex pn) elt te)
  (y:swapsWith (.ListComp elt [⟨tg,iter,ifs,0⟩] scope pos) (some (.Name x px)) spos.line X.env=pure true:=by rfl)
  (hf:X.fn x=true\/X.env.scope.names.lookup x=some .local:=by and_intros)
  (hs:∀x,foldedSetIterable iter X.env x=pure x:=by intro _;rfl):PS X (.Assign [.Name x px] (.ListComp elt [⟨tg,iter,ifs,0⟩] scope pos) spos) (nO (nS wi ⇑ow ci g tf te) (cv i)):=by
 intro d s O H D I h;rw[exec_Assign_Name_used _ _ _ _ y];refine uh (wpAny_standAt (uh ?_));show wpAny _ X.A (do let _ <-comprehension (.ListComp elt [⟨tg,iter,ifs,0⟩] scope pos) scope X.env _ (newList []) false (eval iter X.env) (some (assign (.Name x px) X.env))) _ _ s;refine uh (wpAny_mono (wpAny_comprehension_free (use:=some (assign (.Name x px) X.env)) (Q:=λ_ j=>SP X d D .next j) rfl hs (Km (S.cells I.ok)) S.kind S.names
  (cM (hi d s O H _ I h) λv s1 h1=>cM h1 λa0 s2 h2=>?_)) (λ_ j hq=>ug (ug hq)) λ_ _ e=>e)
 let⟨it,fp,tn,J,H2,e,L,T,B,Y,W,w0,k⟩:=h2;subst e;refine Wz (RR:=λl C=>compPost (model X.prog X.w) X.A X.xe (some (assign (.Name x px) X.env)) (λ_ j=>SP X d D .next j) l C) hc S hk t L T B Y
  (λE H=>∀p,H p=none->cv i (.ref p) O (upd H p (.lst E)) D.nx) W w0 k λP C j H' m E K hD z hn hC r n=>?_
 let⟨U,M,Z,f3,N,f5⟩:=L.gC (H':=upd H' P (.lst E)) hC (by rw[jg r];exact n);show wpAny _ X.A (assign (.Name x px) X.env (.ref P)) _ _ j;refine wpAny_assign_Name (Xg K hN A hx (v:=.ref P) rfl (λs3 R z_=>?_) hf);let⟨a,w,ha⟩:=z_;refine⟨m,hn.sameBut w ?_,λh' u=>?_⟩
 .rcases ha with q | q
  .rw[q];exact M
  .exact λz=>N x a q z.symm
 .exact⟨_,_,R.turned (t':=s3.toks) (λb o t e=>(u.2 b t).trans e) U M f3 N f5,z P hD⟩
def Ez{lo:Int}{n k:Nat}{ci:L6}{g:TG}{q:TT}{o:TE}{r:St}{H:Hp}{Z:Addr->N2->Hp->Prop}(c:Nat->N2->Hp->Prop)(s:c 0 [] H)
  (u:∀i ys H,i<n->c i ys H->g (.int (lo+i)) (dd k ci r) H λa H2=>q a H2 λb h=>if b=true then o a h λv j=>⇑ys<sizeLine/\c (i+1) (ys++[v]) j else c (i+1) ys h)
  (t:∀ys H,c n ys H->⇑ys<=sizeLine/\∀p,H p=none->Z p ys H) :
  ∃W:Nat->Nat->N2->Hp->Prop,(∃m,W 0 m [] H)/\∀i m ys H,W i m ys H->
   ((nY lo n).stop i H/\⇑ys<=sizeLine/\∀p,H p=none->Z p ys H)\/
   ((nY lo n).go i H/\∃N:N2->Hp->Prop,(∀f H',N f H'->∃l,l<m/\W (i+1) l f H')/\∀x H',(nY lo n).lA i H x H'->g x (dd k ci r) H' λa H2=>q a H2 λb h=>
    if b=true then o a h λv j=>⇑ys<sizeLine/\N (ys++[v]) j else N ys h):=by
 refine⟨λi m ys H=>m=n-i/\i<=n/\c i ys H,⟨n,by simp,va _,s⟩,?_⟩;rintro i m ys H ⟨rfl,z,p⟩;by_cases d:i<n
 .refine .inr ⟨d,c (i+1),λf H' w=>⟨n-(i+1),⋯,rfl,d,w⟩,λx H' y=>?_⟩;let⟨e,y⟩:=y;subst e y;exact u i ys _ d p
 .have e:i=n:=⋯
  subst e;exact .inl ⟨vb _,t ys H p⟩
def JA{K:cA}{a:Addr}{xs:N2}{k:Nat}{ci:L6}{g:TG}{r:TT}{o:TE}{s:St}{H:Hp}{Z:Addr->N2->Hp->Prop}(d:Nat->N2->Hp->Prop)(t:d 0 [] H)(z:∀i ys H,i<=⇑xs->d i ys H->bZ K H a xs)
  (A:∀i x ys H,xs[i]?=some x->d i ys H->g x (dd k ci s) H λc H2=>r c H2 λb h=>if b=true then o c h λv l=>⇑ys<sizeLine/\d (i+1) (ys++[v]) l else d (i+1) ys h)
  (u:∀ys H,d ⇑xs ys H->⇑ys<=sizeLine/\∀p,H p=none->Z p ys H) :
  ∃W:Nat->Nat->N2->Hp->Prop,(∃m,W 0 m [] H)/\∀i m ys H,W i m ys H->
   ((oe K a).stop i H/\⇑ys<=sizeLine/\∀p,H p=none->Z p ys H)\/
   ((oe K a).go i H/\∃N:N2->Hp->Prop,(∀f H',N f H'->∃n,n<m/\W (i+1) n f H')/\∀x H',(oe K a).lA i H x H'->g x (dd k ci s) H' λc H2=>r c H2 λb h=>
    if b=true then o c h λv l=>⇑ys<sizeLine/\N (ys++[v]) l else N ys h):=by
 refine⟨λi m ys H=>m=⇑xs-i/\i<=⇑xs/\d i ys H,⟨⇑xs,by simp,va _,t⟩,?_⟩;rintro i m ys H ⟨rfl,w,p⟩;have q:=z i ys H w p;by_cases j:i<⇑xs
 .refine .inr ⟨⟨xs,xs[i],q,by simp[j]⟩,d (i+1),λf H' B=>⟨⇑xs-(i+1),⋯,rfl,j,B⟩,λx H' y=>?_⟩;let⟨e,y⟩:=y;subst e;exact A i x ys _ (y xs q) p
 .have e:i=⇑xs:=⋯
  subst e;exact .inl ⟨⟨xs,q,vb _⟩,u ys H p⟩
end
def B8:(10:Nat)^250<2^831:=by decide +kernel
def BD(a : -10^250<=x)(b:x<=10^250):Builtin.Int.intBits x<=1048576:=by
 refine vV (PySem.intBits_le_iff.mpr ?_:Builtin.Int.intBits x<=831) nofun;have:x.natAbs<=10^250:=⋯
 exact vD this B8
def sT(a : -10^250<=x)(b:x<=10^250)(c : -10^250<=y)(d:y<=10^250):IntMulOk x y:=.of_bits (BD a b) (BD c d)
section
variable{X:Cx}
def Js:fR X (binaryOp .Mult) (rI IntMulOk λi j=>.int (i*j)):=uF λZ Z Z Z Z Z Z a q=>mul_int q a
def oK(_ j:Int):Prop:=0<j/\j<=10^250
def sk(a:0<j)(b:j<=10^250):oK i j:=⟨a,b⟩
def Jf:fR X (binaryOp .FloorDiv) (rI oK λi j=>.int (i/j)):=uF λi j Z Z Z Z Z a q=>by
 have b:(0:Int)<j:=a.1;have c:j<=10^250:=a.2;refine floordiv_int ⋯ ?_ (.inl (PyProof.noPylong_of_log2 ?_))
 .rw[Int.fdiv_eq_ediv_of_nonneg _ ⋯];exact q
 .have e:j.natAbs<=10^250:=⋯
  have g:j.natAbs.log2<831:=(Nat.log2_lt ⋯).mpr (vD e B8);lia
def BE:dw X (.builtin "isinstance") (λxs H Q=>∃x T t b,xs=[x,.ty T]/\gA X.K H x t/\PySem.W.kitOne X.K t (.type T)=some b/\Q (.bl b) H):=by
 intro a s j H xs i Q I r h;let⟨x,T,t,b,rfl,ty,e,q⟩:=h;let⟨u,f,rfl,d,c⟩:=vals2 r;cases(show f=Value.type T from c);exact FF I d ty e λg=>⟨.bl b,H,I.tok _,rfl,q⟩
def Fi{E:Nz}{Q:Nz}(y:A.handled=none)(d:s.heap.IsList l (intItems xs))
  (h:∀h' tk t',(∀b o,s.heap.get? b=some o->h'.get? b=some o)->Q (.int (preSum (numAt xs) xs.size) t') {s with heap:=h',toks:=tk}) :
  wpAny (model prog w) A (call (.builtin "sum") [.ref l]) Q E s:=by
 let⟨o,m,B,n,C⟩:=id d;have f:l≠s.heap.objs.size:=vE (vI m);have g:(intItems xs).size=xs.size:=by simp[intItems]
 have W:=(Walks.list (prog:=prog) (w:=w) (A:=A.in1) y s.heap.objs.size l f (intItems xs)).toS;rw[g]at W;refine call_sum_walkAnyS (wpAny_pyIter_list d ?_);refine⟨s.heap.objs.size,_,_,_,_,_,_,numAt xs,rfl,W,⟨⟨_,Heap.get?_push_size _ rfl,rfl,rfl⟩,d.at λo e=>vJ _ e⟩,λb a=>?_,λi v x=>intItems_at x,λz t' c=>?_⟩
 .rcases mem_cons.mp a with rfl | a
  .exact vI (Heap.get?_push_size _ rfl)
  .obtain rfl:=vo.mp a;exact vI (vJ _ m)
 .let⟨h',u,p,k,j⟩:=z;have q:u=s.gens:=c.gens;have r:p=s.drawn:=c.drawn;have t:j=s.os:=c.os;subst q r t;exact h h' k t' λb o e=>c.heap b o (λa=>uf (vI e) ((vo.mp a)▸Nat.lt_irrefl _)) (vJ _ e)
def YQ(g:X.calm=true):dw X (.builtin "sum") (λxs H Q=>∃(p:Addr) (b:L5),xs=[.ref p]/\bZ X.K H p (b.map V.int)/\Q (.int b.sum) H):=by
 intro f s z H xs x Q I r h;let⟨p,b,rfl,j,q⟩:=h;let⟨u,rfl,n⟩:=vals1 r;cases n;let⟨a,m,l,t⟩:=I.list j;have d:IntsAre a b:=intsAre_of m;let⟨y,k⟩:=d.allInts.items;have c:numsOf a.toArray.toList=b:=by rw[show a.toArray.toList=a from rfl,d.numsOf]
 have e:=l.isList;rw[k]at e c;rw[nums_intItems]at c;refine Fi (I.ok.hd g) e λo w v i=>?_
 rw[preSum_eq,List.take_of_length_le (by simp),c];exact⟨.int b.sum,H,I.kept i,⟨_,rfl⟩,q⟩
end
end L2
namespace Att
open PySem PySem.W PySem.Calls PyProof.Rows
def D3:∀(a:L5) (x:Int),x∈a->Builtin.Int.intBits x<=WData.weightAll (a.map WData.int):=by
 intro b
 induction b with
 | nil=>
  intro q h;cases h
 | cons n r ih0=>
  intro x h;show _<=WData.weight (.int n)+1+WData.weightAll (r.map WData.int);rcases mem_cons.mp h with e | h
  .subst e;have e:Builtin.Int.intBits x=WData.weight (.int x):=by
    unfold Builtin.Int.intBits WData.weight;rfl
   lia
  .have:=ih0 x h;lia
def Xt{l:OpenLaw}{n:Nat}{q:Program}{c:L8}{D:(Nw)->Heap->Prop}{E:World->Heap->Prop}{d:DefRec}
  (S:l.most=some n) (y:d.params.defaults=[])
  (k:∀(w:World) (e b:Shared) (mg B:Nw) (fa:Addr) (o:Obj) (C u h:Value) (a:Addr) (vs:L9) (g:L5),
   Ground q c [] D w e mg B b.heap->E w b.heap->
   b.heap.get? fa=some o->o.data = .func (docDef d.name d.params d.body d.scope C u h)->b.heap.CodeRec u d.name->mg d.name=↥fa->
   b.heap.get? a=some {cls:=.type "list",data:=.seq vs.toArray}->IntsAre vs g->⇑g<=n->(∀x∈g,Builtin.Int.intBits x<=1048576)->b.gens = #[]->
   codeAny (model l.prog w) callerA (.call (.ref fa) ⟨[.ref a],[]⟩) (λr s'=>r = .ok (.ret (.bool true))/\OldK b.heap s'.heap/\s'.os=b.os/\AllBare s'.gens) b) :
  WalkO q c D E l.row.toRowW d [] (λf vs=>PySem.call f vs):=by
 intro w e b mg B G Y fa o C u h K kV T O v I z P H J as t m W A Q;obtain rfl:K = .none:=Dflts.none I y;obtain rfl:kV = .none:=Dflts.noKw I;let⟨a,vs,g,rfl,rfl,s,j,p⟩:=Fd S t A;have i:∀x∈g,Builtin.Int.intBits x<=1048576:=by
  have X:(WData.list (g.map WData.int)).weight<=2^20:=(layableW_iff.mp (layW_cons m).1).2.2;intro x Z;exact vV (D3 g x Z) X
 refine enter_call (codeAny_mono (k w e b mg B fa o C u h a vs g G Y T (fd_plain O) v z s j p i P) λr s' U=>?_);let⟨rfl,L,M,N⟩:=U;exact⟨.inl ⟨.bool true,.bool true,[],rfl,λ_=>rfl,.bool true,EZ l _,λ_=>⟨List.Pairwise.nil,λ_ R=>(nomatch R)⟩⟩,L,M,N⟩
end Att
namespace L2
open PySem PySem.Spec PyProof.Rows
def GY{l:PySem.W.OpenLaw}{n k:Nat}{q:Program}{i:L8}{J:(Nw)->Heap->Prop}{D:World->Heap->Prop}{d:DefRec}{K:Params->cA}{CX:mZ}{sp:cA->Sp}{x:Str}
  (U:l.most=some n) (z:n<=sizeLine) (t:d.params.defaults=[]) (W:dC k callerA)
  (P:∀(w:World) (h:Heap),D w h->(K w.params).In h)
  (F:∀(w:World) (mg:Nw) (fa:Addr) (h:Heap),(K w.params).In h->h.Ns mainGlobals mg->mg d.name=↥fa->
   ∃fd:FuncData,(∀(s:Shared) (u:Value),BindsTo s fd ⟨[u],[]⟩ [(x,u)])/\
    ∀base:Heap,(K w.params).In base->base.Ns mainGlobals mg->fH l.prog w (K w.params) mg base CX k fa fd [x] (sp (K w.params)))
  (B:∀(K:cA) (H:Hp) (a:Addr) (m:L5),⇑m<=n->(∀x∈m,Builtin.Int.intBits x<=1048576)->pU H->bZ K H a (m.map V.int)->sp K [.ref a] H (λv _=>v = .bl true) λ_ _ _=>False)
  (r:∀(H:Hp) (s:Shared) (e:Value) (s':Shared),CX [] H s (λ_ _ _=>False) e s'->False) :
  PySem.W.WalkO q i J D l.row.toRowW d [] (λf vs=>PySem.call f vs):=by
 refine Att.Xt U t λw I p mg mb fa o pm X L a vs m G Y ho Z S y j g b c T=>?_
 have C:=P w _ Y;let⟨fd,R,M⟩:=F w mg fa _ C G.T.g y;exact Ga C G.T.g G.T.b G.T.builtins G.T.nolimit T j g (vV b z) W M R (λH N O=>B _ H a m b c N O) λH e s'=>r H p e s'
def SP.nx{R:St->Hp->Prop}(hR:∀S' H',R S' H'->D.nx S' H')(h:SP X pins {D with nx:=R} f s):SP X pins D f s:=by
 cases f with
 | next=>let⟨S',H',I,q⟩:=h;exact⟨S',H',I,hR _ _ q⟩
 | brk=>exact h
 | cont=>exact h
 | ret u=>exact h
def A5(c:TT)(t u:TS):TS:=λD σ H=>∃R:St->Hp->Prop,(∀S' H',R S' H'->D.nx S' H')/\rA c t u {D with nx:=R} σ H
def Qg(j:PT X c tc)(g:lN X a t)(i:lN X b u):PS X (.If c a b pos) (A5 tc t u):=by
 intro d s k H D I h;let⟨R,e,h⟩:=h;exact cM (Ja j g i d s k H _ I h) λf l q=>q.nx e
open PySem
def Jt:bootBuiltins "len"= some (.builtin "len"):=by decide +kernel
def Wv:bootBuiltins "max"= some (.builtin "max"):=by decide +kernel
def Xx:bootBuiltins "min"= some (.builtin "min"):=by decide +kernel
def Xy:bootBuiltins "sum"= some (.builtin "sum"):=by decide +kernel
def Y8:bootBuiltins "isinstance"= some (.builtin "isinstance"):=by decide +kernel
def Ax:bootBuiltins "abs"= some (.builtin "abs"):=by decide +kernel
def EL:bootBuiltins "sorted"= some (.builtin "sorted"):=by decide +kernel
def HZ:bootBuiltins "int"= some (.type "int"):=by decide +kernel
def G7:bootBuiltins "bool"= some (.type "bool"):=by decide +kernel
def Xw:bootBuiltins "list"= some (.type "list"):=by decide +kernel
def Kk:bootBuiltins "tuple"= some (.type "tuple"):=by decide +kernel
def Wd:bootBuiltins "dict"= some (.type "dict"):=by decide +kernel
def Ia:bootBuiltins "set"= some (.type "set"):=by decide +kernel
def Xv:bootBuiltins "enumerate"= some (.type "enumerate"):=by decide +kernel
def Ib:bootBuiltins "zip"= some (.type "zip"):=by decide +kernel
def D4:bootBuiltins "reversed"= some (.type "reversed"):=by decide +kernel
def FZ(K:cA)(t:Value)(h:(t==t)=true):PySem.W.kitOne K t t=some true:=by unfold PySem.W.kitOne;rw[vd h]
def FH(K:cA)(c:(Value.type a==Value.type b)=false)(d:PySem.W.kitMeta b=true)(e:PySem.W.subIn [] (.type a) (.type b)=some v):PySem.W.kitOne K (.type a) (.type b)=some v:=by
 unfold PySem.W.kitOne;rw[vc (by rw[c];exact vF)];show(if PySem.W.kitMeta b=true then _ else _)=_;rw[vd d];exact e
def FC{K:cA}:PySem.W.kitOne K (.type "int") (.type "int")=some true:=FZ K _ (by decide +kernel)
def Ed{K:cA}:PySem.W.kitOne K (.type "int") (.type "bool")=some false:=FH K (by decide +kernel) (by decide +kernel) (by decide +kernel)
section
variable{X:Cx}{tg:Expr}
def Dq:nC X (λx lo hi H Q=>∃z,x = .str z/\⇑z<=sizeLine/\Q (.str (Txt.slice z lo hi)) H):=by
 intro b s n H x v p r lo hi o Q I m c g e h;let⟨z,rfl,d,q⟩:=h;let⟨t,rfl⟩:=m;refine⟨"str",_,F.slot_str_getitem.lookup,typeIs_str _ _ _,?_⟩;have a:∀(lo hi:Nu),Q (.str (Txt.slice z lo hi)) H->∀f k,EP X b n Q (.str (Txt.slice z lo hi) f) {s with toks:=k}:=λlo hi q f k=>⟨.str _,H,I.tok _,⟨_,rfl⟩,q⟩
 cases g with
 | none=>
  cases e with
  | none=>exact wpAny_getItem_str_slice (l:=none) (u:=none) (st:=none) c rfl (post_val_or_str ⟨vV (Txt.slice_le z _ _) d,a _ _ q⟩)
  | int j uj=>exact wpAny_getItem_str_slice (l:=none) (u:=some (j,uj)) (st:=none) c rfl (post_val_or_str ⟨vV (Txt.slice_le z _ _) d,a _ _ q⟩)
 | int i ui=>
  cases e with
  | none=>exact wpAny_getItem_str_slice (l:=some (i,ui)) (u:=none) (st:=none) c rfl (post_val_or_str ⟨vV (Txt.slice_le z _ _) d,a _ _ q⟩)
  | int j uj=>exact wpAny_getItem_str_slice (l:=some (i,ui)) (u:=some (j,uj)) (st:=none) c rfl (post_val_or_str ⟨vV (Txt.slice_le z _ _) d,a _ _ q⟩)
def rd_str{R:Str->Prop}(h:R z):∃a,V.str z = .str a/\R a:=⟨z,rfl,h⟩
end
section
variable{X:Cx}{K:cA}
def Yk(e:X.K=K):rH X (rl K):=by subst e;exact ju
def XL(e:X.K=K):rH X (oD K):=by subst e;exact jv
def EM(e:X.K=K):dw X (.builtin "len") (λxs H Q=>∃x n,xs=[x]/\rX K x H n/\Q (.int n) H):=by subst e;exact jX
def kJ(e:X.K=K):fR X (compareOp .In) (AY K false):=by subst e;exact Xc
end
mutual
inductive DV(H:Hp):V->PyData->Prop
 | cW:DV H .cW .none
 | bl (b:Bool):DV H (.bl b) (.bool b)
 | int (i:Int):DV H (.int i) (.int i)
 | str (x:Str):DV H (.str x) (.str x)
 | lst {a:Addr} {xs:N2} {ds:List PyData}:H a=some (.lst xs)->oO H xs ds->DV H (.ref a) (.list ds)
 | tup {a:Addr} {xs:N2} {ds:List PyData}:H a=some (.tup xs)->oO H xs ds->DV H (.ref a) (.tuple ds)
inductive oO(H:Hp):N2->List PyData->Prop
 | nil:oO H [] []
 | cons {x:V} {d:PyData} {xs:N2} {ds:List PyData}:DV H x d->oO H xs ds->oO H (x::xs) (d::ds)
end
section
variable{X:Cx}
mutual
theorem Zq{p:St}{H:Hp}(I:Inv X pins p H s):∀{v:V} {d:PyData} {u:Value},DV H v d->RelV v u->∃as,Reads s.heap u d as
 | _,_,_,.cW,r=>⟨_,by cases r;exact Reads.none⟩
 | _,_,_,.bl b,r=>⟨_,by cases r;exact Reads.bool b⟩
 | _,_,_,.int i,r=>by let⟨t,rfl⟩:=r;exact⟨_,Reads.int i t⟩
 | _,_,_,.str x,r=>by let⟨t,rfl⟩:=r;exact⟨_,Reads.str x t⟩
 | _,_,_,.lst e q,r=>by
  cases r;let⟨Z,a,c,g,k⟩:=I.cJ _ _ e;let⟨as,f⟩:=K8 I q g;exact⟨_,reads_list_at k rfl rfl #v[f]⟩
 | _,_,_,.tup e q,r=>by
  cases r;let⟨a,g,m,Z⟩:=I.tuple (cU.of e);let⟨o,l,h,n,j⟩:=m;let⟨as,f⟩:=K8 I q g;exact⟨_,reads_tuple_at l h j #v[f]⟩
theorem K8{d:St}{H:Hp}(I:Inv X pins d H s):∀{vs:N2} {ds:List PyData} {us:L9},oO H vs ds->Vals vs us->∃as,ReadsAll s.heap us ds as
 | _,_,_,.nil,r=>by cases r;exact⟨_,ReadsAll.nil⟩
 | _,_,_,.cons a q,r=>by
  cases r with
  | cons r1 r2=>
   let⟨as,b⟩:=Zq I a r1;let⟨e,c⟩:=K8 I q r2;exact⟨_,ReadsAll.cons b c⟩
end
def ua(f:X.A.units+64<cLine):fR X (compareOp .Eq) (λx y H Q=>∃d e,DV H x d/\DV H y e/\SeqAt.shaped d=true/\SeqAt.shaped e=true/\Q (.bl (PyData.eqv d e)) H):=by
 intro a s p H x y v u Q I j k h;let⟨d,e,b,c,l,m,q⟩:=h;let⟨n,g⟩:=Zq I b j;let⟨o,i⟩:=Zq I c k;exact eq_dataH g i l m f ⟨.bl _,H,I,rfl,q⟩
def Al(f:X.A.units+64<cLine):fR X (compareOp .NotEq) (λx y H Q=>∃d e,DV H x d/\DV H y e/\SeqAt.shaped d=true/\SeqAt.shaped e=true/\Q (.bl (!PyData.eqv d e)) H):=by
 intro a s p H x y v u Q I j k h;let⟨d,e,b,c,l,m,q⟩:=h;let⟨n,g⟩:=Zq I b j;let⟨o,i⟩:=Zq I c k;exact ne_dataH g i l m f ⟨.bl _,H,I,rfl,q⟩
def GW{us:L9}:∀{a:L5},IntsAre us a->Vals (a.map V.int) us:=by
 induction us with
 | nil=>intro a r;cases r;exact .nil
 | cons u us ih=>
  intro a r;cases r with
  | cons n t r=>exact .cons ⟨t,rfl⟩ (ih r)
def xF(w:X.calm=true):dw X (.builtin "max") (λxs H Q=>∃(p:Addr) (c:L5),xs=[.ref p]/\bZ X.K H p (c.map V.int)/\0<⇑c/\∀m∈c,(∀a∈c,a<=m)->Q (.int m) H):=by
 intro n s N H xs M Q I r h;let⟨p,c,rfl,A,d,q⟩:=h;let⟨u,rfl,E⟩:=vals1 r;cases E;let⟨B,D,C,Z⟩:=I.list A;have k:=intsAre_of D;have l:=C.isList;let⟨xs,e⟩:=k.allInts.items;have b:c=xs.toList.map (·.1):=by rw[<-k.numsOf,<-nums_intItems,<-e]
 have f:0<xs.size:=by
  have g:=d;rw[b,vt,Array.length_toList]at g;exact g
 rw[e]at l;refine max_intList (I.ok.hd w) l f λv K J z y=>?_
 let⟨t,rfl⟩:=intItems_at z;let⟨L,o⟩:=argBest_gt (numAt xs) (xs.size-1);refine⟨.int _,H,I.kept (t':=J) y,⟨_,rfl⟩,q _ ?_ λa i=>?_⟩
 .rw[b,numAt_eq];exact getD_mem (by rw[vt,Array.length_toList];lia)
 .rw[b]at i;let⟨j,x,rfl⟩:=mem_getD i;rw[vt,Array.length_toList]at x;rw[<-numAt_eq];exact o j ⋯
end
section
variable{σ:St}{H:Hp}{Q:VK}
def rd_dget(h:td σ H λx H1=>ty σ H1 λy H2=>∃a v,x = .ref a/\dg H2 a y (some v)/\Q v H2):pC td ty σ H Q:=h
end
def pX(K:cA)(a:Addr)(D:List (Str×PyProof.Rows.KTD.Dat)):Prop:=PyProof.Rows.KTD.tabLook (PyProof.Rows.KTD.datLooks λb=>K.lookup b) (λb=>K.lookup b) a D=true
section
variable{X:Cx}
def Lz:fR X (compareOp .In) (λx y H Q=>∃a k D,x = .str k/\y = .ref a/\pX X.K a D/\Q (.bl (PyProof.Rows.KTD.inKeys k D)) H):=by
 intro b s f H x y v u Q I c d h;let⟨a,k,D,rfl,rfl,T,q⟩:=h;let⟨t,rfl⟩:=c;cases d;exact PyProof.Rows.KTD.in_text (h₀:=s.heap) ⟨PySem.W.kt_text_in I.g8 T,λj j e=>e⟩ ⟨.bl _,H,I.tok _,rfl,q⟩
end
def Kn{K:cA}{a:Addr}{xs:N2}{k:Nat}{ci:L6}{g:TG}{r:TT}{o:TE}{s:St}{H:Hp}{Z:Addr->N2->Hp->Prop}(d:Nat->N2->Hp->Prop)(t:d 0 [] H)(z:∀i ys H,i<=⇑xs->d i ys H->cU K H a xs)
  (A:∀i x ys H,xs[i]?=some x->d i ys H->g x (dd k ci s) H λc H2=>r c H2 λb h=>if b=true then o c h λv l=>⇑ys<sizeLine/\d (i+1) (ys++[v]) l else d (i+1) ys h)
  (u:∀ys H,d ⇑xs ys H->⇑ys<=sizeLine/\∀p,H p=none->Z p ys H) :
  ∃W:Nat->Nat->N2->Hp->Prop,(∃m,W 0 m [] H)/\∀i m ys H,W i m ys H->
   ((rF K a).stop i H/\⇑ys<=sizeLine/\∀p,H p=none->Z p ys H)\/
   ((rF K a).go i H/\∃N:N2->Hp->Prop,(∀f H',N f H'->∃n,n<m/\W (i+1) n f H')/\∀x H',(rF K a).lA i H x H'->g x (dd k ci s) H' λc H2=>r c H2 λb h=>
    if b=true then o c h λv l=>⇑ys<sizeLine/\N (ys++[v]) l else N ys h):=by
 refine⟨λi m ys H=>m=⇑xs-i/\i<=⇑xs/\d i ys H,⟨⇑xs,by simp,va _,t⟩,?_⟩;rintro i m ys H ⟨rfl,w,p⟩;have q:=z i ys H w p;by_cases j:i<⇑xs
 .refine .inr ⟨⟨xs,xs[i],q,by simp[j]⟩,d (i+1),λf H' B=>⟨⇑xs-(i+1),⋯,rfl,j,B⟩,λx H' y=>?_⟩;let⟨e,y⟩:=y;subst e;exact A i x ys _ (y xs q) p
 .have e:i=⇑xs:=⋯
  subst e;exact .inl ⟨⟨xs,q,vb _⟩,u ys H p⟩
def rd_iTup{K:cA}{b:TE}{c:St}{H:Hp}{R:It->Hp->Prop}(h:b c H λx H1=>∃a,x = .ref a/\(∃xs,cU K H1 a xs)/\R (rF K a) H1):sE K b c H R:=h
def Qh{K:cA}{i j:Nat}{a:Addr}{x y:V}{b:St}{H:Hp}{R:St->Hp->Prop}(e:cU K H a [x,y])(h:cv i x b H λS' H'=>cv j y S' H' R):mK K 2 (dO (cv i) (dO (cv j) mJ)) (.ref a) b H R:=
 ⟨a,[x,y],rfl,e,rfl,x,[y],rfl,y,[],rfl,rfl,h⟩
def rd_sub{a:St}{H:Hp}{R:St->Hp->Prop}(h:to a H λo H1=>ti a H1 λi H2=>t o i v H2 λb=>R a b):sA to ti t v a H R:=h
def rd_dnew{a:St}{H:Hp}(h:∀p,H p=none->Q (.ref p) (upd H p (.dK []))):nU a H Q:=h
def rd_dput{b:St}{H:Hp}(h:tv b H λv H1=>td b H1 λx H2=>ty b H2 λy d=>∃a c,x = .ref a/\g5 d a y v c/\D.nx b c):pq td ty tv D b H:=h
def rd_bm0{K:cA}{T:String}{r:V->N2->Hp->VK->Prop}{a:TE}{b:St}{H:Hp}{Q:VK}(h:a b H λx H1=>tU K T x H1/\r x [] H1 Q):tG K T r a b H Q:=h
section
variable{X:Cx}{pins:Ny}{σ:St}{H:Hp}{s:Shared}{h':Heap}
def Inv.gu{t':Nat}{ch:L7}(I:Inv X pins σ H s)(f:∀b∈ch,fI X pins H b)(k:∀b o,b∉ch->s.heap.get? b=some o->h'.get? b=some o):Inv X pins σ H {s with heap:=h',toks:=t'}:=by
 have d:∀b u,H b=some u->b∉ch:=λb u e z=>by rw[(f b z).1]at e;cases e
 refine I.step (g':=s.gens) (d':=s.drawn) (ch:=ch) (λb t=>?_) (λb o Z Z a e Z=>k b o a e) (λb o Z Z a e Z=>⟨o.slots,k b o a e⟩) (λZ Z Z Z n=>n)
  (λb o a e=>⟨o,k b o a e⟩) (λZ Z e=>e) (λZ Z Z e=>e) (λb y e=>⟨#[],by rw[e];simp⟩) (λm w=>?_) (λb u e=>?_) I.bare
 .let⟨_,i,_,j,l,p⟩:=f b t;exact⟨j,i,l,p⟩
 .let⟨o,h,g,x,r⟩:=w;exact⟨o,h,g,k _ o (λz=>(f _ z).2.1 rfl) x,r⟩
 .refine(I.cJ b u e).i5 (λc v a q=>k c v ?_ q) (λZ q=>q) λZ Z q=>q
  rcases a with z | z
  .rw[z];exact d b u e
  .exact d c _ z
def Inv.pair{t':Nat}{ch:L7}{x y:V}{u v:Value}(I:Inv X pins σ H s)(c:∀b∈ch,fI X pins H b)(g:∀b∈ch,b<s.heap.objs.size)(h:RelV x u)(i:RelV y v)
  (hT:h'.get? s.heap.objs.size=some {cls:=.type "tuple",data:=.seq #[u,v]}) (k:∀b o,b∉ch->s.heap.get? b=some o->h'.get? b=some o) :
  Inv X pins σ (upd H s.heap.objs.size (.tup [x,y])) {s with heap:=h',toks:=t'}/\∀b∈ch,fI X pins (upd H s.heap.objs.size (.tup [x,y])) b:=by
 have f:∀b∈ch,fI X pins (upd H s.heap.objs.size (.tup [x,y])) b:=λb a=>⟨(jg (vE (g b a))).trans (c b a).1,(c b a).2⟩
 have d:Inv X pins σ (upd H s.heap.objs.size (.tup [x,y])) {s with heap:=s.heap.push {cls:=.type "tuple",data:=.seq #[u,v]},toks:=t'}:=
  I.laid (t':=t') (λb o e=>vJ _ e) (vb _) (show cD X.prog X.w _ _ _ (.tup [x,y])from⟨(by show 2<=sizeLine;decide),[u,v],.cons h (.cons i .nil),IsTup.new _ _⟩)
 refine⟨d.gu (h':=h') (t':=t') f λb o a e=>?_,f⟩;rcases Heap.get?_push_cases e with⟨rfl,rfl⟩ | e
 .exact hT
 .exact k b o a e
end
def rD(K:cA)(a:Addr):It:=
 ⟨λi H=>∃xs x,bZ K H a xs/\xs[i]?=some x,λi H x H'=>∃T v,x = .ref T/\H T=none/\H'=upd H T (.tup [.int i,v])/\∀xs,bZ K H a xs->xs[i]?=some v,λi H=>∃xs,bZ K H a xs/\⇑xs<=i⟩
def Fl{P:Program}{w:World}{K:cA}{n:Nt}{k:Nat}{R:Pos}(a e it:Addr)(t:e≠it) :
  Turn P w K (.Tuple n k R) (rD K a) [e,it] e (λi h=>(∃f,IsEnum h e it ((i:Nat):Int) f)/\h.IsListIter it a i) where
 mem:=by simp
 obj:=λi h j b g=>by
  rcases(by simpa using g:b=e\/b=it)with rfl | rfl
  .let⟨f,l⟩:=j.1;exact⟨_,l,λv z=>by cases z⟩
  .let⟨o,e,c,d⟩:=j.2;exact⟨o,e,λv z=>by rw[d]at z;cases z⟩
 keep:=λi h h' j k=>⟨let ⟨f,l⟩:=j.1;⟨f,k e (by simp) _ l⟩,j.2.at λo q=>k it (by simp) o q⟩
 item:=by
  intro X D N C U i A s σ H E I L j M;subst D N C;let⟨xs,x,B,O⟩:=M;let⟨Q,S,p,hz⟩:=I.list B;let⟨u,hu,ru⟩:=S.get O;let⟨⟨f,l⟩,m⟩:=j;have le:e<s.heap.objs.size:=vI l;have li:it<s.heap.objs.size:=by let⟨o,q,_⟩:=id m;exact vI q
  refine wpAny_pyNext_enum_item l m p.isList (x:=u) #v[hu] t λh' ho r hT a0 hk=>?_
  let⟨Y,T⟩:=I.pair (t':=s.toks+1) (ch:=[e,it]) (x:=.int i) (y:=x) L (λb g=>by rcases(by simpa using g:b=e\/b=it)with rfl | rfl<;>assumption) ⟨s.toks,rfl⟩ ru hT
   (λb o g q=>hk b o (λz=>g (by simp[z])) (λz=>g (by simp[z])) q)
  refine⟨_,rfl,wpAny_letOwnedTupleGo_enum ho λh2 J W=>?_⟩;have Z:=Y.gu (h':=h2) (t':=s.toks+1) (ch:=[e,it]) T λb o g q=>(W.2 b λz=>g (by simp[z])).trans q
  exact⟨.ref s.heap.objs.size,_,Z,rfl,⟨_,x,rfl,I.cJ.fresh (vb _),rfl,λys hy=>by rw[I.fg hy B];exact O⟩,
   ⟨⟨u,#v[J]⟩,r.at λo q=>(W.2 it t.symm).trans q⟩,λb g=>(T b g).1⟩
 done:=by
  intro X D N C U i A s σ H E I L j M;subst D N C;let⟨xs,B,O⟩:=M;let⟨Q,S,p,hz⟩:=I.list B;let⟨⟨f,l⟩,m⟩:=j;have hl:=⇑S;exact wpAny_pyNext_enum_end (I.ok.hd U) l m p.isList (by simp;lia) λh' eb=>⟨rfl,I.gu (t':=s.toks) (ch:=[e,it]) L λb o g q=>eb b o (λz=>g (by simp[z])) q⟩
 self:=λ_ _ _ _ _ j h=>let ⟨_,l⟩:=j.1;wpAny_pyIter_enum l h
def oY(K:cA)(ta:TA):TI:=λσ H R=>ta σ H λvs H1=>∃a xs,vs=[.ref a]/\bZ K H1 a xs/\R (rD K a) H1
def Wi{X:Cx}{a:Expr}{n:TA}{f:Nt}{k:Nat}{p i j:Pos}(v:Gl X "enumerate")(x:X.mg "enumerate"= none)(r:PA X [a] n)(z:starEach [a] X.env=[(false,eval a X.env)]:=by rfl) :
  PI X (.Tuple f k j) (.Call (.Name "enumerate" p) [a] [] i) (oY X.K n):=by
 intro g s J H R I h;refine Call_ (ZU I v x Xv (PyProof.Rows.callWith_type1 (cM (r i g s J H _ I h) λN e z_=>?_) z rfl));obtain⟨O,o,d,D,C⟩:=z_;let⟨b,P,rfl,y,q⟩:=C;let⟨u,rfl,E⟩:=vals1 D;cases E;let⟨B,M,p,L⟩:=d.list y;refine call_enumerate_list p.isList λK m l A w=>?_
 refine wpAny_pyIter_enum m ?_;refine⟨e.heap.objs.size+1,[e.heap.objs.size+1,e.heap.objs.size],_,_,o,rfl,d.kept (t':=e.toks) w,Fl b _ _ (Nat.succ_ne_self _),⟨⟨_,#v[m]⟩,l⟩,λc t=>?_,q⟩;rcases(by simpa using t:c=e.heap.objs.size+1\/c=e.heap.objs.size)with rfl | rfl
 .exact d.gC (Nat.le_succ _) (d.cJ.fresh (Nat.le_succ _))
 .exact d.gC (vb _) (d.cJ.fresh (vb _))
def Kq{K:cA}{a:Addr}{xs:N2}{g:TG}{l:TS}{D:Ends}{c:St}{H:Hp}(d:Nat->St->Hp->Prop)(n:d 0 c H)(t:∀i c H,i<=⇑xs->d i c H->bZ K H a xs)
  (u:∀i v c H T H',xs[i]?=some v->d i c H->bX H H'->H' T=some (.tup [.int i,v])->g (.ref T) c H' λf H2=>l {D with nx:=d (i+1),ct:=d (i+1),bk:=D.nx} f H2) (r:∀c H,d ⇑xs c H->D.nx c H) :
  ∃W:Nat->Nat->St->Hp->Prop,(∃m,W 0 m c H)/\∀i m c H,W i m c H->
   ((rD K a).stop i H/\D.nx c H)\/((rD K a).go i H/\∃N:St->Hp->Prop,(∀S' H',N S' H'->∃k,k<m/\W (i+1) k S' H')/\∀x H',(rD K a).lA i H x H'->g x c H' λf H2=>l {D with nx:=N,ct:=N,bk:=D.nx} f H2):=by
 refine⟨λi m c H=>m=⇑xs-i/\i<=⇑xs/\d i c H,⟨⇑xs,by simp,va _,n⟩,?_⟩;rintro i m c H ⟨rfl,s,p⟩;have q:=t i c H s p;by_cases j:i<⇑xs
 .refine .inr ⟨⟨xs,xs[i],q,by simp[j]⟩,d (i+1),λS' H' w=>⟨⇑xs-(i+1),⋯,rfl,j,w⟩,λx H' y=>?_⟩;let⟨T,v,rfl,hT,e,y⟩:=y;exact u i v c H T H' (y xs q) p (λb o h=>by rw[e,jg (je h hT)];exact h) (by rw[e];exact jw)
 .have e:i=⇑xs:=⋯
  subst e;exact .inl ⟨⟨xs,q,vb _⟩,r c H p⟩
def rd_iEnum{K:cA}{b:TA}{c:St}{H:Hp}{R:It->Hp->Prop}(h:b c H λvs H1=>∃a xs,vs=[.ref a]/\bZ K H1 a xs/\R (rD K a) H1):oY K b c H R:=h
def og(K:cA)(a b:Addr):It:=
 ⟨λi H=>∃xs x ys y,bZ K H a xs/\xs[i]?=some x/\bZ K H b ys/\ys[i]?=some y,
  λi H x H'=>∃T u v,x = .ref T/\H T=none/\H'=upd H T (.tup [u,v])/\(∀xs,bZ K H a xs->xs[i]?=some u)/\∀ys,bZ K H b ys->ys[i]?=some v,
  λi H=>∃xs ys,bZ K H a xs/\bZ K H b ys/\(⇑xs<=i\/⇑ys<=i)⟩
def Qt{h:Heap}{a b:Addr}{o u:Obj}(d:h.get? a=some o)(c:h.get? b=some u)(f:o.cls≠u.cls):a≠b:=λe=>by
 subst e;rw[d]at c;cases c;exact f rfl
def GS{P:Program}{w:World}{K:cA}{W:Nt}{k:Nat}{aa:Pos}(t A z TI TO l m:Addr)
  (D:∀t A,t≠z->t≠TO->t≠l->t≠m->A≠z->A≠TO->A≠l->A≠m->ZipApart z TI TO l m t A) :
  Turn P w K (.Tuple W k aa) (og K t A) [z,TI,TO,l,m] z (λi h=>IsZip h z TI TO .none/\IsPair h TI (.ref l) (.ref m)/\(∃a b,IsPair h TO a b)/\h.IsListIter l t i/\h.IsListIter m A i) where
 mem:=by simp
 obj:=λi h O b j=>by
  let⟨n,g,⟨a,c,f⟩,M,N⟩:=O;rcases(by simpa using j:b=z\/b=TI\/b=TO\/b=l\/b=m)with rfl | rfl | rfl | rfl | rfl
  .exact⟨_,n,λv z=>by cases z⟩
  .exact⟨_,g,λv z=>by cases z⟩
  .exact⟨_,f,λv z=>by cases z⟩
  .let⟨o,e,c,d⟩:=M;exact⟨o,e,λv z=>by rw[d]at z;cases z⟩
  .let⟨o,e,c,d⟩:=N;exact⟨o,e,λv z=>by rw[d]at z;cases z⟩
 keep:=λi h h' O k=>by
  let⟨n,g,⟨a,c,f⟩,M,N⟩:=O;exact⟨k z (by simp) _ n,k TI (by simp) _ g,⟨a,c,k TO (by simp) _ f⟩,M.at λo q=>k l (by simp) o q,N.at λo q=>k m (by simp) o q⟩
 item:=by
  intro X hP hw hK hc i Z s σ H E I hf O hg;subst hP hw hK;let⟨xs,x,ys,y,hq,hx,hr,hy⟩:=hg;let⟨a8,rv,p,_⟩:=I.list hq;let⟨a9,Q,Y,_⟩:=I.list hr;let⟨u,hu,ru⟩:=rv.get hx;let⟨v,hv,ab⟩:=Q.get hy;let⟨n,g,⟨a,c,f⟩,M,N⟩:=O;let⟨o1,n1,J,B,_⟩:=id p;let⟨o2,n2,L,C,_⟩:=id Y;let⟨o3,R,T,_⟩:=id M;let⟨o4,S,U,_⟩:=id N;have r:=D t A (Qt J n (by rw[B];show Value.type "list"≠Value.type "zip";decide)) (Qt J f (by rw[B];show Value.type "list"≠Value.type "tuple";decide)) (Qt J R (by rw[B,T];decide)) (Qt J S (by rw[B,U];decide))
   (Qt L n (by rw[C];show Value.type "list"≠Value.type "zip";decide)) (Qt L f (by rw[C];show Value.type "list"≠Value.type "tuple";decide)) (Qt L R (by rw[C,T];decide)) (Qt L S (by rw[C,U];decide))
  have lt:∀b∈[z,TI,TO,l,m],b<s.heap.objs.size:=λb j=>by
   rcases(by simpa using j:b=z\/b=TI\/b=TO\/b=l\/b=m)with rfl | rfl | rfl | rfl | rfl
   .exact vI n
   .exact vI g
   .exact vI f
   .exact vI R
   .exact vI S
  refine wpAny_pyNext_zip_item r n g f M N p.isList Y.isList (x:=u) (y:=v) #v[hu] #v[hv] λh' a1 a2 a3 a4 a5 a6 hk=>?_
  let⟨I1,f1⟩:=I.pair (t':=s.toks) (ch:=[z,TI,TO,l,m]) (x:=x) (y:=y) hf lt ru ab a5
   (λb o j q=>hk b o (λe=>j (by simp[e])) (λe=>j (by simp[e])) (λe=>j (by simp[e])) (λe=>j (by simp[e])) q)
  refine⟨_,rfl,wpAny_letOwnedTupleGo_zip a1 λh3 a7 sb=>?_⟩;have I2:=I1.gu (h':=h3) (t':=s.toks) (ch:=[z,TI,TO,l,m]) f1 λb o j q=>(sb.2 b λe=>j (by simp[e])).trans q
  exact⟨.ref s.heap.objs.size,_,I2,rfl,⟨_,x,y,rfl,I.cJ.fresh (vb _),rfl,(λys hy=>by rw[I.fg hy hq];exact hx),λys a0=>by rw[I.fg a0 hr];exact hy⟩,
   ⟨a7,(sb.2 TI r.TIz).trans (hk TI _ r.TIz r.TITO r.TIi1 r.TIi2 g),⟨_,_,(sb.2 TO r.TOz).trans a2⟩,a3.at λo q=>(sb.2 l r.i1z).trans q,a4.at λo q=>(sb.2 m r.i2z).trans q⟩,λb j=>(f1 b j).1⟩
 done:=by
  intro X hP hw hK hc i Z s σ H E I hf O hg;subst hP hw hK;let⟨xs,ys,hq,hr,hl⟩:=hg;let⟨a8,rv,p,_⟩:=I.list hq;let⟨a9,Q,Y,_⟩:=I.list hr;let⟨n,g,⟨a,c,f⟩,M,N⟩:=O;let⟨o1,n1,J,B,_⟩:=id p;let⟨o2,n2,L,C,_⟩:=id Y;let⟨o3,R,T,_⟩:=id M;let⟨o4,S,U,_⟩:=id N;have r:=D t A (Qt J n (by rw[B];show Value.type "list"≠Value.type "zip";decide)) (Qt J f (by rw[B];show Value.type "list"≠Value.type "tuple";decide)) (Qt J R (by rw[B,T];decide)) (Qt J S (by rw[B,U];decide))
   (Qt L n (by rw[C];show Value.type "list"≠Value.type "zip";decide)) (Qt L f (by rw[C];show Value.type "list"≠Value.type "tuple";decide)) (Qt L R (by rw[C,T];decide)) (Qt L S (by rw[C,U];decide))
  have ac:=⇑rv;have ad:=⇑Q;refine wpAny_pyNext_zip_end (I.ok.hd hc) r n g f M N p.isList Y.isList ?_ λh' hk=>⟨rfl,I.gu (t':=s.toks) (ch:=[z,TI,TO,l,m]) hf λb o j q=>hk b o (λe=>j (by simp[e])) (λe=>j (by simp[e])) (λe=>j (by simp[e])) (λe=>j (by simp[e])) q⟩
  simp_all
 self:=λ_ _ _ _ _ O h=>wpAny_pyIter_zip O.1 h
def ZV{n i j:Nat}(h:i≠j):n+i≠n+j:=λe=>h (Nat.add_left_cancel e)
def sF(K:cA)(ta:TA):TI:=λσ H R=>ta σ H λvs H1=>∃a b xs ys,vs=[.ref a,.ref b]/\bZ K H1 a xs/\bZ K H1 b ys/\R (og K a b) H1
def An{X:Cx}{a b:Expr}{w:TA}{f:Nt}{k:Nat}{p n o:Pos}(Q:Gl X "zip")(T:X.mg "zip"= none)(O:PA X [a,b] w)(Y:starEach [a,b] X.env=[(false,eval a X.env),(false,eval b X.env)]:=by rfl)(l:starEach [b] X.env=[(false,eval b X.env)]:=by rfl) :
  PI X (.Tuple f k o) (.Call (.Name "zip" p) [a,b] [] n) (sF X.K w):=by
 intro m s σ H R I h;refine Call_ (ZU I Q T Ib (PyProof.Rows.callWith_type1 (cM (O n m s σ H _ I h) λus d ⟨vs,x,e,r1,q1⟩=>?_) (by rw[Y,l]) (by rw[l];rfl)));let⟨u,v,xs,ys,rfl,U,W,q⟩:=q1;cases r1 with
 | cons r rr=>
  cases rr with
  | cons r' rr=>
   cases rr;cases r;cases r';let⟨a0,rv,p,hz⟩:=e.list U;let⟨a7,a8,p',Z⟩:=e.list W;refine call_zip_2 p.isList p'.isList λh' t y z A B a6 S=>?_
   refine wpAny_pyIter_zip t ?_;refine⟨d.heap.objs.size+4,[d.heap.objs.size+4,d.heap.objs.size+2,d.heap.objs.size+3,d.heap.objs.size,d.heap.objs.size+1],_,_,x,rfl,e.kept (t':=d.toks) S,
    GS u v _ _ _ _ _ (λu v C D E J K L M N=>⟨ZV nofun,ZV nofun,ZV (i:=0) nofun,ZV nofun,ZV nofun,ZV (j:=0) nofun,ZV nofun,ZV (j:=0) nofun,ZV nofun,ZV (i:=0) nofun,C,D,E,J,K,L,M,N⟩),⟨t,y,⟨_,_,z⟩,A,B⟩,λc P=>?_,q⟩
   have g:d.heap.objs.size<=c:=by
    rcases(by simpa using P:c=d.heap.objs.size+4\/c=d.heap.objs.size+2\/c=d.heap.objs.size+3\/c=d.heap.objs.size\/c=d.heap.objs.size+1)with rfl | rfl | rfl | rfl | rfl<;>lia
   exact e.gC g (e.cJ.fresh g)
def CI{K:cA}{a b:Addr}{xs ys:N2}{g:TG}{r:TS}{D:Ends}{c:St}{H:Hp}(d:Nat->St->Hp->Prop)(l:⇑xs=⇑ys)(s:d 0 c H)(z:∀i c H,i<=⇑xs->d i c H->bZ K H a xs/\bZ K H b ys)
  (A:∀i u v c H T H',xs[i]?=some u->ys[i]?=some v->d i c H->bX H H'->H' T=some (.tup [u,v])->g (.ref T) c H' λf H2=>r {D with nx:=d (i+1),ct:=d (i+1),bk:=D.nx} f H2) (t:∀c H,d ⇑xs c H->D.nx c H) :
  ∃W:Nat->Nat->St->Hp->Prop,(∃m,W 0 m c H)/\∀i m c H,W i m c H->
   ((og K a b).stop i H/\D.nx c H)\/((og K a b).go i H/\∃N:St->Hp->Prop,(∀S' H',N S' H'->∃n,n<m/\W (i+1) n S' H')/\∀x H',(og K a b).lA i H x H'->g x c H' λf H2=>r {D with nx:=N,ct:=N,bk:=D.nx} f H2):=by
 refine⟨λi m c H=>m=⇑xs-i/\i<=⇑xs/\d i c H,⟨⇑xs,by simp,va _,s⟩,?_⟩;rintro i m c H ⟨rfl,w,p⟩;let⟨q,k⟩:=z i c H w p;by_cases j:i<⇑xs
 .refine .inr ⟨⟨xs,xs[i],ys,ys[i],q,by simp[j],k,by simp⟩,d (i+1),λS' H' B=>⟨⇑xs-(i+1),⋯,rfl,j,B⟩,λx H' y=>?_⟩;let⟨T,u,v,rfl,hT,e,y,C⟩:=y;exact A i u v c H T H' (y xs q) (C ys k) p (λb o h=>by rw[e,jg (je h hT)];exact h) (by rw[e];exact jw)
 .have e:i=⇑xs:=⋯
  subst e;exact .inl ⟨⟨xs,ys,q,k,.inl (vb _)⟩,t c H p⟩
def rd_iZip{K:cA}{c:TA}{d:St}{H:Hp}{R:It->Hp->Prop}(h:c d H λvs H1=>∃a b xs ys,vs=[.ref a,.ref b]/\bZ K H1 a xs/\bZ K H1 b ys/\R (og K a b) H1):sF K c d H R:=h
def xK:entryFor table "dict.update.loop"= some Builtin.«dict.update.loop»:=entryFor_of_tree (by kernel_rfl)
def Zk:plainId "dict.update.loop"= true:=by decide +kernel
def FP:typeLookup (.type "list") "keys"= pure none:=by rw[typeLookup_type,builtinLookup_eq_fast];kernel_rfl
section
variable{prog:Program}{w:World}{A:Around}{E:Nz}{s:Shared}
def lR{Q:Option Value->Shared->Prop}(n:s.heap.get? a=some o)(l:o.cls = .type "list")(f:o.data = .seq xs k)(m:o.dict=none)(r:A.handled=none)
  (h:∀h' tk,(∀b o,s.heap.get? b=some o->h'.get? b=some o)->Q none {s with heap:=h',toks:=tk}):wpAny (model prog w) A (getAttr? (.ref a) "keys") Q E s:=by
 let⟨c,q,p,v⟩:=o;simp only at l f m;subst l f m;let⟨t,g,d,tk,u⟩:=s;have hT:∀j,(⟨t,g,d,j,u⟩:Shared).TypeIs (.ref a) "list":=λZ=>⟨_,n,rfl⟩
 have x:=sub_AttributeError;have y:=F.slot_list_getattribute.lookup;have z:=F.slot_list_getattribute.bind (.ref a);have B:=am_list_getattr_none;unfold getAttr? getAttrBy? getAttrBy
 repeat (any_goals (first | assumption | exact hT _ | ((with_reducible show wpAny _ _ (call (Value.builtin "list.__getattribute__") _ _) _ _ _);refine call_meets F.slot_list_getattribute (hT _) am_entry_list_getattribute (F.args_list_getattribute_2 _ _) (meets_getattribute_miss_list a xs k v "keys" _ FP (by decide +kernel) (by decide +kernel)) ⟨n,r,λh' j e i=>?_⟩) | wp_step))
 let⟨D,H,C⟩:=i.there;show wpAny _ _ (getattributeRaised _ _ _ _ _ _ _) _ _ _;unfold getattributeRaised
 repeat (any_goals (first | assumption | wp_step))
 exact h _ _ i.keeps
variable{K:Type}[DecidableEq K]{knd:KeyKind prog w K}
noncomputable def sy(acc:List (K×Value))(ps:List (K×Value)):List (K×Value):=ps.foldl (λacc kv=>stored acc kv.1 kv.2) acc
def EF(acc:List (K×Value))(k:K)(v:Value):⇑(stored acc k v)<=⇑acc+1:=by
 unfold stored;split
 .rw[vt];exact Nat.le_succ _
 .rw[vn];exact vb _
def uY{R:Result->Shared->Prop}{d it l:Addr}{items:L9}{res:Value}(hh:A.handled=none)(k:d≠it)(J:d≠l)(L:it≠l) :
  ∀(ps:List (K×Value)) (i:Nat) (acc:List (K×Value)) (s:Shared),s.heap.IsListIter it l i->s.heap.IsList l items.toArray->(⇑items=i+⇑ps)->
   (∀j kv,ps[j]?=some kv->∃a key,items[i+j]?=↥a/\IsTup s.heap a #[key,kv.2]/\knd.is kv.1 key=true/\a≠d/\a≠it)->s.heap.DictOf knd d acc->⇑acc+⇑ps<=sizeLine->
   (∀h' tk,(∀b o,b≠d->b≠it->s.heap.get? b=some o->h'.get? b=some o)->h'.DictOf knd d (sy acc ps)->R (.ok (.ret res)) {s with heap:=h',toks:=tk})->
   codeAny (model prog w) A (.builtin "dict.update.loop" ⟨[.ref d,.ref it,rawInt i,res],[]⟩) R s:=by
 intro z0
 induction z0 with
 | nil=>
  intro i acc s m u N O D Q y;refine codeAny_builtin xK ?_;rw[Around.under_plainId Zk _];show wpAny _ A.in1 (pyNext (.ref it) >>= _) _ _ s;refine uh (wpAny_pyNext_list_end (A:=A.in1) hh m u (by simp;simp at N;lia) λh' X=>?_);show wpAny _ A.in1 (Builtin.Dict.addKeywords d [] >>= _) _ _ _;refine uh (ug (ug (y h' s.toks (λb o _ C e=>X b o C e) ?_)));exact D.extBut X k
 | cons kv ps ih0=>
  intro i acc s m u N O D Q y;let⟨a,key,ha,ht,hk,a0,B⟩:=O 0 kv rfl;refine codeAny_builtin xK ?_;rw[Around.under_plainId Zk _];show wpAny _ A.in1 (pyNext (.ref it) >>= _) _ _ s;refine uh (wpAny_pyNext_list_item (A:=A.in1) m u (x:=.ref a) #v[ha] λv q W=>?_);let⟨ot,eo,oc,n,od⟩:=ht;have p:v.get? a=some ot:=(W.2 a B).trans eo;show wpAny _ A.in1 (holding [Value.ref a] _ >>= _) _ _ _;refine uh (wpAny_holding ?_);refine uh (wpAny_tryCatch ?_);unfold Builtin.Dict.pairItems;refine uh (wpAny_typeOf (T:="tuple") ⟨_,p,oc⟩ ?_);show wpAny _ A.in1 (if((Value.type "tuple"== Value.type "list")||(Value.type "tuple"== Value.type "tuple"))=true then _ else _) _ _ _;rw[vd nofun];refine uh (wpAny_seqItems p od ?_);refine ug ?_;show wpAny _ A.in1 (holding [key,kv.2] (dictSet d key kv.2)) _ _ _;have E:v.DictOf knd d acc:=D.extBut (λb o C e=>(W.2 b C).trans e) k;refine wpAny_holding (wpAny_dictSet_pairs (s:={s with heap:=v}) hk E (λh2 H t=>?_) (by simp at Q;lia));show wpAny _ A.in1 (again _) _ _ _;refine ug ⟨plainId_quiet Zk _,?_⟩;have S:∀b o,b≠d->b≠it->s.heap.get? b=some o->h2.get? b=some o:=λb o c f e=>(t.2 b c).trans ((W.2 b f).trans e)
  have sl:=EF acc kv.1 kv.2;refine ih0 (i+1) (stored acc kv.1 kv.2) _ (q.at λo e=>(t.2 it k.symm).trans e) (u.at λo e=>S l o J.symm L.symm e) (by simp at N;lia) (λj U hj=>?_) H (by simp at Q;lia) λh3 tk k3 I=>?_
  .let⟨Y,r,z,P,M,g,h⟩:=O (j+1) U #v[hj];let⟨o',Z,r'⟩:=P;exact⟨Y,r,by rw[<-z];congr 1;lia,⟨o',S _ _ g h Z,r'⟩,M,g,h⟩
  .exact y h3 tk (λb o c f e=>k3 b o c f (S b o c f e)) I
end
open PySem PySem.W PyProof.Rows
section
variable{n:Nat}{key:Nat->Int}{p:Array Nat}
noncomputable def Tw(n:Nat)(key:Nat->Int){α:Type}:KasT α->(α->Prop)->Prop
 | .ret a,Q=>Q a
 | .ask i j k,Q=>i<n/\j<n/\Tw n key (k (decide (key i<key j))) Q
theorem Tw.bind{b c:Type}{f:b->KasT c}{Q:c->Prop}:∀{t:KasT b},Tw n key t (λa=>Tw n key (f a) Q)->Tw n key (t.bind f) Q
 | .ret _,h=>h
 | .ask _ _ _,h=>⟨h.1,h.2.1,Tw.bind h.2.2⟩
theorem Tw.mono{d:Type}{Q b:d->Prop}(c:∀a,Q a->b a):∀{t:KasT d},Tw n key t Q->Tw n key t b
 | .ret _,h=>c _ h
 | .ask _ _ _,h=>⟨h.1,h.2.1,Tw.mono c h.2.2⟩
theorem Tw.run{d:Type}{b:Nat->Nat->(Bool->Shared->Prop)->Shared->Prop}{Q:d->Shared->Prop}(c:∀i j C,i<n->j<n->C (decide (key i<key j)) s->b i j C s) :
  ∀{t:KasT d},Tw n key t (λa=>Q a s)->t.kasWp b Q s
 | .ret _,h=>h
 | .ask i j k,h=>c i j _ h.1 h.2.1 (Tw.run c h.2.2)
def Tw.asks{a:Type}{k:Bool->KasT a}{Q:a->Prop}(hi:i<n)(e:j<n)(b:key i<key j->Tw n key (k true) Q)(d:¬key i<key j->Tw n key (k false) Q):Tw n key (.ask i j k) Q:=by
 refine⟨hi,e,?_⟩;by_cases c:key i<key j
 .rw[vG c];exact b c
 .rw[vH c];exact d c
def Pk(n:Nat)(p:Array Nat):Prop:=p.toList.Perm (List.range n)
noncomputable def kv(key:Nat->Int)(p:Array Nat)(i:Nat):Int:=key (p∘i)
def Up(key:Nat->Int)(p:Array Nat)(k:Nat):Prop:=∀i j,i<=j->j<k->kv key p i<=kv key p j
def Dn(key:Nat->Int)(p:Array Nat)(k:Nat):Prop:=∀i j,i<=j->j<k->kv key p j<=kv key p i
def uJ(key:Nat->Int)(p:Array Nat)(m q:Nat):Prop:=∀k,m-(q+1)<=k->k<m->kv key p k=kv key p (m-1)
def Pk.size(h:Pk n p):p.size=n:=by have:=h.length_eq;simpa using this
def Pk.lt(h:Pk n p)(a:0<n)(i:Nat):p∘i<n:=by
 rw[Array.getD_eq_getD_getElem?];cases e:p[i]? with
 | none=>exact a
 | some x=>exact v2.mp (h.mem_iff.mp (Array.mem_toList_iff.mpr (Array.mem_of_getElem? e)))
def Pk.of(h:Pk n p)(a:q.Perm p):Pk n q:=(Array.perm_iff_toList_perm.mp a).trans h
def sL(h:a[i]?=b[j]?):kv key a i=kv key b j:=by
 unfold kv;rw[Array.getD_eq_getD_getElem?,Array.getD_eq_getD_getElem?,h]
def Ak(a:j<=p.size)(k:Nat):kv key (kas_rev p i j) k=if i<=k/\k<j then kv key p (i+j-1-k)else kv key p k:=by
 have h:=getElem?_mirror_all (xs:=p) (i:=i) a k;split
 .rename_i c;rw[vd c]at h;exact sL h
 .rename_i c;rw[vc c]at h;exact sL h
def IW(b:src<p.size)(a:d<=src)(k:Nat):kv key (bubble p src d) k=if k=src-d then kv key p src else if src-d<k/\k<=src then kv key p (k-1)else kv key p k:=by
 have h:=getElem?_bubble (xs:=p) b d a k;split
 .rename_i c;rw[vd c]at h;exact sL h
 .rename_i c;rw[vc c]at h;split
  .rename_i c';rw[vd c']at h;exact sL h
  .rename_i c';rw[vc c']at h;exact sL h
def Up.snoc(h:Up key p m)(d:1<=m)(f:¬kv key p m<kv key p (m-1)):Up key p (m+1):=λi j a g=>by
 by_cases e:j<m
 .exact h i j a e
 .have c:j=m:=⋯
  subst c;by_cases b:i=j
  .rw[b];exact vA _
  .have:=h i (j-1) ⋯ ⋯;lia
def Dn.snoc(h:Dn key p m)(d:1<=m)(f:kv key p m<=kv key p (m-1)):Dn key p (m+1):=λi j a g=>by
 by_cases e:j<m
 .exact h i j a e
 .have c:j=m:=⋯
  subst c;by_cases b:i=j
  .rw[b];exact vA _
  .have:=h i (j-1) ⋯ ⋯;lia
def Dy(d:Pk n p):∀f m,1<=m->m+f<=n->Up key p m->Tw n key (kas_asc p f m) λr=>m<=r/\r<=m+f/\Up key p r/\(r<m+f->kv key p r<kv key p (r-1)):=by
 intro g
 induction g with
 | zero=>
  intro m b e a;exact⟨vb _,vb _,a,λh=>uf h (Nat.lt_irrefl _)⟩
 | succ f ih0=>
  intro m b e a;refine Tw.asks (d.lt ⋯ _) (d.lt ⋯ _) (λc=>?_) (λc=>?_)<;>simp only[Bool.false_eq_true,if_true,if_false]
  .exact⟨vb _,⋯,a,λq=>c⟩
  .exact Tw.mono (λr h=>⟨⋯,⋯,h.2.2.1,λi=>h.2.2.2 ⋯⟩) (ih0 (m+1) ⋯ ⋯ (a.snoc b c))
def BV(b:m<=p.size)(a:uJ key p m q)(k:Nat):kv key (kas_rev p (m-(q+1)) m) k=kv key p k:=by
 rw[Ak b];split
 .rename_i c;rw[a k c.1 c.2,a _ ⋯ ⋯]
 .rfl
def IZ:∀f (p:Array Nat) m q,Pk n p->1<=m->m+f<=n->q+1<=m->Dn key p m->uJ key p m q->
  Tw n key (kas_desc f p m q) λr=>Pk n r.1/\m<=r.2.1/\r.2.1<=m+f/\Dn key r.1 r.2.1/\r.2.2+1<=r.2.1/\uJ key r.1 r.2.1 r.2.2:=by
 intro z
 induction z with
 | zero=>
  intro p m q a g y t b d;exact⟨a,vb _,vb _,b,t,d⟩
 | succ f ih0=>
  intro p m q a g y t b d;have A:=a.size;refine Tw.asks (a.lt ⋯ _) (a.lt ⋯ _) (λc=>?_) (λc=>?_)<;>simp only[Bool.false_eq_true,if_true,if_false]
  .have c:kv key p m<kv key p (m-1):=c;split
   .have u:=BV (key:=key) (p:=p) (m:=m) (q:=q) ⋯ d;have s:Pk n (kas_rev p (m-(q+1)) m):=a.of (mirror_perm _ _ _ _);refine Tw.mono (λr h=>⟨h.1,⋯,⋯,h.2.2.2⟩) (ih0 _ (m+1) 0 s ⋯ ⋯ ⋯ (λi j o x=>?_) λk v w=>?_)
    .rw[u,u];exact b.snoc g ⋯ i j o x
    .rw[show k=m+1-1 by lia]
   .refine Tw.mono (λr h=>⟨h.1,⋯,⋯,h.2.2.2⟩) (ih0 p (m+1) 0 a ⋯ ⋯ ⋯ (b.snoc g ⋯) λk v w=>?_);rw[show k=m+1-1 by lia]
  .have c:¬kv key p m<kv key p (m-1):=c;refine Tw.asks (a.lt ⋯ _) (a.lt ⋯ _) (λl=>?_) (λl=>?_)<;>simp only[Bool.false_eq_true,if_true,if_false]
   .exact⟨a,vb _,Nat.le_add_right m (f+1),b,t,d⟩
   .have l:¬kv key p (m-1)<kv key p m:=l;refine Tw.mono (λr h=>⟨h.1,⋯,⋯,h.2.2.2⟩) (ih0 p (m+1) (q+1) a ⋯ ⋯ ⋯ (b.snoc g ⋯) λk v w=>?_);rw[Nat.add_sub_cancel];by_cases e:k=m
    .rw[e]
    .rw[d k ⋯ ⋯];lia
def Du(c:Pk n p)(d:1<=m)(k:m<=n)(e:Dn key p m):Tw n key (kas_tail3 m n p) λr=>Pk n r.2/\1<=r.1/\r.1<=n/\Up key r.2 r.1:=by
 have l:=c.size;have a:Pk n (kas_rev p 0 m):=c.of (mirror_perm _ _ _ _);have b:=Ak (key:=key) (p:=p) (i:=0) (j:=m) ⋯;refine Tw.bind (Tw.mono (λr h=>?_) (Dy a (n-m) m d ⋯ λi j f g=>?_))
 .exact⟨a,⋯,⋯,h.2.2.1⟩
 .rw[b,b,vd ⟨va _,⋯⟩,vd ⟨va _,g⟩];exact e _ _ ⋯ ⋯
def Dt(t:Pk n p)(u:m+1<=n)(o:Dn key p (m+1)):Tw n key (kas_descPart m n p) λr=>Pk n r.2/\1<=r.1/\r.1<=n/\Up key r.2 r.1:=by
 refine Tw.bind (Tw.mono (λr h=>?_) (IZ (n-(m+1)) p (m+1) 0 t ⋯ ⋯ ⋯ o λk v w=>by rw[show k=m+1-1 by lia]));let⟨a,b,c,d,e,g⟩:=h;have x:=a.size;split
 .have l:=BV (key:=key) (p:=r.1) (m:=r.2.1) (q:=r.2.2) ⋯ g;exact Du (a.of (mirror_perm _ _ _ _)) ⋯ ⋯ λi j f s=>by rw[l,l];exact d i j f s
 .exact Du a ⋯ ⋯ d
def HP(g:Pk n p)(t:1<=n):Tw n key (kas_count n p) λr=>Pk n r.2/\1<=r.1/\r.1<=n/\Up key r.2 r.1:=by
 have y:=g.size;refine Tw.bind (Tw.mono (λr h=>?_) (Dy (key:=key) g (n-1) 1 ⋯ ⋯ λi j l m=>by rw[show i=j by lia];exact vA _));let⟨a,b,c,d⟩:=h;split
 .exact⟨g,a,⋯,c⟩
 rename_i hne;have w:r<n:=by
  have:r≠n:=λe=>hne (by rw[e];simp)
  lia
 have d:=d ⋯;split
 .refine Tw.asks (g.lt ⋯ _) (g.lt ⋯ _) (λq=>?_) (λq=>?_)<;>simp only[Bool.false_eq_true,if_true,if_false]
  .exact⟨g,a,⋯,c⟩
  .have q:¬kv key p 0<kv key p (r-1):=q;have v:=Ak (key:=key) (p:=p) (i:=0) (j:=r) ⋯;have f:∀i,i<r->kv key p i=kv key p (r-1):=λi u=>by
    have t:=c 0 i (va _) u;have x:=c i (r-1) ⋯ ⋯;lia
   have k:∀i,kv key (kas_rev p 0 r) i=kv key p i:=λi=>by
    rw[v];split
    .rename_i q';rw[f _ q'.2,f _ ⋯]
    .rfl
   refine Dt (g.of (mirror_perm _ _ _ _)) ⋯ λi j l m=>?_
   rw[k,k];by_cases e:j=r
   .by_cases o:i=r
    .rw[e,o];exact vA _
    .rw[e,f i ⋯];lia
   .rw[f i ⋯,f j ⋯];exact vA _
 .have s:r=1:=⋯
  subst s;refine Dt g ⋯ λi j l m=>?_
  rcases(by lia:(i=0/\j=0)\/(i=0/\j=1)\/(i=1/\j=1))with⟨rfl,rfl⟩ | ⟨rfl,rfl⟩ | ⟨rfl,rfl⟩
  .exact vA _
  .have:kv key p 1<kv key p (1-1):=d;exact Int.le_of_lt this
  .exact vA _
def HQ(e:Pk n p)(s:k<n)(g:Up key p k):∀f l r,l<=r->r<=k->r-l<=f->(∀i,i<l->kv key p i<=kv key p k)->(∀i,r<=i->i<k->kv key p k<kv key p i)->
  Tw n key (kas_place p k f l r) λm=>m<=k/\(∀i,i<m->kv key p i<=kv key p k)/\∀i,m<=i->i<k->kv key p k<kv key p i:=by
 intro t
 induction t with
 | zero=>
  intro l r h d j a b;exact⟨⋯,a,λi c=>b i ⋯⟩
 | succ f ih0=>
  intro l r h d j a b;unfold kas_place;split
  .exact⟨⋯,a,λi c=>b i ⋯⟩
  refine Tw.asks (e.lt ⋯ _) (e.lt ⋯ _) (λq=>?_) (λq=>?_)<;>simp only[Bool.false_eq_true,if_true,if_false]
  .have q:kv key p k<kv key p ((l+r)/2):=q;exact ih0 l _ ⋯ ⋯ ⋯ a λi c o=>by
    have:=g ((l+r)/2) i c o;lia
  .have q:¬kv key p k<kv key p ((l+r)/2):=q;exact ih0 _ r ⋯ d ⋯ (λi c=>by
    have:=g i ((l+r)/2) ⋯ ⋯;lia) b
def Lj:∀f (p:Array Nat) k,Pk n p->k+f<=n->Up key p k->Tw n key (kas_bin f p k) λq=>Pk n q/\Up key q (k+f):=by
 intro v
 induction v with
 | zero=>
  intro p k e u g;exact⟨e,g⟩
 | succ f ih0=>
  intro p k e u g;have x:=e.size;refine Tw.bind (Tw.mono (λl h=>?_) (HQ e ⋯ g k 0 k (va _) (vb _) ⋯ (λi s=>uf s (Nat.not_lt_zero _)) λi m r=>uf m ⋯));let⟨a,b,c⟩:=h;have o:=IW (key:=key) (p:=p) (src:=k) (d:=k-l) ⋯ ⋯;refine Tw.mono (λq h=>⟨h.1,by rw[show k+(f+1)=k+1+f by lia];exact h.2⟩) (ih0 _ (k+1) (e.of (bubble_perm _ _ _)) ⋯ λi j t w=>?_);rw[o,o,show k-(k-l)=l by lia]
  repeat' split
  all_goals first
   | exact vA _
   | (exfalso;lia)
   | exact Int.le_of_lt (c _ ⋯ ⋯)
   | exact b _ ⋯
   | exact g _ _ ⋯ ⋯
   | (have m:=b i ⋯;have r:=c (j-1) ⋯ ⋯;lia)
def I0(f:1<=n):Tw n key (kas_sort n) λq=>Pk n q/\Up key q n:=by
 have g:Pk n (List.toArray (List.range n)):=List.Perm.refl _;refine Tw.bind (Tw.mono (λr h=>?_) (HP (key:=key) g f));let⟨a,b,c,d⟩:=h;split
 .refine Tw.mono (λq h=>⟨h.1,?_⟩) (Lj (n-max r.1 1) r.2 (max r.1 1) a ⋯ (by rw[show max r.1 1=r.1 by lia];exact d));have e:max r.1 1+(n-max r.1 1)=n:=⋯
  rw[e]at h;exact h.2
 .have e:r.1=n:=⋯
  exact⟨a,by rw[<-e];exact d⟩
end
section
variable{prog:Program}{w:World}{A:Around}{E:Nz}{s:Shared}
def i9(h:Heap)(as:L7)(key:Nat->Int):Prop:=∀i a,as[i]?=some a->∃o t u n,h.get? a=some o/\o.cls = .type "tuple"/\o.data = .seq #[.int (key i) t,u] n
def i9.keep{key:Nat->Int}(x:i9 h as key)(k:∀a∈as,∀o,h.get? a=some o->h'.get? a=some o):i9 h' as key:=λi a e=>by
 let⟨o,t,u,n,q,r⟩:=x i a e;exact⟨o,t,u,n,k a (vm e) _ q,r⟩
def Lh{key:Nat->Int}(x:i9 s.heap as key)(d:∀i j,i<⇑as->j<⇑as->key i=key j->i=j){C:Bool->Shared->Prop}(hi:i<⇑as)(b:j<⇑as)
  (h:C (decide (key i<key j)) s):kas_ask prog w A (tuples' true) (as.map Value.ref) i j C s:=by
 unfold kas_ask;let⟨o,t,u,n,k,B,f⟩:=x i _ (vz hi);let⟨y,z,m,E,l,D,g⟩:=x j _ (vz b);have p:(as.map Value.ref).getD i Value.none = .ref as[i]:=by rw[vy,vv,vz hi];rfl
 have q:(as.map Value.ref).getD j Value.none = .ref as[j]:=by rw[vy,vv,vz b];rfl
 rw[p,q];refine kat_lt k f l g ?_;show KatLex prog w A true _ C [(.int (key i) t,.int (key j) z),(u,m)] 0 s;refine kat_cons (wpAny_eqBool_int ?_);by_cases c:key i=key j
 .have v:=d i j hi b c;subst v;rw[beq_self_eq_true];have r:u=m:=by
   have e:o=y:=vL (k.symm.trans l);subst e;have e:=f.symm.trans g;injection e with e _;have:=congrArg (λa:Array Value=>a[1]?) e;simpa using this
  subst r;refine kat_yes (kat_cons (SeqAt.EqAt.same _ _ _ _ _ ?_));refine kat_yes (kat_nil ?_);rw[vH (Int.lt_irrefl _)]at h;exact h
 .rw[beq_false_of_ne c];exact kat_no (oneLt_int h)
theorem B9{key:Nat->Int}:∀{as:L7} (_:i9 h as key),∃fs,KatTups h (as.map Value.ref) fs/\⇑fs=⇑as/\∀v∈fs,∃n t,v=Value.int n t
 | [],_=>⟨[],KatTups.nil,rfl,λv g=>nomatch g⟩
 | a::r,x=>by
  let⟨o,t,u,n,q,c,d⟩:=x 0 a rfl;let⟨fs,k,l,f⟩:=B9 (key:=λi=>key (i+1)) (as:=r) λi b e=>x (i+1) b #v[e]
  refine⟨.int (key 0) t::fs,KatTups.cons q c d rfl k,by rw[vP,l,vP],λv g=>?_⟩;rcases mem_cons.mp g with rfl | g
  .exact⟨_,_,rfl⟩
  .exact f v g
def HU(vs:L9):(vs.toArray.zip vs.toArray).map (·.2)=vs.toArray:=by
 apply Array.toList_inj.mp;rw[Array.toList_map,Array.toList_zip];exact List.map_snd_zip (vb _)
def E3(vs:L9):(List.range ⇑vs).map (λi=>vs.getD i Value.none)=vs:=by
 refine ext_getElem (by simp) λi b a=>?_
 rw[getElem_map,getElem_range,vy,vz a];rfl
def GP:∀{l:L5},⇑l<2->l.Pairwise (·<=·)
 | [],_=>.nil
 | [_],_=>pairwise_singleton _ _
 | _::_::_,h=>uf h (by rw[vP,vP];lia)
def Hx{key:Nat->Int}{P:PySem.Fin->Shared->Prop}(d:s.heap.get? a=some (seqObj "list" (as.map Value.ref).toArray c0))(U:a∉as)(x:i9 s.heap as key)
  (W:∀i j,i<⇑as->j<⇑as->key i=key j->i=j) (R:⇑as<64)
  (D:∀(q:L6) (h':Heap) (c:Nat),q.Perm (List.range ⇑as)->(q.map key).Pairwise (·<=·)->(∀b o,b≠a->s.heap.get? b=some o->h'.get? b=some o)->
   h'.get? a=some (seqObj "list" ((q.map λi=>as∘i).map Value.ref).toArray c)->P (.done (.ret .none)) {s with heap:=h'}) :
  wpAny (model prog w) A (Builtin.«list.sort» ⟨[.ref a],[]⟩) P E s:=by
 have a5:a<s.heap.objs.size:=vI d;obtain⟨u,k⟩:∃u,(s.heap.update a (Obj.mapSeq λ_=>(#[]:Array Value))).get? a=some (seqObj "list" #[] u):=⟨_,get?_update_seq d λ_=>#[]⟩
 have Y:=Heap.SameBut.update s.heap a (Obj.mapSeq λ_=>(#[]:Array Value));rw[list_sort_plain];refine uh (listItems_at (s:=s) d rfl ?_);refine uh (listUpdate_at (s:=s) d rfl ?_ (by rw[size_toArray,vt,sizeLine_eq];lia) (va _));refine uh (seqEpoch_at (n:=u) k rfl ?_);refine uh (wpAny_newTuple ?_ (by show(as.map Value.ref).length<=_;rw[vt,sizeLine_eq];lia));refine uh (wpAny_newList ?_ (va (sizeLine)));refine wpAny_holding ?_;generalize Z:((s.heap.update a (Obj.mapSeq λ_=>(#[]:Array Value))).push (seqObj "tuple" (as.map Value.ref).toArray 0)).push (seqObj "list" #[] 0)=hX;have kX:∀b o,b≠a->s.heap.get? b=some o->hX.get? b=some o:=λb o y e=>by
  rw[<-Z];exact vJ _ (vJ _ ((Y.2 b y).trans e))
 have H:hX.get? a=some (seqObj "list" #[] u):=by
  rw[<-Z];exact vJ _ (vJ _ k)
 have xX:i9 hX as key:=x.keep λb y o e=>kX b o (λz=>U (z▸y)) e
 show wpAny (model prog w) A _ P E {s with heap:=hX};dsimp only;have L:(as.map Value.ref).toArray.size=⇑as:=by rw[size_toArray,vt]
 have I:∀q:L6,q.Perm (List.range ⇑as)->(List.map (λi=>(as.map Value.ref).getD i Value.none) q)=(q.map λi=>as∘i).map Value.ref:=λq N=>by
  rw[v4];refine map_congr_left λi B=>?_
  have hl:i<⇑as:=v2.mp (N.mem_iff.mp B);show(as.map Value.ref).getD i Value.none=Value.ref (as∘i);rw[vy,vy,vv,vz hl];rfl
 have g:∀(q:L6),q.Perm (List.range ⇑as)->(q.map key).Pairwise (·<=·)->∀r:Array Value,r=(List.map (λi=>(as.map Value.ref).getD i Value.none) q).toArray->
   P (.done (.ret .none)) {s with heap:=hX.update a (Obj.mapSeq λ_=>r)}:=λq N hs r ho=>by
  subst ho;have o2:=get?_update_seq H λ_=>(List.map (λi=>(as.map Value.ref).getD i Value.none) q).toArray
  have K:=Heap.SameBut.update hX a (Obj.mapSeq λ_=>(List.map (λi=>(as.map Value.ref).getD i Value.none) q).toArray);rw[I q N]at o2 K|-;exact D q _ _ N hs (λb o y e=>(K.2 b y).trans (kX b o y e)) o2
 by_cases l:(as.map Value.ref).toArray.size<2
 .rw[vd l,vd l];refine uh (ug ?_);rw[StateT.run_pure];refine uh (ug ?_);dsimp only;refine uh (seqEpoch_at (n:=u) H rfl ?_);have eo:(arrOf (SortSt.mk' general' ((as.map Value.ref).toArray.zip (as.map Value.ref).toArray) #[] 7 none)).map (·.2)=(List.map (λi=>(as.map Value.ref).getD i Value.none) (List.range ⇑as)).toArray:=by
   have e:=E3 (as.map Value.ref);rw[vt]at e;rw[e];exact HU _
  rw[eo];refine uh (listUpdate_at (s:={s with heap:=hX}) H rfl ?_ (va _) (by rw[size_toArray,vt,length_range,sizeLine_eq];lia));simp only[bne_self_eq_false,Bool.false_eq_true,if_false];refine ug (g (List.range ⇑as) (List.Perm.refl _) ?_ _ rfl);rw[L]at l;exact GP (by rw[vt,length_range];exact l)
 .rw[vc l,vc l];rw[L]at l;let⟨fs,kt,kl,ki⟩:=B9 xX;have a0:hX=({s with heap:=hX}:Shared).heap:=rfl;refine uh (kat_kind (s:={s with heap:=hX}) (T:=Value.type "int") kt ⋯ (λv hv=>?_) nofun ?_)
  .let⟨m,t,rfl⟩:=ki v hv;exact Looks.of_pure rfl
  refine uh (wpAny_mono (kat_run (s:={s with heap:=hX}) (ks:=as.map Value.ref) (vs:=as.map Value.ref) (κ:=tuples' true) (Q:=λf J=>∃p:Array Nat,Pk ⇑as p/\Up key p ⇑as/\arrOf f=p.map (kas_item ((as.map Value.ref).toArray.zip (as.map Value.ref).toArray))/\failedOf f=none/\J={s with heap:=hX}) (G:=λp J=>Pk ⇑as p/\Up key p ⇑as/\J={s with heap:=hX})
   rfl (by rw[vt];lia) (by rw[vt];exact R) (λp f J _ a2 a3 O=>⟨p,O.1,O.2.1,a2,a3,O.2.2⟩) ?_) ?_ λ_ _ e=>e)
  .rw[vt];exact Tw.run (n:=⇑as) (key:=key) (λi j C B M hC=>Lh xX W B M hC) (Tw.mono (λq h=>⟨h.1,h.2,rfl⟩) (I0 (key:=key) ⋯))
  rintro⟨⟨⟩,f⟩ J ⟨p,hp,hu,S,hf,rfl⟩;dsimp only;rw[kat_snds rfl S];refine uh (seqEpoch_at (n:=u) H rfl ?_);have X:=hp.size;refine uh (listUpdate_at (s:={s with heap:=hX}) H rfl ?_ (va _) (by rw[size_toArray,vt,Array.length_toList,X,sizeLine_eq];lia));rw[hf];simp only[bne_self_eq_false,Bool.false_eq_true,if_false];refine ug (g p.toList hp ?_ _ rfl);refine pairwise_map.mpr (pairwise_iff_getElem.mpr λi j B M a1=>?_);rw[Array.length_toList]at B M;have:=hu i j ⋯ ⋯;unfold kv at this;rw[Array.getD_eq_getD_getElem?,Array.getD_eq_getD_getElem?,Array.getElem?_eq_getElem B,Array.getElem?_eq_getElem M]at this;exact this
end
open PySem PySem.Spec PySem.W PyProof.Rows
section
variable{X:Cx}{pins:Ny}{σ:St}{H:Hp}{s:Shared}
def nv(X:Cx)(pins:Ny)(T:Addr):Prop:=X.s₀.heap.objs.size<=T/\T≠X.env.locals/\(∀x c,X.env.cells.lookup x=some c->c≠T)/\∀p∈X.pn++pins,p.1≠T
def Inv.AR(I:Inv X pins σ H s)(hT:s.heap.objs.size<=T):nv X pins T:=by
 let⟨q,a,q,q,b,c⟩:=I.gC (H':=λq=>none) hT rfl;exact⟨vV I.sz hT,a,b,c⟩
def cD.obj(x:cD P w H h a o):∃u,h.get? a=some u:=by
 cases o with
 | lst xs=>let⟨q,q,q,q,e⟩:=x;exact⟨_,e⟩
 | tup xs=>let⟨q,q,q,u,e,q⟩:=x;exact⟨u,e⟩
 | dK kvs=>let⟨q,q,q,q,u,q,q,e,q⟩:=x;exact⟨u,e⟩
 | dT kvs=>let⟨q,q,q,q,u,q,q,e,q⟩:=x;exact⟨u,e⟩
 | set S n=>let⟨u,q,q,q,e,q⟩:=x;exact⟨u,e⟩
 | ins C dx fs=>let⟨q,q,q,e,q⟩:=x;exact⟨_,e⟩
 | own y=>exact x
 | xd fs=>let⟨q,⟨u,q,q,e,q⟩,q⟩:=x;exact⟨u,e⟩
 | uH lo hi=>let⟨q,q,q,e⟩:=x;exact⟨_,e⟩
 | gD u v=>exact⟨_,x.1⟩
 | pM ps=>exact⟨_,x⟩
 | met f y=>exact⟨_,x⟩
 | ext φ=>exact x.2.1
def Inv.lZ{a:Heap}(I:Inv X pins σ H s)(c:∀b o,s.heap.get? b=some o->a.get? b=some o):H a.objs.size=none:=by
 cases e:H a.objs.size with
 | none=>rfl
 | some u=>
  let⟨v,q⟩:=(I.cJ _ _ e).obj;exact uf (vI (c _ _ q)) (Nat.lt_irrefl _)
def Inv.sV{a:Heap}(I:Inv X pins σ H s)(h:∀b o,s.heap.get? b=some o->a.get? b=some o):nv X pins a.objs.size:=by
 have f:∀b o,s.heap.get? b=some o->b<a.objs.size:=λb o e=>vI (h b o e)
 let⟨m,⟨o,q,q,d,q⟩,q⟩:=I.loc;have g:=f _ _ d;refine⟨vX (vD I.ok.above g),vN g,λx c e=>?_,λp i=>vE (f _ _ (I.pin p i).1)⟩;let⟨v,o,d,q⟩:=I.cell x c e;exact vE (f _ _ d)
def Inv.pO(I:Inv X pins σ H s)(h:H T=none)(d:nv X pins T)(g:cD X.prog X.w (upd H T o) s.heap T o):Inv X pins σ (upd H T o) s:=by
 have a:∀b u,H b=some u->b≠T:=λb u e z=>by rw[z,h]at e;cases e
 refine I.step (h':=s.heap) (H':=upd H T o) (g':=s.gens) (d':=s.drawn) (t':=s.toks) (ch:=[T]) (λb f=>?_) (λb o Z Z Z e Z=>e) (λb o Z Z Z e Z=>⟨o.slots,e⟩) (λb u f Z n=>?_) (λb u Z e=>⟨u,e⟩)
  (λb k e=>(jg (a _ _ e)).trans e) (λb u v e=>(jg (a _ _ e)).trans e) (λb j e=>⟨#[],by rw[jg (a _ _ e),e];simp⟩) (λm i=>i) (λb u e=>?_) I.bare
 .have e:b=T:=by simpa using f
  subst e;exact⟨.inr d.1,d.2.1,d.2.2.1,d.2.2.2⟩
 .exact(jg λz=>f (by simp[z])).trans n
 .by_cases z:b=T
  .subst z;rw[jw]at e;cases e;exact g
  .rw[jg z]at e;exact(I.cJ b u e).i5 (λc v Z q=>q) (λc q=>(jg (a _ _ q)).trans q) λc l q=>(jg (a _ _ q)).trans q
def Inv.nX:∀(f:List (Addr×HO)) {H:Hp},Inv X pins σ H s->(∀p∈f,H p.1=none/\nv X pins p.1/\∀H',cD X.prog X.w H' s.heap p.1 p.2)->(f.map (·.1)).Nodup->∃H',Inv X pins σ H' s/\bX H H'/\∀p∈f,H' p.1=some p.2:=by
 intro t
 induction t with
 | nil=>
  intro H I Z Z;exact⟨H,I,bX.refl _,λp d=>nomatch d⟩
 | cons w r ih0=>
  intro H I h e;let⟨a,b,c⟩:=h w vq;rw[v7,ur]at e;have i:=I.pO a b (c _);let⟨H',j,g,n⟩:=ih0 i (λp d=>by
   let⟨k,l,m⟩:=h p (vp _ d);exact⟨(jg λz:p.1=w.1=>e.1 (by rw[<-z];exact vK.mpr ⟨p,d,rfl⟩)).trans k,l,m⟩) e.2
  have o:bX H (upd H w.1 w.2):=λb u q=>(jg (je q a)).trans q
  refine⟨H',j,o.trans g,λp d=>?_⟩;rcases mem_cons.mp d with rfl | d
  .exact g _ _ jw
  .exact n p d
end
section
variable{X:Cx}
def tV:∀as:L7,Vals (as.map V.ref) (as.map Value.ref):=by
 intro a
 induction a with
 | nil=>
  exact .nil
 | cons _ r ih0=>
  exact .cons rfl (ih0)
def KV.get{κ:Type}:∀{kvs:List (κ×V)} {vs:List (κ×Value)} {i:Nat} {p:κ×V},KV kvs vs->kvs[i]?=some p->∃q,vs[i]?=some q/\p.1=q.1/\RelV p.2 q.2:=by
 intro kvs vs i p h e
 induction h generalizing i with
 | nil=>simp at e
 | cons r t ih=>cases i with
  | zero=>simp at e;subst e;exact⟨_,rfl,r⟩
  | succ i=>exact ih #v[e]
def ES:rY X "dict.update" (λx vs H Q=>∃d o kvs more,x = .ref d/\vs=[.ref o]/\H d=some (.dK kvs)/\H o=some (.dK more)/\d≠o/\⇑kvs+⇑more<=sizeLine/\Q .cW (upd H d (.dK (cS kvs more)))):=by
 intro l s K H x vs v D Q I B A h;let⟨d,o,kvs,more,rfl,rfl,k,p,g,y,q⟩:=h;cases B;let⟨u,rfl,z⟩:=vals1 A;cases z;let⟨E,e,i,m,b⟩:=xI I.cJ k;let⟨J,f,j,n,c⟩:=xI I.cJ p;refine call_meetsIn PySem.F.slot_dict_update b.typeIs PySem.F.entry_dict_update (PySem.F.args_dict_update_2 _ _) (meets_dict_update (cn X.prog X.w) d o g f) ⟨i,j,b,c,by rw[<-⇑m,<-⇑n];exact y,λr a Z w=>?_⟩;have t:∃q,r.get? d=some q:=let ⟨q,_,_,hq,_⟩:=a;⟨q,hq⟩;have C:=zn more kvs;exact⟨.cW,_,XG (t':=s.toks) I (by rw[k];exact True.intro) w t (WC ⋯ e (n.merge m) a),rfl,q⟩
noncomputable def lU(v d:Addr):HO:=.ext λh=>h.get? v=some {cls:=.type "dict_items",data:=.fields #[.ref d]}
def Gh:rY X "dict.items" (λx vs H Q=>∃d kvs,x = .ref d/\vs=[]/\H d=some (.dK kvs)/\∀v,H v=none->Q (.ref v) (upd H v (lU v d))):=by
 intro i s y H x vs v t Q I m l h;let⟨d,kvs,rfl,rfl,j,q⟩:=h;cases m;have f:=l.zero;subst f;let⟨w,c,g,r,a⟩:=xI I.cJ j;refine call_meetsIn PySem.F.slot_dict_items a.typeIs PySem.F.entry_dict_items (PySem.F.args_dict_items_1 (.ref d)) (meets_dict_items (cn X.prog X.w) d c) ⟨⟨g,a⟩,?_⟩;have e:(s.heap.push {cls:=.type "dict_items",data:=.fields #[.ref d]}).get? s.heap.objs.size=some {cls:=.type "dict_items",data:=.fields #[.ref d]}:=Heap.get?_push_size _ rfl;exact⟨.ref s.heap.objs.size,_,I.laid (t':=s.toks) (o:=lU s.heap.objs.size d) (λb u q=>vJ _ q) (vb _) (show cD X.prog X.w _ _ _ (lU s.heap.objs.size d)from⟨e,⟨_,e⟩,λn p q k=>k _ q⟩),rfl,q _ (I.cJ.fresh (vb _))⟩
noncomputable def hG(p:Int×Int):Key×V:=(Sum.inl p.1,.int p.2)
def XA(hc:X.calm=true):dw X (.builtin "sorted") (λxs H Q=>∃(v d:Addr) (kvs:Nq),xs=[.ref v]/\H v=some (lU v d)/\H d=some (.dK (kvs.map hG))/\⇑kvs<64/\
  ∀(l:Addr) (as:L7) (T:Nq) (H':Hp),bX H H'->H l=none->H' l=some (.lst (as.map V.ref))->(∀a∈as,H a=none)->T.Perm kvs->(T.map (·.1)).Pairwise (·<=·)->⇑as=⇑T->(∀(i:Nat) (a:Addr) (p:Int×Int),as[i]?=some a->T[i]?=some p->H' a=some (.tup [.int p.1,.int p.2]))->Q (.ref l) H'):=by
 intro y s σ H xs us Q I r h;let⟨v,d,kvs,rfl,ev,ed,a0,q⟩:=h;let⟨u,rfl,ru⟩:=vals1 r;cases ru;let⟨z1,a5,P,r1,K⟩:=xI I.cJ ed;have hv:s.heap.get? v=some {cls:=.type "dict_items",data:=.fields #[.ref d]}:=(I.cJ v _ ev).1;let⟨ep,da⟩:=K.dictAt;have lv:=⇑r1;rw[vt]at lv;have nd:(kvs.map (·.1)).Nodup:=by
  have U:(P.map (·.1)).Nodup:=let ⟨_,_,_,_,_,_,_,_,hn⟩:=K;hn;rw[<-r1.keys,v4]at U;refine pairwise_map.mpr ((pairwise_map.mp U).imp λ{a b} h e=>h ?_);show(Sum.inl a.1:Key)=Sum.inl b.1;rw[e]
 refine Calls.call_function_entry kind_sorted plain_sorted entry_sorted (args_sorted1 (.ref v)) ?_;unfold Builtin.«sorted»;refine uh (m:=checkCount "sorted" 1 1 1) (ug ?_);refine uh (kdx_collect (knd:=cn X.prog X.w) (kvs:=P) (ep:=ep) (A:=X.A.in1) (I.ok.hd hc) ⟨_,hv,rfl,rfl⟩ da (by rw[<-lv,sizeLine_eq];lia) λg tk as S C L=>?_);rw[<-lv]at C;refine uh (wpAny_newList ?_ (by rw[vt,C,sizeLine_eq];lia));have M:(g.push (seqObj "list" (as.map Value.ref).toArray 0)).get? g.objs.size=some (seqObj "list" (as.map Value.ref).toArray 0):=Heap.get?_push_size _ rfl;have D:g.objs.size∉as:=λz=>Nat.lt_irrefl _ (L.there z)
 have E:∀i p,kvs[i]?=some p->(λi=>(kvs.getD i (0,0)).1) i=p.1/\(λi=>(kvs.getD i (0,0)).2) i=p.2:=λi p e=>by
  dsimp only;rw[vy,e];exact⟨rfl,rfl⟩
 have xQ:∀i a,as[i]?=some a->∃t u,(g.push (seqObj "list" (as.map Value.ref).toArray 0)).get? a=some {cls:=.type "tuple",data:=.seq #[.int ((λi=>(kvs.getD i (0,0)).1) i) t,.int ((λi=>(kvs.getD i (0,0)).2) i) u]}:=λi a e=>by
  let⟨ky,k,x,R,w,e3⟩:=L.pairs i a e;have f:i<⇑kvs:=by rw[<-C];exact(vx.mp e).1
  let⟨w',e4,a4⟩:=KV.get r1 (i:=i) (p:=hG kvs[i]) (by rw[vv,vz f];rfl);rw[R]at e4;cases e4;let⟨ek,W,ex⟩:=a4;have Y:k=Sum.inl kvs[i].1:=ek.symm;subst Y;have Z:x = .int kvs[i].2 W:=ex;subst Z;let⟨g1,g2⟩:=E i _ (vz f);rw[show(λi=>(kvs.getD i (0,0)).1) i=kvs[i].1 from g1,show(λi=>(kvs.getD i (0,0)).2) i=kvs[i].2 from g2];rcases JU (show fP (Sum.inl kvs[i].1) ky=true from w)with⟨n,t,q1,q2⟩ | ⟨n,t,q1,q2⟩
  .cases q1;subst q2;exact⟨t,W,vJ _ e3⟩
  .cases q1
 have xP:i9 (g.push (seqObj "list" (as.map Value.ref).toArray 0)) as (λi=>(kvs.getD i (0,0)).1):=λi a e=>by
  let⟨t,u,z⟩:=xQ i a e;exact⟨_,t,_,_,z,rfl,rfl⟩
 have a1:∀i j,i<⇑as->j<⇑as->(λi=>(kvs.getD i (0,0)).1) i=(λi=>(kvs.getD i (0,0)).1) j->i=j:=λi j f B e=>by
  rw[C]at f B;let⟨g1,_⟩:=E i _ (vz f);let⟨g2,_⟩:=E j _ (vz B);rw[g1,g2]at e;rcases Nat.lt_trichotomy i j with z | z | z
  .exact uf e (by have:=pairwise_iff_getElem.mp nd i j (by rw[vt];exact f) (by rw[vt];exact B) z;simpa using this)
  .exact z
  .exact uf e.symm (by have:=pairwise_iff_getElem.mp nd j i (by rw[vt];exact B) (by rw[vt];exact f) z;simpa using this)
 refine uh (wpAny_holding (wpAny_call_entry slot_list_sort ⟨_,M,rfl⟩ entry_list_sort (Hx (s:={s with heap:=g.push (seqObj "list" (as.map Value.ref).toArray 0),toks:=tk}) M D xP a1 (by rw[C];exact a0) λO J c hq hs kk o2=>⟨_,rfl,?_⟩) (args_list_sort _)));refine ug ⟨_,rfl,?_⟩;have a2:∀b o,s.heap.get? b=some o->b<g.objs.size:=λb o e=>vI (S b o e)
 have k2:∀b o,s.heap.get? b=some o->J.get? b=some o:=λb o e=>kk b o (vE (a2 b o e)) (vJ _ (S b o e))
 have I2:Inv X y σ H {s with heap:=J,toks:=tk}:=I.kept (t':=tk) k2;have hB:H g.objs.size=none:=I.lZ S;have nB:=I.sV S;have ha:∀a∈as,H a=none/\nv X y a:=λa h=>⟨I.cJ.fresh (vX (L.above a h)),I.AR (vX (L.above a h))⟩
 have N:∀i∈O,i<⇑as:=λi f=>v2.mp (hq.mem_iff.mp f)
 have a3:(((g.objs.size,HO.lst ((O.map λi=>as∘i).map V.ref))::(List.range ⇑as).map λi=>(as∘i,HO.tup [.int (kvs.getD i (0,0)).1,.int (kvs.getD i (0,0)).2])).map (·.1)).Nodup:=by
  rw[v7,ur,v4];have w:(List.range ⇑as).map (Function.comp (λx=>x.1) λi=>(as∘i,HO.tup [.int (kvs.getD i (0,0)).1,.int (kvs.getD i (0,0)).2]))=as:=ext_getElem (by simp) λi g J=>by
   rw[getElem_map,getElem_range];show as∘i=_;rw[vy,vz J];rfl
  rw[w];exact⟨D,L.rise.imp λh=>vE h⟩
 let⟨H',I3,s3,k3⟩:=I2.nX ((g.objs.size,HO.lst ((O.map λi=>as∘i).map V.ref))::(List.range ⇑as).map λi=>(as∘i,HO.tup [.int (kvs.getD i (0,0)).1,.int (kvs.getD i (0,0)).2])) (λp hp=>by
  rcases mem_cons.mp hp with rfl | hp
  .refine⟨hB,nB,λH'=>⟨?_,_,c,tV _,o2⟩⟩;rw[vt,vt,hq.length_eq,length_range,C,sizeLine_eq];lia
  .let⟨i,f,rfl⟩:=vK.mp hp;have f:=v2.mp f;have e:as[i]?=some (as∘i):=by rw[vy,vz f];rfl
   let⟨t1,W,eo⟩:=xQ i _ e;have hm:=vm e;let⟨U,n2⟩:=ha _ hm;exact⟨U,n2,λH'=>⟨(by show 2<=sizeLine;decide),[_,_],.cons ⟨t1,rfl⟩ (.cons ⟨W,rfl⟩ .nil),⟨_,kk _ _ (λz=>D (z▸hm)) eo,rfl,_,rfl⟩⟩⟩) a3
 .refine⟨.ref g.objs.size,H',I3,rfl,q g.objs.size (O.map λi=>as∘i) (O.map λi=>kvs.getD i (0,0)) H' s3 hB (k3 _ vq) (λa h=>?_) ?_ ?_ (by rw[vt,vt]) λi a p R w=>?_⟩
  .let⟨i,f,rfl⟩:=vK.mp h;have e:as[i]?=some (as∘i):=by rw[vy,vz (N i f)];rfl
   exact(ha _ (vm e)).1
  .have e:=hq.map λi=>kvs.getD i (0,0)
   rw[C]at e;have w:(List.range ⇑kvs).map (λi=>kvs.getD i (0,0))=kvs:=ext_getElem (by simp) λi g J=>by
    rw[getElem_map,getElem_range,vy,vz J];rfl
   rw[w]at e;exact e
  .rw[v4];exact hs
  .rw[vv]at R w;let⟨j,B,rfl⟩:=vg.mp R;rw[B]at w;cases w;exact k3 _ (vp _ (vK.mpr ⟨j,v2.mpr (N j (vm B)),rfl⟩))
end
def Y1:∀{as:L7} {us:L9},Vals (as.map V.ref) us->us=as.map Value.ref:=by
 intro b
 induction b with
 | nil=>
  intro q r;cases r;rfl
 | cons a as ih0=>
  intro q r;cases r with
  | cons r1 r2=>rw[ih0 r2,show _=Value.ref a from r1];rfl
theorem BI:∀{as:L7} {kvs:Nq},⇑as=⇑kvs->(∀(i:Nat) (a:Addr) (q:Int×Int),as[i]?=some a->kvs[i]?=some q->∃t u,IsTup h a #[.int q.1 t,.int q.2 u])->
  ∃ps:List (Key×Value),KV (kvs.map hG) ps/\⇑ps=⇑kvs/\∀(j:Nat) (kv:Key×Value),ps[j]?=some kv->∃a key,as[j]?=some a/\IsTup h a #[key,kv.2]/\fP kv.1 key=true
 | [],[],_,_=>⟨[],.nil,rfl,λj kv e=>by simp at e⟩
 | [],_::_,l,_=>by simp at l
 | _::_,[],l,_=>by simp at l
 | a::as,q::kvs,l,f=>by
  let⟨ps,o,p,r⟩:=BI (as:=as) (kvs:=kvs) #v[l] λi a q m n=>f (i+1) a q #v[m] #v[n]
  let⟨t,u,e⟩:=f 0 a q rfl rfl;refine⟨(Sum.inl q.1,.int q.2 u)::ps,.cons ⟨rfl,u,rfl⟩ o,by rw[vP,p,vP],λj kv c=>?_⟩;cases j with
  | zero=>simp at c;subst c;exact⟨a,_,rfl,e,wo _ _⟩
  | succ j=>let⟨b,s,d,g,k⟩:=r j kv #v[c];exact⟨b,s,#v[d],g,k⟩
section
variable{X:Cx}
def Wx(K:X.calm=true):dw X (.type "dict") (λxs H Q=>∃(p:Addr) (as:L7) (kvs:Nq),xs=[.ref p]/\H p=some (.lst (as.map V.ref))/\⇑as=⇑kvs/\
  (∀(i:Nat) (a:Addr) (q:Int×Int),as[i]?=some a->kvs[i]?=some q->H a=some (.tup [.int q.1,.int q.2]))/\∀d,H d=none->Q (.ref d) (upd H d (.dK (cS [] (kvs.map hG))))):=by
 intro O s σ H xs us Q I r h;let⟨p,as,kvs,rfl,ep,B,ht,q⟩:=h;let⟨u,rfl,ru⟩:=vals1 r;cases ru;let⟨z,D,n,rv,lv,e⟩:=I.i3 ep;have Z:=Y1 rv;subst Z;rw[vt]at z;have L:p<s.heap.objs.size:=vI e;let⟨ps,kp,P,pt⟩:=BI (h:=s.heap) B λi a q W Y=>by
  let⟨_,D,r',t'⟩:=I.cJ a _ (ht i a q W Y);cases r' with
  | cons ra rr=>
   cases rr with
   | cons rb rr=>
    cases rr;let⟨t1,rfl⟩:=ra;let⟨t2,rfl⟩:=rb;exact⟨t1,t2,t'⟩
 refine callType_codes (Q₁:=λt g=>t = .ref s.heap.objs.size/\g={s with heap:=s.heap.push {cls:=.type "dict",data:=.dict #[]}}) PySem.F.kt_called_dict (PySem.F.kt_typeCall_dict_1 (.ref p)) PySem.F.entry_dict_init (kt_code_dict_new (.ref p) ⟨rfl,rfl⟩) ?_;rintro t g ⟨rfl,rfl⟩;have c:(s.heap.push {cls:=.type "dict",data:=.dict #[]}).DictOf (cn X.prog X.w) s.heap.objs.size []:=Heap.DictOf.new s.heap;have v:∀b o,s.heap.get? b=some o->(s.heap.push {cls:=.type "dict",data:=.dict #[]}).get? b=some o:=λb o e=>vJ _ e
 generalize s.heap.push {cls:=.type "dict",data:=.dict #[]}=h0 at c v;refine⟨c.typeIs (s:={s with heap:=h0}),PySem.F.args_dict_init_2 _ _,?_⟩;unfold Builtin.«dict.__init__»;refine uh ?_;unfold Builtin.Dict.selfAndRest;refine uh (wpAny_notOrdered_dict (c.typeIs (s:={s with heap:=h0})) ?_);show wpAny (model X.prog X.w) _ (pure (s.heap.objs.size,[Value.ref p])) _ _ _;refine ug ?_;show wpAny (model X.prog X.w) _ (Builtin.Dict.updateFrom "dict.__init__" s.heap.objs.size (.ref p) [] .none) _ _ _;unfold Builtin.Dict.updateFrom;refine uh (wpAny_typeOf (T:="list") ⟨_,v _ _ e,rfl⟩ ?_);rw[vd nofun];refine uh (lR (s:={s with heap:=h0}) (v _ _ e) rfl rfl rfl (I.ok.hd K) λm tk M=>?_);rw[vd (show(none:Nv).isNone=true from rfl)];have f:∀b o,s.heap.get? b=some o->m.get? b=some o:=λb o e=>M b o (v b o e)
 have k:m.DictOf (cn X.prog X.w) s.heap.objs.size []:=c.keep M;have w:s.heap.objs.size<m.objs.size:=by let⟨_,_,_,hg,_⟩:=k;exact vI hg
 have lp:p<m.objs.size:=vY L w;refine uh (wpAny_rule ?_);refine uh (wpAny_pyIter_list (l:=p) (items:=(as.map Value.ref).toArray) ⟨_,f _ _ e,rfl,n,rfl⟩ ?_);refine ug ⟨plainId_quiet Zk _,?_⟩;refine uY (knd:=cn X.prog X.w) (A:=X.A.in1) (d:=s.heap.objs.size) (it:=m.objs.size) (l:=p) (items:=as.map Value.ref) (res:=.none) (I.ok.hd K) (vE w) (vN L) (vN lp) ps 0 [] _
  ⟨_,Heap.get?_push_size _ rfl,rfl,rfl⟩ ⟨_,vJ _ (f _ _ e),rfl,n,rfl⟩ (by rw[vt,B,P,Nat.zero_add]) (λj kv ej=>?_) (k.push _) (by rw[length_nil,P,<-B,Nat.zero_add];exact z) λh2 E k2 x=>?_
 .let⟨a,ky,R,⟨o,J,S⟩,U⟩:=pt j kv ej;have N:a<s.heap.objs.size:=vI J;exact⟨a,ky,by rw[Nat.zero_add,vv,R];rfl,⟨o,vJ _ (f _ _ J),S⟩,U,vE N,vE (vY N w)⟩
 .refine⟨rfl,.ref s.heap.objs.size,upd H s.heap.objs.size (.dK (cS [] (kvs.map hG))),I.laid (t':=E) (λb o y=>k2 b o (vE (vI y)) (vE (vY (vI y) w)) (vJ _ (f _ _ y))) (vb _) ?_,rfl,q _ (I.cJ.fresh (vb _))⟩;have hm:=zn (kvs.map hG) [];rw[length_nil,vt]at hm;have C:(s.heap.objs.size==sysModules)=false:=by
   rw[beq_eq_false_iff_ne];exact vN I.big
  exact WC ⋯ C (kp.merge .nil) x
end
def Hd{H:Hp}:∀(ks:L5),oO H (ks.map V.int) (ks.map PyData.int):=by
 intro a
 induction a with
 | nil=>
  exact .nil
 | cons k r ih0=>
  exact .cons (.int k) (ih0)
def Hz(ks:L5):PyData.eqv (.list (ks.map PyData.int)) (.list [])=decide (ks=[]):=by
 cases ks<;>simp[PyData.eqv,PyData.eqvAll]
def Ly(T:X.A.units+64<cLine):fR X (compareOp .In) (λx y H Q=>∃(a l:Addr) (as:L7) (hs:L1),x = .ref a/\y = .ref l/\H a=some (.lst [])/\H l=some (.lst (as.map V.ref))/\⇑as=⇑hs/\
  (∀(i:Nat) (b:Addr) (ks:L5),as[i]?=some b->hs[i]?=some ks->H b=some (.lst (ks.map V.int)))/\Q (.bl (hs.any λks=>decide (ks=[]))) H):=by
 intro n s W H x y v u Q I M N h;let⟨a,l,as,hs,rfl,rfl,p,A,S,C,q⟩:=h;cases M;cases N;let⟨E,r,J,U⟩:=I.list (bZ.of A);have t:=Y1 r;subst t;let⟨O,K⟩:=Zq I (DV.lst p .nil) (show RelV (.ref a) (.ref a)from rfl)
 classical
 have o:∀(i:Nat) (b:Addr) (ks:L5),as[i]?=some b->hs[i]?=some ks->∃c,Reads s.heap (.ref b) (.list (ks.map PyData.int)) c:=λi b ks d f=>Zq I (DV.lst (C i b ks d f) (Hd ks)) (show RelV (.ref b) (.ref b)from rfl)
 have m:∀(i:Nat) (b:Addr) (ks:L5),as[i]?=some b->hs[i]?=some ks->decide (∃c,Reads s.heap (.ref b) (.list []) c)=decide (ks=[]):=λi b ks d f=>by
  let⟨c,k⟩:=o i b ks d f;rw[decide_eq_decide];constructor
  .rintro⟨P,L⟩;have e:=SeqAt.Reads.unique _ _ _ _ _ (show PyData.canLay0 (.list [])=true from rfl) L k
   simp_all
  .rintro rfl;exact⟨c,k⟩
 refine SeqAt.in_listAt (λw=>decide (∃c,Reads s.heap w (.list []) c)) J.isList (λw j=>?_) ⟨.bl _,H,I,rfl,?_⟩
 .let⟨i,g,e⟩:=mem_iff_getElem.mp (show w∈as.map Value.ref by simpa using j);rw[getElem_map]at e;rw[vt]at g;subst e;have d:as[i]?=some as[i]:=vz g;have f:hs[i]?=some hs[i]:=vz ⋯;let⟨c,k⟩:=o i _ _ d f;have z:=SeqAt.eqAt_reads _ _ X.A.in1 s _ _ _ _ k K (by show PyData.canLayAll0 _=true;exact ke_canLayAll0 _) rfl (by
   show X.A.in1.units+min (PyData.depthAll _+1) (0+1)<cLine;have R:X.A.in1.units=X.A.units+1:=rfl;lia)
  rw[Hz,<-m i _ _ d f]at z;exact z
 .have e:(as.map Value.ref).toArray.any (λw=>decide (∃c,Reads s.heap w (.list []) c))=hs.any λks=>decide (ks=[]):=by
   rw[List.any_toArray,List.any_map,Bool.eq_iff_iff,any_eq_true,any_eq_true];constructor
   .rintro⟨b,B,j⟩;let⟨i,g,rfl⟩:=mem_iff_getElem.mp B;exact⟨hs[i],getElem_mem _,by rw[<-m i _ _ (vz g) (vz ⋯)];exact j⟩
   .rintro⟨ks,D,j⟩;let⟨i,g,rfl⟩:=mem_iff_getElem.mp D;refine⟨as[i],getElem_mem _,?_⟩;show decide _=true;rw[m i _ _ (vz ⋯) (vz g)];exact j
  rw[e];exact q
def rG(K:cA)(a:Addr)(n:Nat):It:=
 ⟨λi H=>∃xs x,bZ K H a xs/\i<n/\xs[n-1-i]?=some x,λi H x H'=>H'=H/\∀xs,bZ K H a xs->xs[n-1-i]?=some x,λi q=>i=n⟩
def GR{P:Program}{w:World}{K:cA}{tg:Expr}(a it:Addr)(n:Nat):Turn P w K tg (rG K a n) [it] it (λi h=>h.IsRevIter it a ((n:Int)-1-(i:Nat))) where
 mem:=by simp
 obj:=λi h f b j=>by
  have e:b=it:=by simpa using j
  subst e;let⟨o,e,c,d⟩:=f;exact⟨o,e,λv z=>by rw[d]at z;cases z⟩
 keep:=λi h q f k=>f.at λo e=>k it (by simp) o e
 item:=by
  intro X J L D M i g s Q H E I r f m;subst J L D;let⟨xs,x,N,Y,O⟩:=m;let⟨a0,rv,p,hz⟩:=I.list N;let⟨u,Z,ru⟩:=rv.get O;let⟨t,y,W,A,B,C⟩:=r it (by simp);have e:((n:Int)-1-(i:Nat))=((n-1-i:Nat):Int):=⋯
  rw[e]at f;refine wpAny_pyNext_rev_item f p.isList (x:=u) #v[Z] λq l sb=>?_
  have R:Inv X g Q H {s with heap:=q}:=I.turned (t':=s.toks) (λb o j e=>(sb.2 b j).trans e) t y A B C;have S:(((n-1-i:Nat):Int)-1)=((n:Int)-1-((i+1:Nat):Int)):=⋯
  rw[S]at l;let⟨o,U,c,d⟩:=id l;exact⟨u,rfl,sJ (s:={s with heap:=q}) U c d nofun ⟨x,H,R,ru,⟨rfl,λys hy=>by rw[I.fg hy N];exact O⟩,l,λb j=>(r b j).1⟩⟩
 done:=by
  intro X J L D M i g s Q H E I r f m;subst J L D;have m:i=n:=m;subst m;let⟨t,y,W,A,B,C⟩:=r it (by simp);rw[show((i:Int)-1-(i:Nat)) = -1 by lia]at f;exact wpAny_pyNext_rev_end (I.ok.hd M) f λq T=>⟨rfl,I.turned (t':=s.toks) (λb o j e=>T b o j e) t y A B C⟩
 self:=λ_ _ _ _ _ f h=>wpAny_pyIter_revIter f h
def sD(K:cA)(ta:TA):TI:=λσ H R=>ta σ H λvs H1=>∃a xs,vs=[.ref a]/\bZ K H1 a xs/\R (rG K a ⇑xs) H1
def LF{X:Cx}{E a:Expr}{l:TA}{p j:Pos}(v:Gl X "reversed")(x:X.mg "reversed"= none)(r:PA X [a] l)(z:starEach [a] X.env=[(false,eval a X.env)]:=by rfl) :
  PI X E (.Call (.Name "reversed" p) [a] [] j) (sD X.K l):=by
 intro i s J H R I h;refine Call_ (ZU I v x D4 (PyProof.Rows.callWith_type1 (cM (r j i s J H _ I h) λL d z_=>?_) z rfl));obtain⟨M,n,k,B,A⟩:=z_;let⟨b,m,rfl,y,q⟩:=A;let⟨u,rfl,C⟩:=vals1 B;cases C;let⟨g,D,p,K⟩:=k.list y;have w:=⇑D;refine call_reversed_list p.isList ?_;have f:(d.heap.push (revObj b ((g.toArray.size:Int)-1))).IsRevIter d.heap.objs.size b ((⇑m:Int)-1-((0:Nat):Int)):=⟨_,Heap.get?_push_size _ rfl,rfl,by rw[w];simp[revObj]⟩
 refine wpAny_pyIter_revIter (s:={d with heap:=d.heap.push (revObj b ((g.toArray.size:Int)-1))}) f ?_;refine⟨d.heap.objs.size,[d.heap.objs.size],_,_,n,rfl,k.kept (t':=d.toks) λb o e=>vJ _ e,GR b _ ⇑m,f,λc t=>?_,q⟩;have e:c=d.heap.objs.size:=by simpa using t
 subst e;exact k.gC (vb _) (k.cJ.fresh (vb _))
def HD{K:cA}{a:Addr}{xs:N2}{g:TG}{j:TS}{D:Ends}{b:St}{H:Hp}(c:Nat->St->Hp->Prop)(k:c 0 b H)(o:∀i b H,i<=⇑xs->c i b H->bZ K H a xs)
  (r:∀i x b H,i<⇑xs->xs[⇑xs-1-i]?=some x->c i b H->g x b H λf H2=>j {D with nx:=c (i+1),ct:=c (i+1),bk:=D.nx} f H2) (l:∀b H,c ⇑xs b H->D.nx b H) :
  ∃W:Nat->Nat->St->Hp->Prop,(∃m,W 0 m b H)/\∀i m b H,W i m b H->
   ((rG K a ⇑xs).stop i H/\D.nx b H)\/((rG K a ⇑xs).go i H/\∃N:St->Hp->Prop,(∀S' H',N S' H'->∃h,h<m/\W (i+1) h S' H')/\∀x H',(rG K a ⇑xs).lA i H x H'->g x b H' λf H2=>j {D with nx:=N,ct:=N,bk:=D.nx} f H2):=by
 refine⟨λi m b H=>m=⇑xs-i/\i<=⇑xs/\c i b H,⟨⇑xs,by simp,va _,k⟩,?_⟩;rintro i m b H ⟨rfl,n,p⟩;have q:=o i b H n p;by_cases d:i<⇑xs
 .refine .inr ⟨⟨xs,xs[⇑xs-1-i],q,d,vz ⋯⟩,c (i+1),λS' H' s=>⟨⇑xs-(i+1),⋯,rfl,d,s⟩,λx H' y=>?_⟩;let⟨e,y⟩:=y;subst e;exact r i x b _ d (y xs q) p
 .have e:i=⇑xs:=⋯
  subst e;exact .inl ⟨rfl,l b H p⟩
def rd_iRev{K:cA}{b:TA}{c:St}{H:Hp}{R:It->Hp->Prop}(h:b c H λvs H1=>∃a xs,vs=[.ref a]/\bZ K H1 a xs/\R (rG K a ⇑xs) H1):sD K b c H R:=h
section
variable{X:Cx}
def tQ(K:cA)(ta:TE):TT:=λσ H Q=>ta σ H λx H'=>∃k,mB K x H' k/\Q k H'
def Ao{a:Expr}{c:TE}(d:PE X a c)(e:∀b,isTrue a X.env b=(do let v <-b;standAt a.pos;holding [v] (truthy v))):PT X a (tQ X.K c):=GN d e
end
def rd_tru{K:cA}{a:TE}{b:St}{H:Hp}{Q:Bool->Hp->Prop}(h:a b H λx H'=>∃k,mB K x H' k/\Q k H'):tQ K a b H Q:=h
def Gw{K:cA}{a b:Addr}{xs zs:N2}{k:Nat}{ci:L6}{g:TG}{z:TT}{w:TE}{A:St}{H:Hp}{Z:Addr->N2->Hp->Prop}(d:Nat->N2->Hp->Prop)(s:⇑xs=⇑zs)(B:d 0 [] H)(E:∀i ys H,i<=⇑xs->d i ys H->bZ K H a xs/\bZ K H b zs)
  (I:∀i u v ys H T H',xs[i]?=some u->zs[i]?=some v->d i ys H->bX H H'->H' T=some (.tup [u,v])->g (.ref T) (dd k ci A) H' λc H2=>z c H2 λb j=>if b=true then w c j λv n=>⇑ys<sizeLine/\d (i+1) (ys++[v]) n else d (i+1) ys j)
  (C:∀ys H,d ⇑xs ys H->⇑ys<=sizeLine/\∀p,H p=none->Z p ys H) :
  ∃W:Nat->Nat->N2->Hp->Prop,(∃m,W 0 m [] H)/\∀i m ys H,W i m ys H->
   ((og K a b).stop i H/\⇑ys<=sizeLine/\∀p,H p=none->Z p ys H)\/
   ((og K a b).go i H/\∃N:N2->Hp->Prop,(∀f H',N f H'->∃t,t<m/\W (i+1) t f H')/\∀x H',(og K a b).lA i H x H'->g x (dd k ci A) H' λc H2=>z c H2 λb j=>
    if b=true then w c j λv n=>⇑ys<sizeLine/\N (ys++[v]) n else N ys j):=by
 refine⟨λi m ys H=>m=⇑xs-i/\i<=⇑xs/\d i ys H,⟨⇑xs,by simp,va _,B⟩,?_⟩;rintro i m ys H ⟨rfl,D,p⟩;let⟨q,r⟩:=E i ys H D p;by_cases l:i<⇑xs
 .refine .inr ⟨⟨xs,xs[i],zs,zs[i],q,by simp[l],r,by simp⟩,d (i+1),λf H' J=>⟨⇑xs-(i+1),⋯,rfl,l,J⟩,λx H' y=>?_⟩;let⟨T,u,v,rfl,hT,e,y,L⟩:=y;exact I i u v ys H T H' (y xs q) (L zs r) p (λb o h=>by rw[e,jg (je h hT)];exact h) (by rw[e];exact jw)
 .have e:i=⇑xs:=⋯
  subst e;exact .inl ⟨⟨xs,zs,q,r,.inl (vb _)⟩,C ys H p⟩
section
variable{X:Cx}{e:Expr}{te:TE}
def pL(K:cA)(te:TE)(ts:TO):TE:=λσ H Q=>te σ H λx H1=>ts σ H1 λst H2=>st=some (-1)/\∃a xs,x = .ref a/\bZ K H2 a xs/\∀p,H2 p=none->Q (.ref p) (upd H2 p (.lst xs.reverse))
def GX{xs:N2}{us:L9}(h:Vals xs us):Vals xs.reverse us.reverse:=by
 induction h with
 | nil=>exact .nil
 | cons r _ ih=>rw[reverse_cons,reverse_cons];exact ih.append (.cons r .nil)
def LC{st:Expr}{p:TO}{n j:Pos}(A:PE X e te)(B:PO X (some st) p):PE X (.Subscript e (.Slice none none (some st) n) j) (pL X.K te p):=by
 intro c s f H Q I h;refine Subscript_ (cM (A c s f H _ I h) λv N z_=>?_);obtain⟨x,t,w,M,L⟩:=z_;refine wpAny_Slice ?_;rw[evalPart_none];refine ug ?_;refine ug ?_;refine cM (B c N f t _ w L) λk d z_=>?_;obtain⟨P,u,y,K,i,a,O,z,C,q⟩:=z_
 subst i z;cases M;have g:Inv X c f u {d with heap:=d.heap.push {cls:=.type "slice",data:=.fields #[.none,.none,k]}}:=y.kept (t':=d.toks) λb J q=>vJ _ q
 let⟨E,r,m,D⟩:=g.list C;have l:=⇑r;show wpAny (model X.prog X.w) X.A (subscriptTail e (.Slice none none (some st) n) (.ref a) (.ref d.heap.objs.size)) (EP X c f Q) X.xe {d with heap:=d.heap.push {cls:=.type "slice",data:=.fields #[.none,.none,k]}};refine tail_any (ops:=[.ref a,.ref d.heap.objs.size]) m.isList.typeIs slot_list_getitem.lookup ?_ (by with_unfolding_all rfl);refine wpAny_getItem_list_slice m.isList (Heap.IsSliceOf.new ..) .none .none K nofun ?_ (by rw[size_toArray]<;>lia);rw[PySem.W.krv_pick];refine⟨.ref (d.heap.push {cls:=.type "slice",data:=.fields #[.none,.none,k]}).objs.size,_,g.laid (t':=d.toks) (o:=.lst O.reverse) (λb J q=>vJ _ q) (vb _) ?_,rfl,q _ (g.cJ.fresh (vb _))⟩;exact⟨by rw[List.length_reverse];exact D,_,0,GX r,Heap.get?_push_size _ rfl⟩
end
def rd_revS{K:cA}{c:TE}{d:TO}{b:St}{H:Hp}{Q:VK}(h:c b H λx H1=>d b H1 λst H2=>st=some (-1)/\∃a xs,x = .ref a/\bZ K H2 a xs/\∀p,H2 p=none->Q (.ref p) (upd H2 p (.lst xs.reverse))):pL K c d b H Q:=h
def Ap{K:cA}{i j k:Nat}{a:Addr}{x y z:V}{b:St}{H:Hp}{R:St->Hp->Prop}(e:cU K H a [x,y,z])(h:cv i x b H λS' H'=>cv j y S' H' λS' H'=>cv k z S' H' R):mK K 3 (dO (cv i) (dO (cv j) (dO (cv k) mJ))) (.ref a) b H R:=
 ⟨a,[x,y,z],rfl,e,rfl,x,[y,z],rfl,y,[z],rfl,z,[],rfl,rfl,h⟩
def Aq{K:cA}{i j k l:Nat}{a:Addr}{x y z w:V}{b:St}{H:Hp}{R:St->Hp->Prop}(e:cU K H a [x,y,z,w])(h:cv i x b H λS' H'=>cv j y S' H' λS' H'=>cv k z S' H' λS' H'=>cv l w S' H' R):mK K 4 (dO (cv i) (dO (cv j) (dO (cv k) (dO (cv l) mJ)))) (.ref a) b H R:=
 ⟨a,[x,y,z,w],rfl,e,rfl,x,[y,z,w],rfl,y,[z,w],rfl,z,[w],rfl,w,[],rfl,rfl,h⟩
def pR(lo:Int)(n:Nat):It:=⟨λi q=>i<n,λi H x H'=>H'=H/\x = .int (lo-i),λi q=>n<=i⟩
def Er{P:Program}{w:World}{K:cA}{Q:Expr}(it:Addr)(lo:Int)(n:Nat):Turn P w K Q (pR lo n) [it] it (λi h=>IsRangeIter h it (lo+(i:Nat)*(-1)) ((n:Int)-(i:Nat)) (-1)) where
 mem:=by simp
 obj:=λi h a b d=>by
  have e:b=it:=by simpa using d
  subst e;exact⟨_,a,λv z=>by
   have R:Data.fields _=Data.cell v:=z;cases R⟩
 keep:=λi h g a k=>k it (by simp) _ a
 item:=by
  intro X x B u y i c s D H E I j a A;subst x B u;let⟨l,m,M,p,q,r⟩:=j it (by simp);have W:=Walks.range (prog:=X.prog) (w:=X.w) (I.ok.hd y) it lo (-1) n;refine W.item i s _ _ A a λv g C N f O=>?_
  let⟨t,rfl⟩:=N;have J:Inv X c D H {s with heap:=g,toks:=C}:=I.turned (λb o d e=>O b o #v[d] e) l m p q r;refine⟨_,rfl,sJ (s:={s with heap:=g,toks:=C}) (n:="range_iterator") f rfl rfl nofun ⟨.int (lo-i),H,J,⟨t,?_⟩,⟨rfl,rfl⟩,f,λb d=>(j b d).1⟩⟩;rw[show lo+(i:Int)*(-1)=lo-i by lia]
 done:=by
  intro X x B u y i c s D H E I j a A;subst x B u;let⟨l,m,M,p,q,r⟩:=j it (by simp);exact wpAny_pyNext_range_end (I.ok.hd y) a (by have:n<=i:=A;lia) λg L=>⟨rfl,I.turned (t':=s.toks) (λb o d e=>L b o d e) l m p q r⟩
 self:=λZ Z Z Z Z a h=>wpAny_pyIter_rangeiter a h
section
variable{X:Cx}{tg:Expr}
def ke(a b:Int):Builtin.Range.rangeSize a b (-1)=if b<a then a-b else 0:=by
 unfold Builtin.Range.rangeSize;simp only[show¬((-1:Int)>0) by decide,if_false,show(- -1:Int)=1 by decide,Int.ediv_one];split<;>lia
def Fg(c : -(2^61)<=a)(d:a<2^61)(e : -(2^61)<=b)(h:b<2^61):Builtin.Range.small a b (-1)=true:=by
 have f:∀x:Int,-(2^62)<=x->x<2^62->Builtin.Range.rangeFitsLong x=true:=λx c d=>by
  unfold Builtin.Range.rangeFitsLong;simp;lia
 unfold Builtin.Range.small;rw[ke];have g : -(2^62)<=(if b<a then a-b else 0)/\(if b<a then a-b else 0)<2^62:=by split<;>lia
 rw[f a ⋯ ⋯,f b ⋯ ⋯,f (-1) nofun nofun,f _ g.1 g.2,vc (show¬((-1:Int)>0) by decide),f (b+(-1+1)) ⋯ ⋯];simp
def E4{a:Ny}{f:St}{H:Hp}{s:Shared}{R:It->Hp->Prop}{E:Nz}{lo hi:Int}{t u v:Tok}{d:Nat}(I:Inv X a f H s)(i : -(2^61)<=lo)(j:lo<2^61)(k : -(2^61)<=hi)(l:hi<2^61)
  (q:R (pR lo (lo-hi).toNat) H):wpAny (model X.prog X.w) X.A (pyIter (.ref s.heap.objs.size)) (uO X a f tg R) E {s with heap:=s.heap.push {cls:=.type "range",data:=.fields #[.int lo t,.int hi u,.int (-1) v]},toks:=d}:=by
 refine wpAny_pyIter_range (IsRange.new ..) (Fg i j k l) ?_;have c:Inv X a f H {s with heap:=s.heap.push {cls:=.type "range",data:=.fields #[.int lo t,.int hi u,.int (-1) v]},toks:=d}:=I.kept λb o e=>vJ _ e
 refine⟨(s.heap.push {cls:=.type "range",data:=.fields #[.int lo t,.int hi u,.int (-1) v]}).objs.size,[(s.heap.push {cls:=.type "range",data:=.fields #[.int lo t,.int hi u,.int (-1) v]}).objs.size],_,_,H,rfl,
  c.kept (t':=d) λb o e=>vJ _ e,Er _ lo (lo-hi).toNat,?_,λb m=>?_,q⟩
 .have g:lo+((0:Nat):Int)*(-1)=lo:=by simp
  have h:(((lo-hi).toNat:Nat):Int)-((0:Nat):Int)=Builtin.Range.rangeSize lo hi (-1):=by rw[ke];split<;>lia
  show IsRangeIter _ _ (lo+((0:Nat):Int)*(-1)) ((((lo-hi).toNat:Nat):Int)-((0:Nat):Int)) (-1);rw[g,h];exact Heap.get?_push_size _ rfl
 .have e:b=(s.heap.push {cls:=.type "range",data:=.fields #[.int lo t,.int hi u,.int (-1) v]}).objs.size:=by simpa using m
  subst e;exact c.gC (vb _) (c.cJ.fresh (vb _))
def pd(ta:TA):TI:=λσ H R=>ta σ H λvs H1=>∃i j:Int,vs=[.int i,.int j,.int (-1)]/\(-(2^61)<=i/\i<2^61/\-(2^61)<=j/\j<2^61)/\R (pR i (i-j).toNat) H1
def EX(m:Gl X "range")(n:X.mg "range"= none)(l:PA X [a,b,c] ta)(o:starEach [a,b,c] X.env=(false,eval a X.env)::starEach [b,c] X.env:=by rfl)(f:(backTo pos (starEach [b,c] X.env)).any (·.1)=false:=by rfl) :
  PI X tg (.Call (.Name "range" p) [a,b,c] [] pos) (pd ta):=by
 intro d s z H R I h;refine Call_ (ZU I m n boot_range (PyProof.Rows.callWith_type1 (cM (l pos d s z H _ I h) λD B z_=>?_) o f));obtain⟨E,A,k,x,g⟩:=z_;let⟨i,j,e,⟨g,u,v,w⟩,q⟩:=g;subst e;cases x with
 | cons r rr=>
  cases rr with
  | cons r' rr=>
   cases rr with
   | cons r'' rr=>
    cases rr;let⟨t,rfl⟩:=r;let⟨C,rfl⟩:=r';let⟨y,rfl⟩:=r'';exact call_range_3 nofun (E4 k g u v w q) (.inl (PyProof.noPylong_small ⋯))
end
def rd_rngD{a:St}{H:Hp}{R:It->Hp->Prop}(h:ta a H λvs H1=>∃i j:Int,vs=[.int i,.int j,.int (-1)]/\(-(2^61)<=i/\i<2^61/\-(2^61)<=j/\j<2^61)/\R (pR i (i-j).toNat) H1):pd ta a H R:=h
def GC{lo:Int}{n:Nat}{g:TG}{h:TS}{D:Ends}{a:St}{H:Hp}(b:Nat->St->Hp->Prop)(j:b 0 a H)(l:∀i a H,i<n->b i a H->g (.int (lo-i)) a H λd H2=>h {D with nx:=b (i+1),ct:=b (i+1),bk:=D.nx} d H2)(k:∀a H,b n a H->D.nx a H) :
  ∃W:Nat->Nat->St->Hp->Prop,(∃m,W 0 m a H)/\∀i m a H,W i m a H->
   ((pR lo n).stop i H/\D.nx a H)\/((pR lo n).go i H/\∃N:St->Hp->Prop,(∀S' H',N S' H'->∃f,f<m/\W (i+1) f S' H')/\∀x H',(pR lo n).lA i H x H'->g x a H' λd H2=>h {D with nx:=N,ct:=N,bk:=D.nx} d H2):=by
 refine⟨λi m a H=>m=n-i/\i<=n/\b i a H,⟨n,by simp,va _,j⟩,?_⟩;rintro i m a H ⟨rfl,q,p⟩;by_cases c:i<n
 .refine .inr ⟨c,b (i+1),λS' H' o=>⟨n-(i+1),⋯,rfl,c,o⟩,λx H' y=>?_⟩;let⟨e,y⟩:=y;subst e y;exact l i a _ c p
 .have e:i=n:=⋯
  subst e;exact .inl ⟨vb _,k a H p⟩
section
variable{X:Cx}
def ER:rY X "list.index" (λx vs H Q=>∃(p:Addr) (xs:N2) (y z:V) (j:Nat),x = .ref p/\vs=[y]/\bZ X.K H p xs/\eu y=true/\xs.all eu=true/\xs[j]?=some z/\lV z y=true/\(∀(m:Nat) (c:V),m<j->xs[m]?=some c->lV c y=false)/\Q (.int j) H):=by
 intro J s σ H x vs v us Q I rx Z h;let⟨p,xs,y,z,j,rfl,rfl,W,P,d,f,O,k,q⟩:=h;cases rx;let⟨u,rfl,Y⟩:=vals1 Z;let⟨a,r,K,hz⟩:=I.list W;have lx:=⇑r;have jl:=(vx.mp f).1;let⟨w',U,w⟩:=r.get f;have R:eu z=true:=all_eq_true.mp d z (vm f);let⟨⟨M,N,B,sl⟩,T,C,n,D⟩:=id K.isList;simp only at C D;subst C D;have g:j<a.toArray.size:=by rw[size_toArray];lia
 have L:sizeLine<2^62:=by decide
 have t:(j:Int)<2^63-1:=⋯
 refine call_meets F.slot_list_index K.isList.typeIs F.entry_list_index (F.args_list_index_2 _ _) (SeqAt.list_indexAt p a.toArray n N sl u (lD y) j g t ?_ ?_) ⟨T,λy' o=>Z5 Y P r d y' #v[o],⟨.int j,H,I.tok _,⟨_,rfl⟩,q⟩⟩
 .have e:a.toArray[j]=w':=by
   have:=vx.mp U;let⟨h,e⟩:=this;simpa using e
  rw[e,XH w R];exact O
 .intro m E i;have S:m<⇑a:=by rw[size_toArray]at E;exact E
  obtain⟨c,b⟩:∃c,xs[m]?=some c:=⟨_,vz ⋯⟩
  let⟨w2,l,A⟩:=r.get b;have e:a.toArray[m]=w2:=by
   let⟨h,e⟩:=vx.mp l;simpa using e
  rw[e,XH A (all_eq_true.mp d c (vm b))];exact k m c i b
end
section
variable{σ:St}{H:Hp}{D:Ends}{Q:VK}{ta tb te:TE}
def rd_seq(h:t {D with nx:=u D} σ H):tO t u D σ H:=h
def rd_asg(h:te σ H λx H1=>g x σ H1 D.nx):nO te g D σ H:=h
def rd_v0{r:St}(h:Q v H):eC 0 (some v::r) H Q:=⟨v,rfl,h⟩
def rd_n0{r:St}{R:St->Hp->Prop}(h:R (some v::r) H):cv 0 v (a0::r) H R:=h
def rd_v1{r:St}(h:Q v H):eC 1 (a0::some v::r) H Q:=⟨v,rfl,h⟩
def rd_n1{r:St}{R:St->Hp->Prop}(h:R (a0::some v::r) H):cv 1 v (a0::a1::r) H R:=h
def rd_v2{r:St}(h:Q v H):eC 2 (a0::a1::some v::r) H Q:=⟨v,rfl,h⟩
def rd_n2{r:St}{R:St->Hp->Prop}(h:R (a0::a1::some v::r) H):cv 2 v (a0::a1::a2::r) H R:=h
def rd_v3{r:St}(h:Q v H):eC 3 (a0::a1::a2::some v::r) H Q:=⟨v,rfl,h⟩
def rd_n3{r:St}{R:St->Hp->Prop}(h:R (a0::a1::a2::some v::r) H):cv 3 v (a0::a1::a2::a3::r) H R:=h
def rd_v4{r:St}(h:Q v H):eC 4 (a0::a1::a2::a3::some v::r) H Q:=⟨v,rfl,h⟩
def rd_n4{r:St}{R:St->Hp->Prop}(h:R (a0::a1::a2::a3::some v::r) H):cv 4 v (a0::a1::a2::a3::a4::r) H R:=h
def rd_v5{r:St}(h:Q v H):eC 5 (a0::a1::a2::a3::a4::some v::r) H Q:=⟨v,rfl,h⟩
def rd_n5{r:St}{R:St->Hp->Prop}(h:R (a0::a1::a2::a3::a4::some v::r) H):cv 5 v (a0::a1::a2::a3::a4::a5::r) H R:=h
def rd_v6{r:St}(h:Q v H):eC 6 (a0::a1::a2::a3::a4::a5::some v::r) H Q:=⟨v,rfl,h⟩
def rd_n6{r:St}{R:St->Hp->Prop}(h:R (a0::a1::a2::a3::a4::a5::some v::r) H):cv 6 v (a0::a1::a2::a3::a4::a5::a6::r) H R:=h
def rd_v7{r:St}(h:Q v H):eC 7 (a0::a1::a2::a3::a4::a5::a6::some v::r) H Q:=⟨v,rfl,h⟩
def rd_n7{r:St}{R:St->Hp->Prop}(h:R (a0::a1::a2::a3::a4::a5::a6::some v::r) H):cv 7 v (a0::a1::a2::a3::a4::a5::a6::a7::r) H R:=h
def rd_v8{r:St}(h:Q v H):eC 8 (a0::a1::a2::a3::a4::a5::a6::a7::some v::r) H Q:=⟨v,rfl,h⟩
def rd_n8{r:St}{R:St->Hp->Prop}(h:R (a0::a1::a2::a3::a4::a5::a6::a7::some v::r) H):cv 8 v (a0::a1::a2::a3::a4::a5::a6::a7::a8::r) H R:=h
def rd_v9{r:St}(h:Q v H):eC 9 (a0::a1::a2::a3::a4::a5::a6::a7::a8::some v::r) H Q:=⟨v,rfl,h⟩
def rd_n9{r:St}{R:St->Hp->Prop}(h:R (a0::a1::a2::a3::a4::a5::a6::a7::a8::some v::r) H):cv 9 v (a0::a1::a2::a3::a4::a5::a6::a7::a8::a9::r) H R:=h
def rd_v10{r:St}(h:Q v H):eC 10 (a0::a1::a2::a3::a4::a5::a6::a7::a8::a9::some v::r) H Q:=⟨v,rfl,h⟩
def rd_n10{r:St}{R:St->Hp->Prop}(h:R (a0::a1::a2::a3::a4::a5::a6::a7::a8::a9::some v::r) H):cv 10 v (a0::a1::a2::a3::a4::a5::a6::a7::a8::a9::a10::r) H R:=h
def rd_v11{r:St}(h:Q v H):eC 11 (a0::a1::a2::a3::a4::a5::a6::a7::a8::a9::a10::some v::r) H Q:=⟨v,rfl,h⟩
def rd_n11{r:St}{R:St->Hp->Prop}(h:R (a0::a1::a2::a3::a4::a5::a6::a7::a8::a9::a10::some v::r) H):cv 11 v (a0::a1::a2::a3::a4::a5::a6::a7::a8::a9::a10::a11::r) H R:=h
def rd_v12{r:St}(h:Q v H):eC 12 (a0::a1::a2::a3::a4::a5::a6::a7::a8::a9::a10::a11::some v::r) H Q:=⟨v,rfl,h⟩
def rd_n12{r:St}{R:St->Hp->Prop}(h:R (a0::a1::a2::a3::a4::a5::a6::a7::a8::a9::a10::a11::some v::r) H):cv 12 v (a0::a1::a2::a3::a4::a5::a6::a7::a8::a9::a10::a11::a12::r) H R:=h
def rd_v13{r:St}(h:Q v H):eC 13 (a0::a1::a2::a3::a4::a5::a6::a7::a8::a9::a10::a11::a12::some v::r) H Q:=⟨v,rfl,h⟩
def rd_n13{r:St}{R:St->Hp->Prop}(h:R (a0::a1::a2::a3::a4::a5::a6::a7::a8::a9::a10::a11::a12::some v::r) H):cv 13 v (a0::a1::a2::a3::a4::a5::a6::a7::a8::a9::a10::a11::a12::a13::r) H R:=h
def rd_v14{r:St}(h:Q v H):eC 14 (a0::a1::a2::a3::a4::a5::a6::a7::a8::a9::a10::a11::a12::a13::some v::r) H Q:=⟨v,rfl,h⟩
def rd_n14{r:St}{R:St->Hp->Prop}(h:R (a0::a1::a2::a3::a4::a5::a6::a7::a8::a9::a10::a11::a12::a13::some v::r) H):cv 14 v (a0::a1::a2::a3::a4::a5::a6::a7::a8::a9::a10::a11::a12::a13::a14::r) H R:=h
def rd_v15{r:St}(h:Q v H):eC 15 (a0::a1::a2::a3::a4::a5::a6::a7::a8::a9::a10::a11::a12::a13::a14::some v::r) H Q:=⟨v,rfl,h⟩
def rd_n15{r:St}{R:St->Hp->Prop}(h:R (a0::a1::a2::a3::a4::a5::a6::a7::a8::a9::a10::a11::a12::a13::a14::some v::r) H):cv 15 v (a0::a1::a2::a3::a4::a5::a6::a7::a8::a9::a10::a11::a12::a13::a14::a15::r) H R:=h
def rd_v16{r:St}(h:Q v H):eC 16 (a0::a1::a2::a3::a4::a5::a6::a7::a8::a9::a10::a11::a12::a13::a14::a15::some v::r) H Q:=⟨v,rfl,h⟩
def rd_n16{r:St}{R:St->Hp->Prop}(h:R (a0::a1::a2::a3::a4::a5::a6::a7::a8::a9::a10::a11::a12::a13::a14::a15::some v::r) H):cv 16 v (a0::a1::a2::a3::a4::a5::a6::a7::a8::a9::a10::a11::a12::a13::a14::a15::a16::r) H R:=h
def rd_const(h:Q v H):tC v σ H Q:=h
def rd_op(h:ta σ H λx H1=>tb σ H1 λy H2=>r x y H2 Q):tM r ta tb σ H Q:=h
def rd_un{r:V->Hp->VK->Prop}(h:ta σ H λx H1=>r x H1 Q):DH r ta σ H Q:=h
def rd_i0{g:Int->Int->V}(h:Q (g i j) H):oC g (.int i) (.int j) H Q:=⟨i,j,rfl,rfl,h⟩
def Lo{C:Int->Int->Prop}{g:Int->Int->V}(c:C i j)(h:Q (g i j) H):rI C g (.int i) (.int j) H Q:=⟨i,j,rfl,rfl,c,h⟩
def rd_u{g:Int->V}(h:Q (g i) H):rU g (.int i) H Q:=⟨i,rfl,h⟩
def rd_eqI(h:Q (.bl (decide (i=j))) H):AX (.int i) (.int j) H Q:=by
 refine⟨rfl,?_⟩;rw[show decide (V.int i=V.int j)=decide (i=j) by simp];exact h
def rd_neI(h:Q (.bl (!decide (i=j))) H):DA (.int i) (.int j) H Q:=by
 refine⟨rfl,?_⟩;rw[show decide (V.int i=V.int j)=decide (i=j) by simp];exact h
def rd_eqS(h:Q (.bl (decide (i=j))) H):AX (.str i) (.str j) H Q:=by
 refine⟨rfl,?_⟩;rw[show decide (V.str i=V.str j)=decide (i=j) by simp];exact h
def rd_if(h:c σ H λb H1=>if b=true then t D σ H1 else u D σ H1):rA c t u D σ H:=h
def rd_test{R:Bool->Hp->Prop}(h:te σ H λx H'=>∃k,x = .bl k/\R k H'):nV te σ H R:=h
def rd_tB{R:Bool->Hp->Prop}(h:te σ H λx H'=>∃k,x = .bl k/\R k H'):tB te σ H R:=h
def rd_blP{R:Bool->Prop}(h:R k):∃a,V.bl k = .bl a/\R a:=⟨k,rfl,h⟩
def rd_not{R:Bool->Hp->Prop}(h:t σ H λc H1=>R (!c) H1):tL t σ H R:=h
def rd_and{R:Bool->Hp->Prop}(h:t σ H λc H1=>if c=true then u σ H1 R else R false H1):tE t u σ H R:=h
def rd_or{R:Bool->Hp->Prop}(h:t σ H λc H1=>if c=true then R true H1 else u σ H1 R):DE t u σ H R:=h
def rd_andV(h:ta σ H λx H1=>∃c,x = .bl c/\if c=true then tb σ H1 Q else Q (.bl false) H1):pA ta tb σ H Q:=h
def rd_notV(h:ta σ H λx H1=>∃c,x = .bl c/\Q (.bl (!c)) H1):pJ ta σ H Q:=h
def rd_ifE(h:t σ H λc H1=>if c=true then ta σ H1 Q else tb σ H1 Q):DD t ta tb σ H Q:=h
def rd_ret(h:te σ H D.rt):tN te D σ H:=h
def rd_next(h:D.nx σ H):pH D σ H:=h
def rd_drop(h:te σ H λq H1=>D.nx σ H1):pE te D σ H:=h
def rd_cb{r:N2->Hp->VK->Prop}(h:t σ H λvs H1=>r vs H1 Q):A3 r t σ H Q:=h
def rd_call{sp:Sp}(h:t σ H λvs H1=>sp (vs++dvs) H1 Q E):nP sp dvs E t σ H Q:=h
def rd_fld{K:cA}{f:Str}(h:ta σ H λx H1=>∃a C dx fs v,x = .ref a/\H1 a=some (.ins C dx fs)/\lI K C/\cE K C f/\fs.lookup f=some v/\Q v H1):rz K ta f σ H Q:=h
def rd_sfld{K:cA}{f:Str}(h:tb σ H λy H1=>ta σ H1 λx H2=>∃a C dx fs,x = .ref a/\H2 a=some (.ins C dx fs)/\lI K C/\cE K C f/\⇑fs<1000/\D.nx σ (upd H2 a (.ins C dx (cx f y fs)))):tu K ta tb f D σ H:=h
def rd_meth{sp:Sp}(h:ta σ H λx H1=>∃a dx fs,x = .ref a/\H1 a=some (.ins C dx fs)/\fs.lookup m=none/\t σ H1 λvs H2=>sp (x::(vs++dvs)) H2 Q E):pG C m sp dvs E ta t σ H Q:=h
def rd_make{sp:Sp}(h:t σ H λvs H1=>∀x dx,H1 x=none->H1 dx=none->dx≠x->sp (.ref x::(vs++dvs)) (upd (upd H1 dx (.own x)) x (.ins C dx [])) (λv H2=>v = .cW/\Q (.ref x) H2) E):pF C sp dvs E t σ H Q:=h
def rd_nil{R:N2->Hp->Prop}(h:R [] H):tK σ H R:=h
def rd_cons{R:N2->Hp->Prop}(h:ta σ H λx H1=>tr σ H1 λxs H2=>R (x::xs) H2):pB ta tr σ H R:=h
def rd_lst(h:t σ H λxs H1=>⇑xs<=sizeLine/\∀p,H1 p=none->Q (.ref p) (upd H1 p (.lst xs))):tJ t σ H Q:=h
def rd_tup(h:t σ H λxs H1=>⇑xs<=sizeLine/\∀p,H1 p=none->Q (.ref p) (upd H1 p (.tup xs))):tR t σ H Q:=h
def rd_chain(h:ta σ H λx H1=>tb σ H1 λy H2=>r x y H2 λz a=>∃k,z = .bl k/\(if k=true then tc σ a λc b=>r' y c b Q else Q (.bl false) a)):nR r r' ta tb tc σ H Q:=h
def rd_bm{K:cA}{T:String}{r:V->N2->Hp->VK->Prop}{t:TA}(h:te σ H λx H1=>tU K T x H1/\t σ H1 λxs H2=>r x xs H2 Q):DC K T r te t σ H Q:=h
def rd_sl{r:V->Option Int->Option Int->Hp->VK->Prop}(h:te σ H λx H1=>tl σ H1 λl H2=>th σ H2 λu a=>r x l u a Q):DG r te tl th σ H Q:=h
def rd_nopart{R:Option Int->Hp->Prop}(h:R none H):me σ H R:=h
def rd_part{R:Option Int->Hp->Prop}(h:te σ H λx H1=>∃i,x = .int i/\R (some i) H1):pK te σ H R:=h
def rd_int{R:Int->Prop}(h:R i):∃a,V.int i = .int a/\R a:=⟨i,rfl,h⟩
def cC{p A B:Prop}[Decidable p](a:p->A)(b:¬p->B):if decide p=true then A else B:=by
 by_cases h:p
 .rw[vd (vG h)];exact a h
 .rw[vc #v[h]];exact b h
def g7{p A B:Prop}[Decidable p](a:¬p->A)(b:p->B):if(!decide p)=true then A else B:=by
 by_cases h:p
 .rw[vc #v[h]];exact b h
 .rw[vd #v[h]];exact a h
def rd_rng1{a:TA}{R:It->Hp->Prop}(h:a σ H λvs H1=>∃j:Int,vs=[.int j]/\-(2^62)<=j/\j<2^62/\R (nY 0 j.toNat) H1):pb a σ H R:=h
def rd_iList{K:cA}{R:It->Hp->Prop}(h:te σ H λx H1=>∃a,x = .ref a/\(∃xs,bZ K H1 a xs)/\R (oe K a) H1):oZ K te σ H R:=h
def rd_p18(h:Q (.int (10^18)) H):rI mh (λi j=>.int (i^j.toNat)) (.int 10) (.int 18) H Q:=⟨10,18,rfl,rfl,⟨by decide,by decide,by decide⟩,h⟩
def rd_p30(h:Q (.int (10^30)) H):rI mh (λi j=>.int (i^j.toNat)) (.int 10) (.int 30) H Q:=⟨10,30,rfl,rfl,⟨by decide,by decide,by decide⟩,h⟩
def rd_p60(h:Q (.int (10^60)) H):rI mh (λi j=>.int (i^j.toNat)) (.int 10) (.int 60) H Q:=⟨10,60,rfl,rfl,⟨by decide,by decide,by decide⟩,h⟩
def rd_aug(h:eC i σ H λx a=>te σ a λy H1=>ti x y H1 λz H2=>cv i z σ H2 D.nx):tF i te ti D σ H:=h
def rd_ipI{f:Int->Int->Int}(h:Q (.int (f i j)) H):Bf f (.int i) (.int j) H Q:=⟨i,j,rfl,rfl,h⟩
def rd_for{c:TS} (h:wi σ H λJ H1=>∃W:Nat->Nat->St->Hp->Prop,(∃m,W 0 m σ H1)/\∀i m σ H,W i m σ H->
 (J.stop i H/\D.nx σ H)\/(J.go i H/\∃N:St->Hp->Prop,(∀S' H',N S' H'->∃b,b<m/\W (i+1) b S' H')/\∀x H',J.lA i H x H'->g x σ H' λa H2=>c {D with nx:=N,ct:=N,bk:=D.nx} a H2)):tH wi g c D σ H:=h
def rd_comp (h:wi σ H λJ H1=>∃W:Nat->Nat->N2->Hp->Prop,(∃m,W 0 m [] H1)/\∀i m ys H,W i m ys H->
 (J.stop i H/\⇑ys<=sizeLine/\∀p,H p=none->Q (.ref p) (upd H p (.lst ys)))\/
 (J.go i H/\∃N:N2->Hp->Prop,(∀a H',N a H'->∃e,e<m/\W (i+1) e a H')/\∀x H',J.lA i H x H'->g x (dd n ci σ) H' λc H2=>tf c H2 λb d=>
  if b=true then te c d λv f=>⇑ys<sizeLine/\N (ys++[v]) f else N ys d)):nS wi n ci g tf te σ H Q:=h
def rd_yes{R:Bool->Hp->Prop}(h:R true H):tS σ H R:=h
def qb{n:Nat}{ci:L6}{g:TG}{x:V}{S':St}{R:St->Hp->Prop}(e:dd n ci σ=S')(h:g x S' H R):g x (dd n ci σ) H R:=by rw[e];exact h
def jz{t:TS}{S':St}(e:σ=S')(h:t D S' H):t D σ H:=by subst e;exact h
def CF(a:0<b)(d : -B<=x)(e:x<=B) : -B<=x/b/\x/b<=B:=by
 have c:0<=B:=⋯
 constructor
 .rw[Int.le_ediv_iff_mul_le a];have:=Int.mul_le_mul_of_nonneg_left (show(1:Int)<=b by lia) c;rw[Int.neg_mul];lia
 .have:x/b<B+1:=by
   rw[Int.ediv_lt_iff_lt_mul a];have:=Int.mul_le_mul_of_nonneg_left (show(1:Int)<=b by lia) (show 0<=B+1 by lia);lia
  lia
def C1(d : -A<=x)(f:x<=A)(g : -B<=y)(i:y<=B) : -(A*B)<=x*y/\x*y<=A*B:=by
 have a:x.natAbs<=A.toNat:=⋯
 have b:y.natAbs<=B.toNat:=⋯
 have h:=Nat.mul_le_mul a b;rw[<-Int.natAbs_mul]at h;have e:((A.toNat*B.toNat:Nat):Int)=A*B:=by
  rw[Int.natCast_mul,Int.toNat_of_nonneg ⋯,Int.toNat_of_nonneg ⋯]
 have c:((x*y).natAbs:Int)<=A*B:=by rw[<-e];exact Int.ofNat_le.mpr h
 lia
def Af{H H':Hp}(h:H p=none)(e:upd H p o=H'):bX H H':=λb u q=>by rw[<-e,jg (je q h)];exact q
def JT{H H':Hp}(e:upd H p o=H'):H' p=some o:=by rw[<-e];exact jw
end
def cm{K:cA}{p:Addr}{xs:N2}{i:Int}{v:V}{H:Hp}{Q:VK}(h:bZ K H p xs)(e:eW xs i=some v)(q:Q v H):rl K (.ref p) (.int i) H Q:=⟨p,xs,i,v,rfl,rfl,h,e,q⟩
def iI{K:cA}{p:Addr}{xs:N2}{i:Int}{v:V}{H:Hp}{Q:VK}(h:cU K H p xs)(e:eW xs i=some v)(q:Q v H):oD K (.ref p) (.int i) H Q:=⟨p,xs,i,v,rfl,rfl,h,e,q⟩
def cp{K:cA}{p:Addr}{xs:N2}{i:Int}{v:V}{H:Hp}{Q:VK}(h:H p=some (.tup xs))(q:Q v H)(e:eW xs i=some v:=by rfl):oD K (.ref p) (.int i) H Q:=⟨p,xs,i,v,rfl,rfl,cU.of h,e,q⟩
end L2
local macro_rules | `(tactic| walk_at "side") => `(tactic| first | with_reducible assumption | exact L2.sk (by lia) (by lia) | exact L2.sT (by lia) (by lia) (by lia) (by lia) | exact L2.mulOkC (by first | assumption | exact L2.bits_ediv (by assumption) _) (by lia) (by lia) | lia)
local macro_rules | `(tactic| walk_at $s:str) => do
 let ws:=s.getString.splitOn " "
 if ws.head?==some "f" then
  let vs:=if ws.length==3 then["p"++ws.getD 1 "","hp"++ws.getD 1 "","H"++ws.getD 1 "","s"++ws.getD 1 "",ws.getD 2 ""++ws.getD 1 ""]else ws.drop 1
  let i:=λ(k:Nat)=>Lean.mkIdent (Lean.Name.mkSimple (vs.getD k ""))
  return <-`(tactic| (intro $(i 0):ident $(i 1):ident;generalize eH:L2.upd _ $(i 0) _ = $(i 2):ident;have $(i 3):ident:=L2.Af $(i 1) eH;have $(i 4):ident:=L2.JT eH;clear eH))
 if s.getString != "g" then Lean.Macro.throwUnsupported
 let as <-("rd_seq rd_asg rd_op rd_const rd_i0 rd_cons rd_nil rd_call rd_ret rd_if rd_test rd_tB rd_blP rd_not rd_next rd_v0 rd_v1 rd_v2 rd_v3 rd_v4 rd_v5 rd_v6 rd_v7 rd_v8 rd_v9 rd_v10 rd_v11 rd_v12 rd_v13 rd_v14 rd_v15 rd_v16 rd_un rd_u rd_and rd_or rd_andV rd_notV rd_ifE rd_drop rd_cb rd_lst rd_tup rd_chain rd_bm rd_sl rd_nopart rd_part rd_eqI rd_neI rd_eqS rd_str rd_int rd_rng1 rd_iList rd_ipI rd_aug rd_for rd_comp rd_yes rd_dget rd_iTup rd_sub rd_iEnum rd_iZip rd_dnew rd_dput rd_bm0 rd_iRev rd_tru rd_revS rd_rngD rd_fld rd_sfld rd_meth rd_make rd_n0 rd_n1 rd_n2 rd_n3 rd_n4 rd_n5 rd_n6 rd_n7 rd_n8 rd_n9 rd_n10 rd_n11 rd_n12 rd_n13 rd_n14 rd_n15 rd_n16 rd_p18 rd_p30 rd_p60".splitOn " ").toArray.mapM λn=>`(Lean.Parser.Tactic.tacticSeq| refine $(Lean.mkIdent (Lean.Name.mkStr2 "L2" n)) ?_)
 `(tactic| repeat first | with_reducible (first $[| $as]*) | (with_reducible refine L2.Lo ?c ?_; (case c => ((try dsimp only); walk_at "side"))))
local macro_rules | `(tactic| exists $e) => `(tactic| (walk_at "g"; refine $e))
local macro_rules | `(tactic| ac_nf) => `(tactic| walk_at "g")
local macro_rules | `(tactic| sleep $n) => `(tactic| walk_at $(Lean.Syntax.mkStrLit s!"f {n.getNat} t"))
local macro_rules | `(tactic| trivial) => `(tactic| decide +kernel)
namespace Fs
noncomputable def G(b s:Nat):Nat->Nat->Nat
 | 0,_=>0
 | m+1,r=>G b s m r+(b*m+r)/s
theorem AI(a:0<s)(r:Nat):∀m,G b s m (r+s)=G b s m r+m
 | 0=>rfl
 | m+1=>by
  have h:=AI (b:=b) a r m;have e:(b*m+(r+s))/s=(b*m+r)/s+1:=by
   rw[<-Nat.add_assoc,Nat.add_div_right _ a]
  simp only[G];rw[h,e];lia
def GZ(b s r:Nat):∀m,G b s (m+1) r=r/s+G b s m (b+r):=by
 intro a
 induction a with
 | zero=>
  simp[G]
 | succ m ih0=>
  have h:=ih0;have e:b*(m+1)+r=b*m+(b+r):=by rw[Nat.mul_add];lia
  rw[G,h,e];simp only[G];lia
noncomputable def F(s q b:Nat):Nat->Nat
 | 0=>0
 | n+1=>F s q b n+(s*n+q)/b
def tj(o:s<b)(l:q<b):∀n,F s q b n=G b s ((s*n+q)/b) ((s*n+q)%b):=by
 intro t
 induction t with
 | zero=>
  have e:(s*0+q)/b=0:=by rw[Nat.mul_zero,Nat.zero_add];exact Nat.div_eq_of_lt l
  rw[e];rfl
 | succ n ih0=>
  have h:=ih0;have f:0<b:=⋯
  have e:s*(n+1)+q=s*n+q+s:=by rw[Nat.mul_add];lia
  simp only[F];rw[h,e];generalize p:s*n+q=x;have u:=Nat.div_add_mod x b;have v:=Nat.mod_lt x f;generalize m:x/b=M at *;generalize w:x%b=r at *;by_cases k:r+s<b
  .have a:(x+s)/b=M:=by
    rw[show x+s=(r+s)+b*M by lia,Nat.add_mul_div_left _ _ f,Nat.div_eq_of_lt k,Nat.zero_add]
   have c:(x+s)%b=r+s:=by
    rw[show x+s=(r+s)+b*M by lia,Nat.add_mul_mod_self_left,Nat.mod_eq_of_lt k]
   rw[a,c];by_cases g:0<s
   .rw[AI g]
   .have i:s=0:=⋯
    subst i;have j:x=q:=by rw[<-p];simp
    have d:M=0:=by rw[<-m,j];exact Nat.div_eq_of_lt l
    rw[d];rfl
  .have g:0<s:=⋯
   have a:(x+s)/b=M+1:=by
    rw[show x+s=(r+s-b)+b*(M+1) by rw[Nat.mul_add];lia,Nat.add_mul_div_left _ _ f,Nat.div_eq_of_lt ⋯,Nat.zero_add]
   have c:(x+s)%b=r+s-b:=by
    rw[show x+s=(r+s-b)+b*(M+1) by rw[Nat.mul_add];lia,Nat.add_mul_mod_self_left,Nat.mod_eq_of_lt ⋯]
   rw[a,c,GZ,Nat.div_eq_of_lt ⋯,show b+(r+s-b)=r+s by lia,AI g];lia
noncomputable def fs:Nat->Int->Int->Int->Int
 | 0,_,_,_=>0
 | n+1,t,p,b=>fs n t p b+(t*(n:Int)+p)/b
noncomputable def fsum(many t p b:Int):Int:=fs many.toNat t p b
def IL(s q b:Nat):∀n,fs n (s:Int) (q:Int) (b:Int)=(F s q b n:Nat):=by
 intro a
 induction a with
 | zero=>
  exact rfl
 | succ n ih0=>
  rw[fs,F,ih0]
  norm_cast
def Ln(b s r:Nat):∀m,(G b s m r:Nat)=fs m (b:Int) (r:Int) (s:Int):=by
 intro a
 induction a with
 | zero=>
  exact rfl
 | succ m ih0=>
  rw[fs,G,<-ih0]
  norm_cast
noncomputable def rT(n:Nat):Int:=((n:Int)*((n:Int)-1))/2
def GQ(n:Nat):rT (n+1)=rT n+n:=by
 unfold rT;have e:((n+1:Nat):Int)*(((n+1:Nat):Int)-1)=(n:Int)*((n:Int)-1)+n*2:=by
  have:((n+1:Nat):Int)=(n:Int)+1:=⋯
  rw[this,show(n:Int)+1-1=n by lia,uv,Int.mul_sub,uw,Int.mul_one];lia
 rw[e,Int.add_mul_ediv_right _ _ nofun]
def EE(h:0<b)(t p j:Int) :
  (t*j+p)/b=j*(t/b)+p/b+(t%b*j+p%b)/b:=by
 have a:=Int.mul_ediv_add_emod t b;have f:=Int.mul_ediv_add_emod p b;have e:t*j+p=(t%b*j+p%b)+b*(j*(t/b)+p/b):=by
  have c:t*j=(b*(t/b)+t%b)*j:=by rw[a]
  have d:b*(t/b)*j=b*(j*(t/b)):=by rw[Int.mul_assoc,Int.mul_comm (t/b) j]
  rw[c,uv,Int.mul_add,d];lia
 rw[e,Int.add_mul_ediv_left _ _ ⋯];have g:(t%b*j+p%b+b*(j*(t/b)+p/b))=t*j+p:=e.symm;lia
def GF(a:0<b)(t p:Int):∀n,fs n t p b=rT n*(t/b)+(n:Int)*(p/b)+fs n (t%b) (p%b) b:=by
 intro c
 induction c with
 | zero=>
  have:rT 0=0:=by decide
  rw[this];simp[fs]
 | succ n ih0=>
  rw[fs,fs,ih0,EE a,GQ,uv];have:((n+1:Nat):Int)=(n:Int)+1:=⋯
  rw[this,uv,uw];lia
def HF(g:0<b)(t p:Int)(l:0<=m) :
  fsum m t p b=(m*(m-1))/2*(t/b)+m*(p/b)
   + fsum ((t%b*m+p%b)/b) b ((t%b*m+p%b)%b) (t%b):=by
 have h:=GF g t p m.toNat;have a:((m.toNat:Nat):Int)=m:=⋯
 unfold fsum;rw[h];unfold rT;rw[a];have u:=ve t (show b≠0 by lia);have v:=vf t g;have n:=ve p (show b≠0 by lia);have o:=vf p g;generalize t%b=s at *;generalize p%b=q at *;have i:fs m.toNat s q b=fs ((s*m+q)/b).toNat b ((s*m+q)%b) s:=by
  have c:((b.toNat:Nat):Int)=b:=⋯
  have d:((s.toNat:Nat):Int)=s:=⋯
  have e:((q.toNat:Nat):Int)=q:=⋯
  have r:=tj (b:=b.toNat) (s:=s.toNat) (q:=q.toNat) ⋯ ⋯ m.toNat;have f:=IL s.toNat q.toNat b.toNat m.toNat;rw[c,d,e,r,Ln,c,d]at f;have j:(s*m+q)/b=(((s.toNat*m.toNat+q.toNat)/b.toNat:Nat):Int):=by
   push_cast
   rw[c,d,e,a]
  have k:(s*m+q)%b=(((s.toNat*m.toNat+q.toNat)%b.toNat:Nat):Int):=by
   push_cast
   rw[c,d,e,a]
  rw[j,k];exact f
 rw[i]
def xS(h:m<=0)(t p b:Int):fsum m t p b=0:=by
 unfold fsum;rw[show m.toNat=0 by lia];rfl
def Fy(h:0<=m)(t p b:Int):fsum (m+1) t p b=fsum m t p b+(t*m+p)/b:=by
 unfold fsum;rw[show(m+1).toNat=m.toNat+1 by lia,fs,show((m.toNat:Nat):Int)=m by lia]
def round{b t p m:Int}(c:0<b)(g:0<m) :
  0<=(t%b*m+p%b)/b/\(t%b*m+p%b)/b<=m/\0<=(t%b*m+p%b)%b/\(t%b*m+p%b)%b<b/\0<=t%b/\t%b<b/\(0<(t%b*m+p%b)/b->0<t%b)/\0<=t%b*m+p%b:=by
 have h:=ve t (show b≠0 by lia);have r:=vf t c;have k:=ve p (show b≠0 by lia);have l:=vf p c;generalize t%b=s at *;generalize p%b=q at *;have u:0<=s*m:=vM h (Int.le_of_lt g);have f:s*m<=(b-1)*m:=vT ⋯ (Int.le_of_lt g);rw[Int.sub_mul,uw]at f;have n:=ve (s*m+q) (show b≠0 by lia);have o:=vf (s*m+q) c;have i:0<=(s*m+q)/b:=Int.ediv_nonneg ⋯ ⋯;have e:=Int.mul_ediv_add_emod (s*m+q) b;have j:(s*m+q)/b<=m:=by
  have:(s*m+q)/b<m+1:=by
   refine Int.lt_of_mul_lt_mul_left (a:=b) ?_ ⋯;rw[Int.mul_add,Int.mul_one];lia
  lia
 refine⟨i,j,n,o,h,r,λv=>?_,⋯⟩;rcases(by lia:s=0\/0<s)with d | d
 .subst d;have:(0*m+q)/b=0:=by
   rw[Int.zero_mul,uz];exact Int.ediv_eq_zero_of_lt k l
  lia
 .exact d
end Fs
namespace Rp
noncomputable def ramp(s g b j:Int):Int:=s+(g-s)*j/b
noncomputable def reached(s g b h:Int):Int:=if g>s then -((s-h)*b/(g-s))else(s-h-1)*b/(s-g)+1
def XS{x y q:Int}(a:0<y):q<=x/y↔q*y<=x:=Int.le_ediv_iff_mul_le a
def CH{x y q:Int}(a:0<y):x/y<q↔x<q*y:=by
 have h:=XS (x:=x) (q:=q) a;lia
def up{s g b h j:Int}(e:0<b)(f:s<g):reached s g b h<=j↔h<=ramp s g b j:=by
 unfold reached ramp;rw[vd f];have i:=XS (x:=(g-s)*j) (y:=b) (q:=h-s) e;have d:=XS (x:=(s-h)*b) (y:=g-s) (q:=-j) ⋯;have c : -j*(g-s) = -((g-s)*j):=by rw[Int.neg_mul,Int.mul_comm]
 have a:(s-h)*b = -((h-s)*b):=by rw[show s-h = -(h-s) by lia,Int.neg_mul]
 rw[c,a]at d;rw[a];lia
def down{s g b h j:Int}(e:0<b)(i:g<s):reached s g b h<=j↔ramp s g b j<=h:=by
 unfold reached ramp;rw[vc ⋯];have d:=CH (x:=(g-s)*j) (y:=b) (q:=h-s+1) e;have f:=CH (x:=(s-h-1)*b) (y:=s-g) (q:=j) ⋯;have a:(g-s)*j = -(j*(s-g)):=by rw[show g-s = -(s-g) by lia,Int.neg_mul,Int.mul_comm]
 have c:(h-s+1)*b = -((s-h-1)*b):=by rw[show h-s+1 = -(s-h-1) by lia,Int.neg_mul]
 rw[a,c]at d;rw[a];lia
noncomputable def beyond(s g h:Int):Int:=if g>s then h+1 else h-1
def HW(d:0<b)(e:g≠s):ramp s g b j=h↔reached s g b h<=j/\j<reached s g b (beyond s g h):=by
 unfold beyond;rcases(by lia:s<g\/g<s)with q | q
 .rw[vd q];have a:=up (h:=h) (j:=j) d q;have c:=up (h:=h+1) (j:=j) d q;lia
 .rw[vc ⋯];have a:=down (h:=h) (j:=j) d q;have c:=down (h:=h-1) (j:=j) d q;lia
def flat:ramp s s b j=s:=by
 unfold ramp
 simp_all
def ends(a:0<b):ramp s g b b=g:=by
 unfold ramp;rw[Int.mul_ediv_cancel _ ⋯];lia
noncomputable def imax(a b:Int):Int:=if b>a then b else a
noncomputable def ox(a b:Int):Int:=if b<a then b else a
noncomputable def fst(s g b h:Int):Int:=if g=s then 0 else imax (reached s g b h) 0
noncomputable def lst(s g b h m:Int):Int:=if g=s then(if h=s then m else 0)else imax (fst s g b h) (ox (reached s g b (beyond s g h)) m)
noncomputable def count(s g b h m:Int):Int:=lst s g b h m-fst s g b h
def D9:count s g b h 0=0:=by
 unfold count lst fst imax ox;split
 .split<;>rfl
 .split<;>split<;>lia
def EA(d:0<b)(f:0<=m):count s g b h (m+1)-count s g b h m=if ramp s g b m=h then 1 else 0:=by
 unfold count lst fst;by_cases e:g=s
 .subst e;rw[vd rfl,vd rfl,vd rfl,flat];by_cases q:h=g
  .rw[vd q,vd q,vd q.symm];lia
  .rw[vc q,vc q,vc (λz=>q z.symm)];lia
 .rw[vc e,vc e,vc e];have a:=HW (h:=h) (j:=m) d e;unfold imax ox;by_cases q:ramp s g b m=h
  .rw[vd q];have c:=a.mp q
   (repeat' split)<;>lia
  .rw[vc q];have c:¬(reached s g b h<=m/\m<reached s g b (beyond s g h)):=λz=>q (a.mpr z)
   (repeat' split)<;>lia
end Rp
namespace Pr
open PySem L2
noncomputable def cell(ns:L5)(k:Int):Int:=ns∘k.toNat
inductive dQ(K:cA)(vs:N2)(H:Hp)(Q:VK)(xk:XK):Prop
 | mk (a:Addr) (ns:L5) (k:Int) (_:vs=[.ref a,.int k]) (_:bZ K H a (ns.map V.int)) (_:⇑ns<=63) (_:0<=k) (_:Q (.int (cell ns k)) H):dQ K vs H Q xk
def BR:Sp:=λvs H Q q=>∃i,vs=[.int i]/\Q (.bl true) H
def G5{a:L5}{k:Int}(d:0<=k)(h:k<(⇑a:Int)):eW (a.map V.int) k=some (.int (cell a k)):=by
 have c:k=((k.toNat:Nat):Int):=⋯
 have b:k.toNat<⇑a:=⋯
 have q:eW (a.map V.int) ((k.toNat:Nat):Int)=some (.int a[k.toNat]):=jJ (by rw[vv,vz b]<;>rfl);rw[<-c]at q;rw[q];unfold cell;rw[vy,vz b];rfl
inductive gN(K:cA)(vs:N2)(H:Hp)(Q:VK)(xk:XK):Prop
 | mk (a:Addr) (ns:L5) (_:vs=[.ref a]) (_:bZ K H a (ns.map V.int)) (_:⇑ns<=63) (_:(∀x∈ns,Builtin.Int.intBits x<=1048576)) (_:∀H',Q (.bl true) H'):gN K vs H Q xk
def KI{H:Hp}(h:H p=none)(o:HO):bX H (upd H p o):=λb u q=>by rw[jg (je q h)];exact q
def KO:Sp:=λvs H Q q=>∃m t p b:Int,vs=[.int m,.int t,.int p,.int b]/\(0<=m/\m<=10^100/\-10^125<=t/\t<=10^125/\-10^125<=p/\p<=10^125/\0<b/\b<=10^125)/\Q (.int (Fs.fsum m t p b)) H
def B4(s g b j:Int):Prop:=-10^61<=s/\s<=10^61/\-10^61<=g/\g<=10^61/\0<b/\b<=10^61/\-10^61<=j/\j<=10^61
def Cj:Sp:=λvs H Q q=>∃s g b j:Int,vs=[.int s,.int g,.int b,.int j]/\B4 s g b j/\Q (.int (Rp.ramp s g b j)) H
noncomputable def oF(s g b m:Int):Int:=s*m+Fs.fsum m (g-s) 0 b
def wU:Sp:=λvs H Q q=>∃s g b m:Int,vs=[.int s,.int g,.int b,.int m]/\B4 s g b m/\0<=m/\Q (.int (oF s g b m)) H
def W0:Sp:=λvs H Q q=>∃s g b h:Int,vs=[.int s,.int g,.int b,.int h]/\B4 s g b h/\g≠s/\Q (.int (Rp.reached s g b h)) H
def W1:Sp:=λvs H Q q=>∃s g b h m:Int,vs=[.int s,.int g,.int b,.int h,.int m]/\B4 s g b h/\-10^60*2<=h/\h<=10^60*2/\
 ∀p H',bX H H'->H' p=some (.tup [.int (Rp.fst s g b h),.int (Rp.lst s g b h m)])->Q (.ref p) H'
def kh:Sp:=λvs H Q q=>∃s g b h m:Int,vs=[.int s,.int g,.int b,.int h,.int m]/\B4 s g b h/\-10^60*2<=h/\h<=10^60*2/\∀H',bX H H'->Q (.int (Rp.count s g b h m)) H'
end Pr
namespace Ws
open PySem PySem.NumText L2
noncomputable def lets:Str:="abcdefghijklmnopqrstuvwxyz"
noncomputable def among(x z:Str):Bool:=decide (∀c∈x.cps.toList,c∈z.cps.toList)
noncomputable def ff(x:Str):Bool:=decide (1<=⇑x/\⇑x<=8)&&among x lets
def Hn{H H':Hp}{p:Addr}{o:HO}(h:bX H H')(a:H p=none):bX H (upd H' p o):=λb u q=>by
 rw[jg (je q a)];exact h b u q
open PySem L2
end Ws
namespace Rm
open PySem PySem.NumText PyProof.Rows L2
def G9{x:Str}{lo hi:Nu}:⇑(Txt.slice x lo hi)<=⇑x:=Txt.slice_le x lo hi
def Gf:c∈Ws.lets.cps.toList↔97<=c/\c<=122:=by
 rw[show Ws.lets.cps.toList=List.range' 97 26 by trivial,List.mem_range'_1];lia
open PySem L2
def none_of{H H':Hp}(s:bX H H')(h:H' p=none):H p=none:=by
 cases e:H p with
 | none=>rfl
 | some u=>rw[s _ _ e]at h;cases h
inductive Fm where
 | hold (n:Int) | ring (x:Str) (n:Int) | rise (x:Str) (h n:Int) | row (ps:L8) | side (ps:L8) | again (k:Int) (x:Str)
abbrev N1:=List (Str×Fm)
noncomputable def ck(H:Hp)(a:Addr):Fm->Prop
 | .hold n=>H a=some (.tup [.str "hold",.int n])
 | .ring x n=>H a=some (.tup [.str "ring",.str x,.int n])
 | .rise x h n=>H a=some (.tup [.str "raise",.str x,.int h,.int n])
 | .row ps=>∃b,H a=some (.tup [.str "row",.ref b])/\H b=some (.tup (ps.map V.str))
 | .side ps=>∃b,H a=some (.tup [.str "side",.ref b])/\H b=some (.tup (ps.map V.str))
 | .again k x=>H a=some (.tup [.str "again",.int k,.str x])
def dN(H:Hp)(a:Addr)(p:Str×Fm):Prop:=∃b,H a=some (.tup [.str p.1,.ref b])/\ck H b p.2
def hU(H:Hp)(a:Addr)(p:Str×Int):Prop:=H a=some (.tup [.str p.1,.int p.2])
def cg{α:Type}(R:Addr->α->Prop)(as:L7)(xs:List α):Prop:=⇑as=⇑xs/\∀(i:Nat) (a:Addr) (x:α),as[i]?=some a->xs[i]?=some x->R a x
def cg.nil{b:Type}{R:Addr->b->Prop}:cg R [] []:=⟨rfl,λi a x h=>by simp at h⟩
def cg.mono{b:Type}{R S:Addr->b->Prop}{as:L7}{xs:List b}(h:cg R as xs)(k:∀a x,R a x->S a x):cg S as xs:=⟨h.1,λi a x c d=>k a x (h.2 i a x c d)⟩
def cg.snoc{f:Type}{R:Addr->f->Prop}{as:L7}{xs:List f}{a:Addr}{x:f}(h:cg R as xs)(k:R a x):cg R (as++[a]) (xs++[x]):=by
 have j:=h.1;refine⟨by simp[j],λi b y c d=>?_⟩;by_cases g:i<⇑as
 .rw[vB g]at c;rw[vB ⋯]at d;exact h.2 i b y c d
 .rw[vC ⋯]at c;rw[vC ⋯]at d;have e:i-⇑as=0:=by
   have:=(vx.mp c).1;simp at this;lia
  rw[e]at c;rw[show i-⇑xs=0 by lia]at d;simp at c d;subst c d;exact k
def cg.get{b:Type}{R:Addr->b->Prop}{as:L7}{xs:List b}{i:Nat}{x:b}(h:cg R as xs)(d:xs[i]?=some x):∃a,as[i]?=some a/\R a x:=by
 have e:=(vx.mp d).1;have f:=h.1;have c:as[i]?=some as[i]:=vz ⋯;exact⟨_,c,h.2 i _ _ c d⟩
section
variable{m:Rr}{f:Fm}{ks:L5}{g:Int}
def getD_snoc{a:Type}{l:List a}{x d:a}{j:Nat}(h:j<⇑l):(l++[x]).getD j d=l.getD j d:=by
 rw[vy,vy,vB h]
end
def getD_in{a:L8}{n:Nat}(h:n<⇑a):a.getD n ⟨#[]⟩∈a:=by
 rw[vy,vz h];exact getElem_mem h
def yz{as:L7}{i:Int}{a:Addr}(b:0<=i)(h:as[i.toNat]?=some a):eW (as.map V.ref) i=↥a:=by
 have e:eW (as.map V.ref) ((i.toNat:Nat):Int)=↥a:=jJ (by simp_all);rw[Int.toNat_of_nonneg b]at e;exact e
open PySem PySem.Spec PyProof.Rows L2
theorem wt:∀{ks:L5} {lo hi:Int},ks.Pairwise (· < ·)->(∀k∈ks,lo<=k/\k<hi)->⇑ks<=(hi-lo).toNat
 | [],_,_,_,_=>va _
 | k::r,lo,hi,h,b=>by
  have c:=wt (ks:=r) (lo:=k+1) (hi:=hi) (vU.mp h).2 λx a=>⟨(vU.mp h).1 x a,(b x (vp _ a)).2⟩
  have d:=b k vq;rw[vP];lia
def rQ{H:Hp}(h:H a=some (.lst [])):DV H (.ref a) (.list []):=.lst h .nil
def mP:SeqAt.shaped (.list [])=true:=PySem.W.ke_shaped_ints []
def Ii(n:Int):∀hs:L5,mL (.int n) (hs.map V.int)=decide (n∈hs):=by
 intro b
 induction b with
 | nil=>
  exact rfl
 | cons h r ih0=>
  have a:=ih0;unfold mL at a|-;rw[v7,any_cons,a];have e:lV (.int h) (.int n)=decide (h=n):=by
   show decide _=_;simp
  rw[e,Bool.eq_iff_iff];simp only[Bool.or_eq_true,decide_eq_true_eq,mem_cons];constructor
  .rintro(x | x)
   .exact .inl x.symm
   .exact .inr x
  .rintro(x | x)
   .exact .inl x.symm
   .exact .inr x
def DK(n:Int)(a:L5):(if false=true then !mL (.int n) (a.map V.int)else mL (.int n) (a.map V.int))=decide (n∈a):=by rw[vc nofun,Ii]
def sv:∀hs:L5,(hs.map V.int).all eu=true:=by
 intro a
 induction a with
 | nil=>
  exact rfl
 | cons h r ih0=>
  rw[v7,all_cons,ih0];rfl
def take_snoc{a:Type}{l:List a}{i:Nat}{x:a}(h:l[i]?=some x):l.take (i+1)=l.take i++[x]:=by
 rw[List.take_add_one,h];rfl
def Fh{c d:L5}(f:c.Perm d)(g:d.Nodup)(e:c.Pairwise (·<=·)):c.Pairwise (· < ·):=
 (List.Pairwise.and e (f.nodup_iff.mpr g)).imp λ{a b} h=>by have i:=h.1;have j:a≠b:=h.2;lia
def gc(n:Nat)(d:PyData):Prop:=d.canLay0=true/\d.depth<=n
def gc.int:gc 0 (.int i):=⟨rfl,vb _⟩
def gc.str(h:PyData.strOk x=true):gc 0 (.str x):=⟨h,vb _⟩
def gc.mono(h:gc n d)(a:n<=k):gc k d:=⟨h.1,vV h.2 a⟩
theorem KL:∀{ds:List PyData},(∀d∈ds,gc n d)->PyData.canLayAll0 ds=true/\PyData.depthAll ds<=n
 | [],_=>⟨rfl,va _⟩
 | d::r,h=>by
  have a:=h d vq;have b:=KL (ds:=r) λx c=>h x (vp _ c)
  constructor
  .show(d.canLay0&&PyData.canLayAll0 r)=true;rw[a.1,b.1];rfl
  .show max d.depth (PyData.depthAll r)<=n;exact Nat.max_le.mpr ⟨a.2,b.2⟩
def gc.lst(h:∀d∈ds,gc n d):gc (n+1) (.list ds):=⟨(KL h).1,Nat.succ_le_succ (KL h).2⟩
def gc.tup(h:∀d∈ds,gc n d):gc (n+1) (.tuple ds):=⟨(KL h).1,Nat.succ_le_succ (KL h).2⟩
def gc.ok(h:gc n d)(a:n<=64):SeqAt.shaped d=true:=by
 unfold SeqAt.shaped;rw[h.1,Bool.true_and];exact vG (vV h.2 a)
def Ck(h:Ws.ff x=true):PyData.strOk x=true:=by
 unfold Ws.ff Ws.among at h;rw[Bool.and_eq_true]at h;have a:=of_decide_eq_true h.2;unfold PyData.strOk;rw[Array.all_eq_true_iff_forall_mem];intro c b;have:=Gf.mp (a c #v[b]);exact vG ⋯
def ZM{H:Hp}:∀(xs:L8),oO H (xs.map V.str) (xs.map PyData.str):=by
 intro a
 induction a with
 | nil=>
  exact .nil
 | cons x r ih0=>
  exact .cons (.str x) (ih0)
def cg.tail{c:Type}{R:Addr->c->Prop}{a:Addr}{x:c}{as:L7}{xs:List c}(h:cg R (a::as) (x::xs)):R a x/\cg R as xs:=
 ⟨h.2 0 a x rfl rfl,Nat.succ.inj h.1,λi b y d e=>h.2 (i+1) b y #v[d] #v[e]⟩
noncomputable def m5:Fm->Prop
 | .hold n=>0<=n/\n<=10^18
 | .ring x n=>Ws.ff x=true/\0<=n/\n<=10^18
 | .rise x h n=>Ws.ff x=true/\0<=h/\h<=10^18/\0<=n/\n<=10^18
 | .row ps=>⇑ps<=8/\∀x∈ps,Ws.ff x=true
 | .side ps=>⇑ps<=8/\∀x∈ps,Ws.ff x=true
 | .again k x=>0<=k/\k<=10^18/\Ws.ff x=true
def KM{n:Nat}{xs:L8}(h:∀x∈xs,Ws.ff x=true):∀d∈xs.map PyData.str,gc n d:=λd a=>by
 let⟨x,b,rfl⟩:=vK.mp a;exact(gc.str (Ck (h x b))).mono (va _)
structure cH(H:Hp)(b pl pp:Addr)(las pas:L7)(ls:L4)(ps:N1):Prop where
 t:H b=some (.tup [.ref pl,.ref pp])
 l:H pl=some (.lst (las.map V.ref))
 la:cg (hU H) las ls
 p:H pp=some (.lst (pas.map V.ref))
 pa:cg (dN H) pas ps
def ck.same{H H':Hp}(s:bX H H')(h:ck H a f):ck H' a f:=by
 cases f with
 | row ps=>let⟨b,c,d⟩:=h;exact⟨b,s _ _ c,s _ _ d⟩
 | side ps=>let⟨b,c,d⟩:=h;exact⟨b,s _ _ c,s _ _ d⟩
 | hold n=>exact s _ _ h
 | ring x n=>exact s _ _ h
 | rise x g n=>exact s _ _ h
 | again x n=>exact s _ _ h
def dN.same{H H':Hp}(s:bX H H')(h:dN H a p):dN H' a p:=by
 let⟨b,c,d⟩:=h;exact⟨b,s _ _ c,ck.same s d⟩
def cH.same{H H':Hp}(B:cH H b pl pp las pas ls ps)(s:bX H H'):cH H' b pl pp las pas ls ps:=
 ⟨s _ _ B.t,s _ _ B.l,B.la.mono λa x h=>s _ _ h,s _ _ B.p,B.pa.mono λa x h=>dN.same s h⟩
def getD_inj{a:L8}(d:a.Nodup){i j:Nat}(hi:i<⇑a)(b:j<⇑a)(h:a.getD i ⟨#[]⟩=a.getD j ⟨#[]⟩):i=j:=by
 rw[vy,vy,vz hi,vz b]at h;have c:a[i]=a[j]:=h;rcases Nat.lt_trichotomy i j with q | q | q
 .exact uf c (pairwise_iff_getElem.mp d i j hi b q)
 .exact q
 .exact uf c.symm (pairwise_iff_getElem.mp d j i b hi q)
open PyProof.Rows.KTD (inKeys Dat)
def nF:eW (x::xs) 0=some x:=jJ (j:=0) rfl
def c8{A B:Prop}(e:b=false)(h:B):if b=true then A else B:=by rw[e];exact h
def eN{A B:Prop}(e:b=true)(h:A):if b=true then A else B:=by rw[e];exact h
def cg.cF{e:Type}{R:Addr->e->Prop}{as:L7}{xs:List e}{i:Nat}{v:V}(h:cg R as xs)(c:(as.map V.ref)[i]?=some v):∃a x,v = .ref a/\xs[i]?=some x/\R a x:=by
 rw[vv]at c;let⟨a,b,rfl⟩:=vg.mp c;have f:=(vx.mp b).1;have g:=h.1;have d:xs[i]?=some xs[i]:=vz ⋯;exact⟨a,_,rfl,d,h.2 i a _ b d⟩
theorem YX:∀{n:Nat} {hs:L5},hs.Nodup->(∀k∈hs,0<=k/\k<(n:Int))->⇑hs<=n
 | 0,hs,_,h=>by
  cases hs with
  | nil=>exact vb _
  | cons k r=>have:=h k vq;lia
 | n+1,hs,nd,h=>by
  by_cases e:(n:Int)∈hs
  .have i:=YX (n:=n) (nd.erase (n:Int)) λk a=>by
    have b:=h k (List.mem_of_mem_erase a);have c:k≠(n:Int):=λz=>nd.not_mem_erase (z▸a)
    lia
   have l:=List.length_erase_of_mem e;lia
  .have i:=YX (n:=n) nd λk a=>by
    have b:=h k a;have c:k≠(n:Int):=λz=>e (z▸a)
    lia
   lia
noncomputable def Fm.ns:Fm->L8
 | .row ps=>ps
 | .side ps=>ps
 | .again _ x=>[x]
 | _=>[]
noncomputable def gf(xs:L8):List (Key×V):=xs.zipIdx.map λp=>(Sum.inr p.1,.int (p.2:Nat))
def ET(xs:L8)(x:Str):gf (xs++[x])=gf xs++[(Sum.inr x,.int (⇑xs:Nat))]:=by
 unfold gf;rw[List.zipIdx_append,vj];simp
def Gk(xs:L8):⇑(gf xs)=⇑xs:=by simp[gf]
def Xb(xs:L8):(gf xs).map (·.1)=xs.map Sum.inr:=by
 unfold gf;rw[v4];have e:∀(k:Nat) (xs:L8),(xs.zipIdx k).map (Function.comp (λx=>x.1) λp:Str×Nat=>((Sum.inr p.1:Key),V.int (p.2:Nat)))=xs.map Sum.inr:=λk xs=>by
  induction xs generalizing k with
  | nil=>rfl
  | cons x r ih=>simp_all
 exact e 0 xs
def Ir{xs:L8}{j:Nat}{x:Str}(h:xs[j]?=some x):(gf xs)[j]?=some (Sum.inr x,.int (j:Nat)):=by
 unfold gf
 simp_all
theorem AG:∀{kvs:List (Key×V)} {j:Nat} {k:Key} {v:V},(kvs.map (·.1)).Nodup->kvs[j]?=some (k,v)->cO kvs k=some v
 | [],j,k,v,_,h=>by simp at h
 | p::r,0,k,v,_,h=>by
  simp at h;subst h;unfold cO;simp
 | p::r,j+1,k,v,nd,h=>by
  rw[v7,ur]at nd;have a:r[j]?=some (k,v):=by simpa using h
  have c:p.1≠k:=λe=>nd.1 (e▸vK.mpr ⟨(k,v),vm a,rfl⟩)
  have b:=AG nd.2 a;unfold cO at b|-;rw[List.find?_cons,vH c];exact b
def Kz{xs:L8}(a:xs.Nodup){j:Nat}{x:Str}(h:xs[j]?=some x):cO (gf xs) (Sum.inr x)=some (.int (j:Nat)):=
 AG (by rw[Xb];exact pairwise_map.mpr (a.imp λh e=>h (Sum.inr.inj e))) (Ir h)
def KH{kvs:List (Key×V)}{k:Key}{v:V}(h:k∉kvs.map (·.1)):putK kvs k v=kvs++[(k,v)]:=by
 unfold putK;rw[vc];intro e;let⟨p,b,a⟩:=any_eq_true.mp e;exact h (vK.mpr ⟨p,b,of_decide_eq_true a⟩)
noncomputable def cP:L8->Str->Nat
 | [],_=>0
 | y::r,x=>if y=x then 0 else cP r x+1
theorem JQ:∀{xs:L8} {j:Nat} {x:Str},xs.Nodup->xs[j]?=some x->cP xs x=j
 | [],j,x,_,h=>by simp at h
 | y::r,0,x,_,h=>by
  simp at h;subst h;exact vd rfl
 | y::r,j+1,x,nd,h=>by
  rw[ur]at nd;have a:r[j]?=some x:=by simpa using h
  have b:y≠x:=λe=>nd.1 (e▸vm a)
  show(if y=x then 0 else cP r x+1)=j+1;rw[vc b,JQ nd.2 a]
noncomputable def bW{α:Type}(ps:List (Str×α)):L8:=ps.map (·.1)
noncomputable def cG(ps:N1)(f:Fm):L6:=f.ns.map (cP (bW ps))
structure fY(ls:L4)(ps:N1):Prop where
 ln:(bW ls).Nodup
 l8:⇑ls<=8
 pn:(bW ps).Nodup
 l0:⇑ps<=61
 f:∀(i:Nat) (p:Str×Fm),ps[i]?=some p->(∀x∈p.2.ns,∃j,j<i/\(bW ps)[j]?=some x)/\⇑p.2.ns<=8
 r:∀(i:Nat) (y x:Str) (h n:Int),ps[i]?=some (y,.rise x h n)->∃j:Nat,(bW ls)[j]?=some x
def fY.cK(W:fY ls ps)(h:ps[i]?=some p)(a:j∈cG ps p.2):j<i:=by
 let⟨x,c,rfl⟩:=vK.mp a;let⟨k,b,e⟩:=(W.f i p h).1 x c;rw[JQ W.pn e];exact b
inductive cX(vs:N2)(H:Hp)(Q:VK)(xk:XK):Prop
 | mk (l:Addr) (as:L7) (xs:L8) (_:vs=[.ref l]) (_:H l=some (.lst (as.map V.ref))) (_:⇑as=⇑xs) (_:(∀(i:Nat) (a:Addr) (x:Str),as[i]?=some a->xs[i]?=some x->∃r,H a=some (.tup [.str x,r]))) (_:xs.Nodup) (_:⇑xs<=100) (_:∀(d:Addr) (H':Hp),bX H H'->H d=none->H' d=some (.dK (gf xs))->Q (.ref d) H'):cX vs H Q xk
inductive fx(vs:N2)(H:Hp)(Q:VK)(xk:XK):Prop
 | mk (a:Addr) (f:Fm) (_:vs=[.ref a]) (_:ck H a f) (_:∀(b:Addr) (H':Hp),bX H H'->H' b=some (.tup (f.ns.map V.str))->Q (.ref b) H'):fx vs H Q xk
def fD(H:Hp)(as:L7)(M:L1):Prop:=cg (λa ks=>H a=some (.lst (ks.map V.int))) as M
def cg.iS{c:Type}{R S:Addr->c->Prop}{as:L7}{xs:List c}(h:cg R as xs)(k:∀a∈as,∀x,R a x->S a x):cg S as xs:=⟨h.1,λi a x b d=>k a (vm b) x (h.2 i a x b d)⟩
inductive fu(vs:N2)(H:Hp)(Q:VK)(xk:XK):Prop
 | mk (b pl pp:Addr) (las pas:L7) (ls:L4) (ps:N1) (_:vs=[.ref b]) (_:cH H b pl pp las pas ls ps) (_:fY ls ps) (_:∀(l:Addr) (as:L7) (H':Hp),bX H H'->H l=none->H' l=some (.lst (as.map V.ref))->(∀a∈as,H a=none)->fD H' as (ps.map λp=>(cG ps p.2).map λj:Nat=>(j:Int))->Q (.ref l) H'):fu vs H Q xk
def sf(H:Hp)(bs:L7)(e:Nq):Prop:=cg (λb q=>H b=some (.tup [.int q.1,.int q.2])) bs e
def lJ(H:Hp)(as:L7)(E:L0):Prop:=cg (λa e=>∃bs,H a=some (.lst (bs.map V.ref))/\sf H bs e) as E
def eZ(E:L0)(is:L6)(k v:Int):Prop:=∃pre j post,is=pre++j::post/\(k,v)∈E.getD j []/\∀j'∈post,∀v',(k,v')∉E.getD j' []
def gY(ls:L4)(ps:N1)(E:L0)(f:Fm)(k v:Int):Prop:=eZ E (cG ps f) k v\/∃x n,f = .rise x v n/\k=(cP (bW ls) x:Nat)
def cI(ls:L4)(ps:N1)(E:L0):Prop:=∀(i:Nat) (p:Str×Fm) (e:Nq),ps[i]?=some p->E[i]?=some e->(e.map (·.1)).Pairwise (· < ·)/\∀k v,(k,v)∈e↔gY ls ps E p.2 k v
inductive gh(vs:N2)(H:Hp)(Q:VK)(xk:XK):Prop
 | mk (b pl pp:Addr) (las pas:L7) (ls:L4) (ps:N1) (_:vs=[.ref b]) (_:cH H b pl pp las pas ls ps) (_:fY ls ps) (_:∀(l:Addr) (as:L7) (E:L0) (H':Hp),bX H H'->H l=none->H' l=some (.lst (as.map V.ref))->(∀a∈as,H a=none)->⇑E=⇑ps->lJ H' as E->cI ls ps E->Q (.ref l) H'):gh vs H Q xk
def eM(ls:L4)(ps:N1)(M:L1):Prop:=∀(i:Nat) (p:Str×Fm) (ks:L5),ps[i]?=some p->M[i]?=some ks->ks.Pairwise (· < ·)/\∀k,k∈ks↔(∃j∈cG ps p.2,k∈M.getD j [])\/∃x h n,p.2 = .rise x h n/\k=(cP (bW ls) x:Nat)
inductive iB(vs:N2)(H:Hp)(Q:VK)(xk:XK):Prop
 | mk (b pl pp:Addr) (las pas:L7) (ls:L4) (ps:N1) (_:vs=[.ref b]) (_:cH H b pl pp las pas ls ps) (_:fY ls ps) (_:∀(l:Addr) (as:L7) (M:L1) (H':Hp),bX H H'->H l=none->H' l=some (.lst (as.map V.ref))->(∀a∈as,H a=none)->⇑M=⇑ps->fD H' as M->eM ls ps M->Q (.ref l) H'):iB vs H Q xk
theorem Dk:∀{a b:L5},a.Pairwise (· < ·)->b.Pairwise (· < ·)->(∀k,k∈a↔k∈b)->a=b
 | [],[],_,_,_=>rfl
 | [],y::s,_,_,h=>uf ((h y).mpr vq) (by simp)
 | x::r,[],_,_,h=>uf ((h x).mp vq) (by simp)
 | x::r,y::s,ha,hb,h=>by
  rw[vU]at ha hb;have e:x=y:=by
   rcases mem_cons.mp ((h x).mp vq)with q | q
   .exact q
   .rcases mem_cons.mp ((h y).mpr vq)with d | d
    .exact d.symm
    .have f:=hb.1 x q;have g:=ha.1 y d;lia
  subst e;congr 1;refine Dk ha.2 hb.2 λk=>⟨λc=>?_,λc=>?_⟩
  .rcases mem_cons.mp ((h k).mp (vp _ c))with q | q
   .have:=ha.1 k c;lia
   .exact q
  .rcases mem_cons.mp ((h k).mpr (vp _ c))with q | q
   .have:=hb.1 k c;lia
   .exact q
def getD_map{E:L0}(j:Nat):(E.map λe=>e.map (·.1)).getD j []=(E.getD j []).map (·.1):=by
 rw[vy,vy,vv];cases E[j]?<;>rfl
def XV{k:Int}{e:Nq}:k∈e.map (·.1)↔∃v,(k,v)∈e:=by
 simp_all
theorem XQ:∀{is:L6},(∃v,eZ E is k v)↔∃j∈is,∃v,(k,v)∈E.getD j []
 | []=>⟨λ⟨v,b,j,a,e,_⟩=>by cases b<;>simp at e,λ⟨j,h,_⟩=>by simp at h⟩
 | i::r=>by
  have p:=XQ (E:=E) (k:=k) (is:=r);constructor
  .rintro⟨v,b,j,a,e,c,m⟩;exact⟨j,by rw[e];simp,v,c⟩
  .rintro⟨j,d,v,n⟩;by_cases q:∃j∈r,∃v,(k,v)∈E.getD j []
   .let⟨l,b,g,a,e,c,m⟩:=p.mpr q;exact⟨l,i::b,g,a,by rw[e];rfl,c,m⟩
   .rcases mem_cons.mp d with rfl | d
    .exact⟨v,[],j,r,rfl,n,λg o l f=>q ⟨g,o,l,f⟩⟩
    .exact uf ⟨j,d,v,n⟩ q
def CZ{ls:L4}{ps:N1}{E:L0}(s:⇑E=⇑ps)(h:cI ls ps E):eM ls ps (E.map λe=>e.map (·.1)):=λi p t q d=>by
 rw[vv]at d;let⟨e,o,rfl⟩:=vg.mp d;let⟨a,b⟩:=h i p e q o;refine⟨a,λk=>?_⟩;rw[XV];constructor
 .rintro⟨v,r⟩;rcases(b k v).mp r with z | ⟨x,n,f,g⟩
  .let⟨j,l,m,c⟩:=XQ.mp ⟨v,z⟩;exact .inl ⟨j,l,by rw[getD_map];exact XV.mpr ⟨m,c⟩⟩
  .exact .inr ⟨x,v,n,f,g⟩
 .rintro(⟨j,l,d⟩ | ⟨x,h,n,f,g⟩)
  .rw[getD_map]at d;let⟨m,c⟩:=XV.mp d;let⟨v,z⟩:=XQ.mpr ⟨j,l,m,c⟩;exact⟨v,(b k v).mpr (.inl z)⟩
  .exact⟨h,(b k h).mpr (.inr ⟨x,n,f,g⟩)⟩
def CM(h:x∈xs):cP xs x<⇑xs:=by
 induction xs with
 | nil=>exact nomatch h
 | cons y r ih=>
  show(if y=x then 0 else cP r x+1)<⇑r+1;split
  .lia
  .rename_i hne;rcases mem_cons.mp h with e | e
   .exact uf e.symm hne
   .have:=ih e;lia
def Yi(W:fY ls ps)(s:⇑E<=⇑ps)(h:cI ls ps E):∀(i:Nat),∀q∈E.getD i [],0<=q.1/\q.1<(⇑ls:Int):=by
 intro i
 induction i using Nat.strongRecOn with
 | ind i ih=>
  intro q a;rw[vy]at a;cases e:E[i]? with
  | none=>rw[e]at a;exact nomatch a
  | some ev=>
   rw[e]at a;have r:=(vx.mp e).1;have f:ps[i]?=some ps[i]:=vz ⋯;let⟨Z,b⟩:=h i _ ev f e;rcases(b q.1 q.2).mp a with⟨m,j,k,c,d,_⟩ | ⟨x,n,c,d⟩
   .exact ih j (W.cK f (by rw[c];simp)) _ d
   .have g:ps[i]?=some (ps[i].1,.rise x q.2 n):=by rw[f,<-c]
    let⟨j,l⟩:=W.r i _ _ _ _ g;have o:=CM (vm l);have p:⇑(bW ls)=⇑ls:=vt _;rw[d];lia
def Bj{ls:L4}{ps:N1}(W:fY ls ps){E:L0}(f:⇑E<=⇑ps)(h:cI ls ps E){i:Nat}{e:Nq}(c:E[i]?=some e):⇑e<=8:=by
 have hi:=(vx.mp c).1;have a:=(h i _ e (vz ⋯) c).1;have b:=Yi W f h i;rw[vy,c]at b;have z:=wt (ks:=e.map (·.1)) (lo:=0) (hi:=⇑ls) a λk d=>by
  let⟨q,g,rfl⟩:=vK.mp d;exact b q g
 rw[vt]at z;have:=W.l8;lia
noncomputable def ig(kvs:Nq)(k v:Int):Nq:=if k∈kvs.map (·.1)then kvs.map (λq=>if q.1=k then(q.1,v)else q)else kvs++[(k,v)]
noncomputable def fh(kvs more:Nq):Nq:=more.foldl (λacc q=>ig acc q.1 q.2) kvs
def GO(kvs:Nq)(k v:Int):putK (kvs.map hG) (Sum.inl k) (.int v)=(ig kvs k v).map hG:=by
 have e:(((kvs.map hG).any λkv=>decide (kv.1=(Sum.inl k:Key)))=true)↔k∈kvs.map (·.1):=by
  rw[List.any_map,any_eq_true];constructor
  .rintro⟨q,a,h⟩;have b:(Sum.inl q.1:Key)=Sum.inl k:=of_decide_eq_true h;exact vK.mpr ⟨q,a,Sum.inl.inj b⟩
  .intro h;let⟨q,a,rfl⟩:=vK.mp h;exact⟨q,a,vG rfl⟩
 unfold putK ig;by_cases c:k∈kvs.map (·.1)
 .rw[vd (e.mpr c),vd c,v4,v4];refine map_congr_left λq j=>?_
  show(if(Sum.inl q.1:Key)=Sum.inl k then _ else _)=hG (if q.1=k then(q.1,v)else q);by_cases z:q.1=k
  .rw[vd z,vd (by rw[z])];rfl
  .rw[vc z,vc (λw=>z (Sum.inl.inj w))]
 .rw[vc (λw=>c (e.mp w)),vc c,vj];rfl
def kC:∀(more kvs:Nq),cS (kvs.map hG) (more.map hG)=(fh kvs more).map hG:=by
 intro a
 induction a with
 | nil=>
  intro kvs;exact rfl
 | cons q r ih0=>
  intro kvs;show cS (putK (kvs.map hG) (Sum.inl q.1) (.int q.2)) (r.map hG)=(fh (ig kvs q.1 q.2) r).map hG;rw[GO,ih0]
def E2(kvs:Nq)(k v:Int)(d:(kvs.map (·.1)).Nodup):((ig kvs k v).map (·.1)).Nodup:=by
 unfold ig;split
 .rw[v4];have e:kvs.map (Function.comp (λx=>x.1) λq=>if q.1=k then(q.1,v)else q)=kvs.map (·.1):=map_congr_left λq j=>by
   show(if q.1=k then(q.1,v)else q).1=q.1;split<;>rfl
  rw[e];exact d
 .rename_i c;rw[vj,nodup_append];exact⟨d,pairwise_singleton _ _,λa f b g e=>c (by rw[show k=b from(vo.mp g).symm,<-e];exact f)⟩
def Gg:(a,b)∈ig kvs k v↔(a=k/\b=v)\/(a≠k/\(a,b)∈kvs):=by
 unfold ig;split
 .rename_i c;rw[vK];constructor
  .rintro⟨q,d,e⟩;by_cases z:q.1=k
   .rw[vd z]at e;cases e;exact .inl ⟨z,rfl⟩
   .rw[vc z]at e;subst e;exact .inr ⟨z,d⟩
  .rintro(⟨rfl,rfl⟩ | ⟨f,g⟩)
   .let⟨q,d,e⟩:=vK.mp c;exact⟨q,d,by rw[vd e,e]⟩
   .exact⟨(a,b),g,by rw[vc f]⟩
 .rename_i c;rw[vh];constructor
  .rintro(h | h)
   .exact .inr ⟨λe=>c (e▸vK.mpr ⟨(a,b),h,rfl⟩),h⟩
   .cases vo.mp h;exact .inl ⟨rfl,rfl⟩
  .rintro(⟨rfl,rfl⟩ | ⟨_,h⟩)
   .exact .inr (vo.mpr rfl)
   .exact .inl h
theorem xW:∀{more kvs:Nq},(kvs.map (·.1)).Nodup->(more.map (·.1)).Nodup->((fh kvs more).map (·.1)).Nodup/\∀k v,(k,v)∈fh kvs more↔(k,v)∈more\/((∀c,(k,c)∉more)/\(k,v)∈kvs)
 | [],kvs,nd,_=>⟨nd,λk v=>⟨λh=>.inr ⟨(λZ h=>nomatch h),h⟩,λh=>h.elim (λh=>nomatch h) (·.2)⟩⟩
 | q::r,kvs,nd,nm=>by
  rw[v7,ur]at nm;let⟨a,b⟩:=xW (more:=r) (kvs:=ig kvs q.1 q.2) (E2 _ _ _ nd) nm.2;refine⟨a,λk v=>(b k v).trans ?_⟩;rw[Gg];have i:∀c,(q.1,c)∉r:=λc h=>nm.1 (vK.mpr ⟨_,h,rfl⟩)
  constructor
  .rintro(h | ⟨f,⟨rfl,rfl⟩ | ⟨g,j⟩⟩)
   .exact .inl (vp _ h)
   .exact .inl vq
   .refine .inr ⟨λc d=>?_,j⟩;rcases mem_cons.mp d with e | e
    .exact g (by rw[<-e])
    .exact f c e
  .rintro(h | ⟨f,g⟩)
   .rcases mem_cons.mp h with e | e
    .refine .inr ⟨λc d=>?_,.inl ⟨by rw[<-e],by rw[<-e]⟩⟩;rw[<-e]at i;exact i c d
    .exact .inl e
   .refine .inr ⟨λc d=>f c (vp _ d),.inr ⟨λe=>?_,g⟩⟩;exact f q.2 (by rw[e];exact vq)
def WL(b:(ms.map (·.1)).Nodup):fh [] ms=ms:=by
 have e:∀(r a:Nq),((a++r).map (·.1)).Nodup->fh a r=a++r:=by
  intro r
  induction r with
  | nil=>intro a j;exact(append_nil _).symm
  | cons q r ih=>
   intro a b;have c:q.1∉a.map (·.1):=λh=>by
    rw[vj,nodup_append]at b;exact b.2.2 q.1 h q.1 (by simp) rfl
   show fh (ig a q.1 q.2) r=_;unfold ig;rw[vc c,ih (a++[(q.1,q.2)]) (by rw[List.append_assoc];exact b),List.append_assoc];rfl
 exact e ms [] b
def FI:eZ E (is++[j]) k v↔(k,v)∈E.getD j []\/((∀m,(k,m)∉E.getD j [])/\eZ E is k v):=by
 constructor
 .rintro⟨c,i,a,e,g,l⟩;rcases List.eq_nil_or_concat a with rfl | ⟨b,x,rfl⟩
  .have f:=List.append_inj' (show is++[j]=c++[i]from e) rfl;have n:j=i:=by simpa using f.2
   rw[n];exact .inl g
  .have p:is++[j]=(c++i::b)++[x]:=by rw[e];simp
   have f:=List.append_inj' p rfl;have n:j=x:=by simpa using f.2
   subst n;exact .inr ⟨l j (by simp),c,i,b,f.1,g,λo d=>l o (by simp[d])⟩
 .rintro(h | ⟨g,c,i,a,e,l,q⟩)
  .exact⟨is,j,[],rfl,h,(λZ h=>nomatch h)⟩
  .refine⟨c,i,a++[j],by rw[e];simp,l,λo d m=>?_⟩;rcases vh.mp d with z | z
   .exact q o z m
   .rw[vo.mp z];exact g m
def Ku(h:∀j∈is,E.getD j []=E'.getD j []):eZ E is k v->eZ E' is k v:=by
 rintro⟨c,j,b,e,f,g⟩;refine⟨c,j,b,e,by rw[<-h j (by rw[e];simp)];exact f,λd a=>?_⟩;rw[<-h d (by rw[e];simp[a])];exact g d a
def cI.snoc{ls:L4}{ps:N1}(W:fY ls ps){E:L0}{p:Str×Fm}{e:Nq}(h:cI ls ps E)(u:ps[⇑E]?=some p)(o:(e.map (·.1)).Pairwise (· < ·))
  (r:∀k v,(k,v)∈e↔gY ls ps E p.2 k v):cI ls ps (E++[e]):=λi q f g c=>by
 have t:i<=⇑E:=by
  have:=(vx.mp c).1;rw[vn]at this;exact Nat.le_of_lt_succ this
 have ext:∀j∈cG ps q.2,E.getD j []=(E++[e]).getD j []:=λj l=>(getD_snoc (by have:=W.cK g l;lia)).symm
 have d:∀k v,gY ls ps E q.2 k v↔gY ls ps (E++[e]) q.2 k v:=λk v=>by
  unfold gY;exact⟨λh=>h.imp (Ku ext) id,λh=>h.imp (Ku λj l=>(ext j l).symm) id⟩
 by_cases s:i<⇑E
 .rw[vB s]at c;let⟨a,b⟩:=h i q f g c;exact⟨a,λk v=>(b k v).trans (d k v)⟩
 .have n:i=⇑E:=⋯
  subst n;rw[vC (vb _),Nat.sub_self]at c;have m:e=f:=by simpa using c
  subst m;rw[u]at g;cases g;exact⟨o,λk v=>(r k v).trans (d k v)⟩
def Bp{H:Hp}(h:ck H a f)(d:∀x v n,f≠.rise x v n):∃k xs,H a=some (.tup (.str k::xs))/\decide (k=("raise" : Str))=false:=by
 cases f with
 | hold n=>exact⟨_,_,h,by trivial⟩
 | ring x n=>exact⟨_,_,h,by trivial⟩
 | rise x v n=>exact uf rfl (d x v n)
 | row ps=>let⟨b,c,q⟩:=h;exact⟨_,_,c,by trivial⟩
 | side ps=>let⟨b,c,q⟩:=h;exact⟨_,_,c,by trivial⟩
 | again k x=>exact⟨_,_,h,by trivial⟩
noncomputable def rh(ls:L4):Fm->List (Int×Int)
 | .rise x h _=>[((cP (bW ls) x:Nat),h)]
 | _=>[]
def Ij(a:∀x v n,f≠.rise x v n):rh ls f=[]:=by
 cases f with
 | rise x v n=>exact uf rfl (a x v n)
 | _=>rfl
def XW:(k,v)∈rh ls f↔∃x n,f = .rise x v n/\k=(cP (bW ls) x:Nat):=by
 cases f with
 | rise x h n=>
  constructor
  .intro a;cases vo.mp a;exact⟨x,n,rfl,rfl⟩
  .rintro⟨c,b,e,rfl⟩;injection e with e1 e2 e3;subst e1 e2;exact vo.mpr rfl
 | _=>exact⟨(λh=>nomatch h),λ⟨_,_,e,_⟩=>nomatch e⟩
def IU(f:Fm):cG ps f=[]\/rh ls f=[]:=by
 cases f with
 | rise x h n=>exact .inl rfl
 | _=>exact .inr rfl
def IV(f:Fm):((rh ls f).map (·.1)).Nodup:=by
 cases f with
 | rise x h n=>exact pairwise_singleton _ _
 | _=>exact .nil
inductive dZ(vs:N2)(H:Hp)(Q:VK)(xk:XK):Prop
 | mk (r:Int) (l ll:Addr) (as las:L7) (M:L1) (_:vs=[.int r,.ref l,.ref ll]) (_:H l=some (.lst (as.map V.ref))) (_:fD H as M) (_:(∀ks∈M,ks≠[])) (_:⇑M<=8) (_:H ll=some (.lst (las.map V.ref))) (_:(∀k:Int,⇑(M.filter λks=>decide (k∈ks))<=1)) (_:∀H',bX H H'->Q .cW H'):dZ vs H Q xk
noncomputable def iQ:Fm->L5->Int->Prop
 | .hold n,_,g=>g=n
 | .ring _ n,_,g=>g=n
 | .rise _ _ n,_,g=>g=n
 | .row _,gs,g=>g=gs.sum
 | .side _,gs,g=>g∈gs/\∀x∈gs,x<=g
 | .again k _,gs,g=>∃y,gs.head?=some y/\g=k*y
noncomputable def nu:Fm->L5->Prop
 | .side _,gs=>gs≠[]
 | .again k _,gs=>∃y r,gs=y::r/\0<=k/\k<=10^18/\0<=y/\y<=10^60
 | _,_=>True
inductive eI(vs:N2)(H:Hp)(Q:VK)(xk:XK):Prop
 | mk (a l:Addr) (f:Fm) (gs:L5) (_:vs=[.ref a,.ref l]) (_:ck H a f) (_:H l=some (.lst (gs.map V.int))) (_:nu f gs) (_:∀g,iQ f gs g->Q (.int g) H):eI vs H Q xk
structure rK(ls:L4)(ps:N1)(gs:L5)(hs:L1):Prop where
 w:fY ls ps
 gl:⇑gs=⇑ps
 gb:∀i,i<⇑ps->0<=gs∘i/\gs∘i<=10^60
 mv:∀M:L1,⇑M=⇑ps->eM ls ps M->∀i,i<⇑ps->M.getD i []=hs.getD i []
 ln:∀(i:Nat) (p:Str×Fm),ps[i]?=some p->nu p.2 ((cG ps p.2).map λj=>gs∘j)/\∀g,iQ p.2 ((cG ps p.2).map λj=>gs∘j) g->g=gs∘i
 sd:∀(i:Nat) (p:Str×Fm) (qs:L8),ps[i]?=some p->p.2 = .side qs->(∀j∈cG ps p.2,hs.getD j []≠[])/\∀k:Int,⇑(((cG ps p.2).map λj=>hs.getD j []).filter λks=>decide (k∈ks))<=1
inductive dR(vs:N2)(H:Hp)(Q:VK)(xk:XK):Prop
 | mk (b pl pp:Addr) (las pas:L7) (ls:L4) (ps:N1) (gs:L5) (hs:L1) (_:vs=[.ref b]) (_:cH H b pl pp las pas ls ps) (_:rK ls ps gs hs) (_:∀(l:Addr) (H':Hp),bX H H'->H l=none->H' l=some (.lst (gs.map V.int))->Q (.ref l) H'):dR vs H Q xk
def any_empty{M:L1}(h:∀ks∈M,ks≠[]):(M.any λks=>decide (ks=[]))=false:=by
 rw[List.any_eq_false];intro ks a;simpa using h ks a
def Ih{gs:L5}{i:Nat}(h:i<⇑gs):gs.take (i+1)=gs.take i++[gs∘i]:=by
 refine take_snoc ?_;rw[vy,vz h];rfl
def AM{gs:L5}{i j:Nat}(hi:i<=⇑gs)(a:j<i):eW ((gs.take i).map V.int) (j:Int)=some (.int (gs∘j)):=by
 refine jJ ?_;rw[vv,List.getElem?_take,vd a,vy,vz ⋯];rfl
theorem Cp:∀{a b:Nq},(a.map (·.1)).Pairwise (· < ·)->(b.map (·.1)).Pairwise (· < ·)->(∀k v,(k,v)∈a↔(k,v)∈b)->a=b
 | [],[],_,_,_=>rfl
 | [],y::s,_,_,h=>uf ((h y.1 y.2).mpr vq) (by simp)
 | x::r,[],_,_,h=>uf ((h x.1 x.2).mp vq) (by simp)
 | x::r,y::s,ha,hb,h=>by
  rw[v7,vU]at ha hb;have g:∀q∈r,x.1<q.1:=λq d=>ha.1 _ (vK.mpr ⟨q,d,rfl⟩)
  have i:∀q∈s,y.1<q.1:=λq d=>hb.1 _ (vK.mpr ⟨q,d,rfl⟩)
  have e:x=y:=by
   rcases mem_cons.mp ((h x.1 x.2).mp vq)with q | q
   .exact q
   .rcases mem_cons.mp ((h y.1 y.2).mpr vq)with f | f
    .exact f.symm
    .have j:=i _ q;have l:=g _ f;simp only at j l;lia
  subst e;rw[Cp ha.2 hb.2 λk v=>?_];constructor
  .intro c;rcases mem_cons.mp ((h k v).mp (vp _ c))with q | q
   .have:=g _ c;rw[<-q]at this;simp only at this;lia
   .exact q
  .intro c;rcases mem_cons.mp ((h k v).mpr (vp _ c))with q | q
   .have:=i _ c;rw[<-q]at this;simp only at this;lia
   .exact q
def Ic{xs:N2}{k:Nat}:fc xs none (some (k:Int))=xs.take k:=by
 unfold fc;rw[show HT.c9 ⇑xs 0 none=0 from rfl,HT.Ce,List.drop_zero,Nat.sub_zero,List.take_eq_take_iff];lia
def Im(W:fY ls ps)(m:⇑M=⇑ps)(h:eM ls ps M):∀(i:Nat),∀k∈M.getD i [],0<=k/\k<(⇑ls:Int):=by
 intro i
 induction i using Nat.strongRecOn with
 | ind i ih=>
  intro k a;rw[vy]at a;cases e:M[i]? with
  | none=>rw[e]at a;exact nomatch a
  | some ks=>
   rw[e]at a;have l:=(vx.mp e).1;have d:ps[i]?=some ps[i]:=vz ⋯;let⟨q,b⟩:=h i _ ks d e;rcases(b k).mp a with⟨j,c,f⟩ | ⟨x,v,n,g,rfl⟩
   .exact ih j (W.cK d c) k f
   .let⟨j,c⟩:=W.r i (ps[i]).1 x v n (by rw[d,<-g]);rw[JQ W.ln c];have:=(vx.mp c).1;unfold bW at this;rw[vt]at this;lia
def BX{ls:L4}{ps:N1}(W:fY ls ps){M:L1}(d:⇑M=⇑ps)(h:eM ls ps M){i:Nat}{ks:L5}(c:M[i]?=some ks):⇑ks<=8:=by
 have hi:=(vx.mp c).1;have a:=(h i _ ks (vz ⋯) c).1;have b:=Im W d h i;rw[vy,c]at b;have z:=wt (ks:=ks) (lo:=0) (hi:=⇑ls) a b;have:=W.l8;lia
def ck.keep{H H':Hp}(k:∀c xs,H c=some (.tup xs)->H' c=some (.tup xs))(h:ck H a f):ck H' a f:=by
 cases f with
 | row ps=>let⟨c,b,d⟩:=h;exact⟨c,k _ _ b,k _ _ d⟩
 | side ps=>let⟨c,b,d⟩:=h;exact⟨c,k _ _ b,k _ _ d⟩
 | hold n=>exact k _ _ h
 | ring x n=>exact k _ _ h
 | rise x g n=>exact k _ _ h
 | again x n=>exact k _ _ h
def dN.keep{H H':Hp}(k:∀c xs,H c=some (.tup xs)->H' c=some (.tup xs))(h:dN H a p):dN H' a p:=by
 let⟨b,d,e⟩:=h;exact⟨b,k _ _ d,ck.keep k e⟩
def Gs(a:0<=i)(h:xs[i.toNat]?=some c):eW xs i=some c:=by
 have q:∀k:Nat,xs[k]?=some c->eW xs (k:Int)=some c:=λk d=>by
  let⟨b,rfl⟩:=vx.mp d;unfold eW lF;simp[b]
 have:=q i.toNat h;rw[Int.toNat_of_nonneg a]at this;exact this
def DM{n:Nat}{k:Int}(a:0<=k)(c:k<n):lF n k=some k.toNat:=by
 have b:∀j:Nat,j<n->lF n (j:Int)=some j:=λj h=>by
  unfold lF;simp[h]
 have q:=b k.toNat ⋯;rw[Int.toNat_of_nonneg a]at q;exact q
noncomputable abbrev Pc:=Nat×Int×Int
noncomputable abbrev hV:=Nat×Int×Int×Option Int
noncomputable def cT(gs:L5):L6->Int->List Pc
 | [],_=>[]
 | j::r,b=>(j,1,b)::cT gs r (b+gs∘j)
noncomputable def de(gs:L5)(f:Fm)(is:L6):List Pc:=
 match f with
 | .again k _=>match is with
  | []=>[]
  | j::_=>(j,1,0)::(if 1<k then[(j,k-1,gs∘j)]else[])
 | .row _=>cT gs is 0
 | _=>is.map λj=>(j,1,0)
def fZ(H:Hp)(as:L7)(qs:List Pc):Prop:=cg (λa q=>H a=some (.tup [.int (q.1:Nat),.int q.2.1,.int q.2.2])) as qs
def hY(H:Hp)(as:L7)(qss:List (List Pc)):Prop:=cg (λa qs=>∃bs,H a=some (.lst (bs.map V.ref))/\fZ H bs qs) as qss
inductive eJ(vs:N2)(H:Hp)(Q:VK)(xk:XK):Prop
 | mk (a l s:Addr) (f:Fm) (is:L6) (gs:L5) (_:vs=[.ref a,.ref l,.ref s]) (_:ck H a f) (_:H l=some (.lst ((is.map λj:Nat=>(j:Int)).map V.int))) (_:H s=some (.lst (gs.map V.int))) (_:⇑is<=8) (_:(∀j∈is,j<⇑gs)) (_:(∀k x,f = .again k x->is≠[])) (_:∀(p:Addr) (as:L7) (H':Hp),bX H H'->H p=none->H' p=some (.lst (as.map V.ref))->fZ H' as (de gs f is)->Q (.ref p) H'):eJ vs H Q xk
inductive dj(vs:N2)(H:Hp)(Q:VK)(xk:XK):Prop
 | mk (b pl pp s:Addr) (las pas:L7) (ls:L4) (ps:N1) (gs:L5) (_:vs=[.ref b,.ref s]) (_:cH H b pl pp las pas ls ps) (_:fY ls ps) (_:H s=some (.lst (gs.map V.int))) (_:⇑gs=⇑ps) (_:∀(l:Addr) (as:L7) (H':Hp),bX H H'->H l=none->H' l=some (.lst (as.map V.ref))->hY H' as (ps.map λp=>de gs p.2 (cG ps p.2))->(∀a∈as,H a=none)->Q (.ref l) H'):dj vs H Q xk
noncomputable def ov(gs:L5)(t:Int)(q:Pc):Int:=if q.2.1<(t-q.2.2)/gs∘q.1 then q.2.1 else(t-q.2.2)/gs∘q.1
noncomputable def cZ(gs:L5)(t:Int)(q:Pc):Option hV:=
 if q.2.2<=t then some (q.1,q.2.2,ov gs t q,if ov gs t q<q.2.1 then some (t-q.2.2-ov gs t q*gs∘q.1)else none)else none
noncomputable def dA(gs:L5)(t:Int)(qs:List Pc):List hV:=qs.filterMap (cZ gs t)
noncomputable def dD:Option Int->V
 | none=>.cW
 | some r=>.int r
def nz(H:Hp)(as:L7)(ys:List hV):Prop:=cg (λa y=>H a=some (.tup [.int (y.1:Nat),.int y.2.1,.int y.2.2.1,dD y.2.2.2])) as ys
def fS(gs:L5)(q:Pc):Prop:=q.1<⇑gs/\1<=gs∘q.1/\gs∘q.1<=10^60/\1<=q.2.1/\q.2.1<=10^18/\0<=q.2.2/\q.2.2<=10^62
inductive dB(vs:N2)(H:Hp)(Q:VK)(xk:XK):Prop
 | mk (l s:Addr) (t:Int) (bs:L7) (qs:List Pc) (gs:L5) (_:vs=[.ref l,.ref s,.int t]) (_:H l=some (.lst (bs.map V.ref))) (_:fZ H bs qs) (_:H s=some (.lst (gs.map V.int))) (_:⇑qs<=8) (_:(∀q∈qs,fS gs q)) (_:0<=t) (_:t<=10^62) (_:∀(p:Addr) (as:L7) (H':Hp),bX H H'->H p=none->H' p=some (.lst (as.map V.ref))->nz H' as (dA gs t qs)->Q (.ref p) H'):dB vs H Q xk
def dM(H:Hp)(as:L7)(xs:L3):Prop:=cg (λa x=>H a=some (.tup [.int (x.1:Nat),.int x.2])) as xs
noncomputable def dF(gs:L5)(y:hV):L3:=(if 0<y.2.2.1 then[(y.1,gs∘y.1)]else[])++(match y.2.2.2 with | some r=>[(y.1,r)] | none=>[])
noncomputable def eV(gs:L5)(t:Int)(qs:List Pc):L3:=(dA gs t qs).flatMap (dF gs)
inductive gW(vs:N2)(H:Hp)(Q:VK)(xk:XK):Prop
 | mk (l s:Addr) (t:Int) (bs:L7) (qs:List Pc) (gs:L5) (_:vs=[.ref l,.ref s,.int t]) (_:H l=some (.lst (bs.map V.ref))) (_:fZ H bs qs) (_:H s=some (.lst (gs.map V.int))) (_:⇑qs<=8) (_:(∀q∈qs,fS gs q)) (_:0<=t) (_:t<=10^62) (_:∀(p:Addr) (as:L7) (H':Hp),bX H H'->H p=none->H' p=some (.lst (as.map V.ref))->dM H' as (eV gs t qs)->Q (.ref p) H'):gW vs H Q xk
noncomputable def fV(pc:Nat->List Pc)(gs:L5):Nat->Nat->Int->L3
 | 0,i,t=>[(i,t)]
 | n+1,i,t=>if gs∘i<=t\/pc i=[]then[(i,t)]else(eV gs t (pc i)).flatMap λx=>fV pc gs n x.1 x.2
noncomputable def fi(pc:Nat->List Pc)(gs:L5):Nat->Nat->Int->Nat
 | 0,_,_=>1
 | n+1,i,t=>if gs∘i<=t\/pc i=[]then 1 else 1+((eV gs t (pc i)).map λx=>fi pc gs n x.1 x.2).sum
noncomputable def cy(ps:N1)(gs:L5)(i:Nat):List Pc:=match ps[i]? with | some p=>de gs p.2 (cG ps p.2) | none=>[]
section
variable{gs:L5}{t:Int}
def YV(h:q∈cT gs is b):q.1∈is/\q.2.1=1:=by
 induction is generalizing b with
 | nil=>exact nomatch h
 | cons j r ih=>
  rcases mem_cons.mp h with rfl | h
  .exact⟨vq,rfl⟩
  .let⟨a,b⟩:=ih h;exact⟨vp _ a,b⟩
def FL(is:L6)(b:Int):⇑(cT gs is b)=⇑is:=by
 induction is generalizing b with
 | nil=>rfl
 | cons j r ih=>rw[cT,vP,vP,ih]
def wT(d:∀j∈is,0<=gs∘j/\gs∘j<=10^60)(h:q∈cT gs is b):b<=q.2.2/\q.2.2<=b+10^60*⇑is:=by
 induction is generalizing b with
 | nil=>exact nomatch h
 | cons j r ih=>
  have g:=d j vq;rw[vP];rcases mem_cons.mp h with rfl | h
  .have:(0:Int)<=10^60*((⇑r+1:Nat):Int):=vM nofun ⋯;exact⟨vA _,by show b<=_;lia⟩
  .let⟨a,c⟩:=ih (λk e=>d k (vp _ e)) h;refine⟨⋯,?_⟩;rw[show((⇑r+1:Nat):Int)=(⇑r:Int)+1 by lia,Int.mul_add];lia
def Yn(h:q∈de gs f is):q.1∈is:=by
 unfold de at h;split at h
 .split at h
  .exact nomatch h
  .rcases mem_cons.mp h with rfl | h
   .exact vq
   .split at h
    .rw[vo.mp h];exact vq
    .exact nomatch h
 .exact(YV h).1
 .let⟨j,a,rfl⟩:=vK.mp h;exact a
def Kw(a:⇑is<=8):⇑(de gs f is)<=8:=by
 unfold de;split
 .split
  .exact va _
  .split<;>simp
 .rw[FL];exact a
 .rw[vt];exact a
def YU(h:y∈dA gs t qs):∃q∈qs,cZ gs t q=some y:=mem_filterMap.mp h
def XT(a:List Pc):⇑(dA gs t a)<=⇑a:=List.length_filterMap_le _ _
def WQ(h:cZ gs t q=some y):y.1=q.1:=by
 unfold cZ at h;split at h
 .cases h;rfl
 .cases h
def XX(h:x∈eV gs t qs):∃q∈qs,x.1=q.1:=by
 let⟨y,c,a⟩:=mem_flatMap.mp h;let⟨q,b,e⟩:=YU c;refine⟨q,b,?_⟩;rw[<-WQ e];unfold dF at a;rcases vh.mp a with z | z
 .split at z
  .rw[vo.mp z]
  .exact nomatch z
 .split at z
  .rw[vo.mp z]
  .exact nomatch z
def Gd(y:hV):⇑(dF gs y)<=2:=by
 unfold dF;rw[vn];have a:⇑(if 0<y.2.2.1 then[(y.1,gs∘y.1)]else[])<=1:=by split<;>simp
 have b:⇑(match y.2.2.2 with | some r=>[(y.1,r)] | none=>[]:L3)<=1:=by split<;>simp
 lia
def Il(a:List Pc):⇑(eV gs t a)<=2*⇑a:=by
 have h:∀b:List hV,⇑(b.flatMap (dF gs))<=2*⇑b:=λb=>by
  induction b with
  | nil=>exact va _
  | cons y r ih=>
   rw[flatMap_cons,vn,vP];have:=Gd (gs:=gs) y;lia
 have:=h (dA gs t a);have:=XT (gs:=gs) (t:=t) a;unfold eV;lia
end
section
variable{ls:L4}{ps:N1}{gs:L5}
def zK(W:fY ls ps)(h:q∈cy ps gs i):q.1<i:=by
 unfold cy at h;split at h
 .rename_i p hp;exact W.cK hp (Yn h)
 .exact nomatch h
def ZB(W:fY ls ps)(h:x∈eV gs t (cy ps gs i)):x.1<i:=by
 let⟨q,a,e⟩:=XX h;rw[e];exact zK W a
def Y9{a d:Type}{f g:a->List d}:∀{l:List a},(∀x∈l,f x=g x)->l.flatMap f=l.flatMap g:=by
 intro c
 induction c with
 | nil=>
  intro q;exact rfl
 | cons x r ih0=>
  intro h;rw[flatMap_cons,flatMap_cons,h x vq,ih0 λy b=>h y (vp _ b)]
theorem WT(W:fY ls ps):∀{n m i:Nat} {t:Int},i<n->i<m->fV (cy ps gs) gs n i t=fV (cy ps gs) gs m i t
 | 0,_,_,_,h,_=>uf h (Nat.not_lt_zero _)
 | _,0,_,_,_,h=>uf h (Nat.not_lt_zero _)
 | n+1,m+1,i,t,h1,h2=>by
  unfold fV;split
  .rfl
  .exact Y9 λx a=>by
    have:=ZB W a;exact WT W ⋯ ⋯
theorem WM(W:fY ls ps):∀{n m i:Nat} {t:Int},i<n->i<m->fi (cy ps gs) gs n i t=fi (cy ps gs) gs m i t
 | 0,_,_,_,h,_=>uf h (Nat.not_lt_zero _)
 | _,0,_,_,_,h=>uf h (Nat.not_lt_zero _)
 | n+1,m+1,i,t,h1,h2=>by
  unfold fi;split
  .rfl
  .congr 2;exact map_congr_left λx a=>by
    have:=ZB W a;exact WM W ⋯ ⋯
noncomputable def reach(ps:N1)(gs:L5)(i:Nat)(t:Int):L3:=fV (cy ps gs) gs (i+1) i t
noncomputable def nodes(ps:N1)(gs:L5)(i:Nat)(t:Int):Nat:=fi (cy ps gs) gs (i+1) i t
def JE(h:gs∘i<=t\/cy ps gs i=[]):reach ps gs i t=[(i,t)]:=by
 unfold reach fV;rw[vd h]
def Qi(W:fY ls ps)(h:¬(gs∘i<=t\/cy ps gs i=[])):reach ps gs i t=(eV gs t (cy ps gs i)).flatMap λx=>reach ps gs x.1 x.2:=by
 unfold reach;rw[fV,vc h];exact Y9 λx a=>by
  have:=ZB W a;exact WT W ⋯ ⋯
def kD(h:gs∘i<=t\/cy ps gs i=[]):nodes ps gs i t=1:=by
 unfold nodes fi;rw[vd h]
def WN(W:fY ls ps)(h:¬(gs∘i<=t\/cy ps gs i=[])):nodes ps gs i t=1+((eV gs t (cy ps gs i)).map λx=>nodes ps gs x.1 x.2).sum:=by
 unfold nodes;rw[fi,vc h];congr 2;exact map_congr_left λx a=>by
  have:=ZB W a;exact WM W ⋯ ⋯
def YW(i:Nat)(t:Int):1<=nodes ps gs i t:=by
 unfold nodes fi;split<;>lia
end
section
variable{gs:L5}{t:Int}
noncomputable def wq(gs:L5)(t:Int)(q:Pc):L3:=match cZ gs t q with | some y=>dF gs y | none=>[]
def Y2:eV gs t []=[]:=rfl
def Qz(q:Pc)(a:List Pc):eV gs t (q::a)=wq gs t q++eV gs t a:=by
 unfold eV dA wq;rw[filterMap_cons];cases cZ gs t q with
 | none=>rfl
 | some y=>rfl
def CS(h:t<q.2.2):wq gs t q=[]:=by
 unfold wq cZ;rw[vc ⋯]
def W3(d:1<=gs∘j)(h:b<=t):wq gs t (j,1,b)=if gs∘j<=t-b then[(j,gs∘j)]else[(j,t-b)]:=by
 have c:wq gs t (j,1,b)=dF gs (j,b,ov gs t (j,1,b),if ov gs t (j,1,b)<1 then some (t-b-ov gs t (j,1,b)*gs∘j)else none):=by
  unfold wq cZ;rw[vd (show b<=t from h)]
 rw[c];generalize a:gs∘j=g at d|-;have e:ov gs t (j,1,b)=if g<=t-b then 1 else 0:=by
  show(if(1:Int)<(t-b)/gs∘j then(1:Int)else(t-b)/gs∘j)=_;rw[a];by_cases z:g<=t-b
  .rw[vd z];have:1<=(t-b)/g:=by
    rw[Int.le_ediv_iff_mul_le ⋯];lia
   split<;>lia
  .rw[vc z];have:(t-b)/g=0:=Int.ediv_eq_zero_of_lt ⋯ ⋯;rw[this];rfl
 by_cases z:g<=t-b
 .rw[vd z]at e;rw[vd z,e];unfold dF
  simp_all
 .rw[vc z]at e;rw[vc z,e];unfold dF;simp
def Ah(h:q.2.2<=t):wq gs t q=(if 0<ov gs t q then[(q.1,gs∘q.1)]else[])++(if ov gs t q<q.2.1 then[(q.1,t-q.2.2-ov gs t q*gs∘q.1)]else[]):=by
 unfold wq cZ;rw[vd h];show dF gs _=_;unfold dF;congr 1;show(match(if ov gs t q<q.2.1 then some (t-q.2.2-ov gs t q*gs∘q.1)else none)with | some r=>[(q.1,r)] | none=>[])=_;split<;>rename_i e<;>split at e
 .cases e;rw[vd (by assumption)]
 .cases e
 .cases e
 .rw[vc (by assumption)]
def W4:∀{a:List Pc},(∀q∈a,t<q.2.2)->eV gs t a=[]:=by
 intro c
 induction c with
 | nil=>
  intro j;exact rfl
 | cons q r ih0=>
  intro h;rw[Qz,CS (h q vq),ih0 λq b=>h q (vp _ b)];rfl
def WU(a:∀j∈is,0<=gs∘j/\gs∘j<=10^60)(h:t<b):eV gs t (cT gs is b)=[]:=
 W4 λq c=>by have:=(wT a c).1;lia
def Yu(a:∀k∈j::r,1<=gs∘k/\gs∘k<=10^60)(h:b<=t):eV gs t (cT gs (j::r) b)=if gs∘j<=t-b then(j,gs∘j)::eV gs t (cT gs r (b+gs∘j))else[(j,t-b)]:=by
 have g:=a j vq;rw[cT,Qz,W3 g.1 h];split
 .rfl
 .rw[WU (λk c=>by have:=a k (vp _ c);lia) ⋯];rfl
theorem Ds{a:Type}{f g:a->Nat}:∀{l:List a},(∀x∈l,f x<=g x)->(l.map f).sum<=(l.map g).sum
 | [],_=>vb _
 | x::r,h=>by
  rw[v7,v7,v8,v8];have:=h x vq;have:=Ds (l:=r) λy b=>h y (vp _ b)
  lia
theorem Cc{N:Nat×Int->Nat}:∀{is:L6} {b:Int},(∀k∈is,1<=gs∘k/\gs∘k<=10^60)->(∀k∈is,N (k,gs∘k)=1)->(∀k∈is,∀r,0<=r->N (k,r)<=B)->((eV gs t (cT gs is b)).map N).sum<=⇑is+B
 | [],b,_,_,_=>va _
 | j::r,b,hg,h1,h2=>by
  by_cases h:b<=t
  .rw[Yu hg h];split
   .rw[v7,v8,h1 j vq,vP];have:=Cc (N:=N) (B:=B) (is:=r) (b:=b+gs∘j) (λk a=>hg k (vp _ a)) (λk a=>h1 k (vp _ a)) λk a=>h2 k (vp _ a)
    lia
   .have:=h2 j vq (t-b) ⋯;simp;lia
  .rw[WU (λk a=>by have:=hg k a;lia) ⋯];exact va _
def WZ{is:L6}(a:∀k∈is,1<=gs∘k)(c:0<=t):eV gs t (is.map λj=>(j,1,0))=is.map λj=>if gs∘j<=t then(j,gs∘j)else(j,t):=by
 induction is with
 | nil=>rfl
 | cons j r ih=>
  rw[v7,Qz,W3 (a j vq) c,ih λk b=>a k (vp _ b),v7,Int.sub_zero];split<;>rfl
def EJ{N:Nat×Int->Nat}(l:1<=gs∘j)(f:0<=t)(b:N (j,gs∘j)=1)(d:∀r,0<=r->N (j,r)<=B) :
  ((eV gs t ((j,1,0)::(if 1<k then[(j,k-1,gs∘j)]else[]))).map N).sum<=2+B:=by
 rw[Qz,W3 l f,Int.sub_zero,vj,sum_append];by_cases z:gs∘j<=t
 .rw[vd z];have a:((eV gs t (if 1<k then[(j,k-1,gs∘j)]else[])).map N).sum<=1+B:=by
   split
   .rw[Qz,Y2,append_nil,Ah (show gs∘j<=t from z),vj,sum_append];have g:(((if 0<ov gs t (j,k-1,gs∘j)then[(j,gs∘j)]else[]):L3).map N).sum<=1:=by
     split
     .simp;rw[<-vy,b];exact vb _
     .simp
    have h:(((if ov gs t (j,k-1,gs∘j)<k-1 then[(j,t-gs∘j-ov gs t (j,k-1,gs∘j)*gs∘j)]else[]):L3).map N).sum<=B:=by
     split
     .have m:ov gs t (j,k-1,gs∘j)=(t-gs∘j)/gs∘j:=by
       show(if k-1<(t-gs∘j)/gs∘j then k-1 else(t-gs∘j)/gs∘j)=_;rename_i c;have i:(if k-1<(t-gs∘j)/gs∘j then k-1 else(t-gs∘j)/gs∘j)<k-1:=c;split at i
       .lia
       .rename_i z;rw[vc z]
      have:=d (t-gs∘j-ov gs t (j,k-1,gs∘j)*gs∘j) (by
       rw[m];have:=Int.ediv_mul_le (t-gs∘j) (show gs∘j≠0 by lia);lia)
      simp;exact this
     .simp
    have o:((if 0<ov gs t (j,k-1,gs∘j)then[((j,k-1,gs∘j):Pc).1].map λa=>(a,gs∘a)else[]):L3)=if 0<ov gs t (j,k-1,gs∘j)then[(j,gs∘j)]else[]:=rfl
    exact Nat.add_le_add g h
   .exact va _
  have:(([(j,gs∘j)]:L3).map N).sum=1:=by
   simp;rw[<-vy,b]
  lia
 .rw[vc z];have e:eV gs t (if 1<k then[(j,k-1,gs∘j)]else[])=[]:=by
   split
   .exact W4 λq n=>by rw[vo.mp n];show t<gs∘j;lia
   .rfl
  rw[e];have:=d t f;simp;lia
end
def len_sub{a b:L5}(c:a.Nodup)(f:∀x∈a,x∈b):⇑a<=⇑b:=by
 induction a generalizing b with
 | nil=>exact va _
 | cons x r ih=>
  rw[ur]at c;have g:=f x vq;have:=ih (b:=b.erase x) c.2 λy h=>by
   have d:y≠x:=λe=>c.1 (e▸h)
   exact(List.mem_erase_of_ne d).mpr (f y (vp _ h))
  rw[List.length_erase_of_mem g]at this;have:0<⇑b:=length_pos_of_mem g;rw[vP];lia
section
variable{ls:L4}{ps:N1}{gs:L5}{hs:L1}
def wQ(S:rK ls ps gs hs)(a:⇑hs=⇑ps)(hi:i<⇑ps):hs[i]?=some (hs.getD i []):=by
 rw[vy,vz ⋯];rfl
def Lr(S:rK ls ps gs hs)(e:⇑hs=⇑ps)(M:eM ls ps hs){i:Nat}{p:Str×Fm}(c:ps[i]?=some p){j:Nat}(d:j∈cG ps p.2):⇑(hs.getD j [])<=⇑(hs.getD i []):=by
 have f:=(vx.mp c).1;have l:=S.w.cK c d;let⟨q,b⟩:=M i p _ c (wQ S e f);let⟨a,q⟩:=M j _ _ (vz (show j<⇑ps by lia)) (wQ S e ⋯);exact len_sub (a.imp λh=>⋯) λk g=>(b k).mpr (.inl ⟨j,d,g⟩)
def Hw(S:rK ls ps gs hs)(v:⇑hs=⇑ps)(M:eM ls ps hs){i:Nat}{p:Str×Fm}{x:L8}(f:ps[i]?=some p)(e:p.2 = .side x):((cG ps p.2).map λj=>⇑(hs.getD j [])).sum<=⇑(hs.getD i []):=by
 have A:=(vx.mp f).1;let⟨Z,t⟩:=S.sd i p x f e;let⟨Z,b⟩:=M i p _ f (wQ S v A);have C:=λj=>S.w.cK (j:=j) f
 have D:∀d:L6,(∀j∈d,j<⇑ps)->(∀k:Int,⇑((d.map λj=>hs.getD j []).filter λs=>decide (k∈s))<=1)->(d.flatMap λj=>hs.getD j []).Nodup:=λd=>by
  induction d with
  | nil=>exact λZ Z=>.nil
  | cons j r ih=>
   intro l u;rw[flatMap_cons];have E:(hs.getD j []).Nodup:=by
    let⟨a,Z⟩:=M j _ _ (vz (l j vq)) (wQ S v (l j vq));exact a.imp λh=>⋯
   refine nodup_append.mpr ⟨E,ih (λk c=>l k (vp _ c)) λk=>?_,λa y b z g=>?_⟩
   .have:=u k;rw[v7,v6]at this;split at this
    .rw[vP]at this;lia
    .exact this
   .subst g;let⟨B,o,q⟩:=mem_flatMap.mp z;have:=u a;rw[v7,v6,vd (vG y),vP]at this;have H:0<⇑((r.map λj=>hs.getD j []).filter λs=>decide (a∈s)):=length_pos_of_mem (vO.mpr ⟨vK.mpr ⟨B,o,rfl⟩,vG q⟩);lia
 have n:=D (cG ps p.2) (λj m=>by have:=C j m;lia) t;have w:=len_sub (b:=hs.getD i []) n λk c=>by
  let⟨j,m,c⟩:=mem_flatMap.mp c;exact(b k).mpr (.inl ⟨j,m,c⟩)
 rw[List.length_flatMap]at w;exact w
def HN{a:Type}{f:a->Nat}:∀{l:List a},(l.map λx=>c*f x).sum=c*(l.map f).sum:=by
 intro b
 induction b with
 | nil=>
  exact rfl
 | cons x r ih0=>
  rw[v7,v7,v8,v8,ih0,Nat.mul_add]
def Gj(S:rK ls ps gs hs)(A:⇑hs=⇑ps)(M:eM ls ps hs)(I:∀i,i<⇑ps->1<=gs∘i):∀i t,i<⇑ps->0<=t->nodes ps gs i t<=9*(i+1)*max 1 ⇑(hs.getD i []):=by
 intro i
 induction i using Nat.strongRecOn with
 | ind i ih=>
  intro t J z;have W:=S.w;have C:1<=max 1 ⇑(hs.getD i []):=Nat.le_max_left _ _;by_cases a:gs∘i<=t\/cy ps gs i=[]
  .rw[kD a];have:1*1<=9*(i+1)*max 1 ⇑(hs.getD i []):=Nat.mul_le_mul ⋯ C;lia
  rw[WN W a];obtain⟨p,o⟩:∃p,ps[i]?=some p:=⟨_,vz J⟩
  have c:cy ps gs i=de gs p.2 (cG ps p.2):=by unfold cy;rw[o]
  have q:=λj=>W.cK (j:=j) o
  have h:∀k∈cG ps p.2,1<=gs∘k/\gs∘k<=10^60:=λk m=>by
   have:=q k m;exact⟨I k ⋯,(S.gb k ⋯).2⟩
  have K:⇑(cG ps p.2)<=8:=by unfold cG;rw[vt];exact(W.f i p o).2
  have b:∀k∈cG ps p.2,nodes ps gs k (gs∘k)=1:=λk Z=>kD (.inl (vA _))
  have u:∀k∈cG ps p.2,∀r,0<=r->nodes ps gs k r<=9*i*max 1 ⇑(hs.getD i []):=λk m r y=>by
   have l:=q k m;have:=ih k l r ⋯ y;have s:=Lr S A M o m;refine vV this (Nat.mul_le_mul ⋯ ?_);exact Nat.max_le.mpr ⟨Nat.le_max_left _ _,vV s (Nat.le_max_right _ _)⟩
  have f:∀X:Nat,X<=8+9*i*max 1 ⇑(hs.getD i [])->1+X<=9*(i+1)*max 1 ⇑(hs.getD i []):=λX O=>by
   rw[Nat.mul_add,Nat.add_mul];have:9*1*1<=9*1*max 1 ⇑(hs.getD i []):=Nat.mul_le_mul (vb _) C;lia
  rw[c];cases e:p.2 with
  | again k x=>
   have d:cG ps p.2=[cP (bW ps) x]:=by rw[e];rfl
   rw[e]at d;rw[d];have g:cP (bW ps) x∈cG ps p.2:=by rw[e,d];exact vq
   refine f _ (vV (EJ (N:=λx=>nodes ps gs x.1 x.2) (h _ g).1 z (b _ g) (u _ g)) ⋯)
  | row xs=>
   rw[e]at h b u K;exact f _ (vV (Cc (N:=λx=>nodes ps gs x.1 x.2) h b u) ⋯)
  | side xs=>
   have H:=Hw S A M o e;let⟨E,Z⟩:=S.sd i p xs o e;rw[show de gs (.side xs) (cG ps (.side xs))=(cG ps (.side xs)).map λj=>(j,1,0)from rfl];rw[e]at h b H E q;rw[WZ (λk m=>(h k m).1) z,v4];have B:((cG ps (.side xs)).map (Function.comp (λx=>nodes ps gs x.1 x.2) λj=>if gs∘j<=t then(j,gs∘j)else(j,t))).sum<=((cG ps (.side xs)).map λj=>9*i*⇑(hs.getD j [])).sum:=by
    refine Ds λj w=>?_
    have l:=q j w;have L:1<=⇑(hs.getD j []):=length_pos_iff.mpr (E j w);have D:∀r,0<=r->nodes ps gs j r<=9*i*⇑(hs.getD j []):=λr y=>by
     have:=ih j l r ⋯ y;rw[Nat.max_eq_right L]at this;exact vV this (Nat.mul_le_mul ⋯ (vb _))
    show nodes ps gs (if gs∘j<=t then(j,gs∘j)else(j,t)).1 (if gs∘j<=t then(j,gs∘j)else(j,t)).2<=_;split
    .exact D _ (by have:=h j w;lia)
    .exact D _ z
   rw[HN]at B;refine f _ (vV B (vV (Nat.mul_le_mul (vb (9*i)) (vV H (Nat.le_max_right 1 _))) (Nat.le_add_left _ _)))
  | hold n=>
   exact uf (.inr (by rw[c,e];rfl)) a
  | ring x n=>
   exact uf (.inr (by rw[c,e];rfl)) a
  | rise x v n=>
   exact uf (.inr (by rw[c,e];rfl)) a
end
structure Sn(ls:L4)(ps:N1)(gs:L5)(hs:L1):Prop where
 s:rK ls ps gs hs
 hl:⇑hs=⇑ps
 m:eM ls ps hs
 g1:∀i,i<⇑ps->1<=gs∘i
 ne:1<=⇑ps
 uE:∀q∈ls,0<=q.2/\q.2<=10^18
 uG:∀(i:Nat) (y x:Str) (v n:Int),ps[i]?=some (y,.rise x v n)->0<=v/\v<=10^18/\1<=n/\n<=10^18
 uR:∀(i:Nat) (y x:Str) (k:Int),ps[i]?=some (y,.again k x)->1<=k/\k<=10^18
section
variable{ls:L4}{ps:N1}{gs:L5}{hs:L1}
def Sn.g(N:Sn ls ps gs hs)(hi:i<⇑ps):1<=gs∘i/\gs∘i<=10^60:=⟨N.g1 i hi,(N.s.gb i hi).2⟩
def Sn.AM(N:Sn ls ps gs hs){i:Nat}(hi:i<⇑ps):gs[i]?=some (gs∘i):=by
 rw[vy,vz (by rw[N.s.gl];exact hi)];rfl
def Sn.i8(N:Sn ls ps gs hs){i:Nat}{p:Str×Fm}(a:ps[i]?=some p):⇑(cG ps p.2)<=8:=by
 unfold cG;rw[vt];exact(N.s.w.f i p a).2
def Sn.fk(N:Sn ls ps gs hs){i:Nat}{q:Pc}(h:q∈cy ps gs i):fS gs q:=by
 have u:=zK N.s.w h;have n:=h;unfold cy at h;split at h
 case h_2=>exact nomatch h
 rename_i p hp;have o:=(vx.mp hp).1;have g:=N.g (show q.1<⇑ps by lia);have t:=N.i8 hp;have a:∀k∈cG ps p.2,0<=gs∘k/\gs∘k<=10^60:=λk d=>by
  have:=N.s.w.cK hp d;have:=N.g (show k<⇑ps by lia);lia
 refine⟨by rw[N.s.gl];lia,g.1,g.2,?_⟩;unfold de at h;split at h
 .rename_i k x e;have f:=N.uR i p.1 x k (by rw[hp,<-e]);split at h
  .exact nomatch h
  .rename_i j r ein;have c:=a j (by rw[ein];exact vq);rcases mem_cons.mp h with rfl | h
   .exact⟨(by show(1:Int)<=1;decide),(by show(1:Int)<=10^18;decide),(by show(0:Int)<=0;decide),(by show(0:Int)<=10^62;decide)⟩
   .split at h
    .rw[vo.mp h];refine⟨?_,?_,c.1,?_⟩
     .show 1<=k-1;lia
     .show k-1<=_;lia
     .show gs∘j<=_;lia
    .exact nomatch h
 .let⟨b,l⟩:=wT a h;have m:=(YV h).2;refine⟨⋯,⋯,b,?_⟩;have:(10:Int)^60*(⇑(cG ps p.2):Int)<=10^60*8:=Int.mul_le_mul_of_nonneg_left ⋯ nofun;lia
 .let⟨j,s,rfl⟩:=vK.mp h;exact⟨(by show(1:Int)<=1;decide),(by show(1:Int)<=10^18;decide),(by show(0:Int)<=0;decide),(by show(0:Int)<=10^62;decide)⟩
def De(c:fS gs q)(h:q.2.2<=t):0<=ov gs t q/\ov gs t q<=q.2.1/\ov gs t q*gs∘q.1<=t-q.2.2/\0<=ov gs t q*gs∘q.1:=by
 let⟨j,e,j,f,j,j⟩:=c;have d:0<=(t-q.2.2)/gs∘q.1:=Int.ediv_nonneg ⋯ ⋯;have b:=Int.ediv_mul_le (t-q.2.2) (show gs∘q.1≠0 by lia);have a:0<=ov gs t q/\ov gs t q<=q.2.1/\ov gs t q<=(t-q.2.2)/gs∘q.1:=by
  unfold ov;split<;>lia
 refine⟨a.1,a.2.1,?_,vM a.1 ⋯⟩;exact Int.le_trans (vT a.2.2 ⋯) b
def kQ(j:∀q∈qs,fS gs q)(h:x∈eV gs t qs):0<=x.2:=by
 let⟨y,i,d⟩:=mem_flatMap.mp h;let⟨q,g,e⟩:=YU i;have o:=j q g;by_cases c:q.2.2<=t
 case neg=>unfold cZ at e;rw[vc c]at e;cases e
 have b:=De o c;unfold cZ at e;rw[vd c]at e;have f:=vL e;subst f;unfold dF at d;rcases vh.mp d with z | z
 .have z:x∈(if 0<ov gs t q then[(q.1,gs∘q.1)]else[]):=z;split at z
  .rw[vo.mp z];exact Int.le_trans nofun o.2.1
  .exact nomatch z
 .split at z
  .rename_i r a;rw[vo.mp z];have a:(if ov gs t q<q.2.1 then some (t-q.2.2-ov gs t q*gs∘q.1)else none)=some r:=a;split at a
   .cases a;show 0<=t-q.2.2-ov gs t q*gs∘q.1;lia
   .cases a
  .exact nomatch z
def Sn.nodes(N:Sn ls ps gs hs)(a:∀i,i<⇑ps->⇑(hs.getD i [])<=8)(hi:i<⇑ps)(b:0<=t):Rm.nodes ps gs i t<=5000:=by
 have:=Gj N.s N.hl N.m N.g1 i t hi b;have c:=N.s.w.l0;have d:=a i hi;have:9*(i+1)*max 1 ⇑(hs.getD i [])<=9*61*8:=Nat.mul_le_mul ⋯ ⋯;lia
end
noncomputable def fL(ls:L4)(ps:N1)(gs:L5)(E:L0)(h:L5)(x:Nat×Int):L5:=
 if gs∘x.1<=x.2 then(E.getD x.1 []).foldl (λh q=>h.set q.1.toNat q.2) h
 else match ps[x.1]? with
  | some (_,.rise y v n)=>h.set (cP (bW ls) y) (Rp.ramp (h∘(cP (bW ls) y)) v n x.2)
  | _=>h
noncomputable def cL(ls:L4)(ps:N1)(gs:L5)(E:L0)(t:Int):L5:=(reach ps gs (⇑ps-1) t).foldl (fL ls ps gs E) (ls.map (·.2))
noncomputable def cV(ps:N1)(x:Nat×Int):L8:=match ps[x.1]? with
 | some (_,.ring y _)=>if x.2=0 then[y]else[]
 | _=>[]
noncomputable def dE(ps:N1)(gs:L5)(t:Int):L8:=(reach ps gs (⇑ps-1) t).flatMap (cV ps)
inductive gU(vs:N2)(H:Hp)(Q:VK)(xk:XK):Prop
 | mk (b pl pp:Addr) (las pas:L7) (ls:L4) (ps:N1) (gs:L5) (hs:L1) (t:Int) (_:vs=[.ref b,.int t]) (_:cH H b pl pp las pas ls ps) (_:Sn ls ps gs hs) (_:0<=t) (_:t<=gs∘(⇑ps-1)) (_:∀(l:Addr) (E:L0) (H':Hp),bX H H'->H l=none->⇑E=⇑ps->cI ls ps E->H' l=some (.lst ((cL ls ps gs E t).map V.int))->⇑(cL ls ps gs E t)=⇑ls->Q (.ref l) H'):gU vs H Q xk
inductive gR(vs:N2)(H:Hp)(Q:VK)(xk:XK):Prop
 | mk (b pl pp:Addr) (las pas:L7) (ls:L4) (ps:N1) (gs:L5) (hs:L1) (t:Int) (_:vs=[.ref b,.int t]) (_:cH H b pl pp las pas ls ps) (_:Sn ls ps gs hs) (_:0<=t) (_:t<=gs∘(⇑ps-1)) (_:∀(l:Addr) (H':Hp),bX H H'->H l=none->H' l=some (.lst ((dE ps gs t).map V.str))->⇑(dE ps gs t)<=5000->Q (.ref l) H'):gR vs H Q xk
def cg.app{e:Type}{R:Addr->e->Prop}{as d:L7}{xs ys:List e}(h:cg R as xs)(k:cg R d ys):cg R (as++d) (xs++ys):=by
 have g:=h.1;refine⟨by rw[vn,vn,h.1,k.1],λi a x b c=>?_⟩;by_cases f:i<⇑as
 .rw[vB f]at b;rw[vB ⋯]at c;exact h.2 i a x b c
 .rw[vC ⋯]at b;rw[vC ⋯]at c;exact k.2 _ a x b (by rw[g];exact c)
def cg.cons{b:Type}{R:Addr->b->Prop}{a:Addr}{as:L7}{x:b}{xs:List b}(h:R a x)(k:cg R as xs):cg R (a::as) (x::xs):=cg.app (as:=[a]) (xs:=[x]) (cg.snoc (as:=[]) (xs:=[]) .nil h) k
theorem cg.rev{b:Type}{R:Addr->b->Prop}:∀{as:L7} {xs:List b},cg R as xs->cg R as.reverse xs.reverse
 | [],[],_=>.nil
 | [],_::_,h=>uf h.1 (by simp)
 | _::_,[],h=>uf h.1 (by simp)
 | a::as,x::xs,h=>by
  rw[reverse_cons,reverse_cons];exact cg.app (cg.rev (cg.tail h).2) (cg.snoc (as:=[]) (xs:=[]) .nil (cg.tail h).1)
def cg.last{e:Type}{R:Addr->e->Prop}{as:L7}{xs:List e}{x:e}(h:cg R as (xs++[x])):∃c a,as=c++[a]/\cg R c xs/\R a x:=by
 rcases List.eq_nil_or_concat as with rfl | ⟨c,a,rfl⟩
 .have:=h.1;simp at this
 .rw[List.concat_eq_append]at h|-;have g:=h.1;rw[vn,vn]at g;have d:⇑c=⇑xs:=by simpa using g
  refine⟨c,a,rfl,⟨d,λi b y f j=>?_⟩,?_⟩
  .have k:=(vx.mp f).1;exact h.2 i b y (by rw[vB k];exact f) (by rw[vB ⋯];exact j)
  .exact h.2 ⇑c a x (by simp) (by rw[d];simp)
def Xs{gs:L5}{n:Nat}(h:1<=n)(e:⇑gs=n):eW (gs.map V.int) (-1)=some (.int (gs∘(n-1))):=by
 have i:lF n (-1)=some (n-1):=by
  unfold lF;simp;lia
 unfold eW;rw[vt,e,i];show(gs.map V.int)[n-1]?=_;rw[vv,vy,vz ⋯];rfl
section
variable{ls:L4}{ps:N1}{gs:L5}{hs:L1}
def Yt(W:fY ls ps):∀{i:Nat} {t:Int} {x:Nat×Int},i<⇑ps->x∈reach ps gs i t->x.1<⇑ps:=by
 intro i
 induction i using Nat.strongRecOn with
 | ind i ih=>
  intro t x b a;by_cases h:gs∘i<=t\/cy ps gs i=[]
  .rw[JE h]at a;rw[vo.mp a];exact b
  .rw[Qi W h]at a;let⟨y,c,a⟩:=mem_flatMap.mp a;have:=ZB W c;exact ih y.1 this ⋯ a
def Xe(N:Sn ls ps gs hs):∀{i:Nat} {t:Int} {x:Nat×Int},i<⇑ps->0<=t->x∈reach ps gs i t->0<=x.2:=by
 intro i
 induction i using Nat.strongRecOn with
 | ind i ih=>
  intro t x e d a;by_cases h:gs∘i<=t\/cy ps gs i=[]
  .rw[JE h]at a;rw[vo.mp a];exact d
  .rw[Qi N.s.w h]at a;let⟨y,b,a⟩:=mem_flatMap.mp a;have:=ZB N.s.w b;exact ih y.1 this ⋯ (kQ (λq c=>N.fk c) b) a
def Ai(N:Sn ls ps gs hs)(m:⇑E=⇑ps)(k:cI ls ps E):∀{i:Nat},i<⇑ps->∀q∈E.getD i [],0<=q.2/\q.2<=10^18:=by
 intro i
 induction i using Nat.strongRecOn with
 | ind i ih=>
  intro f q h;have d:E[i]?=some (E.getD i []):=by rw[vy,vz ⋯];rfl
  obtain⟨p,a⟩:∃p,ps[i]?=some p:=⟨_,vz f⟩
  rcases((k i p _ a d).2 q.1 q.2).mp h with⟨l,j,b,e,c,_⟩ | ⟨x,n,e,_⟩
  .have g:j∈cG ps p.2:=by rw[e];simp
   have:=N.s.w.cK a g;exact ih j this ⋯ _ c
  .have:=N.uG i p.1 x q.2 n (by rw[a,<-e]);lia
def Ca(i:0<=h/\h<=10^18)(l:0<=v/\v<=10^18)(k:1<=n)(d:0<=j)(e:j<=n):0<=Rp.ramp h v n j/\Rp.ramp h v n j<=10^18:=by
 unfold Rp.ramp;by_cases c:h<=v
 .have a:0<=(v-h)*j:=vM ⋯ d;have b:(v-h)*j<=(v-h)*n:=Int.mul_le_mul_of_nonneg_left e ⋯;have f:0<=(v-h)*j/n:=Int.ediv_nonneg a ⋯;have g:(v-h)*j/n<=v-h:=by
   have:=Int.ediv_le_ediv (show 0<n by lia) b;rw[Int.mul_ediv_cancel _ (show n≠0 by lia)]at this;exact this
  lia
 .have a:(v-h)*j<=0:=Int.mul_nonpos_of_nonpos_of_nonneg ⋯ d;have b:(v-h)*n<=(v-h)*j:=Int.mul_le_mul_of_nonpos_left ⋯ e;have f:(v-h)*j/n<=0:=by
   have:=Int.ediv_le_ediv (show 0<n by lia) a
   simp_all
  have g:v-h<=(v-h)*j/n:=by
   have:=Int.ediv_le_ediv (show 0<n by lia) b;rw[Int.mul_ediv_cancel _ (show n≠0 by lia)]at this;exact this
  lia
end
inductive Fn where
 | hold (n:Int) | ring (x:Str) (n:Int) | rise (x:Str) (h n:Int) | row (is:L6) | side (is:L6) | again (k:Int) (j:Nat)
noncomputable def Fn.js:Fn->L6
 | .row is=>is
 | .side is=>is
 | .again _ j=>[j]
 | _=>[]
def Ex(p:Addr)(H H':Hp):Prop:=∀c u,c≠p->H c=some u->H' c=some u
def Ex.refl(H:Hp):Ex p H H:=λq q q h=>h
def Ex.trans{d e f:Hp}(a:Ex p d e)(b:Ex p e f):Ex p d f:=λc u n h=>b c u n (a c u n h)
def Ex.of{H H':Hp}(s:bX H H'):Ex p H H':=λc u q h=>s c u h
noncomputable def fK(gs:L5):Fn->Int->Prop
 | .hold n,g=>g=n
 | .ring _ n,g=>g=n
 | .rise _ _ n,g=>g=n
 | .row is,g=>g=(is.map λj=>gs∘j).sum
 | .side is,g=>(∃j∈is,g=gs∘j)/\∀j∈is,gs∘j<=g
 | .again k j,g=>g=k*gs∘j
def my(L:L8)(M:L1)(f:Fn)(ks:L5):Prop:=ks.Pairwise (· < ·)/\∀k,k∈ks↔(∃j∈f.js,k∈M.getD j [])\/∃(x:Str) (h n:Int) (i:Nat),f = .rise x h n/\L[i]?=some x/\k=(i:Int)
def mY(M:L1)(is:L6):Prop:=(∀j∈is,M.getD j []≠[])/\is.Pairwise λa b=>∀k∈M.getD a [],¬k∈M.getD b []
noncomputable def ei(L:L8)(M:L1)(n:Nat):Fn->Prop
 | .hold m=>1<=m/\m<=10^18
 | .ring x m=>1<=m/\m<=10^18/\Ws.ff x=true
 | .rise x h m=>(∃i:Nat,L[i]?=some x)/\0<=h/\h<=10^18/\1<=m/\m<=10^18
 | .row is=>is≠[]/\⇑is<=8/\∀j∈is,j<n
 | .side is=>2<=⇑is/\⇑is<=8/\(∀j∈is,j<n)/\mY M is
 | .again k j=>1<=k/\k<=10^18/\j<n
def ei.js(h:ei L M n f):⇑f.js<=8/\∀j∈f.js,j<n:=by
 cases f with
 | row is=>exact h.2
 | side is=>exact⟨h.2.1,h.2.2.1⟩
 | again k j=>exact⟨by show 1<=8;lia,λi a=>by rw[vo.mp a];exact h.2.2⟩
 | hold n=>exact⟨va _,λj h=>nomatch h⟩
 | ring x n=>exact⟨va _,λj h=>nomatch h⟩
 | rise x v n=>exact⟨va _,λj h=>nomatch h⟩
structure mq(L:L8)(fs:List Fn)(M:L1)(gs:L5):Prop where
 ml:⇑M=⇑fs
 gl:⇑gs=⇑fs
 f:∀(i:Nat) (f:Fn),fs[i]?=some f->ei L M i f/\my L M f (M.getD i [])/\fK gs f (gs∘i)
 g:∀i,i<⇑fs->1<=gs∘i/\gs∘i<=10^60
noncomputable def cY(names:L8):Fn->Fm
 | .hold n=>.hold n
 | .ring x n=>.ring x n
 | .rise x h n=>.rise x h n
 | .row is=>.row (is.map λj=>names.getD j ⟨#[]⟩)
 | .side is=>.side (is.map λj=>names.getD j ⟨#[]⟩)
 | .again k j=>.again k (names.getD j ⟨#[]⟩)
def QY{a:Type}{xs:List a}{x d:a}{j:Nat}(h:j<⇑xs):(xs++[x]).getD j d=xs.getD j d:=by
 rw[vy,vy,vB h]
def Zr{a:Type}{xs:List a}{x d:a}:(xs++[x]).getD ⇑xs d=x:=by
 rw[vy,vC (vb _),Nat.sub_self];rfl
def ei.ext{L:L8}{M:L1}{ks:L5}{n:Nat}{f:Fn}(q:n<=⇑M)(h:ei L M n f):ei L (M++[ks]) n f:=by
 cases f with
 | side is=>
  let⟨a,b,c,d,e⟩:=h;have g:∀j∈is,(M++[ks]).getD j []=M.getD j []:=λj i=>QY (by have:=c j i;lia)
  refine⟨a,b,c,λj i=>by rw[g j i];exact d j i,?_⟩;exact(List.pairwise_iff_forall_sublist.mpr λ{x y} l=>by
   have o:x∈is:=l.subset vq;have p:y∈is:=l.subset (vp _ vq);rw[g x o,g y p];exact List.pairwise_iff_forall_sublist.mp e l)
 | hold m=>exact h
 | ring x m=>exact h
 | rise x v m=>exact h
 | row is=>exact h
 | again k j=>exact h
def my.ext{L:L8}{M:L1}{ks d:L5}{f:Fn}(c:∀j∈f.js,j<⇑M)(h:my L M f d):my L (M++[ks]) f d:=by
 refine⟨h.1,λk=>(h.2 k).trans ?_⟩;have:(∃j∈f.js,k∈M.getD j [])↔∃j∈f.js,k∈(M++[ks]).getD j []:=by
  constructor
  .rintro⟨j,a,b⟩;exact⟨j,a,by rw[QY (c j a)];exact b⟩
  .rintro⟨j,a,b⟩;exact⟨j,a,by rw[QY (c j a)]at b;exact b⟩
 rw[this]
def fK.ext{gs:L5}{g' g:Int}{f:Fn}(n:∀j∈f.js,j<⇑gs)(h:fK gs f g):fK (gs++[g']) f g:=by
 have e:∀j∈f.js,(gs++[g']).getD j 0=gs∘j:=λj a=>QY (n j a)
 cases f with
 | hold m=>exact h
 | ring x m=>exact h
 | rise x v m=>exact h
 | row is=>
  show g=(is.map λj=>(gs++[g']).getD j 0).sum;have d:is.map (λj=>(gs++[g']).getD j 0)=is.map λj=>gs∘j:=map_congr_left e
  rw[d];exact h
 | side is=>
  let⟨⟨j,a,i⟩,l⟩:=h;exact⟨⟨j,a,by rw[e j a];exact i⟩,λc b=>by rw[e c b];exact l c b⟩
 | again k j=>
  show g=k*(gs++[g']).getD j 0;rw[e j vq];exact h
noncomputable def cu(names:L8)(fs:List Fn):N1:=(List.range ⇑fs).map λi=>(names.getD i ⟨#[]⟩,cY names (fs.getD i (.hold 0)))
section
variable{L:L8}{fs:List Fn}{M:L1}{gs:L5}{names:L8}{ls:L4}
def QM:⇑(cu names fs)=⇑fs:=by unfold cu;rw[vt,length_range]
def Bh(h:fs[i]?=some f):(cu names fs)[i]?=some (names.getD i ⟨#[]⟩,cY names f):=by
 unfold cu;have a:=(vx.mp h).1;rw[vv,List.getElem?_range a];have e:fs.getD i (.hold 0)=f:=by rw[vy,h];rfl
 show some (names.getD i ⟨#[]⟩,cY names (fs.getD i (.hold 0)))=_;rw[e]
def qW(h:(cu names fs)[i]?=some p):∃f,fs[i]?=some f/\p=(names.getD i ⟨#[]⟩,cY names f):=by
 have b:=(vx.mp h).1;rw[QM]at b;obtain⟨f,a⟩:∃f,fs[i]?=some f:=⟨_,vz b⟩
 rw[Bh a]at h;exact⟨f,a,(vL h).symm⟩
def xJ(c:⇑fs<=⇑names):bW (cu names fs)=names.take ⇑fs:=by
 unfold bW cu;rw[v4];refine ext_getElem (by rw[vt,length_range,vi];lia) λi a b=>?_
 rw[getElem_map,getElem_range,getElem_take];show names.getD i ⟨#[]⟩=_;rw[vy,vz];rfl
def Dw(b:⇑fs<=⇑names)(a:j<⇑fs):(bW (cu names fs))[j]?=some (names.getD j ⟨#[]⟩):=by
 rw[xJ b,List.getElem?_take,vd a,vy,vz ⋯];rfl
def Bi(a:⇑fs<=⇑names)(b:names.Nodup):(bW (cu names fs)).Nodup:=by
 rw[xJ a];exact b.sublist (take_sublist _ _)
def WD(c:⇑fs<=⇑names)(d:names.Nodup)(b:∀j∈f.js,j<⇑fs):cG (cu names fs) (cY names f)=f.js:=by
 have e:∀a:L6,(∀j∈a,j<⇑fs)->(a.map λj=>names.getD j ⟨#[]⟩).map (cP (bW (cu names fs)))=a:=λa h=>by
  rw[v4]
  conv=>rhs;rw[<-List.map_id a]
  exact map_congr_left λj b=>JQ (Bi c d) (Dw c (h j b))
 unfold cG;cases f with
 | row a=>exact e a b
 | side a=>exact e a b
 | again k j=>exact e [j] b
 | hold n=>rfl
 | ring x n=>rfl
 | rise x v n=>rfl
def BS(f:Fn):(cY names f).ns=f.js.map λj=>names.getD j ⟨#[]⟩:=by cases f<;>rfl
def mq.wf(D:mq (bW ls) fs M gs)(m:⇑fs<=⇑names)(t:names.Nodup)(l:(bW ls).Nodup)(s:⇑ls<=8)(d:⇑fs<=61):fY ls (cu names fs):=by
 refine⟨l,s,Bi m t,by rw[QM];exact d,λi p g=>?_,λi y x h n g=>?_⟩
 .let⟨f,c,rfl⟩:=qW g;have u:=(vx.mp c).1;let⟨a,Z⟩:=D.f i f c;have q:=a.js;refine⟨λx o=>?_,?_⟩
  .rw[BS]at o;let⟨j,r,rfl⟩:=vK.mp o;have:=q.2 j r;exact⟨j,this,Dw m ⋯⟩
  .rw[BS,vt];exact q.1
 .let⟨f,c,e⟩:=qW g;let⟨a,Z⟩:=D.f i f c;have b:=(Prod.mk.inj e).2;cases f with
  | rise x' h' n'=>
   have:x=x':=by injection b
   subst this;exact a.1
  | hold n=>cases b
  | ring x n=>cases b
  | row is=>cases b
  | side is=>cases b
  | again k j=>cases b
def mq.LR(D:mq (bW ls) fs M gs)(o:⇑fs<=⇑names)(t:names.Nodup)(b:(bW ls).Nodup):eM ls (cu names fs) M:=by
 intro i p s q m;let⟨f,g,rfl⟩:=qW q;have u:=(vx.mp g).1;let⟨c,d,Z⟩:=D.f i f g;have r:=c.js.2;have l:M.getD i []=s:=by rw[vy,m];rfl
 rw[l]at d;refine⟨d.1,λk=>(d.2 k).trans ?_⟩;rw[WD o t λj a=>by have:=r j a;lia];refine⟨λh=>h.imp id ?_,λh=>h.imp id ?_⟩
 .rintro⟨x,v,n,j,rfl,a,rfl⟩;exact⟨x,v,n,rfl,by rw[JQ b a]⟩
 .rintro⟨x,v,n,e,rfl⟩;cases f with
  | rise x' h' n'=>
   have:x'=x:=by injection e
   subst this;let⟨j,a⟩:=c.1;exact⟨x',h',n',j,rfl,a,by rw[JQ b a]⟩
  | hold n=>cases e
  | ring x n=>cases e
  | row is=>cases e
  | side is=>cases e
  | again k j=>cases e
def Io{M c:L1}(W:fY ls ps)(h:eM ls ps M)(h':eM ls ps c)(l:⇑M=⇑ps)(r:⇑c=⇑ps):∀i,i<⇑ps->c.getD i []=M.getD i []:=by
 intro i
 induction i using Nat.strongRecOn with
 | ind i ih=>
  intro q;have e:ps[i]?=some ps[i]:=vz q;have p:M[i]?=some (M.getD i []):=by rw[vy,vz ⋯];rfl
  have f:c[i]?=some (c.getD i []):=by rw[vy,vz ⋯];rfl
  let⟨a,b⟩:=h i _ _ e p;let⟨n,o⟩:=h' i _ _ e f;refine Dk n a λk=>(o k).trans (Iff.trans ?_ (b k).symm)
  have m:(∃j∈cG ps (ps[i]).2,k∈c.getD j [])↔∃j∈cG ps (ps[i]).2,k∈M.getD j []:=by
   constructor
   .rintro⟨j,d,g⟩;have:=W.cK e d;exact⟨j,d,by rw[<-ih j this ⋯];exact g⟩
   .rintro⟨j,d,g⟩;have:=W.cK e d;exact⟨j,d,by rw[ih j this ⋯];exact g⟩
  rw[m]
def mq.sn(D:mq (bW ls) fs M gs)(C:⇑fs<=⇑names)(I:names.Nodup)(B:(bW ls).Nodup)(Y:⇑ls<=8)(K:⇑fs<=61)(f1:1<=⇑fs)(Z:∀q∈ls,0<=q.2/\q.2<=10^18):Sn ls (cu names fs) gs M:=by
 have W:=D.wf C I B Y K;have P:=D.LR C I B;have dl:⇑(cu names fs)=⇑fs:=QM;have ml:=D.ml;have gl:=D.gl;refine⟨⟨W,⋯,λi w=>?_,λM' U L i w=>Io W P L ⋯ U i w,λi p t=>?_,λi p qs t e=>?_⟩,⋯,P,λi w=>(D.g i ⋯).1,⋯,Z,λi y x v n t=>?_,λi y x k t=>?_⟩
 .have:=D.g i ⋯;lia
 .let⟨f,m,rfl⟩:=qW t;have w:=(vx.mp m).1;let⟨d,_,u⟩:=D.f i f m;have o:=d.js.2;rw[show cG (cu names fs) (names.getD i ⟨#[]⟩,cY names f).2=f.js from WD C I λj A=>by have:=o j A;lia];cases f with
  | hold n=>exact⟨trivial,λg h=>Eq.trans h (Eq.symm u)⟩
  | ring x n=>exact⟨trivial,λg h=>Eq.trans h (Eq.symm u)⟩
  | rise x v n=>exact⟨trivial,λg h=>Eq.trans h (Eq.symm u)⟩
  | row is=>exact⟨trivial,λg h=>Eq.trans h (Eq.symm u)⟩
  | side is=>
   refine⟨λz=>?_,λg h=>?_⟩
   .have p2:=d.1;have:⇑is=0:=by rw[<-vt (f:=λj=>gs∘j)];exact congrArg List.length z
    lia
   .let⟨R,S⟩:=h;let⟨j,A,rfl⟩:=vK.mp R;let⟨⟨E,s,e'⟩,X⟩:=u;have a1:=X j A;have a2:=S (gs∘E) (vK.mpr ⟨E,s,rfl⟩);lia
  | again k j=>
   have Q:=D.g j (by have:=o j vq;lia);refine⟨⟨gs∘j,[],rfl,Int.le_trans nofun d.1,d.2.1,⋯,Q.2⟩,λg h=>?_⟩;let⟨y,T,rfl⟩:=h;cases T;exact Eq.symm u
 .let⟨f,m,rfl⟩:=qW t;have w:=(vx.mp m).1;let⟨d,_,_⟩:=D.f i f m;have o:=d.js.2;rw[show cG (cu names fs) (names.getD i ⟨#[]⟩,cY names f).2=f.js from WD C I λj A=>by have:=o j A;lia];cases f with
  | side is=>
   let⟨_,_,_,iV,J⟩:=d;refine⟨iV,λk=>?_⟩;have O:∀o:L6,o.Pairwise (λa b=>∀k∈M.getD a [],¬k∈M.getD b [])->⇑((o.map λj=>M.getD j []).filter λH=>decide (k∈H))<=1:=λo=>by
    induction o with
    | nil=>exact λ_=>va _
    | cons j r ih=>
     intro h;rw[vU]at h;rw[v7,v6];split
     .rename_i c;have e:(r.map λj=>M.getD j []).filter (λH=>decide (k∈H))=[]:=by
       rw[List.filter_eq_nil_iff];intro H N;let⟨E,s,rfl⟩:=vK.mp N;have:=h.1 E s k (of_decide_eq_true c);simpa using this
      rw[e];exact vb _
     .exact ih h.2
   exact O is J
  | hold n=>cases e
  | ring x n=>cases e
  | rise x v n=>cases e
  | row is=>cases e
  | again k j=>cases e
 .let⟨f,m,e⟩:=qW t;let⟨d,_⟩:=D.f i f m;have l:=(Prod.mk.inj e).2;cases f with
  | rise x' L n'=>
   injection l with e3 e4 e5;subst e3 e4 e5;exact d.2
  | hold n=>cases l
  | ring x n=>cases l
  | row is=>cases l
  | side is=>cases l
  | again k j=>cases l
 .let⟨f,m,e⟩:=qW t;let⟨d,_⟩:=D.f i f m;have l:=(Prod.mk.inj e).2;cases f with
  | again k' j=>
   injection l with e3 e4;subst e3;exact⟨d.1,d.2.1⟩
  | rise x' L n'=>cases l
  | hold n=>cases l
  | ring x n=>cases l
  | row is=>cases l
  | side is=>cases l
end
structure Sa where
 d:Addr
 f:Addr
 o:Addr
 s:Addr
 l:Addr
 p:Addr
 fb:L7
 la:L7
 pa:L7
noncomputable def iG(z:Sa):List (Str×V):=cx "pieces" (.ref z.p) (cx "left" (.ref z.l) (cx "sizes" (.ref z.s) (cx "forms" (.ref z.o) (cx "first" (.ref z.f) (cx "limbs" (.ref z.d) [])))))
section
variable{z:Sa}
def jE(h:¬a=b):(cx b v r).lookup a=r.lookup a:=by rw[ZN,vc h]
def JB:(cx a v r).lookup a=some v:=by rw[ZN,vd rfl]
def Ea:(iG z).lookup ("pieces" : Str)=↥z.p:=JB
def GA:(iG z).lookup ("left" : Str)=↥z.l:=(jE ∅).trans JB
def YS:(iG z).lookup ("sizes" : Str)=↥z.s:=(jE ∅).trans ((jE ∅).trans JB)
def xN:(iG z).lookup ("forms" : Str)=↥z.o:=(jE ∅).trans ((jE ∅).trans ((jE ∅).trans JB))
def Ft:(iG z).lookup ("first" : Str)=↥z.f:=(jE ∅).trans ((jE ∅).trans ((jE ∅).trans ((jE ∅).trans JB)))
def Fu:(iG z).lookup ("limbs" : Str)=↥z.d:=(jE ∅).trans ((jE ∅).trans ((jE ∅).trans ((jE ∅).trans ((jE ∅).trans JB))))
def XI{m:Str}(a:¬m = "pieces")(b:¬m = "left")(c:¬m = "sizes")(d:¬m = "forms")(e:¬m = "first")(f:¬m = "limbs"):(iG z).lookup m=none:=(jE a).trans ((jE b).trans ((jE c).trans ((jE d).trans ((jE e).trans (jE f)))))
theorem Jb(f:Str)(v:V):∀r:List (Str×V),⇑(cx f v r)<=⇑r+1
 | []=>vb _
 | (g,u)::r=>by
  unfold cx;split
  .exact Nat.le_succ _
  .rw[vP,vP];have:=Jb f v r;lia
end
def cH.less{H:Hp}{fs:List (Str×V)}(o:H a=some (.ins C dx fs))(B:cH H b pl pp las pas ls ps) :
  ∃i:Hp,(∀H',(∀c u,c≠a->H c=some u->H' c=some u)->bX i H')/\(∀{c u},i c=some u->c≠a)/\cH i b pl pp las pas ls ps:=by
 have f:∀{c:Addr} {g:N2},H c=some (.tup g)->(λc=>if c=a then none else H c) c=some (.tup g):=λ{c g} h=>by
  show(if c=a then none else H c)=_;rw[vc (λz=>by rw[z,o]at h;cases h)];exact h
 have p:∀{c:Addr} {g:N2},H c=some (.lst g)->(λc=>if c=a then none else H c) c=some (.lst g):=λ{c g} h=>by
  show(if c=a then none else H c)=_;rw[vc (λz=>by rw[z,o]at h;cases h)];exact h
 refine⟨λc=>if c=a then none else H c,λH' k c u h=>?_,λ{c u} h=>?_,f B.t,p B.l,B.la.mono λa x m=>f m,p B.p,B.pa.mono λa x m=>?_⟩
 .have h:(if c=a then none else H c)=some u:=h;by_cases e:c=a
  .rw[vd e]at h;cases h
  .rw[vc e]at h;exact k c u e h
 .have h:(if c=a then none else H c)=some u:=h;intro e;rw[vd e]at h;cases h
 .let⟨q,s,d⟩:=m;refine⟨q,f s,?_⟩;cases hx2:x.2 with
  | row r=>rw[hx2]at d;let⟨c,j,l⟩:=d;exact⟨c,f j,f l⟩
  | side r=>rw[hx2]at d;let⟨c,j,l⟩:=d;exact⟨c,f j,f l⟩
  | hold n=>rw[hx2]at d;exact f d
  | ring y n=>rw[hx2]at d;exact f d
  | rise y v n=>rw[hx2]at d;exact f d
  | again k y=>rw[hx2]at d;exact f d
def rO(h:⇑(cx f v r)<=n)(k:n<1000):⇑(cx f v r)<1000:=vD h k
section
variable{a b c d e:Str}{u v w x y:V}
def ou:⇑(cx c w (cx b v (cx a u [])))<1000:=by
 have:=Jb c w (cx b v (cx a u []));have:=Jb b v (cx a u []);have:=Jb a u [];simp at *;lia
def su:⇑(cx d x (cx c w (cx b v (cx a u []))))<1000:=by
 have:=Jb d x (cx c w (cx b v (cx a u [])));have:=Jb c w (cx b v (cx a u []));have:=Jb b v (cx a u []);have:=Jb a u [];simp at *;lia
def vS:⇑(cx e y (cx d x (cx c w (cx b v (cx a u [])))))<1000:=by
 have:=Jb e y (cx d x (cx c w (cx b v (cx a u []))));have:=Jb d x (cx c w (cx b v (cx a u [])));have:=Jb c w (cx b v (cx a u []));have:=Jb b v (cx a u []);have:=Jb a u [];simp at *;lia
end
end Rm
namespace L2
open PySem PySem.Spec PyProof.Rows
def ux{xs:L6}(up:xs.Pairwise (· < ·)){i j v w:Nat}(hi:xs[i]?=some v)(a:xs[j]?=some w)(h:i<j):v<w:=by
 let⟨b,rfl⟩:=vx.mp hi;let⟨c,rfl⟩:=vx.mp a;exact pairwise_iff_getElem.mp up i j b c h
def Gv{xs:Array Nat}{j:Nat}(up:xs.toList.Pairwise (· < ·)):∀(f lo hi:Nat),lo<=hi->hi<=xs.size->hi-lo<=f->(∀i v,i<lo->xs.toList[i]?=some v->v<j)->(∀i v,hi<=i->xs.toList[i]?=some v->j<=v)->
  SetTable.below.go xs j f lo hi<=xs.size/\(∀i v,i<SetTable.below.go xs j f lo hi->xs.toList[i]?=some v->v<j)/\∀i v,SetTable.below.go xs j f lo hi<=i->xs.toList[i]?=some v->j<=v:=by
 intro p
 induction p with
 | zero=>
  intro lo hi n l o a b;have e:lo=hi:=⋯
  subst e;unfold SetTable.below.go;exact⟨l,a,b⟩
 | succ f ih0=>
  intro lo hi n l o a b;have d:SetTable.below.go xs j (f+1) lo hi=if lo<hi then(if xs.getD ((lo+hi)/2) j<j then SetTable.below.go xs j f ((lo+hi)/2+1) hi else SetTable.below.go xs j f lo ((lo+hi)/2))else lo:=rfl
  by_cases h:lo<hi
  .have q:(lo+hi)/2<xs.size:=⋯
   have k:xs.toList[(lo+hi)/2]?=some (xs.getD ((lo+hi)/2) j):=by
    simp_all
   rw[vd h]at d;by_cases c:xs.getD ((lo+hi)/2) j<j
   .rw[vd c]at d;rw[d];refine ih0 ((lo+hi)/2+1) hi ⋯ l ⋯ (λi v m g=>?_) b;rcases Nat.lt_or_ge i ((lo+hi)/2)with z | z
    .exact vY (ux up g k z) c
    .have:i=(lo+hi)/2:=⋯
     subst this;rw[k]at g;exact vL g▸c
   .rw[vc c]at d;rw[d];refine ih0 lo ((lo+hi)/2) ⋯ ⋯ ⋯ a λi v m g=>?_
    rcases Nat.lt_or_ge ((lo+hi)/2) i with z | z
    .have:=ux up k g z;lia
    .have:i=(lo+hi)/2:=⋯
     subst this;rw[k]at g;have:=vL g;lia
  .rw[vc h]at d;rw[d];have e:lo=hi:=⋯
   subst e;exact⟨l,a,b⟩
def Wu{xs:Array Nat}(up:xs.toList.Pairwise (· < ·))(j:Nat):SetTable.below xs j<=xs.size/\(∀i v,i<SetTable.below xs j->xs.toList[i]?=some v->v<j)/\∀i v,SetTable.below xs j<=i->xs.toList[i]?=some v->j<=v:=
 Gv up xs.size 0 xs.size (va _) (vb _) ⋯ (λi v h=>uf h (Nat.not_lt_zero _)) λi v h a=>by
  have:=(vx.mp a).1;rw[Array.length_toList]at this;lia
structure eQ(led:Bool)(n:Nat)(t:SetTable):Prop where
 mask:t.mask=7
 dm:t.dummies = #[]
 ld:t.led=led
 plain:t.plain=true
 up:t.place.toList.Pairwise (· < ·)
 le:∀x∈t.place.toList,x<8
 sz:t.place.size=n
def eQ.fresh(led:Bool):eQ led 0 (.fresh 0 0 led):=⟨rfl,rfl,rfl,rfl,.nil,(λx h=>nomatch h),rfl⟩
section
variable{led:Bool}{n:Nat}{t:SetTable}
def eQ.slot(T:eQ led n t)(j:Nat):(j∈t.place.toList/\∃i,t.slot j = .live i)\/(j∉t.place.toList/\t.slot j = .empty):=by
 let⟨g,b,d⟩:=Wu T.up j;unfold SetTable.slot;by_cases c:t.place[SetTable.below t.place j]?=some j
 .refine .inl ⟨?_,SetTable.below t.place j,?_⟩
  .rw[<-Array.getElem?_toList]at c;exact vm c
  .dsimp only;rw[vd (by rw[c];exact beq_self_eq_true _)]
 .refine .inr ⟨λf=>c ?_,?_⟩
  .let⟨i,a⟩:=List.getElem?_of_mem f;rcases Nat.lt_trichotomy i (SetTable.below t.place j)with z | z | z
   .exact uf (b i j z a) (Nat.lt_irrefl _)
   .simp_all
   .have h:=(vx.mp a).1;have e:t.place.toList[SetTable.below t.place j]?=some (t.place.toList[SetTable.below t.place j]'⋯):=vz _;have:=d _ _ (vb _) e;have:=ux T.up e a z;lia
  .dsimp only;rw[vc (by rw[beq_iff_eq];exact c),T.dm];rfl
noncomputable def lp(j:Nat):Nat->Nat
 | 0=>j
 | k+1=>lp ((j*5+1)%8) k
def Lp:∀j,j<8->∀m,m<8->∃k,k<8/\lp j k=m:=by decide
def eQ.A9(T:eQ led n t){p:SetTable.Probe}(b:p.more=0):t.advance p={p with j:=(p.i*5+1+p.perturb/32)%8,more:=0,i:=(p.i*5+1+p.perturb/32)%8,perturb:=p.perturb/32}:=by
 unfold SetTable.advance;rw[vc ⋯,T.mask];have a:(p.i*5+1+p.perturb/32)%8<8:=Nat.mod_lt _ nofun;have e:SetTable.runEnd 7 ((p.i*5+1+p.perturb/32)%8)=(p.i*5+1+p.perturb/32)%8:=by
  unfold SetTable.runEnd;rw[vc ⋯]
 unfold SetTable.leap
 simp_all
abbrev ny(p:SetTable.Probe):Prop:=p.more=0/\p.i=p.j/\p.j<8/\p.dummy=none
def eQ.lX(T:eQ led n t){h:Int}{f:Nat}{p:SetTable.Probe}(a:ny p)(c:∃i,t.slot p.j = .live i) :
  ∃q,ny q/\q.perturb=p.perturb/32/\q.j=(p.j*5+1+p.perturb/32)%8/\SetTable.probe.go t (λZ=>h+1) h (f+1) p=SetTable.probe.go t (λZ=>h+1) h f q:=by
 let⟨i,b⟩:=c;refine⟨t.advance p,?_⟩;rw[T.A9 a.1];refine⟨⟨rfl,rfl,Nat.mod_lt _ nofun,a.2.2.2⟩,rfl,by rw[<-a.2.1],?_⟩;rw[SetTable.probe.go,b];dsimp only;rw[vc (by rw[beq_iff_eq];lia),T.A9 a.1]
def eQ.hZ{h:Int}{f:Nat}{p:SetTable.Probe}(b:ny p)(a:t.slot p.j = .empty):SetTable.probe.go t (λq=>h+1) h (f+1) p=some (.empty p.j none):=by
 rw[SetTable.probe.go,a];dsimp only;rw[b.2.2.2]
theorem eQ.Bc(T:eQ led n t){h:Int}:∀(k f:Nat) (p:SetTable.Probe),ny p->p.perturb=0->k<f->t.slot (lp p.j k) = .empty->∃j,j<8/\t.slot j = .empty/\SetTable.probe.go t (λZ=>h+1) h f p=some (.empty j none)
 | _,0,_,_,_,hf,_=>uf hf (Nat.not_lt_zero _)
 | 0,f+1,p,hp,_,_,he=>⟨p.j,hp.2.2.1,he,eQ.hZ hp he⟩
 | k+1,f+1,p,hp,h0,hf,he=>by
  rcases T.slot p.j with⟨_,d⟩ | ⟨_,z⟩
  .let⟨q,e,a,b,c⟩:=T.lX (h:=h) (f:=f) hp d;rw[c];rw[h0]at a b;exact eQ.Bc T k f q e a ⋯ (by rw[b];exact he)
  .exact⟨p.j,hp.2.2.1,z,eQ.hZ hp z⟩
def eQ.lS(T:eQ led n t)(d:n<=7):∃m,m<8/\t.slot m = .empty:=by
 apply Classical.byContradiction;intro c;have a:∀m∈List.range 8,m∈t.place.toList:=λm b=>by
  rcases T.slot m with⟨z,_⟩ | ⟨_,z⟩
  .exact z
  .exact uf ⟨m,v2.mp b,z⟩ c
 have:=(nodup_range (n:=8)).length_le_of_subset a;rw[length_range,Array.length_toList,T.sz]at this;lia
theorem eQ.Be(T:eQ led n t)(a:n<=7){h:Int}:∀(k f:Nat) (p:SetTable.Probe),ny p->p.perturb<32^k->k+9<=f->∃j,j<8/\t.slot j = .empty/\SetTable.probe.go t (λZ=>h+1) h f p=some (.empty j none)
 | 0,f,p,hp,h0,hf=>by
  let⟨m,l,e⟩:=T.lS a;let⟨k,r,d⟩:=Lp p.j hp.2.2.1 m l;exact T.Bc k f p hp #v[h0] ⋯ (by rw[d];exact e)
 | k+1,0,_,_,_,hf=>uf hf ⋯
 | k+1,f+1,p,hp,h0,hf=>by
  rcases T.slot p.j with⟨_,g⟩ | ⟨_,z⟩
  .let⟨q,i,b,o,c⟩:=T.lX (h:=h) (f:=f) hp g;rw[c];exact eQ.Be T a k f q i (by rw[b,Nat.div_lt_iff_lt_mul nofun];rw[Nat.pow_succ]at h0;exact h0) ⋯
  .exact⟨p.j,hp.2.2.1,z,eQ.hZ hp z⟩
def eQ.free(T:eQ led n t)(c:n<=7)(h:Int):∃j,j<8/\j∉t.place.toList/\t.freeSlot h=some (j,false):=by
 have d:SetTable.bits h<2^64:=by
  unfold SetTable.bits;have:=vf h (show(0:Int)<2^64 by decide);have:=ve h (show(2^64:Int)≠0 by decide);lia
 have e:t.probeStart h=⟨SetTable.bits h%8,0,SetTable.bits h%8,SetTable.bits h,none⟩:=by
  unfold SetTable.probeStart;rw[T.mask];have g:SetTable.bits h%(7+1)<8:=Nat.mod_lt _ nofun;have e:SetTable.runEnd 7 (SetTable.bits h%(7+1))=SetTable.bits h%(7+1):=by
   unfold SetTable.runEnd;rw[vc ⋯]
  simp only[e,Nat.sub_self]
 let⟨j,f,b,a⟩:=T.Be c (h:=h) 13 220 ⟨SetTable.bits h%8,0,SetTable.bits h%8,SetTable.bits h,none⟩ ⟨rfl,rfl,Nat.mod_lt _ nofun,rfl⟩ (Nat.lt_of_lt_of_le d nofun) nofun;refine⟨j,f,?_,?_⟩
 .rcases T.slot j with⟨_,i,z⟩ | ⟨z,_⟩
  .rw[b]at z;cases z
  .exact z
 .unfold SetTable.freeSlot SetTable.probe;rw[e,T.mask];show(match SetTable.probe.go t (λq=>h+1) h 220 _ with | some (.empty j dummy)=>some (dummy.getD j,dummy.isSome) | _=>none)=_;rw[a];rfl
end
section
variable{prog:Program}{w:World}{A:Around}{E:Nz}{s:Shared}
noncomputable def fU(e:Int×Value):Int:=match e.2 with | .int k _=>k | _=>0
def iF(prog:Program)(w:World)(led:Bool)(h:Heap)(a:Addr)(ks:L5):Prop:=∃o es ep t,h.get? a=some o/\o.ExactSet/\o.data = .set es ep t/\ElemsOf (intKind prog w) es.toList/\es.toList.map fU=ks/\ks.Nodup/\eQ led es.size t/\es.size<=4
def iF.keep{led:Bool}{h h':Heap}{a:Addr}{ks:L5}(x:iF prog w led h a ks)(k:∀o,h.get? a=some o->h'.get? a=some o):iF prog w led h' a ks:=by
 let⟨o,c,b,t,d,e⟩:=x;exact⟨o,c,b,t,k o d,e⟩
def eQ.fits{led:Bool}{n:Nat}{t:SetTable}(T:eQ led n t)(h:n<=7):t.fits n=true:=by
 unfold SetTable.fits SetTable.fill;rw[T.sz,T.dm,T.mask];simpa using h
def CN{a:List (Int×Value)}(h:ElemsOf (intKind prog w) a){e:Int×Value}(b:e∈a):∃t,e.2 = .int (fU e) t:=by
 let⟨⟨k,c,q⟩,q⟩:=h e b;let⟨t,d⟩:=Value.isInt_shape (k:=k) c;refine⟨t,?_⟩;unfold fU;rw[d]
def eQ.put{led:Bool}{n:Nat}{t:SetTable}(T:eQ led n t){j:Nat}(o:j<8)(p:j∉t.place.toList):eQ led (n+1) (t.put j).1:=by
 let⟨q,k,l⟩:=Wu T.up j;have e:(t.put j).1={t with place:=SetTable.insertAt t.place (SetTable.below t.place j) j,dummies:=#[]}:=by
  unfold SetTable.put;rw[T.dm];rfl
 rw[e];have h:∀v∈t.place.toList.take (SetTable.below t.place j),v<j:=λv b=>by
  let⟨i,a⟩:=List.getElem?_of_mem b;have m:=(vx.mp a).1;rw[vi]at m;rw[ut ⋯]at a;exact k i v ⋯ a
 have d:∀v∈t.place.toList.drop (SetTable.below t.place j),j<v:=λv b=>by
  let⟨i,a⟩:=List.getElem?_of_mem b;rw[List.getElem?_drop]at a;have:=l _ v (Nat.le_add_right _ i) a;rcases Nat.lt_or_eq_of_le this with z | z
  .exact z
  .exact uf (z▸vm a) p
 have g:(SetTable.insertAt t.place (SetTable.below t.place j) j).toList=t.place.toList.take (SetTable.below t.place j)++j::t.place.toList.drop (SetTable.below t.place j):=SetTable.toList_insertAt ..;refine⟨T.mask,rfl,T.ld,T.plain,?_,?_,?_⟩
 .show(SetTable.insertAt t.place (SetTable.below t.place j) j).toList.Pairwise _;rw[g,List.pairwise_append,vU];refine⟨T.up.sublist (take_sublist _ _),⟨d,T.up.sublist (List.drop_sublist _ _)⟩,λv b u c=>?_⟩;rcases mem_cons.mp c with rfl | c
  .exact h v b
  .exact vY (h v b) (d u c)
 .show∀x∈(SetTable.insertAt t.place (SetTable.below t.place j) j).toList,x<8;intro x f;rw[g]at f;rcases vh.mp f with z | z
  .exact T.le x (mem_of_mem_take z)
  .rcases mem_cons.mp z with rfl | z
   .exact o
   .exact T.le x (List.mem_of_mem_drop z)
 .show(SetTable.insertAt t.place (SetTable.below t.place j) j).size=n+1;rw[<-Array.length_toList,(SetTable.insertAt_perm t.place _ j).length_eq,Array.toList_push,vn,Array.length_toList,T.sz];rfl
def oG{led:Bool}{a:Addr}{ks:L5}{k:Int}{c:Tok}{Q:Bool->Shared->Prop}(X:iF prog w led s.heap a ks)(C:k∈ks\/⇑ks<4)
  (h:∀b h' r,Heap.SameBut a s.heap h'->iF prog w led h' a r->(∀x,x∈r↔x∈ks\/x=k)->Q b {s with heap:=h'}):wpAny (model prog w) A (setAddHashed a (.int k c) ((intKind prog w).hash k)) Q E s:=by
 let⟨o,d,D,t,q,p,l,f,g,O,T,W⟩:=X;have N:=T.fits ⋯;have kl:⇑ks=d.size:=by rw[<-g,vt,Array.length_toList]
 have v:∀x,x∈ks↔∃e∈d.toList,(intKind prog w).is x e.2=true:=λx=>by
  rw[<-g,vK];constructor
  .rintro⟨e,m,rfl⟩;let⟨u,J⟩:=CN f m;exact⟨e,m,by rw[J];exact intKind_is _ _ _ _⟩
  .rintro⟨e,m,K⟩;let⟨u,J⟩:=Value.isInt_shape (k:=x) K;refine⟨e,m,?_⟩;unfold fU;rw[J]
 unfold setAddHashed setAddHashedIn;refine wpAny_holding (uh (wpAny_setState_of q l N ?_));dsimp only;rw[byScan_of (knd:=intKind prog w) (x:=.int k c) rfl (by unfold scanBound;lia) f];simp only[↓reduceIte];unfold setAddByScan;refine uh (uh (wpAny_rule (uh (wpAny_setScan_of (knd:=intKind prog w) (k:=k) (intKind_is _ _ _ _) q l N f ?_))));cases hr:List.findIdx? (λe=>(intKind prog w).is k e.2) d.toList with
 | some j=>
  dsimp only;let⟨hj,I,_⟩:=List.findIdx?_eq_some_iff_getElem.mp hr;have H:k∈ks:=(v k).mpr ⟨d.toList[j],getElem_mem hj,I⟩;refine ug (ug ?_);exact h _ s.heap ks (Heap.SameBut.refl a s.heap) ⟨o,d,D,t,q,p,l,f,g,O,T,W⟩ λx=>⟨.inl,λz=>z.elim id λe=>e▸H⟩
 | none=>
  dsimp only;have P:k∉ks:=λH=>by
   let⟨e,m,hp⟩:=(v k).mp H;have:=List.findIdx?_eq_none_iff.mp hr e m;rw[hp]at this;cases this
  have n4:d.size<4:=by
   rcases C with z | z
   .exact uf z P
   .lia
  let⟨j,j8,nj,U⟩:=T.free ⋯ ((intKind prog w).hash k);have i:=T.put j8 nj;have B:=SetTable.insertAt_perm d (t.put j).2 ((intKind prog w).hash k,Value.int k c);have L:(SetTable.insertAt d (t.put j).2 ((intKind prog w).hash k,Value.int k c)).size=d.size+1:=by
   rw[<-Array.length_toList,B.length_eq,Array.toList_push,vn,Array.length_toList];rfl
  have S:layNew t d ((intKind prog w).hash k) (.int k c)=(SetTable.insertAt d (t.put j).2 ((intKind prog w).hash k,Value.int k c),(t.put j).1,false,false):=by
   have M:(t.put j).1.fits (d.size+1)=true:=i.fits ⋯;unfold layNew;rw[U];dsimp only;rw[L];unfold SetTable.orStandIn;rw[vd M,M];rfl
  rw[S];dsimp only;refine uh (ug ?_);rw[vd i.plain];refine uh ?_;rw[hashByValue_scannable 8 (x:=.int k c) rfl];refine ug ?_;rw[show plainKind (.int k c)=true from rfl];simp only[↓reduceIte];generalize Y:SetTable.insertAt d (t.put j).2 ((intKind prog w).hash k,Value.int k c)=es1 at B L|-;generalize a0:(t.put j).1=t1 at i|-;rw[Array.toList_push]at B;have n:ElemsOf (intKind prog w) es1.toList:=(f.push (k:=k) (x:=.int k c) (intKind_is _ _ _ _) rfl).perm B;refine uh (wpAny_storeSet_of q l ?_ (fits_of_scanBound (by unfold scanBound;lia)));have Z:(s.heap.update a (Obj.putSet es1 t1)).get? a=some {o with data:=.set es1 (D+1) t1}:=by
   have:=Heap.get?_update_self (Obj.putSet es1 t1) q (by rw[putSet_of es1 t1 l];rfl);rw[putSet_of es1 t1 l]at this;exact this
  have nf:(!false&&t1.tooFull)=false:=by
   unfold SetTable.tooFull SetTable.fill;rw[i.sz,i.dm,i.mask];simp;lia
  rw[nf];simp only[Bool.false_eq_true,↓reduceIte];refine ug (ug ?_);have R:(es1.toList.map fU).Perm (ks++[k]):=by
   have:=B.map fU;rw[vj,g]at this;exact this
  refine h _ _ (es1.toList.map fU) (Heap.SameBut.update s.heap a _) ⟨_,es1,D+1,t1,Z,p,rfl,n,rfl,?_,L▸i,⋯⟩ λx=>?_
  .exact R.nodup_iff.mpr (nodup_append.mpr ⟨O,pairwise_singleton _ _,λx K y hy=>by rw[vo.mp hy];exact λz=>P (z▸K)⟩)
  .rw[R.mem_iff,vh,vo]
end
section
variable{prog:Program}{w:World}{A:Around}{R:Result->Shared->Prop}{I:Addr}{fp wr:L7}{G:Array GenState->Array GenState->Prop}{n:Nat}{P:Nat->Value->Prop}{St:Nat->Shared->Prop}
def Hu{led:Bool}(W:WalksS prog w A.in1 I fp wr G n P St)(a:Addr)(T:a∉fp)(xs:L5)(D:L5)(hD:⇑D<=4)(Y:∀x∈xs,x∈D)(hn:⇑xs=n)(hx:∀i v,P i v->∃x t,xs[i]?=some x/\v = .int x t) :
  ∀(k i:Nat) (s:Shared) (ks:L5),n-i=k->i<=n->St i s->iF prog w led s.heap a ks->(∀x,x∈ks↔x∈xs.take i)->
   (∀s' d,Moved (a::wr) G s s'->iF prog w led s'.heap a d->(∀x,x∈d↔x∈xs)->R (.ok (.ret .none)) s')->codeAny (model prog w) A (.builtin "set.update.loop" ⟨[.ref a,.ref I],[]⟩) R s:=by
 have Q:a∉wr:=λz=>T (W.sub _ z)
 have up:∀c∈wr,c∈a::wr:=λc h=>vp _ h
 intro k
 induction k with
 | zero=>
  intro i s ks e le N r f q;obtain rfl:i=n:=⋯
  refine codeAny_builtin F.entry_set_update_loop ?_;rw[Around.under_plainId F.plain_set_update_loop _];refine uh (m:=pyNext (.ref I)) (W.done s _ _ N λs' l=>ug (q s' ks (l.mono up) (r.keep λo e=>l.heap a _ Q e) λx=>?_));rw[f,<-hn,v3]
 | succ k ih=>
  intro i s ks e le N r f q;have U:i<n:=⋯
  refine codeAny_builtin F.entry_set_update_loop ?_;rw[Around.under_plainId F.plain_set_update_loop _];refine uh (m:=pyNext (.ref I)) (W.item i s _ _ U N λv s' pv O l=>?_);let⟨x,t,S,rfl⟩:=hx i v pv;have u:iF prog w led s'.heap a ks:=r.keep λo e=>l.heap a _ Q e
  refine uh (m:=holding [Value.int x t] (setAdd a (.int x t))) (wpAny_holding ?_);unfold setAdd;refine wpAny_holding ?_;refine uh ((intKind prog w).pyHash (k:=x) (intKind_is _ _ _ _) ?_);have p:x∈ks\/⇑ks<4:=by
   by_cases c:x∈ks
   .exact .inl c
   .right;let⟨_,_,_,_,_,_,_,_,_,nd,_,_⟩:=r;have:=(ur.mpr ⟨c,nd⟩).length_le_of_subset (l₂:=D) λy K=>by
     rcases mem_cons.mp K with rfl | K
     .exact Y _ (vm S)
     .exact Y _ (mem_of_mem_take ((f y).mp K))
    rw[vP]at this;lia
  refine oG (s:={s' with toks:=s'.toks+1}) u p λb h' d X B E=>?_
  have H:∀y,y∈d↔y∈xs.take (i+1):=λy=>by
   have Z:xs.take (i+1)=xs.take i++[x]:=by
    rw[List.take_succ,S];rfl
   rw[Z,E,f,vh,vo]
  refine ug ⟨plainId_quiet F.plain_set_update_loop _,ih (i+1) _ d ⋯ U (W.frame _ s' _ _ O (Nat.le_succ _) λb C o e=>?_) B H λM j L g J=>?_⟩
  .rw[X.2 b (λz:b=a=>T (by rw[<-z];exact C))];exact e
  .refine q M j (Moved.trans W.gtrans ((l.mono up).then_heap (Nat.le_succ _) λb o C e=>?_) L) g J;rw[X.2 b (λz:b=a=>C (by rw[z];exact vq))];exact e
end
open PySem PySem.Spec PySem.W PyProof.Rows
def BQ:Manifest.owners.lookup (String.ofList ['r','o','t','a','r','e','t','i','_','t','e','s'].reverse)=some Manifest.sig_set_iterator:=by kernel_rfl
def Y0:Slot "set_iterator" "__next__" "set_iterator.__next__":=
 .of (owner:="set_iterator") (n:="__next__") (by rw[typeLookup_type,builtinLookup_eq_fast];kernel_rfl) ∅ ∅ ∅ (by first | exact .inl ∅ | exact .inr ∅) (by rw[isSubtype_type];kernel_rfl)
def BP:entryFor table "set_iterator.__next__"= some Builtin.«set_iterator.__next__»:=entryFor_of_tree (by kernel_rfl)
def Cf(a:Value):argsOk "set_iterator.__next__" ⟨[a],[]⟩:=by
 unfold argsOk;rw[signature?_of (id:="set_iterator.__next__") (n:=['_','_','t','x','e','n','_','_']) (o:=['r','o','t','a','r','e','t','i','_','t','e','s']) (by kernel_rfl) BQ];kernel_rfl
def Cg:Slot "set_iterator" "__iter__" "set_iterator.__iter__":=
 .of (owner:="set_iterator") (n:="__iter__") (by rw[typeLookup_type,builtinLookup_eq_fast];kernel_rfl) ∅ ∅ ∅ (by first | exact .inl ∅ | exact .inr ∅) (by rw[isSubtype_type];kernel_rfl)
def Ff:entryFor table "set_iterator.__iter__"= some Builtin.«dict_keyiterator.__iter__»:=entryFor_alias (id':="dict_keyiterator.__iter__") (by kernel_rfl) rfl ∅ (by kernel_rfl)
def Hv(a:Value):argsOk "set_iterator.__iter__" ⟨[a],[]⟩:=by
 unfold argsOk;rw[signature?_of (id:="set_iterator.__iter__") (n:=['_','_','r','e','t','i','_','_']) (o:=['r','o','t','a','r','e','t','i','_','t','e','s']) (by kernel_rfl) BQ];kernel_rfl
def Hr:entryFor table "set.__iter__"= some Builtin.«frozenset.__iter__»:=entryFor_alias (id':="frozenset.__iter__") (by kernel_rfl) rfl ∅ (by kernel_rfl)
def EY{b:Type}(nx:Nat->Nat):∀(f k:Nat) (left:List b) (out:Array b),f=⇑left->(pickOrder.go nx f k left out).toList.Perm (out.toList++left):=by
 intro d
 induction d with
 | zero=>
  intro q left out e;rw[List.eq_nil_of_length_eq_zero e.symm,append_nil];exact .rfl
 | succ f ih0=>
  intro k left out e;have a:nx k%⇑left<⇑left:=Nat.mod_lt _ ⋯;unfold pickOrder.go;rw[vz a];dsimp only;refine(ih0 (k+1) _ _ (by rw[List.length_eraseIdx_of_lt a];lia)).trans ?_;rw[Array.toList_push,List.append_assoc];refine List.Perm.append_left _ ?_;rw[List.singleton_append,List.eraseIdx_eq_take_drop_succ];have c:left=left.take (nx k%⇑left)++left[nx k%⇑left]::left.drop (nx k%⇑left+1):=by
   simp_all
  exact List.perm_middle.symm.trans (List.Perm.of_eq c.symm)
section
variable{prog:Program}{w:World}{A:Around}{E:Nz}{s:Shared}
noncomputable abbrev lP(w:World):Bool:=w.params.followText "set-order"
noncomputable def g9(w:World)(a:Addr)(ep:Nat)(es:Array (Int×Value)):Array (Int×Value):=if lP w=true then pickOrder (w.params.setOrder a ep) es else es
def wC(a:Addr)(ep:Nat)(b:Array (Int×Value)):(g9 w a ep b).toList.Perm b.toList:=by
 unfold g9;split
 .have:=EY (w.params.setOrder a ep) b.size 0 b.toList #[] (by rw[Array.length_toList]);rw[show(#[]:Array (Int×Value)).toList++b.toList=b.toList from List.nil_append _]at this;exact this
 .exact .rfl
noncomputable def mO(w:World)(t:SetTable)(i:Nat):Nat:=if lP w=true then 0 else if i=0 then 0 else t.place∘(i-1)+1
def eQ.below_at{led:Bool}{n:Nat}{t:SetTable}(T:eQ led n t){i:Nat}(hi:i<=n):SetTable.below t.place (if i=0 then 0 else t.place∘(i-1)+1)=i:=by
 let⟨g,d,f⟩:=Wu T.up (if i=0 then 0 else t.place∘(i-1)+1);generalize b:(if i=0 then 0 else t.place∘(i-1)+1)=j at g d f|-;have l:=T.sz;have a:∀k,k<n->t.place.toList[k]?=some (t.place∘k):=λk h=>by
  simp_all
 rcases Nat.lt_trichotomy (SetTable.below t.place j) i with z | z | z
 .have e:=a (i-1) ⋯;have:=f (i-1) _ ⋯ e;rw[vc ⋯]at b;lia
 .exact z
 .have e:=a i ⋯;have:=d i _ z e;by_cases c:i=0
  .rw[vd c]at b;lia
  .rw[vc c]at b;have:=ux T.up (a (i-1) ⋯) e ⋯;lia
def pe{a:Addr}{o:Obj}{b:Array (Int×Value)}{ep:Nat}{t:SetTable}{i:Nat}{Q:Option (Value×Nat)->Shared->Prop}(k:s.heap.get? a=some o)(g:o.data = .set b ep t)(T:eQ (!lP w) b.size t)(p:b.size<=4)(hi:i<=b.size)
  (h:Q (((g9 w a ep b)[i]?).map λe=>(e.2,mO w t (i+1))) s):wpAny (model prog w) A (setNext a (mO w t i) i ep) Q E s:=by
 have j:=T.fits ⋯;have f:∀{R:Bool->Shared->Prop} {l:Shared},R (lP w) l->wpAny (model prog w) A setsByText R E l:=λh=>uh (wpAny_askSetting (ug h))
 unfold setNext;refine uh (wpAny_setState_of k g j ?_);dsimp only;refine uh (f ?_);by_cases c:lP w=true
 .rw[vd c];rw[vc (by simp)];unfold setWalk;refine uh (uh (wpAny_setState_of k g j ?_));dsimp only;refine uh (f ?_);rw[vd c];refine uh (wpAny_askSetting (ug (ug ?_)));unfold g9 mO at h;rw[vd c,vd c]at h;unfold mO;rw[vd c];exact h
 .rw[vc c];have n:t.led=true:=by rw[T.ld];simpa using c
  refine wpAny_ite_split (λz=>?_) (λZ=>?_)
  .exact uf (show(!t.plain&&decide (b.size>1))=true from z) (by rw[T.plain];simp)
  refine uh ?_;show wpAny _ _ (if(!t.led && !b.isEmpty)=true then _ else pure ()) _ _ _;rw[vc (by rw[n];simp)];refine ug ?_;have m:=T.below_at hi;have d:mO w t i=if i=0 then 0 else t.place∘(i-1)+1:=by unfold mO;rw[vc c]
  rw[d,m];unfold g9 mO at h;rw[vc c,vc c,vc (Nat.succ_ne_zero i)]at h;refine ug ?_;rcases Nat.lt_or_ge i b.size with z | z
  .have q:=T.sz
   simp_all
  .rw[Array.getElem?_eq_none z]at h|-;exact h
noncomputable abbrev rR(a:Addr)(p i n ep:Nat):Obj:={cls:=.type "set_iterator",dict:=none,data:=.fields #[.int p 0,.int i 0,.ref a,.int n 0,.int ep 0],slots:=#[]}
def sW{it a:Addr}{o:Obj}{b:Array (Int×Value)}{ep:Nat}{t:SetTable}{i:Nat}{e:Int×Value}{Q:Option Value->Shared->Prop}(f:s.heap.get? a=some o)(d:o.data = .set b ep t)(T:eQ (!lP w) b.size t)(n:b.size<=4)(hi:i<b.size)(q:(g9 w a ep b)[i]?=some e)
  (c:s.heap.get? it=some (rR a (mO w t i) i b.size ep)) (p:∀h',h'.get? it=some (rR a (mO w t (i+1)) (i+1) b.size ep)->Heap.SameBut it s.heap h'->Q (some e.2) {s with heap:=h'}):wpAny (model prog w) A (pyNext (.ref it)) Q E s:=by
 have hT:s.TypeIs (.ref it) "set_iterator":=⟨_,c,rfl⟩
 have r:=T.fits ⋯;unfold pyNext;refine uh (wpAny_attempt (wpAny_callSpecial?_slot (name:=Str.ofString "__next__") hT Y0 (wpAny_call_entry Y0 hT BP ?_ (Cf _))));unfold Builtin.«set_iterator.__next__»;refine uh (m:=slotArgs "__next__" 0 ⟨[.ref it],[]⟩) (ug ?_);refine uh (wpAny_fieldsOf c rfl ?_);dsimp only;refine uh (wpAny_setEntries_of f d r ?_);rw[vc (by simp)];simp only[Int.toNat_natCast];refine uh (pe f d T n (vX hi) ?_);rw[q];dsimp only[Option.map];refine uh (wpAny_setField_rec c (by simp) λu j g=>?_);refine uh (wpAny_setField_rec j (by simp) λl k h=>?_);exact ug ⟨_,rfl,ug (p l (by rw[k];simp[rawInt]) (g.trans h))⟩
def uZ{it a:Addr}{o:Obj}{c:Array (Int×Value)}{ep:Nat}{t:SetTable}{Q:Option Value->Shared->Prop}(k:A.handled=none)(f:s.heap.get? a=some o)(e:o.data = .set c ep t)(T:eQ (!lP w) c.size t)(h:c.size<=4)
  (d:s.heap.get? it=some (rR a (mO w t c.size) c.size c.size ep)) (i:∀h',Heap.ExtBut it s.heap h'->Q none {s with heap:=h'}):wpAny (model prog w) A (pyNext (.ref it)) Q E s:=by
 have hT:s.TypeIs (.ref it) "set_iterator":=⟨_,d,rfl⟩
 have j:=T.fits ⋯;unfold pyNext;refine uh (wpAny_attempt (wpAny_callSpecial?_slot (name:=Str.ofString "__next__") hT Y0 (wpAny_call_entry Y0 hT BP ?_ (Cf _))));unfold Builtin.«set_iterator.__next__»;refine uh (m:=slotArgs "__next__" 0 ⟨[.ref it],[]⟩) (ug ?_);refine uh (wpAny_fieldsOf d rfl ?_);dsimp only;refine uh (wpAny_setEntries_of f e j ?_);rw[vc (by simp)];simp only[Int.toNat_natCast];have l:=(wC (w:=w) a ep c).length_eq;rw[Array.length_toList,Array.length_toList]at l;refine uh (pe f e T h (vb _) ?_);rw[Array.getElem?_eq_none ⋯];dsimp only[Option.map];refine uh (wpAny_setField_rec d (by simp) λp n g=>?_);refine uh ?_;simp only[newExc,newTuple];refine uh (wpAny_newObj_type ?_ (by size_fits));refine uh (m:=firstArgMember _ _) (wpAny_of_eq (a:=Value.none) (by first | rfl | (simp only[firstArgMember];rfl)) ?_);refine wpAny_newObj_type ?_ (by size_fits);simp only[raiseNew];refine uh (wpAny_handled ?_);rw[show A.in1.handled=none from k];refine uh (ug (wpAny_throw ?_));refine uh (wpAny_isInstance (T:="StopIteration") (b:=true) ⟨_,Heap.get?_push_size _ rfl,rfl⟩ isSubtype_stop ?_);exact ug (i _ ((g.extBut.push _).push _))
def sG{a:Addr}{o:Obj}{b:Array (Int×Value)}{ep:Nat}{t:SetTable}{Q:Nz}(c:s.heap.get? a=some o)(g:o.ExactSet)(d:o.data = .set b ep t)(T:eQ (!lP w) b.size t)(h:b.size<=4)
  (f:Q (.ref s.heap.objs.size) {s with heap:=s.heap.push (rR a 0 0 b.size ep)}):wpAny (model prog w) A (pyIter (.ref a)) Q E s:=by
 have hT:s.TypeIs (.ref a) "set":=⟨_,c,g.1⟩
 have e:=T.fits ⋯;refine wpAny_pyIter_slot hT F.slot_set_iter (wpAny_call_entry F.slot_set_iter hT Hr ?_ (F.args_set_iter_1 _));unfold Builtin.«frozenset.__iter__»;refine uh (m:=Builtin.Frozenset.slot0 "__iter__" ⟨[.ref a],[]⟩) (ug ?_);unfold Builtin.Frozenset.sizeOf;refine uh (uh (wpAny_setEntries_of c d e (ug ?_)));unfold setDrawn;refine uh (uh (wpAny_setState_of c d e ?_));dsimp only;refine uh (uh (wpAny_askSetting (ug (ug ?_))));refine wpAny_ite_split (λz=>?_) (λq=>?_)
 .exact uf (show(!lP w&&(!t.plain&&decide (b.size>1)))=true from z) (by rw[T.plain];simp)
 refine uh (ug ?_);refine uh (wpAny_setEpoch_of c d e ?_);refine uh (wpAny_newObj_type (ug ⟨_,rfl,"set_iterator",_,⟨_,Heap.get?_push_size _ rfl,rfl⟩,Y0.lookup,?_⟩));exact f
def tW(x:A.handled=none)(I a:Addr)(l:a≠I){o:Obj}{d:Array (Int×Value)}{ep:Nat}{t:SetTable}(n:o.data = .set d ep t)(T:eQ (!lP w) d.size t)(m:d.size<=4) :
  Walks prog w A I [I,a] [I] d.size (λi v=>∃e,(g9 w a ep d)[i]?=some e/\v=e.2) (λi h=>h.get? I=some (rR a (mO w t i) i d.size ep)/\h.get? a=some o) where
 sub:=λb g=>by rw[vo.mp g];exact vq
 frame:=λZ Z Z c q=>⟨q I vq _ c.1,q a (vp _ vq) _ c.2⟩
 item:=λi s Q E y c f=>by
  have B:=(wC (w:=w) a ep d).length_eq;rw[Array.length_toList,Array.length_toList]at B;have p:(g9 w a ep d)[i]?=some ((g9 w a ep d)[i]'⋯):=Array.getElem?_eq_getElem _;refine sW c.2 n T m y p c.1 λj u r=>?_
  exact f _ j s.toks ⟨_,p,rfl⟩ ⟨u,(r.2 a l).trans c.2⟩ λb o g e=>(r.2 b λz=>g (by rw[z];exact vq)).trans e
 done:=λs Q E c f=>uZ x c.2 n T m c.1 λj k=>f j s.toks λb o g e=>k b o (λz=>g (by rw[z];exact vq)) e
 self:=λi s Q E c f=>by
  have hT:s.TypeIs (.ref I) "set_iterator":=⟨_,c.1,rfl⟩
  refine wpAny_pyIter_slot hT Cg (wpAny_call_entry Cg hT Ff ?_ (Hv _));show wpAny _ _ (ret (.ref I)) _ _ s;exact ug ⟨_,rfl,"set_iterator",_,hT,Y0.lookup,f⟩
def sC{r:Addr}{Q:Bool->Shared->Prop}(hT:s.TypeIs (.ref r) "set")(h:Q false s):wpAny (model prog w) A (Builtin.List.listLengthHint (.ref r)) Q E s:=by
 unfold Builtin.List.listLengthHint;refine uh (wpAny_specialOf hT F.slot_set_len.lookup ?_);generalize a:("set.__len__" : String)=id0
 wp_delta
 rw[show splitId id0=some ("set","__len__")from by subst a;decide +kernel];subst a;refine uh (wpAny_isInstance (T:="set") (b:=true) hT (by rw[isSubtype_type];kernel_rfl) ?_);refine wpAny_ite_split (λz=>uf z nofun) (λq=>?_);refine wpAny_ite_split (λq=>?_) (λz=>uf ∅ z);exact uh (wpAny_typeOf hT (ug h))
def A2{a:Addr}{o:Obj}{c:Array (Int×Value)}{ep:Nat}{t:SetTable}(f:o.ExactSet)(j:o.data = .set c ep t)(T:eQ (!lP w) c.size t)(g:c.size<=4) :
  KdlSrc prog w "set" a a c.size (λi v=>∃e,(g9 w a ep c)[i]?=some e/\v=e.2) (λh=>h.get? a=some o) where
 type:=λq b=>⟨_,b,f.1⟩
 there:=λq b=>⟨vI b,vI b⟩
 keep:=λq q b l=>l a (.inl rfl) o b
 notList:=by decide
 notTuple:=by decide
 hint:=λq q s q b d=>sC ⟨_,b,f.1⟩ d
 iter:=λA s k b=>⟨rR a 0 0 c.size ep,_,(λq q d=>sG b f j T g d),tW k _ a (vE (vI b)) j T g,by
  refine⟨?_,vJ _ b⟩;rw[show mO w t 0=0 by unfold mO;split<;>rfl];exact Heap.get?_push_size _ rfl⟩
noncomputable abbrev mV(w:World):Obj:={cls:=.type "set",dict:=none,data:=.set #[] 0 (.fresh 0 0 (!lP w))}
def AS(a:Value){Q:Nz}(h:Q (.ref s.heap.objs.size) {s with heap:=s.heap.push (mV w)}):codeAny (model prog w) A (.call (.builtin "set.__new__") ⟨[.type "set",a],[]⟩) (wants Q E) s:=by
 refine codeAny_of_tree ?_;show wpAny _ A.in1 (do checkBuiltinCall "set.__new__" ⟨[.type "set",a],[]⟩;again (.builtin "set.__new__" ⟨[.type "set",a],[]⟩)) _ _ s;refine uh (wpAny_of_eq (F.newCall_set_1 a) (ug ⟨plainId_quiet F.plain_set_new _,codeAny_builtin F.entry_set_new ?_⟩));rw[Around.under_plainId F.plain_set_new _];unfold Builtin.«set.__new__» Builtin.Frozenset.newClass;have b:=sub_set_self;let⟨c,g,d,f,e⟩:=s;dsimp only
 wp_walk
 refine wpAny_askSetting (ug ?_);dsimp only;simp only[newObj];exact uh (wpAny_alloc (ug (ug h)))
set_option maxRecDepth 100000 in
set_option maxHeartbeats 3200000 in
def EN{l:Addr}{items:Array Value}{xs D:L5}{Q:Nz}(hh:A.handled=none)(hl:s.heap.IsList l items)(Y:⇑D<=4)(xD:∀x∈xs,x∈D)(hn:⇑xs=items.size)(hx:∀(i:Nat) (v:Value),items[i]?=some v->∃(x:Int) (t:Tok),xs[i]?=some x/\v = .int x t)
  (h:∀(h':Heap) (tk:Nat) (ks:L5),iF prog w (!lP w) h' s.heap.objs.size ks->(∀x,x∈ks↔x∈xs)->(∀b o,s.heap.get? b=some o->h'.get? b=some o)->Q (.ref s.heap.objs.size) {s with heap:=h',toks:=tk}) :
  wpAny (model prog w) A (call (.type "set") [.ref l]) Q E s:=by
 let⟨c,tl,mr⟩:=F.called_set.mro;have k1:=F.called_set.made;have k2:=F.called_set.sub;refine wpAny_call (codeAny_of_tree ?_);show wpAny _ _ (callAny (.type "set") _) _ _ _;refine ug ⟨Code.quiet_builtin _ ∅,codeAny_builtin F.entry_type_call ?_⟩;rw[Around.under_plain (weight_type_call_type "set" [.ref l] []) rfl];have k3:=F.called_set.notType;have k4:=F.called_set.canCreate;have k5:=F.typeCall_set_1 (.ref l)
 repeat (any_goals (first | assumption | wp_step))
 refine codeAny_mono (AS (.ref l) (E:=E) (Q:=λm n=>m = .ref s.heap.objs.size/\n={s with heap:=s.heap.push (mV w)}) ⟨rfl,rfl⟩) λr s1 B=>?_
 cases r with
 | error e=>exact B
 | ok fl=>
  cases fl with
  | ret m=>
   let⟨rfl,rfl⟩:=B;have K:(s.heap.push (mV w)).get? s.heap.objs.size=some (mV w):=Heap.get?_push_size _ rfl;have hT:Shared.TypeIs {s with heap:=s.heap.push (mV w)} (.ref s.heap.objs.size) "set":=⟨_,K,rfl⟩
   have k6:=F.called_set.init.lookup;have k7:=F.called_set.init.bind (.ref s.heap.objs.size)
   repeat (any_goals (first | assumption | wp_step))
   refine codeAny_mono (codeAny_call_builtin (R:=wants (λr p=>r = .none/\∃h' tk ks,p={s with heap:=h',toks:=tk}/\iF prog w (!lP w) h' s.heap.objs.size ks/\(∀x,x∈ks↔x∈xs)/\(∀b o,s.heap.get? b=some o->h'.get? b=some o)) E) F.called_set.init.plain F.entry_set_init (check_set_init_1 hT ?_)) λr2 s2 a=>?_
   .let⟨ol,j,d,N,f⟩:=hl;let⟨oc,od,a0,I⟩:=ol;simp only at d f;subst d f;have k:(s.heap.push (mV w)).get? l=some {cls:=.type "list",dict:=od,data:=.seq items N,slots:=I}:=vJ _ j;have j1:=F.sub_list_set;have j2:=F.sub_list_frozenset;have j3:(Value.type "list"== Value.type "dict")=false:=by decide
    have g:(s.heap.push (mV w)).IsList l items:=⟨_,k,rfl,N,rfl⟩
    unfold Builtin.«set.__init__» noKeywords Builtin.Frozenset.updateFrom;generalize u:pyIter=PI
    wp_walk
    subst u;refine wpAny_pyIter_list g ?_;refine uh (wpAny_runValue ?_);have L:l<s.heap.objs.size:=vI j;have X:A.in1.in1.in1.handled=none:=by simp[hh]
    have n1:l≠(s.heap.push (mV w)).objs.size:=by rw[Heap.size_push];exact vE (Nat.lt_succ_of_lt L)
    have n2:s.heap.objs.size∉[(s.heap.push (mV w)).objs.size,l]:=by
     rw[Heap.size_push];simp only[mem_cons,List.not_mem_nil,or_false,not_or];exact⟨vE (Nat.lt_succ_self _),vN L⟩
    refine Hu (led:=!lP w) ((Walks.list X _ l n1 items).toS) s.heap.objs.size n2 xs D Y xD hn hx (items.size-0) 0 _ [] ⋯ (va _) ⟨⟨_,Heap.get?_push_size _ rfl,rfl,rfl⟩,(g.push _)⟩ ?hS0 (λx=>by simp) ?hR
    case hS0=>
     have hg:((s.heap.push (mV w)).push {cls:=.type "list_iterator",data:=.fields #[.ref l,.int 0 0]}).get? s.heap.objs.size=some (mV w):=vJ _ K;exact⟨_,#[],0,_,hg,⟨rfl,rfl,rfl⟩,rfl,(λe Z=>nomatch Z),rfl,.nil,eQ.fresh _,by decide⟩
    case hR=>
     intro s' C q y z;let⟨h',W,P,J,H⟩:=s';have T:W=s.gens:=q.gens;have S:P=s.drawn:=q.drawn;have U:H=s.os:=q.os;subst T S U;show wpAny _ _ _ _ _ _;refine ug ?_;show wpAny _ _ (ret Value.none) _ _ _;refine ug ⟨rfl,h',J,C,rfl,y,z,λb o e=>?_⟩;have M:=vI e;have O:b≠(s.heap.push (mV w)).objs.size:=by rw[Heap.size_push];exact vE (Nat.lt_succ_of_lt M)
     exact q.heap b o (by simp only[mem_cons,List.not_mem_nil,or_false,not_or];exact⟨vE M,O⟩) (vJ _ (vJ _ e))
   .cases r2 with
    | error e=>exact a
    | ok fl2=>
     cases fl2 with
     | ret r=>
      let⟨rfl,h',tk,ks,rfl,q1,q2,q3⟩:=a
      repeat (any_goals (first | assumption | wp_step))
      exact h _ _ _ q1 q2 q3
     | _=>exact a.elim
  | _=>exact B.elim
end
section
variable{X:Cx}
def FD{prog:Program}{w:World}{l:List (Int×Value)}(h:ElemsOf (intKind prog w) l):IntsAre (l.map (·.2)) (l.map fU):=by
 induction l with
 | nil=>exact .nil
 | cons e r ih=>
  let⟨t,b⟩:=CN h (vq (a:=e) (l:=r));rw[v7,v7,b];exact .cons _ t (ih h.tail)
def DF(K:cA)(te:TE):TE:=λσ H Q=>te σ H λx H1=>∃(a:Addr) (xs D:L5),x = .ref a/\bZ K H1 a (xs.map V.int)/\⇑D<=4/\(∀x∈xs,x∈D)/\∀(l:Addr) (ms:L5),H1 l=none->ms.Pairwise (· < ·)->(∀x,x∈ms↔x∈xs)->Q (.ref l) (upd H1 l (.lst (ms.map V.int)))
def Li{K:cA}{c:TE}{d:St}{H:Hp}{Q:VK}(h:c d H λx H1=>∃(a:Addr) (xs D:L5),x = .ref a/\bZ K H1 a (xs.map V.int)/\⇑D<=4/\(∀x∈xs,x∈D)/\∀(l:Addr) (b:L5),H1 l=none->b.Pairwise (· < ·)->(∀x,x∈b↔x∈xs)->Q (.ref l) (upd H1 l (.lst (b.map V.int)))):DF K c d H Q:=h
def Em{e:Expr}{te:TE}{p W Z d:Pos}(hc:X.calm=true)(g1:Gl X "sorted")(m1:X.mg "sorted"= none)(g2:Gl X "set")(m2:X.mg "set"= none)(N:PE X e te)(b1:bootBuiltins "sorted"= some (.builtin "sorted"):=by trivial)
  (E:starEach [.Call (.Name "set" W) [e] [] d] X.env=[(false,eval (.Call (.Name "set" W) [e] [] d) X.env)]:=by rfl) (hs:starEach [e] X.env=[(false,eval e X.env)]:=by rfl) :
  PE X (.Call (.Name "sorted" p) [.Call (.Name "set" W) [e] [] d] [] Z) (DF X.K te):=by
 intro j s σ H Q I h;refine wpAny_Call_Name_kw (ZU I g1 m1 b1 ?_);refine PyProof.Rows.callWith_builtin1 ?_ E rfl;rw[E];refine Calls.spliced_cons ?_;refine Call_ (ZU I g2 m2 Ia (PyProof.Rows.callWith_type1 ?_ hs rfl));rw[hs];refine Calls.spliced_cons (cM (N j s σ H _ I h) λu r z_=>?_);let⟨x,H1,n,r1,a,xs,D,K,hq,hD,xD,q⟩:=z_;refine Calls.spliced_nil ?_;subst K;cases r1;let⟨J,rv,pl,_⟩:=n.list hq;have lx:=⇑rv;rw[vt]at lx;refine EN (xs:=xs) (D:=D) (n.ok.hd hc) pl.isList hD xD (by rw[size_toArray];exact lx) (λi v hv=>?_) λh' tk ks hS S hk=>?_
 .have hi:i<⇑J:=by
   have:=(Array.getElem?_eq_some_iff.mp hv).1;simpa using this
  have K:xs[i]?=some (xs[i]'⋯):=vz _;let⟨u,hu,ru⟩:=rv.get (i:=i) (x:=V.int (xs[i]'⋯)) (by rw[vv,K];rfl);let⟨t,rfl⟩:=ru;have:v=_:=vL (hv.symm.trans (show J.toArray[i]?=some _ by simpa using hu));exact⟨_,t,K,this⟩
 .refine Calls.spliced_nil ?_;let⟨o,B,M,t,ho,P,hd,O,C,nd,T,h4⟩:=hS;have I2:Inv X j σ H1 {r with heap:=h',toks:=tk}:=n.kept hk;refine Calls.call_function_entry kind_sorted plain_sorted entry_sorted (args_sorted1 _) ?_;unfold Builtin.«sorted»;refine uh (m:=checkCount "sorted" 1 1 _) (ug ?_);refine uh (kdu_collect (A:=X.A.in1) (A2 P hd T h4) (I2.ok.hd hc) ho (vV h4 nofun) λk a0 c R g=>?_);have U:=wC (w:=X.w) r.heap.objs.size M B;have ol:=U.length_eq;rw[Array.length_toList,Array.length_toList]at ol;have ea:c.toList=(g9 X.w r.heap.objs.size M B).toList.map (·.2):=by
   refine List.ext_getElem? λi=>?_
   rw[vv,Array.getElem?_toList,Array.getElem?_toList];rcases Nat.lt_or_ge i c.size with z | z
   .let⟨e,k,h2⟩:=g.2 i _ (Array.getElem?_eq_getElem z)
    simp_all
   .rw[Array.getElem?_eq_none z,Array.getElem?_eq_none (by have:=g.1;lia)];rfl
  have hI:IntsAre c.toList ((g9 X.w r.heap.objs.size M B).toList.map fU):=by rw[ea];exact FD (O.perm U)
  have al:⇑c.toList=B.size:=by simp_all
  refine uh (wpAny_newList ?_ (by rw[al,sizeLine_eq];lia));have l:(k.push (seqObj "list" c.toList.toArray 0)).get? k.objs.size=some (seqObj "list" c.toList.toArray 0):=Heap.get?_push_size _ rfl;refine uh (wpAny_holding (wpAny_call_entry slot_list_sort ⟨_,l,rfl⟩ entry_list_sort (list_sort_tree l hI (by rw[al];lia) λout L a1 a2 a3=>⟨_,rfl,?_⟩) (args_list_sort _)));refine ug ⟨_,rfl,?_⟩;have Y:L.Perm ks:=a2.trans ((U.map fU).trans (List.Perm.of_eq C));have kl:⇑ks=B.size:=by rw[<-C,vt,Array.length_toList]
  have ml:⇑L<=4:=by rw[Y.length_eq];lia
  have f:∀b o,r.heap.get? b=some o->k.get? b=some o:=λb o e=>R b o (hk b o e)
  have hn:=n.lZ f;have hb:=n.sV f;have k2:∀b o,r.heap.get? b=some o->(sortedHeap (k.push (seqObj "list" c.toList.toArray 0)) k.objs.size c.toList out).get? b=some o:=λb o e=>by
   have lt:=vI (f b o e);rw[sortedHeap_old (vE lt) (by rw[size_push'];exact Nat.lt_succ_of_lt lt)];exact vJ _ (f b o e)
  let⟨e',N⟩:=sortedHeap_at (out:=out) l;refine⟨.ref k.objs.size,_,(n.kept (t':=a0) k2).pO hn hb (show cD X.prog X.w _ _ _ (.lst (L.map V.int))from⟨by rw[vt];exact vV ml nofun,out.toList,_,GW a1,by rw[Array.toArray_toList];exact N⟩),rfl,q _ L hn ?_ λx=>?_⟩
  .exact(List.Pairwise.and a3 (Y.nodup_iff.mpr nd)).imp λ⟨x,y⟩=>⋯
  .rw[Y.mem_iff,S]
def HH{K:cA}{n i j k:Nat}(hi:i<n)(y:j<n)(z:k<n):gv n (mK K 3 (dO (cv i) (dO (cv j) (dO (cv k) mJ)))):=λx B H Q q=>by
 let⟨a,w,d,f,g,v,r,h,t,s,l,c,b,o,p,q⟩:=q;refine⟨a,w,d,f,g,v,r,h,t,s,l,c,b,o,p,λm u A e=>?_,q⟩;rw[List.getElem?_set_ne ⋯,List.getElem?_set_ne ⋯,List.getElem?_set_ne ⋯];exact e
end
end L2
namespace Rm
open PySem PySem.Spec PyProof.Rows L2
def Hf{ls e:L4}{ps c:N1}{E d:L0}{n:Nat}(W:fY ls ps)(w:bW e=bW ls)(x:c=ps.take n)(o:∀i p,i<n->ps[i]?=some p->cG c p.2=cG ps p.2)(h:cI ls ps E)(h':cI e c d)(l:⇑E=⇑ps)(B:⇑d=⇑c)(A:n<=⇑ps):∀i,i<n->d.getD i []=E.getD i []:=by
 intro i
 induction i using Nat.strongRecOn with
 | ind i ih=>
  intro r;have f:ps[i]?=some (ps[i]'⋯):=vz ⋯;have m:c[i]?=some (ps[i]'⋯):=by rw[x,List.getElem?_take,vd r];exact f
  have u:E[i]?=some (E.getD i []):=by rw[vy,vz ⋯];rfl
  have y:⇑c=n:=by simp_all
  have g:d[i]?=some (d.getD i []):=by rw[vy,vz ⋯];rfl
  let⟨a,b⟩:=h i _ _ f u;let⟨s,t⟩:=h' i _ _ m g;refine Cp s a λk v=>(t k v).trans (Iff.trans ?_ (b k v).symm)
  unfold gY;rw[o i _ r f,w];have ext:∀j∈cG ps (ps[i]'⋯).2,d.getD j []=E.getD j []:=λj q=>by
   have:=W.cK f q;exact ih j this ⋯
  exact⟨λz=>z.imp (Ku ext) id,λz=>z.imp (Ku λj q=>(ext j q).symm) id⟩
noncomputable def dY(es:Nq)(h:L5):L5:=es.foldl (λh q=>h.set q.1.toNat q.2) h
def Zm(q:Int×Int)(r:Nq)(h:L5):dY (q::r) h=dY r (h.set q.1.toNat q.2):=rfl
def Ht:∀(es:Nq) (h:L5),⇑(dY es h)=⇑h:=by
 intro a
 induction a with
 | nil=>
  intro j;exact rfl
 | cons q r ih0=>
  intro h;rw[Zm,ih0,length_set]
def BN:∀{es:Nq} {h:L5} {i:Nat},(∀q∈es,0<=q.1)->(∀v,((i:Int),v)∉es)->(dY es h)[i]?=h[i]?:=by
 intro d
 induction d with
 | nil=>
  intro j j j j;exact rfl
 | cons q r ih0=>
  intro h i p n;rw[Zm,ih0 (λx c=>p x (vp _ c)) (λv b=>n v (vp _ b))];have:q.1.toNat≠i:=λe=>by
   have f:=p q vq;have a:q.1=(i:Int):=⋯
   exact n q.2 (by rw[<-a];exact vq)
  rw[List.getElem?_set_ne this]
def IK:∀{es:Nq} {h:L5} {i:Nat} {v:Int},(es.map (·.1)).Pairwise (· < ·)->(∀q∈es,0<=q.1)->((i:Int),v)∈es->i<⇑h->(dY es h)[i]?=some v:=by
 intro f
 induction f with
 | nil=>
  intro j j j j j m j;exact nomatch m
 | cons q r ih0=>
  intro h i v b p m c;rw[v7,vU]at b;rw[Zm];rcases mem_cons.mp m with e | m
  .subst e;rw[BN (λx a=>p x (vp _ a)) (λw d=>by
    have:=b.1 _ (vK.mpr ⟨_,d,rfl⟩);exact uf this (Int.lt_irrefl _))]
   show(h.set (i:Int).toNat v)[i]?=_;rw[Int.toNat_natCast,List.getElem?_set_self c]
  .exact ih0 b.2 (λx a=>p x (vp _ a)) m (by rw[length_set];exact c)
section
variable{L:L8}{fs:List Fn}{M:L1}{gs:L5}{names:L8}{ls:L4}{n:Nat}{E:L0}
def WG{b c a:Type}{g:b->List c}{f:a->c->a}:∀{l:List b} {h:a},(l.flatMap g).foldl f h=l.foldl (λh x=>(g x).foldl f h) h:=by
 intro d
 induction d with
 | nil=>
  intro q;exact rfl
 | cons x r ih0=>
  intro h;rw[flatMap_cons,foldl_append,v5,ih0]
def xR{b a:Type}{f g:a->b->a}:∀{l:List b} {h:a},(∀x∈l,∀h,f h x=g h x)->l.foldl f h=l.foldl g h:=by
 intro d
 induction d with
 | nil=>
  intro q q;exact rfl
 | cons x r ih0=>
  intro h e;rw[v5,v5,e x vq,ih0 λy c=>e y (vp _ c)]
end
section
variable{α β:Type}
def GB{f:β->α->β}{x:α}:∀{ys:List α} {h:β},(∀y∈ys,∀h,f (f h x) y=f (f h y) x)->f (ys.foldl f h) x=ys.foldl f (f h x):=by
 intro b
 induction b with
 | nil=>
  intro q q;exact rfl
 | cons y r ih0=>
  intro h k;rw[v5,v5,k y vq h];exact ih0 λz a=>k z (vp _ a)
def Fv{f:β->α->β}{p:α->Bool}:∀{R:List α} {h:β},R.Pairwise (λx y=>p x=false->p y=true->∀h,f (f h x) y=f (f h y) x)->
  (R.filter λx=>!p x).foldl f ((R.filter p).foldl f h)=R.foldl f h:=by
 intro g
 induction g with
 | nil=>
  intro q q;exact rfl
 | cons x r ih0=>
  intro h k;rw[vU]at k;cases e:p x with
  | true=>
   have a:(x::r).filter (λx=>!p x)=r.filter λx=>!p x:=by simp_all
   rw[a,filter_cons_of_pos e,v5,v5];exact ih0 k.2
  | false=>
   have a:(x::r).filter (λx=>!p x)=x::r.filter λx=>!p x:=by simp_all
   have b:(x::r).filter p=r.filter p:=by simp_all
   have c:f ((r.filter p).foldl f h) x=(r.filter p).foldl f (f h x):=GB λy d h=>k.1 y (vO.mp d).1 e (vO.mp d).2 h
   rw[a,b,v5,v5,c];exact ih0 k.2
def Fw{f:β->α->β}{p:α->Bool}:∀{R:List α} {h:β},(∀x∈R,p x=false->∀h,f h x=h)->(R.filter p).foldl f h=R.foldl f h:=by
 intro b
 induction b with
 | nil=>
  intro q q;exact rfl
 | cons x r ih0=>
  intro h k;cases e:p x with
  | true=>
   rw[filter_cons_of_pos e,v5,v5];exact ih0 λy a=>k y (vp _ a)
  | false=>
   rw[filter_cons_of_neg (by simp[e]),v5,k x vq e];exact ih0 λy a=>k y (vp _ a)
def xM{f:α->List β}{p:α->Bool}:∀{R:List α},(∀x∈R,p x=false->f x=[])->(R.filter p).flatMap f=R.flatMap f:=by
 intro b
 induction b with
 | nil=>
  intro q;exact rfl
 | cons x r ih0=>
  intro k;cases e:p x with
  | true=>
   rw[filter_cons_of_pos e,flatMap_cons,flatMap_cons,ih0 λy a=>k y (vp _ a)]
  | false=>
   rw[filter_cons_of_neg (by simp[e]),flatMap_cons,k x vq e,ih0 λy a=>k y (vp _ a)];rfl
end
section
variable{ls:L4}{ps:N1}{gs:L5}{hs:L1}{E:L0}{t:Int}
noncomputable def iL(gs:L5)(x:Nat×Int):Bool:=decide (gs∘x.1<=x.2)
noncomputable def dW(ps:N1)(gs:L5)(x:Nat×Int):Bool:=(cy ps gs x.1).isEmpty
def Dj(gs:L5)(hs:L1)(a b:Nat×Int):Prop:=iL gs a=false->∀k∈hs.getD a.1 [],k∉hs.getD b.1 []
def Dj.ov{a b:Nat×Int}(h:gs∘a.1<=a.2):Dj gs hs a b:=λz=>by
 unfold iL at z;rw[vG h]at z;cases z
def IF{l r:L3}(h:∀a∈l,gs∘a.1<=a.2)(k:⇑r<=1):(l++r).Pairwise (Dj gs hs):=by
 induction l with
 | nil=>
  match r,k with
  | [],_=>exact .nil
  | [a],_=>exact pairwise_singleton _ _
 | cons a l ih=>exact vU.mpr ⟨λb q=>.ov (h a vq),ih λb c=>h b (vp _ c)⟩
def LN:∀{is:L6} {b:Int},(∀k∈is,1<=gs∘k/\gs∘k<=10^60)->(eV gs t (cT gs is b)).Pairwise (Dj gs hs):=by
 intro d
 induction d with
 | nil=>
  intro b q;exact .nil
 | cons j r ih0=>
  intro b a;by_cases h:b<=t
  .rw[Yu a h];split
   .exact vU.mpr ⟨λb q=>.ov (vA _),ih0 λk c=>a k (vp _ c)⟩
   .exact pairwise_singleton _ _
  .rw[WU (λk c=>by have:=a k c;lia) ⋯];exact .nil
def Gr:∀{is:L6},(∀k:Int,⇑((is.map λj=>hs.getD j []).filter λks=>decide (k∈ks))<=1)->is.Pairwise λj d=>∀k∈hs.getD j [],k∉hs.getD d []:=by
 intro g
 induction g with
 | nil=>
  intro q;exact .nil
 | cons j r ih0=>
  intro h;refine vU.mpr ⟨λd b a e c=>?_,ih0 λk=>?_⟩
  .have:=h a;rw[v7,v6,vd (vG e),vP]at this;have f:0<⇑((r.map λj=>hs.getD j []).filter λks=>decide (a∈ks)):=length_pos_of_mem (vO.mpr ⟨vK.mpr ⟨d,b,rfl⟩,vG c⟩);lia
  .have:=h k;rw[v7,v6]at this;split at this
   .rw[vP]at this;lia
   .exact this
def Jp(N:Sn ls ps gs hs){i:Nat}(hi:i<⇑ps)(s:0<=t):(eV gs t (cy ps gs i)).Pairwise (Dj gs hs):=by
 obtain⟨p,o⟩:∃p,ps[i]?=some p:=⟨_,vz hi⟩
 have l:cy ps gs i=de gs p.2 (cG ps p.2):=by unfold cy;rw[o]
 have d:∀k∈cG ps p.2,1<=gs∘k/\gs∘k<=10^60:=λk m=>by
  have:=N.s.w.cK o m;exact N.g ⋯
 rw[l];cases e:p.2 with
 | again k x=>
  rw[e]at d;rw[show cG ps (.again k x)=[cP (bW ps) x]from rfl]at d|-;have g:=(d _ vq).1;generalize cP (bW ps) x=j at g|-;show(eV gs t ((j,1,0)::(if 1<k then[(j,k-1,gs∘j)]else[]))).Pairwise _;rw[Qz,W3 g s,Int.sub_zero];by_cases c:gs∘j<=t
  .rw[vd c];split
   .rw[Qz,Y2,append_nil,Ah (show gs∘j<=t from c),<-List.append_assoc];refine IF (λa u=>?_) (by split<;>simp);have:a=(j,gs∘j):=by
     rcases vh.mp u with z | z
     .exact vo.mp z
     .split at z
      .exact vo.mp z
      .exact nomatch z
    rw[this];exact vA _
   .exact pairwise_singleton _ _
  .rw[vc c];have z:eV gs t (if 1<k then[(j,k-1,gs∘j)]else[])=[]:=by
    split
    .exact W4 λq w=>by rw[vo.mp w];show t<gs∘j;lia
    .rfl
   rw[z];exact pairwise_singleton _ _
 | row xs=>rw[e]at d;exact LN d
 | side xs=>
  let⟨q,f⟩:=N.s.sd i p xs o e;rw[e]at d f;show(eV gs t ((cG ps (.side xs)).map λj=>(j,1,0))).Pairwise _;rw[WZ (λk m=>(d k m).1) s];refine pairwise_map.mpr ((Gr f).imp λ{a b} h=>?_);have r:∀j:Nat,(if gs∘j<=t then(j,gs∘j)else(j,t)).1=j:=λj=>by split<;>rfl
  intro q;rw[r,r];exact h
 | hold n=>exact .nil
 | ring x n=>exact .nil
 | rise x v n=>exact .nil
def I9{i:Nat}{p:Str×Fm}(b:ps[i]?=some p){x:Nat×Int}(h:x∈eV gs t (cy ps gs i)):x.1∈cG ps p.2:=by
 let⟨q,a,e⟩:=XX h;unfold cy at a;rw[b]at a;rw[e];exact Yn a
def BL(N:Sn ls ps gs hs):∀{i:Nat} {t:Int} {x:Nat×Int},i<⇑ps->x∈reach ps gs i t->∀k∈hs.getD x.1 [],k∈hs.getD i []:=by
 intro i
 induction i using Nat.strongRecOn with
 | ind i ih=>
  intro t x c a k b;by_cases h:gs∘i<=t\/cy ps gs i=[]
  .rw[JE h]at a;rw[vo.mp a]at b;exact b
  .rw[Qi N.s.w h]at a;let⟨y,e,a⟩:=mem_flatMap.mp a;have f:=ZB N.s.w e;have d:=vz c;exact((N.m i _ _ d (wQ N.s N.hl c)).2 k).mpr (.inl ⟨y.1,I9 d e,ih y.1 f ⋯ a k b⟩)
def Hj(N:Sn ls ps gs hs):∀{i:Nat} {t:Int},i<⇑ps->0<=t->(reach ps gs i t).Pairwise (Dj gs hs):=by
 intro i
 induction i using Nat.strongRecOn with
 | ind i ih=>
  intro t l r;by_cases h:gs∘i<=t\/cy ps gs i=[]
  .rw[JE h];exact pairwise_singleton _ _
  .rw[Qi N.s.w h];refine List.pairwise_flatMap.mpr ⟨λa c=>?_,(Jp N l r).imp_of_mem λ{a b} c j d x g y o z k m f=>?_⟩
   .have:=ZB N.s.w c;exact ih a.1 this ⋯ (kQ (λq n=>N.fk n) c)
   .have s:=ZB N.s.w c;have u:=ZB N.s.w j;have p:iL gs a=false:=by
     cases e:iL gs a with
     | false=>rfl
     | true=>
      rw[JE (.inl (of_decide_eq_true e))]at g;rw[vo.mp g]at z;exact(e.symm.trans z:true=false)
    exact d p k (BL N ⋯ g k m) (BL N ⋯ o k f)
noncomputable def lG(ls:L4)(ps:N1)(h:L5)(x:Nat×Int):L5:=match ps[x.1]? with
 | some (_,.rise y v n)=>h.set (cP (bW ls) y) (Rp.ramp (h∘(cP (bW ls) y)) v n x.2)
 | _=>h
def As{h:L5}{x:Nat×Int}(c:iL gs x=true):fL ls ps gs E h x=dY (E.getD x.1 []) h:=by
 unfold fL;rw[vd (of_decide_eq_true c)];rfl
def Au{h:L5}{x:Nat×Int}(c:iL gs x=false):fL ls ps gs E h x=lG ls ps h x:=by
 unfold fL;rw[vc (of_decide_eq_false c)];rfl
def Hs{k:Nat}{v:Int}:∀{es:Nq} {h:L5},(∀q∈es,q.1.toNat≠k)->dY es (h.set k v)=(dY es h).set k v:=by
 intro b
 induction b with
 | nil=>
  intro j j;exact rfl
 | cons q r ih0=>
  intro h n;rw[Zm,Zm,List.set_comm _ _ (n q vq).symm];exact ih0 λy a=>n y (vp _ a)
def Fe{k:Nat}:∀{es:Nq} {h:L5},(∀q∈es,q.1.toNat≠k)->(dY es h).getD k 0=h∘k:=by
 intro b
 induction b with
 | nil=>
  intro j j;exact rfl
 | cons q r ih0=>
  intro h n;rw[Zm,ih0 λy a=>n y (vp _ a),vy,vy,List.getElem?_set_ne (n q vq)]
def CG(N:Sn ls ps gs hs)(b:⇑E=⇑ps)(c:cI ls ps E)(hi:i<⇑ps)(a:q∈E.getD i []):q.1∈hs.getD i []:=by
 have:=N.s.mv _ (by rw[vt];exact b) (CZ b c) i hi;rw[<-this,vy,vv,vz ⋯];rw[vy,vz ⋯]at a;exact vK.mpr ⟨q,a,rfl⟩
def G4(N:Sn ls ps gs hs)(o:⇑E=⇑ps)(i:cI ls ps E){x y:Nat×Int}(k:x.1<⇑ps)(l:y.1<⇑ps)(a:iL gs x=false)(c:iL gs y=true)(d:Dj gs hs x y)(h:L5) :
  fL ls ps gs E (fL ls ps gs E h x) y=fL ls ps gs E (fL ls ps gs E h y) x:=by
 rw[As c,As c,Au a,Au a];unfold lG;split
 .rename_i nm z v n hp;have j:((cP (bW ls) z:Nat):Int)∈hs.getD x.1 []:=((N.m x.1 _ _ hp (wQ N.s N.hl k)).2 _).mpr (.inr ⟨z,v,n,rfl,rfl⟩);have g:∀q∈E.getD y.1 [],q.1.toNat≠cP (bW ls) z:=λq f e=>by
   have b:=(Yi N.s.w ⋯ i y.1 q f).1;have m:=CG N o i l f;rw[show q.1=((cP (bW ls) z:Nat):Int) by lia]at m;exact d a _ j m
  rw[Hs g,Fe g]
 .rfl
noncomputable def iD(ls:L4)(ps:N1)(gs:L5)(E:L0)(t:Int):L5:=((reach ps gs (⇑ps-1) t).filter (iL gs)).foldl (λh x=>dY (E.getD x.1 []) h) (ls.map (·.2))
def FK{x:Nat×Int}{y:Str}{v n:Int}{b:Str}(a:ps[x.1]?=some (b,.rise y v n)):dW ps gs x=true:=by
 unfold dW cy;rw[a];rfl
def FJ{x:Nat×Int}{y:Str}{n:Int}{b:Str}(a:ps[x.1]?=some (b,.ring y n)):dW ps gs x=true:=by
 unfold dW cy;rw[a];rfl
def Ep(N:Sn ls ps gs hs)(o:⇑E=⇑ps)(q:cI ls ps E)(r:0<=t){P:L3}(l:P.filter (dW ps gs)=(reach ps gs (⇑ps-1) t).filter λx=>!iL gs x) :
  P.foldl (lG ls ps) (iD ls ps gs E t)=cL ls ps gs E t:=by
 have s:=N.ne;have i:∀x∈reach ps gs (⇑ps-1) t,x.1<⇑ps:=λx e=>Yt N.s.w ⋯ e
 rw[<-Fw (p:=dW ps gs) (λx Z c h=>?_),l]
 .unfold cL iD;rw[<-Fv (p:=iL gs) (f:=fL ls ps gs E) ((Hj N (show ⇑ps-1<⇑ps by lia) r).imp_of_mem λ{a b} m n d j k h=>G4 N o q (i a m) (i b n) j k d h)];rw[xR (f:=fL ls ps gs E) (g:=lG ls ps) λx e h=>Au (by simpa using(vO.mp e).2)];rw[xR (f:=fL ls ps gs E) (g:=λh x=>dY (E.getD x.1 []) h) λx e h=>As (vO.mp e).2]
 .unfold lG;split
  .rename_i hp;rw[FK hp]at c;cases c
  .rfl
def Eo(N:Sn ls ps gs hs){P:L3}(a:P.filter (dW ps gs)=(reach ps gs (⇑ps-1) t).filter λx=>!iL gs x):P.flatMap (cV ps)=dE ps gs t:=by
 have d:=N.ne;unfold dE;rw[<-xM (p:=dW ps gs) (λx q c=>?_),a,xM λx b c=>?_]
 .have c:iL gs x=true:=by simpa using c
  have c:=of_decide_eq_true c;have:=(N.g (Yt N.s.w (show ⇑ps-1<⇑ps by lia) b)).1;unfold cV;split
  .rw[vc ⋯]
  .rfl
 .unfold cV;split
  .rename_i hp;rw[FJ hp]at c;cases c
  .rfl
end
structure eE(C:Addr)(H:Hp)(a:Addr)(z:Sa)(ls:L4)(ps:N1)(gs:L5)(E:L0):Prop where
 ob:∃dx,H a=some (.ins C dx (iG z))
 hd:H z.d=some (.dK (gf (bW ls)))
 hf:H z.f=some (.lst ((ls.map (·.2)).map V.int))
 ho:H z.o=some (.lst (z.fb.map V.ref))
 fo:cg (λa p=>ck H a p.2) z.fb ps
 hs:H z.s=some (.lst (gs.map V.int))
 hl:H z.l=some (.lst (z.la.map V.ref))
 el:⇑E=⇑ps
 ea:lJ H z.la E
 eo:cI ls ps E
 hp:H z.p=some (.lst (z.pa.map V.ref))
 pa:hY H z.pa (ps.map λp=>de gs p.2 (cG ps p.2))
def eE.same{C:Addr}{H H':Hp}{a:Addr}{z:Sa}{ls:L4}{ps:N1}{gs:L5}{E:L0}(A:eE C H a z ls ps gs E)(s:bX H H'):eE C H' a z ls ps gs E:=
 ⟨A.ob.imp λg h=>s _ _ h,s _ _ A.hd,s _ _ A.hf,s _ _ A.ho,cg.mono A.fo λa p h=>ck.same s h,s _ _ A.hs,s _ _ A.hl,A.el,cg.mono A.ea λa e ⟨c,d,f⟩=>⟨c,s _ _ d,cg.mono f λb q h=>s _ _ h⟩,A.eo,
  s _ _ A.hp,cg.mono A.pa λa e ⟨c,d,f⟩=>⟨c,s _ _ d,cg.mono f λb q h=>s _ _ h⟩⟩
inductive gm(C:Addr)(vs:N2)(H:Hp)(Q:VK)(xk:XK):Prop
 | mk (a dx b pl pp:Addr) (las pas:L7) (ls:L4) (ps:N1) (gs:L5) (hs:L1) (_:vs=[.ref a,.ref b]) (_:H a=some (.ins C dx [])) (_:cH H b pl pp las pas ls ps) (_:Sn ls ps gs hs) (_:∀(z:Sa) (E:L0) (H':Hp),(∀c u,c≠a->H c=some u->H' c=some u)->eE C H' a z ls ps gs E->Q .cW H'):gm C vs H Q xk
inductive fG(C:Addr)(vs:N2)(H:Hp)(Q:VK)(xk:XK):Prop
 | mk (a:Addr) (z:Sa) (ls:L4) (ps:N1) (gs:L5) (hs:L1) (E:L0) (t:Int) (_:vs=[.ref a,.int t]) (_:eE C H a z ls ps gs E) (_:Sn ls ps gs hs) (_:0<=t) (_:t<=gs∘(⇑ps-1)) (_:∀(r l1 l2:Addr) (as:L7) (P:L3) (H':Hp),bX H H'->H l1=none->H l2=none->H' r=some (.tup [.ref l1,.ref l2])->H' l1=some (.lst ((iD ls ps gs E t).map V.int))->⇑(iD ls ps gs E t)=⇑ls->(∀h∈iD ls ps gs E t,0<=h/\h<=10^18)->H' l2=some (.lst (as.map V.ref))->l1≠l2->dM H' as P->⇑P<=5000->(∀x∈P,x.1<⇑ps/\0<=x.2/\x.2<gs∘x.1)->P.filter (dW ps gs)=((reach ps gs (⇑ps-1) t).filter λx=>!iL gs x)->Q (.ref r) H'):fG C vs H Q xk
inductive fq(C:Addr)(vs:N2)(H:Hp)(Q:VK)(xk:XK):Prop
 | mk (a:Addr) (z:Sa) (ls:L4) (ps:N1) (gs:L5) (hs:L1) (E:L0) (t:Int) (_:vs=[.ref a,.int t]) (_:eE C H a z ls ps gs E) (_:Sn ls ps gs hs) (_:0<=t) (_:t<=gs∘(⇑ps-1)) (_:∀(l:Addr) (H':Hp),bX H H'->H l=none->H' l=some (.lst ((cL ls ps gs E t).map V.int))->⇑(cL ls ps gs E t)=⇑ls->Q (.ref l) H'):fq C vs H Q xk
inductive gX(C:Addr)(vs:N2)(H:Hp)(Q:VK)(xk:XK):Prop
 | mk (a:Addr) (z:Sa) (ls:L4) (ps:N1) (gs:L5) (hs:L1) (E:L0) (t:Int) (_:vs=[.ref a,.int t]) (_:eE C H a z ls ps gs E) (_:Sn ls ps gs hs) (_:0<=t) (_:t<=gs∘(⇑ps-1)) (_:∀(l:Addr) (H':Hp),bX H H'->H l=none->H' l=some (.lst ((dE ps gs t).map V.str))->⇑(dE ps gs t)<=5000->Q (.ref l) H'):gX C vs H Q xk
def ck.put{H H':Hp}{a:Addr}{f:Fm}(k:∀b xs,H b=some (.tup xs)->H' b=some (.tup xs))(h:ck H a f):ck H' a f:=by
 cases f with
 | row ps=>let⟨c,d,e⟩:=h;exact⟨c,k _ _ d,k _ _ e⟩
 | side ps=>let⟨c,d,e⟩:=h;exact⟨c,k _ _ d,k _ _ e⟩
 | hold n=>exact k _ _ h
 | ring x n=>exact k _ _ h
 | rise x v n=>exact k _ _ h
 | again k' x=>exact k _ _ h
theorem AF{a:Type}{f:a->Nat}:∀{l:List a},(∀x∈l,1<=f x)->⇑l<=(l.map f).sum
 | [],_=>vb _
 | x::r,h=>by
  have c:=h x vq;have d:=AF (l:=r) λy b=>h y (vp _ b)
  rw[v7,v8,vP];lia
section
variable{ls:L4}{ps:N1}{gs:L5}{E:L0}{D:L3}{x:Nat×Int}
noncomputable def lY(ls:L4)(gs:L5)(E:L0)(D:L3):L5:=(D.filter (iL gs)).foldl (λh x=>dY (E.getD x.1 []) h) (ls.map (·.2))
def WI(h:iL gs x=false):lY ls gs E (if dW ps gs x=true then D++[x]else D)=lY ls gs E D:=by
 split
 .unfold lY;rw[filter_append,filter_cons_of_neg (by rw[h];decide)];show(D.filter (iL gs)++[]).foldl _ _=_;rw[append_nil]
 .rfl
def WJ(h:iL gs x=true):lY ls gs E (D++[x])=dY (E.getD x.1 []) (lY ls gs E D):=by
 unfold lY;rw[filter_append,filter_cons_of_pos h,foldl_append];rfl
def wy(W:fY ls ps){i:Nat}{t:Int}(c:t<gs∘i):1+((eV gs t (cy ps gs i)).map λx=>nodes ps gs x.1 x.2).sum<=nodes ps gs i t:=by
 by_cases e:cy ps gs i=[]
 .rw[e,kD (.inr e)];exact vb _
 .rw[WN W (λh=>h.elim (λz=>⋯) e)];exact vb _
end
structure sg(ls:L4)(ps:N1)(gs:L5)(E:L0)(t0:Int)(H H':Hp)(p1 p2 p4:Addr)(pas tas:L7)(D P S:L3):Prop where
 sm:bX H H'
 e1:H' p1=some (.lst ((lY ls gs E D).map V.int))
 e2:H' p2=some (.lst (pas.map V.ref))
 eT:H' p4=some (.lst (tas.map V.ref))
 gP:dM H' pas P
 gT:dM H' tas S
 inv:D++S.reverse.flatMap (λx=>reach ps gs x.1 x.2)=reach ps gs (⇑ps-1) t0
 hS:∀x∈S,x.1<⇑ps/\0<=x.2
 hP:P.filter (dW ps gs)=D.filter λx=>!iL gs x
 bP:∀x∈P,x.1<⇑ps/\0<=x.2/\x.2<gs∘x.1
 uV:⇑P+(S.map λx=>nodes ps gs x.1 x.2).sum<=5000
 ll:⇑(lY ls gs E D)=⇑ls
 hb:∀h∈lY ls gs E D,0<=h/\h<=10^18
end Rm
namespace L2
open PySem PySem.Spec PySem.W PyProof.Rows HT
section
variable{prog:Program}{w:World}{A:Around}{E:Nz}{s:Shared}
def Kr{t e:Addr}{items:Array Value}{g i:Value}{lo hi:Nu}{Q:Nz}(a:IsTup s.heap t items)(f:s.heap.IsSliceOf e g i .none)(pl:IsPart g lo)(n:IsPart i hi)
  (j:c9 items.size 0 lo=0) (k:c9 items.size items.size hi=items.size) (h:Q (.ref t) s):wpAny (model prog w) A (getItem (.ref t) (.ref e)) Q E s:=by
 let⟨m,d,c,l⟩:=id f;have b:s.TypeIs (.ref e) "slice":=⟨m,d,c⟩
 unfold getItem
 try with_reducible refine wpAny_holding ?_
 first | refine uh (ug ?_) | skip
 refine uh (wpAny_sequenceKey a.typeIs nofun ?_);refine uh (wpAny_callSpecial?_slot (name:=Str.ofString "__getitem__") a.typeIs PyProof.Rows.slot_tuple_getitem (wpAny_call_entry PyProof.Rows.slot_tuple_getitem a.typeIs entry_tuple_getitem ?_ (args_tuple_getitem _ _)));show wpAny _ _ (Builtin.Tuple.tupleItemsOf (.ref t) >>= _) _ _ s;refine uh (tupleItemsOf_ a ?_);refine uh (wpAny_typeOf b ?_);rw[vd nofun];refine uh (Z8 f pl n ?_);show wpAny _ _ (if(((c9 items.size 0 lo:Nat):Int)==0&&(1:Int)==1&&(c9 items.size items.size hi-c9 items.size 0 lo)==items.size)=true then _ else _) _ _ s;rw[vd (by rw[j,k];simp)];unfold Builtin.Tuple.tupleIsExact;refine uh (uh (wpAny_typeOf a.typeIs (ug ?_)));rw[vd nofun]
 first
  | exact uh (wpAny_rule (ug ⟨_,rfl,ug h⟩))
  | exact uh (wpAny_rule (uh (ug (ug ⟨_,rfl,ug h⟩))))
end
section
variable{X:Cx}
noncomputable def rp(K:cA):V->Option Int->Option Int->Hp->VK->Prop:=λx lo hi H Q=>∃a xs,x = .ref a/\cU K H a xs/\HT.c9 ⇑xs 0 lo=0/\HT.c9 ⇑xs ⇑xs hi=⇑xs/\Q (.ref a) H
def LP:nC X (rp X.K):=by
 intro e s z H x v w y t o u Q I m i k l h;let⟨a,n,rfl,j,f,g,q⟩:=h;cases m;let⟨c,r,d,p⟩:=I.tuple j;have b:c.toArray.size=⇑n:=by rw[size_toArray];exact r.length.symm
 refine⟨"tuple",_,PyProof.Rows.slot_tuple_getitem.lookup,d.typeIs,?_⟩;exact Kr d i k l (by rw[b];exact f) (by rw[b];exact g) ⟨.ref a,H,I,rfl,q⟩
def LQ:nC X (λx lo hi H Q=>rm X.K x lo hi H Q\/rp X.K x lo hi H Q):=nC.or AE LP
def IA{K:cA}{e:Expr}{f:Str}{a:Pos}{b:TE}(g:X.K=K)(d:PE X e b)(c:attributeBase e f X.env (eval e X.env)=eval e X.env):PE X (.Attribute e f a) (rz K b f):=g▸jM d c
end
end L2
namespace Rm
open PySem PySem.Spec PyProof.Rows L2
structure Tq where
 s:Addr
 p:Addr
 w:Addr
 pa:L7
noncomputable def lQ(z:Tq)(g:Int):List (Str×V):=cx "wholes" (.ref z.w) (cx "pieces" (.ref z.p) (cx "last" (.int g) (cx "sizes" (.ref z.s) [])))
section
variable{z:Tq}{g:Int}
def YT:(lQ z g).lookup ("wholes" : Str)=↥z.w:=JB
def wj:(lQ z g).lookup ("pieces" : Str)=↥z.p:=(jE ∅).trans JB
def HE:(lQ z g).lookup ("last" : Str)= ~~~g:=(jE ∅).trans ((jE ∅).trans JB)
def Bl:(lQ z g).lookup ("sizes" : Str)=↥z.s:=(jE ∅).trans ((jE ∅).trans ((jE ∅).trans JB))
end
noncomputable def fj(x:Str):Fm->Int
 | .ring y _=>if y=x then 1 else 0
 | _=>0
noncomputable def iM(W:L5)(qs:List Pc):Int:=(qs.map λq=>q.2.1*W∘q.1).sum
def fT(ps:N1)(gs:L5)(x:Str)(W:L5)(n:Nat):Prop:=⇑W=n/\∀(j:Nat) (p:Str×Fm),j<n->ps[j]?=some p->W∘j=fj x p.2+iM W (cy ps gs j)
structure oU(C:Addr)(H:Hp)(a:Addr)(z:Tq)(ps:N1)(gs W:L5):Prop where
 o:∃dx,H a=some (.ins C dx (lQ z (gs∘(⇑ps-1))))
 s:H z.s=some (.lst (gs.map V.int))
 p:H z.p=some (.lst (z.pa.map V.ref))
 pa:hY H z.pa (ps.map λp=>de gs p.2 (cG ps p.2))
 w:H z.w=some (.lst (W.map V.int))
inductive iz(C:Addr)(vs:N2)(H:Hp)(Q:VK)(xk:XK):Prop
 | mk (a dx b pl pp:Addr) (las pas:L7) (ls:L4) (ps:N1) (gs:L5) (hs:L1) (x:Str) (_:vs=[.ref a,.ref b,.str x]) (_:H a=some (.ins C dx [])) (_:cH H b pl pp las pas ls ps) (_:Sn ls ps gs hs) (_:Ws.ff x=true) (_:(∀p∈ps,m5 p.2)) (_:∀(z:Tq) (W:L5) (H':Hp),(∀c u,c≠a->H c=some u->H' c=some u)->fT ps gs x W ⇑ps->oU C H' a z ps gs W->Q .cW H'):iz C vs H Q xk
section
variable{ls:L4}{ps:N1}{gs:L5}{hs:L1}{x:Str}{W:L5}
def CU{l:L5}(h:∀y∈l,0<=y){y:Int}(c:y∈l):y<=l.sum/\0<=l.sum:=by
 induction l generalizing y with
 | nil=>exact nomatch c
 | cons a r ih=>
  have d:=h a vq;have e:0<=r.sum:=by
   cases r with
   | nil=>exact vA _
   | cons b r'=>exact(ih (λy c=>h y (vp _ c)) vq |>.2)
  rw[v8];rcases mem_cons.mp c with rfl | c
  .lia
  .have:=(ih (λy c=>h y (vp _ c)) c).1;lia
theorem CY:∀{l:L5},l≠[]->∃g,g∈l/\∀y∈l,y<=g
 | [],h=>uf rfl h
 | [a],_=>⟨a,vq,λy d=>by rw[vo.mp d];exact vA _⟩
 | a::b::r,_=>by
  let⟨g,i,f⟩:=CY (l:=b::r) (cons_ne_nil _ _);by_cases c:a<=g
  .exact⟨g,vp _ i,λy d=>(mem_cons.mp d).elim (λe=>e▸c) (f y)⟩
  .exact⟨a,vq,λy d=>(mem_cons.mp d).elim (λe=>e▸vA _) λz=>by have:=f y z;lia⟩
def Sn.fit(N:Sn ls ps gs hs){i:Nat}{q:Pc}(h:q∈cy ps gs i):q.2.1*gs∘q.1<=gs∘i:=by
 unfold cy at h;split at h
 case h_2=>exact nomatch h
 rename_i p hp;have B:=(vx.mp hp).1;have o:=(N.s.ln i p hp).2;have C:=(N.s.ln i p hp).1;have t:∀k∈cG ps p.2,1<=gs∘k:=λk u=>by
  have:=N.s.w.cK hp u;exact(N.g (show k<⇑ps by lia)).1
 have f:∀y∈(cG ps p.2).map λj=>gs∘j,0<=y:=λy w=>by
  let⟨j,a,rfl⟩:=vK.mp w;have:=t j a;lia
 have x:=Yn h;have c:gs∘q.1∈(cG ps p.2).map λj=>gs∘j:=vK.mpr ⟨q.1,x,rfl⟩
 unfold de at h;split at h
 .rename_i k y e;have m:=N.uR i p.1 y k (by rw[hp,<-e]);split at h
  .exact nomatch h
  .rename_i j r ein;have A:=t j (by rw[ein];exact vq);have b:k*gs∘j=gs∘i:=o _ (by rw[e]at ein|-;rw[ein];exact⟨_,rfl,rfl⟩);rw[<-b];rcases mem_cons.mp h with rfl | h
   .exact vT m.1 (by show 0<=gs∘j;lia)
   .split at h
    .rw[vo.mp h];exact vT (show k-1<=k by lia) (by show 0<=gs∘j;lia)
    .exact nomatch h
 .rename_i ns e;have b:=o ((cG ps p.2).map λj=>gs∘j).sum (by rw[e];rfl);rw[(YV h).2,uw,<-b];exact(CU f c).1
 .rename_i n1 n2;let⟨j,a,rfl⟩:=vK.mp h;rw[uw];cases e:p.2 with
  | side ns=>
   let⟨g,s,d⟩:=CY (l:=(cG ps p.2).map λj=>gs∘j) (λz=>by rw[z]at c;exact nomatch c);have b:=o g (by rw[e]at s d|-;exact⟨s,d⟩);rw[<-b];exact d _ c
  | row ns=>exact uf e (n2 ns)
  | again k y=>exact uf e (n1 k y)
  | hold n=>rw[e]at a;exact nomatch a
  | ring y n=>rw[e]at a;exact nomatch a
  | rise y v n=>rw[e]at a;exact nomatch a
def HM{b:Type}{f:b->Int}{B:Int}(e:0<=B):∀{l:List b},(∀y∈l,0<=f y/\f y<=B)->0<=(l.map f).sum/\(l.map f).sum<=⇑l*B:=by
 intro d
 induction d with
 | nil=>
  intro q
  simp_all
 | cons a r ih0=>
  intro h;have g:=h a vq;have i:=ih0 λy c=>h y (vp _ c)
  rw[v7,v8,vP];have:((⇑r+1:Nat):Int)*B=⇑r*B+B:=by rw[show((⇑r+1:Nat):Int)=(⇑r:Int)+1 by lia,uv,uw]
  lia
def v9(N:Sn ls ps gs hs)(i:Nat):⇑(cy ps gs i)<=8:=by
 unfold cy;split
 .rename_i p hp;exact Kw (N.i8 hp)
 .exact va _
def fT.uV(N:Sn ls ps gs hs){n:Nat}(v:n<=⇑ps)(O:fT ps gs x W n):∀i,i<n->0<=W∘i/\W∘i<=gs∘i*8^(i+1):=by
 intro i
 induction i using Nat.strongRecOn with
 | ind i ih=>
  intro k;obtain⟨p,d⟩:∃p,ps[i]?=some p:=⟨_,vz ⋯⟩
  have e:=O.2 i p k d;have j:=N.g (show i<⇑ps by lia);have C:(0:Int)<8^i:=Int.pow_pos nofun;have u:1*1<=gs∘i*8^i:=Int.mul_le_mul j.1 ⋯ nofun ⋯;have b:=HM (f:=λq:Pc=>q.2.1*W∘q.1) (B:=gs∘i*8^i) ⋯ (l:=cy ps gs i) λq a=>by
   have r:=zK N.s.w a;have g:=N.fk a;have w:=ih q.1 r ⋯;refine⟨vM (by have:=g.2.2.2.1;lia) w.1,?_⟩;have f:=N.fit a;have s:(8:Int)^(q.1+1)<=8^i:=by
    have:=Nat.pow_le_pow_right (show 0<8 by decide) (show q.1+1<=i by lia)
    exact_mod_cast this
   have t:0<=q.2.1:=by have:=g.2.2.2.1;lia
   calc q.2.1*W∘q.1<=q.2.1*(gs∘q.1*8^(q.1+1)):=Int.mul_le_mul_of_nonneg_left w.2 t
    _=q.2.1*gs∘q.1*8^(q.1+1):=(Int.mul_assoc ..).symm
    _<=gs∘i*8^(q.1+1):=vT f (Int.le_of_lt (Int.pow_pos nofun))
    _<=gs∘i*8^i:=Int.mul_le_mul_of_nonneg_left s ⋯
  have A:=v9 N i;have o:0<=fj x p.2/\fj x p.2<=1/\(fj x p.2=1->cy ps gs i=[]):=by
   unfold fj;split
   .rename_i y m e';split
    .refine⟨by decide,by decide,λZ=>?_⟩;unfold cy;rw[d];show de gs p.2 (cG ps p.2)=[]
     rw[e'];rfl
    .exact⟨by decide,by decide,λz=>by cases z⟩
   .exact⟨by decide,by decide,λz=>by cases z⟩
  rw[e,Int.pow_succ,<-Int.mul_assoc];have h:0<=iM W (cy ps gs i)/\iM W (cy ps gs i)<=⇑(cy ps gs i)*(gs∘i*8^i):=b;by_cases c:fj x p.2=1
  .rw[o.2.2 c]at h|-;have:iM W []=0:=rfl;rw[this];lia
  .have:(⇑(cy ps gs i):Int)*(gs∘i*8^i)<=8*(gs∘i*8^i):=vT ⋯ ⋯;lia
def fT.uU(N:Sn ls ps gs hs){n:Nat}(a:n<=⇑ps)(O:fT ps gs x W n){i:Nat}(hi:i<n):0<=W∘i/\W∘i<=10^200:=by
 have b:=O.uV N a i hi;have g:=N.g (show i<⇑ps by lia);have c:=N.s.w.l0;refine⟨b.1,Int.le_trans b.2 ?_⟩;have d:(8:Int)^(i+1)<=8^61:=by
  have:=Nat.pow_le_pow_right (show 0<8 by decide) (show i+1<=61 by lia)
  exact_mod_cast this
 have:=Int.mul_le_mul g.2 d (Int.le_of_lt (Int.pow_pos nofun)) nofun;exact Int.le_trans this nofun
def FV{v:Int}{a:List Pc}(h:∀q∈a,q.1<⇑W):iM (W++[v]) a=iM W a:=by
 unfold iM;congr 1;refine map_congr_left λq b=>?_
 rw[vy,vy,vB (h q b)]
def fT.snoc(c:fY ls ps){n:Nat}(O:fT ps gs x W n){p:Str×Fm}(d:ps[n]?=some p):fT ps gs x (W++[fj x p.2+iM W (cy ps gs n)]) (n+1):=by
 have b:=O.1;refine⟨by rw[vn,b];rfl,λj f g a=>?_⟩;rw[FV λq e=>by have:=zK c e;lia];rcases Nat.lt_or_ge j n with z | z
 .rw[<-O.2 j f z a,vy,vy,vB ⋯]
 .have:j=n:=⋯
  subst this;rw[d]at a;cases a;rw[vy,vC ⋯,b,Nat.sub_self];rfl
end
def GU{H:Hp}{q:Addr}{f:Fm}{x:Str}(h:ck H q f)(j:m5 f):∃xs:N2,H q=some (.tup xs)/\(⇑xs=2\/⇑xs=3\/⇑xs=4)/\
  ∀(H':Hp) (p:Addr),bX H H'->H' p=some (.tup (xs.take 2))->∃d,DV H' (.ref p) d/\SeqAt.shaped d=true/\PyData.eqv d (.tuple [.str "ring",.str x])=decide (fj x f=1):=by
 have c:∀y:Str,Ws.ff y=true->gc 0 (.str y):=λy w=>gc.str (Ck w)
 have g:∀{a b:PyData},gc 1 a->gc 1 b->SeqAt.shaped (.tuple [a,b])=true:=λt u=>(gc.tup (n:=1) λd r=>by
  simp only[mem_cons,List.not_mem_nil,or_false]at r;rcases r with rfl | rfl
  .exact t
  .exact u).ok nofun
 have m:∀{d:PyData},gc 0 d->gc 1 d:=λh=>h.mono nofun
 have i:∀{y:Str} {a:PyData},(y==("ring" : Str))=false->PyData.eqv (.tuple [.str y,a]) (.tuple [.str "ring",.str x])=false:=λ{y a} e=>by
  show((y==("ring" : Str))&&_)=false;rw[e];rfl
 cases f with
 | hold n=>exact⟨_,h,.inl rfl,λH' p s e=>⟨_,.tup e (.cons (.str _) (.cons (.int _) .nil)),g (m (c _ ∅)) (m .int),by rw[i ∅];rfl⟩⟩
 | ring y n=>
  refine⟨_,h,.inr (.inl rfl),λH' p s e=>⟨_,.tup e (.cons (.str _) (.cons (.str _) .nil)),g (m (c _ ∅)) (m (c _ j.1)),?_⟩⟩;show((("ring" : Str) == "ring")&&((y==x)&&true))=_;rw[beq_self_eq_true,Bool.true_and,Bool.and_true];show(y==x)=decide ((if y=x then(1:Int)else 0)=1);by_cases e:y=x
  .rw[e,vd rfl];simp
  .rw[vc e,beq_false_of_ne e];rfl
 | rise y v n=>exact⟨_,h,.inr (.inr rfl),λH' p s e=>⟨_,.tup e (.cons (.str _) (.cons (.str _) .nil)),g (m (c _ ∅)) (m (c _ j.1)),by rw[i ∅];rfl⟩⟩
 | row ns=>
  let⟨b,l,o⟩:=h;exact⟨_,l,.inl rfl,λH' p s e=>⟨_,.tup e (.cons (.str _) (.cons (.tup (s _ _ o) (ZM ns)) .nil)),g (m (c _ ∅)) (gc.tup (KM j.2)),by rw[i ∅];rfl⟩⟩
 | side ns=>
  let⟨b,l,o⟩:=h;exact⟨_,l,.inl rfl,λH' p s e=>⟨_,.tup e (.cons (.str _) (.cons (.tup (s _ _ o) (ZM ns)) .nil)),g (m (c _ ∅)) (gc.tup (KM j.2)),by rw[i ∅];rfl⟩⟩
 | again k y=>exact⟨_,h,.inr (.inl rfl),λH' p s e=>⟨_,.tup e (.cons (.str _) (.cons (.int _) .nil)),g (m (c _ ∅)) (m .int),by rw[i ∅];rfl⟩⟩
def sq{xs:N2}(h:⇑xs=3\/⇑xs=4):¬(HT.c9 ⇑xs 0 none=0/\HT.c9 ⇑xs ⇑xs (some 2)=⇑xs)/\fc xs none (some 2)=xs.take 2:=by
 unfold fc;rcases h with e | e<;>rw[e]<;>exact⟨by decide,rfl⟩
def HJ{K:cA}{H:Hp}{a:Addr}{xs:N2}{Q:VK}(e:H a=some (.tup xs))(c:⇑xs=2\/⇑xs=3\/⇑xs=4)(k:∀(b:Addr) (H':Hp),bX H H'->H' b=some (.tup (xs.take 2))->Q (.ref b) H'):rm K (.ref a) none (some 2) H Q\/rp K (.ref a) none (some 2) H Q:=by
 rcases c with h | h
 .exact .inr ⟨a,xs,rfl,cU.of e,by rw[h];rfl,by rw[h];rfl,k a H (bX.refl _) (by rw[List.take_of_length_le ⋯];exact e)⟩
 .exact .inl ⟨a,xs,rfl,cU.of e,(sq h).1,λp d=>k p _ (Af d rfl) (by rw[(sq h).2];exact jw)⟩
noncomputable def g4(W:L5)(r:Nat->Int->Int)(y:hV):Int:=y.2.2.1*W∘y.1+(match y.2.2.2 with | some u=>r y.1 u | none=>0)
noncomputable def ph(pc:Nat->List Pc)(gs W:L5):Nat->Nat->Int->Int
 | 0,_,_=>0
 | n+1,i,t=>if pc i=[]then(if 0<t then W∘i else 0)else((dA gs t (pc i)).map (g4 W (ph pc gs W n))).sum
noncomputable def RA(ps:N1)(gs W:L5)(i:Nat)(t:Int):Int:=ph (cy ps gs) gs W (i+1) i t
noncomputable def mE(x:Str)(ps:N1)(gs:L5)(i:Nat)(t:Int):Int:=(((reach ps gs i t).flatMap (cV ps)).count x:Nat)
def Z9{a:Type}{f g:a->Int}{l:List a}(h:∀x∈l,f x=g x):(l.map f).sum=(l.map g).sum:=by rw[map_congr_left h]
section
variable{ls:L4}{ps:N1}{gs W:L5}{hs:L1}{x:Str}
def uq(a:fY ls ps){i:Nat}{t:Int}{y:hV}(h:y∈dA gs t (cy ps gs i)):y.1<i:=by
 let⟨q,b,e⟩:=YU h;rw[WQ e];exact zK a b
theorem Aa(a:fY ls ps):∀{n m i:Nat} {t:Int},i<n->i<m->ph (cy ps gs) gs W n i t=ph (cy ps gs) gs W m i t
 | 0,_,_,_,h,_=>uf h (Nat.not_lt_zero _)
 | _,0,_,_,_,h=>uf h (Nat.not_lt_zero _)
 | n+1,m+1,i,t,h1,h2=>by
  unfold ph;split
  .rfl
  .refine Z9 λy b=>?_
   have:=uq a b;unfold g4;split
   .rw[Aa a (show y.1<n by lia) (show y.1<m by lia)]
   .rfl
def YL{i:Nat}{t:Int}(h:cy ps gs i=[]):RA ps gs W i t=if 0<t then W∘i else 0:=by
 unfold RA ph;rw[vd h]
noncomputable def cQ(ps:N1)(gs W:L5)(t:Int)(q:Pc):Int:=if q.2.2<=t then ov gs t q*W∘q.1+(if ov gs t q<q.2.1 then RA ps gs W q.1 (t-q.2.2-ov gs t q*gs∘q.1)else 0)else 0
def IY{f:Pc->Option hV}{g:hV->Int}{c:Pc->Int}(b:∀q,f q=none->c q=0)(d:∀q y,f q=some y->c q=g y):∀a:List Pc,((a.filterMap f).map g).sum=(a.map c).sum:=by
 intro h
 induction h with
 | nil=>
  exact rfl
 | cons q r ih0=>
  rw[v7,v8,<-ih0];cases e:f q with
  | none=>rw[filterMap_cons_none e,b q e,uz]
  | some y=>rw[filterMap_cons_some e,v7,v8,d q y e]
def Kf(f:fY ls ps){i:Nat}{t:Int}(h:¬cy ps gs i=[]):RA ps gs W i t=((cy ps gs i).map (cQ ps gs W t)).sum:=by
 have e:RA ps gs W i t=((dA gs t (cy ps gs i)).map (g4 W (RA ps gs W))).sum:=by
  unfold RA;rw[ph,vc h];refine Z9 λy a=>?_
  have:=uq f a;unfold g4;split
  .rw[Aa f (show y.1<i by lia) (show y.1<y.1+1 by lia)]
  .rfl
 rw[e];unfold dA;refine IY (λq d=>?_) (λq y a=>?_) _
 .unfold cZ at d;unfold cQ;split at d
  .cases d
  .rename_i c;rw[vc c]
 .unfold cZ at a;unfold cQ;split at a
  .rename_i c;rw[vd c];injection a with a;subst a;unfold g4;dsimp only;by_cases b:ov gs t q<q.2.1
   .rw[vd b,vd b]
   .rw[vc b,vc b]
  .cases a
theorem Cb{g:Nat->Int}:∀{is:L6} {b:Int} {q:Pc},(∀j∈is,0<=gs∘j)->q∈cT gs is b->q.2.2+gs∘q.1<=b+(is.map λj=>gs∘j).sum
 | [],_,_,_,h=>nomatch h
 | j::r,b,q,h0,h=>by
  have e:0<=(r.map λj=>gs∘j).sum:=by
   cases r with
   | nil=>exact vA _
   | cons a s=>
    refine(CU (l:=(a::s).map λj=>gs∘j) (λy d=>?_) (vK.mpr ⟨a,vq,rfl⟩)).2;let⟨k,c,rfl⟩:=vK.mp d;exact h0 k (vp _ c)
  rw[v7,v8];rcases mem_cons.mp h with rfl | h
  .show b+gs∘j<=_;lia
  .have:=Cb (g:=g) (λk c=>h0 k (vp _ c)) h;lia
def Sn.ql(N:Sn ls ps gs hs){i:Nat}{q:Pc}(h:q∈cy ps gs i):q.2.2+q.2.1*gs∘q.1<=gs∘i:=by
 have m:=N.fit h;by_cases b:q.2.2=0
 .lia
 unfold cy at h;split at h
 case h_2=>exact nomatch h
 rename_i p hp;have d:=(N.s.ln i p hp).2;have f:∀k∈cG ps p.2,1<=gs∘k:=λk l=>by
  have:=N.s.w.cK hp l;have:=(vx.mp hp).1;exact(N.g (show k<⇑ps by lia)).1
 unfold de at h;split at h
 .rename_i k y e;split at h
  .exact nomatch h
  .rename_i j r ein;have a:k*gs∘j=gs∘i:=d _ (by rw[e]at ein|-;rw[ein];exact⟨_,rfl,rfl⟩);rcases mem_cons.mp h with rfl | h
   .exact uf rfl b
   .split at h
    .rw[vo.mp h,<-a];show gs∘j+(k-1)*gs∘j<=_;rw[Int.sub_mul];lia
    .exact nomatch h
 .rename_i ns e;have a:=d ((cG ps p.2).map λj=>gs∘j).sum (by rw[e];rfl);have:=Cb (g:=λZ=>0) (λj c=>by have:=f j c;lia) h;rw[(YV h).2,uw,<-a];lia
 .let⟨j,c,rfl⟩:=vK.mp h;exact uf rfl b
def BH{i:Nat}{p:Str×Fm}(a:ps[i]?=some p)(h:¬cy ps gs i=[]):fj x p.2=0:=by
 unfold fj;split
 .rename_i y n e;exfalso;refine h ?_;unfold cy;rw[a];show de gs p.2 (cG ps p.2)=[]
  rw[e];rfl
 .rfl
def Xm(N:Sn ls ps gs hs):∀i,RA ps gs W i 0=0:=by
 intro i
 induction i using Nat.strongRecOn with
 | ind i ih=>
  by_cases c:cy ps gs i=[]
  .rw[YL c];rfl
  .rw[Kf N.s.w c];have:∀q∈cy ps gs i,cQ ps gs W 0 q=0:=λq d=>by
    have e:=N.fk d;have f:=zK N.s.w d;unfold cQ;split
    .have b:q.2.2=0:=by have:=e.2.2.2.2.2.1;lia
     have o:ov gs 0 q=0:=by
      unfold ov;rw[b,show(0:Int)-0=0 from rfl,Int.zero_ediv,vc (by have:=e.2.2.2.1;lia)]
     simp_all
    .rfl
   rw[map_congr_left this];generalize cy ps gs i=l
   induction l with
   | nil=>rfl
   | cons a r ih2=>simp_all
def Bx(N:Sn ls ps gs hs)(O:fT ps gs x W ⇑ps){i:Nat}(hi:i<⇑ps):RA ps gs W i (gs∘i)=W∘i:=by
 have e:=(N.g hi).1;by_cases c:cy ps gs i=[]
 .rw[YL c,vd ⋯]
 .rw[Kf N.s.w c,O.2 i _ hi (vz hi),BH (vz hi) c,uz];unfold iM;refine Z9 λq b=>?_
  have a:=N.fk b;have d:=N.ql b;have f:=Int.mul_pos (show 0<q.2.1 by have:=a.2.2.2.1;lia) (show 0<gs∘q.1 by have:=a.2.1;lia);unfold cQ;rw[vd ⋯];have o:ov gs (gs∘i) q=q.2.1:=by
   unfold ov;have:q.2.1<=(gs∘i-q.2.2)/gs∘q.1:=(Int.le_ediv_iff_mul_le (by have:=a.2.1;lia)).mpr ⋯;split<;>lia
  rw[o,vc (Int.lt_irrefl _),uy]
noncomputable def nQ(x:Str)(ps:N1)(gs:L5)(t:Int)(q:Pc):Int:=if q.2.2<=t/\ov gs t q<q.2.1 then mE x ps gs q.1 (t-q.2.2-ov gs t q*gs∘q.1)else 0
def Hk{i:Nat}{g:Int}(h:1<=g):cV ps (i,g)=[]:=by
 unfold cV;split
 .exact vc (by show¬g=0;lia)
 .rfl
def G8(a b:L8):((a++b).count x:Int)=(a.count x:Int)+(b.count x:Int):=by rw[List.count_append];lia
def EO(N:Sn ls ps gs hs){i:Nat}{t:Int}(h:¬(gs∘i<=t\/cy ps gs i=[])):mE x ps gs i t=((cy ps gs i).map (nQ x ps gs t)).sum:=by
 unfold mE;rw[Qi N.s.w h];have g:∀b:List Pc,(∀q∈b,q∈cy ps gs i)->(((((b.filterMap (cZ gs t)).flatMap (dF gs)).flatMap λy=>reach ps gs y.1 y.2).flatMap (cV ps)).count x:Int)=(b.map (nQ x ps gs t)).sum:=by
  intro b
  induction b with
  | nil=>intro Z;rfl
  | cons q r f=>
   intro d;have l:=N.fk (d q vq);have f:=f λy k=>d y (vp _ k)
   rw[v7,v8,<-f];unfold nQ;by_cases c:q.2.2<=t
   .have e:cZ gs t q=some (q.1,q.2.2,ov gs t q,if ov gs t q<q.2.1 then some (t-q.2.2-ov gs t q*gs∘q.1)else none):=vd c;rw[filterMap_cons_some e,flatMap_cons,flatMap_append,flatMap_append,G8];congr 1;have j:((dF gs (q.1,q.2.2,ov gs t q,if ov gs t q<q.2.1 then some (t-q.2.2-ov gs t q*gs∘q.1)else none)).flatMap λy=>reach ps gs y.1 y.2).flatMap (cV ps)=if ov gs t q<q.2.1 then(reach ps gs q.1 (t-q.2.2-ov gs t q*gs∘q.1)).flatMap (cV ps)else[]:=by
     unfold dF;rw[flatMap_append,flatMap_append];have z:((if 0<ov gs t q then[(q.1,gs∘q.1)]else[]).flatMap λy:Nat×Int=>reach ps gs y.1 y.2).flatMap (cV ps)=[]:=by
      split
      .rw[flatMap_cons,flatMap_nil,append_nil,JE (.inl (vA _)),flatMap_cons,flatMap_nil,append_nil];exact Hk l.2.1
      .rfl
     have m:((if 0<(q.1,q.2.2,ov gs t q,if ov gs t q<q.2.1 then some (t-q.2.2-ov gs t q*gs∘q.1)else none).2.2.1 then[((q.1,q.2.2,ov gs t q,if ov gs t q<q.2.1 then some (t-q.2.2-ov gs t q*gs∘q.1)else none).1,gs∘q.1)]else[]).flatMap λy:Nat×Int=>reach ps gs y.1 y.2).flatMap (cV ps)=[]:=z;rw[m,List.nil_append];by_cases a:ov gs t q<q.2.1
     .rw[vd a,vd a];show(([(q.1,t-q.2.2-ov gs t q*gs∘q.1)].flatMap λy:Nat×Int=>reach ps gs y.1 y.2).flatMap (cV ps))=_;rw[flatMap_cons,flatMap_nil,append_nil]
     .rw[vc a,vc a];rfl
    rw[j];by_cases a:ov gs t q<q.2.1
    .rw[vd a,vd ⟨c,a⟩];rfl
    .rw[vc a,vc λz=>a z.2];rfl
   .have e:cZ gs t q=none:=vc c;rw[filterMap_cons_none e,vc λz=>c z.1,uz]
 exact g _ λq d=>d
def HL{b:Type}{f g h:b->Int}:∀{l:List b},(∀y∈l,f y=g y+h y)->(l.map f).sum=(l.map g).sum+(l.map h).sum:=by
 intro d
 induction d with
 | nil=>
  intro q;exact rfl
 | cons a r ih0=>
  intro e;rw[v7,v7,v7,v8,v8,v8,ih0 λy c=>e y (vp _ c),e a vq];lia
noncomputable def fQ(w T g:Int)(r:Int->Int)(u:Int):Int:=if u/g<T then u/g*w+r (u%g)else T*w
def HA{w T g:Int}{r c:Int->Int}{u:Int}(k:0<g)(o:0<=u)(l:r 0=0)(n:r g=w)(st:∀v,0<=v->v<g->r (v+1)=r v+c v):fQ w T g r (u+1)=fQ w T g r u+(if u/g<T then c (u%g)else 0):=by
 have e:=Int.emod_add_mul_ediv u g;have h:=ve u (show g≠0 by lia);have i:=vf u k;have f:=st _ h i;unfold fQ;rcases Int.lt_or_le (u%g+1) g with z | z
 .have d:(u+1)/g=u/g:=by
   rw[show u+1=u%g+1+g*(u/g) by lia,Int.add_mul_ediv_left _ _ ⋯,Int.ediv_eq_zero_of_lt ⋯ z,uz]
  have m:(u+1)%g=u%g+1:=by
   rw[show u+1=u%g+1+g*(u/g) by lia,Int.add_mul_emod_self_left,vZ ⋯ z]
  rw[d,m];split
  .rw[f];lia
  .lia
 .have j:u%g+1=g:=⋯
  have d:(u+1)/g=u/g+1:=by
   rw[show u+1=0+g*(u/g+1) by rw[Int.mul_add];lia,Int.add_mul_ediv_left _ _ ⋯,Int.zero_ediv,uz]
  have m:(u+1)%g=0:=by
   rw[show u+1=0+g*(u/g+1) by rw[Int.mul_add];lia,Int.add_mul_emod_self_left,Int.zero_emod]
  rw[d,m,l];rw[j,n]at f;by_cases a:u/g<T
  .rw[vd a,vd a];by_cases b:u/g+1<T
   .rw[vd b,uv];lia
   .rw[vc b,show T=u/g+1 by lia,uv];lia
  .rw[vc a,vc a,vc ⋯];lia
def AN{q:Pc}{t:Int}:ov gs t q=if(t-q.2.2)/gs∘q.1<q.2.1 then(t-q.2.2)/gs∘q.1 else q.2.1:=by
 unfold ov;split<;>split<;>lia
def Ab{u g:Int}:u-u/g*g=u%g:=by
 have:=Int.emod_add_mul_ediv u g;rw[Int.mul_comm (u/g) g];lia
def AL{q:Pc}{t:Int}(a:fS gs q)(h:q.2.2<=t):cQ ps gs W t q=fQ (W∘q.1) q.2.1 (gs∘q.1) (RA ps gs W q.1) (t-q.2.2):=by
 unfold cQ fQ;rw[vd h,AN];by_cases c:(t-q.2.2)/gs∘q.1<q.2.1
 .rw[vd c,vd c,vd c,Ab]
 .rw[vc c,vc c,vc (Int.lt_irrefl _),uy]
def Le{q:Pc}{t:Int}(a:fS gs q)(h:q.2.2<=t):nQ x ps gs t q=if(t-q.2.2)/gs∘q.1<q.2.1 then mE x ps gs q.1 ((t-q.2.2)%gs∘q.1)else 0:=by
 unfold nQ;rw[AN];by_cases c:(t-q.2.2)/gs∘q.1<q.2.1
 .rw[vd c,vd ⟨h,c⟩,vd c,Ab]
 .rw[vc c,vc (λz=>Int.lt_irrefl _ z.2),vc c]
def G2(N:Sn ls ps gs hs)(O:fT ps gs x W ⇑ps):∀(i:Nat),i<⇑ps->∀t,0<=t->t<gs∘i->RA ps gs W i (t+1)=RA ps gs W i t+mE x ps gs i t:=by
 intro i
 induction i using Nat.strongRecOn with
 | ind i ih=>
  intro e t v w;by_cases c:cy ps gs i=[]
  .have m:W∘i=fj x ps[i].2:=by
    rw[O.2 i _ e (vz e),c];exact uy _
   rw[YL c,YL c,vd ⋯,m];unfold mE;rw[JE (.inr c),flatMap_cons,flatMap_nil,append_nil];unfold cV fj;rw[vz e];generalize ps[i]=p;let⟨y,f⟩:=p;cases f with
   | ring z n=>
    show(if z=x then(1:Int)else 0)=(if 0<t then(if z=x then(1:Int)else 0)else 0)+(((if t=0 then[z]else[]):L8).count x:Int);by_cases h:t=0
    .subst h;rw[vc (Int.lt_irrefl _),vd rfl,uz];by_cases d:z=x
     .rw[vd d,d];simp
     .rw[vc d,List.count_singleton];simp[d]
    .rw[vd (show 0<t by lia),vc h];simp
   | _=>simp
  .rw[Kf N.s.w c,Kf N.s.w c,EO N (λz=>z.elim (λz=>⋯) c)];refine HL λq j=>?_
   have a:=N.fk j;have o:=zK N.s.w j;have k:q.1<⇑ps:=⋯
   have u:=a.2.1;have s:=a.2.2.2.1;by_cases b:q.2.2<=t
   .rw[AL a (show q.2.2<=t+1 by lia),AL a b,Le a b,show t+1-q.2.2=t-q.2.2+1 by lia];exact HA ⋯ ⋯ (Xm N q.1) (Bx N O k) (ih q.1 o k)
   .have r:nQ x ps gs t q=0:=vc λz=>b z.1
    have l:cQ ps gs W t q=0:=vc b;rw[r,l];by_cases g:q.2.2<=t+1
    .rw[AL a g,show t+1-q.2.2=0 by lia];unfold fQ;rw[Int.zero_ediv,vd ⋯,Int.zero_mul,Int.zero_emod,Xm N]
    .exact vc g
noncomputable def eU(ys:List hV):L3:=ys.filterMap λy=>y.2.2.2.map λr=>(y.1,r)
noncomputable def oz(W:L5)(ys:List hV):Int:=(ys.map λy=>y.2.2.1*W∘y.1).sum
def Hy(r:Nat->Int->Int):∀ys:List hV,(ys.map (g4 W r)).sum=oz W ys+((eU ys).map λs=>r s.1 s.2).sum:=by
 intro c
 induction c with
 | nil=>
  exact rfl
 | cons y t ih0=>
  have a:=ih0;unfold oz eU at a|-;rw[v7,v8,a,v7,v8];unfold g4;cases e:y.2.2.2 with
  | none=>
   rw[filterMap_cons_none (by rw[e];rfl)];show y.2.2.1*W∘y.1+0+_=_;lia
  | some u=>
   rw[filterMap_cons_some (b:=(y.1,u)) (by rw[e];rfl),v7,v8];show y.2.2.1*W∘y.1+r y.1 u+_=_+(r y.1 u+_);lia
def G0(a:fY ls ps){i:Nat}{t:Int}:RA ps gs W i t=(if cy ps gs i=[]then(if 0<t then W∘i else 0)else 0)+(oz W (dA gs t (cy ps gs i))+((eU (dA gs t (cy ps gs i))).map λs=>RA ps gs W s.1 s.2).sum):=by
 by_cases h:cy ps gs i=[]
 .rw[YL h,vd h,h];show _=_+(0+0);lia
 .rw[vc h,uz,<-Hy];unfold RA;rw[ph,vc h];refine Z9 λy b=>?_
  have:=uq a b;unfold g4;split
  .rw[Aa a (show y.1<i by lia) (show y.1<y.1+1 by lia)]
  .rfl
def BM{t:Int}{d:List Pc}{s:Nat×Int}(h:s∈eU (dA gs t d)):∃q∈d,s.1=q.1/\q.2.2<=t/\ov gs t q<q.2.1/\s.2=t-q.2.2-ov gs t q*gs∘q.1:=by
 let⟨y,g,e⟩:=mem_filterMap.mp h;let⟨q,f,a⟩:=YU g;let⟨r,b,rfl⟩:=vg.mp e;unfold cZ at a;split at a
 .rename_i c;injection a with a;subst a;dsimp only at b|-;split at b
  .rename_i c';exact⟨q,f,rfl,c,c',(vL b).symm⟩
  .cases b
 .cases a
def Hl:∀ys:List hV,((eU ys).map λx=>nodes ps gs x.1 x.2).sum<=((ys.flatMap (dF gs)).map λx=>nodes ps gs x.1 x.2).sum:=by
 intro c
 induction c with
 | nil=>
  exact vb _
 | cons y t ih0=>
  have a:=ih0;unfold eU at a|-;rw[flatMap_cons,vj,sum_append];unfold dF;rw[vj,sum_append];cases e:y.2.2.2 with
  | none=>
   rw[filterMap_cons_none (by rw[e];rfl)];unfold dF at a;lia
  | some u=>
   rw[filterMap_cons_some (b:=(y.1,u)) (by rw[e];rfl),v7,v8];show nodes ps gs y.1 u+_<=_+(nodes ps gs y.1 u+0)+_;unfold dF at a;lia
def WV(N:Sn ls ps gs hs){i:Nat}{t:Int}:((eU (dA gs t (cy ps gs i))).map λx=>nodes ps gs x.1 x.2).sum<nodes ps gs i t:=by
 by_cases c:t<gs∘i
 .have:=wy N.s.w (gs:=gs) (i:=i) c;have:=Hl (ps:=ps) (gs:=gs) (dA gs t (cy ps gs i));unfold eV at *;lia
 .have e:eU (dA gs t (cy ps gs i))=[]:=by
   apply List.eq_nil_iff_forall_not_mem.mpr;intro s a;let⟨q,d,j,g,b,j⟩:=BM a;have f:=N.fk d;have h:=N.ql d;have:q.2.1<=(t-q.2.2)/gs∘q.1:=(Int.le_ediv_iff_mul_le (by have:=f.2.1;lia)).mpr ⋯;unfold ov at b;split at b<;>lia
  rw[e];exact YW i t
def IH(N:Sn ls ps gs hs){i:Nat}{t:Int}(hi:i<⇑ps)(m:t<=10^61){s:Nat×Int}(h:s∈eU (dA gs t (cy ps gs i))):s.1<⇑ps/\0<=s.2/\s.2<=10^61:=by
 let⟨q,d,l,k,b,e⟩:=BM h;have a:=N.fk d;have n:=zK N.s.w d;have f:ov gs t q=(t-q.2.2)/gs∘q.1:=by
  rw[AN]at b|-;split at b
  .rename_i c;rw[vd c]
  .lia
 rw[f,Ab]at e;have g:=ve (t-q.2.2) (show gs∘q.1≠0 by have:=a.2.1;lia);have j:=vf (t-q.2.2) (show 0<gs∘q.1 by have:=a.2.1;lia);have:=a.2.2.1;exact⟨⋯,⋯,⋯⟩
inductive dt(C:Addr)(vs:N2)(H:Hp)(Q:VK)(xk:XK):Prop
 | mk (a:Addr) (z:Tq) (ls:L4) (ps:N1) (gs W:L5) (hs:L1) (x:Str) (t:Int) (_:vs=[.ref a,.int t]) (_:oU C H a z ps gs W) (_:Sn ls ps gs hs) (_:fT ps gs x W ⇑ps) (_:0<=t) (_:t<=gs∘(⇑ps-1)+1) (_:∀H',bX H H'->Q (.int (RA ps gs W (⇑ps-1) t)) H'):dt C vs H Q xk
structure rV(ps:N1)(gs W:L5)(G to:Int)(S:L3):Prop where
 e:to+(S.map λs=>RA ps gs W s.1 s.2).sum=G
 ok:∀s∈S,s.1<⇑ps/\0<=s.2/\s.2<=10^61
 n:(S.map λs=>nodes ps gs s.1 s.2).sum<=5000
def rV.next(N:Sn ls ps gs hs){G c:Int}{a:L3}{s:Nat×Int}(h:rV ps gs W G c (a++[s])):rV ps gs W G (c+(if cy ps gs s.1=[]then(if 0<s.2 then W∘s.1 else 0)else 0)+oz W (dA gs s.2 (cy ps gs s.1))) (a++eU (dA gs s.2 (cy ps gs s.1))):=by
 have b:=h.ok s (mem_append_right _ vq);have e:=h.e;have n:=h.n;have f:=WV (i:=s.1) (t:=s.2) N;rw[vj,sum_append,v7,map_nil,v8,sum_nil]at e n;rw[G0 N.s.w]at e;refine⟨?_,λy d=>?_,?_⟩
 .rw[vj,sum_append];lia
 .rcases vh.mp d with z | z
  .exact h.ok y (mem_append_left _ z)
  .exact IH N b.1 b.2.2 z
 .rw[vj,sum_append];lia
def E8{ys:List hV}{k:Nat}{y:hV}(h:ys[k]?=some y)(e:y.2.2.2=none):eU (ys.take (k+1))=eU (ys.take k):=by
 unfold eU;rw[take_snoc h,List.filterMap_append,filterMap_cons_none (by rw[e];rfl),List.filterMap_nil,append_nil]
def E9{ys:List hV}{k:Nat}{y:hV}{r:Int}(h:ys[k]?=some y)(e:y.2.2.2=some r):eU (ys.take (k+1))=eU (ys.take k)++[(y.1,r)]:=by
 unfold eU;rw[take_snoc h,List.filterMap_append,filterMap_cons_some (b:=(y.1,r)) (by rw[e];rfl),List.filterMap_nil]
def GJ{ys:List hV}{k:Nat}{y:hV}(h:ys[k]?=some y):oz W (ys.take (k+1))=oz W (ys.take k)+y.2.2.1*W∘y.1:=by
 unfold oz;rw[take_snoc h,vj,sum_append,v7,map_nil,v8,sum_nil,uy]
def LI(N:Sn ls ps gs hs){i:Nat}{t:Int}{y:hV}(h:y∈dA gs t (cy ps gs i)):0<=y.2.2.1/\y.2.2.1<=10^18:=by
 let⟨q,b,e⟩:=YU h;have a:=N.fk b;unfold cZ at e;split at e
 .rename_i c;injection e with e;subst e;show 0<=ov gs t q/\ov gs t q<=_;have:=Int.ediv_nonneg (show 0<=t-q.2.2 by lia) (show 0<=gs∘q.1 by have:=a.2.1;lia);have:=a.2.2.2.1;have:=a.2.2.2.2.1;unfold ov;split<;>lia
 .cases e
def G1(N:Sn ls ps gs hs)(O:fT ps gs x W ⇑ps){i:Nat}(hi:i<⇑ps){t:Int}(f:gs∘i<=t):RA ps gs W i t=W∘i:=by
 have e:=(N.g hi).1;by_cases c:cy ps gs i=[]
 .rw[YL c,vd ⋯]
 .rw[Kf N.s.w c,O.2 i _ hi (vz hi),BH (vz hi) c,uz];unfold iM;refine Z9 λq b=>?_
  have a:=N.fk b;have d:=N.ql b;have g:=Int.mul_pos (show 0<q.2.1 by have:=a.2.2.2.1;lia) (show 0<gs∘q.1 by have:=a.2.1;lia);unfold cQ;rw[vd ⋯];have o:ov gs t q=q.2.1:=by
   unfold ov;have:q.2.1<=(t-q.2.2)/gs∘q.1:=(Int.le_ediv_iff_mul_le (by have:=a.2.1;lia)).mpr ⋯;split<;>lia
  rw[o,vc (Int.lt_irrefl _),uy]
noncomputable def ij(x:Str)(ps:N1)(gs:L5):Nat->Int
 | 0=>0
 | n+1=>ij x ps gs n+(((dE ps gs (n:Int)).count x:Nat):Int)
def Cw(N:Sn ls ps gs hs)(O:fT ps gs x W ⇑ps):∀n:Nat,(n:Int)<=gs∘(⇑ps-1)->RA ps gs W (⇑ps-1) (n:Int)=ij x ps gs n:=by
 intro a
 induction a with
 | zero=>
  intro q;exact Xm N _
 | succ n ih0=>
  intro h;have b:=N.ne;rw[show((n+1:Nat):Int)=(n:Int)+1 by lia]at h|-;rw[G2 N O _ ⋯ n ⋯ ⋯,ih0 ⋯];rfl
def FY(N:Sn ls ps gs hs)(O:fT ps gs x W ⇑ps){t:Int}(h:0<=t):RA ps gs W (⇑ps-1) t=ij x ps gs (min t (gs∘(⇑ps-1))).toNat:=by
 have b:=N.ne;have a:=(N.g (show ⇑ps-1<⇑ps by lia)).1;rcases Int.le_total t (gs∘(⇑ps-1))with z | z
 .rw[show min t (gs∘(⇑ps-1))=t by lia,<-Cw N O t.toNat ⋯,Int.toNat_of_nonneg h]
 .rw[show min t (gs∘(⇑ps-1))=gs∘(⇑ps-1) by lia,<-Cw N O _ ⋯,Int.toNat_of_nonneg ⋯,G1 N O ⋯ z,Bx N O ⋯]
def GD{z:Tq}{g:Int}:(lQ z g).lookup ("ahead" : Str)=none:=(jE ∅).trans ((jE ∅).trans ((jE ∅).trans ((jE ∅).trans rfl)))
inductive gq(vs:N2)(H:Hp)(Q:VK)(xk:XK):Prop
 | mk (b pl pp:Addr) (las pas:L7) (ls:L4) (ps:N1) (gs:L5) (hs:L1) (x:Str) (t:Int) (_:vs=[.ref b,.str x,.int t]) (_:cH H b pl pp las pas ls ps) (_:Sn ls ps gs hs) (_:Ws.ff x=true) (_:(∀p∈ps,m5 p.2)) (_:0<=t) (_:t<=gs∘(⇑ps-1)+1) (_:∀H',bX H H'->Q (.int (ij x ps gs (min t (gs∘(⇑ps-1))).toNat)) H'):gq vs H Q xk
end
section
variable{L:L8}{fs:List Fn}{M:L1}{gs:L5}{names:L8}{n:Nat}{E:L0}
def By(p:1<=gs∘j)(v:1<=k)(a:0<=t)(r:t<=k*gs∘j) :
  (t/gs∘j=0/\eV gs t ((j,1,0)::(if 1<k then[(j,k-1,gs∘j)]else[]))=[(j,t%gs∘j)])\/
  (1<=t/gs∘j/\t/gs∘j<k/\∃z,(z=[]\/z=[(j,gs∘j)])/\eV gs t ((j,1,0)::(if 1<k then[(j,k-1,gs∘j)]else[]))=(j,gs∘j)::z++[(j,t%gs∘j)])\/
  (t/gs∘j=k/\∃z,(z=[]\/z=[(j,gs∘j)])/\eV gs t ((j,1,0)::(if 1<k then[(j,k-1,gs∘j)]else[]))=(j,gs∘j)::z):=by
 rw[Qz,W3 p a,Int.sub_zero];generalize b:gs∘j=g at *;have u:=Int.emod_add_mul_ediv t g;have w:=ve t (show g≠0 by lia);have x:=vf t (show 0<g by lia);have s:t/g<=k:=by
  have:=Int.ediv_le_ediv (show 0<g by lia) r;rw[Int.mul_ediv_cancel _ (show g≠0 by lia)]at this;exact this
 have m:(t-g)/g=t/g-1:=by
  have:=Int.add_mul_ediv_right t (-1) (show g≠0 by lia);have e:t + -1*g=t-g:=⋯
  rw[e]at this;lia
 by_cases c:g<=t
 case neg=>
  have i:t/g=0:=Int.ediv_eq_zero_of_lt a ⋯;have q:t%g=t:=vZ a ⋯;refine .inl ⟨i,?_⟩;rw[vc c,q];split
  .rw[Qz,Y2,CS (show t<g by lia)];rfl
  .rw[Y2];rfl
 have l:1<=t/g:=by
  have:=Int.ediv_le_ediv (show 0<g by lia) c;rw[Int.ediv_self (show g≠0 by lia)]at this;exact this
 rw[vd c];have n:ov gs t (j,k-1,g)=t/g-1:=by
  unfold ov;show(if k-1<(t-g)/gs∘j then k-1 else(t-g)/gs∘j)=_;rw[b,m];split<;>lia
 have o:t-g-(t/g-1)*g=t%g:=by
  have:(t/g-1)*g=g*(t/g)-g:=by rw[Int.sub_mul,uw,Int.mul_comm]
  lia
 by_cases f:1<k
 .rw[vd f,Qz,Y2,append_nil,Ah (show g<=t from c),n];show _\/(_/\_/\∃z,_/\[(j,g)]++((if 0<t/g-1 then[(j,gs∘j)]else[])++(if t/g-1<k-1 then[(j,t-g-(t/g-1)*gs∘j)]else[]))=_)\/(_/\∃z,_/\[(j,g)]++((if 0<t/g-1 then[(j,gs∘j)]else[])++(if t/g-1<k-1 then[(j,t-g-(t/g-1)*gs∘j)]else[]))=_);rw[b,o];have d:(if 0<t/g-1 then[(j,g)]else[])=[]\/(if 0<t/g-1 then[(j,g)]else[])=[(j,g)]:=by split<;>simp
  by_cases h:t/g=k
  .refine .inr (.inr ⟨h,_,d,?_⟩);rw[vc (show¬t/g-1<k-1 by lia),append_nil];rfl
  .refine .inr (.inl ⟨l,⋯,_,d,?_⟩);rw[vd (show t/g-1<k-1 by lia)];rfl
 .rw[vc f,Y2];exact .inr (.inr ⟨⋯,[],.inl rfl,rfl⟩)
end
end Rm
namespace L2
open PySem PySem.Spec PySem.W PyProof.Rows
def Dv(h:(cn P w).is k u=true):RelV (kV k) u:=by
 cases k with
 | inl i=>let⟨t,rfl⟩:=Value.isInt_shape (k:=i) h;exact⟨t,rfl⟩
 | inr z=>let⟨t,rfl⟩:=Value.isStrOf_shape (x:=z) h;exact⟨t,rfl⟩
theorem CO:∀{ys:N2} {us:L9},⇑us=⇑ys->(∀(j:Nat) (u:Value),us[j]?=some u->∃y,ys[j]?=some y/\RelV y u)->Vals ys us
 | [],[],_,_=>.nil
 | [],_::_,h,_=>by simp at h
 | _::_,[],h,_=>by simp at h
 | y::ys,u::us,h,q=>by
  let⟨b,e,r⟩:=q 0 u rfl;simp only[List.getElem?_cons_zero,Option.some.injEq]at e;subst e;exact .cons r (CO #v[h] λj u a=>#v[q (j+1) u #v[a]])
def Ey(D:X.calm=true):dw X (.type "list") (λxs H Q=>∃(p:Addr) (kvs:List (Key×V)),xs=[.ref p]/\H p=some (.dK kvs)/\∀l,H l=none->Q (.ref l) (upd H l (.lst (kvs.map λq=>kV q.1)))):=by
 intro t s O H xs N Q I r h;let⟨p,kvs,rfl,ep,q⟩:=h;let⟨u,rfl,J⟩:=vals1 r;cases J;let⟨w,f,m,i,c⟩:=xI I.cJ ep;let⟨B,d⟩:=c.dictAt;refine kdl_call (kdl_dict (knd:=cn X.prog X.w) (kvs:=m) (ep:=B) f) (I.ok.hd D) d (by rw[<-⇑i];exact w) λC L a z g M b=>?_
 have v:=⇑i;have K:Vals (kvs.map λq=>kV q.1) a.toList:=CO (by rw[Array.length_toList,vt,v];exact b.1) λj u E=>by
  let⟨k,x,e,g⟩:=b.2 j u (by rw[<-Array.getElem?_toList];exact E);have o:j<⇑kvs:=by rw[v];exact(vx.mp e).1
  let⟨y,n,A,Z⟩:=i.get (vz o);rw[e]at n;cases n;refine⟨kV kvs[j].1,by rw[vv,vz o];rfl,?_⟩;rw[A];exact Dv g
 refine⟨.ref s.heap.objs.size,_,I.laid (t':=L) g (vb _) (show cD X.prog X.w _ C _ (.lst (kvs.map λq=>kV q.1))from⟨by rw[vt];exact w,a.toList,z,K,by simp_all⟩),rfl,q _ (I.cJ.fresh (vb _))⟩
noncomputable def rg(p:Int×V):Key×V:=(Sum.inl p.1,p.2)
theorem nM:∀{as:L7} {kvs:List (Int×V)},⇑as=⇑kvs->(∀(i:Nat) (a:Addr) (q:Int×V),as[i]?=some a->kvs[i]?=some q->∃t u,RelV q.2 u/\IsTup h a #[.int q.1 t,u])->
  ∃ps:List (Key×Value),KV (kvs.map rg) ps/\⇑ps=⇑kvs/\∀(j:Nat) (kv:Key×Value),ps[j]?=some kv->∃a key,as[j]?=some a/\IsTup h a #[key,kv.2]/\fP kv.1 key=true
 | [],[],_,_=>⟨[],.nil,rfl,λj kv e=>by simp at e⟩
 | [],_::_,l,_=>by simp at l
 | _::_,[],l,_=>by simp at l
 | a::as,q::kvs,l,f=>by
  let⟨ps,o,v,p⟩:=nM (as:=as) (kvs:=kvs) #v[l] λi a q m n=>f (i+1) a q #v[m] #v[n]
  let⟨t,u,s,e⟩:=f 0 a q rfl rfl;refine⟨(Sum.inl q.1,u)::ps,.cons ⟨rfl,s⟩ o,by simp_all,λj kv c=>?_⟩;cases j with
  | zero=>simp at c;subst c;exact⟨a,_,rfl,e,wo _ _⟩
  | succ j=>let⟨b,r,d,g,k⟩:=p j kv #v[c];exact⟨b,r,#v[d],g,k⟩
section
variable{X:Cx}
def Eu(K:X.calm=true):dw X (.type "dict") (λxs H Q=>∃(p:Addr) (as:L7) (kvs:List (Int×V)),xs=[.ref p]/\H p=some (.lst (as.map V.ref))/\⇑as=⇑kvs/\
  (∀(i:Nat) (a:Addr) (q:Int×V),as[i]?=some a->kvs[i]?=some q->H a=some (.tup [.int q.1,q.2]))/\∀d,H d=none->Q (.ref d) (upd H d (.dK (cS [] (kvs.map rg))))):=by
 intro O s σ H xs us Q I r h;let⟨p,as,kvs,rfl,ep,B,ht,q⟩:=h;let⟨u,rfl,ru⟩:=vals1 r;cases ru;let⟨z,D,n,rv,lv,e⟩:=I.i3 ep;have Z:=Y1 rv;subst Z;rw[vt]at z;have L:p<s.heap.objs.size:=vI e;let⟨ps,kp,P,pt⟩:=nM (h:=s.heap) B λi a q W Y=>by
  let⟨_,D,r',t'⟩:=I.cJ a _ (ht i a q W Y);cases r' with
  | cons ra rr=>
   cases rr with
   | cons rb rr=>
    cases rr;let⟨t1,rfl⟩:=ra;exact⟨t1,_,rb,t'⟩
 refine callType_codes (Q₁:=λt g=>t = .ref s.heap.objs.size/\g={s with heap:=s.heap.push {cls:=.type "dict",data:=.dict #[]}}) PySem.F.kt_called_dict (PySem.F.kt_typeCall_dict_1 (.ref p)) PySem.F.entry_dict_init (kt_code_dict_new (.ref p) ⟨rfl,rfl⟩) ?_;rintro t g ⟨rfl,rfl⟩;have c:(s.heap.push {cls:=.type "dict",data:=.dict #[]}).DictOf (cn X.prog X.w) s.heap.objs.size []:=Heap.DictOf.new s.heap;have v:∀b o,s.heap.get? b=some o->(s.heap.push {cls:=.type "dict",data:=.dict #[]}).get? b=some o:=λb o e=>vJ _ e
 generalize s.heap.push {cls:=.type "dict",data:=.dict #[]}=h0 at c v;refine⟨c.typeIs (s:={s with heap:=h0}),PySem.F.args_dict_init_2 _ _,?_⟩;unfold Builtin.«dict.__init__»;refine uh ?_;unfold Builtin.Dict.selfAndRest;refine uh (wpAny_notOrdered_dict (c.typeIs (s:={s with heap:=h0})) ?_);show wpAny (model X.prog X.w) _ (pure (s.heap.objs.size,[Value.ref p])) _ _ _;refine ug ?_;show wpAny (model X.prog X.w) _ (Builtin.Dict.updateFrom "dict.__init__" s.heap.objs.size (.ref p) [] .none) _ _ _;unfold Builtin.Dict.updateFrom;refine uh (wpAny_typeOf (T:="list") ⟨_,v _ _ e,rfl⟩ ?_);rw[vd nofun];refine uh (lR (s:={s with heap:=h0}) (v _ _ e) rfl rfl rfl (I.ok.hd K) λm tk M=>?_);rw[vd (show(none:Nv).isNone=true from rfl)];have f:∀b o,s.heap.get? b=some o->m.get? b=some o:=λb o e=>M b o (v b o e)
 have k:m.DictOf (cn X.prog X.w) s.heap.objs.size []:=c.keep M;have w:s.heap.objs.size<m.objs.size:=by let⟨_,_,_,hg,_⟩:=k;exact vI hg
 have lp:p<m.objs.size:=vY L w;refine uh (wpAny_rule ?_);refine uh (wpAny_pyIter_list (l:=p) (items:=(as.map Value.ref).toArray) ⟨_,f _ _ e,rfl,n,rfl⟩ ?_);refine ug ⟨plainId_quiet Zk _,?_⟩;refine uY (knd:=cn X.prog X.w) (A:=X.A.in1) (d:=s.heap.objs.size) (it:=m.objs.size) (l:=p) (items:=as.map Value.ref) (res:=.none) (I.ok.hd K) (vE w) (vN L) (vN lp) ps 0 [] _
  ⟨_,Heap.get?_push_size _ rfl,rfl,rfl⟩ ⟨_,vJ _ (f _ _ e),rfl,n,rfl⟩ (by rw[vt,B,P,Nat.zero_add]) (λj kv ej=>?_) (k.push _) (by rw[length_nil,P,<-B,Nat.zero_add];exact z) λh2 E k2 x=>?_
 .let⟨a,ky,R,⟨o,J,S⟩,U⟩:=pt j kv ej;have N:a<s.heap.objs.size:=vI J;exact⟨a,ky,by rw[Nat.zero_add,vv,R];rfl,⟨o,vJ _ (f _ _ J),S⟩,U,vE N,vE (vY N w)⟩
 .refine⟨rfl,.ref s.heap.objs.size,upd H s.heap.objs.size (.dK (cS [] (kvs.map rg))),I.laid (t':=E) (λb o y=>k2 b o (vE (vI y)) (vE (vY (vI y) w)) (vJ _ (f _ _ y))) (vb _) ?_,rfl,q _ (I.cJ.fresh (vb _))⟩;have hm:=zn (kvs.map rg) [];rw[length_nil,vt]at hm;have C:(s.heap.objs.size==sysModules)=false:=by
   rw[beq_eq_false_iff_ne];exact vN I.big
  exact WC ⋯ C (kp.merge .nil) x
end
section
variable{X:Cx}{pins:Ny}{σ:St}{H:Hp}{s:Shared}{tg:Expr}
def Inv.freeze(I:Inv X pins σ H s)(e:H a=some (.dK kvs)):∃o,Inv X pins σ (upd H a (.gD o (.dK kvs))) s:=by
 let⟨z,l,t,r,o,k,j,i,g⟩:=(show cD X.prog X.w H s.heap a (.dK kvs)from I.cJ a _ e)
 have f:∀b u,H b=some u->u≠.dK kvs->b≠a:=λb u q d z=>by subst z;rw[e]at q;exact d (vL q).symm
 refine⟨o,I.step (h':=s.heap) (g':=s.gens) (d':=s.drawn) (t':=s.toks) (ch:=[]) (λb h=>nomatch h) (λb o Z Z Z e Z=>e) (λb o Z Z Z e Z=>⟨o.slots,e⟩) (λb u Z Z n=>(jg λz=>by subst z;rw[e]at n;cases n).trans n) (λb u Z e=>⟨u,e⟩)
  (λb x q=>(jg (f _ _ q λz=>nomatch z)).trans q) (λb u v q=>(jg (f _ _ q λz=>nomatch z)).trans q) (λb w q=>⟨#[],by rw[jg (f _ _ q λz=>nomatch z),q];simp⟩) (λm p=>p) (λb u q=>?_) I.bare⟩
 by_cases h:b=a
 .subst h;rw[jw]at q;cases q;exact⟨i,z,l,t,r,o,k,j,i,g⟩
 .rw[jg h]at q;exact(I.cJ b u q).i5 (λc v Z q=>q) (λc q=>(jg (f _ _ q λz=>nomatch z)).trans q) λc y q=>(jg (f _ _ q λz=>nomatch z)).trans q
def uK(as:L7)(H H':Hp):Prop:=(∀b,b∉as->H' b=H b)/\∀b∈as,∀kvs,H b=some (.dK kvs)->∃o,H' b=some (.gD o (.dK kvs))
def Inv.mH:∀(as:L7) {H:Hp},Inv X pins σ H s->as.Nodup->(∀b∈as,∃kvs,H b=some (.dK kvs))->∃H',Inv X pins σ H' s/\uK as H H':=by
 intro m
 induction m with
 | nil=>
  intro H I Z Z;exact⟨H,I,λZ Z=>rfl,λb c=>nomatch c⟩
 | cons a as ih0=>
  intro H I d h;rw[ur]at d;let⟨kvs,e⟩:=h a vq;let⟨o,i⟩:=I.freeze e;have g:∀b∈as,b≠a:=λb c z=>d.1 (by rw[<-z];exact c)
  let⟨H',j,f,l⟩:=ih0 i d.2 λb c=>by
   let⟨k,q⟩:=h b (vp _ c);exact⟨k,(jg (g b c)).trans q⟩
  refine⟨H',j,λb c=>?_,λb c k q=>?_⟩
  .rw[f b λz=>c (vp _ z),jg λz=>c (by rw[z];exact vq)]
  .rcases mem_cons.mp c with rfl | c
   .rw[e]at q;cases q;exact⟨o,(f b d.1).trans jw⟩
   .exact l b c k ((jg (g b c)).trans q)
def tI(te:TE):TE:=λσ H Q=>te σ H λv H1=>∃as:L7,as.Nodup/\(∀b∈as,∃kvs,H1 b=some (.dK kvs))/\∀H2,uK as H1 H2->Q v H2
def LA(h:PE X e te):PE X e (tI te):=by
 intro a s m H Q I q;refine cM (h a s m H _ I q) λv o z_=>?_;obtain⟨x,n,c,l,f,j,i,k⟩:=z_
 let⟨b,d,g⟩:=c.mH f j i;exact⟨x,b,d,l,k b g⟩
def rE(a:Addr)(o:Obj)(kvs:List (Key×V)):It:=
 ⟨λi H=>H a=some (.gD o (.dK kvs))/\i<⇑kvs,λi H x H'=>H'=H/\∃q,kvs[i]?=some q/\x=kV q.1,λi H=>H a=some (.gD o (.dK kvs))/\⇑kvs<=i⟩
def WH(I:Inv X pins σ H s)(e:H a=some (.gD o (.dK kvs)))(d:o.data = .dict es ep):⇑kvs<=sizeLine/\(a==sysModules)=false/\∃vs,KV kvs vs/\s.heap.DictAt (cn X.prog X.w) a vs ep:=by
 let⟨f,z,k,vs,r,l,j,i,b,g,c,h⟩:=(show cD X.prog X.w H s.heap a (.gD o (.dK kvs))from I.cJ a _ e)
 rw[f]at b;cases b;rw[d]at c;cases c;exact⟨z,k,vs,r,o,es,f,g,d,h⟩
def Fj{P:Program}{w:World}{K:cA}{tg:Expr}(a it:Addr)(o:Obj)(kvs:List (Key×V))(Z:Array DictEntry)(ep:Nat)(Q:o.data = .dict Z ep):Turn P w K tg (rE a o kvs) [it] it (λi h=>h.IsKeyIter it a i ⇑kvs ep) where
 mem:=by simp
 obj:=λi h f b j=>by
  have e:b=it:=by simpa using j
  subst e;let⟨o,e,c,d⟩:=f;exact⟨o,e,λv z=>by rw[d]at z;cases z⟩
 keep:=λi h n f k=>f.at λo e=>k it (by simp) o e
 item:=by
  intro X D M C O i g s S H E I p f J;subst D M C;let⟨L,q⟩:=J;let⟨z,h0,vs,l,r⟩:=WH I L Q;have R:=vz q;let⟨y,U,W,_⟩:=l.get R;let⟨t,u,f2,x,A,B⟩:=p it (by simp);rw[⇑l]at f;refine wpAny_pyNext_dict_item f r (k:=y.1) (v:=y.2) U λN n hk m sb=>?_
  have T:Inv X g S H {s with heap:=n}:=I.turned (t':=s.toks) (λb o j e=>(sb.2 b j).trans e) t u x A B;refine⟨N,rfl,letGo_keyiter (s':={s with heap:=n}) m ⟨kV kvs[i].1,H,T,by rw[W];exact Dv hk,⟨rfl,_,R,rfl⟩,by rw[⇑l];exact m,λb j=>(p b j).1⟩⟩
 done:=by
  intro X D M C O i g s S H E I p f J;subst D M C;let⟨L,q⟩:=J;let⟨z,h0,vs,l,r⟩:=WH I L Q;let⟨t,u,f2,x,A,B⟩:=p it (by simp);rw[⇑l]at f q;exact wpAny_pyNext_dict_end (I.ok.hd O) f r (List.getElem?_eq_none q) λn Y=>⟨rfl,I.turned (t':=s.toks) (λb o j e=>Y b o j e) t u x A B⟩
 self:=λ_ _ _ _ _ f h=>wpAny_pyIter_keyiter f h
def oX(tl:TE):TI:=λσ H R=>tl σ H λx H1=>∃a o kvs,x = .ref a/\H1 a=some (.gD o (.dK kvs))/\R (rE a o kvs) H1
def ID{l:Expr}{n:TE}(y:PE X l n):PI X tg l (oX n):=by
 intro g s E H R I h;refine cM (y g s E H _ I h) λv i z_=>?_;obtain⟨x,j,c,C,B⟩:=z_
 let⟨a,o,f,e,m,q⟩:=B;subst e;cases C;let⟨A,Z,Z,Z,Z,J,t,r,d,Z,k,Z⟩:=(show cD X.prog X.w j i.heap a (.gD o (.dK f))from c.cJ a _ m)
 rw[A]at d;cases d;let⟨z,u,K,D,p⟩:=WH c m k;refine wpAny_pyIter_dict u p ?_;rw[<-⇑D];refine⟨i.heap.objs.size,[i.heap.objs.size],_,_,j,rfl,c.kept (t':=i.toks) λb o e=>vJ _ e,Fj a _ o f t r k,⟨_,Heap.get?_push_size _ rfl,rfl,rfl⟩,λb w=>?_,q⟩;have e:b=i.heap.objs.size:=by simpa using w
 subst e;exact c.gC (vb _) (c.cJ.fresh (vb _))
end
def Fo{a:Addr}{o:Obj}{kvs:List (Key×V)}{k:Nat}{ci:L6}{g:TG}{s:TT}{r:TE}{t:St}{H:Hp}{Z:Addr->N2->Hp->Prop}(d:Nat->N2->Hp->Prop)(u:d 0 [] H)(B:∀i ys H,i<=⇑kvs->d i ys H->H a=some (.gD o (.dK kvs)))
  (C:∀i q ys H,kvs[i]?=some q->d i ys H->g (kV q.1) (dd k ci t) H λc H2=>s c H2 λb h=>if b=true then r c h λv l=>⇑ys<sizeLine/\d (i+1) (ys++[v]) l else d (i+1) ys h)
  (w:∀ys H,d ⇑kvs ys H->⇑ys<=sizeLine/\∀p,H p=none->Z p ys H) :
  ∃W:Nat->Nat->N2->Hp->Prop,(∃m,W 0 m [] H)/\∀i m ys H,W i m ys H->
   ((rE a o kvs).stop i H/\⇑ys<=sizeLine/\∀p,H p=none->Z p ys H)\/
   ((rE a o kvs).go i H/\∃N:N2->Hp->Prop,(∀f H',N f H'->∃n,n<m/\W (i+1) n f H')/\∀x H',(rE a o kvs).lA i H x H'->g x (dd k ci t) H' λc H2=>s c H2 λb h=>
    if b=true then r c h λv l=>⇑ys<sizeLine/\N (ys++[v]) l else N ys h):=by
 refine⟨λi m ys H=>m=⇑kvs-i/\i<=⇑kvs/\d i ys H,⟨⇑kvs,by simp,va _,u⟩,?_⟩;rintro i m ys H ⟨rfl,A,p⟩;have q:=B i ys H A p;by_cases j:i<⇑kvs
 .refine .inr ⟨⟨q,j⟩,d (i+1),λf H' D=>⟨⇑kvs-(i+1),⋯,rfl,j,D⟩,λx H' y=>?_⟩;let⟨e,z,y,rfl⟩:=y;subst e;exact C i z ys _ y p
 .have e:i=⇑kvs:=⋯
  subst e;exact .inl ⟨⟨q,vb _⟩,w ys H p⟩
section
variable{σ:St}{H:Hp}{Q:VK}
def Hh(h:td σ H λx H1=>∃a,x = .ref a/\uL H1 a/\ty σ H1 λy H2=>∃o,dg H2 a y o/\Q (o.getD .cW) H2):nT td ty σ H Q:=h
def LL(h:te σ H λv H1=>∃as:L7,as.Nodup/\(∀b∈as,∃kvs,H1 b=some (.dK kvs))/\∀H2,uK as H1 H2->Q v H2):tI te σ H Q:=h
def Hi{R:It->Hp->Prop}(h:tl σ H λx H1=>∃a o kvs,x = .ref a/\H1 a=some (.gD o (.dK kvs))/\R (rE a o kvs) H1):oX tl σ H R:=h
end
def pI(K:cA)(ta:TE):TE:=λσ H Q=>ta σ H λx H'=>∃k,mB K x H' k/\Q (.bl (!k)) H'
def IC(o:PE X a ta):PE X (.UnaryOp .Not a pos) (pI X.K ta):=by
 intro d s g H Q I h;refine UnaryOp_ (cM (o d s g H _ I h) λv r z_=>?_);obtain⟨x,f,l,q,k,t,p⟩:=z_;refine not_of (wpAny_mono (Dh d r g f x v (λb i=>b=k/\i=f) l q ⟨k,t,rfl,rfl⟩) (λc u n=>?_) λZ Z e=>e);let⟨j,m,rfl,rfl⟩:=n;exact⟨.bl (!c),j,m,rfl,p⟩
def IG{K:cA}{a:TE}{b:St}{H:Hp}{Q:VK}(h:a b H λx H'=>∃k,mB K x H' k/\Q (.bl (!k)) H'):pI K a b H Q:=h
end L2
namespace Rm
open PySem PySem.Spec PyProof.Rows L2
section
variable{κ:Type}[DecidableEq κ]
def Bo(kvs:List (κ×V))(k:κ)(v:V):(putK kvs k v).map (·.1)=if(cO kvs k).isSome then kvs.map (·.1)else kvs.map (·.1)++[k]:=by
 unfold putK;rw[zH];split
 .rw[v4];refine map_congr_left λq j=>?_
  show(if q.1=k then(q.1,v)else q).1=q.1;split<;>rfl
 .rw[vj];rfl
def HR{kvs:List (κ×V)}{k:κ}(h:k∈kvs.map (·.1)):(cO kvs k).isSome=true:=by
 cases e:cO kvs k with
 | none=>exact uf h (BU e)
 | some x=>rfl
def Ls{kvs:List (κ×V)}{k:κ}(v:V)(a:(kvs.map (·.1)).Nodup):((putK kvs k v).map (·.1)).Nodup:=by
 cases e:cO kvs k with
 | none=>exact Ip v a e
 | some x=>rw[Bo,e];exact a
theorem xZ{d:Type}[DecidableEq d]:∀{l m:List d},l.Nodup->(∀x∈l,x∈m)->⇑l<=⇑m
 | [],m,_,_=>va _
 | a::l,m,nd,h=>by
  rw[ur]at nd;have b:=h a vq;have:=xZ (l:=l) (m:=m.erase a) nd.2 λx c=>(List.mem_erase_of_ne (λz:x=a=>nd.1 (by rw[<-z];exact c))).mpr (h x (vp _ c))
  rw[List.length_erase_of_mem b]at this;have:=length_pos_of_mem b;rw[vP];lia
end
noncomputable abbrev Tb:=List (Key×V)
def fJ(B:List Tb)(i:Nat)(h:Int):Prop:=(cO (B.getD i []) (Sum.inl h)).isSome=true
noncomputable def gG(L:List (Nu))(i:Nat):Int:=(L.getD i none).getD 0
noncomputable def Run(L:List (Nu))(B:List Tb):Int->List Pc->Prop
 | _,[]=>True
 | h,q::r=>fJ B q.1 h/\Run L B (gG L q.1) r
noncomputable def iK(L:List (Nu)):Int->List Pc->Int
 | h,[]=>h
 | _,q::r=>iK L (gG L q.1) r
def Run.snoc:∀{r:List Pc} {h:Int},Run L B h r->fJ B q.1 (iK L h r)->Run L B h (r++[q]):=by
 intro a
 induction a with
 | nil=>
  intro j j k;exact⟨k,trivial⟩
 | cons _ _ ih0=>
  intro j h k;exact⟨h.1,ih0 h.2 k⟩
theorem Xa:∀{r:List Pc} {h:Int},iK L h (r++[q])=gG L q.1
 | [],_=>rfl
 | _::r,_=>Xa (r:=r)
def Run.mono(g:∀i h,fJ B i h->fJ B' i h):∀{r:List Pc} {h:Int},Run L B h r->Run L B' h r:=by
 intro a
 induction a with
 | nil=>
  intro q q;exact trivial
 | cons _ _ ih0=>
  intro q h;exact⟨g _ _ h.1,ih0 h.2⟩
def DI(f:Int)(L:List (Nu))(k:Key):Prop:=∃h,k=Sum.inl h/\(h=f\/∃j,L.getD j none=some h)
structure KB(f:Int)(L:List (Nu))(B:List Tb):Prop where
 nd:∀i,((B.getD i []).map (·.1)).Nodup
 al:∀i,∀q∈B.getD i [],DI f L q.1
def KB.len(h:KB f L B)(i:Nat):⇑(B.getD i [])<=⇑L+1:=by
 have:=xZ (m:=(f::L.map λo=>o.getD 0).map λh=>(Sum.inl h:Key)) (h.nd i) λk a=>by
  let⟨q,b,rfl⟩:=vK.mp a;let⟨x,e,z⟩:=h.al i q b;rw[e];refine vK.mpr ⟨x,?_,rfl⟩;rcases z with rfl | ⟨j,z⟩
  .exact vq
  .refine vp _ (vK.mpr ⟨L.getD j none,?_,by rw[z];rfl⟩);rw[vy]at z|-;cases e:L[j]? with
   | none=>rw[e]at z;cases z
   | some o=>exact vm e
 rw[vt,vt,vP,vt]at this;exact this
noncomputable def fN(B:List Tb)(j:Nat)(h:Int):List Tb:=B.set j (putK (B.getD j []) (Sum.inl h) (.bl true))
def Wj(a:j<⇑B):(fN B j h).getD j []=putK (B.getD j []) (Sum.inl h) (.bl true):=by
 unfold fN;rw[vy,List.getElem?_set_self a];rfl
def KG(a:i≠j):(fN B j h).getD i []=B.getD i []:=by
 unfold fN;rw[vy,List.getElem?_set_ne (Ne.symm a),<-vy]
def BK(a:j<⇑B):fJ (fN B j h) j h:=by
 unfold fJ;rw[Wj a,YG,vd rfl];rfl
def E1(a:j<⇑B)(i:Nat)(x:Int)(k:fJ B i x):fJ (fN B j h) i x:=by
 by_cases e:i=j
 .subst e;unfold fJ;rw[Wj a,YG];split
  .rfl
  .exact k
 .unfold fJ;rw[KG e];exact k
def KB.put{f:Int}{L:List (Nu)}{B:List Tb}(k:KB f L B){j:Nat}{h:Int}(l:j<⇑B)(a:h=f\/∃j,L.getD j none=some h):KB f L (fN B j h):=by
 refine⟨λi=>?_,λi q b=>?_⟩
 .by_cases e:i=j
  .subst e;rw[Wj l];exact Ls _ (k.nd i)
  .rw[KG e];exact k.nd i
 .by_cases e:i=j
  .subst e;rw[Wj l]at b;have:q.1∈(putK (B.getD i []) (Sum.inl h) (.bl true)).map (·.1):=vK.mpr ⟨q,b,rfl⟩;rw[Bo]at this;split at this
   .let⟨g,c,d⟩:=vK.mp this;rw[<-d];exact k.al i g c
   .rcases vh.mp this with z | z
    .let⟨g,c,d⟩:=vK.mp z;rw[<-d];exact k.al i g c
    .rw[vo.mp z];exact⟨h,rfl,a⟩
  .rw[KG e]at b;exact k.al i q b
structure mS(H0:Hp)(l:Addr)(as:L7)(B:List Tb)(H:Hp):Prop where
 sm:bX H0 H
 el:H l=some (.lst (as.map V.ref))
 at':cg (λa kvs=>H a=some (.dK kvs)) as B
 nd:as.Nodup
 nw:∀a∈as,H0 a=none
 nl:H0 l=none
def mS.more{a:Hp}{H H':Hp}(b:mS a l as B H)(s:bX H H'):mS a l as B H':=
 ⟨b.sm.trans s,s _ _ b.el,cg.mono b.at' λq q h=>s _ _ h,b.nd,b.nw,b.nl⟩
def mS.put{m:Hp}{H:Hp}(b:mS m l as B H)(g:as[j]?=some a)(h:Int) :
  mS m l as (fN B j h) (upd H a (.dK (putK (B.getD j []) (Sum.inl h) (.bl true)))):=by
 have s:l≠a:=λz=>by
  have k:j<⇑B:=by rw[<-b.at'.1];exact(vx.mp g).1
  have:=b.at'.2 j a _ g (vz k);rw[<-z,b.el]at this;cases this
 refine⟨λc u d=>(jg λz=>?_).trans (b.sm _ _ d),(jg s).trans b.el,⟨by rw[b.at'.1,fN,length_set],λi c x d f=>?_⟩,b.nd,b.nw,b.nl⟩
 .have:=b.nw a (vm g);rw[z,this]at d;cases d
 .by_cases e:i=j
  .subst e;rw[g]at d;cases d;refine jw.trans ?_;have k:=(vx.mp f).1;unfold fN at f k;rw[length_set]at k;rw[List.getElem?_set_self k]at f;rw[vL f]
  .have r:c≠a:=λz=>by
    have p:=(vx.mp d)
    have q:=(vx.mp g)
    let⟨t,n⟩:=p;let⟨v,o⟩:=q;exact e ((List.getElem_inj b.nd).mp (n.trans (z.trans o.symm)))
   refine(jg r).trans ?_;unfold fN at f;rw[List.getElem?_set_ne (Ne.symm e)]at f;exact b.at'.2 i c x d f
structure i6(f:Int)(L:List (Nu))(PC:List (List Pc))(B:List Tb):Prop where
 ln:⇑B=PC.length
 kb:KB f L B
 tp:fJ B (PC.length-1) f
 cl:∀i,i<PC.length->∀h,fJ B i h->Run L B h (PC.getD i [])
structure iR(f:Int)(L:List (Nu))(gs:L5)(PC:List (List Pc)):Prop where
 n1:1<=PC.length
 LS:PC.length<=61
 lL:⇑L=PC.length
 lg:⇑gs=PC.length
 f0:0<=f/\f<=10^18
 lb:∀i v,L.getD i none=some v->0<=v/\v<=10^18
 pc:∀i,∀q∈PC.getD i [],q.1<i/\(L.getD q.1 none).isSome=true/\fS gs q
 p8:∀i,⇑(PC.getD i [])<=8
 rs:∀i v,L.getD i none=some v->PC.getD i []=[]->1<=gs∘i/\gs∘i<=10^18
def oQ(H:Hp)(as:L7)(B:List Tb):Prop:=cg (λa kvs=>∃o,H a=some (.gD o (.dK kvs))) as B
inductive gI(vs:N2)(H:Hp)(Q:VK)(xk:XK):Prop
 | mk (pp pl:Addr) (pa:L7) (f:Int) (L:List (Nu)) (gs:L5) (PC:List (List Pc)) (_:vs=[.ref pp,.ref pl,.int f]) (_:H pp=some (.lst (pa.map V.ref))) (_:hY H pa PC) (_:H pl=some (.lst (L.map dD))) (_:iR f L gs PC) (_:∀(b:Addr) (ba:L7) (B:List Tb) (H':Hp),bX H H'->H b=none->H' b=some (.lst (ba.map V.ref))->oQ H' ba B->i6 f L PC B->Q (.ref b) H'):gI vs H Q xk
structure Ta where
 s:Addr
 l:Addr
 p:Addr
 b:Addr
 pa:L7
 ba:L7
noncomputable def iH(z:Ta)(f:Int):List (Str×V):=cx "begun" (.ref z.b) (cx "pieces" (.ref z.p) (cx "left" (.ref z.l) (cx "sizes" (.ref z.s) (cx "first" (.int f) []))))
section
variable{z:Ta}{f:Int}
def Bm:(iH z f).lookup ("begun" : Str)=↥z.b:=JB
def xT:(iH z f).lookup ("pieces" : Str)=↥z.p:=(jE ∅).trans JB
def XJ:(iH z f).lookup ("left" : Str)=↥z.l:=(jE ∅).trans ((jE ∅).trans JB)
def Yj:(iH z f).lookup ("sizes" : Str)=↥z.s:=(jE ∅).trans ((jE ∅).trans ((jE ∅).trans JB))
def GG:(iH z f).lookup ("first" : Str)= ~~~f:=(jE ∅).trans ((jE ∅).trans ((jE ∅).trans ((jE ∅).trans JB)))
def Lb{m:Str}(a:¬m = "begun")(b:¬m = "pieces")(c:¬m = "left")(d:¬m = "sizes")(e:¬m = "first"):(iH z f).lookup m=none:=(jE a).trans ((jE b).trans ((jE c).trans ((jE d).trans (jE e))))
end
structure gd(C:Addr)(H:Hp)(a:Addr)(z:Ta)(f:Int)(L:List (Nu))(gs:L5)(PC:List (List Pc))(B:List Tb):Prop where
 ob:∃dx,H a=some (.ins C dx (iH z f))
 hs:H z.s=some (.lst (gs.map V.int))
 hl:H z.l=some (.lst (L.map dD))
 hp:H z.p=some (.lst (z.pa.map V.ref))
 pa:hY H z.pa PC
 hb:H z.b=some (.lst (z.ba.map V.ref))
 ba:oQ H z.ba B
def gd.same{H H':Hp}(A:gd C H a z f L gs PC B)(s:bX H H'):gd C H' a z f L gs PC B:=
 ⟨A.ob.imp λi h=>s _ _ h,s _ _ A.hs,s _ _ A.hl,s _ _ A.hp,cg.mono A.pa λa e ⟨c,d,g⟩=>⟨c,s _ _ d,cg.mono g λb q h=>s _ _ h⟩,s _ _ A.hb,cg.mono A.ba λa k ⟨o,h⟩=>⟨o,s _ _ h⟩⟩
noncomputable def cR(E:L0)(k:Int):List (Nu):=E.map λe=>e.lookup k
noncomputable def fM(ps:N1)(gs:L5)(L:List (Nu)):List (List Pc):=ps.map λp=>(de gs p.2 (cG ps p.2)).filter λq=>(L.getD q.1 none).isSome
inductive iA(C:Addr)(vs:N2)(H:Hp)(Q:VK)(xk:XK):Prop
 | mk (a dx b pl pp:Addr) (las pas:L7) (ls:L4) (ps:N1) (gs:L5) (hs:L1) (x:Str) (f:Int) (k:Nat) (_:vs=[.ref a,.ref b,.str x]) (_:H a=some (.ins C dx [])) (_:cH H b pl pp las pas ls ps) (_:Sn ls ps gs hs) (_:ls[k]?=some (x,f)) (_:∀(z:Ta) (E:L0) (B:List Tb) (H':Hp),(∀c u,c≠a->H c=some u->H' c=some u)->⇑E=⇑ps->cI ls ps E->iR f (cR E (k:Nat)) gs (fM ps gs (cR E (k:Nat)))->gd C H' a z f (cR E (k:Nat)) gs (fM ps gs (cR E (k:Nat))) B->i6 f (cR E (k:Nat)) (fM ps gs (cR E (k:Nat))) B->Q .cW H'):iA C vs H Q xk
noncomputable def pj(L:List (Nu))(PC:List (List Pc))(i:Nat):Bool:=(L.getD i none).isSome&&(PC.getD i []).isEmpty
inductive gQ(C:Addr)(vs:N2)(H:Hp)(Q:VK)(xk:XK):Prop
 | mk (a:Addr) (z:Ta) (f:Int) (L:List (Nu)) (gs:L5) (PC:List (List Pc)) (B:List Tb) (i:Nat) (_:vs=[.ref a,.int (i:Nat)]) (_:gd C H a z f L gs PC B) (_:iR f L gs PC) (_:i<PC.length) (_:Q (.bl (pj L PC i)) H):gQ C vs H Q xk
def C5(h:1<=n)(e:⇑xs=n)(a:xs[n-1]?=some v):eW xs (-1)=some v:=by
 have:xs=xs.take (n-1)++[v]:=by
  rw[<-take_snoc a,show n-1+1=⇑xs by lia,v3]
 rw[this];exact Gu _ _
def mS.last{d:Hp}{H:Hp}(b:mS d l as B H)(c:j<⇑B):∃a,as[j]?=some a/\H a=some (.dK (B.getD j [])):=by
 let⟨a,e,f⟩:=b.at'.get (vz c);exact⟨a,e,by rw[vy,vz c];exact f⟩
def KB.none:KB f L (List.replicate n []):=by
 have e:∀i,(List.replicate n ([]:Tb)).getD i []=[]:=λi=>by
  rw[vy,List.getElem?_replicate];split<;>rfl
 exact⟨λi=>by rw[e];exact nodup_nil,λi q a=>by rw[e]at a;exact nomatch a⟩
def Br:⇑(fN B j h)=⇑B:=length_set ..
def Kv(h:(L.getD i none).isSome=true):L.getD i none=some (gG L i)/\L[i]?=some (some (gG L i)):=by
 unfold gG;rw[vy]at h|-;cases e:L[i]? with
 | none=>rw[e]at h;cases h
 | some o=>
  rw[e]at h;cases o with
  | none=>cases h
  | some v=>exact⟨rfl,rfl⟩
theorem Cy(a:h=f\/∃j,L.getD j none=some h):∀{r:List Pc},(∀q∈r,(L.getD q.1 none).isSome=true)->iK L h r=f\/∃j,L.getD j none=some (iK L h r)
 | [],_=>a
 | q::r,hq=>Cy (.inr ⟨q.1,(Kv (hq q vq)).1⟩) λc b=>hq c (vp _ b)
def Zt{e:Nq}{k v:Int}(h:e.lookup k=some v):(k,v)∈e:=by
 induction e with
 | nil=>cases h
 | cons q r ih=>
  let⟨a,b⟩:=q;rw[lookup_cons]at h;by_cases c:k=a
  .subst c;rw[beq_self_eq_true]at h;cases h;exact vq
  .rw[show(k==a)=false from beq_false_of_ne c]at h;exact vp _ (ih h)
def Zv{e:Nq}{k v:Int}(c:(e.map (·.1)).Pairwise (· < ·))(h:(k,v)∈e):e.lookup k=some v:=by
 induction e with
 | nil=>exact nomatch h
 | cons q r ih=>
  let⟨a,b⟩:=q;rw[v7,vU]at c;rw[lookup_cons];rcases mem_cons.mp h with z | z
  .cases z;rw[beq_self_eq_true]
  .have:a<k:=c.1 k (vK.mpr ⟨_,z,rfl⟩);rw[show(k==a)=false from beq_false_of_ne ⋯];exact ih c.2 z
def EI(e:Nq)(k:Int):(cO (e.map hG) (Sum.inl k)).getD .cW=dD (e.lookup k):=by
 induction e with
 | nil=>rfl
 | cons q r ih=>
  let⟨a,b⟩:=q;rw[lookup_cons];by_cases c:k=a
  .subst c;rw[beq_self_eq_true];exact congrArg (Option.getD · V.cW) (qU (p:=hG (k,b)) rfl)
  .rw[show(k==a)=false from beq_false_of_ne c,v7,qT (p:=hG (a,b)) (λz=>c (Sum.inl.inj z).symm)];exact ih
def wS(i:Nat):(cR E k).getD i none=(E.getD i []).lookup k:=by
 unfold cR;rw[vy,vy,vv];cases E[i]?<;>rfl
def wc(i:Nat):(fM ps gs L).getD i []=(cy ps gs i).filter λq=>(L.getD q.1 none).isSome:=by
 unfold fM cy;rw[vy,vv];cases ps[i]?<;>rfl
def Iy(h:j∈is)(d:∀k x,f = .again k x->⇑is<=1):∃q∈de gs f is,q.1=j:=by
 unfold de;split
 .rename_i k x;cases is with
  | nil=>exact nomatch h
  | cons i r=>
   have:=d k x rfl;rw[vP]at this;have e:r=[]:=length_eq_zero_iff.mp ⋯;subst e;exact⟨_,vq,(vo.mp h).symm⟩
 .have:∀(is:L6) (b:Int),j∈is->∃q∈cT gs is b,q.1=j:=by
   intro is
   induction is with
   | nil=>intro b h;exact nomatch h
   | cons i r ih=>
    intro b h;unfold cT;rcases mem_cons.mp h with rfl | h
    .exact⟨_,vq,rfl⟩
    .let⟨q,a,c⟩:=ih _ h;exact⟨q,vp _ a,c⟩
  exact this is 0 h
 .exact⟨_,vK.mpr ⟨j,h,rfl⟩,rfl⟩
section
variable{ls:L4}{ps:N1}{gs:L5}{hs:L1}{E:L0}
def Sn.strand(N:Sn ls ps gs hs)(t:⇑E=⇑ps)(r:cI ls ps E){k:Nat}{x:Str}{f:Int}(I:ls[k]?=some (x,f)):iR f (cR E (k:Nat)) gs (fM ps gs (cR E (k:Nat))):=by
 have g:⇑(fM ps gs (cR E (k:Nat)))=⇑ps:=vt _;have J:⇑(cR E (k:Nat))=⇑ps:=(vt _).trans t;have u:∀{i v},(cR E (k:Nat)).getD i none=some v->i<⇑ps:=λ{i v} h=>by
  rcases Nat.lt_or_ge i ⇑ps with z | z
  .exact z
  .rw[vy,List.getElem?_eq_none ⋯]at h;cases h
 refine⟨by rw[g];exact N.ne,by rw[g];exact N.s.w.l0,J.trans g.symm,N.s.gl.trans g.symm,N.uE _ (vm I),λi v h=>?_,λi q c=>?_,λi=>?_,λi v h B=>?_⟩
 .have o:=u h;rw[wS]at h;exact Ai N t r o _ (Zt h)
 .rw[wc]at c;let⟨s,C⟩:=vO.mp c;exact⟨zK N.s.w s,C,N.fk s⟩
 .rw[wc];refine vV (length_filter_le ..) ?_;unfold cy;split
  .rename_i p a;exact Kw (N.i8 a)
  .exact va _
 .have o:=u h;have D:E[i]?=some (E.getD i []):=by rw[vy,vz ⋯];rfl
  have a:=vz o;rw[wS]at h;rcases(((r i _ _ a D).2 _ _).mp (Zt h))with⟨L,j,w,l,H,_⟩ | ⟨y,n,e,_⟩
  .exfalso;have d:j∈cG ps ps[i].2:=by rw[l];simp
   have M:=N.s.w.cK a d;have m:E[j]?=some (E.getD j []):=by rw[vy,vz ⋯];rfl
   have K:=(r j _ _ (vz ⋯) m).1;let⟨q,c,A⟩:=Iy (gs:=gs) (f:=ps[i].2) d (λk x e=>by unfold cG;rw[e];exact vb _);have:q∈(fM ps gs (cR E (k:Nat))).getD i []:=by
    rw[wc];refine vO.mpr ⟨?_,?_⟩
    .unfold cy;rw[a];exact c
    .rw[A,wS,Zv K H];rfl
   rw[B]at this;exact nomatch this
  .have c:ps[i]?=some (ps[i].1,.rise y v n):=by rw[a,<-e]
   have b:=N.uG i _ y v n c;have:=(N.s.ln i _ a).2 n (by rw[e];rfl);rw[<-this];exact b.2.2
end
def i6.key{f:Int}{L:List (Nu)}{gs:L5}{PC:List (List Pc)}{B:List Tb}(O:i6 f L PC B)(S:iR f L gs PC){i:Nat}{q:Key×V}(h:q∈B.getD i []):∃x,q.1=Sum.inl x/\0<=x/\x<=10^18/\fJ B i x:=by
 let⟨x,e,z⟩:=O.kb.al i q h;refine⟨x,e,?_⟩;have a:fJ B i x:=by
  unfold fJ;rw[<-e];exact HR (vK.mpr ⟨q,h,rfl⟩)
 rcases z with rfl | ⟨j,z⟩
 .exact⟨S.f0.1,S.f0.2,a⟩
 .exact⟨(S.lb j x z).1,(S.lb j x z).2,a⟩
def FU(g:Int->V):∀(ks:L5) (acc:Tb) (h:Int),cO (cS acc (ks.map λk=>rg (k,g k))) (Sum.inl h)=if h∈ks then some (g h)else cO acc (Sum.inl h):=by
 intro a
 induction a with
 | nil=>
  intro acc h;rw[vc (λz=>nomatch z)];rfl
 | cons k ks ih0=>
  intro acc h;show cO (cS (putK acc (Sum.inl k) (g k)) (ks.map λk=>rg (k,g k))) (Sum.inl h)=_;rw[ih0 _ h];by_cases c:h∈ks
  .rw[vd c,vd (vp _ c)]
  .rw[vc c,YG]
   simp_all
def sX(o:Nu):(!decide (dD o=V.cW))=o.isSome:=by
 cases o with
 | none=>rw[vG (show dD none=V.cW from rfl)];rfl
 | some h=>rw[vH (show¬dD (some h)=V.cW from λz=>by cases z)];rfl
noncomputable def fU:Key->Int
 | .inl x=>x
 | .inr _=>0
def He{c d:Type}{a:List c}{b:List d}(h:⇑a=⇑b):a.isEmpty=b.isEmpty:=by
 cases a with
 | nil=>cases b with
  | nil=>rfl
  | cons y s=>simp at h
 | cons x r=>cases b with
  | nil=>simp at h
  | cons y s=>rfl
def Hc{a:Type}{l:List a}{u:Nat}{y:a}(h:l[u]?=some y):l.drop u=y::l.drop (u+1):=by
 let⟨b,e⟩:=vx.mp h;rw[List.drop_eq_getElem_cons b,e]
section
variable{ls:L4}{ps:N1}{E:L0}
def Lq(e:cI ls ps E)(g:⇑E=⇑ps){i:Nat}{p:Str×Fm}(a:ps[i]?=some p){k v:Int}:(cR E k).getD i none=some v↔gY ls ps E p.2 k v:=by
 have f:=(vx.mp a).1;have c:E[i]?=some (E.getD i []):=by rw[vy,vz ⋯];rfl
 let⟨d,b⟩:=e i p _ a c;rw[wS];exact⟨λh=>(b k v).mp (Zt h),λh=>Zv d ((b k v).mpr h)⟩
end
section
variable(ls:L4)(ps:N1)(gs:L5)(L:List (Nu))(k:Nat)
noncomputable def iV(h:Int)(x:Nat×Int):Int:=
 if gs∘x.1<=x.2 then(L.getD x.1 none).getD h
 else match ps[x.1]? with
  | some (_,.rise y v n)=>if cP (bW ls) y=k then Rp.ramp h v n x.2 else h
  | _=>h
noncomputable def dU(p:Nat)(h s:Int):Int:=(reach ps gs p s).foldl (iV ls ps gs L k) h
end
section
variable{ls:L4}{ps:N1}{gs:L5}{hs:L1}{E:L0}{k:Nat}
def HV(N:Sn ls ps gs hs)(s:⇑E=⇑ps)(l:cI ls ps E){h:L5}(a:⇑h=⇑ls)(r:k<⇑ls){x:Nat×Int}(i:x.1<⇑ps) :
  ⇑(fL ls ps gs E h x)=⇑ls/\(fL ls ps gs E h x).getD k 0=iV ls ps gs (cR E (k:Nat)) k (h∘k) x:=by
 have m:E[x.1]?=some (E.getD x.1 []):=by rw[vy,vz ⋯];rfl
 let⟨j,t⟩:=l x.1 _ _ (vz i) m;have b:∀q∈E.getD x.1 [],0<=q.1:=λq o=>(Yi N.s.w ⋯ l x.1 q o).1
 have g:h[k]?=some (h∘k):=by rw[vy,vz ⋯];rfl
 unfold fL iV;by_cases c:gs∘x.1<=x.2
 .rw[vd c,vd c];show(dY (E.getD x.1 []) h).length=_/\(dY (E.getD x.1 []) h).getD k 0=_;refine⟨(Ht _ _).trans a,?_⟩;rw[wS,vy];cases e:(E.getD x.1 []).lookup (k:Int)with
  | none=>
   rw[BN b (λv p=>by rw[Zv j p]at e;cases e),g];rfl
  | some v=>
   rw[IK j b (Zt e) ⋯];rfl
 .rw[vc c,vc c];rw[vz i];cases hp:ps[x.1]with
  | mk y f=>
   cases f with
   | rise z v n=>
    show(h.set (cP (bW ls) z) (Rp.ramp (h∘(cP (bW ls) z)) v n x.2)).length=_/\(h.set (cP (bW ls) z) (Rp.ramp (h∘(cP (bW ls) z)) v n x.2)).getD k 0=if cP (bW ls) z=k then _ else _
    refine⟨(length_set ..).trans a,?_⟩;by_cases d:cP (bW ls) z=k
    .rw[vd d,d,vy,List.getElem?_set_self ⋯];rfl
    .rw[vc d,vy,List.getElem?_set_ne d,<-vy]
   | hold n=>exact⟨a,rfl⟩
   | ring z n=>exact⟨a,rfl⟩
   | row z=>exact⟨a,rfl⟩
   | side z=>exact⟨a,rfl⟩
   | again z n=>exact⟨a,rfl⟩
def sx(N:Sn ls ps gs hs)(g:⇑E=⇑ps)(i:cI ls ps E)(d:k<⇑ls):∀{xs:L3} {h:L5},⇑h=⇑ls->(∀x∈xs,x.1<⇑ps)->
  (xs.foldl (fL ls ps gs E) h).getD k 0=xs.foldl (iV ls ps gs (cR E (k:Nat)) k) (h∘k):=by
 intro j
 induction j with
 | nil=>
  intro h q q;exact rfl
 | cons x xs ih0=>
  intro h e a;let⟨b,c⟩:=HV N g i e d (a x vq);rw[v5,v5,ih0 b λy f=>a y (vp _ f),c]
def Xf(N:Sn ls ps gs hs)(d:⇑E=⇑ps)(e:cI ls ps E)(a:ls[k]?=some (x,f))(t:Int):(cL ls ps gs E t).getD k 0=dU ls ps gs (cR E (k:Nat)) k (⇑ps-1) f t:=by
 have c:=(vx.mp a).1;have g:=N.ne;unfold cL dU;rw[sx N d e c (vt _) λy b=>Yt N.s.w ⋯ b];congr 1;rw[vy,vv,a];rfl
structure Lm(ls:L4)(ps:N1)(gs:L5)(L:List (Nu))(k:Nat):Prop where
 w:fY ls ps
 g:∀i,i<⇑ps->1<=gs∘i/\gs∘i<=10^60
 ln:∀(i:Nat) (p:Str×Fm),ps[i]?=some p->∀gg,iQ p.2 ((cG ps p.2).map λj=>gs∘j) gg->gg=gs∘i
 rs:∀(i:Nat) (y z:Str) (v n:Int),ps[i]?=some (y,.rise z v n)->gs∘i=n/\L.getD i none=if cP (bW ls) z=k then some v else none
 lf:∀(i:Nat) (p:Str×Fm),ps[i]?=some p->p.2.ns=[]->(∀z v n,p.2≠.rise z v n)->L.getD i none=none
 ed:∀(i:Nat) (p:Str×Fm),ps[i]?=some p->p.2.ns≠[]->∀h:Int,(L.getD i none).getD h=(cG ps p.2).foldl (λh j=>(L.getD j none).getD h) h
 no:∀(i:Nat) (p:Str×Fm),ps[i]?=some p->L.getD i none=none->∀j∈cG ps p.2,L.getD j none=none
 sd:∀(i:Nat) (p:Str×Fm) (qs:L8),ps[i]?=some p->p.2 = .side qs->∀pre j post,cG ps p.2=pre++j::post->(L.getD j none).isSome=true->(∀j'∈pre,L.getD j' none=none)/\∀j'∈post,L.getD j' none=none
 k1:∀(i:Nat) (y z:Str) (n:Int),ps[i]?=some (y,.again n z)->1<=n
 pk:∀(i:Nat) (q:Pc),q∈cy ps gs i->fS gs q
end
section
variable{ls:L4}{ps:N1}{gs:L5}{L:List (Nu)}{k:Nat}
def BW(a:ps[i]?=some p)(h:p.2.ns=[]):cy ps gs i=[]:=by
 unfold cy;rw[a];show de gs p.2 (p.2.ns.map _)=[]
 rw[h];unfold de;split<;>rfl
def Zs(p:Nat)(h:Int)(a:gs∘p<=s):dU ls ps gs L k p h s=(L.getD p none).getD h:=by
 unfold dU;rw[JE (.inl a)];show iV ls ps gs L k h (p,s)=_;unfold iV;rw[vd a]
def Aj(M:Lm ls ps gs L k):∀(p:Nat),p<⇑ps->L.getD p none=none->∀(s h:Int),dU ls ps gs L k p h s=h:=by
 intro p
 induction p using Nat.strongRecOn with
 | ind p ih=>
  intro o g s h;have a:=vz o;by_cases c:gs∘p<=s\/cy ps gs p=[]
  .rcases c with c | c
   .rw[Zs p h c,g];rfl
   .by_cases j:gs∘p<=s
    .rw[Zs p h j,g];rfl
    .unfold dU;rw[JE (.inr c)];show iV ls ps gs L k h (p,s)=h;unfold iV;rw[vc j,a];cases b:ps[p]with
     | mk y f=>
      cases f with
      | rise z v n=>
       have:=(M.rs p y z v n (by rw[a,b])).2;rw[g]at this;show(if cP (bW ls) z=k then _ else h)=h;rw[vc λe=>by rw[vd e]at this;cases this]
      | hold n=>rfl
      | ring z n=>rfl
      | row z=>rfl
      | side z=>rfl
      | again z n=>rfl
  .unfold dU;rw[Qi M.w c,WG];have:∀(d:L3) (h:Int),(∀x∈d,x.1<p/\L.getD x.1 none=none)->d.foldl (λh x=>(reach ps gs x.1 x.2).foldl (iV ls ps gs L k) h) h=h:=by
    intro d
    induction d with
    | nil=>intro h Z;rfl
    | cons x d ihx=>
     intro h i;let⟨l,m⟩:=i x vq;rw[v5];have:(reach ps gs x.1 x.2).foldl (iV ls ps gs L k) h=h:=ih x.1 l ⋯ m x.2 h;rw[this];exact ihx h λy r=>i y (vp _ r)
   refine this _ h λx i=>?_
   let⟨q,b,e⟩:=XX i;have t:=zK M.w b;rw[e];refine⟨t,?_⟩;unfold cy at b;rw[a]at b;exact M.no p _ a g q.1 (Yn b)
def Wg(M:Lm ls ps gs L k)(c:¬(gs∘p<=s\/cy ps gs p=[])):dU ls ps gs L k p h s=(eV gs s (cy ps gs p)).foldl (λh x=>dU ls ps gs L k x.1 h x.2) h:=by
 unfold dU;rw[Qi M.w c,WG]
noncomputable def RF(ls:L4)(ps:N1)(gs:L5)(L:List (Nu))(k:Nat)(is:L6)(b h t:Int):Int:=(eV gs t (cT gs is b)).foldl (λh x=>dU ls ps gs L k x.1 h x.2) h
noncomputable def ib(L:List (Nu))(q:Pc):Bool:=(L.getD q.1 none).isSome
end
section
variable{ls:L4}{ps:N1}{gs:L5}{L:List (Nu)}{k:Nat}{J:Nat->Int->Option Int}{m:Int}
def xO(M:Lm ls ps gs L k){f:Nat->Int}:∀(a:L6) (h:Int),(∀j∈a,j<⇑ps/\L.getD j none=none)->a.foldl (λh j=>dU ls ps gs L k j h (f j)) h=h:=by
 intro g
 induction g with
 | nil=>
  intro q q;exact rfl
 | cons j a ih0=>
  intro h b;let⟨c,d⟩:=b j vq;rw[v5,Aj M j c d];exact ih0 h λi e=>b i (vp _ e)
def getD_none:∀(a:L6) (h:Int),(∀j∈a,L.getD j none=none)->a.foldl (λh j=>(L.getD j none).getD h) h=h:=by
 intro d
 induction d with
 | nil=>
  intro q q;exact rfl
 | cons j a ih0=>
  intro h b;rw[v5,b j vq];exact ih0 h λi c=>b i (vp _ c)
def we{a:List Pc}(h:∀q∈a,L.getD q.1 none=none):a.filter (ib L)=[]:=
 List.filter_eq_nil_iff.mpr λq b=>by unfold ib;rw[h q b];exact vF
theorem WE:∀(l:L5),l≠[]->∃x∈l,∀y∈l,y<=x
 | [],h=>uf rfl h
 | [x],_=>⟨x,vq,λy a=>by rw[vo.mp a];exact vA _⟩
 | x::z::r,_=>by
  let⟨w,d,b⟩:=WE (z::r) (cons_ne_nil _ _);by_cases c:w<=x
  .refine⟨x,vq,λy a=>?_⟩;rcases mem_cons.mp a with rfl | a
   .exact vA _
   .have:=b y a;lia
  .refine⟨w,vp _ d,λy a=>?_⟩;rcases mem_cons.mp a with rfl | a
   .lia
   .exact b y a
end
section
variable{ls:L4}{ps:N1}{gs:L5}{hs:L1}{E:L0}{k:Nat}
theorem xV{L:List (Nu)}:∀{is:L6},(∃j∈is,(L.getD j none).isSome=true)->∃b j a v,is=b++j::a/\L.getD j none=some v/\∀f∈a,L.getD f none=none
 | [],⟨j,d,_⟩=>nomatch d
 | i::r,h=>by
  by_cases c:∃j∈r,(L.getD j none).isSome=true
  .let⟨b,j,a,v,e,l,m⟩:=xV c;exact⟨i::b,j,a,v,by rw[e];rfl,l,m⟩
  .let⟨j,d,k⟩:=h;rcases mem_cons.mp d with rfl | d
   .let⟨v,n⟩:=Option.isSome_iff_exists.mp k;exact⟨[],j,r,v,rfl,n,λf g=>by
     cases e:L.getD f none with
     | none=>rfl
     | some w=>exact uf ⟨f,g,by rw[e];rfl⟩ c⟩
   .exact uf ⟨j,d,k⟩ c
def XU(j:Nat){a v:Int}(h:(cR E a).getD j none=some v):(a,v)∈E.getD j []:=by
 rw[wS]at h;exact Zt h
def Sn.lm(N:Sn ls ps gs hs)(S:⇑E=⇑ps)(Q:cI ls ps E):Lm ls ps gs (cR E (k:Nat)) k:=by
 have s:∀{i:Nat} {p:Str×Fm},ps[i]?=some p->∀{v:Int},(cR E (k:Nat)).getD i none=some v↔gY ls ps E p.2 (k:Nat) v:=λg=>Lq Q S g
 have T:∀i,i<⇑ps->((E.getD i []).map (·.1)).Pairwise (· < ·):=λi K=>(Q i _ _ (vz K) (by rw[vy,vz ⋯];rfl)).1
 have C:∀{J m b:L6} {j:Nat} {v:Int},J=m++j::b->(cR E (k:Nat)).getD j none=some v->(∀d∈b,(cR E (k:Nat)).getD d none=none)->(∀d∈J,d<⇑ps)->eZ E J (k:Nat) v:=λ{J m b j v} e Z h2 hl=>⟨m,j,b,e,XU j Z,λd f U M=>by
  have:=Zv (T d (hl d (by rw[e];exact mem_append_right _ (vp _ f)))) M;rw[<-wS,h2 d f]at this;cases this⟩
 have B:∀{i:Nat} {p:Str×Fm},ps[i]?=some p->∀j∈cG ps p.2,j<⇑ps:=λ{i p} g j D=>by
  have:=N.s.w.cK g D;have:=(vx.mp g).1;lia
 have o:∀{i:Nat} {p:Str×Fm},ps[i]?=some p->(cR E (k:Nat)).getD i none=none->∀j∈cG ps p.2,(cR E (k:Nat)).getD j none=none:=λ{i p} g h j D=>by
  cases e:(cR E (k:Nat)).getD j none with
  | none=>rfl
  | some w=>
   let⟨m,d,b,v,W,X,Y⟩:=xV ⟨j,D,by rw[e];rfl⟩;have:=(s g).mpr (.inl (C W X Y (B g)));rw[h]at this;cases this
 refine⟨N.s.w,λi K=>N.g K,λi p g=>(N.s.ln i p g).2,λi y z v n g=>⟨((N.s.ln i _ g).2 n rfl).symm,?_⟩,λi p g I hr=>?_,λi p g I h=>?_,λi p g h=>o g h,λi p qs g he m j b t js=>?_,λi y z n g=>(N.uR i y z n g).1,λi q hq=>N.fk hq⟩
 .have a:=λU=>s g (v:=U)
  by_cases c:cP (bW ls) z=k
  .rw[vd c];exact(a v).mpr (.inr ⟨z,n,rfl,by rw[c]⟩)
  .rw[vc c];cases e:(cR E (k:Nat)).getD i none with
   | none=>rfl
   | some w=>
    rcases(a w).mp e with⟨m,j,b,r,_⟩ | ⟨x,P,r,R⟩
    .cases m<;>exact nomatch r
    .cases r;exact uf ⋯ c
 .cases e:(cR E (k:Nat)).getD i none with
  | none=>rfl
  | some w=>
   rcases(s g).mp e with⟨m,j,b,r,_⟩ | ⟨x,P,r,R⟩
   .unfold cG at r;rw[I]at r;cases m<;>exact nomatch r
   .exact uf r (hr x w P)
 .cases e:(cR E (k:Nat)).getD i none with
  | none=>rw[getD_none _ h (o g e)];rfl
  | some w=>
   rcases(s g).mp e with⟨m,j,b,r,D,A⟩ | ⟨x,P,r,R⟩
   .have jl:=B g j (by rw[r];simp);have L:(cR E (k:Nat)).getD j none=some w:=by rw[wS];exact Zv (T j jl) D
    rw[r,foldl_append,v5,L,getD_none b _ λd f=>?_]
    .rfl
    .cases eo:(cR E (k:Nat)).getD d none with
     | none=>rfl
     | some u=>exact uf (XU d eo) (A d f u)
   .rw[r]at I;exact uf rfl I
 .have s1:=(N.s.sd i p qs g he).2 (k:Nat);have O:∀d∈cG ps p.2,∀u,(cR E (k:Nat)).getD d none=some u->((k:Nat):Int)∈hs.getD d []:=λd f u hu=>CG N S Q (B g d f) (XU d hu)
  let⟨w,hw⟩:=Option.isSome_iff_exists.mp js;have mj:=O j (by rw[t];simp) w hw;rw[t,vj,v7,filter_append,v6,vd (vG mj),vn,vP]at s1;have H:∀(l:L6) (d:Nat),d∈l->((k:Nat):Int)∈hs.getD d []->1<=⇑((l.map λj=>hs.getD j []).filter λks=>decide (((k:Nat):Int)∈ks)):=λl d f hm=>length_pos_of_mem (vO.mpr ⟨vK.mpr ⟨d,f,rfl⟩,vG hm⟩)
  refine⟨λd f=>?_,λd f=>?_⟩
  .cases eo:(cR E (k:Nat)).getD d none with
   | none=>rfl
   | some u=>
    have:=H m d f (O d (by rw[t];exact mem_append_left _ f) u eo);lia
  .cases eo:(cR E (k:Nat)).getD d none with
   | none=>rfl
   | some u=>
    have:=H b d f (O d (by rw[t];exact mem_append_right _ (vp _ f)) u eo);lia
end
noncomputable def dn(c k:Int):Int:=(c%10^30+k*k+1)*314159265358979323846264338327%(10^30+57)
def zE(c k:Int):0<=dn c k/\dn c k<10^30+57:=⟨ve _ nofun,vf _ nofun⟩
def KP:Sp:=λvs H Q q=>∃c k:Int,vs=[.int c,.int k]/\0<=k/\k<=10^20/\Q (.int (dn c k)) H
inductive gJ(K:cA)(vs:N2)(H:Hp)(Q:VK)(xk:XK):Prop
 | mk (a:Addr) (ns:L5) (j k:Int) (_:vs=[.ref a,.int j,.int k]) (_:bZ K H a (ns.map V.int)) (_:⇑ns<=63) (_:0<=j) (_:j<=60) (_:0<=k) (_:k<=10^18) (_:Q (.int (dn (Pr.cell ns j) k*dn (Pr.cell ns (j+1)) (k+20))) H):gJ K vs H Q xk
noncomputable def fA(x y m:Int):Int×Int×Int:=if 0<x then(x%m,x/m,y)else(dn ((y+m)*314159265358979323846264338327%(10^30+57)) m/1000%m,x,dn ((y+m)*314159265358979323846264338327%(10^30+57)) m)
def JN(h:1<=m):0<=(fA x y m).1/\(fA x y m).1<m:=by
 unfold fA;split<;>exact⟨ve _ ⋯,vf _ ⋯⟩
inductive fy(vs:N2)(H:Hp)(Q:VK)(xk:XK):Prop
 | mk (p:Addr) (x y m:Int) (_:vs=[.ref p,.int m]) (_:H p=some (.lst [.int x,.int y])) (_:1<=m) (_:m<=10^20) (_:0<=y) (_:y<10^30+57) (_:∀H',Ex p H H'->H' p=some (.lst [.int (fA x y m).2.1,.int (fA x y m).2.2])->Q (.int (fA x y m).1) H'):fy vs H Q xk
noncomputable def A7:Str:=Str.ofString "abcdefghijklnopqrstuvwxyz"
noncomputable def iN(p k:Nat):Str:=Txt.slice "mm" none (some (p:Int))++(⟨#[A7.cps.toList.getD (k%25) 97]⟩:Str)++(⟨#[if k<25 then 110 else 111]⟩:Str)++Txt.slice "mm" (some (p:Int)) none
inductive gr(vs:N2)(H:Hp)(Q:VK)(xk:XK):Prop
 | mk (p k:Nat) (_:vs=[.int (p:Nat),.int (k:Nat)]) (_:p<3) (_:k<50) (_:Q (.str (iN p k)) H):gr vs H Q xk
def Bg:⇑(Txt.slice x a b)<=⇑x:=G9
noncomputable def iJ(nm:L8)(gs:L5):List (Key×V):=(nm.zip gs).map λp=>(Sum.inr p.1,.int p.2)
def Bq(h:⇑nm=⇑gs):(iJ nm gs).map (·.1)=nm.map Sum.inr:=by
 unfold iJ;rw[v4];have e:(Function.comp (λx:Key×V=>x.1) λp:Str×Int=>((Sum.inr p.1:Key),V.int p.2))=Function.comp (λx:Str=>(Sum.inr x:Key)) Prod.fst:=rfl;rw[e,<-v4,List.map_fst_zip ⋯]
def Kt(c:nm.Nodup)(h:⇑nm=⇑gs)(b:j<⇑nm):cO (iJ nm gs) (Sum.inr (nm.getD j ⟨#[]⟩))=some (.int (gs∘j)):=by
 refine AG (j:=j) (by rw[Bq h];exact pairwise_map.mpr (c.imp λh e=>h (Sum.inr.inj e))) ?_;have a:j<⇑gs:=⋯
 have e:(nm.zip gs)[j]?=some (nm[j],gs[j]):=List.getElem?_zip_eq_some.mpr ⟨vz b,vz a⟩;unfold iJ;rw[vv,e,vy,vy,vz b,vz a];rfl
inductive fv(vs:N2)(H:Hp)(Q:VK)(xk:XK):Prop
 | mk (fa d:Addr) (f:Fn) (nm:L8) (gs:L5) (L:L8) (M:L1) (_:vs=[.ref fa,.ref d]) (_:ck H fa (cY nm f)) (_:H d=some (.dK (iJ nm gs))) (_:nm.Nodup) (_:⇑nm=⇑gs) (_:ei L M ⇑nm f) (_:(∀j,j<⇑nm->1<=gs∘j/\gs∘j<=10^60)) (_:∀(g:Int) (H':Hp),bX H H'->fK gs f g->Q (.int g) H'):fv vs H Q xk
def nD(H:Hp)(as:L7)(Ms:List L8):Prop:=cg (λa ks=>H a=some (.lst (ks.map V.str))) as Ms
noncomputable def tm:Fn->L6
 | .row is=>is
 | .side is=>is
 | _=>[]
def mz(Ms:List L8)(f:Fn)(ks:L8):Prop:=ks.Nodup/\∀s,s∈ks↔(∃j∈f.js,s∈Ms.getD j [])\/∃h n,f = .rise s h n
inductive fF(vs:N2)(H:Hp)(Q:VK)(xk:XK):Prop
 | mk (fa nl ml:Addr) (mas:L7) (f:Fn) (nm:L8) (Ms:List L8) (L:L8) (M:L1) (_:vs=[.ref fa,.ref nl,.ref ml]) (_:ck H fa (cY nm f)) (_:H nl=some (.lst (nm.map V.str))) (_:H ml=some (.lst (mas.map V.ref))) (_:nD H mas Ms) (_:nm.Nodup) (_:Ms.length=⇑nm) (_:⇑nm<=20) (_:ei L M ⇑nm f) (_:(∀ks∈Ms,⇑ks<=8)) (_:∀(l:Addr) (ks:L8) (H':Hp),bX H H'->H l=none->H' l=some (.lst (ks.map V.str))->mz Ms f ks->⇑ks<=80->Q (.ref l) H'):fF vs H Q xk
def CK(n:Str):∀hs:L8,mL (.str n) (hs.map V.str)=decide (n∈hs):=by
 intro b
 induction b with
 | nil=>
  simp[mL]
 | cons h r ih0=>
  have a:=ih0;unfold mL at a|-;rw[v7,any_cons,a];have e:lV (.str h) (.str n)=decide (h=n):=by
   show(h==n)=_
   lia
  rw[e,Bool.eq_iff_iff];simp only[Bool.or_eq_true,decide_eq_true_eq,mem_cons];constructor
  .rintro(x | x)
   .exact .inl x.symm
   .exact .inr x
  .rintro(x | x)
   .exact .inl x.symm
   .exact .inr x
def j0:∀hs:L8,(hs.map V.str).all eu=true:=by
 intro a
 induction a with
 | nil=>
  exact rfl
 | cons h r ih0=>
  rw[v7,all_cons,ih0];rfl
def sR{xs:L8}(d:xs.Nodup){j:Nat}(f:j<⇑xs):(xs.map V.str)[j]?=some (.str (xs.getD j ⟨#[]⟩))/\lV (.str (xs.getD j ⟨#[]⟩)) (.str (xs.getD j ⟨#[]⟩))=true/\∀(n:Nat) (z:V),n<j->(xs.map V.str)[n]?=some z->lV z (.str (xs.getD j ⟨#[]⟩))=false:=by
 have h:xs[j]?=some (xs.getD j ⟨#[]⟩):=by rw[vy,vz f];rfl
 refine⟨by rw[vv,h];rfl,(by show(xs.getD j ⟨#[]⟩==xs.getD j ⟨#[]⟩)=true;exact beq_self_eq_true _),λn z i c=>?_⟩;rw[vv]at c;let⟨w,g,rfl⟩:=vg.mp c;show(w==xs.getD j ⟨#[]⟩)=false;refine beq_eq_false_iff_ne.mpr λe=>?_
 rw[<-e]at h;have a:=JQ d g;have b:=JQ d h;lia
noncomputable def gZ(L ks:L8):L5:=((List.range ⇑L).filter λi=>decide (L.getD i ⟨#[]⟩∈ks)).map λi:Nat=>(i:Int)
def yI:k∈gZ L ks↔∃(i:Nat) (s:Str),L[i]?=some s/\s∈ks/\k=(i:Int):=by
 unfold gZ;constructor
 .intro h;let⟨i,d,rfl⟩:=vK.mp h;let⟨a,c⟩:=vO.mp d;have b:=v2.mp a;refine⟨i,L[i],vz b,?_,rfl⟩;have:=of_decide_eq_true c;rw[vy,vz b]at this;exact this
 .rintro⟨i,s,a,c,rfl⟩;have b:=(vx.mp a).1;refine vK.mpr ⟨i,vO.mpr ⟨v2.mpr b,vG ?_⟩,rfl⟩;rw[vy,a];exact c
def LG:(gZ L ks).Pairwise (· < ·):=by
 unfold gZ;refine pairwise_map.mpr ?_;refine(List.Pairwise.filter _ (List.pairwise_lt_range (n:=⇑L))).imp λ{a b} h=>?_
 lia
def pQ(L:L8)(Ms:List L8):Prop:=∀ks∈Ms,ks.Nodup/\∀s∈ks,s∈L
def pQ.at'(I:pQ L Ms)(j:Nat):∀s∈Ms.getD j [],s∈L:=λs a=>by
 rw[vy]at a;cases e:Ms[j]? with
 | none=>rw[e]at a;cases a
 | some ks=>rw[e]at a;exact(I ks (vm e)).2 s a
def Gb{a b:L8}(d:a.Nodup)(h:∀x∈a,x∈b):⇑a<=⇑b:=by
 induction a generalizing b with
 | nil=>exact va _
 | cons x r ih=>
  rw[ur]at d;have f:=h x vq;have:=ih (b:=b.erase x) d.2 λy g=>by
   have c:y≠x:=λe=>d.1 (e▸g)
   exact(List.mem_erase_of_ne c).mpr (h y (vp _ g))
  rw[List.length_erase_of_mem f]at this;have:0<⇑b:=length_pos_of_mem f;rw[vP];lia
def pQ.len{L:L8}{Ms:List L8}(I:pQ L Ms){ks:L8}(h:ks∈Ms):⇑ks<=⇑L:=Gb (I ks h).1 (I ks h).2
def KF{L:L8}{Ms:List L8}(j:Nat):(Ms.map (gZ L)).getD j []=gZ L (Ms.getD j []):=by
 rw[vy,vy,vv];cases Ms[j]? with
 | none=>
  show[]=gZ L [];refine(List.eq_nil_iff_forall_not_mem.mpr λk a=>?_).symm;let⟨q,q,q,h,q⟩:=yI.mp a;cases h
 | some x=>rfl
def LH(h:∀s∈ks,s∈L)(n:ks≠[]):gZ L ks≠[]:=λz=>by
 let⟨s,a⟩:=List.exists_mem_of_ne_nil ks n;let⟨i,b⟩:=List.mem_iff_getElem?.mp (h s a);have:=yI.mpr ⟨i,s,b,a,rfl⟩;rw[z]at this;cases this
def iT(Ms:List L8)(is:L6):Prop:=(∀j∈is,Ms.getD j []≠[])/\is.Pairwise λa b=>∀s∈Ms.getD a [],¬s∈Ms.getD b []
def iT.n(I:pQ L Ms)(h:iT Ms is):mY (Ms.map (gZ L)) is:=by
 refine⟨λj p=>?_,h.2.imp λ{a b} d k g c=>?_⟩
 .rw[KF];exact LH (I.at' j) (h.1 j p)
 .rw[KF]at g c;let⟨i,s,m,n,rfl⟩:=yI.mp g;let⟨q,r,f,o,e⟩:=yI.mp c;have l:i=q:=⋯
  subst l;rw[m]at f;cases f;exact d s n o
def mz.n(h:mz Ms f ks):my L (Ms.map (gZ L)) f (gZ L ks):=by
 refine⟨LG,λk=>?_⟩;rw[yI];constructor
 .rintro⟨i,s,a,b,rfl⟩;rcases(h.2 s).mp b with⟨j,c,g⟩ | ⟨v,n,e⟩
  .exact .inl ⟨j,c,by rw[KF];exact yI.mpr ⟨i,s,a,g,rfl⟩⟩
  .exact .inr ⟨s,v,n,i,e,a,rfl⟩
 .rintro(⟨j,c,d⟩ | ⟨x,v,n,i,e,a,rfl⟩)
  .rw[KF]at d;let⟨i,s,a,b,rfl⟩:=yI.mp d;exact⟨i,s,a,(h.2 s).mpr (.inl ⟨j,c,b⟩),rfl⟩
  .exact⟨i,x,a,(h.2 x).mpr (.inr ⟨v,n,e⟩),rfl⟩
def mz.DL{L:L8}{Ms:List L8}{f:Fn}{ks:L8}{M:L1}{n:Nat}(I:pQ L Ms)(p:ei L M n f)(h:mz Ms f ks):ks.Nodup/\∀s∈ks,s∈L:=by
 refine⟨h.1,λs c=>?_⟩;rcases(h.2 s).mp c with⟨j,_,b⟩ | ⟨v,n,e⟩
 .exact I.at' j s b
 .subst e;let⟨⟨i,a⟩,q⟩:=p;exact vm a
def mq.uT{L:L8}{fs:List Fn}{M:L1}{gs:L5}{f:Fn}{ks:L5}{g:Int}(D:mq L fs M gs)(q:ei L M ⇑fs f)(t:my L M f ks)(u:fK gs f g)(v:1<=g/\g<=10^60):mq L (fs++[f]) (M++[ks]) (gs++[g]):=by
 have r:=D.ml;have n:=D.gl;refine⟨by simp[r],by simp[n],λi p d=>?_,λi k=>?_⟩
 .by_cases k:i<⇑fs
  .rw[vB k]at d;let⟨a,b,c⟩:=D.f i p d;have l:=a.js.2;rw[QY ⋯,QY ⋯];exact⟨a.ext ⋯,b.ext λj h=>by have:=l j h;lia,c.ext λj h=>by have:=l j h;lia⟩
  .rw[vC ⋯]at d;have o:i=⇑fs:=by
    have:=(vx.mp d).1;simp at this;lia
   subst o;rw[Nat.sub_self]at d;have e:p=f:=(vL d).symm;subst e;have l:=q.js.2;have s:(M++[ks]).getD ⇑fs []=ks:=by rw[<-r];exact Zr
   have m:(gs++[g]).getD ⇑fs 0=g:=by rw[<-n];exact Zr
   rw[s,m];exact⟨q.ext ⋯,t.ext λj h=>by have:=l j h;lia,u.ext λj h=>by have:=l j h;lia⟩
 .rw[vn]at k;have k:i<⇑fs+1:=k;by_cases c:i<⇑fs
  .rw[QY ⋯];exact D.g i c
  .have e:i=⇑fs:=⋯
   subst e;have m:(gs++[g]).getD ⇑fs 0=g:=by rw[<-n];exact Zr
   rw[m];exact v
def Ik(p:ei L M n f)(l:fK gs f g)(b:∀j,j<n->1<=gs∘j):1<=g:=by
 cases f with
 | hold m=>let⟨c,o⟩:=p;have e:g=m:=l;lia
 | ring x m=>let⟨c,o,Z⟩:=p;have e:g=m:=l;lia
 | rise x v m=>let⟨Z,Z,Z,c,o⟩:=p;have e:g=m:=l;lia
 | row is=>
  let⟨c,o,d⟩:=p;have e:g=(is.map λj=>gs∘j).sum:=l;have q:∀a:L6,(∀j∈a,j<n)->0<=(a.map λj=>gs∘j).sum:=λa=>by
   induction a with
   | nil=>exact λZ=>vA _
   | cons j a ih=>
    intro h;rw[v7,v8];have:=b j (h j vq);have:=ih λi r=>h i (vp _ r)
    lia
  cases is with
  | nil=>exact uf rfl c
  | cons j a=>
   rw[e,v7,v8];have u:=b j (d j vq);have:=q a λi r=>d i (vp _ r)
   lia
 | side is=>
  let⟨Z,Z,d,Z⟩:=p;let⟨⟨j,t,e⟩,Z⟩:=l;have:=b j (d j t);lia
 | again k j=>
  let⟨c,o,d⟩:=p;have e:g=k*gs∘j:=l;have s:=b j d;have:=Int.mul_le_mul c s nofun ⋯;lia
def fK.uniq(h:fK gs f g)(h':fK gs f g'):g=g':=by
 cases f with
 | side is=>
  let⟨⟨j,b,e⟩,m⟩:=h;let⟨⟨c,a,i⟩,d⟩:=h';have:=m c a;have:=d j b;lia
 | hold n=>exact Eq.trans h (Eq.symm h')
 | ring x n=>exact Eq.trans h (Eq.symm h')
 | rise x v n=>exact Eq.trans h (Eq.symm h')
 | row is=>exact Eq.trans h (Eq.symm h')
 | again k j=>exact Eq.trans h (Eq.symm h')
def mG(xs:L8):PyData.eqv (.list (xs.map PyData.str)) (.list [])=decide (xs=[]):=by
 cases xs<;>simp[PyData.eqv,PyData.eqvAll]
def mQ{xs:L8}(h:∀x∈xs,Ws.ff x=true):SeqAt.shaped (.list (xs.map PyData.str))=true:=(gc.lst (n:=0) (KM h)).ok nofun
def vW(n:Str)(a:L8):(if false=true then !mL (.str n) (a.map V.str)else mL (.str n) (a.map V.str))=decide (n∈a):=by rw[vc nofun,CK]
def BA{xs:N2}{k:Int}(h:∀v∈xs,∃w:Str,v = .str w/\Ws.ff w=true)(c:0<=k)(d:k<(⇑xs:Int)):∃w:Str,eW xs k=some (.str w)/\Ws.ff w=true:=by
 obtain⟨j,rfl⟩:∃j:Nat,k=(j:Int):=⟨k.toNat,⋯⟩
 have a:j<⇑xs:=⋯
 let⟨w,e,b⟩:=h xs[j] (getElem_mem a);exact⟨w,L2.jJ (by rw[vz a,e]),b⟩
def CA{xs:N2}{lo hi:Nu}{v:V}(h:v∈fc xs lo hi):v∈xs:=List.mem_of_mem_drop (mem_of_mem_take h)
def ZG{a:L8}{j:Nat}(h:j<⇑a):eW (a.map V.str) ((j:Nat):Int)=some (.str (a.getD j ⟨#[]⟩)):=by
 refine L2.jJ ?_;rw[vv,vy,vz h];rfl
structure nZ(nl ml:Addr)(mas:L7)(L nm:L8)(Ms:List L8)(H:Hp):Prop where
 en:H nl=some (.lst (nm.map V.str))
 em:H ml=some (.lst (mas.map V.ref))
 am:nD H mas Ms
 il:pQ L Ms
 ml:Ms.length=⇑nm
 sU:⇑nm<=20
 l8:⇑L<=8
 w:∀x∈nm,Ws.ff x=true
 lw:∀x∈L,Ws.ff x=true
def nZ.same{d c:Addr}{b:L7}{L e:L8}{Ms:List L8}{H H':Hp}(N:nZ d c b L e Ms H)(s:bX H H'):nZ d c b L e Ms H':=
 ⟨s _ _ N.en,s _ _ N.em,N.am.mono λa x h=>s _ _ h,N.il,N.ml,N.sU,N.l8,N.w,N.lw⟩
def nZ.mv{k i:Addr}{a:L7}{L c:L8}{Ms:List L8}{H:Hp}(N:nZ k i a L c Ms H){j:Nat}(g:j<⇑c):∃b,a[j]?=some b/\H b=some (.lst ((Ms.getD j []).map V.str))/\⇑(Ms.getD j [])<=8/\∀x∈Ms.getD j [],Ws.ff x=true:=by
 have e:Ms[j]?=some (Ms.getD j []):=by rw[vy,vz (by rw[N.ml];exact g)];rfl
 let⟨b,d,f⟩:=N.am.get e;have:=N.il.len (vm e);have:=N.l8;exact⟨b,d,f,⋯,λx h=>N.lw x (N.il.at' j x h)⟩
def tX(H:Hp)(bd:Addr)(b0 b1 b2 b3 b4:Int):Prop:=H bd=some (.lst [.int b0,.int b1,.int b2,.int b3,.int b4])/\1<=b0/\b0<=10^18/\1<=b1/\b1<=10^18/\1<=b2/\b2<=10^18+1/\1<=b3/\b3<=10^18/\1<=b4/\b4<=10^60
def pY{a c b2 b3 b4 i:Int}(d:1<=a/\a<=10^18)(e:1<=c/\c<=10^18)(f:0<=i)(g:i<2):∃b:Int,eW [V.int a,V.int c,V.int b2,V.int b3,V.int b4] i=some (V.int b)/\1<=b/\b<=10^18:=by
 have:i=0\/i=1:=⋯
 rcases this with rfl | rfl
 .exact⟨a,rfl,d⟩
 .exact⟨c,rfl,e⟩
structure rJ(pl:Addr)(las:L7)(ls:L4)(H:Hp):Prop where
 el:H pl=some (.lst (las.map V.ref))
 la:cg (hU H) las ls
 l1:1<=⇑ls
def rJ.same{H H':Hp}(N:rJ pl las ls H)(s:bX H H'):rJ pl las ls H':=⟨s _ _ N.el,N.la.mono λa x h=>s _ _ h,N.l1⟩
def Dl{H:Hp}(h:Q (.int (10^12)) H):rI mh (λi j=>.int (i^j.toNat)) (.int 10) (.int 12) H Q:=⟨10,12,rfl,rfl,⟨by decide,by decide,by decide⟩,h⟩
inductive gn(vs:N2)(H:Hp)(Q:VK)(xk:XK):Prop
 | mk (nl d:Addr) (nm:L8) (gs:L5) (most:Int) (_:vs=[.ref nl,.ref d,.int most]) (_:H nl=some (.lst (nm.map V.str))) (_:H d=some (.dK (iJ nm gs))) (_:nm.Nodup) (_:⇑nm=⇑gs) (_:1<=⇑nm) (_:⇑nm<=20) (_:(∀j,j<⇑nm->1<=gs∘j/\gs∘j<=most)) (_:∀(b:Addr) (is:L6) (H':Hp),bX H H'->H' b=some (.tup ((is.map λj=>nm.getD j ⟨#[]⟩).map V.str))->is≠[]->⇑is<=5->(∀j∈is,j<⇑nm)->Q (.ref b) H'):gn vs H Q xk
noncomputable def ji(n:Int)(len t:Nat):Nat:=(((len:Int)-1-(t:Int)*(1+n%3))%(len:Int)).toNat
noncomputable def eB(n:Int)(len:Nat)(Ms:List L8)(ro:Bool):Nat->L6×L8
 | 0=>([],[])
 | t+1=>if ro=true then(if(t:Int)<1+n/3%5 then((eB n len Ms ro t).1++[ji n len t],(eB n len Ms ro t).2)else eB n len Ms ro t)
  else if Ms.getD (ji n len t) []≠[]/\((Ms.getD (ji n len t) []).filter λs=>decide (s∈(eB n len Ms ro t).2))=[]/\(eB n len Ms ro t).1.length<4 then((eB n len Ms ro t).1++[ji n len t],(eB n len Ms ro t).2++Ms.getD (ji n len t) [])else eB n len Ms ro t
section
variable{n:Int}{len:Nat}{Ms:List L8}{ro:Bool}
def Av(h:1<=len):ji n len t<len:=by
 unfold ji;have a:=ve ((len:Int)-1-(t:Int)*(1+n%3)) (show(len:Int)≠0 by lia);have b:=vf ((len:Int)-1-(t:Int)*(1+n%3)) (show(0:Int)<(len:Int) by lia);lia
def Gi(t:Nat):eB n len Ms ro (t+1)=if ro=true then(if(t:Int)<1+n/3%5 then((eB n len Ms ro t).1++[ji n len t],(eB n len Ms ro t).2)else eB n len Ms ro t)
  else if Ms.getD (ji n len t) []≠[]/\((Ms.getD (ji n len t) []).filter λs=>decide (s∈(eB n len Ms ro t).2))=[]/\(eB n len Ms ro t).1.length<4 then((eB n len Ms ro t).1++[ji n len t],(eB n len Ms ro t).2++Ms.getD (ji n len t) [])else eB n len Ms ro t:=rfl
def C3(h:1<=len):∀(t:Nat) (j:Nat),j∈(eB n len Ms ro t).1->j<len:=by
 intro c
 induction c with
 | zero=>
  intro j a;exact nomatch a
 | succ t ih0=>
  intro j a;have b:=ih0 j;unfold eB at a;split at a
  .split at a
   .rcases vh.mp a with z | z
    .exact b z
    .rw[vo.mp z];exact Av h
   .exact b a
  .split at a
   .rcases vh.mp a with z | z
    .exact b z
    .rw[vo.mp z];exact Av h
   .exact b a
def Lw(b:∀j,⇑(Ms.getD j [])<=8):∀t:Nat,(eB n len Ms ro t).2.length<=8*(eB n len Ms ro t).1.length:=by
 intro c
 induction c with
 | zero=>
  exact vb _
 | succ t ih0=>
  have a:=ih0;have d:=b (ji n len t);unfold eB;split
  .split
   .rw[vn];show(eB n len Ms ro t).2.length<=8*(_+1);lia
   .exact a
  .split
   .rw[vn,vn];show _<=8*(_+1);lia
   .exact a
def XZ:∀t:Nat,(eB n len Ms ro t).1.length<=t/\(eB n len Ms ro t).1.length<=5:=by
 intro a
 induction a with
 | zero=>
  exact⟨vb _,va _⟩
 | succ t ih0=>
  let⟨b,d⟩:=ih0;have e:=vf (n/3) (show(0:Int)<5 by decide);unfold eB;split
  .split
   .rename_i c;rw[vn];exact⟨by show _+1<=_;lia,by show _+1<=5;lia⟩
   .lia
  .split
   .rename_i c;rw[vn];have:=c.2.2;exact⟨by show _+1<=_;lia,by show _+1<=5;lia⟩
   .lia
def Lv(a:ro=true):∀t:Nat,0<t->(eB n len Ms ro t).1≠[]:=by
 intro b
 induction b with
 | zero=>
  intro h;exact uf h ⋯
 | succ t ih0=>
  intro q;have d:=ve (n/3) (show(5:Int)≠0 by decide);unfold eB;rw[vd a];split
  .simp_all
  .rename_i c;exact ih0 ⋯
def Lu(p:ro=false):∀t:Nat,iT Ms (eB n len Ms ro t).1/\∀s,s∈(eB n len Ms ro t).2↔∃j∈(eB n len Ms ro t).1,s∈Ms.getD j []:=by
 intro q
 induction q with
 | zero=>
  exact⟨⟨(λj h=>nomatch h),.nil⟩,λs=>⟨(λh=>nomatch h),λ⟨j,h,_⟩=>nomatch h⟩⟩
 | succ t ih0=>
  let⟨g,i⟩:=ih0;unfold eB;rw[vc (by rw[p];exact vF)];split
  .rename_i c;let⟨k,l,Z⟩:=c;refine⟨⟨λj e=>?_,List.pairwise_append.mpr ⟨g.2,pairwise_singleton ..,λa m b o s d f=>?_⟩⟩,λs=>?_⟩
   .rcases vh.mp e with z | z
    .exact g.1 j z
    .rw[vo.mp z];exact k
   .rw[vo.mp o]at f;have:s∈(Ms.getD (ji n len t) []).filter λs=>decide (s∈(eB n len Ms ro t).2):=vO.mpr ⟨f,vG ((i s).mpr ⟨a,m,d⟩)⟩
    rw[l]at this;cases this
   .rw[vh,i];constructor
    .rintro(⟨j,e,d⟩ | d)
     .exact⟨j,mem_append_left _ e,d⟩
     .exact⟨_,mem_append_right _ vq,d⟩
    .rintro⟨j,e,d⟩;rcases vh.mp e with z | z
     .exact .inl ⟨j,z,d⟩
     .rw[vo.mp z]at d;exact .inr d
  .exact⟨g,i⟩
end
inductive gO(vs:N2)(H:Hp)(Q:VK)(xk:XK):Prop
 | mk (n:Int) (nl ml:Addr) (mas:L7) (L nm:L8) (Ms:List L8) (kd:Str) (_:vs=[.int n,.ref nl,.ref ml,.str kd]) (_:nZ nl ml mas L nm Ms H) (_:1<=⇑nm) (_:0<=n) (_:n<=10^40) (_:(kd = "row"\/kd = "side")) (_:∀(b:Addr) (H':Hp),bX H H'->H' b=some (.tup (((eB n ⇑nm Ms (decide (kd = "row")) ⇑nm).1.map λj=>nm.getD j ⟨#[]⟩).map V.str))->Q (.ref b) H'):gO vs H Q xk
inductive ir(vs:N2)(H:Hp)(Q:VK)(xk:XK):Prop
 | mk (n:Int) (nl ml pl bd:Addr) (mas las:L7) (ls:L4) (nm:L8) (Ms:List L8) (b0 b1 b2 b3 b4:Int) (_:vs=[.int n,.ref nl,.ref ml,.ref pl,.ref bd]) (_:nZ nl ml mas (bW ls) nm Ms H) (_:rJ pl las ls H) (_:tX H bd b0 b1 b2 b3 b4) (_:0<=n) (_:n<=10^40) (_:∀(a:Addr) (f:Fn) (H':Hp),bX H H'->ck H' a (cY nm f)->ei (bW ls) (Ms.map (gZ (bW ls))) ⇑nm f->Q (.ref a) H'):ir vs H Q xk
def qt(a:0<=y)(b:y<10^30+57):0<=(fA x y m).2.2/\(fA x y m).2.2<10^30+57:=by
 unfold fA;split
 .exact⟨a,b⟩
 .exact zE _ _
def Off(p:Addr)(H0 H:Hp):Prop:=∀c u,H0 c=some u->c≠p/\H c=some u
def Off.ex{a H H':Hp}(o:Off p a H)(x:Ex p H H'):Off p a H':=λc u h=>⟨(o c u h).1,x c u (o c u h).1 (o c u h).2⟩
def Off.same{a H:Hp}(o:Off p a H):bX a H:=λc u h=>(o c u h).2
inductive fW(vs:N2)(H:Hp)(Q:VK)(xk:XK):Prop
 | mk (p nl ml bd:Addr) (x y kd:Int) (H0:Hp) (mas:L7) (L nm:L8) (Ms:List L8) (b0 b1 b2 b3 b4:Int) (_:vs=[.ref p,.int kd,.ref nl,.ref ml,.ref bd]) (_:H p=some (.lst [.int x,.int y])) (_:0<=y) (_:y<10^30+57) (_:Off p H0 H) (_:nZ nl ml mas L nm Ms H0) (_:1<=⇑nm) (_:tX H0 bd b0 b1 b2 b3 b4) (_:∀(a:Addr) (f:Fn) (H':Hp),Ex p H H'->ck H' a (cY nm f)->ei L (Ms.map (gZ L)) ⇑nm f->Q (.ref a) H'):fW vs H Q xk
inductive iu(vs:N2)(H:Hp)(Q:VK)(xk:XK):Prop
 | mk (p nl ml pl bd:Addr) (x y:Int) (H0:Hp) (mas las:L7) (ls:L4) (nm:L8) (Ms:List L8) (b0 b1 b2 b3 b4:Int) (_:vs=[.ref p,.ref nl,.ref ml,.ref pl,.ref bd]) (_:H p=some (.lst [.int x,.int y])) (_:0<=y) (_:y<10^30+57) (_:Off p H0 H) (_:nZ nl ml mas (bW ls) nm Ms H0) (_:rJ pl las ls H0) (_:tX H0 bd b0 b1 b2 b3 b4) (_:∀(a:Addr) (f:Fn) (H':Hp),Ex p H H'->ck H' a (cY nm f)->ei (bW ls) (Ms.map (gZ (bW ls))) ⇑nm f->Q (.ref a) H'):iu vs H Q xk
def CP:∀p,p<3->(decide ((List.range 50).map (iN p)).Nodup&&((List.range 50).map (iN p)).all λx=>Ws.ff x)=true:=by trivial
def CQ(d:p<3)(hi:i<50)(c:j<50)(e:iN p i=iN p j):i=j:=by
 have h:=CP p d;rw[Bool.and_eq_true,decide_eq_true_eq]at h;have a:((List.range 50).map (iN p))[i]?=some (iN p i):=by rw[vv,List.getElem?_range hi];rfl
 have b:((List.range 50).map (iN p))[j]?=some (iN p i):=by rw[vv,List.getElem?_range c,e];rfl
 have f:=JQ h.1 a;have g:=JQ h.1 b;lia
def Dz(a:p<3)(hi:i<50):Ws.ff (iN p i)=true:=by
 have h:=CP p a;rw[Bool.and_eq_true,all_eq_true]at h;exact h.2 _ (vK.mpr ⟨i,v2.mpr hi,rfl⟩)
noncomputable def mX(p m:Nat):L8:=(List.range m).map (iN p)
def CV(h:j<m):(mX p m)[j]?=some (iN p j):=by unfold mX;rw[vv,List.getElem?_range h];rfl
def Bs:mX p (m+1)=mX p m++[iN p m]:=by unfold mX;rw[List.range_succ,vj];rfl
def CW(c:p<3)(j:m<=9):(mX p m).Nodup/\∀x∈mX p m,Ws.ff x=true:=by
 unfold mX;refine⟨pairwise_map.mpr (nodup_range.imp_of_mem λ{a b} d f n e=>n (CQ c (by have:=v2.mp d;lia) (by have:=v2.mp f;lia) e)),λx h=>?_⟩
 .let⟨i,g,rfl⟩:=vK.mp h;have:=v2.mp g;exact Dz c ⋯
noncomputable def mW(st c m k:Nat):Nat:=if k=c then k%m else st+k
noncomputable def nJ(p st c m:Nat):L8:=(List.range 17).map λk=>iN p (mW st c m k)
def BZ{p st c m:Nat}:⇑(nJ p st c m)=17:=by unfold nJ;simp_all
def BY{p st c m k:Nat}(h:k<17):(nJ p st c m).getD k ⟨#[]⟩=iN p (mW st c m k):=by
 unfold nJ;rw[vy,vv,List.getElem?_range h];rfl
def C2{p st c m:Nat}(f:p<3)(q:1<=m)(r:m<=st)(h:st<=9):(nJ p st c m).Nodup/\∀x∈nJ p st c m,Ws.ff x=true:=by
 have b:∀k,k<17->mW st c m k<50:=λk o=>by
  unfold mW;have:=Nat.mod_lt k (show 0<m by lia);split<;>lia
 unfold nJ;refine⟨pairwise_map.mpr (nodup_range.imp_of_mem λ{x y} a d n e=>?_),λx a=>?_⟩
 .have a:=v2.mp a;have d:=v2.mp d;have:=CQ f (b x a) (b y d) e;unfold mW at this;have j:=Nat.mod_lt x (show 0<m by lia);have l:=Nat.mod_lt y (show 0<m by lia);refine n ?_;split at this<;>split at this<;>lia
 .let⟨i,g,rfl⟩:=vK.mp a;exact Dz f (b i (v2.mp g))
def DP{names:L8}{fs:List Fn}{f:Fn}:cu names (fs++[f])=cu names fs++[(names.getD ⇑fs ⟨#[]⟩,cY names f)]:=by
 unfold cu;rw[vn,vR,List.range_succ,vj];congr 1
 .refine map_congr_left λj a=>?_
  rw[QY (v2.mp a)]
 .rw[v7,Zr];rfl
def kP(h:ei L M n f):cY (names.take n) f=cY names f:=by
 have g:∀j,j<n->(names.take n).getD j ⟨#[]⟩=names.getD j ⟨#[]⟩:=λj a=>by
  simp_all
 have b:=h.js.2;cases f with
 | row is=>exact congrArg Fm.row (map_congr_left λj a=>g j (b j a))
 | side is=>exact congrArg Fm.side (map_congr_left λj a=>g j (b j a))
 | again k j=>exact congrArg (Fm.again k) (g j (b j vq))
 | hold n=>rfl
 | ring x n=>rfl
 | rise x v n=>rfl
def F0(h:⇑nm=⇑gs):iJ (nm++[x]) (gs++[g])=iJ nm gs++[(Sum.inr x,.int g)]:=by
 unfold iJ;rw[List.zip_append h,vj];rfl
def XO(h:⇑nm=⇑gs)(n:x∉nm):putK (iJ nm gs) (Sum.inr x) (.int g)=iJ (nm++[x]) (gs++[g]):=by
 rw[F0 h,KH];rw[Bq h];intro z;let⟨y,a,e⟩:=vK.mp z;exact n (Sum.inr.inj e▸a)
def XN(h:⇑nm=⇑gs):⇑(iJ nm gs)=⇑nm:=by
 unfold iJ;rw[vt,List.length_zip];lia
structure mT(pl nl ml d pp:Addr)(las pas mas:L7)(ls:L4)(names:L8)(fs:List Fn)(Ms:List L8)(gs:L5)(b4:Int)(H:Hp):Prop where
 n:nZ nl ml mas (bW ls) (names.take ⇑fs) Ms H
 l:rJ pl las ls H
 ed:H d=some (.dK (iJ (names.take ⇑fs) gs))
 ep:H pp=some (.lst (pas.map V.ref))
 pa:cg (dN H) pas (cu names fs)
 dk:mq (bW ls) fs (Ms.map (gZ (bW ls))) gs
 gb:∀j,j<⇑fs->gs∘j<=b4
 fl:⇑fs<=⇑names
def mT.same{fs:List Fn}{H H':Hp}(B:mT pl nl ml d pp las pas mas ls names fs Ms gs b4 H)(s:bX H H'):mT pl nl ml d pp las pas mas ls names fs Ms gs b4 H':=
 ⟨B.n.same s,B.l.same s,s _ _ B.ed,s _ _ B.ep,B.pa.mono λa x h=>dN.same s h,B.dk,B.gb,B.fl⟩
structure oT(pl nl ml pp bd:Addr)(mas:L7):Prop where
 ln:pl≠nl
 lm:pl≠ml
 lp:pl≠pp
 nm:nl≠ml
 np:nl≠pp
 mp:ml≠pp
 bn:bd≠nl
 bm:bd≠ml
 bp:bd≠pp
 ma:∀a∈mas,a≠nl/\a≠ml/\a≠pp
def oT.add(S:oT pl nl ml pp bd mas)(h:l≠nl/\l≠ml/\l≠pp):oT pl nl ml pp bd (mas++[l]):=
 ⟨S.ln,S.lm,S.lp,S.nm,S.np,S.mp,S.bn,S.bm,S.bp,λa b=>by
  rcases vh.mp b with z | z
  .exact S.ma a z
  .rw[vo.mp z];exact h⟩
def mT.add{pl o n d p M fa l c:Addr}{r i b:L7}{ls:L4}{names:L8}{fs:List Fn}{Ms:List L8}{gs:L5}{b4 g:Int}{f:Fn}{ks:L8}{H H':Hp}(B:mT pl o n d p r i b ls names fs Ms gs b4 H)(S:oT pl o n p M b)
  (Y:ck H fa (cY names f)) (m:ei (bW ls) (Ms.map (gZ (bW ls))) ⇑fs f) (K:mz Ms f ks) (J:fK gs f g) (R:g<=b4) (L:b4<=10^60) (fn:⇑fs<⇑names) (a0:⇑fs<20) (nw:∀x∈names,Ws.ff x=true)
  (k:∀x u,x≠n->x≠o->x≠p->x≠d->H x=some u->H' x=some u) (t:H' n=some (.lst ((b++[l]).map V.ref))) (Q:H' l=some (.lst (ks.map V.str))) (v:H' o=some (.lst ((names.take (⇑fs+1)).map V.str)))
  (w:H' p=some (.lst ((i++[c]).map V.ref))) (O:H' c=some (.tup [.str (names.getD ⇑fs ⟨#[]⟩),.ref fa])) (P:H' d=some (.dK (iJ (names.take (⇑fs+1)) (gs++[g])))) :
  mT pl o n d p r (i++[c]) (b++[l]) ls names (fs++[f]) (Ms++[ks]) (gs++[g]) b4 H':=by
 have N:=B.n;have E:∀c q,H c=some (.tup q)->H' c=some (.tup q):=λc q h=>k c _ (JG h N.em λz=>by cases z) (JG h N.en λz=>by cases z) (JG h B.ep λz=>by cases z) (JG h B.ed λz=>by cases z) h
 have I:∀{c q},c≠n->c≠o->c≠p->H c=some (.lst q)->H' c=some (.lst q):=λU W X h=>k _ _ U W X (JG h B.ed λz=>by cases z) h
 have s:⇑(fs++[f])=⇑fs+1:=by rw[vn];rfl
 have D:=B.dk;have mi:=K.DL N.il m;have T:=Ik m J λj A=>(D.g j A).1
 have gl:=D.gl;refine⟨⟨?_,t,?_,?_,?_,?_,N.l8,λx hx=>nw x (mem_of_mem_take hx),N.lw⟩,⟨I S.lm S.ln S.lp B.l.el,B.l.la.mono λa x h=>E _ _ h,B.l.l1⟩,?_,w,?_,?_,λj A=>?_,⋯⟩
 .rw[s];exact v
 .refine cg.snoc ?_ Q;exact cg.iS N.am λa y ks h=>I (S.ma a y).2.1 (S.ma a y).1 (S.ma a y).2.2 h
 .intro C Z;rcases vh.mp Z with z | z
  .exact N.il C z
  .rw[vo.mp z];exact mi
 .have:=N.ml;rw[vi]at this|-;rw[vn,s];show _+1=_;lia
 .rw[vi];lia
 .rw[s];exact P
 .rw[DP];exact cg.snoc (B.pa.mono λa x h=>dN.keep E h) ⟨fa,O,ck.keep E Y⟩
 .rw[vj];exact D.uT m K.n J ⟨T,⋯⟩
 .rw[s]at A;by_cases z:j<⇑fs
  .rw[QY ⋯];exact B.gb j z
  .have e:j=⇑gs:=⋯
   subst e;rw[Zr];exact R
inductive fm(K:cA)(vs:N2)(H:Hp)(Q:VK)(xk:XK):Prop
 | mk (a bd:Addr) (ns:L5) (many:Nat) (b0 b1 b2 b3 b4:Int) (_:vs=[.ref a,.int (many:Nat),.ref bd]) (_:bZ K H a (ns.map V.int)) (_:⇑ns<=63) (_:2<=many) (_:many<=16) (_:tX H bd b0 b1 b2 b3 b4) (_:∀(r b pl pp:Addr) (las pas:L7) (names:L8) (ls:L4) (fs:List Fn) (M:L1) (gs:L5) (H':Hp),bX H H'->H' r=some (.tup [.ref b,.int (gs∘(⇑fs-1))])->cH H' b pl pp las pas ls (cu names fs)->mq (bW ls) fs M gs->Sn ls (cu names fs) gs M->⇑fs=many+1->⇑names=17->names.Nodup->(∀x∈names,Ws.ff x=true)->1<=⇑ls->⇑ls<=8->(bW ls).Nodup->(∀x∈bW ls,Ws.ff x=true)->pl≠pp->(∀j,j<⇑fs->gs∘j<=b4)->Q (.ref r) H'):fm K vs H Q xk
def mT.book{fs:List Fn}{H:Hp}(B:mT pl nl ml d pp las pas mas ls names fs Ms gs b4 H)(a:H b=some (.tup [.ref pl,.ref pp])):cH H b pl pp las pas ls (cu names fs):=⟨a,B.l.el,B.l.la,B.ep,B.pa⟩
end Rm
namespace L2
open PySem PySem.Spec PyProof.Rows
def A4(t1 t2:TE):TE:=λσ H Q=>t1 σ H Q\/t2 σ H Q
def Lg{X:Cx}{e:Expr}{b c:TE}(f:PE X e b)(g:PE X e c):PE X e (A4 b c):=λa s d H Q I h=>h.elim (f a s d H Q I) (g a s d H Q I)
def LJ{a c:TE}{b:St}{H:Hp}{Q:VK}(h:a b H Q):A4 a c b H Q:=.inl h
def LK{c a:TE}{b:St}{H:Hp}{Q:VK}(h:a b H Q):A4 c a b H Q:=.inr h
open PySem PySem.Spec PySem.W PyProof.Rows
noncomputable def rS(p:Str×V):Key×V:=(Sum.inr p.1,p.2)
theorem nN:∀{as:L7} {kvs:List (Str×V)},⇑as=⇑kvs->(∀(i:Nat) (a:Addr) (q:Str×V),as[i]?=some a->kvs[i]?=some q->∃t u,RelV q.2 u/\IsTup h a #[.str q.1 t,u])->
  ∃ps:List (Key×Value),KV (kvs.map rS) ps/\⇑ps=⇑kvs/\∀(j:Nat) (kv:Key×Value),ps[j]?=some kv->∃a key,as[j]?=some a/\IsTup h a #[key,kv.2]/\fP kv.1 key=true
 | [],[],_,_=>⟨[],.nil,rfl,λj kv e=>by simp at e⟩
 | [],_::_,l,_=>by simp at l
 | _::_,[],l,_=>by simp at l
 | a::as,q::kvs,l,f=>by
  let⟨ps,o,p,r⟩:=nN (as:=as) (kvs:=kvs) #v[l] λi a q m n=>f (i+1) a q #v[m] #v[n]
  let⟨t,u,v,e⟩:=f 0 a q rfl rfl;refine⟨(Sum.inr q.1,u)::ps,.cons ⟨rfl,v⟩ o,by rw[vP,p,vP],λj kv c=>?_⟩;cases j with
  | zero=>simp at c;subst c;exact⟨a,_,rfl,e,xU _ _⟩
  | succ j=>let⟨b,s,d,g,k⟩:=r j kv #v[c];exact⟨b,s,#v[d],g,k⟩
section
variable{X:Cx}
def Ew(K:X.calm=true):dw X (.type "dict") (λxs H Q=>∃(p:Addr) (as:L7) (kvs:List (Str×V)),xs=[.ref p]/\H p=some (.lst (as.map V.ref))/\⇑as=⇑kvs/\
  (∀(i:Nat) (a:Addr) (q:Str×V),as[i]?=some a->kvs[i]?=some q->H a=some (.tup [.str q.1,q.2]))/\∀d,H d=none->Q (.ref d) (upd H d (.dK (cS [] (kvs.map rS))))):=by
 intro O s σ H xs us Q I r h;let⟨p,as,kvs,rfl,ep,B,ht,q⟩:=h;let⟨u,rfl,ru⟩:=vals1 r;cases ru;let⟨z,D,n,rv,lv,e⟩:=I.i3 ep;have Z:=Y1 rv;subst Z;rw[vt]at z;have L:p<s.heap.objs.size:=vI e;let⟨ps,kp,P,pt⟩:=nN (h:=s.heap) B λi a q W Y=>by
  let⟨_,D,r',t'⟩:=I.cJ a _ (ht i a q W Y);cases r' with
  | cons ra rr=>
   cases rr with
   | cons rb rr=>
    cases rr;let⟨t1,rfl⟩:=ra;exact⟨t1,_,rb,t'⟩
 refine callType_codes (Q₁:=λt g=>t = .ref s.heap.objs.size/\g={s with heap:=s.heap.push {cls:=.type "dict",data:=.dict #[]}}) PySem.F.kt_called_dict (PySem.F.kt_typeCall_dict_1 (.ref p)) PySem.F.entry_dict_init (kt_code_dict_new (.ref p) ⟨rfl,rfl⟩) ?_;rintro t g ⟨rfl,rfl⟩;have c:(s.heap.push {cls:=.type "dict",data:=.dict #[]}).DictOf (cn X.prog X.w) s.heap.objs.size []:=Heap.DictOf.new s.heap;have v:∀b o,s.heap.get? b=some o->(s.heap.push {cls:=.type "dict",data:=.dict #[]}).get? b=some o:=λb o e=>vJ _ e
 generalize s.heap.push {cls:=.type "dict",data:=.dict #[]}=h0 at c v;refine⟨c.typeIs (s:={s with heap:=h0}),PySem.F.args_dict_init_2 _ _,?_⟩;unfold Builtin.«dict.__init__»;refine uh ?_;unfold Builtin.Dict.selfAndRest;refine uh (wpAny_notOrdered_dict (c.typeIs (s:={s with heap:=h0})) ?_);show wpAny (model X.prog X.w) _ (pure (s.heap.objs.size,[Value.ref p])) _ _ _;refine ug ?_;show wpAny (model X.prog X.w) _ (Builtin.Dict.updateFrom "dict.__init__" s.heap.objs.size (.ref p) [] .none) _ _ _;unfold Builtin.Dict.updateFrom;refine uh (wpAny_typeOf (T:="list") ⟨_,v _ _ e,rfl⟩ ?_);rw[vd nofun];refine uh (lR (s:={s with heap:=h0}) (v _ _ e) rfl rfl rfl (I.ok.hd K) λm tk M=>?_);rw[vd (show(none:Nv).isNone=true from rfl)];have f:∀b o,s.heap.get? b=some o->m.get? b=some o:=λb o e=>M b o (v b o e)
 have k:m.DictOf (cn X.prog X.w) s.heap.objs.size []:=c.keep M;have w:s.heap.objs.size<m.objs.size:=by let⟨_,_,_,hg,_⟩:=k;exact vI hg
 have lp:p<m.objs.size:=vY L w;refine uh (wpAny_rule ?_);refine uh (wpAny_pyIter_list (l:=p) (items:=(as.map Value.ref).toArray) ⟨_,f _ _ e,rfl,n,rfl⟩ ?_);refine ug ⟨plainId_quiet Zk _,?_⟩;refine uY (knd:=cn X.prog X.w) (A:=X.A.in1) (d:=s.heap.objs.size) (it:=m.objs.size) (l:=p) (items:=as.map Value.ref) (res:=.none) (I.ok.hd K) (vE w) (vN L) (vN lp) ps 0 [] _
  ⟨_,Heap.get?_push_size _ rfl,rfl,rfl⟩ ⟨_,vJ _ (f _ _ e),rfl,n,rfl⟩ (by rw[vt,B,P,Nat.zero_add]) (λj kv ej=>?_) (k.push _) (by rw[length_nil,P,<-B,Nat.zero_add];exact z) λh2 E k2 x=>?_
 .let⟨a,ky,R,⟨o,J,S⟩,U⟩:=pt j kv ej;have N:a<s.heap.objs.size:=vI J;exact⟨a,ky,by rw[Nat.zero_add,vv,R];rfl,⟨o,vJ _ (f _ _ J),S⟩,U,vE N,vE (vY N w)⟩
 .refine⟨rfl,.ref s.heap.objs.size,upd H s.heap.objs.size (.dK (cS [] (kvs.map rS))),I.laid (t':=E) (λb o y=>k2 b o (vE (vI y)) (vE (vY (vI y) w)) (vJ _ (f _ _ y))) (vb _) ?_,rfl,q _ (I.cJ.fresh (vb _))⟩;have hm:=zn (kvs.map rS) [];rw[length_nil,vt]at hm;have C:(s.heap.objs.size==sysModules)=false:=by
   rw[beq_eq_false_iff_ne];exact vN I.big
  exact WC ⋯ C (kp.merge .nil) x
end
end L2
namespace Rm
open PySem PySem.Spec PyProof.Rows L2
noncomputable def dH(f:Int->Int):Nat->Int
 | 0=>0
 | n+1=>dH f n+f (n:Int)
theorem Q6{f g:Int->Int}:∀{n:Nat},(∀j:Nat,j<n->f j=g j)->dH f n=dH g n
 | 0,_=>rfl
 | n+1,h=>by
  show dH f n+f n=dH g n+g n;rw[Q6 (n:=n) λj a=>h j ⋯,h n ⋯]
def uu{f:Int->Int}(a:Nat):∀b:Nat,dH f (a+b)=dH f a+dH (λj=>f ((a:Int)+j)) b:=by
 intro c
 induction c with
 | zero=>
  show dH f a=dH f a+0;lia
 | succ b ih0=>
  show dH f (a+b)+f ((a+b:Nat):Int)=dH f a+(dH (λj=>f ((a:Int)+j)) b+f ((a:Int)+(b:Int)));rw[ih0,show((a+b:Nat):Int)=(a:Int)+(b:Int) by lia];lia
theorem KN{f:Int->Int}:∀{n:Nat},(∀j:Nat,j<n->f j=c)->dH f n=c*(n:Int)
 | 0,_=>by show(0:Int)=c*((0:Nat):Int);rw[show((0:Nat):Int)=0 from rfl,Int.mul_zero]
 | n+1,h=>by
  show dH f n+f n=c*((n+1:Nat):Int);rw[KN (n:=n) λj a=>h j ⋯,h n ⋯,show((n+1:Nat):Int)=(n:Int)+1 from rfl,Int.mul_add,Int.mul_one]
def IX{f:Int->Int}(d:1<=g):∀(q:Nat) {r:Nat},r<=g->dH (λj=>f (j%(g:Int))) (q*g+r)=(q:Int)*dH f g+dH f r:=by
 intro c
 induction c with
 | zero=>
  intro r a;rw[Nat.zero_mul,Nat.zero_add,show((0:Nat):Int)=0 from rfl,Int.zero_mul,uz];exact Q6 λj b=>by rw[vZ ⋯ ⋯]
 | succ q ih0=>
  intro r a;rw[show(q+1)*g+r=g+(q*g+r) by rw[Nat.add_mul,Nat.one_mul];lia,uu];have e:(λj:Int=>(λj:Int=>f (j%(g:Int))) ((g:Int)+j))=λj=>f (j%(g:Int)):=by
   simp_all
  rw[e,ih0 a,Q6 (n:=g) (g:=f) λj b=>by show f ((j:Int)%(g:Int))=f j;rw[vZ ⋯ ⋯],show((q+1:Nat):Int)=(q:Int)+1 from rfl,uv,uw];lia
def Ci{f:Int->Int}(d:1<=g)(e:0<=q)(h:0<=r)(i:r<=g):dH (λj=>f (j%g)) (q*g+r).toNat=q*dH f g.toNat+dH f r.toNat:=by
 obtain⟨a,rfl⟩:∃a:Nat,g=(a:Int):=⟨g.toNat,⋯⟩
 obtain⟨b,rfl⟩:∃b:Nat,q=(b:Int):=⟨q.toNat,⋯⟩
 obtain⟨c,rfl⟩:∃c:Nat,r=(c:Int):=⟨r.toNat,⋯⟩
 have:=IX (f:=f) (g:=a) ⋯ b (r:=c) ⋯;rw[show((b:Int)*(a:Int)+(c:Int)).toNat=b*a+c by rw[<-Int.natCast_mul,<-Int.natCast_add];exact Int.toNat_natCast _];exact this
theorem Dr{f:Int->Int}:∀{n:Nat},(∀j:Nat,j<n->0<=f j/\f j<=B)->0<=dH f n/\dH f n<=B*(n:Int)
 | 0,_=>⟨vA _,by rw[show((0:Nat):Int)=0 from rfl,Int.mul_zero];exact vA _⟩
 | n+1,h=>by
  have a:=Dr (n:=n) λj c=>h j ⋯
  have b:=h n ⋯;rw[show((n+1:Nat):Int)=(n:Int)+1 from rfl,Int.mul_add,Int.mul_one];show 0<=dH f n+f n/\dH f n+f n<=_;lia
section
variable(T:Nat->Int->Int->Int)(L:List (Nu))(gs:L5)(w:Int->Int)
noncomputable def hW:Int->List Pc->Int->Int
 | h,[],_=>h
 | h,q::r,s=>if s<q.2.2 then h else if s<q.2.2+q.2.1*gs∘q.1 then T q.1 h ((s-q.2.2)%gs∘q.1)else hW (gG L q.1) r s
noncomputable def pP:Int->List Pc->Prop
 | _,[]=>True
 | now,q::r=>now<=q.2.2/\pP (q.2.2+q.2.1*gs∘q.1) r
noncomputable def lH(p:Nat)(h:Int):Int:=dH (λj=>w (T p h j)) (gs∘p).toNat
noncomputable def oJ(s:Int):Int->Int->Int->List hV->Int×Option (Nat×Int×Int)
 | told,now,h,[]=>(told+w h*(s-now),none)
 | told,now,h,y::r=>match y.2.2.2 with
  | some rest=>(told+(w h*(y.2.1-now)+y.2.2.1*lH T gs w y.1 h),some (y.1,h,rest))
  | none=>oJ s (told+(w h*(y.2.1-now)+y.2.2.1*lH T gs w y.1 h)) (y.2.1+y.2.2.1*gs∘y.1) (gG L y.1) r
noncomputable def resT(x:Int×Option (Nat×Int×Int)):Int:=x.1+match x.2 with
 | some y=>dH (λj=>w (T y.1 y.2.1 j)) y.2.2.toNat
 | none=>0
end
section
variable{T:Nat->Int->Int->Int}{L:List (Nu)}{gs:L5}{w:Int->Int}
def Bz:∀{r:List Pc} {b:Int},pP gs b r->(∀q∈r,fS gs q)->s<b->dA gs s r=[]:=by
 intro f
 induction f with
 | nil=>
  intro Z Z Z Z;exact rfl
 | cons q r ih0=>
  intro b h a i;let⟨Z,g,Z,j,Z,Z⟩:=a q vq;have d:0<=q.2.1*gs∘q.1:=vM ⋯ ⋯;unfold dA;rw[filterMap_cons];have e:cZ gs s q=none:=by
   unfold cZ;rw[vc (by have:=h.1;lia)]
  rw[e];exact ih0 h.2 (λx c=>a x (vp _ c)) (by have:=h.1;lia)
def HS:∀(PC:List Pc) (i a h:Int),(∀q∈PC,fS gs q)->pP gs a PC->0<=a->a<=s->
  resT T w (oJ T L gs w s i a h (dA gs s PC))=i+dH (λj=>w (hW T L gs h PC (a+j))) (s-a).toNat:=by
 intro J
 induction J with
 | nil=>
  intro i a h Z Z E H;show i+w h*(s-a)+0=_;rw[KN (c:=w h) λj Z=>rfl,show(((s-a).toNat:Nat):Int)=s-a by lia];lia
 | cons q r ih0=>
  intro i a h p l E H;let⟨Z,v,Z,Q,Z,M,Z⟩:=p q vq;let⟨K,u⟩:=l;by_cases c:q.2.2<=s
  .have o:dA gs s (q::r)=(q.1,q.2.2,ov gs s q,if ov gs s q<q.2.1 then some (s-q.2.2-ov gs s q*gs∘q.1)else none)::dA gs s r:=by
    unfold dA;rw[filterMap_cons];have e:cZ gs s q=some (q.1,q.2.2,ov gs s q,if ov gs s q<q.2.1 then some (s-q.2.2-ov gs s q*gs∘q.1)else none):=by
     unfold cZ;rw[vd c]
    rw[e]
   rw[o];have y:0<=(s-q.2.2)/gs∘q.1:=Int.ediv_nonneg ⋯ ⋯;have N:=Int.mul_ediv_add_emod (s-q.2.2) (gs∘q.1);have D:=ve (s-q.2.2) (show gs∘q.1≠0 by lia);have P:=vf (s-q.2.2) (show 0<gs∘q.1 by lia);have first:dH (λj=>w (hW T L gs h (q::r) (a+j))) (q.2.2-a).toNat=w h*(q.2.2-a):=by
    rw[KN (c:=w h) λj k=>by unfold hW;rw[vd ⋯],show(((q.2.2-a).toNat:Nat):Int)=q.2.2-a by lia]
   unfold oJ;by_cases d:ov gs s q<q.2.1
   .rw[vd d];have m:ov gs s q=(s-q.2.2)/gs∘q.1:=by
     unfold ov at d|-;split at d
     .lia
     .rename_i z;rw[vc z]
    rw[m]at d|-;have R:s<q.2.2+q.2.1*gs∘q.1:=by
     have:((s-q.2.2)/gs∘q.1+1)*gs∘q.1<=q.2.1*gs∘q.1:=vT ⋯ ⋯;rw[uv,uw,Int.mul_comm ((s-q.2.2)/gs∘q.1)]at this;lia
    show i+(w h*(q.2.2-a)+(s-q.2.2)/gs∘q.1*lH T gs w q.1 h)+dH (λj=>w (T q.1 h j)) (s-q.2.2-(s-q.2.2)/gs∘q.1*gs∘q.1).toNat=_;rw[show(s-a).toNat=(q.2.2-a).toNat+(s-q.2.2).toNat by lia,uu,first];rw[Q6 (n:=(s-q.2.2).toNat) (g:=λj=>(λj=>w (T q.1 h j)) (j%gs∘q.1)) λj k=>by
     show w (hW T L gs h (q::r) (a+((((q.2.2-a).toNat:Nat):Int)+(j:Int))))=w (T q.1 h ((j:Int)%gs∘q.1));unfold hW;rw[vc ⋯,vd ⋯,show a+((((q.2.2-a).toNat:Nat):Int)+(j:Int))-q.2.2=(j:Int) by lia]]
    have B:s-q.2.2=(s-q.2.2)/gs∘q.1*gs∘q.1+(s-q.2.2)%gs∘q.1:=by rw[Int.mul_comm];lia
    have A:s-q.2.2-(s-q.2.2)/gs∘q.1*gs∘q.1=(s-q.2.2)%gs∘q.1:=⋯
    rw[A];have:=Ci (f:=λj=>w (T q.1 h j)) (g:=gs∘q.1) (q:=(s-q.2.2)/gs∘q.1) (r:=(s-q.2.2)%gs∘q.1) v y D ⋯;rw[<-B]at this;rw[this];unfold lH;lia
   .rw[vc d];have m:ov gs s q=q.2.1:=by
     unfold ov at d|-;split
     .rfl
     .rename_i z;rw[vc z]at d;lia
    have I:q.2.1<=(s-q.2.2)/gs∘q.1:=by
     unfold ov at d;split at d
     .lia
     .lia
    have O:q.2.1*gs∘q.1<=s-q.2.2:=(Int.le_ediv_iff_mul_le ⋯).mp I;have t:0<=q.2.1*gs∘q.1:=vM ⋯ ⋯;rw[m];show resT T w (oJ T L gs w s (i+(w h*(q.2.2-a)+q.2.1*lH T gs w q.1 h)) (q.2.2+q.2.1*gs∘q.1) (gG L q.1) (dA gs s r))=_;rw[ih0 _ _ _ (λx C=>p x (vp _ C)) u ⋯ ⋯];rw[show(s-a).toNat=(q.2.2-a).toNat+((q.2.1*gs∘q.1).toNat+(s-(q.2.2+q.2.1*gs∘q.1)).toNat) by lia,uu,first,uu];rw[Q6 (n:=(q.2.1*gs∘q.1).toNat) (g:=λj=>(λj=>w (T q.1 h j)) (j%gs∘q.1)) λj k=>by
     show w (hW T L gs h (q::r) (a+((((q.2.2-a).toNat:Nat):Int)+(j:Int))))=w (T q.1 h ((j:Int)%gs∘q.1));unfold hW;rw[vc ⋯,vd ⋯,show a+((((q.2.2-a).toNat:Nat):Int)+(j:Int))-q.2.2=(j:Int) by lia]]
    have:=Ci (f:=λj=>w (T q.1 h j)) (g:=gs∘q.1) (q:=q.2.1) (r:=0) v ⋯ (vA _) ⋯;rw[uy]at this;rw[this];rw[Q6 (n:=(s-(q.2.2+q.2.1*gs∘q.1)).toNat) (f:=λj=>w (hW T L gs h (q::r) (a+((((q.2.2-a).toNat:Nat):Int)+((((q.2.1*gs∘q.1).toNat:Nat):Int)+j))))) (g:=λj=>w (hW T L gs (gG L q.1) r (q.2.2+q.2.1*gs∘q.1+j))) λj k=>by
     show w (hW T L gs h (q::r) (a+((((q.2.2-a).toNat:Nat):Int)+((((q.2.1*gs∘q.1).toNat:Nat):Int)+(j:Int)))))=_;rw[hW,vc ⋯,vc ⋯,show a+((((q.2.2-a).toNat:Nat):Int)+((((q.2.1*gs∘q.1).toNat:Nat):Int)+(j:Int)))=q.2.2+q.2.1*gs∘q.1+(j:Int) by lia]]
    unfold lH;show _=i+(_+(q.2.1*_+dH (λj=>w (T q.1 h j)) 0+_));have z:dH (λj=>w (T q.1 h j)) 0=0:=rfl;rw[z];lia
  .have t:0<=q.2.1*gs∘q.1:=vM ⋯ ⋯;have o:dA gs s (q::r)=[]:=Bz (b:=q.2.2) ⟨vA _,u⟩ p ⋯;rw[o];show i+w h*(s-a)+0=_;rw[KN (c:=w h) λj k=>by unfold hW;rw[vd ⋯],show(((s-a).toNat:Nat):Int)=s-a by lia];lia
def FW:∀(PC:List Pc) (a b h:Int),(∀q∈PC,fS gs q/\q.2.2+q.2.1*gs∘q.1<=s)->(oJ T L gs w s a b h (dA gs s PC)).2=none:=by
 intro j
 induction j with
 | nil=>
  intro Z Z Z Z;exact rfl
 | cons q r ih0=>
  intro a b h c;let⟨⟨Z,l,Z,n,Z,k,Z⟩,m⟩:=c q vq;have i:0<=q.2.1*gs∘q.1:=vM ⋯ ⋯;have o:q.2.1<=(s-q.2.2)/gs∘q.1:=(Int.le_ediv_iff_mul_le ⋯).mpr ⋯;have d:ov gs s q=q.2.1:=by
   unfold ov;split
   .rfl
   .lia
  have f:dA gs s (q::r)=(q.1,q.2.2,q.2.1,none)::dA gs s r:=by
   unfold dA;rw[filterMap_cons];have e:cZ gs s q=some (q.1,q.2.2,q.2.1,none):=by
    unfold cZ;rw[vd ⋯,d,vc ⋯]
   rw[e]
  rw[f];unfold oJ;exact ih0 _ _ _ λx g=>c x (vp _ g)
end
section
variable{ls:L4}{ps:N1}{gs:L5}{L:List (Nu)}{k:Nat}
structure se(ls:L4)(ps:N1)(gs:L5)(L:List (Nu))(k:Nat)(p:Nat)(PC:List Pc):Prop where
 h:∀(x s:Int),0<=s->dU ls ps gs L k p x s=hW (dU ls ps gs L k) L gs x PC s
 a:pP gs 0 PC
 e:∀q∈PC,q.2.2+q.2.1*gs∘q.1<=gs∘p
def CJ(M:Lm ls ps gs L k)(l:ps[p]?=some (y,.side qs))(J:L.getD p none=some v):se ls ps gs L k p ((cy ps gs p).filter (ib L)):=by
 have pl:=(vx.mp l).1;have m:cy ps gs p=(cG ps (.side qs)).map λj=>(j,1,0):=by unfold cy;rw[l];rfl
 have g:∀j∈cG ps (.side qs),j<p:=λj n=>M.w.cK l n
 have P:(cG ps (.side qs))≠[]:=λz=>by
  have:=M.ed p _ l;by_cases c:(Fm.side qs).ns=[]
  .have:=M.lf p _ l c (λq q q e=>by cases e);rw[J]at this;cases this
  .have:=this c (v+1);rw[J,z]at this;have:v=v+1:=this;lia
 have C:(Fm.side qs).ns≠[]:=λz=>P (by unfold cG;rw[z];rfl)
 have R:=M.ed p _ l C;obtain⟨j,n,K⟩:∃j∈cG ps (.side qs),(L.getD j none).isSome=true:=by
  refine Classical.byContradiction λz=>?_
  have T:∀j∈cG ps (.side qs),L.getD j none=none:=λj n=>by
   cases e:L.getD j none with
   | none=>rfl
   | some x=>exact uf ⟨j,n,by rw[e];rfl⟩ z
  have:=R (v+1);rw[getD_none _ _ T,J]at this;have:v=v+1:=this;lia
 let⟨f,a,b⟩:=List.append_of_mem n;let⟨N,O⟩:=M.sd p _ qs l rfl f j a b K;have jp:=g j n;have B:∀i∈f,i<⇑ps/\L.getD i none=none:=λi d=>⟨by have:=g i (by rw[b];exact mem_append_left _ d);lia,N i d⟩
 have o:∀i∈a,i<⇑ps/\L.getD i none=none:=λi d=>⟨by have:=g i (by rw[b];exact mem_append_right _ (vp _ d));lia,O i d⟩
 have D:(cy ps gs p).filter (ib L)=[(j,1,0)]:=by
  rw[m,b,vj,v7,filter_append,v6,vd (show ib L (j,1,0)=true from K)];rw[we λq A=>by let⟨i,d,rfl⟩:=vK.mp A;exact N i d,we λq A=>by let⟨i,d,rfl⟩:=vK.mp A;exact O i d];rfl
 have gj:=M.g j ⋯;have gp:=M.g p pl;have U:gs∘j<=gs∘p:=by
  have W:∃I,iQ (.side qs) ((cG ps (.side qs)).map λj=>gs∘j) I:=by
   let⟨x,Y,Z⟩:=WE ((cG ps (.side qs)).map λj=>gs∘j) (λz=>P (List.map_eq_nil_iff.mp z));exact⟨x,Y,Z⟩
  let⟨I,w⟩:=W;have:=M.ln p _ l I w;rw[<-this];exact w.2 _ (vK.mpr ⟨j,n,rfl⟩)
 have H:∀h,(L.getD p none).getD h=(L.getD j none).getD h:=λh=>by
  rw[R h,show cG ps (Fm.side qs)=f++j::a from b,foldl_append,v5,getD_none f h N,getD_none a _ O]
 have r:∀h t,0<=t->t<gs∘p->dU ls ps gs L k p h t=dU ls ps gs L k j h (if gs∘j<=t then gs∘j else t):=λh t t0 t1=>by
  rw[Wg M (λz=>z.elim (λz=>⋯) λz=>by rw[m]at z;exact P (List.map_eq_nil_iff.mp z)),m,WZ (λi d=>(M.g i (by have:=g i d;lia)).1) t0,List.foldl_map];have E:(λ(h:Int) (i:Nat)=>dU ls ps gs L k (if gs∘i<=t then(i,gs∘i)else(i,t)).1 h (if gs∘i<=t then(i,gs∘i)else(i,t)).2)=λh i=>dU ls ps gs L k i h (if gs∘i<=t then gs∘i else t):=by
   funext h i;by_cases c:gs∘i<=t
   .rw[vd c,vd c]
   .rw[vc c,vc c]
  rw[E,b,foldl_append,v5,xO M f h B,xO M a _ o]
 have S:∀h,(L.getD j none).getD h=gG L j:=λh=>by
  let⟨u,X⟩:=Option.isSome_iff_exists.mp K;unfold gG;rw[X];rfl
 rw[D];refine⟨λx s Q=>?_,⟨vA _,trivial⟩,λq A=>?_⟩
 .show _=if s<0 then x else if s<0+1*gs∘j then dU ls ps gs L k j x ((s-0)%gs∘j)else gG L j
  rw[vc ⋯];by_cases c:s<gs∘j
  .rw[vd ⋯,Int.sub_zero,vZ Q c,r x s Q ⋯,vc ⋯]
  .rw[vc ⋯];rcases Int.lt_or_le s (gs∘p)with z | z
   .rw[r x s Q z,vd ⋯,Zs j x (vA _),S]
   .rw[Zs p x z,H,S]
 .rw[vo.mp A];show 0+1*gs∘j<=_;lia
def Bn(M:Lm ls ps gs L k)(i:ps[p]?=some (y,.again n z))(Q:L.getD p none=some v):se ls ps gs L k p ((cy ps gs p).filter (ib L)):=by
 have Y:=(vx.mp i).1;obtain⟨j,a⟩:∃j,cG ps (.again n z)=[j]:=⟨_,rfl⟩
 have b:cy ps gs p=(j,1,0)::(if 1<n then[(j,n-1,gs∘j)]else[]):=by
  unfold cy;rw[i];show de gs (.again n z) (cG ps (.again n z))=_;rw[a];rfl
 have X:j<p:=M.w.cK i (by show j∈cG ps (.again n z);rw[a];exact vq);have N:=M.k1 p y z n i;have P:=M.g j ⋯;have l:gs∘p=n*gs∘j:=by
  have:=M.ln p _ i (n*gs∘j) (by show iQ (.again n z) ((cG ps (.again n z)).map λj=>gs∘j) _;rw[a];exact⟨_,rfl,rfl⟩);exact this.symm
 have O:=M.ed p _ i (by show(Fm.again n z).ns≠[];exact cons_ne_nil _ _);have C:L.getD j none=some v:=by
  have I:=O v;have J:=O (v+1);rw[Q,show cG ps (Fm.again n z)=[j]from a]at I J;cases e:L.getD j none with
  | none=>rw[v5,e]at J;have:v=v+1:=J;lia
  | some w=>rw[v5,e]at I;have:v=w:=I;rw[this]
 have r:ib L (j,1,0)=true:=by unfold ib;show(L.getD j none).isSome=true;rw[C];rfl
 have g:ib L (j,n-1,gs∘j)=true:=by unfold ib;show(L.getD j none).isSome=true;rw[C];rfl
 have K:(cy ps gs p).filter (ib L)=(j,1,0)::(if 1<n then[(j,n-1,gs∘j)]else[]):=by
  rw[b,v6,vd r];split
  .rw[v6,vd g];rfl
  .rfl
 have A:cy ps gs p≠[]:=by rw[b];exact cons_ne_nil _ _
 have f:∀x:Int,dU ls ps gs L k j x (gs∘j)=v:=λx=>by rw[Zs j x (vA _),C];rfl
 have U:gs∘j<=n*gs∘j:=by
  have:=vT N (show 0<=gs∘j by lia);lia
 have nF:∀h t,0<=t->t<gs∘j->dU ls ps gs L k p h t=dU ls ps gs L k j h t:=λh t D E=>by
  have W:t/gs∘j=0:=Int.ediv_eq_zero_of_lt D E;rw[Wg M (λz=>z.elim (λz=>by rw[l]at z;lia) A),b];rcases By (k:=n) P.1 N D ⋯with⟨_,e⟩ | ⟨c,_⟩ | ⟨c,_⟩
  .rw[e,vZ D E];rfl
  .lia
  .lia
 have H:∀h t,gs∘j<=t->t<n*gs∘j->dU ls ps gs L k p h t=dU ls ps gs L k j v (t%gs∘j):=λh t D E=>by
  have Z:1<=t/gs∘j:=Int.le_ediv_of_mul_le ⋯ ⋯;have q2:t/gs∘j<n:=Int.ediv_lt_of_lt_mul ⋯ E;rw[Wg M (λz=>z.elim (λz=>by rw[l]at z;lia) A),b];rcases By (k:=n) P.1 N (show 0<=t by lia) ⋯with⟨c,_⟩ | ⟨_,_,zs,T,e⟩ | ⟨c,_⟩
  .lia
  .rw[e];rcases T with rfl | rfl
   .show dU ls ps gs L k j (dU ls ps gs L k j h (gs∘j)) _=_;rw[f]
   .show dU ls ps gs L k j (dU ls ps gs L k j (dU ls ps gs L k j h (gs∘j)) (gs∘j)) _=_;rw[f]
  .lia
 have m:∀h s,n*gs∘j<=s->dU ls ps gs L k p h s=v:=λh s S=>by
  rw[Zs p h (by rw[l];exact S),Q];rfl
 have u:gG L j=v:=by unfold gG;rw[C];rfl
 have R:(n-1)*gs∘j=n*gs∘j-gs∘j:=by rw[Int.sub_mul,uw]
 rw[K];by_cases c:1<n
 .rw[vd c];refine⟨λx s B=>?_,⟨vA _,by show 0+1*gs∘j<=gs∘j;lia,trivial⟩,λq o=>?_⟩
  .show _=if s<0 then x else if s<0+1*gs∘j then dU ls ps gs L k j x ((s-0)%gs∘j)else if s<gs∘j then gG L j else if s<gs∘j+(n-1)*gs∘j then dU ls ps gs L k j (gG L j) ((s-gs∘j)%gs∘j)else gG L j
   rw[vc ⋯];by_cases d:s<gs∘j
   .rw[vd ⋯,Int.sub_zero,vZ B d,nF x s B d]
   .rw[vc ⋯,vc d,R,u];by_cases e:s<n*gs∘j
    .rw[vd ⋯,H x s ⋯ e];congr 1;rw[Int.sub_emod_right]
    .rw[vc ⋯,m x s ⋯]
  .rcases mem_cons.mp o with rfl | o
   .show 0+1*gs∘j<=_;rw[l];lia
   .rw[vo.mp o];show gs∘j+(n-1)*gs∘j<=_;rw[R,l];lia
 .have:n=1:=⋯
  subst this;rw[vc c];rw[uw]at l;refine⟨λx s B=>?_,⟨vA _,trivial⟩,λq o=>?_⟩
  .show _=if s<0 then x else if s<0+1*gs∘j then dU ls ps gs L k j x ((s-0)%gs∘j)else gG L j
   rw[vc ⋯];by_cases d:s<gs∘j
   .rw[vd ⋯,Int.sub_zero,vZ B d,nF x s B d]
   .rw[vc ⋯,u,m x s ⋯]
  .rw[vo.mp o];show 0+1*gs∘j<=_;lia
def Dm(M:Lm ls ps gs L k):∀(is:L6) (b:Int),(∀j∈is,j<⇑ps)->
  (∀h s,b<=s->RF ls ps gs L k is b h s=hW (dU ls ps gs L k) L gs h ((cT gs is b).filter (ib L)) s)/\pP gs b ((cT gs is b).filter (ib L))/\(∀q∈(cT gs is b).filter (ib L),q.2.2+q.2.1*gs∘q.1<=b+(is.map λj=>gs∘j).sum)/\0<=(is.map λj=>gs∘j).sum/\
  ∀h s,s<b->hW (dU ls ps gs L k) L gs h ((cT gs is b).filter (ib L)) s=h:=by
 intro z
 induction z with
 | nil=>
  intro b Z;exact⟨λh s Z=>rfl,trivial,(λq a=>nomatch a),vA _,λh s Z=>rfl⟩
 | cons j r ih0=>
  intro b m;have y:=m j vq;have g:∀i∈j::r,1<=gs∘i/\gs∘i<=10^60:=λi l=>M.g i (m i l)
  have A:=g j vq;let⟨o,f,p,B,u⟩:=ih0 (b+gs∘j) λi l=>m i (vp _ l)
  have w:∀h t,b<=t->t<b+gs∘j->RF ls ps gs L k (j::r) b h t=dU ls ps gs L k j h (t-b):=λh t x C=>by
   unfold RF;rw[Yu g x,vc ⋯];rfl
  have e:∀h t,b+gs∘j<=t->RF ls ps gs L k (j::r) b h t=RF ls ps gs L k r (b+gs∘j) ((L.getD j none).getD h) t:=λh t x=>by
   unfold RF;rw[Yu g ⋯,vd ⋯,v5];show List.foldl _ (dU ls ps gs L k j h (gs∘j)) _=_;rw[Zs j h (vA _)]
  rw[v7,v8];rw[cT,v6];cases eo:L.getD j none with
  | none=>
   rw[vc (by unfold ib;show¬(L.getD j none).isSome=true;rw[eo];exact vF)];refine⟨λh s d=>?_,?_,λq a=>by have:=p q a;lia,⋯,λh s d=>u h s ⋯⟩
   .rcases Int.lt_or_le s (b+gs∘j)with c | c
    .rw[w h s d c,Aj M j y eo,u h s c]
    .rw[e h s c,eo];exact o h s c
   .revert f
    cases(cT gs r (b+gs∘j)).filter (ib L)with
    | nil=>exact λZ=>trivial
    | cons q r'=>exact λf=>⟨by have:=f.1;lia,f.2⟩
  | some v=>
   have n:gG L j=v:=by unfold gG;rw[eo];rfl
   rw[vd (by unfold ib;show(L.getD j none).isSome=true;rw[eo];rfl)];refine⟨λh s d=>?_,⟨vA _,?_⟩,λq a=>?_,⋯,λh s d=>?_⟩
   .show _=if s<b then h else if s<b+1*gs∘j then dU ls ps gs L k j h ((s-b)%gs∘j)else hW (dU ls ps gs L k) L gs (gG L j) _ s
    rw[vc ⋯];rcases Int.lt_or_le s (b+gs∘j)with c | c
    .rw[vd ⋯,vZ ⋯ ⋯,w h s d c]
    .rw[vc ⋯,e h s c,eo,n];exact o v s c
   .show pP gs (b+1*gs∘j) _;rw[uw];exact f
   .rcases mem_cons.mp a with rfl | a
    .show b+1*gs∘j<=_;lia
    .have:=p q a;lia
   .show(if s<b then h else _)=h;rw[vd d]
def Dc(M:Lm ls ps gs L k)(l:ps[p]?=some (y,.row qs))(I:L.getD p none=some v):se ls ps gs L k p ((cy ps gs p).filter (ib L)):=by
 have R:=(vx.mp l).1;have g:cy ps gs p=cT gs (cG ps (.row qs)) 0:=by unfold cy;rw[l];rfl
 have o:∀j∈cG ps (.row qs),j<p:=λj d=>M.w.cK l d
 have f:(Fm.row qs).ns≠[]:=λz=>by
  have:=M.lf p _ l z (λZ Z Z e=>by cases e);rw[I]at this;cases this
 have A:=M.ed p _ l f;have J:gs∘p=((cG ps (.row qs)).map λj=>gs∘j).sum:=(M.ln p _ l _ rfl).symm;let⟨B,C,D,N,O⟩:=Dm M (cG ps (.row qs)) 0 λj d=>by have:=o j d;lia
 have u:cy ps gs p≠[]:=by
  rw[g];intro z;cases e:cG ps (.row qs)with
  | nil=>exact f (List.map_eq_nil_iff.mp e)
  | cons a r=>rw[e,cT]at z;cases z
 have t:∀(m:L6) (b h s:Int),(∀j∈m,j<⇑ps)->b+(m.map λj=>gs∘j).sum<=s->RF ls ps gs L k m b h s=m.foldl (λh j=>(L.getD j none).getD h) h:=λm=>by
  induction m with
  | nil=>intro b h s Z Z;rfl
  | cons j r ih=>
   intro b h s d H;rw[v7,v8]at H;have w:∀i∈j::r,1<=gs∘i/\gs∘i<=10^60:=λi n=>M.g i (d i n)
   have P:=w j vq;have Q:=(Dm M r 0 λi n=>d i (vp _ n)).2.2.2.1;unfold RF;rw[Yu w ⋯,vd ⋯,v5,v5];show List.foldl _ (dU ls ps gs L k j h (gs∘j)) _=_;rw[Zs j h (vA _)];exact ih (b+gs∘j) _ s (λi n=>d i (vp _ n)) ⋯
 rw[g];refine⟨λx s K=>?_,C,λq E=>by rw[J];have:=D q E;lia⟩;rw[<-B x s K];rcases Int.lt_or_le s (gs∘p)with c | c
 .rw[Wg M (λz=>z.elim (λz=>⋯) u),g];rfl
 .rw[t _ 0 x s (λj d=>by have:=o j d;lia) ⋯,Zs p x c,A x]
def Lc(M:Lm ls ps gs L k)(g:p<⇑ps)(d:pj L (fM ps gs L) p=false):se ls ps gs L k p ((fM ps gs L).getD p []):=by
 rw[wc];unfold pj at d;rw[wc]at d;have c:(λq:Pc=>(L.getD q.1 none).isSome)=ib L:=rfl;rw[c]at d|-;have a:=vz g;cases hv:L.getD p none with
 | none=>
  have h:(cy ps gs p).filter (ib L)=[]:=we λq b=>by
   unfold cy at b;rw[a]at b;exact M.no p _ a hv q.1 (Yn b)
  rw[h];exact⟨λx s j=>Aj M p g hv s x,trivial,λq b=>nomatch b⟩
 | some v=>
  cases b:ps[p]with
  | mk y f=>
   rw[b]at a;cases f with
   | row qs=>exact Dc M a hv
   | side qs=>exact CJ M a hv
   | again n z=>exact Bn M a hv
   | hold n=>have:=M.lf p _ a rfl (λj j j e=>by cases e);rw[hv]at this;cases this
   | ring z n=>have:=M.lf p _ a rfl (λj j j e=>by cases e);rw[hv]at this;cases this
   | rise z u n=>
    rw[hv,BW (gs:=gs) a (rfl:(Fm.rise z u n).ns=[])]at d;cases d
def Ld(M:Lm ls ps gs L k)(t:p<⇑ps)(r:pj L (fM ps gs L) p=true)(H:0<=s)(I:s<=gs∘p):dU ls ps gs L k p h s=Rp.ramp h (gG L p) (gs∘p) s:=by
 have D:=r;unfold pj at r;let⟨C,l⟩:=Bool.and_eq_true_iff.mp r;let⟨v,b⟩:=Option.isSome_iff_exists.mp C;have l:=isEmpty_iff.mp l;rw[wc]at l;have i:(λq:Pc=>(L.getD q.1 none).isSome)=ib L:=rfl;rw[i]at l;have a:=vz t;have j:gG L p=v:=by unfold gG;rw[b];rfl
 have E:=(M.g p t).1;rcases Int.lt_or_le s (gs∘p)with c | c
 .cases hq:ps[p]with
  | mk y f=>
   rw[hq]at a;have g:∀P:se ls ps gs L k p ((cy ps gs p).filter (ib L)),dU ls ps gs L k p (v+1) (gs∘p)=v+1:=λP=>by
    rw[P.h _ _ ⋯,l];rfl
   have o:¬dU ls ps gs L k p (v+1) (gs∘p)=v+1:=by
    rw[Zs p _ (vA _),b];show¬v=v+1;lia
   cases f with
   | row qs=>exact uf (g (Dc M a b)) o
   | side qs=>exact uf (g (CJ M a b)) o
   | again n z=>exact uf (g (Bn M a b)) o
   | hold n=>have:=M.lf p _ a rfl (λZ Z Z e=>by cases e);rw[b]at this;cases this
   | ring z n=>have:=M.lf p _ a rfl (λZ Z Z e=>by cases e);rw[b]at this;cases this
   | rise z u n=>
    let⟨x,m⟩:=M.rs p y z u n a;have B:=BW (gs:=gs) a (rfl:(Fm.rise z u n).ns=[]);have w:cP (bW ls) z=k:=by
     by_cases d:cP (bW ls) z=k
     .exact d
     .rw[vc d,b]at m;cases m
    rw[vd w,b]at m;have A:=vL m;subst A;unfold dU;rw[JE (.inr B)];show iV ls ps gs L k h (p,s)=_;unfold iV;rw[vc (by show¬gs∘p<=s;lia),a];show(if cP (bW ls) z=k then Rp.ramp h v n s else h)=_;rw[vd w,j,x]
 .have e:s=gs∘p:=⋯
  rw[Zs p h c,b,e,j,Rp.ends ⋯];rfl
end
noncomputable def wA(o:Nu)(a:Int):Int:=match o with
 | none=>a
 | some x=>if a=x then 1 else 0
def Lk(h:0<=a/\a<=10^18):0<=wA o a/\wA o a<=10^18:=by
 unfold wA;split
 .exact h
 .split<;>lia
theorem Cd:∀m:Nat,Pr.oF s g b (m:Int)=dH (λj=>Rp.ramp s g b j) m
 | 0=>by
  unfold Pr.oF;rw[show((0:Nat):Int)=0 from rfl,Int.mul_zero,Fs.xS (vA _)];rfl
 | m+1=>by
  have a:=Cd (s:=s) (g:=g) (b:=b) m;unfold Pr.oF at a|-;rw[show((m+1:Nat):Int)=(m:Int)+1 from rfl,Fs.Fy ⋯,Int.mul_add,Int.mul_one];show _=dH (λj=>Rp.ramp s g b j) m+Rp.ramp s g b (m:Int);rw[<-a];unfold Rp.ramp;rw[uy];lia
theorem BG(a:0<b):∀m:Nat,Rp.count s g b x (m:Int)=dH (λj=>wA (some x) (Rp.ramp s g b j)) m
 | 0=>Rp.D9
 | m+1=>by
  have c:=BG (s:=s) (g:=g) (x:=x) a m;have d:=Rp.EA (s:=s) (g:=g) (h:=x) (m:=(m:Int)) a ⋯;rw[show((m+1:Nat):Int)=(m:Int)+1 from rfl];show _=dH (λj=>wA (some x) (Rp.ramp s g b j)) m+(if Rp.ramp s g b (m:Int)=x then 1 else 0);rw[<-c,<-d];lia
def iP(o:Nu):Prop:=∀x,o=some x->-10^60<=x/\x<=10^60
inductive fX(vs:N2)(H:Hp)(Q:VK)(xk:XK):Prop
 | mk (o:Nu) (h g b m:Int) (_:vs=[dD o,.int h,.int g,.int b,.int m]) (_:iP o) (_:0<=h) (_:h<=10^18) (_:0<=g) (_:g<=10^18) (_:1<=b) (_:b<=10^18) (_:0<=m) (_:m<=10^18+1) (_:∀H',bX H H'->Q (.int (dH (λj=>wA o (Rp.ramp h g b j)) m.toNat)) H'):fX vs H Q xk
inductive gV(vs:N2)(H:Hp)(Q:VK)(xk:XK):Prop
 | mk (o:Nu) (h m:Int) (_:vs=[dD o,.int h,.int m]) (_:0<=h) (_:h<=10^18) (_ : -10^100<=m) (_:m<=10^100) (_:Q (.int (wA o h*m)) H):gV vs H Q xk
section
variable{ls:L4}{ps:N1}{gs:L5}{hs:L1}{E:L0}{k:Nat}
def DJ(N:Sn ls ps gs hs)(j:⇑E=⇑ps)(l:cI ls ps E)(i:x.1<⇑ps)(m:0<=x.2)(a:0<=h/\h<=10^18):0<=iV ls ps gs (cR E (k:Nat)) k h x/\iV ls ps gs (cR E (k:Nat)) k h x<=10^18:=by
 unfold iV;by_cases c:gs∘x.1<=x.2
 .rw[vd c];cases e:(cR E (k:Nat)).getD x.1 none with
  | none=>exact a
  | some v=>exact Ai N j l i _ (XU x.1 e)
 .rw[vc c];have b:=vz i;cases e:ps[x.1]with
  | mk y f=>
   rw[e]at b;rw[b];cases f with
   | rise z v n=>
    show 0<=(if cP (bW ls) z=k then Rp.ramp h v n x.2 else h)/\(if cP (bW ls) z=k then Rp.ramp h v n x.2 else h)<=10^18;have r:=N.uG x.1 y z v n b;have g:=((N.lm (k:=k) j l).rs x.1 y z v n b).1;by_cases d:cP (bW ls) z=k
    .rw[vd d];exact Ca a ⟨r.1,r.2.1⟩ r.2.2.1 m ⋯
    .rw[vc d];exact a
   | hold n=>exact a
   | ring z n=>exact a
   | row z=>exact a
   | side z=>exact a
   | again z n=>exact a
def Bb(N:Sn ls ps gs hs)(d:⇑E=⇑ps)(e:cI ls ps E):∀{xs:L3} {h:Int},(∀x∈xs,x.1<⇑ps/\0<=x.2)->0<=h/\h<=10^18->0<=xs.foldl (iV ls ps gs (cR E (k:Nat)) k) h/\xs.foldl (iV ls ps gs (cR E (k:Nat)) k) h<=10^18:=by
 intro f
 induction f with
 | nil=>
  intro q q a;exact a
 | cons x xs ih0=>
  intro h b a;rw[v5];exact ih0 (λy c=>b y (vp _ c)) (DJ N d e (b x vq).1 (b x vq).2 a)
end
structure mU(ls:L4)(ps:N1)(gs:L5)(hs:L1)(E:L0)(k:Nat)(x:Str)(f:Int)(B:List Tb):Prop where
 n:Sn ls ps gs hs
 lE:⇑E=⇑ps
 oE:cI ls ps E
 hk:ls[k]?=some (x,f)
 so:iR f (cR E (k:Nat)) gs (fM ps gs (cR E (k:Nat)))
 bo:i6 f (cR E (k:Nat)) (fM ps gs (cR E (k:Nat))) B
noncomputable abbrev hT(ls:L4)(ps:N1)(gs:L5)(E:L0)(k:Nat):Nat->Int->Int->Int:=dU ls ps gs (cR E (k:Nat)) k
section
variable{ls:L4}{ps:N1}{gs:L5}{hs:L1}{E:L0}{k:Nat}{x:Str}{f:Int}{B:List Tb}{o:Nu}
def mU.len(O:mU ls ps gs hs E k x f B):⇑(fM ps gs (cR E (k:Nat)))=⇑ps:=vt _
def mU.LV(O:mU ls ps gs hs E k x f B)(a:p<⇑ps)(c:0<=h/\h<=10^18)(d:0<=s):0<=hT ls ps gs E k p h s/\hT ls ps gs E k p h s<=10^18:=
 Bb O.n O.lE O.oE (λy b=>⟨Yt O.n.s.w a b,Xe O.n a d b⟩) c
def mU.has(O:mU ls ps gs hs E k x f B)(a:fJ B i h):0<=h/\h<=10^18:=by
 have g:∃q∈B.getD i [],q.1=Sum.inl h:=by
  unfold fJ at a;rw[<-zH,any_eq_true]at a;let⟨q,c,d⟩:=a;exact⟨q,c,of_decide_eq_true d⟩
 let⟨q,j,e⟩:=g;let⟨y,b,l,m,Z⟩:=O.bo.key O.so j;rw[e]at b;cases b;exact⟨l,m⟩
def mU.wh(O:mU ls ps gs hs E k x f B)(a:p<⇑ps)(c:0<=h/\h<=10^18):0<=lH (hT ls ps gs E k) gs (wA o) p h/\lH (hT ls ps gs E k) gs (wA o) p h<=10^78:=by
 have b:=Dr (f:=λj=>wA o (hT ls ps gs E k p h j)) (B:=10^18) (n:=(gs∘p).toNat) λj q=>Lk (O.LV a c ⋯)
 have g:=O.n.g a;refine⟨b.1,Int.le_trans b.2 ?_⟩;rw[show(((gs∘p).toNat:Nat):Int)=gs∘p by lia];lia
noncomputable def pV(L:List (Nu))(B:List Tb):Int->List hV->Prop
 | _,[]=>True
 | h,y::r=>fJ B y.1 h/\pV L B (gG L y.1) r
def II:∀{PC:List Pc} {b h:Int},pP gs b PC->(∀q∈PC,fS gs q)->Run L B h PC->pV L B h (dA gs s PC):=by
 intro j
 induction j with
 | nil=>
  intro Z Z Z Z Z;exact trivial
 | cons q r ih0=>
  intro b h a f d;by_cases c:q.2.2<=s
  .have g:dA gs s (q::r)=(q.1,q.2.2,ov gs s q,if ov gs s q<q.2.1 then some (s-q.2.2-ov gs s q*gs∘q.1)else none)::dA gs s r:=by
    unfold dA;rw[filterMap_cons];have e:cZ gs s q=some (q.1,q.2.2,ov gs s q,if ov gs s q<q.2.1 then some (s-q.2.2-ov gs s q*gs∘q.1)else none):=by
     unfold cZ;rw[vd c]
    rw[e]
   rw[g];exact⟨d.1,ih0 a.2 (λx i=>f x (vp _ i)) d.2⟩
  .rw[Bz (gs:=gs) (s:=s) (r:=q::r) (b:=q.2.2) ⟨vA _,a.2⟩ f ⋯];trivial
def IE(h:y∈dA gs s PC)(j:∀q∈PC,fS gs q):∃q∈PC,y.1=q.1/\y.2.1=q.2.2/\0<=y.2.1/\y.2.1<=s/\0<=y.2.2.1/\y.2.2.1<=10^18/\∀r,y.2.2.2=some r->0<=r/\r<gs∘y.1:=by
 unfold dA at h;let⟨q,b,e⟩:=mem_filterMap.mp h;let⟨Z,l,Z,o,p,f,Z⟩:=j q b;unfold cZ at e;by_cases c:q.2.2<=s
 .rw[vd c]at e;have e:=vL e;subst e;have k:0<=(s-q.2.2)/gs∘q.1:=Int.ediv_nonneg ⋯ ⋯;refine⟨q,b,rfl,rfl,f,c,?_,?_,λr a=>?_⟩
  .show 0<=ov gs s q;unfold ov;split<;>lia
  .show ov gs s q<=10^18;unfold ov;split<;>lia
  .have a:(if ov gs s q<q.2.1 then some (s-q.2.2-ov gs s q*gs∘q.1)else none)=some r:=a;by_cases d:ov gs s q<q.2.1
   .rw[vd d]at a;have a:=vL a;have i:ov gs s q=(s-q.2.2)/gs∘q.1:=by
     unfold ov at d|-;split at d
     .lia
     .rename_i z;rw[vc z]
    rw[i]at a;have g:=Int.mul_ediv_add_emod (s-q.2.2) (gs∘q.1);have m:=ve (s-q.2.2) (show gs∘q.1≠0 by lia);have n:=vf (s-q.2.2) (show 0<gs∘q.1 by lia);rw[Int.mul_comm]at g;show 0<=r/\r<gs∘q.1;lia
   .rw[vc d]at a;cases a
 .rw[vc c]at e;cases e
end
structure Tl where
 st:Addr
 t:Ta
 w:Addr
 wa:L7
noncomputable def lq(z:Tl)(last:Int)(o:Nu):List (Str×V):=cx "wholes" (.ref z.w) (cx "asked" (dD o) (cx "last" (.int last) (cx "strand" (.ref z.st) [])))
section
variable{z:Tl}{last:Int}{o:Nu}
def wg:(lq z last o).lookup ("wholes" : Str)=↥z.w:=JB
def WF:(lq z last o).lookup ("asked" : Str)=some (dD o):=(jE ∅).trans JB
def HB:(lq z last o).lookup ("last" : Str)= ~~~last:=(jE ∅).trans ((jE ∅).trans JB)
def qX:(lq z last o).lookup ("strand" : Str)=↥z.st:=(jE ∅).trans ((jE ∅).trans ((jE ∅).trans JB))
def xL:(lq z last o).lookup ("within" : Str)=none:=(jE ∅).trans ((jE ∅).trans ((jE ∅).trans (jE ∅)))
def Gz:(lq z last o).lookup ("ahead" : Str)=none:=(jE ∅).trans ((jE ∅).trans ((jE ∅).trans (jE ∅)))
end
def nE(H:Hp)(wa:L7)(B:List Tb)(W:Nat->Int->Int)(n:Nat):Prop:=⇑wa=n/\∀i a,wa[i]?=some a->∃kvs,H a=some (.dK kvs)/\∀h,fJ B i h->cO kvs (Sum.inl h)=some (.int (W i h))
def nE.same{H H':Hp}{W:Nat->Int->Int}(h:nE H wa B W n)(s:bX H H'):nE H' wa B W n:=⟨h.1,λi a e=>by
 let⟨b,c,d⟩:=h.2 i a e;exact⟨b,s _ _ c,d⟩⟩
structure pT(C Cs:Addr)(H:Hp)(a:Addr)(z:Tl)(o:Nu)(ls:L4)(ps:N1)(gs:L5)(E:L0)(k:Nat)(f:Int)(B:List Tb)(n:Nat):Prop where
 ob:∃dx,H a=some (.ins C dx (lq z (gs∘(⇑ps-1)) o))
 st:gd Cs H z.st z.t f (cR E (k:Nat)) gs (fM ps gs (cR E (k:Nat))) B
 w:H z.w=some (.lst (z.wa.map V.ref))
 wd:nE H z.wa B (lH (hT ls ps gs E k) gs (wA o)) n
def pT.same{H H':Hp}(A:pT C Cs H a z o ls ps gs E k f B n)(s:bX H H'):pT C Cs H' a z o ls ps gs E k f B n:=
 ⟨A.ob.imp λb h=>s _ _ h,A.st.same s,s _ _ A.w,A.wd.same s⟩
noncomputable def nA(H:Hp)(v:V):Option (Nat×Int×Int)->Prop
 | none=>v = .cW
 | some y=>∃c,v = .ref c/\H c=some (.tup [.int (y.1:Nat),.int y.2.1,.int y.2.2])
inductive eK(C Cs:Addr)(vs:N2)(H:Hp)(Q:VK)(xk:XK):Prop
 | mk (a:Addr) (z:Tl) (o:Nu) (ls:L4) (ps:N1) (gs:L5) (hs:L1) (E:L0) (k:Nat) (x:Str) (f:Int) (B:List Tb) (n i:Nat) (h s:Int) (_:vs=[.ref a,.int (i:Nat),.int h,.int s]) (_:pT C Cs H a z o ls ps gs E k f B n) (_:mU ls ps gs hs E k x f B) (_:iP o) (_:i<=n) (_:i<⇑ps) (_:fJ B i h) (_:0<=s) (_:s<=gs∘i+1) (_:∀(r:Addr) (v:V) (told:Int) (y:Option (Nat×Int×Int)) (H':Hp),bX H H'->H' r=some (.tup [.int told,v])->nA H' v y->resT (hT ls ps gs E k) (wA o) (told,y)=dH (λj=>wA o (hT ls ps gs E k i h j)) s.toNat->(∀u,y=some u->u.1<i/\fJ B u.1 u.2.1/\0<=u.2.2/\u.2.2<=gs∘u.1)->(s=gs∘i->y=none)->Q (.ref r) H'):eK C Cs vs H Q xk
inductive gk(C Cs:Addr)(vs:N2)(H:Hp)(Q:VK)(xk:XK):Prop
 | mk (a dx b pl pp:Addr) (las pas:L7) (ls:L4) (ps:N1) (gs:L5) (hs:L1) (x:Str) (f:Int) (k:Nat) (o:Nu) (_:vs=[.ref a,.ref b,.str x,dD o]) (_:H a=some (.ins C dx [])) (_:cH H b pl pp las pas ls ps) (_:Sn ls ps gs hs) (_:ls[k]?=some (x,f)) (_:iP o) (_:∀(z:Tl) (E:L0) (B:List Tb) (H':Hp),(∀c u,c≠a->H c=some u->H' c=some u)->mU ls ps gs hs E k x f B->pT C Cs H' a z o ls ps gs E k f B ⇑ps->Q .cW H'):gk C Cs vs H Q xk
inductive dq(C Cs:Addr)(vs:N2)(H:Hp)(Q:VK)(xk:XK):Prop
 | mk (a:Addr) (z:Tl) (o:Nu) (ls:L4) (ps:N1) (gs:L5) (hs:L1) (E:L0) (k:Nat) (x:Str) (f:Int) (B:List Tb) (t:Int) (_:vs=[.ref a,.int t]) (_:pT C Cs H a z o ls ps gs E k f B ⇑ps) (_:mU ls ps gs hs E k x f B) (_:iP o) (_:0<=t) (_:t<=gs∘(⇑ps-1)+1) (_:∀H',bX H H'->Q (.int (dH (λj=>wA o ((cL ls ps gs E j).getD k 0)) t.toNat)) H'):dq C Cs vs H Q xk
def gd.less{H:Hp}(i:H a=some (.ins C dx []))(A:gd Cs H so z f L gs PC B) :
  ∃j:Hp,(∀H',(∀c u,c≠a->H c=some u->H' c=some u)->bX j H')/\(∀{c u},j c=some u->c≠a)/\gd Cs j so z f L gs PC B:=by
 have s:∀{c:Addr} {d:N2},H c=some (.tup d)->(λc=>if c=a then none else H c) c=some (.tup d):=λ{c d} h=>by
  show(if c=a then none else H c)=_;rw[vc (λz=>by rw[z,i]at h;cases h)];exact h
 have g:∀{c:Addr} {d:N2},H c=some (.lst d)->(λc=>if c=a then none else H c) c=some (.lst d):=λ{c d} h=>by
  show(if c=a then none else H c)=_;rw[vc (λz=>by rw[z,i]at h;cases h)];exact h
 refine⟨λc=>if c=a then none else H c,λH' k c u h=>?_,λ{c u} h z=>?_,?_⟩
 .have h:(if c=a then none else H c)=some u:=h;by_cases e:c=a
  .rw[vd e]at h;cases h
  .rw[vc e]at h;exact k c u e h
 .have h:(if c=a then none else H c)=some u:=h;rw[vd z]at h;cases h
 .refine⟨?_,g A.hs,g A.hl,g A.hp,cg.mono A.pa λa e ⟨n,r,l⟩=>⟨n,g r,cg.mono l λb q h=>s h⟩,g A.hb,cg.mono A.ba λc k ⟨o,h⟩=>⟨o,by
   show(if c=a then none else H c)=_;rw[vc (λz=>by rw[z,i]at h;cases h)];exact h⟩⟩
  let⟨p,h⟩:=A.ob;refine⟨p,?_⟩;show(if so=a then none else H so)=_;rw[vc (λe=>?_)]
  .exact h
  .rw[e,i]at h;have:=congrArg (λo:Option HO=>match o with | some (.ins _ _ fs)=>⇑fs | _=>0) h;have l:(0:Nat)=⇑(iH z f):=this;have m:=@Bm z f;rw[length_eq_zero_iff.mp l.symm]at m;cases m
section
variable(ls:L4)(ps:N1)(gs:L5)(E:L0)(k:Nat)(o:Nu)
noncomputable def pN(t:Int):Int:=dH (λj=>wA o ((cL ls ps gs E j).getD k 0)) t.toNat
end
section
variable{ls:L4}{ps:N1}{gs:L5}{hs:L1}{E E':L0}{k:Nat}{x:Str}{f:Int}{B:List Tb}{o:Nu}
def Co:pN ls ps gs E k o 0=0:=rfl
def Cn{t:Int}(a:0<=t):pN ls ps gs E k o (t+1)=pN ls ps gs E k o t+wA o ((cL ls ps gs E t).getD k 0):=by
 unfold pN;rw[show(t+1).toNat=t.toNat+1 by lia];show dH _ t.toNat+wA o ((cL ls ps gs E ((t.toNat:Nat):Int)).getD k 0)=_;rw[show((t.toNat:Nat):Int)=t by lia]
end
inductive fE(vs:N2)(H:Hp)(Q:VK)(xk:XK):Prop
 | mk (b pl pp:Addr) (las pas:L7) (ls:L4) (ps:N1) (gs:L5) (hs:L1) (x:Str) (f:Int) (k:Nat) (c t:Int) (_:vs=[.ref b,.str x,.int c,.int t]) (_:cH H b pl pp las pas ls ps) (_:Sn ls ps gs hs) (_:ls[k]?=some (x,f)) (_ : -10^60<=c) (_:c<=10^60) (_:0<=t) (_:t<=gs∘(⇑ps-1)+1) (_:∀(E:L0) (H':Hp),bX H H'->⇑E=⇑ps->cI ls ps E->Q (.int (pN ls ps gs E k (some c) t)) H'):fE vs H Q xk
inductive hL(vs:N2)(H:Hp)(Q:VK)(xk:XK):Prop
 | mk (b pl pp:Addr) (las pas:L7) (ls:L4) (ps:N1) (gs:L5) (hs:L1) (x:Str) (f:Int) (k:Nat) (t:Int) (_:vs=[.ref b,.str x,.int t]) (_:cH H b pl pp las pas ls ps) (_:Sn ls ps gs hs) (_:ls[k]?=some (x,f)) (_:0<=t) (_:t<=gs∘(⇑ps-1)+1) (_:∀(E:L0) (H':Hp),bX H H'->⇑E=⇑ps->cI ls ps E->Q (.int (pN ls ps gs E k none t)) H'):hL vs H Q xk
section
variable{ls:L4}{ps:N1}{gs:L5}{hs:L1}{E E':L0}{k:Nat}{x:Str}{f:Int}
def oq(W:fY ls ps)(e:⇑E=⇑ps)(f:cI ls ps E)(a:E'.length=⇑ps)(b:cI ls ps E'):E'=E:=by
 refine ext_getElem ⋯ λi c d=>?_
 have:=Hf W rfl (show ps=ps.take ⇑ps from(v3).symm) (λq q q q=>rfl) f b e a (vb _) i ⋯;rw[vy,vy,vz c,vz d]at this
 first | exact this | exact this.symm
def ry(N:Sn ls ps gs hs)(c:⇑E=⇑ps)(d:cI ls ps E)(a:ls[k]?=some (x,f)){t:Int}(e:0<=t):0<=(cL ls ps gs E t).getD k 0/\(cL ls ps gs E t).getD k 0<=10^18:=by
 have g:=N.ne;rw[Xf N c d a t];exact Bb N c d (λx b=>⟨Yt N.s.w ⋯ b,Xe N ⋯ e b⟩) (N.uE _ (vm a))
end
def Gy{ls:L4}{names:L8}{fs:List Fn}{M:L1}{gs:L5}(D:mq (bW ls) fs M gs)(s:∀x∈bW ls,Ws.ff x=true)(t:∀x∈names,Ws.ff x=true)(u:⇑fs<=⇑names):∀p∈cu names fs,m5 p.2:=by
 have g:∀{j:Nat},j<⇑fs->Ws.ff (names.getD j ⟨#[]⟩)=true:=λh=>t _ (getD_in ⋯)
 intro p r;let⟨i,q⟩:=List.mem_iff_getElem?.mp r;let⟨f,n,rfl⟩:=qW q;have w:=(vx.mp n).1;have a:=(D.f i f n).1;cases f with
 | hold m=>exact⟨by have:=a.1;lia,a.2⟩
 | ring x m=>exact⟨a.2.2,by have:=a.1;lia,a.2.1⟩
 | rise x v m=>
  let⟨⟨j,d⟩,l,b,c,o⟩:=a;exact⟨s x (vm d),l,b,⋯,o⟩
 | row is=>
  let⟨Z,b,c⟩:=a;refine⟨by rw[vt];exact b,λx e=>?_⟩;let⟨j,d,rfl⟩:=vK.mp e;exact g (by have:=c j d;lia)
 | side is=>
  let⟨Z,b,c,Z⟩:=a;refine⟨by rw[vt];exact b,λx e=>?_⟩;let⟨j,d,rfl⟩:=vK.mp e;exact g (by have:=c j d;lia)
 | again k j=>
  let⟨l,b,c⟩:=a;exact⟨⋯,b,g ⋯⟩
theorem xY:∀{kvs:List (Key×V)} {acc:List (Key×V)} {i:Nat} {k:Key} {v:V},(kvs.map (·.1)).Nodup->kvs[i]?=some (k,v)->cO (cS acc kvs) k=some v
 | [],_,_,_,_,_,h=>by simp at h
 | q::r,acc,0,k,v,nd,h=>by
  have h:q=(k,v):=vL h;subst h;rw[v7,ur]at nd;have:∀(r:List (Key×V)) (acc:List (Key×V)),k∉r.map (·.1)->cO (cS acc r) k=cO acc k:=λr=>by
   induction r with
   | nil=>intro acc j;rfl
   | cons p r ih=>
    intro acc h;rw[v7,mem_cons,not_or]at h;show cO (cS (putK acc p.1 p.2) r) k=_;rw[ih _ h.2,YG,vc h.1]
  show cO (cS (putK acc k v) r) k=_;rw[this r _ nd.1,YG,vd rfl]
 | q::r,acc,i+1,k,v,nd,h=>by
  rw[v7,ur]at nd;exact xY (kvs:=r) (acc:=putK acc q.1 q.2) nd.2 #v[h]
def fK.tk{gs:L5}{f:Fn}{g:Int}{i:Nat}(h:fK gs f g)(c:∀j∈f.js,j<i):fK (gs.take i) f g:=by
 have e:∀j,j<i->(gs.take i).getD j 0=gs∘j:=λj a=>by simp_all
 cases f with
 | row is=>
  have h:g=(is.map λj=>gs∘j).sum:=h;exact h.trans (congrArg List.sum (map_congr_left λj a=>(e j (c j a)).symm))
 | side is=>
  let⟨⟨j,a,l⟩,m⟩:=h;exact⟨⟨j,a,by rw[e j (c j a)];exact l⟩,λd b=>by rw[e d (c d b)];exact m d b⟩
 | again k j=>
  show g=k*(gs.take i).getD j 0;rw[e j (c j vq)];exact h
 | hold n=>exact h
 | ring x n=>exact h
 | rise x v n=>exact h
structure oP(H:Hp)(b pl pp:Addr)(las pas:L7)(ls:L4)(names:L8)(fs:List Fn)(M:L1)(gs:L5):Prop where
 bk:cH H b pl pp las pas ls (cu names fs)
 d:mq (bW ls) fs M gs
 nd:names.Nodup
 fn:⇑fs<=⇑names
 qd:⇑fs<=20
 f1:1<=⇑fs
def oP.same{H H':Hp}{b pl d:Addr}{a c:L7}{ls:L4}{names:L8}{fs:List Fn}{M:L1}{gs:L5}(B:oP H b pl d a c ls names fs M gs)(s:bX H H'):oP H' b pl d a c ls names fs M gs:=⟨B.bk.same s,B.d,B.nd,B.fn,B.qd,B.f1⟩
inductive gM(vs:N2)(H:Hp)(Q:VK)(xk:XK):Prop
 | mk (b pl pp:Addr) (las pas:L7) (ls:L4) (names:L8) (fs:List Fn) (M:L1) (gs:L5) (_:vs=[.ref b]) (_:oP H b pl pp las pas ls names fs M gs) (_:∀(d:Addr) (H':Hp),bX H H'->H' d=some (.dK (iJ (names.take ⇑fs) gs))->Q (.ref d) H'):gM vs H Q xk
inductive gS(vs:N2)(H:Hp)(Q:VK)(xk:XK):Prop
 | mk (b pl pp:Addr) (las pas:L7) (ls:L4) (names:L8) (fs:List Fn) (M:L1) (gs:L5) (n:Int) (_:vs=[.ref b,.int n]) (_:oP H b pl pp las pas ls names fs M gs) (_:0<=n) (_:n<=10^70) (_:∀(l:Addr) (xs:L5) (H':Hp),bX H H'->H' l=some (.lst (xs.map V.int))->⇑xs<=30->(∀x∈xs,1<=x/\x<=gs∘(⇑fs-1))->Q (.ref l) H'):gS vs H Q xk
def oP.forms{H:Hp}{fs:List Fn}(B:oP H b pl pp las pas ls names fs M gs):∃g:Nat->Addr,∀(i:Nat) (f:Fn),fs[i]?=some f->(∀a,pas[i]?=some a->H a=some (.tup [.str (names.getD i ⟨#[]⟩),.ref (g i)]))/\ck H (g i) (cY names f):=by
 have:∀i:Nat,∃d:Addr,∀f:Fn,fs[i]?=some f->(∀a,pas[i]?=some a->H a=some (.tup [.str (names.getD i ⟨#[]⟩),.ref d]))/\ck H d (cY names f):=λi=>by
  cases e:fs[i]? with
  | none=>exact⟨b,λf h=>by cases h⟩
  | some f=>
   let⟨a,m,d,k,l⟩:=B.bk.pa.get (Bh (names:=names) e);refine⟨d,λo j=>?_⟩;cases j;exact⟨λn c=>by rw[m]at c;cases c;exact k,l⟩
 exact Classical.axiomOfChoice this
noncomputable def rf(names:L8)(g:Nat->Addr)(n:Nat):List (Str×V):=(List.range n).map λi=>(names.getD i ⟨#[]⟩,.ref (g i))
def C7{g:Nat->Addr}(h:i<n):(rf names g n)[i]?=some (names.getD i ⟨#[]⟩,.ref (g i)):=by
 unfold rf;rw[vv,List.getElem?_range h];rfl
def HC{g:Nat->Addr}(c:names.Nodup)(f:n<=⇑names)(h:j<n):cO (cS [] ((rf names g n).map rS)) (Sum.inr (names.getD j ⟨#[]⟩))=some (.ref (g j)):=by
 refine xY (i:=j) ?_ (by rw[vv,C7 h];rfl);rw[v4];unfold rf;rw[v4];refine pairwise_map.mpr (nodup_range.imp_of_mem λ{x y} a b d e=>d ?_);have a:=v2.mp a;have b:=v2.mp b;exact getD_inj c ⋯ ⋯ (Sum.inr.inj e)
noncomputable def tq(f:Fn):Bool:=match f with
 | .row _=>true
 | .side _=>true
 | .again _ _=>true
 | _=>false
noncomputable def oI:Fn->Str
 | .hold _=>"hold"
 | .ring _ _=>"ring"
 | .rise _ _ _=>"raise"
 | .row _=>"row"
 | .side _=>"side"
 | .again _ _=>"again"
def I7(f:Fn):(if false=true then !mL (.str (oI f)) [.str "row",.str "side",.str "again"]else mL (.str (oI f)) [.str "row",.str "side",.str "again"])=tq f:=by
 have e:=vW (oI f) ["row","side","again"];refine Eq.trans e ?_;cases f
 .exact(by trivial:decide (("hold" : Str)∈[("row" : Str),"side","again"])=false)
 .exact(by trivial:decide (("ring" : Str)∈[("row" : Str),"side","again"])=false)
 .exact(by trivial:decide (("raise" : Str)∈[("row" : Str),"side","again"])=false)
 .exact(by trivial:decide (("row" : Str)∈[("row" : Str),"side","again"])=true)
 .exact(by trivial:decide (("side" : Str)∈[("row" : Str),"side","again"])=true)
 .exact(by trivial:decide (("again" : Str)∈[("row" : Str),"side","again"])=true)
def Fx{H:Hp}{a:Addr}{names:L8}{f:Fn}(h:ck H a (cY names f)):∃xs,H a=some (.tup xs)/\eW xs 0=some (.str (oI f)):=by
 cases f with
 | hold n=>exact⟨_,h,rfl⟩
 | ring x n=>exact⟨_,h,rfl⟩
 | rise x v n=>exact⟨_,h,rfl⟩
 | row is=>let⟨b,c,d⟩:=h;exact⟨_,c,rfl⟩
 | side is=>let⟨b,c,d⟩:=h;exact⟨_,c,rfl⟩
 | again k j=>exact⟨_,h,rfl⟩
def LM{H:Hp}{Q:VK}(h:Q (.int (10^36)) H):rI mh (λi j=>.int (i^j.toNat)) (.int 10) (.int 36) H Q:=⟨10,36,rfl,rfl,⟨by decide,by decide,by decide⟩,h⟩
theorem Cm{g:Nat->Int}:∀{is:L6} {t:Nat} {j:Nat},(∀i∈is,0<=g i)->is[t]?=some j->0<=((is.take t).map g).sum/\((is.take t).map g).sum+g j<=(is.map g).sum
 | [],_,_,_,h=>by simp at h
 | i::r,0,j,nn,h=>by
  have h:i=j:=vL h;subst h;refine⟨vA _,?_⟩;show 0+g i<=g i+(r.map g).sum;have:∀l:L6,(∀i∈l,0<=g i)->0<=(l.map g).sum:=λl=>by
   induction l with
   | nil=>exact λq=>vA _
   | cons a l c=>
    intro h;rw[v7,v8];have:=h a vq;have:=c λi b=>h i (vp _ b)
    lia
  have:=this r λi b=>nn i (vp _ b)
  lia
 | i::r,t+1,j,nn,h=>by
  have c:=Cm (is:=r) (t:=t) (j:=j) (λi b=>nn i (vp _ b)) #v[h];have:=nn i vq;rw[List.take_succ_cons,v7,v8,v7,v8];lia
def oH(s1 s2:Sp):Sp:=λvs H Q E=>∃(a:Addr) (t:Int),vs=[.ref a,.int t]/\(s1 vs H Q E\/s2 vs H Q E)
section
variable{ls:L4}{ps:N1}{gs:L5}{hs:L1}{E:L0}{k:Nat}
def E5(N:Sn ls ps gs hs):dE ps gs (gs∘(⇑ps-1))=[]:=by
 have b:=N.ne;have a:=(N.g (show ⇑ps-1<⇑ps by lia)).1;unfold dE;rw[JE (.inl (vA _)),flatMap_cons,flatMap_nil,append_nil];unfold cV;split
 .rw[vc (by dsimp only;lia)]
 .rfl
def Fb(N:Sn ls ps gs hs)(x:Str){t:Int}(a:0<=t)(b:t<=gs∘(⇑ps-1)):ij x ps gs (min (t+1) (gs∘(⇑ps-1))).toNat-ij x ps gs (min t (gs∘(⇑ps-1))).toNat=((dE ps gs t).count x:Nat):=by
 by_cases c:t=gs∘(⇑ps-1)
 .rw[Int.min_eq_right ⋯,Int.min_eq_right ⋯,c,E5 N];simp
 .rw[Int.min_eq_left ⋯,Int.min_eq_left ⋯,show(t+1).toNat=t.toNat+1 by lia];show ij x ps gs t.toNat+(((dE ps gs ((t.toNat:Nat):Int)).count x:Nat):Int)-_=_;rw[show((t.toNat:Nat):Int)=t by lia];lia
end
inductive gL(vs:N2)(H:Hp)(Q:VK)(xk:XK):Prop
 | mk (b pl pp:Addr) (las pas:L7) (ls:L4) (ps:N1) (gs:L5) (hs:L1) (x0:Str) (f0:Fm) (t:Int) (_:vs=[.ref b,.int t]) (_:cH H b pl pp las pas ls ps) (_:Sn ls ps gs hs) (_:(∀p∈ps,m5 p.2)) (_:ps[0]?=some (x0,f0)) (_:Ws.ff x0=true) (_:1<=⇑ls) (_:⇑ls<=8) (_:0<=t) (_:t<=gs∘(⇑ps-1)) (_:∀H',bX H H'->Q (.bl true) H'):gL vs H Q xk
end Rm
namespace L2
inductive d0(a0 a1:Prop):Prop | mk:a0->a1->d0 a0 a1
inductive m9(a0 a1 a2:Prop):Prop | mk:a0->a1->a2->m9 a0 a1 a2
inductive eD(a0 a1 a2 a3:Prop):Prop | mk:a0->a1->a2->a3->eD a0 a1 a2 a3
inductive hQ(a0 a1 a2 a3 a4:Prop):Prop | mk:a0->a1->a2->a3->a4->hQ a0 a1 a2 a3 a4
inductive i7(a0 a1 a2 a3 a4 a5:Prop):Prop | mk:a0->a1->a2->a3->a4->a5->i7 a0 a1 a2 a3 a4 a5
inductive pS(a0 a1 a2 a3 a4 a5 a6:Prop):Prop | mk:a0->a1->a2->a3->a4->a5->a6->pS a0 a1 a2 a3 a4 a5 a6
inductive oh(a0 a1 a2 a3 a4 a5 a6 a7 a8:Prop):Prop | mk:a0->a1->a2->a3->a4->a5->a6->a7->a8->oh a0 a1 a2 a3 a4 a5 a6 a7 a8
inductive m6(a0 a1 a2 a3 a4 a5 a6 a7 a8 a9:Prop):Prop | mk:a0->a1->a2->a3->a4->a5->a6->a7->a8->a9->m6 a0 a1 a2 a3 a4 a5 a6 a7 a8 a9
inductive oR(a0 a1 a2 a3 a4 a5 a6 a7 a8 a9 a10 a11 a12 a13:Prop):Prop | mk:a0->a1->a2->a3->a4->a5->a6->a7->a8->a9->a10->a11->a12->a13->oR a0 a1 a2 a3 a4 a5 a6 a7 a8 a9 a10 a11 a12 a13
inductive dX{α0:Type}(p:α0->Prop):Prop | mk (x0) (h:p x0):dX p
inductive gw{α0 α1:Type}(p:α0->α1->Prop):Prop | mk (x0 x1) (h:p x0 x1):gw p
inductive iU{α0 α1 α2:Type}(p:α0->α1->α2->Prop):Prop | mk (x0 x1 x2) (h:p x0 x1 x2):iU p
inductive gz{α0 α1 α2 α3:Type}(p:α0->α1->α2->α3->Prop):Prop | mk (x0 x1 x2 x3) (h:p x0 x1 x2 x3):gz p
inductive oj{α0 α1 α2 α3 α4:Type}(p:α0->α1->α2->α3->α4->Prop):Prop | mk (x0 x1 x2 x3 x4) (h:p x0 x1 x2 x3 x4):oj p
inductive mu{α0 α1 α2 α3 α4 α5:Type}(p:α0->α1->α2->α3->α4->α5->Prop):Prop | mk (x0 x1 x2 x3 x4 x5) (h:p x0 x1 x2 x3 x4 x5):mu p
inductive ni{α0 α1 α2 α3 α4 α5 α6:Type}(p:α0->α1->α2->α3->α4->α5->α6->Prop):Prop | mk (x0 x1 x2 x3 x4 x5 x6) (h:p x0 x1 x2 x3 x4 x5 x6):ni p
inductive mx{α0 α1 α2 α3 α4 α5 α6 α7:Type}(p:α0->α1->α2->α3->α4->α5->α6->α7->Prop):Prop | mk (x0 x1 x2 x3 x4 x5 x6 x7) (h:p x0 x1 x2 x3 x4 x5 x6 x7):mx p
inductive rW{α0 α1 α2 α3 α4 α5 α6 α7 α8:Type}(p:α0->α1->α2->α3->α4->α5->α6->α7->α8->Prop):Prop | mk (x0 x1 x2 x3 x4 x5 x6 x7 x8) (h:p x0 x1 x2 x3 x4 x5 x6 x7 x8):rW p
inductive oS{α0 α1 α2 α3 α4 α5 α6 α7 α8 α9:Type}(p:α0->α1->α2->α3->α4->α5->α6->α7->α8->α9->Prop):Prop | mk (x0 x1 x2 x3 x4 x5 x6 x7 x8 x9) (h:p x0 x1 x2 x3 x4 x5 x6 x7 x8 x9):oS p
end L2
def L2.dh(a:sc.kind = .function:=by rfl)(b:sc.isCoroutine=false:=by rfl)(c:sc.isGenerator=false:=by rfl)(d:N.Nodup:=by trivial)(e:N.take ⇑P=P:=by rfl)(f:∀x∈P,sc.names.lookup x=some .local\/sc.names.lookup x=some .cell:=by trivial)(g:∀y∈sc.names,y.2≠.free:=by trivial):L2.cf N P sc:=⟨a,b,c,d,e,f,g⟩
structure PySem.W.Fast:Prop where
  (tw1285815107186928648 tw12979262344797693730 tw7909832216199721293 tw12799913112355971335 tw13343019497822465200 tw11705025955308858132 tw9929941612199826304 tw15861946318377514083 tw15166179813937298337 tw615765157830526558 tw13999798048956458303 tw1609814505652274357 tw9760251930067329929 tw8940497380952005236 tw11259278262877055767 tw12423402506350278653 tw11262620582379365373 tw15209453074362077625 tw5229014153453023086 tw14187988896516196297 tw11271978170069568646 tw9158975256473564628 tw4531865259790811220 tw1432400733082970613 tw10305884081467111974 tw17629826407417105013 tw10999336416159765965 tw8315288435075690338 tw14616649413138956897 tw15578997628192494481 tw15799211904207313985 tw4005271136733333697 tw17663588317765857566 tw8937734413932921862 tw8929238215848465434 tw16829868149905147170 tw6382005856967668832 tw9463362306713476491 tw2400978859626978218 tw16231709738067753734 tw6631789194954001268 tw9089298124688673876 tw14679826922368568081 tw12950185720878199042 tw5060700247046608471 tw8904561662701056751 tw13054657031911176677 tw18237619077887156498 tw14119947081856507630 tw13467339685412299559 tw5712914461381250997 tw2809662339862969597 tw2408421005980293828 tw2003827858261177118 tw3117260904655538367 tw2993036735154991274 tw13017008141799723957 tw14076249204692014818 tw4847038011879298653 tw1975772725395622971 tw8524511700226299028 tw15340241038601409335 tw11820030736790667873 tw6126289267883937304 tw15607307251002164245 tw2143005190144047167 tw11706418931780152527 tw10552082197366042569 tw18258499332788001023 tw9211952375295635878 tw1189911520588356842 tw5167662188115838348 tw7544970558649387426 tw15602215356370827294 tw345088781256131314 tw1344777099878792238 tw2683729313080889015 tw350129251045848101 tw1190527259063163483 tw15278233901604340540 tw9093888787263445235 tw791356724860675863 tw16372260045544542870 tw939440976580411937 tw17943700168543577123 tw3169799272829306582 tw12154710817234406219 tw11880893483731420134 tw8996747329074096357 tw6498464140256066211 tw5209155403966017077 tw3448362718746596737 tw6050994894588109643 tw4494384991226778295 tw18178899005382830955 tw5655760516679559326 tw15810793000727472736 tw6870978757694108472 tw15174887020246318574 tw15060492470358314248 tw10356392939160231455 tw7699400780686853775 tw10499673507666321046 tw8439450895042200588 tw6229251059737441158 tw198094914393932759 tw8745553118212146441 tw1259802756297629847 tw4249919161238941705 tw5744604995208683627 tw9381981905086768950 tw17510958801464208586 tw7407526672795923853 tw170610330752230680 tw1416584651394293820 tw2537961916122214331 tw12648654092498872145 tw12178503126743276788 tw175059876028734350 tw3238346679638117836 tw9953367772583063635 tw18286487317429253886 tw9281388285540866495 tw16931042364860837798 tw4417105014056866503 tw17539771839962102066 tw17192096893873276906 tw16107663534282718888 tw2850773852838301481 tw5657362704099014562 tw13813156522022210728 tw11249050822202593113 tw5714252482534428303 tw11673954250520250675 tw10547296781979920722 tw9414537060504578371 tw1736544912681993759 tw3549072928307576621 tw17734325361767137448 tw9192788440723649126 tw5580658722550771128 tw6891137984602603851 tw11104015824609015234 tw10176821993842380220 tw4225076558051401215 tw11474575828747502831 tw6019187970744859287 tw15530205444898899487 tw10575631107571039053 tw12452789745335378739 tw12438645947634053078 tw6230378414062287134 tw17318842007507223766 tw9542296485538984105 tw3930660459272259756 tw18305070941955156453 tw8620352738497567415 tw13818032273713948107 tw11618401703934602573 tw13679765378730090435 tw3405816291343076302 tw7614551697877571427 tw4775882026062469928 tw3612026939650835622 tw11192515157472729748 tw11212377987344317724 tw18294579309803060689 tw1043733874882280523 tw9261892547034812228 tw3787305123068052060 tw2202258734595347054 tw13312751728950357646 tw16022509434664580982 tw12948578147413445268 tw4898634047229091598 tw10833034189274732273 tw13994563974871781898 tw8305682917103899343 tw8749580472149639226 tw17913954254230202102 tw15812936481104930681 tw985489640206070737 tw5655461624371083649 tw9005737602982279072 tw7716739517888204245 tw4576622606068114802 tw10268872749448975040 tw1139795510711477623 tw4757004519673216353 tw5875678853957706581 tw17522803359734785643 tw4786820871005023037 tw5553208520675196256 tw14833443447553937618 tw9177001912583631806 tw9692604321323733239 tw13372108268997198865 tw15381765738859243367 tw1453877529845450106 tw14033795492751925281 tw16560735967653306959 tw609385376404476317 tw8001054323124444764 tw11116738858050953872 tw6851072674092831543 tw4358184765262646715 tw6404661162812987620 tw11141487004562874379 tw16716294182661553108 tw9522617181091281702 tw8263410796044736941 tw15804972427006897314 tw18406913423674970775 tw7971398772204497601 tw12773436338326007269 tw9998194859159775345 tw9739042842253362577 tw16172726706302676433 tw6140993039210522604 tw5692988775769045679 tw12323109642566003037 tw8570489966449198455 tw10462898014896654789 tw546496031659136158 tw922435297448980923 tw969455690680258785 tw13795408277335221511 tw2263872612184889484 tw1812408262328090199 tw15595205988380903202 tw9783737426575315975 tw5297485436770489334 tw1258284737142943551 tw15876189644929087833 tw5087449875996109600 tw8011711935251236159 tw6465548847092870765 tw12223272691432466714 tw7037957755292955225 tw8311808756616233448 tw17848287476267248011 tw3946444702124207712 tw18195352371641073463 tw15856645398646830797 tw37438185320782142 tw10153451361130222027 tw10168754083514891826 tw1997313774853130792 tw2445614176520216022 tw9882898536323319596 tw11049914161254742704 tw3181334196959762044 tw11154187094403360057 tw17882699226028241519 tw16226017474133006211 tw11617186726864937972 tw4038973993631174590 tw11240798838991867795 tw18330934265551394032 tw15309106667542114187 tw4904322844479368208 tw1722631818127146472 tw12906506352194692552 tw1872704965204742273 tw12726226899374156448 tw920309321246041676 tw2873504376227536580 tw4374779951211808063 tw4767598770708947627 tw831821254656929217 tw8135797347616607944 tw5422019903991926767 tw14946033667021167401 tw7436306368665083262 tw16694489898913134479 tw16749626443504182279 tw14848469153608639420 tw17061629073124518069 tw546598800811776245 tw5260331851136996533 tw10488683992435186389 tw6728751206499568748 tw9061199004580317976 tw18393557853354536002 tw15842958118746285673 tw14712066013221817888 tw1178225945298614746 tw10438246547794059589 tw8382045149617453260 tw3583495371974993221 tw11198676239321896971 tw13843156931876406001 tw15475782791328645429:True)
namespace L2
open PySem PySem.Spec PyProof.Rows
structure dJ(K:cA)(mg:Nw)(x:Str)(st:Stmt)(f:Addr)(d:FuncData)(ps:L8):Prop where
  F:fC K x x st f d
  m:mg x=↥f
  B:Binds K d ps []
def jh{X:Cx}{x:Str}{st:Stmt}{f:Addr}{g:FuncData}{ps:L8}{j k:Nat}{sp:Sp}{e:Expr}{a:Nt}{p b:Pos}{t:TA}(D:dJ X.K X.mg x st f g ps)(F:fH X.prog X.w X.K X.mg X.base oN j f g ps sp)(o:dC k X.A)(i:PA X (e::a) t)(n:j<=k:=by decide)(m:Gl X x:=by rfl)(c:(x==("__debug__" : Str))=false:=by decide)(l:starEach (e::a) X.env=(false,eval e X.env)::starEach a X.env:=by rfl)(d:(backTo b (starEach a X.env)).any (·.1)=false:=by rfl):PE X (.Call (.Name x p) (e::a) [] b) (nP sp [] E0 t):=Iz (F.mono n) o m D.m D.F.kp D.B .nil dG i c l d
end L2
set_option hygiene false
local macro_rules | `(tactic| rotate_right $n) => do
  let k:=n.getNat
  if k<100 then Lean.Macro.throwUnsupported
  let a<-`(some _)
  let b<-`(none)
  let xs:=Array.replicate (k/100) a++Array.replicate (k%100) b
  `(tactic| (refine L2.jz (S':=[$xs,*]) rfl ?_;try dsimp only[L2.eF,L2.Cx.lu]))
set_option hygiene true
local macro_rules | `(tactic| specialize $e) => do
  let i:=λ(k:String)=>Lean.mkIdent (Lean.Name.mkSimple k)
  `(tactic| (refine $e (fun $(i "vs") $(i "H") $(i "Q") $(i "E") $(i "h")=>?_) (fun $(i "cdv") $(i "A") $(i "outer") $(i "s") $(i "H") $(i "vs") $(i "Q") $(i "E") $(i "hr") $(i "h")=>?_);(focus cases $(i "h"):ident;subst_vars;rfl);have $(i "sz"):ident:(10000:Nat)<PySem.sizeLine:=by decide))
def Rm.cw{b:Bool}{A B:Prop}(h:B)(e:b=false:=by trivial):if b=true then A else B:=Rm.c8 e h
def Rm.df{b:Bool}{A B:Prop}(h:A)(e:b=true:=by trivial):if b=true then A else B:=Rm.eN e h
namespace K25
noncomputable section
set_option hygiene false
local macro_rules | `($n <* $f $as*) => `(fH P w K mg base oN $n $f $as*)
set_option hygiene true
open PySem L2 Rm
def top(i:Nat):Stmt:=PySem.Challenge.pw_camplay_k25_whole_counts_grow.main.body.getD i (.Pass ⟨0,0,0,0⟩)
abbrev yQ:Stmt:=top 8
def zr:cf ["named","numbers","number","one"] ["named"] (bV yQ):=dh
abbrev kM:Stmt:=top 9
def D7:cf ["form"] ["form"] (bV kM):=dh
abbrev Wk:Stmt:=top 11
def YF:cf ["book","numbers","found","name","form"] ["book"] (bV Wk):=dh
abbrev Ar:Stmt:=top 12
def ZQ:cf ["book","limbs","found","part","inside","form","left","other"] ["book"] (bV Ar):=dh
abbrev Wm:Stmt:=top 13
def WY:cf ["book","found","left"] ["book"] (bV Wm):=dh
abbrev Zj:Stmt:=top 14
def ZY:cf ["row","moves","limbs","number","limb"] ["row","moves","limbs"] (bV Zj):=dh
abbrev YD:Stmt:=top 15
def DZ:cf ["form","inside"] ["form","inside"] (bV YD):=dh
abbrev Z7:Stmt:=top 16
def QH:cf ["book","moves","found","row","inside","form","length"] ["book"] (bV Z7):=dh
abbrev YC:Stmt:=top 18
def JS:cf ["many","top","plus","bottom","total","slope","reach"] ["many","top","plus","bottom"] (bV YC):=dh
abbrev AD:Stmt:=top 20
def IJ:cf ["start","goal","beats","j"] ["start","goal","beats","j"] (bV AD):=dh
abbrev kO:Stmt:=top 21
def D8:cf ["start","goal","beats","many"] ["start","goal","beats","many"] (bV kO):=dh
abbrev wG:Stmt:=top 22
def EB:cf ["start","goal","beats","height"] ["start","goal","beats","height"] (bV wG):=dh
abbrev wH:Stmt:=top 23
def yT:cf ["start","goal","beats","height","many","beyond","first","behind"] ["start","goal","beats","height","many"] (bV wH):=dh
abbrev yR:Stmt:=top 24
def kg:cf ["start","goal","beats","height","many","found"] ["start","goal","beats","height","many"] (bV yR):=dh
abbrev YE:Stmt:=top 26
def qP:cf ["form","inside","sizes","part","later","found","begin"] ["form","inside","sizes"] (bV YE):=dh
abbrev ZP:Stmt:=top 27
def D0:cf ["book","sizes"] ["book","sizes"] (bV ZP):=dh
abbrev kN:Stmt:=top 28
def Qj:cf ["pieces","sizes","gone","found","part","turns","begin","over","rest"] ["pieces","sizes","gone"] (bV kN):=dh
abbrev QD:Stmt:=top 29
def Jh:cf ["pieces","left","first","found","part","height","now","other","turns","begin"] ["pieces","left","first"] (bV QD):=dh
abbrev qo:Stmt:=(inClass (top 30) 0)
def qO:cf ["self","book","name","limb","left","inside"] ["self","book","name"] (bV qo):=dh
abbrev zM:Stmt:=(inClass (top 30) 1)
def wJ:cf ["self","part"] ["self","part"] (bV zM):=dh
abbrev wI:Stmt:=top 32
def EC:cf ["asked","start","goal","beats","many"] ["asked","start","goal","beats","many"] (bV wI):=dh
abbrev WW:Stmt:=top 33
def Fc:cf ["asked","height","many"] ["asked","height","many"] (bV WW):=dh
abbrev qk:Stmt:=(inClass (top 34) 0)
def J3:cf ["self","book","limb","asked","part","begun","size"] ["self","book","limb","asked"] (bV qk):=dh
abbrev QF:Stmt:=(inClass (top 34) 1)
def jS:cf ["self","part","height","gone","told","now","other","begin","over","rest"] ["self","part","height","gone"] (bV QF):=dh
abbrev Q2:Stmt:=(inClass (top 34) 2)
def JF:cf ["self","beat","told","playing","found"] ["self","beat"] (bV Q2):=dh
abbrev qm:Stmt:=(inClass (top 35) 0)
def qa:cf ["self","book","word","part","pieces","own"] ["self","book","word"] (bV qm):=dh
abbrev Q3:Stmt:=(inClass (top 35) 1)
def jZ:cf ["self","beat","told","playing","now","other","begin","over","rest"] ["self","beat"] (bV Q3):=dh
abbrev kL:Stmt:=top 36
def D5:cf ["tally","beat"] ["tally","beat"] (bV kL):=dh
abbrev yP:Stmt:=top 37
def xu:cf ["book","limb","beat"] ["book","limb","beat"] (bV yP):=dh
abbrev Zz:Stmt:=top 38
def Wa:cf ["book","limb","height","beat"] ["book","limb","height","beat"] (bV Zz):=dh
abbrev yS:Stmt:=top 39
def xv:cf ["book","word","beat"] ["book","word","beat"] (bV yS):=dh
abbrev WX:Stmt:=top 41
def Zl:cf ["pieces","sizes","gone","found","part","begin","over","rest"] ["pieces","sizes","gone"] (bV WX):=dh
abbrev qA:Stmt:=(inClass (top 42) 0)
def KJ:cf ["self","book"] ["self","book"] (bV qA):=dh
abbrev ZX:Stmt:=(inClass (top 42) 1)
def J2:cf ["self","beat","starts","playing","todo","now","limb","height"] ["self","beat"] (bV ZX):=dh
abbrev QG:Stmt:=(inClass (top 42) 2)
def Jj:cf ["self","beat","scene","heights","part","gone","form","limb"] ["self","beat"] (bV QG):=dh
abbrev zi:Stmt:=(inClass (top 42) 3)
def qp:cf ["self","beat","words","part","gone","form"] ["self","beat"] (bV zi):=dh
abbrev Ae:Stmt:=top 43
def Hq:cf ["book","beat"] ["book","beat"] (bV Ae):=dh
abbrev Ac:Stmt:=top 44
def Ho:cf ["book","beat"] ["book","beat"] (bV Ac):=dh
abbrev Zy:Stmt:=top 46
def w6:cf ["_law_script","_law_k"] ["_law_script","_law_k"] (bV Zy):=dh
abbrev yM:Stmt:=top 47
def xr:cf ["_law_cell","_law_k"] ["_law_cell","_law_k"] (bV yM):=dh
abbrev yO:Stmt:=top 48
def xt:cf ["_law_found"] ["_law_found"] (bV yO):=dh
abbrev yK:Stmt:=top 49
def kf:cf ["_law_script","_law_j","_law_k","_law_first"] ["_law_script","_law_j","_law_k"] (bV yK):=dh
abbrev YB:Stmt:=top 50
def DY:cf ["_law_place","_law_k"] ["_law_place","_law_k"] (bV YB):=dh
abbrev Zi:Stmt:=top 51
def qv:cf ["_law_number","_law_names","_law_movers","_law_kind","_law_some","_law_used","_law_j","_law_at","_law_twice"] ["_law_number","_law_names","_law_movers","_law_kind"] (bV Zi):=dh
abbrev Yx:Stmt:=top 52
def Qr:cf ["_law_number","_law_names","_law_movers","_law_limbs","_law_bounds","_law_kind","_law_more","_law_beats","_law_at"] ["_law_number","_law_names","_law_movers","_law_limbs","_law_bounds"] (bV Yx):=dh
abbrev zG:Stmt:=top 53
def DX:cf ["_law_form_here","_law_known_here"] ["_law_form_here","_law_known_here"] (bV zG):=dh
abbrev yN:Stmt:=top 54
def qu:cf ["_law_form_here","_law_names","_law_movers","_law_inner","_law_found","_law_name","_law_one"] ["_law_form_here","_law_names","_law_movers"] (bV yN):=dh
abbrev Yy:Stmt:=top 55
def Q5:cf ["_law_names","_law_known_here","_law_most","_law_some","_law_total","_law_name"] ["_law_names","_law_known_here","_law_most"] (bV Yy):=dh
abbrev Yz:Stmt:=top 56
def KK:cf ["_law_pool","_law_many","_law_found"] ["_law_pool","_law_many"] (bV Yz):=dh
abbrev Qy:Stmt:=top 57
def Jx:cf ["_law_pool","_law_kind","_law_names","_law_movers","_law_bounds","_law_times","_law_many","_law_some","_law_used","_law_j","_law_at","_law_twice"] ["_law_pool","_law_kind","_law_names","_law_movers","_law_bounds"] (bV Qy):=dh
abbrev zk:Stmt:=top 58
def qr:cf ["_law_pool","_law_names","_law_movers","_law_limbs","_law_bounds","_law_kind","_law_beats","_law_limb","_law_some"] ["_law_pool","_law_names","_law_movers","_law_limbs","_law_bounds"] (bV zk):=dh
abbrev zj:Stmt:=top 59
def jC:cf ["_law_script","_law_many","_law_bounds","_law_pool","_law_place","_law_limbs","_law_k","_law_called","_law_ended","_law_names","_law_movers","_law_known_here","_law_parts","_law_cell","_law_own","_law_form_here","_law_name"] ["_law_script","_law_many","_law_bounds"] (bV zj):=dh
abbrev Yv:Stmt:=top 60
def j6:cf ["_law_script","_law_many","_law_bounds","_law_head","_law_limbs","_law_k","_law_height","_law_names","_law_movers","_law_known_here","_law_parts","_law_number","_law_form_here","_law_name"] ["_law_script","_law_many","_law_bounds"] (bV Yv):=dh
abbrev yL:Stmt:=top 61
def zq:cf ["_law_book_here","_law_known_here","_law_name","_law_form_here"] ["_law_book_here"] (bV yL):=dh
abbrev Q4:Stmt:=top 62
def Jc:cf ["_law_book_here","_law_number","_law_forms","_law_known_here","_law_name","_law_base","_law_found","_law_form_here","_law_at"] ["_law_book_here","_law_number"] (bV Q4):=dh
abbrev Zh:Stmt:=top 63
def j4:cf ["_law_book_here","_law_beat","_law_heights","_law_words","_law_k","_law_limb","_law_ahead","_law_behind","_law_more","_law_height","_law_word_here","_law_due"] ["_law_book_here","_law_beat"] (bV Zh):=dh
abbrev uA:Stmt:=top 64
def ZZ:cf ["_law_script","_law_many","_law_book_here","_law_beats","_law_some","_law_k","_law_beat","_law_limb","_law_height"] ["_law_script"] (bV uA):=dh
set_option genInjectivity false in
set_option genSizeOf false in
structure Ad where
 qJ:Addr
 qM:FuncData
 yw:Addr
 yF:FuncData
 Kg:Addr
 Ko:FuncData
 Wr:Addr
 WA:FuncData
 Xn:Addr
 XC:FuncData
 zV:Addr
 Zb:FuncData
 ZE:Addr
 ZK:FuncData
 Z3:Addr
 Z4:FuncData
 ZD:Addr
 ZJ:FuncData
 Xo:Addr
 XD:FuncData
 kx:Addr
 kz:FuncData
 YM:Addr
 YR:FuncData
 KZ:Addr
 K6:FuncData
 yx:Addr
 yG:FuncData
 ZF:Addr
 ZL:FuncData
 zz:Addr
 zD:FuncData
 zc:Addr
 zf:FuncData
 QA:Addr
 QB:FuncData
 qf:Addr
 Qd:FuncData
 qQ:Addr
 qR:FuncData
 K1:Addr
 K7:FuncData
 Kh:Addr
 Kp:FuncData
 Jq:Addr
 JL:FuncData
 JZ:Addr
 J0:FuncData
 qZ:Addr
 Qb:FuncData
 JK:Addr
 qh:FuncData
 Qa:Addr
 Qc:FuncData
 Zo:Addr
 Zp:FuncData
 zW:Addr
 Zc:FuncData
 QV:Addr
 QX:FuncData
 zX:Addr
 Zd:FuncData
 Wt:Addr
 WB:FuncData
 JX:Addr
 qx:FuncData
 Qv:Addr
 Qw:FuncData
 qH:Addr
 qK:FuncData
 Qm:Addr
 Qn:FuncData
 Xq:Addr
 XF:FuncData
 Xp:Addr
 XE:FuncData
 qw:Addr
 qy:FuncData
 qI:Addr
 qL:FuncData
 zU:Addr
 Za:FuncData
 yp:Addr
 yA:FuncData
 zy:Addr
 zC:FuncData
 zT:Addr
 zZ:FuncData
 Yf:Addr
 Yh:FuncData
 QK:Addr
 QL:FuncData
 QU:Addr
 QW:FuncData
 zw:Addr
 zA:FuncData
 zx:Addr
 zB:FuncData
 ZS:Addr
 ZT:FuncData
 zb:Addr
 ze:FuncData
 za:Addr
 zd:FuncData
 Ye:Addr
 Yg:FuncData
 yu:Addr
 yD:FuncData
 yv:Addr
 yE:FuncData
 yt:Addr
 yC:FuncData
 sO:Addr
 rP:FuncData
 jT:Addr
 jG:Addr
 jW:Addr
 Jg:Addr
 Qs:Addr
structure Txt(K:cA)(mg:Nw)(t:Ad):Prop where
 QP:dJ K mg "numbers_of" yQ t.qJ t.qM ["named"]
 Wn:dJ K mg "names_in" kM t.yw t.yF ["form"]
 Wb:dJ K mg "inner" Wk t.Kg t.Ko ["book"]
 Xi:dJ K mg "ends" Ar t.Wr t.WA ["book"]
 Cr:dJ K mg "moved" Wm t.Xn t.XC ["book"]
 kZ:dJ K mg "check_side" Zj t.zV t.Zb ["row","moves","limbs"]
 wN:dJ K mg "length_of" YD t.ZE t.ZK ["form","inside"]
 YI:dJ K mg "lengths" Z7 t.Z3 t.Z4 ["book"]
 wM:dJ K mg "floor_sum" YC t.ZD t.ZJ ["many","top","plus","bottom"]
 CT:dJ K mg "ramp" AD t.Xo t.XD ["start","goal","beats","j"]
 Wo:dJ K mg "ramp_sum" kO t.kx t.kz ["start","goal","beats","many"]
 KR:dJ K mg "reached" wG t.YM t.YR ["start","goal","beats","height"]
 xy:dJ K mg "stretch" wH t.KZ t.K6 ["start","goal","beats","height","many"]
 Ka:dJ K mg "ramp_count" yR t.yx t.yG ["start","goal","beats","height","many"]
 wO:dJ K mg "pieces_in" YE t.ZF t.ZL ["form","inside","sizes"]
 ZC:dJ K mg "pieces_of" ZP t.zz t.zD ["book","sizes"]
 ye:dJ K mg "progress" kN t.zc t.zf ["pieces","sizes","gone"]
 yU:dJ K mg "heights_begun" QD t.QA t.QB ["pieces","left","first"]
 Kd:fC K "__init__" "Strand.__init__" qo t.qf t.Qd
 LZ:Meth K t.jT "__init__" t.qf
 kT:Binds K t.Qd ["self","book","name"] []
 wW:fC K "raises" "Strand.raises" zM t.qQ t.qR
 wv:Meth K t.jT "raises" t.qQ
 wV:Binds K t.qR ["self","part"] []
 xz:dJ K mg "weighed" wI t.K1 t.K7 ["asked","start","goal","beats","many"]
 Wp:dJ K mg "stayed" WW t.Kh t.Kp ["asked","height","many"]
 yZ:fC K "__init__" "LimbTally.__init__" qk t.Jq t.JL
 LX:Meth K t.jG "__init__" t.Jq
 zt:Binds K t.JL ["self","book","limb","asked"] []
 km:fC K "within" "LimbTally.within" QF t.JZ t.J0
 zN:Meth K t.jG "within" t.JZ
 Zn:Binds K t.J0 ["self","part","height","gone"] []
 Kb:fC K "ahead" "LimbTally.ahead" Q2 t.qZ t.Qb
 kA:Meth K t.jG "ahead" t.qZ
 kR:Binds K t.Qb ["self","beat"] []
 y6:fC K "__init__" "RingTally.__init__" qm t.JK t.qh
 LY:Meth K t.jW "__init__" t.JK
 yX:Binds K t.qh ["self","book","word"] []
 Kc:fC K "ahead" "RingTally.ahead" Q3 t.Qa t.Qc
 kB:Meth K t.jW "ahead" t.Qa
 kS:Binds K t.Qc ["self","beat"] []
 yd:dJ K mg "ahead_of" kL t.Zo t.Zp ["tally","beat"]
 zP:dJ K mg "height_sum" yP t.zW t.Zc ["book","limb","beat"]
 QO:dJ K mg "height_count" Zz t.QV t.QX ["book","limb","height","beat"]
 zQ:dJ K mg "ring_count" yS t.zX t.Zd ["book","word","beat"]
 Bw:dJ K mg "within" WX t.Wt t.WB ["pieces","sizes","gone"]
 KS:fC K "__init__" "Stage.__init__" qA t.JX t.qx
 Ma:Meth K t.Jg "__init__" t.JX
 Z0:Binds K t.qx ["self","book"] []
 W5:fC K "scene" "Stage.scene" ZX t.Qv t.Qw
 Ym:Meth K t.Jg "scene" t.Qv
 Y6:Binds K t.Qw ["self","beat"] []
 ko:fC K "heights_at" "Stage.heights_at" QG t.qH t.qK
 Y3:Meth K t.Jg "heights_at" t.qH
 kj:Binds K t.qK ["self","beat"] []
 KU:fC K "words_at" "Stage.words_at" zi t.Qm t.Qn
 Kx:Meth K t.Jg "words_at" t.Qm
 KQ:Binds K t.Qn ["self","beat"] []
 Cu:dJ K mg "stand" Ae t.Xq t.XF ["book","beat"]
 Ct:dJ K mg "rings" Ac t.Xp t.XE ["book","beat"]
 JI:dJ K mg "_law_cell_at" Zy t.qw t.qy ["_law_script","_law_k"]
 JH:dJ K mg "_law_mixed" yM t.qI t.qL ["_law_cell","_law_k"]
 qC:dJ K mg "_law_whole" yO t.zU t.Za ["_law_found"]
 ya:dJ K mg "_law_great" yK t.yp t.yA ["_law_script","_law_j","_law_k"]
 zu:dJ K mg "_law_word" YB t.zy t.zC ["_law_place","_law_k"]
 zO:dJ K mg "_law_named" Zi t.zT t.zZ ["_law_number","_law_names","_law_movers","_law_kind"]
 wL:dJ K mg "_law_form" Yx t.Yf t.Yh ["_law_number","_law_names","_law_movers","_law_limbs","_law_bounds"]
 QI:dJ K mg "_law_long" zG t.QK t.QL ["_law_form_here","_law_known_here"]
 yc:dJ K mg "_law_moves" yN t.QU t.QW ["_law_form_here","_law_names","_law_movers"]
 yY:dJ K mg "_law_last" Yy t.zw t.zA ["_law_names","_law_known_here","_law_most"]
 jU:dJ K mg "_law_take" Yz t.zx t.zB ["_law_pool","_law_many"]
 Y7:dJ K mg "_law_naming" Qy t.ZS t.ZT ["_law_pool","_law_kind","_law_names","_law_movers","_law_bounds"]
 Z2:dJ K mg "_law_form_told" zk t.zb t.ze ["_law_pool","_law_names","_law_movers","_law_limbs","_law_bounds"]
 Z1:dJ K mg "_law_book_told" zj t.za t.zd ["_law_script","_law_many","_law_bounds"]
 wK:dJ K mg "_law_book" Yv t.Ye t.Yg ["_law_script","_law_many","_law_bounds"]
 kW:dJ K mg "_law_known" yL t.yu t.yD ["_law_book_here"]
 kY:dJ K mg "_law_seams" Q4 t.yv t.yE ["_law_book_here","_law_number"]
 kU:dJ K mg "_law_grows" Zh t.yt t.yC ["_law_book_here","_law_beat"]
 AH:dJ K mg "law" uA t.sO t.rP ["_law_script"]
 j9:lI K t.jT
 FX:Mk K t.jT t.qf
 FO:mg "Strand"= ↥t.jT
 Qf:cE K t.jT "first"
 Jv:cE K t.jT "sizes"
 qY:cE K t.jT "left"
 JO:cE K t.jT "pieces"
 Q0:cE K t.jT "begun"
 jF:lI K t.jG
 wP:Mk K t.jG t.Jq
 Ky:mg "LimbTally"= ↥t.jG
 jH:cE K t.jG "strand"
 Qp:cE K t.jG "last"
 JM:cE K t.jG "asked"
 JC:cE K t.jG "wholes"
 jY:lI K t.jW
 D2:Mk K t.jW t.JK
 XY:mg "RingTally"= ↥t.jW
 Ju:cE K t.jW "sizes"
 Qq:cE K t.jW "last"
 JD:cE K t.jW "pieces"
 Jo:cE K t.jW "wholes"
 Jk:lI K t.Jg
 Cv:Mk K t.Jg t.JX
 Bu:mg "Stage"= ↥t.Jg
 zp:cE K t.Jg "limbs"
 zo:cE K t.Jg "first"
 Qx:cE K t.Jg "forms"
 JV:cE K t.Jg "sizes"
 Ze:cE K t.Jg "left"
 QZ:cE K t.Jg "pieces"
 AJ:mg "abs"= none
 HX:mg "bool"= none
 Xu:mg "dict"= none
 ZH:mg "enumerate"= none
 JW:mg "int"= none
 Kj:mg "isinstance"= none
 qg:mg "len"= none
 Aw:mg "list"= none
 sM:mg "max"= none
 uB:mg "min"= none
 zY:mg "range"= none
 Et:mg "reversed"= none
 KW:mg "set"= none
 BC:mg "sorted"= none
 uC:mg "sum"= none
 Wc:mg "tuple"= none
 AK:mg "zip"= none
 Xz:mg "MOST_NAMES"= ↥t.Qs
 Qo:pX K t.Qs [("row",.flat (.int 8)),("side",.flat (.int 4))]
instance:Nonempty Ad:=⟨by constructor<;>exact default⟩
structure Bd where(P:Program)(w:World)(K:cA)(mg:Nw)(base:Heap)(t:Ad)
def gB(b:Bd):Prop:=Txt b.K b.mg b.t->fH b.P b.w b.K b.mg b.base oN 12 b.t.sO b.t.rP ["_law_script"] (Pr.gN b.K)
instance:Nonempty Bd:=⟨⟨PySem.Challenge.pw_camplay_k25_whole_counts_grow,⟨λq q=>0,{strHash:=λq=>0,shareClass:=λq=>0,mergeTok:=id,idOf:=λq=>0,idOfShared:=λq q=>0,followText:=λq=>false,idOfImm:=λq=>0}⟩,[],λq=>none,{},Classical.choice inferInstance⟩⟩
@[irreducible]noncomputable def cB:Bd:=Classical.epsilon λb=>¬gB b
def P:=cB.P
def w:=cB.w
def K:=cB.K
def mg:=cB.mg
def base:=cB.base
def t:=cB.t
section
def xm(T:Txt K mg t):1<*t.qJ t.qM ["named"] (cX):=by
 specialize T.QP.F.ok zr;let⟨l,O,xs,rfl,B,X,U,Z,D,q⟩:=h;refine⟨_,(jb (cz 1 zr.nd Z6)
  (jb (Jd PassesOwn.never rfl (Wi (by rfl) T.ZH (ja (pv 0) jc)) (J1 rfl (jA (cN 2 zr.nd) (jA (cN 3 zr.nd) Jw)))
   (jf (yJ (qS hr) (pv 1) (jk jv (pv 3) jd) (pv 2) rfl)))
  (jf (jx (pv 1))))),?_⟩
 rotate_right 103
 ac_nf;walk_at"f d hd H1 s1 t1";exists⟨l,_,rfl,bZ.of (s1 _ _ B),?_⟩;refine Kq (xs:=O.map V.ref) (λi p c=>gw λ(m n:N3)=>d0 (p=[↥l,↥d,m,n]) (bX H c/\c d=some (.dK (gf (xs.take i))))) ⟨_,_,rfl,s1,t1⟩ ?_ ?_ ?_
 .rintro i p c _ ⟨m,n,rfl,g,f⟩;exact bZ.of (g _ _ B)
 .rintro i v p c P N J ⟨m,n,rfl,g,f⟩ M tP;rw[vv]at J;let⟨a,x,rfl⟩:=vg.mp J;have hi:=(vx.mp x).1;have C:xs[i]?=some xs[i]:=vz ⋯;let⟨r,S⟩:=U i a _ x C;have L:=g.trans M;have o:⇑(xs.take i)=i:=by rw[vi];lia
  refine Qh (cU.of tP) ?_;exists cp (L _ _ S) ?_;refine⟨d,_,rfl,g5.k (k:=Sum.inr xs[i]) (M _ _ f) (by rw[Gk,o];lia),?_⟩;have W:(Sum.inr xs[i]:Key)∉(gf (xs.take i)).map (·.1):=λz=>by
   rw[Xb]at z;let⟨y,Y,e⟩:=vK.mp z;have R:y=xs[i]:=Sum.inr.inj e;subst R;let⟨j,I,e⟩:=mem_iff_getElem.mp Y;rw[getElem_take]at e;rw[o]at I;exact uf e (pairwise_iff_getElem.mp Z j i ⋯ ⋯ I)
  refine⟨_,_,rfl,λb u h=>(jg (je h hd)).trans (L _ _ h),?_⟩;rw[jw,Rm.KH W,take_snoc C,ET,o]
 rintro S' c ⟨m,n,rfl,g,f⟩;rw[vt,X,v3]at f;ac_nf;exact q d c g hd f
def DT(T:Txt K mg t):1<*t.yw t.yF ["form"] (fx):=by
 specialize T.Wn.F.ok D7;let⟨a,f,rfl,d,q⟩:=h;refine⟨_,(jb (Ja (jr Lz (jk jv (pv 0) jd) (IB (v:=.ref t.Qs) (by rfl) T.Xz rfl) (by with_unfolding_all rfl))
   (jf (jx (jk jv (pv 0) jd)))
   jB)
  (jf (jx (Zx (jr Jr (jk jv (pv 0) jd) jI (bY _)) (zF AE (pv 0) (Zg jd) ZO) (jR jc))))),?_⟩
 rotate_right 100
 have e:(200:Nat)<sizeLine:=by decide
 cases f with
 | hold n=>
  have c:H a=some (.tup _):=d;exists cp c ?_;exists⟨_,_,_,rfl,rfl,T.Qo,?_⟩;exists cw ?_;exists cp c ?_;exists cw ?_;exists⟨va _,?_⟩;walk_at"f b hb H1 s1 t1";exact q b H1 s1 t1
 | ring x n=>
  have c:H a=some (.tup _):=d;exists cp c ?_;exists⟨_,_,_,rfl,rfl,T.Qo,?_⟩;exists cw ?_;exists cp c ?_;exists cw ?_;exists⟨va _,?_⟩;walk_at"f b hb H1 s1 t1";exact q b H1 s1 t1
 | rise x v n=>
  have c:H a=some (.tup _):=d;exists cp c ?_;exists⟨_,_,_,rfl,rfl,T.Qo,?_⟩;exists cw ?_;exists cp c ?_;exists cw ?_;exists⟨va _,?_⟩;walk_at"f b hb H1 s1 t1";exact q b H1 s1 t1
 | row ps=>
  let⟨b,c,hb⟩:=d;exists cp c ?_;exists⟨_,_,_,rfl,rfl,T.Qo,?_⟩;exists df ?_;exists cp c ?_;exact q b H (bX.refl _) hb
 | side ps=>
  let⟨b,c,hb⟩:=d;exists cp c ?_;exists⟨_,_,_,rfl,rfl,T.Qo,?_⟩;exists df ?_;exists cp c ?_;exact q b H (bX.refl _) hb
 | again k x=>
  have c:H a=some (.tup _):=d;exists cp c ?_;exists⟨_,_,_,rfl,rfl,T.Qo,?_⟩;exists cw ?_;exists cp c ?_;exists df ?_;exists⟨a,_,rfl,cU.of c,(by show¬(HT.c9 3 0 (some 2)=0/\HT.c9 3 3 none=3);decide),?_⟩;walk_at"f b hb H1 s1 t1";exact q b H1 s1 t1
def Gm(T:Txt K mg t)(Jn:1<*t.qJ t.qM ["named"] (cX))(kq:1<*t.yw t.yF ["form"] (fx)):2<*t.Kg t.Ko ["book"] (fu):=by
 specialize T.Wb.F.ok YF;let⟨b,pl,pp,a2,J,ls,o,rfl,B,W,q⟩:=h;refine⟨_,(jb (jq (i:=1) YF.nd rfl (.inr rfl) (jh T.QP Jn hr (ja (jk jv (pv 0) jd) jc)))
  (jb (cz 2 YF.nd (jP jc))
  (jb (Jd PassesOwn.never rfl (jQ (jk jv (pv 0) jd)) (J1 rfl (jA (cN 3 YF.nd) (jA (cN 4 YF.nd) Jw)))
   (jf (j5 (JP q4 q5 q7 jO (pv 2) (ja (JR (ow:=["other"]) (ci:=[1]) rfl (cj.of (bV Wk) ["book","numbers","found","name","form"] rfl rfl ∅) (qi nofun) (uk (jh T.Wn kq hr (ja (pv 4) jc))) (λ_ _ _ _ _=>⟨(cN 0 (Jy ["book","numbers","found","name","form"] rfl ∅)),Qu,(qj (qS hr) (pv 1) (pv 0))⟩)) jc)))))
  (jf (jx (pv 2)))))),?_⟩
 rotate_right 104
 have a3:=W.l0;have pa:=B.pa.1;exists cp B.t ?_;exists⟨pp,J,bW o,rfl,B.p,by rw[bW,vt];exact pa,λi a x ea Y=>?_,W.pn,by rw[bW,vt];lia,λd H1 L hd ed=>?_⟩
 .unfold bW at Y;rw[vv]at Y;let⟨p,ep,rfl⟩:=vg.mp Y;let⟨fb,hb,_⟩:=B.pa.2 i a p ea ep;exact⟨_,hb⟩
 exists⟨va _,?_⟩;walk_at"f l hl H2 s2 t2";have nl:=none_of L hl;have M:=L.trans s2;exists cp (M _ _ B.t) ?_;refine⟨pp,rfl,⟨_,bZ.of (M _ _ B.p)⟩,?_⟩;refine Ji (xs:=J.map V.ref) (λi σ f=>iU λ(m:L7) (R S:N3)=>eD (σ=[↥b,↥d,↥l,R,S]) (bX H1 f) (f l=some (.lst (m.map V.ref))) ((∀a∈m,H a=none/\a≠l)/\fD f m ((o.take i).map λp=>(cG o p.2).map λj:Nat=>(j:Int))))
  ⟨[],_,_,rfl,s2,t2,(λa h=>nomatch h),.nil⟩ ?_ ?_ ?_
 .rintro i σ f _ ⟨m,R,S,rfl,v,z,I,C⟩;exact bZ.of ((L.trans v) _ _ B.p)
 .rintro i x σ f O ⟨m,R,S,rfl,v,z,I,C⟩;let⟨a,p,rfl,hp,fb,a0,hf⟩:=B.pa.cF O;have hi:=(vx.mp hp).1;have s0:=L.trans v;let⟨wn,w8⟩:=W.f i p hp;have a1:=C.1;rw[vt,vi]at a1;refine Qh (cU.of (s0 _ _ a0)) ?_;exists⟨.inl ⟨rfl,_,bZ.of z⟩,?_⟩;exists⟨fb,p.2,rfl,ck.same s0 hf,λc N U hc=>?_⟩;refine⟨c,rfl,⟨_,cU.of hc⟩,?_⟩;refine Kn (xs:=p.2.ns.map V.str) (λj X f=>X=((p.2.ns.take j).map λx=>(cP (bW o) x:Int)).map V.int/\N=f) ⟨rfl,rfl⟩ ?_ ?_ ?_
  .rintro j X f _ ⟨rfl,rfl⟩;exact cU.of hc
  .rintro j x X f O ⟨rfl,rfl⟩;rw[vv]at O;let⟨y,Z,rfl⟩:=vg.mp O;have hj:=(vx.mp Z).1;let⟨k,hk,ek⟩:=wn y (vm Z);refine qb (S':=[none,some _]) rfl ?_;exists dP ?_;ac_nf;have g:dg N d (.str y) (some (.int (k:Nat))):=by
    have g:=dg.k (k:=Sum.inr y) ((v.trans U) _ _ ed);rw[Kz W.pn ek]at g;exact g
   refine⟨d,_,rfl,g,?_⟩;refine⟨by rw[vt,vt,vi];lia,?_,rfl⟩;rw[take_snoc Z,vj,vj,<-JQ W.pn ek];rfl
  rintro X f ⟨rfl,rfl⟩;rw[show(p.2.ns.map V.str).length=⇑p.2.ns from vt _,v3];refine⟨by rw[vt,vt];lia,?_⟩;sleep 4;have r:=U.trans s4;exists⟨l,_,_,rfl,rfl,r _ _ z,by rw[vt];lia,?_⟩;have D:p4≠l:=(je (U _ _ z) hp4).symm;have n4:H p4=none:=none_of (s0.trans U) hp4;refine⟨m++[p4],_,_,rfl,λc u h=>(jg (je h hl)).trans ((v.trans r) _ _ h),?_,λc n=>?_,?_⟩
  .rw[jw,vj];rfl
  .rcases vh.mp n with e | e
   .exact I c e
   .rw[vo.mp e];exact⟨n4,D⟩
  .rw[take_snoc hp,vj];refine cg.snoc (cg.iS C λc n ks h=>(jg (I c n).2).trans (r _ _ h)) ?_;have eq:List.map (λj:Nat=>(j:Int)) (cG o p.2)=p.2.ns.map λx=>(cP (bW o) x:Int):=by
    unfold cG;rw[v4];rfl
   show upd H4 l _ p4=some (.lst (List.map V.int (List.map (λj:Nat=>(j:Int)) (cG o p.2))));rw[jg D,t4,eq]
 rintro S' N ⟨m,R,S,rfl,v,z,I,C⟩;rw[vt,pa,v3]at C;ac_nf;exact q l m N (L.trans v) nl z (λa ha=>(I a ha).1) C
def Iv(T:Txt K mg t)(Jn:1<*t.qJ t.qM ["named"] (cX))(zS:2<*t.Kg t.Ko ["book"] (fu)):3<*t.Wr t.WA ["book"] (gh):=by
 specialize T.Xi.F.ok ZQ;let⟨b,pl,pp,ao,av,ls,ps,rfl,B,W,q⟩:=h;refine⟨_,(jb (cz 1 ZQ.nd (jh T.QP Jn hr (ja (jk jv (pv 0) jd) jc)))
  (jb (cz 2 ZQ.nd (jP jc))
  (jb (Jd PassesOwn.never rfl (An (by rfl) T.AK (ja (jk jv (pv 0) jd) (ja (jh T.Wb zS hr (ja (pv 0) jc)) jc))) (J1 rfl (jA (cN 3 ZQ.nd) (jA (cN 4 ZQ.nd) Jw)))
   (jb (cz 5 ZQ.nd (jk jv (pv 3) jd))
   (jb (cz 6 ZQ.nd Z6)
   (jb (Qg (jr Jr (jk jv (pv 5) jd) jI (bY _))
    (jf (yJ (qS hr) (pv 6) (qj (qS hr) (pv 1) (jk jv (pv 5) jd)) (jk jv (pv 5) jd) rfl))
    jB)
   (jb (Jd PassesOwn.never rfl (jQ (pv 4)) (cN 7 ZQ.nd)
    (jf (j5 (JP PySem.F.plainAttrs_dict PySem.F.slot_dict_update PySem.F.type_dict_update ES (pv 6) (ja (qz (Wx rfl) (by rfl) T.Xu Wd (ja (jk ju (pv 2) (pv 7)) jc)) jc)))))
   (jf (j5 (JP q4 q5 q7 jO (pv 2) (ja (jD (XA rfl) (by rfl) T.BC EL (ja (Am PySem.F.plainAttrs_dict PySem.F.slot_dict_items PySem.F.type_dict_items Gh (pv 6)) jc)) jc)))))))))
  (jf (jx (pv 2)))))),?_⟩
 rotate_right 107
 have aL:=W.l0;have l8:=W.l8;have pa:=B.pa.1;have la:=B.la.1;exists cp B.t ?_;exists⟨pl,ao,bW ls,rfl,B.l,by rw[bW,vt];exact la,λi a x ea ex=>?_,W.ln,by rw[bW,vt];lia,λd H1 s1 hd ed=>?_⟩
 .unfold bW at ex;rw[vv]at ex;let⟨p,ep,rfl⟩:=vg.mp ex;exact⟨_,B.la.2 i a p ea ep⟩
 exists⟨va _,?_⟩;walk_at"f l hl H2 s2 t2";have nl:=none_of s1 hl;have ad:=s1.trans s2;have aF:d≠l:=je ed hl;exists cp (ad _ _ B.t) ?_;exists⟨b,pl,pp,ao,av,ls,ps,rfl,B.same ad,W,λli an H3 s3 am ag aG lia=>?_⟩;ac_nf;have I:=ad.trans s3;have ap:=lia.1;rw[vt]at ap;have aH:li≠l:=λz=>by rw[z,t2]at am;cases am
 refine⟨pp,li,_,_,rfl,bZ.of (I _ _ B.p),bZ.of ag,?_⟩;have aa:∀{c u},H c=some u->c≠l:=λh=>je h nl
 have t3:H3 l=some (.lst []):=s3 _ _ t2;refine CI (xs:=av.map V.ref) (ys:=an.map V.ref) (λi σ H'=>ni λ(Z:L7) (E:L0) (o3 o4 o5 o6 S:N3)=>i7 (σ=[↥b,↥d,↥l,o3,o4,o5,o6,S]) (∀c u,c≠l->H3 c=some u->H' c=some u) (H' l=some (.lst (Z.map V.ref))) (∀a∈Z,H a=none/\a≠l) (⇑E=i) (lJ H' Z E/\cI ls ps E))
  (by rw[vt,vt];lia) ⟨[],[],_,_,_,_,_,rfl,λc u _ h=>h,t3,(λa h=>nomatch h),rfl,.nil,λi p e _ h=>by simp at h⟩ ?_ ?_ ?_
 .rintro i σ H' _ ⟨Z,E,o3,o4,o5,o6,S,rfl,sm,e1,na,lE,aE,oE⟩;exact⟨bZ.of (sm _ _ (aa B.p) (I _ _ B.p)),bZ.of (sm _ _ aH ag)⟩
 .rintro i u v σ H' P Y hu hv ⟨Z,E,o3,o4,o5,o6,S,rfl,sm,e1,na,lE,aE,oE⟩ sP tP;let⟨a,p,rfl,hp,fb,ah,hf⟩:=B.pa.cF hu;let⟨ia,is,rfl,al,az⟩:=lia.cF hv;rw[vv,hp]at al;cases al;have hi:=(vx.mp hp).1;have aB:ia∈an:=by
   rw[vv]at hv;let⟨a',ea,e'⟩:=vg.mp hv;injection e' with e';subst e';exact vm ea
  have ar:ia≠l:=λz=>by have:=aG ia aB;rw[z,t2]at this;cases this
  have C:∀c u,c≠l->H3 c=some u->Y c=some u:=λc u hc h=>sP _ _ (sm _ _ hc h)
  have ai:Y a=_:=C _ _ (aa ah) (I _ _ ah);have a0:Y ia=_:=C _ _ ar az;have ax:Y d=_:=C _ _ aF (s3 _ _ (s2 _ _ ed));have L:=sP _ _ e1;have a4:ck Y fb p.2:=by
   have M:=ck.same I hf;generalize p.2=f at M;have np:∀{c:Addr} {xs:N2},H3 c=some (.tup xs)->c≠l:=λh=>JG h t3 (λz=>by cases z)
   cases f with
   | row ps=>let⟨c,y,O⟩:=M;exact⟨c,C _ _ (np y) y,C _ _ (np O) O⟩
   | side ps=>let⟨c,y,O⟩:=M;exact⟨c,C _ _ (np y) y,C _ _ (np O) O⟩
   | hold n=>exact C _ _ (np M) M
   | ring x n=>exact C _ _ (np M) M
   | rise x g n=>exact C _ _ (np M) M
   | again x n=>exact C _ _ (np M) M
  have w8:=(W.f i p hp).2;have wr:=λx h n (e:p.2 = .rise x h n)=>W.r i p.1 x h n (by rw[hp,<-e])
  have aC:=λj=>W.cK (j:=j) hp
  have ae:=Yi W ⋯ oE;have af:∀(j:Nat) (e:Nq),E[j]?=some e->⇑e<=8:=λj e h=>Bj W ⋯ oE h
  refine Qh (cU.of tP) ?_;exists cp ai ?_;ac_nf;walk_at"f dl hdl H5 s5 t5";exists⟨λS' H6=>S'=[↥b,↥d,↥l,↥a,↥ia,↥fb,↥dl,S]/\bX Y H6/\H6 dl=some (.dK ((rh ls p.2).map hG)),?_,?_⟩
  rotate_left
  .by_cases a7:∃x h n,p.2 = .rise x h n
   .let⟨x,h,n,e⟩:=a7;rw[e]at a4;have a5:H5 fb=some (.tup [.str "raise",.str x,.int h,.int n]):=s5 _ _ a4;let⟨j,R⟩:=wr x h n e;exists cp a5 ?_;exists df ?_;exists cp a5 ?_;exists cp a5 ?_;have g:dg H5 d (.str x) (some (.int (j:Nat))):=by
     have g:=dg.k (k:=Sum.inr x) (s5 _ _ ax);rw[Kz W.ln R]at g;exact g
    refine⟨d,_,rfl,g,?_⟩;refine⟨dl,_,rfl,g5.k (k:=Sum.inl (j:Int)) t5 (by show 0<sizeLine;lia),?_⟩;refine⟨rfl,λc u h=>(jg (je h hdl)).trans (s5 _ _ h),?_⟩;rw[jw,e];show _=some (HO.dK [hG ((cP (bW ls) x:Nat),h)]);rw[JQ W.ln R];rfl
   .let⟨k,xs,hk,dk⟩:=Bp a4 λx v n e=>a7 ⟨x,v,n,e⟩
    exists iI (cU.of (s5 _ _ hk)) (nF) ?_;exists c8 dk ?_;exists⟨rfl,s5,?_⟩;rw[Ij λx v n e=>a7 ⟨x,v,n,e⟩];exact t5
  rintro S' H6 ⟨rfl,s6,t6⟩;ac_nf;have ak:=s6 _ _ a0;have a9:∀{c u},Y c=some u->c≠dl:=λh=>je h hdl
  refine⟨ia,rfl,⟨_,bZ.of ak⟩,?_⟩;refine Ji (xs:=((cG ps p.2).map λj:Nat=>(j:Int)).map V.int) (λt σ H7=>gw λ(m:Nq) (S:N3)=>hQ (σ=[↥b,↥d,↥l,↥a,↥ia,↥fb,↥dl,S]) (bX Y H7) (H7 dl=some (.dK (m.map hG))) ((m.map (·.1)).Nodup) (∀k v,(k,v)∈m↔eZ E ((cG ps p.2).take t) k v\/(k,v)∈rh ls p.2))
   ⟨_,_,rfl,s6,t6,IV _,λk v=>⟨.inr,λh=>h.elim (λ⟨ac,j,a2,e,_⟩=>by cases ac<;>simp at e) id⟩⟩ ?_ ?_ ?_
  .rintro t σ H7 _ ⟨m,S,rfl,J,t7,D,m7⟩;exact bZ.of (J _ _ a0)
  .rintro t x σ H7 hx ⟨m,S,rfl,J,t7,D,m7⟩;rw[vv,vv]at hx;let⟨jj,aA,rfl⟩:=vg.mp hx;let⟨j,R,rfl⟩:=vg.mp aA;have aJ:=aC j (vm R);have e0:rh ls p.2=[]:=by
    rcases IU (ps:=ps) (ls:=ls) p.2 with z | z
    .rw[z]at R;simp at R
    .exact z
   rw[e0]at m7;have hE:E[j]?=some (E.getD j []):=by rw[vy,vz ⋯];rfl
   let⟨aj,ay,bs,a3,U⟩:=aE.get hE;have aq:((E.getD j []).map (·.1)).Nodup:=((oE j _ _ (vz ⋯) hE).1).imp λh=>Int.ne_of_lt h
   have e8:=af j _ hE;have k8:⇑m<=8:=by
    have z:=YX (n:=⇑ls) D λk hk=>by
     let⟨N,a6,rfl⟩:=vK.mp hk;rcases(m7 N.1 N.2).mp a6 with⟨ac,i',a2,_,o,_⟩ | o
     .exact ae i' _ o
     .exact nomatch o
    rw[vt]at z;lia
   exists⟨.inr (.inr (.inl ⟨rfl,.inl ⟨_,t7⟩⟩)),?_⟩;exists cm (bZ.of (J _ _ L)) (yz (i:=(j:Int)) ⋯ ay) ?_;exists⟨aj,bs,E.getD j [],rfl,J _ _ (sP _ _ a3),U.1,λi' c N y O=>J _ _ (sP _ _ (U.2 i' c N y O)),?_⟩;walk_at"f d2 hd2 H8 s8 t8";ac_nf;rw[show([]:List (Key×V))=([]:Nq).map hG from rfl,kC,WL aq]at t8;have n2:dl≠d2:=je t7 hd2;refine⟨dl,d2,_,_,rfl,rfl,s8 _ _ t7,t8,n2,by rw[vt,vt];lia,?_⟩;rw[kC];let⟨mn,mm⟩:=xW D aq;refine⟨fh m (E.getD j []),_,rfl,λc u h=>(jg (a9 h)).trans (s8 _ _ (J _ _ h)),jw,mn,λk v=>?_⟩;rw[mm,m7,e0,take_snoc R,FI];constructor
   .rintro(h | ⟨y,h | h⟩)
    .exact .inl (.inl h)
    .exact .inl (.inr ⟨y,h⟩)
    .exact nomatch h
   .rintro((h | ⟨y,h⟩) | h)
    .exact .inl h
    .exact .inr ⟨y,.inl h⟩
    .exact nomatch h
  rintro S' H7 ⟨m,aK,rfl,J,t7,D,m7⟩;rw[vt,vt,v3]at m7;have k8:⇑m<=8:=by
   have z:=YX (n:=⇑ls) D λk hk=>by
    let⟨N,a6,rfl⟩:=vK.mp hk;rcases(m7 N.1 N.2).mp a6 with⟨ac,i',a2,_,o,_⟩ | o
    .exact ae i' _ o
    .let⟨x,n,e,ek⟩:=XW.mp o;let⟨j,R⟩:=wr x _ n e;have h3:=CM (vm R);have h4:⇑(bW ls)=⇑ls:=vt _;rw[ek];lia
   rw[vt]at z;lia
  exists⟨.inl ⟨rfl,_,bZ.of (J _ _ L)⟩,?_⟩;exists⟨.inr (.inr (.inl ⟨rfl,.inl ⟨_,t7⟩⟩)),dl,_,rfl,rfl,t7,?_⟩;walk_at"f vw hvw H8 s8 t8";exists⟨vw,dl,m,rfl,t8,s8 _ _ t7,⋯,λr cs ms H9 s9 a8 e9 n9 a1 pw aD aw=>?_⟩;ac_nf;have aI:=aE.1;refine⟨l,_,_,rfl,rfl,s9 _ _ (s8 _ _ (J _ _ L)),by rw[vt];lia,?_⟩;have X:=J.trans (s8.trans s9);have ab:r≠l:=(je (s8 _ _ (J _ _ L)) a8).symm;have nr:H r=none:=by
   cases z:H r with
   | none=>rfl
   | some u=>rw[s8 _ _ (J _ _ (C _ _ ab (I _ _ z)))]at a8;cases a8
  have au:∀{c:Addr} {xs:N2},H9 c=some (.tup xs)->c≠l:=λh=>JG h (X _ _ L) (λz=>by cases z)
  refine⟨Z++[r],E++[ms],_,_,_,_,_,rfl,λc u hc h=>(jg hc).trans (X _ _ (C _ _ hc h)),?_,λc hc=>?_,by rw[vn,lE];rfl,?_,?_⟩
  .rw[jw,vj];rfl
  .rcases vh.mp hc with z | z
   .exact na c z
   .rw[vo.mp z];exact⟨nr,ab⟩
  .refine cg.snoc (cg.iS aE λc hc e h=>?_) ?_
   .let⟨bs,a3,U⟩:=h;refine⟨bs,(jg (na c hc).2).trans (X _ _ (sP _ _ a3)),cg.mono U λc' N h'=>?_⟩;have h9:=X _ _ (sP _ _ h');exact(jg (au h9)).trans h9
   .exact⟨cs,(jg ab).trans e9,aD,λi' c N y O=>(jg (au (aw i' c N y O))).trans (aw i' c N y O)⟩
  .refine cI.snoc W oE (p:=p) (by rw[lE];exact hp) ?_ λk v=>?_
   .exact Fh (a1.map _) D pw
   .rw[a1.mem_iff,m7];exact⟨λh=>h.imp id XW.mp,λh=>h.imp id XW.mpr⟩
 rintro S' H' ⟨Z,E,o3,o4,o5,o6,S,rfl,sm,e1,na,lE,aE,oE⟩;rw[vt]at lE;ac_nf;exact q l Z E H' (λc u h=>sm _ _ (aa h) (I _ _ h)) nl e1 (λa ha=>(na a ha).1) ⋯ aE oE
def Gn(T:Txt K mg t)(yk:3<*t.Wr t.WA ["book"] (gh)):4<*t.Xn t.XC ["book"] (iB):=by
 specialize T.Cr.F.ok WY;let⟨b,pl,pp,a0,a4,ls,ps,rfl,B,W,q⟩:=h;refine⟨_,(jb (cz 1 WY.nd (jP jc))
  (jb (Jd PassesOwn.never rfl (jQ (jh T.Xi yk hr (ja (pv 0) jc))) (cN 2 WY.nd)
   (jf (j5 (JP q4 q5 q7 jO (pv 1) (ja (JR (ow:=["limb","height"]) (ci:=[]) rfl (cj.of (bV Wm) ["book","found","left"] rfl rfl ∅) (We nofun nofun) (jQ (pv 2)) (λ_ _ _ _ _=>⟨(J1 rfl (jA (cN 0 (Jy ["book","found","left"] rfl ∅)) (jA (cN 1 (Jy ["book","found","left"] rfl ∅)) Jw))),Qu,(pv 0)⟩)) jc)))))
  (jf (jx (pv 1))))),?_⟩
 rotate_right 102
 have a7:=W.l0;exists⟨va _,?_⟩;walk_at"f l hl H1 s1 t1";exists⟨b,pl,pp,a0,a4,ls,ps,rfl,B.same s1,W,λe as E H2 s2 he ee ne lE aE oE=>?_⟩;have L:=aE.1;have a5:=s1.trans s2;have l2:H2 l=some (.lst []):=s2 _ _ t1;have a3:l≠e:=λz=>by rw[z,he]at t1;cases t1
 refine⟨e,rfl,⟨_,bZ.of ee⟩,?_⟩;refine Ji (xs:=as.map V.ref) (λi σ n=>gw λ(g:L7) (I:N3)=>eD (σ=[↥b,↥l,I]) (∀c u,c≠l->H2 c=some u->n c=some u) (n l=some (.lst (g.map V.ref))) ((∀c∈g,H1 c=none/\c≠l)/\fD n g ((E.take i).map λe=>e.map (·.1))))
  ⟨[],_,rfl,λc u _ h=>h,l2,(λc h=>nomatch h),.nil⟩ ?_ ?_ ?_
 .rintro i σ n _ ⟨g,I,rfl,m,p,C,r⟩;exact bZ.of (m _ _ a3.symm ee)
 .rintro i x σ n X ⟨g,I,rfl,m,p,C,r⟩;let⟨a,O,rfl,f,M,S,D⟩:=aE.cF X;have hi:=(vx.mp f).1;have Z:=r.1;rw[vt,vi]at Z;have am:a∈as:=by
   rw[vv]at X;let⟨a',ea,N⟩:=vg.mp X;injection N with N;subst N;exact vm ea
  have a1:a≠l:=λz=>by have:=ne a am;rw[z,t1]at this;cases this
  have v:n a=some (.lst (M.map V.ref)):=m _ _ a1 S;have a6:=(oE i _ O (vz ⋯) f).1;have R:=Bj W ⋯ oE f;exists⟨.inl ⟨rfl,_,bZ.of p⟩,?_⟩;exists⟨a,rfl,⟨_,bZ.of v⟩,?_⟩;refine JA (xs:=M.map V.ref) (λj J d=>J=((O.take j).map (·.1)).map V.int/\n=d) ⟨rfl,rfl⟩ ?_ ?_ ?_
  .rintro j J d _ ⟨rfl,rfl⟩;exact bZ.of v
  .rintro j x J d Y ⟨rfl,rfl⟩;let⟨c,kv,rfl,y,U⟩:=D.cF Y;have hj:=(vx.mp y).1;have a2:c≠l:=λz=>by rw[z,l2]at U;cases U
   refine qb (S':=[none,none]) rfl ?_;refine Qh (cU.of (m _ _ a2 U)) ?_;exists dP ?_;exists⟨by rw[vt,vt,vi];lia,?_,rfl⟩;rw[take_snoc y,vj,vj];rfl
  rintro J d ⟨rfl,rfl⟩;rw[show(M.map V.ref).length=⇑O by rw[vt];exact D.1,v3];refine⟨by rw[vt,vt];lia,?_⟩;sleep 4;exists⟨l,_,_,rfl,rfl,s4 _ _ p,by rw[vt];lia,?_⟩;have o:p4≠l:=(je p hp4).symm;have n4:H1 p4=none:=by
   cases z:H1 p4 with
   | none=>rfl
   | some u=>rw[m _ _ o (s2 _ _ z)]at hp4;cases hp4
  refine⟨g++[p4],_,rfl,λc u k h=>(jg k).trans (s4 _ _ (m _ _ k h)),?_,λc k=>?_,?_⟩
  .rw[jw,vj];rfl
  .rcases vh.mp k with z | z
   .exact C c z
   .rw[vo.mp z];exact⟨n4,o⟩
  .rw[take_snoc f,vj];exact cg.snoc (cg.iS r λc k ks h=>(jg (C c k).2).trans (s4 _ _ h)) ((jg o).trans t4)
 rintro S' H3 ⟨g,I,rfl,m,p,C,r⟩;rw[vt,L,v3]at r;exists q l g (E.map λe=>e.map (·.1)) H3 (λc u h=>m _ _ (je h hl) (a5 _ _ h)) hl p (λc k=>none_of s1 (C c k).1) (by rw[vt];exact lE) r (CZ lE oE)
def xi(T:Txt K mg t):1<*t.zV t.Zb ["row","moves","limbs"] (dZ):=by
 specialize T.kZ.F.ok ZY;let⟨r,l,O,N,I,M,rfl,B,D,Z,S,g,J,q⟩:=h;refine⟨_,(jb (Ja (jr (Ly hr.units) (jP jc) (pv 1) (by with_unfolding_all rfl))
   (jf Yp)
   jB)
  (jf (Jd PassesOwn.never rfl (Wi (by rfl) T.ZH (ja (pv 2) jc)) (J1 rfl (jA (jt (i:=3) ZY.nd rfl (.inr rfl)) (jA (cN 4 ZY.nd) Jw)))
   (jf (Ja (jr Zw (jD jX (by rfl) T.qg Jt (ja (JR (ow:=["move"]) (ci:=[3]) rfl (cj.of (bV Zj) ["row","moves","limbs","number","limb"] rfl rfl ∅) (qi nofun) (jQ (pv 1)) (λ_ _ _ _ _=>⟨(cN 0 (Jy ["row","moves","limbs","number","limb"] rfl ∅)),(wD (jr (kJ (K:=K) rfl) (pv 1) (pv 0) (by with_unfolding_all rfl))),kc⟩)) jc)) jd (bY _))
    (jf Yp)
    jB))))),?_⟩
 rotate_right 302
 have m:=D.1;exists⟨va _,?_⟩;sleep 0;exists⟨p0,l,N,M,rfl,rfl,t0,s0 _ _ B,m,λi b e U W=>s0 _ _ (D.2 i b e U W),?_⟩;exists c8 (any_empty Z) ?_;exists⟨O,_,rfl,bZ.of (s0 _ _ g),?_⟩;refine Kq (xs:=I.map V.ref) (λi L f=>gw λ(p u:N3)=>L=[~~~r,↥l,↥O,p,u]/\bX H f) ⟨_,_,rfl,s0⟩ ?_ ?_ ?_
 .rintro i L f _ ⟨p,u,rfl,n⟩;exact bZ.of (n _ _ g)
 .rintro i v L f P R hx ⟨p,u,rfl,n⟩ sP tP;have y:=n.trans sP;refine Qh (cU.of tP) ?_;exists⟨l,rfl,⟨_,bZ.of (y _ _ B)⟩,?_⟩;refine JA (xs:=N.map V.ref) (λj z c=>⇑z=⇑((M.take j).filter λe=>decide ((i:Int)∈e))/\R=c) ⟨rfl,rfl⟩ ?_ ?_ ?_
  .rintro j z c _ ⟨_,rfl⟩;exact bZ.of (y _ _ B)
  .rintro j x z c C ⟨o,rfl⟩;let⟨a,e,rfl,k,X⟩:=D.cF C;refine qb (S':=[none,some _]) rfl ?_;exists⟨a,_,rfl,.inl (bZ.of (y _ _ X)),rfl,sv e,?_⟩;rw[DK];ac_nf;have Y:⇑((M.take j).filter λe=>decide ((i:Int)∈e))<=8:=vV (length_filter_le _ _) (vV (List.length_take_le' _ _) S);refine cC (λd=>?_) (λd=>?_)
   .exists⟨⋯,?_,rfl⟩;rw[take_snoc k,filter_append,v6,vd (vG d),vn,vn,o];rfl
   .refine⟨?_,rfl⟩;rw[take_snoc k,filter_append,v6,vc #v[d],vn,o];rfl
  rintro z c ⟨o,rfl⟩;rw[vt,m,v3]at o;have o1:=J (i:Int);refine⟨⋯,?_⟩;sleep 2;exists⟨_,_,rfl,.inl ⟨_,bZ.of t2,rfl⟩,?_⟩;exists cC (λd=>?_) (λd=>?_)
  .exfalso;lia
  .ac_nf;exact⟨_,_,rfl,y.trans s2⟩
 rintro S' f ⟨p,u,rfl,n⟩;exact q f n
def X7(T:Txt K mg t):1<*t.ZE t.ZK ["form","inside"] (eI):=by
 specialize T.wN.F.ok DZ;let⟨a,l,f,j,rfl,d,i,e,q⟩:=h;refine⟨_,(jb (Ja (jr Jr (jk jv (pv 0) jd) jI (bY _))
   (jf (jx (jD (YQ rfl) (by rfl) T.uC Xy (ja (pv 1) jc))))
   jB)
  (jb (Ja (jr Jr (jk jv (pv 0) jd) jI (bY _))
   (jf (jx (jD (xF rfl) (by rfl) T.sM Wv (ja (pv 1) jc))))
   jB)
  (jb (Ja (jr Jr (jk jv (pv 0) jd) jI (bY _))
   (jf (jx (jo Js (jk jv (pv 0) jd) (jk ju (pv 1) jd))))
   jB)
  (jf (jx (jk jv (pv 0) (Yo ZA jd))))))),?_⟩
 rotate_right 200
 have B:(200:Nat)<sizeLine:=by decide
 cases f with
 | hold n=>
  have c:H a=some (.tup _):=d;exists cp c ?_;exists cw ?_;exists cp c ?_;exists cw ?_;exists cp c ?_;exists cw ?_;exists cp c ?_;exact q _ rfl
 | ring x n=>
  have c:H a=some (.tup _):=d;exists cp c ?_;exists cw ?_;exists cp c ?_;exists cw ?_;exists cp c ?_;exists cw ?_;exists cp c ?_;exact q _ rfl
 | rise x v n=>
  have c:H a=some (.tup _):=d;exists cp c ?_;exists cw ?_;exists cp c ?_;exists cw ?_;exists cp c ?_;exists cw ?_;exists cp c ?_;exact q _ rfl
 | row ps=>
  let⟨b,c,p⟩:=d;exists cp c ?_;exists df ?_;exists⟨l,j,rfl,bZ.of i,?_⟩;exact q _ rfl
 | side ps=>
  let⟨b,c,p⟩:=d;exists cp c ?_;exists cw ?_;exists cp c ?_;exists df ?_;exists⟨l,j,rfl,bZ.of i,length_pos_iff.mpr e,λg m o=>?_⟩;exact q g ⟨m,o⟩
 | again k x=>
  have c:H a=some (.tup _):=d;let⟨y,r,rfl,u,z,C,D⟩:=e;exists cp c ?_;exists cw ?_;exists cp c ?_;exists cw ?_;exists cp c ?_;exists df ?_;exists cp c ?_;exists cm (bZ.of i) (nF) ?_;ac_nf;exact q _ ⟨y,rfl,rfl⟩
def Ei(T:Txt K mg t)(zS:2<*t.Kg t.Ko ["book"] (fu))(Xj:4<*t.Xn t.XC ["book"] (iB))(yj:1<*t.zV t.Zb ["row","moves","limbs"] (dZ))(Yb:1<*t.ZE t.ZK ["form","inside"] (eI)):5<*t.Z3 t.Z4 ["book"] (dR):=by
 specialize T.YI.F.ok QH;let⟨b,pl,pp,a1,a9,ls,I,gs,hs,rfl,B,S,q⟩:=h;refine⟨_,(jb (jq (i:=1) QH.nd rfl (.inr rfl) (jh T.Cr Xj hr (ja (pv 0) jc)))
  (jb (jq (i:=2) QH.nd rfl (.inr rfl) (jP jc))
  (jb (Jd PassesOwn.never rfl (Wi (by rfl) T.ZH (ja (jh T.Wb zS hr (ja (pv 0) jc)) jc)) (J1 rfl (jA (cN 3 QH.nd) (jA (cN 4 QH.nd) Jw)))
   (jb (cz 5 QH.nd (jk jv (jk ju (jk jv (pv 0) jd) (pv 3)) jd))
   (jb (Qg (jr Jr (jk jv (pv 5) jd) jI (bY _))
    (jf (j5 (jh T.kZ yj hr (ja (pv 3) (ja (JR (ow:=["part"]) (ci:=[1]) rfl (cj.of (bV Z7) ["book","moves","found","row","inside","form","length"] rfl rfl ∅) (qi nofun) (jQ (pv 4)) (λ_ _ _ _ _=>⟨(cN 0 (Jy ["book","moves","found","row","inside","form","length"] rfl ∅)),Qu,(jk (Yk (K:=K) rfl) (pv 1) (pv 0))⟩)) (ja (jk jv (pv 0) jd) jc))))))
    jB)
   (jb (cz 6 QH.nd (jh T.wN Yb hr (ja (pv 5) (ja (JR (ow:=["part"]) (ci:=[2]) rfl (cj.of (bV Z7) ["book","moves","found","row","inside","form","length"] rfl rfl ∅) (qi nofun) (jQ (pv 4)) (λ_ _ _ _ _=>⟨(cN 0 (Jy ["book","moves","found","row","inside","form","length"] rfl ∅)),Qu,(jk (Yk (K:=K) rfl) (pv 1) (pv 0))⟩)) jc))))
   (jb (Ja (jr Zw (pv 6) (jo zh jd jd) (bY _))
    (jf Yp)
    jB)
   (jf (j5 (JP q4 q5 q7 jO (pv 2) (ja (pv 6) jc)))))))))
  (jf (jx (pv 2)))))),?_⟩
 rotate_right 106
 have W:=S.w;have pa:=B.pa.1;have gl:=S.gl;have ay:=W.l0;exists⟨b,pl,pp,a1,a9,_,_,rfl,B,W,λlm ad M H1 s1 au ag ax Ml aM oM=>?_⟩;have mg:=S.mv M Ml oM;have as:=aM.1;exists⟨va _,?_⟩;walk_at"f l hl H2 s2 t2";have nl:=none_of s1 hl;have aa:=s1.trans s2;exists⟨b,pl,pp,a1,a9,_,_,rfl,B.same aa,W,λli a5 H3 s3 a4 a3 an lia=>?_⟩;ac_nf;have ab:=aa.trans s3;have ar:=s2.trans s3;have N:=lia.1;rw[vt]at N;have ao:li≠l:=λz=>by rw[z,t2]at a4;cases a4
 have t3:H3 l=some (.lst []):=s3 _ _ t2;have a8:∀{c u},H c=some u->c≠l:=λh=>je h nl
 have aq:∀{c u},H1 c=some u->c≠l:=λh=>je h hl
 refine⟨li,_,rfl,bZ.of a3,?_⟩;refine Kq (xs:=a5.map V.ref) (λi σ r=>gz λ(o3 o4 o5 o6:N3)=>d0 (σ=[↥b,↥lm,↥l,o3,o4,o5,o6]) ((∀c u,c≠l->H3 c=some u->r c=some u)/\r l=some (.lst ((gs.take i).map V.int))))
  ⟨_,_,_,_,rfl,λc u _ h=>h,t3⟩ ?_ ?_ ?_
 .rintro i σ r _ ⟨o3,o4,o5,o6,rfl,sm,e1⟩;exact bZ.of (sm _ _ ao a3)
 .rintro i v σ r P C hv ⟨o3,o4,o5,o6,rfl,sm,e1⟩ sP tP;let⟨Z,av,rfl,U,aj⟩:=lia.cF hv;have hi:i<⇑I:=by
   have:=(vx.mp U).1;rw[vt]at this;exact this
  obtain⟨p,hp⟩:∃p,I[i]?=some p:=⟨_,vz hi⟩
  rw[vv,hp]at U;cases U;let⟨a,ea,fb,ah,hf⟩:=B.pa.get hp;have al:Z∈a5:=by
   rw[vv]at hv;let⟨a',af,e'⟩:=vg.mp hv;injection e' with e';subst e';exact vm af
  have a7:Z≠l:=λz=>by have:=an Z al;rw[z,t2]at this;cases this
  have k4:∀c u,c≠l->H3 c=some u->C c=some u:=λc u L h=>sP _ _ (sm _ _ L h)
  have y:∀c u,H c=some u->C c=some u:=λc u h=>k4 _ _ (a8 h) (ab _ _ h)
  have a6:∀c u,H1 c=some u->C c=some u:=λc u h=>k4 _ _ (aq h) (ar _ _ h)
  have o:C Z=some (.lst (((cG I p.2).map λj:Nat=>(j:Int)).map V.int)):=k4 _ _ a7 aj;have ae:=sP _ _ e1;have m:ck C fb p.2:=ck.same y hf;have a0:=λj=>W.cK (j:=j) hp
  have w8:⇑(cG I p.2)<=8:=by unfold cG;rw[vt];exact(W.f i p hp).2
  let⟨lp,am⟩:=S.ln i p hp;have aw:=S.gb i hi;refine Qh (cU.of tP) ?_;exists cp (y _ _ B.t) ?_;exists cm (bZ.of (y _ _ B.p)) (yz (i:=(i:Int)) ⋯ ea) ?_;exists cp (y _ _ ah) ?_;exists⟨λS' H5=>S'=[↥b,↥lm,↥l,~~~i,↥Z,↥fb,o6]/\bX C H5,?_,?_⟩
  rotate_left
  .by_cases Y:∃qs,p.2 = .side qs
   .let⟨qs,e⟩:=Y;have ap:=S.sd i p qs hp e;generalize cG I p.2=is at o a0 ap w8;rw[e]at m;let⟨nb,ai,_⟩:=m;exists cp ai ?_;exists df ?_;exists⟨Z,rfl,⟨_,bZ.of o⟩,?_⟩;have ac:∀j∈is,∃c,ad[j]?=some c/\C c=some (.lst ((hs.getD j []).map V.int)):=λj D=>by
     have jl:=a0 j D;let⟨c,L,h1⟩:=aM.get (i:=j) (x:=M.getD j []) (by rw[vy,vz ⋯];rfl);rw[mg j ⋯]at h1;exact⟨c,L,a6 _ _ h1⟩
    refine JA (xs:=(is.map λj:Nat=>(j:Int)).map V.int) (λt J r=>dX λ(O:L7)=>d0 (J=O.map V.ref) (fD C O ((is.take t).map λj=>hs.getD j [])/\C=r)) ⟨[],rfl,.nil,rfl⟩ ?_ ?_ ?_
    .rintro t J r _ ⟨O,rfl,lc,rfl⟩;exact bZ.of o
    .rintro t x J r hx ⟨O,rfl,lc,rfl⟩;rw[vv,vv]at hx;let⟨jj,X,rfl⟩:=vg.mp hx;let⟨j,D,rfl⟩:=vg.mp X;let⟨c,L,h1⟩:=ac j (vm D);have a2:=lc.1;rw[vt,vi]at a2;refine qb (S':=[none,some _]) rfl ?_;exists dP ?_;exists cm (bZ.of (a6 _ _ ag)) (yz (i:=(j:Int)) ⋯ L) ?_;refine⟨by rw[vt];lia,O++[c],by rw[vj];rfl,?_,rfl⟩;rw[take_snoc D,vj];exact cg.snoc lc h1
    rintro J r ⟨O,rfl,lc,rfl⟩;rw[vt,vt,v3]at lc;have a2:=lc.1;rw[vt]at a2;refine⟨by rw[vt];lia,?_⟩;sleep 5;exists cp (s5 _ _ (y _ _ B.t)) ?_;exists⟨_,p5,pl,O,a1,(is.map λj=>hs.getD j []),rfl,t5,cg.mono lc λc ks h=>s5 _ _ h,λks ak=>?_,by rw[vt];lia,s5 _ _ (y _ _ B.l),ap.2,λH6 s6=>?_⟩
    .let⟨j,D,rfl⟩:=vK.mp ak;exact ap.1 j D
    ac_nf;exact⟨rfl,s5.trans s6⟩
   .have kd:∃k xs,C fb=some (.tup (.str k::xs))/\decide (k=("side" : Str))=false:=by
     generalize p.2=f at m Y;cases f with
     | side qs=>exact uf ⟨qs,rfl⟩ Y
     | hold n=>exact⟨_,_,m,by trivial⟩
     | ring x n=>exact⟨_,_,m,by trivial⟩
     | rise x v n=>exact⟨_,_,m,by trivial⟩
     | row qs=>let⟨_,h1,_⟩:=m;exact⟨_,_,h1,by trivial⟩
     | again k x=>exact⟨_,_,m,by trivial⟩
    let⟨k,xs,hk,dk⟩:=kd;exists iI (cU.of hk) (nF) ?_;exists c8 dk ?_;ac_nf;exact⟨rfl,bX.refl _⟩
  rintro S' H5 ⟨rfl,s5⟩;exists⟨Z,rfl,⟨_,bZ.of (s5 _ _ o)⟩,?_⟩;have R:=s5 _ _ ae;refine JA (xs:=((cG I p.2).map λj:Nat=>(j:Int)).map V.int) (λt J r=>J=(((cG I p.2).take t).map λj=>gs∘j).map V.int/\H5=r) ⟨rfl,rfl⟩ ?_ ?_ ?_
  .rintro t J r _ ⟨rfl,rfl⟩;exact bZ.of (s5 _ _ o)
  .rintro t x J r hx ⟨rfl,rfl⟩;rw[vv,vv]at hx;let⟨jj,X,rfl⟩:=vg.mp hx;let⟨j,D,rfl⟩:=vg.mp X;have jl:=a0 j (vm D);refine qb (S':=[none,some _]) rfl ?_;exists dP ?_;exists cm (bZ.of R) (AM ⋯ jl) ?_;refine⟨by rw[vt,vt,vi];lia,?_,rfl⟩;rw[take_snoc D,vj,vj];rfl
  rintro J r ⟨rfl,rfl⟩;rw[show(((cG I p.2).map λj:Nat=>(j:Int)).map V.int).length=⇑(cG I p.2) by rw[vt,vt],v3];refine⟨by rw[vt,vt];lia,?_⟩;sleep 6;exists⟨fb,p6,p.2,_,rfl,ck.same (s5.trans s6) m,t6,lp,λg hg=>?_⟩;have eg:=am g hg;subst eg;exists cC (λd=>?_) (λd=>?_)
  .exfalso;lia
  exists⟨.inl ⟨rfl,_,bZ.of (s6 _ _ R)⟩,?_⟩;exists⟨l,_,_,rfl,rfl,s6 _ _ R,by rw[vt,vi];lia,?_⟩;refine⟨_,_,_,_,rfl,λc u L h=>(jg L).trans (s6 _ _ (s5 _ _ (k4 _ _ L h))),?_⟩;rw[jw,Ih ⋯,vj];rfl
 rintro S' r ⟨o3,o4,o5,o6,rfl,sm,e1⟩;rw[vt,N,<-gl,v3]at e1;ac_nf;exact q l r (λc u h=>sm _ _ (a8 h) (ab _ _ h)) nl e1
def X8(T:Txt K mg t):1<*t.ZF t.ZL ["form","inside","sizes"] (eJ):=by
 specialize T.wO.F.ok qP;let⟨a,l,s0,f,g,C,rfl,o,el,es,i8,hj,a2,q⟩:=h;refine⟨_,(jb (Ja (jr Jr (jk jv (pv 0) jd) jI (bY _))
   (jb (cz 3 qP.nd (jk ju (pv 1) jd))
   (jb (cz 4 qP.nd (Zx (jr Zw (jk jv (pv 0) jd) jd (bY _)) (jP (ja (jR (ja (pv 3) (ja (jo Jm (jk jv (pv 0) jd) jd) (ja (jk ju (pv 2) (pv 3)) jc)))) jc)) (jP jc)))
   (jf (jx (jo kI (jP (ja (jR (ja (pv 3) (ja jd (ja jd jc)))) jc)) (pv 4))))))
   jB)
  (jb (cz 5 qP.nd (jP jc))
  (jb (cz 6 qP.nd jd)
  (jb (Jd PassesOwn.never rfl (jQ (pv 1)) (cN 3 qP.nd)
   (jb (j5 (JP q4 q5 q7 jO (pv 5) (ja (jR (ja (pv 3) (ja jd (ja (pv 6) jc)))) jc)))
   (jf (Ja (jr Jr (jk jv (pv 0) jd) jI (bY _))
    (jf (wF (i:=6) qP.nd rfl (.inl rfl) (jk ju (pv 2) (pv 3)) wm))
    jB))))
  (jf (jx (pv 5))))))),?_⟩
 rotate_right 304
 have W:∀j,j<⇑C->C[j]?=some (C∘j):=λj h=>by
  rw[vy,vz h];rfl
 by_cases ha:∃k x,f = .again k x
 .let⟨k,x,rfl⟩:=ha;have o:H a=some (.tup [.str "again",.int k,.str x]):=o;let⟨j,r,rfl⟩:=List.exists_cons_of_ne_nil (a2 k x rfl);have lj:=hj j vq;exists cp o ?_;exists df ?_;exists cm (bZ.of el) (nF) ?_;exists cp o ?_;exists cC (λc=>?_) (λc=>?_)
  .exists cp o ?_;exists cm (bZ.of es) (jJ (j:=j) (by rw[vv,W j lj];rfl)) ?_;exists⟨uc,?_⟩;sleep 1;exists⟨ue,?_⟩;sleep 2;exists⟨uc,?_⟩;sleep 3;exists⟨ue,?_⟩;sleep 4;exists⟨p4,p2,_,_,rfl,rfl,t4,s4 _ _ (s3 _ _ t2),ud,?_⟩;sleep 5;have S:=s1.trans (s2.trans (s3.trans (s4.trans s5)));refine q p5 [p3,p1] _ S (none_of (s1.trans (s2.trans (s3.trans s4))) hp5) t5 ?_;show fZ H5 _ ((j,1,0)::(if 1<k then[(j,k-1,C∘j)]else[]));rw[vd c];exact .cons (s5 _ _ (s4 _ _ t3)) (.cons (s5 _ _ (s4 _ _ (s3 _ _ (s2 _ _ t1)))) .nil)
  .exists⟨va _,?_⟩;sleep 2;exists⟨uc,?_⟩;sleep 3;exists⟨ue,?_⟩;sleep 4;exists⟨p4,p2,_,_,rfl,rfl,t4,s4 _ _ (s3 _ _ t2),ue,?_⟩;sleep 5;have S:=s2.trans (s3.trans (s4.trans s5));refine q p5 [p3] _ S (none_of (s2.trans (s3.trans s4)) hp5) t5 ?_;show fZ H5 _ ((j,1,0)::(if 1<k then[(j,k-1,C∘j)]else[]));rw[vc c];exact .cons (s5 _ _ (s4 _ _ t3)) .nil
 have a3:∃Y xs,H a=some (.tup (.str Y::xs))/\decide (Y=("again" : Str))=false/\((decide (Y=("row" : Str))=true/\∃xs,f = .row xs)\/(decide (Y=("row" : Str))=false/\∀g,de C f g=g.map λj=>(j,1,0))):=by
  cases f with
  | hold n=>exact⟨_,_,o,by trivial,.inr ⟨by trivial,λ_=>rfl⟩⟩
  | ring x n=>exact⟨_,_,o,by trivial,.inr ⟨by trivial,λ_=>rfl⟩⟩
  | rise x v n=>exact⟨_,_,o,by trivial,.inr ⟨by trivial,λ_=>rfl⟩⟩
  | row ps=>let⟨b,I,_⟩:=o;exact⟨_,_,I,by trivial,.inl ⟨by trivial,_,rfl⟩⟩
  | side ps=>let⟨b,I,_⟩:=o;exact⟨_,_,I,by trivial,.inr ⟨by trivial,λ_=>rfl⟩⟩
  | again k x=>exact uf ⟨k,x,rfl⟩ ha
 let⟨Y,xs,hk,dk,y⟩:=a3;exists iI (cU.of hk) (nF) ?_;exists c8 dk ?_;exists⟨va _,?_⟩;walk_at"f p hp H1 s1 t1";ac_nf;have np:∀{c u},H c=some u->c≠p:=λh=>je h hp
 refine⟨l,rfl,⟨_,bZ.of (s1 _ _ el)⟩,?_⟩;refine Ji (xs:=(g.map λj:Nat=>(j:Int)).map V.int) (λi σ L=>gz λ(o3:N3) (D:Int) (d:L7) (B:List Pc)=>i7 (σ=[↥a,↥l,↥s0,o3,none,↥p,~~~D]) (bX H L) (L p=some (.lst (d.map V.ref))) (⇑d=i) (fZ L d B) (((∃xs,f = .row xs)->cT C g 0=B++cT C (g.drop i) D)/\(¬(∃xs,f = .row xs)->D=0/\B=(g.take i).map λj=>(j,1,0))))
  ⟨_,0,[],[],rfl,s1,t1,rfl,.nil,λ_=>rfl,λ_=>⟨rfl,rfl⟩⟩ ?_ ?_ ?_
 .rintro i σ L _ ⟨o3,D,d,B,rfl,Z,M,la,hq,I,X⟩;exact bZ.of (Z _ _ el)
 .rintro i v σ L hv ⟨o3,D,d,B,rfl,Z,M,la,hq,I,X⟩;rw[vv,vv]at hv;let⟨jj,a1,rfl⟩:=vg.mp hv;let⟨j,J,rfl⟩:=vg.mp a1;have il:=(vx.mp J).1;have ed:g.drop i=j::g.drop (i+1):=by
   let⟨h,rfl⟩:=vx.mp J;exact List.drop_eq_getElem_cons h
  have lj:=hj j (vm J);exists⟨.inl ⟨rfl,_,bZ.of M⟩,?_⟩;exists⟨uc,?_⟩;sleep 2;exists⟨p,_,_,rfl,rfl,s2 _ _ M,by rw[vt];lia,?_⟩;have n2:p2≠p:=λz=>by rw[z,s2 _ _ M]at t2;cases t2
  have s3:bX H (upd H2 p (.lst (d.map V.ref++[.ref p2]))):=λc u h=>(jg (np h)).trans (s2 _ _ (Z _ _ h))
  have e3:upd H2 p (.lst (d.map V.ref++[.ref p2])) p=some (.lst ((d++[p2]).map V.ref)):=by rw[jw,vj];rfl
  have O:fZ (upd H2 p (.lst (d.map V.ref++[.ref p2]))) (d++[p2]) (B++[(j,1,D)]):=by
   refine cg.snoc (cg.mono hq λc x h=>?_) ((jg n2).trans t2);exact(jg (λz=>by rw[z,M]at h;cases h)).trans (s2 _ _ h)
  generalize upd H2 p (.lst (d.map V.ref++[.ref p2]))=H3 at s3 e3 O|-;exists iI (cU.of (s3 _ _ hk)) (nF) ?_;ac_nf;rcases y with⟨dr,m,U⟩ | ⟨dr,N⟩
  .refine eN dr ?_;exists cm (bZ.of (s3 _ _ es)) (jJ (j:=j) (by rw[vv,W j lj];rfl)) ?_;exists⟨_,_,d++[p2],B++[(j,1,D)],rfl,s3,e3,by rw[vn,la];rfl,O,λh=>?_,λh=>uf ⟨m,U⟩ h⟩;rw[I h,ed,List.append_assoc];rfl
  .refine c8 dr ?_;exists⟨_,_,d++[p2],B++[(j,1,D)],rfl,s3,e3,by rw[vn,la];rfl,O,λh=>?_,λh=>?_⟩
   .let⟨m,U⟩:=h;subst U;have:=N [0,0];let⟨bb,a0,_⟩:=o;rw[a0]at hk;cases hk;exact uf dr ∅
   .let⟨b0,eq⟩:=X h;refine⟨b0,?_⟩;rw[take_snoc J,vj,eq,b0];rfl
 rintro S' L ⟨o3,D,d,B,rfl,Z,M,la,hq,I,X⟩;rw[show((g.map λj:Nat=>(j:Int)).map V.int).length=⇑g by rw[vt,vt]]at I X;exists q p d L Z hp M ?_;have e:de C f g=B:=by
  by_cases R:∃xs,f = .row xs
  .let⟨m,rfl⟩:=R;show cT C g 0=B;rw[I ⟨m,rfl⟩,List.drop_length];exact append_nil _
  .rcases y with⟨_,m,U⟩ | ⟨_,N⟩
   .exact uf ⟨m,U⟩ R
   .rw[N,(X R).2,v3]
 rw[e];exact hq
def X9(T:Txt K mg t)(zS:2<*t.Kg t.Ko ["book"] (fu))(Yd:1<*t.ZF t.ZL ["form","inside","sizes"] (eJ)):3<*t.zz t.zD ["book","sizes"] (dj):=by
 specialize T.ZC.F.ok D0;let⟨b,pl,pp,s0,a1,C,ls,D,gs,rfl,B,W,es,gl,q⟩:=h;refine⟨_,(jf (jx (JR (ow:=["part","inside"]) (ci:=[1]) rfl (cj.of (bV ZP) ["book","sizes"] rfl rfl ∅) (We nofun nofun) (An (by rfl) T.AK (ja (jk jv (pv 0) jd) (ja (jh T.Wb zS hr (ja (pv 0) jc)) jc))) (λj j j j j=>⟨(J1 rfl (jA (cN 0 (Jy ["book","sizes"] rfl ∅)) (jA (cN 1 (Jy ["book","sizes"] rfl ∅)) Jw))),Qu,(jh T.wO Yd hr (ja (jk (XL (K:=K) rfl) (pv 0) jd) (ja (pv 1) (ja (pv 2) jc))))⟩)))),?_⟩;refine jz (S':=[some _,some _]) rfl ?_
 try dsimp only[eF,Cx.lu]
 have a5:=W.l0;have pa:=B.pa.1;exists cp B.t ?_;exists⟨b,pl,pp,a1,C,ls,D,rfl,B,W,λli a0 H3 I a2 n a4 lia=>?_⟩;ac_nf;have y:=lia.1;rw[vt]at y;refine⟨pp,li,_,_,rfl,bZ.of (I _ _ B.p),bZ.of n,?_⟩;refine Gw (xs:=C.map V.ref) (zs:=a0.map V.ref) (λi M m=>dX λ(d:L7)=>eD (M=d.map V.ref) (⇑d=i) (bX H3 m) ((∀a∈d,H a=none)/\hY m d ((D.take i).map λp=>de gs p.2 (cG D p.2)))) (by rw[vt,vt];lia) ⟨[],rfl,rfl,bX.refl _,(λa h=>nomatch h),.nil⟩ ?_ ?_ ?_
 .rintro i M m _ ⟨d,rfl,J,g,L,l⟩;exact⟨bZ.of (g _ _ (I _ _ B.p)),bZ.of (g _ _ n)⟩
 .rintro i u v M m T0 H4 hu hv ⟨d,rfl,J,g,L,l⟩ sP tP;have hi:=(vx.mp hu).1;rw[vt]at hi;let⟨a,p,rfl,r,fb,U,hf⟩:=B.pa.cF hu;let⟨ia,is,rfl,o,X⟩:=lia.cF hv;rw[vv,r]at o;cases o;have a3:=(vx.mp r).1;have s4:=g.trans sP;have f:=I.trans s4;have i8:⇑(cG D p.2)<=8:=by unfold cG;rw[vt];exact(W.f i p r).2
  refine qb (S':=[none,none,some _]) rfl ?_;refine Qh (cU.of tP) ?_;exists dP ?_;exists cp (f _ _ U) ?_;exists⟨fb,ia,s0,p.2,cG D p.2,gs,rfl,ck.same f hf,s4 _ _ X,f _ _ es,i8,λj hj=>by have:=W.cK r hj;lia,λk x e=>by rw[e];exact cons_ne_nil _ _,λp5 N H5 s5 Y e5 Z=>?_⟩;refine⟨by rw[vt];lia,d++[p5],by rw[vj];rfl,by rw[vn,J];rfl,s4.trans s5,λc hc=>(vh.mp hc).elim (L c) λz=>by rw[vo.mp z];exact none_of f Y,?_⟩;rw[take_snoc r,vj];refine cg.snoc (cg.mono l λc x h=>?_) ⟨N,e5,Z⟩;let⟨O,R,S⟩:=h;exact⟨O,s5 _ _ (sP _ _ R),cg.mono S λc x h=>s5 _ _ (sP _ _ h)⟩
 rintro M m ⟨d,rfl,J,g,L,l⟩;rw[vt]at J l;refine⟨by rw[vt];lia,?_⟩;sleep 4;refine q _ d _ (I.trans (g.trans s4)) (none_of (I.trans g) hp4) t4 ?_ L;rw[pa,v3]at l;refine cg.mono l λc x h=>?_
 let⟨O,R,S⟩:=h;exact⟨O,s4 _ _ R,cg.mono S λc x h=>s4 _ _ h⟩
def wB(T:Txt K mg t):1<*t.QA t.QB ["pieces","left","first"] (gI):=by
 specialize T.yU.F.ok Jh;let⟨pp,pl,pa,f,L,gs,g,rfl,ep,a7,el,K0,q⟩:=h;refine⟨_,(jb (wk (i:=3) (ow:=["inside"]) (ci:=[]) rfl (cj.of (bV QD) ["pieces","left","first","found","part","height","now","other","turns","begin"] rfl rfl ∅) (qi nofun) Jh.nd rfl (.inl rfl) (jQ (pv 0)) (λ_ _ _ _ _=>⟨(cN 0 (Jy ["pieces","left","first","found","part","height","now","other","turns","begin"] rfl ∅)),Qu,Z6⟩))
  (jb (yJ (qS hr) (jk ju (pv 3) (Yo ZA jd)) (pv 2) kc rfl)
  (jb (Jd PassesOwn.never rfl (EX (by rfl) T.zY (ja (jo Jm (jD jX (by rfl) T.qg Jt (ja (pv 0) jc)) jd) (ja (Yo ZA jd) (ja (Yo ZA jd) jc)))) (cN 4 Jh.nd)
   (jf (Jd PassesOwn.never rfl (jQ (qz (Ey rfl) (by rfl) T.Aw Xw (ja (jk ju (pv 3) (pv 4)) jc))) (cN 5 Jh.nd)
    (jb (cz 6 Jh.nd (pv 5))
    (jf (Jd PassesOwn.never rfl (jQ (jk ju (pv 0) (pv 4))) (J1 rfl (jA (cN 7 Jh.nd) (jA (cN 8 Jh.nd) (jA (cN 9 Jh.nd) Jw))))
     (jb (yJ (qS hr) (jk ju (pv 3) (pv 7)) (pv 6) kc rfl)
     (jf (cz 6 Jh.nd (jk ju (pv 1) (pv 7)))))))))))
  (jf (jx (LA (pv 3))))))),?_⟩
 rotate_right 307
 have n1:=K0.n1;have ai:=K0.LS;have lL:=K0.lL;have ag:=a7.1;exists⟨pp,rfl,⟨_,bZ.of ep⟩,?_⟩;refine JA (xs:=pa.map V.ref) (λi ys D=>dX λ(m:L7)=>hQ (ys=m.map V.ref) (⇑m=i) (bX H D) m.Nodup (∀a∈m,H a=none/\D a=some (.dK []))) ⟨[],rfl,rfl,bX.refl _,nodup_nil,λa h=>nomatch h⟩ ?_ ?_ ?_
 .rintro i ys D _ ⟨m,rfl,hl,sm,nd,na⟩;exact bZ.of (sm _ _ ep)
 .rintro i v ys D hv ⟨m,rfl,hl,sm,nd,na⟩;have hi:=(vx.mp hv).1;rw[vt]at hi;refine qb (S':=[none]) rfl ?_;exists dP ?_;ac_nf;walk_at"f d hd H1 s1 t1";refine⟨by rw[vt];lia,m++[d],by rw[vj];rfl,by rw[vn,hl];rfl,sm.trans s1,?_,λa W=>?_⟩
  .refine nodup_append.mpr ⟨nd,ur.mpr ⟨(λz=>nomatch z),nodup_nil⟩,λx hx y hy z=>?_⟩;rw[vo.mp hy]at z;rw[z]at hx;rw[(na d hx).2]at hd;cases hd
  .rcases vh.mp W with W | W
   .exact⟨(na a W).1,s1 _ _ (na a W).2⟩
   .rw[vo.mp W];exact⟨none_of sm hd,t1⟩
 rintro ys D ⟨m,rfl,hl,sm,nd,na⟩;rw[vt]at hl;refine⟨by rw[vt];lia,?_⟩;walk_at"f l hl2 H2 s2 t2";have nl:=none_of sm hl2;have b0:mS H l m (List.replicate ⇑m []) H2:=⟨sm.trans s2,t2,⟨by rw[length_replicate],λi a x M U=>by
  let⟨_,e⟩:=vx.mp U;rw[List.getElem_replicate]at e;subst e;exact s2 _ _ (na a (vm M)).2⟩,nd,λa h=>(na a h).1,nl⟩
 clear s2 t2 hl2 na;have al:=hl.trans ag;ac_nf;let⟨a0,a4,a3⟩:=b0.last (j:=⇑g-1) (by rw[length_replicate];lia);refine cm (bZ.of b0.el) (C5 (n:=⇑g) n1 (by rw[vt];lia) (by rw[vv,a4];rfl)) ?_;exists⟨a0,_,rfl,g5.k (k:=Sum.inl f) a3 (vD ((KB.none (f:=f) (L:=L)).len _) ⋯),?_⟩;have b1:=b0.put a4 f;have h0:⇑g-1<⇑(List.replicate ⇑m ([]:Tb)):=by rw[length_replicate];lia
 have k1:KB f L (fN (List.replicate ⇑m []) (⇑g-1) f):=KB.none.put h0 (.inl rfl);have t1:fJ (fN (List.replicate ⇑m []) (⇑g-1) f) (⇑g-1) f:=BK h0;have l1:⇑(fN (List.replicate ⇑m []) (⇑g-1) f)=⇑g:=by rw[Br,length_replicate,al]
 generalize upd H2 a0 _=H3 at b1|-;generalize fN (List.replicate ⇑m []) (⇑g-1) f=B1 at b1 k1 t1 l1;clear b0 a3 h0;exists⟨_,_,rfl,.inl ⟨_,bZ.of (b1.sm _ _ ep),rfl⟩,?_⟩;rw[vt];exists⟨_,_,rfl,⟨⋯,⋯,⋯,⋯⟩,?_⟩;refine GC (λi S D=>ni λ(o4 o5 o6 N O R:N3) (B:List Tb)=>i7 (S=[↥pp,↥pl,~~~f,↥l,o4,o5,o6,N,O,R]) (mS H l m B D) (KB f L B) (⇑B=⇑g) (fJ B (⇑g-1) f) (∀p,p<⇑g->⇑g<=p+i->∀h,fJ B p h->Run L B h (g.getD p [])))
  ⟨_,_,_,_,_,_,B1,rfl,b1,k1,l1,t1,λp hp hi=>uf hi ⋯⟩ ?_ ?_
 .rintro i S D hi ⟨o4,o5,o6,N,O,R,B,rfl,b,kb,lB,tp,cl⟩;obtain⟨p,hp⟩:∃p:Nat,(⇑pa:Int)-1-(i:Int)=(p:Int):=⟨⇑g-1-i,⋯⟩
  have pn:p+i+1=⇑g:=⋯
  rw[hp];let⟨ap,ac,ab⟩:=b.last (j:=p) ⋯;let⟨pc,ad,bs,a5,a9⟩:=a7.get (i:=p) (x:=g.getD p []) (by rw[vy,vz ⋯];rfl);exists cm (bZ.of b.el) (jJ (j:=p) (by rw[vv,ac];rfl)) ?_;exists⟨ap,_,rfl,ab,?_⟩;walk_at"f kl hkl H4 s4 t4";have ae:∀{j a},m[j]?=some a->kl≠a:=λ{j a} W z=>by
   let⟨Y,e⟩:=vx.mp W;let⟨a',M,U⟩:=b.last (j:=j) (by rw[lB];lia);rw[W]at M;cases M;rw[<-z,hkl]at U;cases U
  exists⟨kl,rfl,⟨_,bZ.of t4⟩,?_⟩;refine Ji (xs:=(B.getD p []).map λq=>kV q.1) (λt S D=>mu λ(o5 o6 N O R:N3) (r:List Tb)=>oh (S=[↥pp,↥pl,~~~f,↥l,some (.int (p:Nat)),o5,o6,N,O,R]) (mS H l m r D) (D kl=some (.lst ((B.getD p []).map λq=>kV q.1))) (KB f L r) (⇑r=⇑g) (fJ r (⇑g-1) f) ((∀p,p<⇑g->⇑g<=p+i->∀h,fJ r p h->Run L r h (g.getD p []))) (r.getD p []=B.getD p []) (∀j q h,j<t->(B.getD p [])[j]?=some q->q.1=Sum.inl h->Run L r h (g.getD p [])))
   ⟨_,_,_,_,_,B,rfl,b.more s4,t4,kb,lB,tp,cl,rfl,λj q h z=>uf z (Nat.not_lt_zero _)⟩ ?_ ?_ ?_
  .rintro t S H5 _ ⟨o5,o6,N,O,R,B5,rfl,b5,e5,_⟩;exact bZ.of e5
  .rintro t x S H5 hx ⟨o5,o6,N,O,R,B5,rfl,b5,e5,k5,l5,t5,c5,p5,r5⟩;rw[vv]at hx;let⟨q0,a8,rfl⟩:=vg.mp hx;let⟨h,eh,ah⟩:=kb.al p q0 (vm a8);rw[eh];show cv 5 (.int h) _ _ _;exists cm (bZ.of (b5.sm _ _ ep)) (jJ (j:=p) (by rw[vv,ad];rfl)) ?_;exists⟨pc,rfl,⟨_,bZ.of (b5.sm _ _ a5)⟩,?_⟩;refine Ji (xs:=bs.map V.ref) (λu S D=>gz λ(N O R:N3) (r:List Tb)=>oh (S=[↥pp,↥pl,~~~f,↥l,some (.int (p:Nat)),~~~h,some (.int (iK L h ((g.getD p []).take u))),N,O,R]) (mS H l m r D) (D kl=some (.lst ((B.getD p []).map λq=>kV q.1))) (KB f L r) (⇑r=⇑g) (fJ r (⇑g-1) f) ((∀p,p<⇑g->⇑g<=p+i->∀h,fJ r p h->Run L r h (g.getD p []))) (r.getD p []=B.getD p []) ((∀j q h,j<t->(B.getD p [])[j]?=some q->q.1=Sum.inl h->Run L r h (g.getD p []))/\Run L r h ((g.getD p []).take u)))
    ⟨_,_,_,B5,rfl,b5,e5,k5,l5,t5,c5,p5,r5,trivial⟩ ?_ ?_ ?_
   .rintro u S H6 _ ⟨N,O,R,B6,rfl,Z,_⟩;exact bZ.of (Z.sm _ _ a5)
   .rintro u v S H6 hv ⟨N,O,R,B6,rfl,Z,e6,k6,l6,t6,c6,p6,r6,u6⟩;let⟨c,y,rfl,hy,hc⟩:=a9.cF hv;let⟨yl,ys,yo⟩:=K0.pc p y (vm hy);have yB:y.1<B6.length:=⋯
    let⟨aj,a1,aa⟩:=Z.last yB;have J:=E1 (h:=iK L h ((g.getD p []).take u)) yB;refine Ap (cU.of (Z.sm _ _ hc)) ?_;exists cm (bZ.of Z.el) (jJ (j:=y.1) (by rw[vv,a1];rfl)) ?_;exists⟨aj,_,rfl,g5.k (k:=Sum.inl (iK L h ((g.getD p []).take u))) aa (vD (k6.len _) ⋯),?_⟩;have b7:=Z.put a1 (iK L h ((g.getD p []).take u));have e7:=(jg (o:=.dK (putK (B6.getD y.1 []) (Sum.inl (iK L h ((g.getD p []).take u))) (.bl true))) (ae a1)).trans e6;generalize upd H6 aj _=H7 at b7 e7|-;exists cm (bZ.of (b7.sm _ _ el)) (jJ (j:=y.1) (by rw[vv,(Kv ys).2];rfl)) ?_;refine⟨some (.int (y.1:Nat)),~~~y.2.1,~~~y.2.2,_,?_,b7,e7,k6.put yB (Cy ah λq' X=>(K0.pc p q' (mem_of_mem_take X)).2.1),Br.trans l6,J _ _ t6,λp' a2 a6 X C=>?_,(KG ⋯).trans p6,λj q' X Y I C=>(r6 j q' X Y I C).mono J,?_⟩
    .rw[take_snoc hy,Xa];rfl
    .refine(c6 p' a2 a6 X ?_).mono J;unfold fJ at C|-;rw[KG ⋯]at C;exact C
    .rw[take_snoc hy];exact(u6.mono J).snoc (BK yB)
   .rintro S H6 ⟨N,O,R,B6,rfl,Z,e6,k6,l6,t6,c6,p6,r6,u6⟩;rw[vt,a9.1,v3]at u6;refine⟨_,_,_,_,_,B6,rfl,Z,e6,k6,l6,t6,c6,p6,λj q' X Y I C=>?_⟩;rcases Nat.lt_or_ge j t with z | z
    .exact r6 j q' X z I C
    .have:j=t:=⋯
     subst this;rw[a8]at I;cases I;rw[eh]at C;cases C;exact u6
  rintro S H5 ⟨o5,o6,N,O,R,B5,rfl,b5,e5,k5,l5,t5,c5,p5,r5⟩;rw[vt]at r5;refine⟨_,_,_,_,_,_,B5,rfl,b5,k5,l5,t5,λp' a2 a6 X C=>?_⟩;rcases Nat.lt_or_ge p p' with z | z
  .exact c5 p' a2 ⋯ X C
  .have:p'=p:=⋯
   subst this;unfold fJ at C;rw[p5]at C;let⟨v,hv⟩:=Option.isSome_iff_exists.mp C;let⟨q',I,e'⟩:=vK.mp (Cq hv);let⟨j,Y,ej⟩:=mem_iff_getElem.mp I;exact r5 j q' X Y (by rw[vz Y,ej]) e'
 rintro S D ⟨o4,o5,o6,N,O,R,B,rfl,b,kb,lB,tp,cl⟩;exists LL ?_;exists⟨m,b.nd,λa W=>?_,λH8 fr=>?_⟩
 .let⟨j,Y,e⟩:=mem_iff_getElem.mp W;let⟨a',M,U⟩:=b.last (j:=j) ⋯;rw[vz Y,e]at M;cases M;exact⟨_,U⟩
 have af:l∉m:=λz=>by
  let⟨j,Y,e⟩:=mem_iff_getElem.mp z;let⟨a',M,U⟩:=b.last (j:=j) ⋯;rw[vz Y,e]at M;cases M;rw[b.el]at U;cases U
 refine q l m B H8 (λc u hc=>(fr.1 c λz=>?_).trans (b.sm _ _ hc)) nl ((fr.1 l af).trans b.el) ⟨b.at'.1,λi a x M U=>fr.2 a (vm M) x (b.at'.2 i a x M U)⟩ ⟨lB,kb,tp,λp hp h C=>cl p hp ⋯ h C⟩;rw[b.nw c z]at hc;cases hc
def kG(T:Txt K mg t)(Jn:1<*t.qJ t.qM ["named"] (cX))(yk:3<*t.Wr t.WA ["book"] (gh))(Ql:5<*t.Z3 t.Z4 ["book"] (dR))(qe:3<*t.zz t.zD ["book","sizes"] (dj))(zJ:1<*t.QA t.QB ["pieces","left","first"] (gI)):6<*t.qf t.Qd ["self","book","name"] (iA t.jT):=by
 specialize T.Kd.ok qO;let⟨a,R,b,pl,pp,a8,ao,ls,C,U,hs,x,f,k,rfl,ha,B,N,hk,q⟩:=h;refine⟨_,(jb (jq (i:=3) qO.nd rfl (.inr rfl) (qj (qS hr) (jh T.QP Jn hr (ja (jk jv (pv 1) jd) jc)) (pv 2)))
  (jb (jq (i:=4) qO.nd rfl (.inr rfl) (JR (ow:=["pairs"]) (ci:=[3]) rfl (cj.of (bV qo) ["self","book","name","limb","left","inside"] rfl rfl ∅) (qi nofun) (jQ (jh T.Xi yk hr (ja (pv 1) jc))) (λ_ _ _ _ _=>⟨(cN 0 (Jy ["self","book","name","limb","left","inside"] rfl ∅)),Qu,(GK (qS hr) (qz (Wx rfl) (by rfl) T.Xu Wd (ja (pv 0) jc)) (pv 1) ⟨rfl,rfl,rfl,rfl⟩)⟩)))
  (jb (qN (pv 0) (jk jv (jk ju (jk jv (pv 1) jd) (pv 3)) jd) rfl)
  (jb (qN (pv 0) (jh T.YI Ql hr (ja (pv 1) jc)) rfl)
  (jb (qN (pv 0) (pv 4) rfl)
  (jb (qN (pv 0) (jP jc) rfl)
  (jb (Jd PassesOwn.never rfl (jQ (jh T.ZC qe hr (ja (pv 1) (ja (jM (pv 0) rfl) jc)))) (cN 5 qO.nd)
   (jf (j5 (JP q4 q5 q7 jO (jM (pv 0) rfl) (ja (JR (ow:=["piece"]) (ci:=[4]) rfl (cj.of (bV qo) ["self","book","name","limb","left","inside"] rfl rfl ∅) (qi nofun) (jQ (pv 5)) (λ_ _ _ _ _=>⟨(cN 0 (Jy ["self","book","name","limb","left","inside"] rfl ∅)),(wD (jr YY (jk (Yk (K:=K) rfl) (pv 1) (jk (XL (K:=K) rfl) (pv 0) jd)) zL (bY _))),(pv 0)⟩)) jc)))))
  (jf (qN (pv 0) (jh T.yU zJ hr (ja (jM (pv 0) rfl) (ja (pv 4) (ja (jM (pv 0) rfl) jc)))) rfl))))))))),?_⟩
 rotate_right 303
 have W:=N.s.w;have gl:=N.s.gl;have l8:=W.l8;have aZ:=W.l0;have la:=B.la.1;have b0:=B.pa.1;have kl:=(vx.mp hk).1;have hj:(bW ls)[k]?=some x:=by unfold bW;rw[vv,hk];rfl
 let⟨H0,ag,n0,B0⟩:=B.less ha;have z0:bX H0 H:=ag H λc u _ h=>h
 exists cp B.t ?_;exists⟨pl,a8,bW ls,rfl,B.l,by rw[bW,vt];exact la,λi a x ea ex=>?_,W.ln,by rw[bW,vt];lia,λd H1 s1 hd ed=>?_⟩
 .unfold bW at ex;rw[vv]at ex;let⟨p,ep,rfl⟩:=vg.mp ex;exact⟨_,B.la.2 i a p ea ep⟩
 ac_nf;have g:dg H1 d (.str x) (some (.int (k:Nat))):=by
  have g:=dg.k (k:=Sum.inr x) ed;rw[Kz W.ln hj]at g;exact g
 refine⟨d,_,rfl,g,?_⟩;exists⟨b,pl,pp,a8,ao,ls,C,rfl,B.same s1,W,λl2 as E H2 s2 aX e2 na lE aE oE=>?_⟩;exists⟨l2,rfl,⟨_,bZ.of e2⟩,?_⟩;have aU:=aE.1;have al:⇑(cR E (k:Nat))=⇑C:=(vt _).trans lE;refine JA (xs:=as.map V.ref) (λi ys Z=>ys=((cR E (k:Nat)).take i).map dD/\bX H2 Z) ⟨rfl,bX.refl _⟩ ?_ ?_ ?_
 .rintro i ys Z _ ⟨rfl,sm⟩;exact bZ.of (sm _ _ e2)
 .rintro i v ys Z hv ⟨rfl,sm⟩;let⟨ae,e,rfl,he,bs,a3,aD⟩:=aE.cF hv;have hi:=(vx.mp he).1;have oi:=(oE i _ _ (vz ⋯) he).1;refine qb (S':=[none,some (.int (k:Nat))]) rfl ?_;exists dP ?_;refine Hh ?_;exists⟨ae,bs,e,rfl,sm _ _ a3,aD.1,λi' c q' h1 h2=>sm _ _ (aD.2 i' c q' h1 h2),?_⟩;walk_at"f d2 hd2 H3 s3 t3";rw[show([]:List (Key×V))=([]:Nq).map hG from rfl,kC,WL (oi.imp λh=>Int.ne_of_lt h)]at t3;refine⟨d2,rfl,.inl ⟨_,.inl t3⟩,?_⟩;exists⟨_,dg.k (k:=Sum.inl (k:Int)) t3,?_⟩;rw[EI];refine⟨by rw[vt,vi,al];lia,?_,sm.trans s3⟩;rw[take_snoc (show(cR E (k:Nat))[i]?=some (e.lookup (k:Int)) by unfold cR;rw[vv,he];rfl),vj];rfl
 rintro ys Z ⟨rfl,sm⟩;rw[show(as.map V.ref).length=⇑(cR E (k:Nat)) by rw[vt,al];lia,v3];refine⟨by rw[vt,al];lia,?_⟩;sleep 3;have J:bX H H3:=s1.trans (s2.trans (sm.trans s3));let⟨lk,aL,ek⟩:=B.la.get hk;have M:p3≠a:=λz=>by rw[z,sm _ _ (s2 _ _ (s1 _ _ ha))]at hp3;cases hp3
 exists cp (J _ _ B.t) ?_;exists cm (bZ.of (J _ _ B.l)) (jJ (j:=k) (by rw[vv,aL];rfl)) ?_;exists cp (J _ _ ek) ?_;exists⟨a,_,R,[],rfl,J _ _ ha,T.j9,T.Qf,(by show 0<1000;decide),?_⟩;generalize e4:upd H3 a _=H4;have k4:∀c u,c≠a->H3 c=some u->H4 c=some u:=λc u n h=>e4▸(jg n).trans h
 have a4:=JT e4;clear e4;have z4:bX H0 H4:=ag H4 λc u n h=>k4 _ _ n (J _ _ h)
 exists⟨b,pl,pp,a8,ao,ls,C,U,hs,rfl,B0.same z4,N.s,λl5 H5 s5 av e5=>?_⟩;exists⟨a,_,R,_,rfl,s5 _ _ a4,T.j9,T.Jv,rO (Jb _ _ _) nofun,?_⟩;have n5:l5≠a:=λz=>by rw[z,a4]at av;cases av
 generalize e6:upd H5 a _=H6;have k6:∀c u,c≠a->H5 c=some u->H6 c=some u:=λc u n h=>e6▸(jg n).trans h
 have a6:=JT e6;clear e6;have z6:bX H0 H6:=λc u h=>k6 _ _ (n0 h) (s5 _ _ (z4 _ _ h))
 exists⟨a,_,R,_,rfl,a6,T.j9,T.qY,vD (Jb _ _ _) (vD (Nat.succ_le_succ (Jb _ _ _)) nofun),?_⟩;generalize e7:upd H6 a _=H7;have k7:∀c u,c≠a->H6 c=some u->H7 c=some u:=λc u n h=>e7▸(jg n).trans h
 have a7:=JT e7;clear e7;exists⟨va _,?_⟩;sleep 8;have n8:p8≠a:=λz=>by rw[z,a7]at hp8;cases hp8
 exists⟨a,_,R,_,rfl,s8 _ _ a7,T.j9,T.JO,ou,?_⟩;generalize e9:upd H8 a _=H9;have k9:∀c u,c≠a->H8 c=some u->H9 c=some u:=λc u n h=>e9▸(jg n).trans h
 have a9:=JT e9;clear e9;have w5:∀c u,c≠a->H5 c=some u->H9 c=some u:=λc u n h=>k9 _ _ n (s8 _ _ (k7 _ _ n (k6 _ _ n h)))
 have w3:∀c u,c≠a->H3 c=some u->H9 c=some u:=λc u n h=>w5 _ _ n (s5 _ _ (k4 _ _ n h))
 have z9:bX H0 H9:=λc u h=>w5 _ _ (n0 h) (s5 _ _ (z4 _ _ h))
 have am:∀{c u},H7 c=some u->c≠p8:=λh=>je h hp8
 exists⟨a,_,R,_,_,rfl,a9,T.j9,T.Jv,(jE ∅).trans ((jE ∅).trans JB),?_⟩;exists⟨b,pl,pp,l5,a8,ao,ls,C,U,rfl,B0.same z9,W,w5 _ _ n5 e5,gl,λaw ab a1 aa ad aq ac ay=>?_⟩;have aF:a1 p8=some (.lst []):=aa _ _ (k9 _ _ n8 t8);have ap:=aa _ _ a9;have aB:a1 p3=_:=aa _ _ (w3 _ _ M t3);have X:p3≠p8:=am (k7 _ _ M (k6 _ _ M (s5 _ _ (k4 _ _ M t3))));have aA:aw≠p8:=λz=>by rw[z,k9 _ _ n8 t8]at ad;cases ad
 have ai:=ac.1;rw[vt]at ai;exists⟨aw,rfl,⟨_,bZ.of aq⟩,?_⟩;refine Ji (xs:=ab.map V.ref) (λi σ Z=>gw λ(o5:N3) (Y:L7)=>eD (σ=[↥a,↥b,some (.str x),some (.int (k:Nat)),↥p3,o5]) (∀c u,c≠p8->a1 c=some u->Z c=some u) (Z p8=some (.lst (Y.map V.ref))) ((∀c∈Y,c≠p8)/\hY Z Y ((fM C U (cR E (k:Nat))).take i)))
  ⟨_,[],rfl,λc u _ h=>h,aF,(λc h=>nomatch h),.nil⟩ ?_ ?_ ?_
 .rintro i σ Z _ ⟨o5,Y,rfl,r,e8,n8,I⟩;exact bZ.of (r _ _ aA aq)
 .rintro i v σ a2 hv ⟨o5,Y,rfl,r,e8,an,I⟩;let⟨c0,qs,rfl,ak,bs,a3,ar⟩:=ac.cF hv;have aH:c0∈ab:=by
   rw[vv]at hv;let⟨a',ea,e'⟩:=vg.mp hv;injection e' with e';subst e';exact vm ea
  have az:c0≠p8:=λz=>by have:=ay c0 aH;rw[z,k9 _ _ n8 t8]at this;cases this
  have aR:∀{c:Addr} {xs:N2},a1 c=some (.tup xs)->c≠p8:=λh=>JG h aF (λz=>by cases z)
  have hi:i<⇑C:=by
   have:=(vx.mp ak).1;rw[vt]at this;exact this
  rw[vv,vz hi]at ak;have aj:qs=de U C[i].2 (cG C C[i].2):=(vL ak).symm;have q8:⇑qs<=8:=aj▸Kw (N.i8 (vz hi));have aT:∀y∈qs,y.1<⇑C:=λy hy=>by
   have:y∈cy C U i:=by unfold cy;rw[vz hi];rw[aj]at hy;exact hy
   have:=zK W this;lia
  have aK:=ar.1;have aC:=I.1;rw[vi]at aC;have aV:⇑(fM C U (cR E (k:Nat)))=⇑C:=vt _;have aJ:(fM C U (cR E (k:Nat)))[i]?=some (qs.filter λq=>((cR E (k:Nat)).getD q.1 none).isSome):=by
   unfold fM;rw[vv,vz hi,aj];rfl
  exists⟨a,_,R,_,_,rfl,r _ _ (Ne.symm n8) ap,T.j9,T.JO,JB,.inl ⟨rfl,_,bZ.of e8⟩,?_⟩;exists⟨c0,rfl,⟨_,bZ.of (r _ _ az a3)⟩,?_⟩;refine JA (xs:=bs.map V.ref) (λj ys a0=>dX λ(fb:L7)=>m9 (ys=fb.map V.ref) (⇑fb<=j) (fZ a2 fb ((qs.take j).filter λq=>((cR E (k:Nat)).getD q.1 none).isSome)/\a2=a0)) ⟨[],rfl,vb _,.nil,rfl⟩ ?_ ?_ ?_
  .rintro j ys a0 _ ⟨fb,rfl,fl,hf,rfl⟩;exact bZ.of (r _ _ az a3)
  .rintro j v ys a0 aM ⟨fb,rfl,fl,hf,rfl⟩;let⟨c,y,rfl,hy,hc⟩:=ar.cF aM;have aW:=(vx.mp hy).1;have au:a2 c=_:=r _ _ (aR hc) hc;have yl:=aT y (vm hy);have ey:(cR E (k:Nat))[y.1]?=some ((cR E (k:Nat)).getD y.1 none):=by rw[vy,vz ⋯];rfl
   refine qb (S':=[none,↥p3]) rfl ?_;exists cp au ?_;exists cm (bZ.of (r _ _ X aB)) (jJ (j:=y.1) (by rw[vv,ey];rfl)) ?_;exists⟨rfl,?_⟩;refine⟨_,rfl,?_⟩;rw[sX];have ef:(qs.take (j+1)).filter (λq=>((cR E (k:Nat)).getD q.1 none).isSome)=((qs.take j).filter λq=>((cR E (k:Nat)).getD q.1 none).isSome)++(if((cR E (k:Nat)).getD y.1 none).isSome=true then[y]else[]):=by
    rw[take_snoc hy,filter_append];congr 1;rw[v6,filter_nil]
   cases eo:(cR E (k:Nat)).getD y.1 none with
   | none=>
    rw[eo]at ef;refine iZ ?_;refine⟨fb,rfl,⋯,?_,rfl⟩;rw[ef];exact(append_nil _).symm▸hf
   | some h=>
    rw[eo]at ef;refine dP ?_;exists⟨by rw[vt];lia,fb++[c],by rw[vj];rfl,by rw[vn,vR];lia,?_,rfl⟩;rw[ef];exact cg.snoc hf au
  rintro ys a0 ⟨fb,rfl,fl,hf,rfl⟩;rw[vt]at fl hf;rw[aK,v3]at hf;refine⟨by rw[vt];lia,?_⟩;sleep 12;exists⟨p8,_,_,rfl,rfl,s12 _ _ e8,by rw[vt];lia,?_⟩;have ax:p12≠p8:=(je e8 hp12).symm;have ah:∀{c:Addr} {xs:N2},H12 c=some (.tup xs)->c≠p8:=λh=>JG h (s12 _ _ e8) (λz=>by cases z)
  refine⟨↥c0,Y++[p12],rfl,λc u hc h=>(jg hc).trans (s12 _ _ (r _ _ hc h)),?_,λc hc=>(vh.mp hc).elim (an c) λz=>by rw[vo.mp z];exact ax,?_⟩
  .rw[jw,vj];rfl
  .rw[take_snoc aJ];refine cg.snoc (cg.iS I λc hc e h=>?_) ⟨fb,(jg ax).trans t12,cg.mono hf λb q h=>(jg (ah (s12 _ _ h))).trans (s12 _ _ h)⟩;let⟨aG,h1,h2⟩:=h;exact⟨aG,(jg (an c hc)).trans (s12 _ _ h1),cg.mono h2 λb q h=>(jg (ah (s12 _ _ h))).trans (s12 _ _ h)⟩
 rintro σ a2 ⟨o5,Y,rfl,r,e8,an,I⟩;rw[vt,ai,show(fM C U (cR E (k:Nat))).take ⇑C=fM C U (cR E (k:Nat))from by rw[<-show(fM C U (cR E (k:Nat))).length=⇑C from vt _,v3]]at I;have S:=N.strand lE oE hk;have D:=r _ _ (Ne.symm n8) ap;exists⟨a,_,R,_,_,rfl,D,T.j9,T.JO,JB,?_⟩;exists⟨a,_,R,_,_,rfl,D,T.j9,T.Qf,(jE ∅).trans ((jE ∅).trans ((jE ∅).trans JB)),?_⟩;exists⟨p8,p3,Y,f,cR E (k:Nat),U,_,rfl,e8,I,r _ _ X aB,S,λa5 ba Bt L l af aI fz ok=>?_⟩;exists⟨a,_,R,_,rfl,l _ _ D,T.j9,T.Q0,su,?_⟩;have aN:a5≠a:=λz=>by rw[z,D]at af;cases af
 have O:∀c u,c≠a->L c=some u->upd L a (.ins t.jT R (iH ⟨l5,p3,p8,a5,Y,ba⟩ f)) c=some u:=λc u n h=>(jg n).trans h
 have u9:∀c u,c≠a->c≠p8->H9 c=some u->upd L a (.ins t.jT R (iH ⟨l5,p3,p8,a5,Y,ba⟩ f)) c=some u:=λc u n m h=>O _ _ n (l _ _ (r _ _ m (aa _ _ h)))
 have aQ:∀{c:Addr} {xs:N2},L c=some (.lst xs)->c≠a:=λh=>JG h (l _ _ D) (λz=>by cases z)
 have aS:∀{c:Addr} {xs:N2},L c=some (.tup xs)->c≠a:=λh=>JG h (l _ _ D) (λz=>by cases z)
 have aP:∀{c:Addr} {o:Obj} {u:HO},L c=some (.gD o u)->c≠a:=λh=>JG h (l _ _ D) (λz=>by cases z)
 have aO:l5≠p8:=am (k7 _ _ n5 (k6 _ _ n5 e5));have h7:∀c u,c≠a->H c=some u->H7 c=some u:=λc u n h=>k7 _ _ n (k6 _ _ n (s5 _ _ (k4 _ _ n (J _ _ h))))
 refine q ⟨l5,p3,p8,a5,Y,ba⟩ E Bt _ (λc u n h=>u9 _ _ n (am (h7 _ _ n h)) (w3 _ _ n (J _ _ h))) lE oE S ⟨⟨R,jw⟩,u9 _ _ n5 aO (w5 _ _ n5 e5),u9 _ _ M X (w3 _ _ M t3),O _ _ n8 (l _ _ e8),?_,O _ _ aN aI,cg.mono fz λc aY ⟨o,h⟩=>⟨o,O _ _ (aP h) h⟩⟩ ok;refine cg.mono I λc e z_=>?_;let⟨bs,h1,h2⟩:=z_;exact⟨bs,O _ _ (aQ (l _ _ h1)) (l _ _ h1),cg.mono h2 λb q h=>O _ _ (aS (l _ _ h)) (l _ _ h)⟩
def DU(T:Txt K mg t):1<*t.zc t.zf ["pieces","sizes","gone"] (dB):=by
 specialize T.ye.F.ok Qj;let⟨l,s0,b,bs,S,a,rfl,W,Y,X,q8,ok,t1,t2,q⟩:=h;refine⟨_,(jb (cz 3 Qj.nd (jP jc))
  (jb (Jd PassesOwn.never rfl (jQ (pv 0)) (J1 rfl (jA (cN 4 Qj.nd) (jA (cN 5 Qj.nd) (jA (cN 6 Qj.nd) Jw))))
   (jf (Ja (jr Xd (pv 6) (pv 2) (bY _))
    (jb (cz 7 Qj.nd (jD (YO rfl) (by rfl) T.uB Xx (ja (jo Jf (jo Jm (pv 2) (pv 6)) (jk ju (pv 1) (pv 4))) (ja (pv 5) jc))))
    (jb (cz 8 Qj.nd (Zx (jr ka (pv 7) (pv 5) (bY _)) (jo Jm (jo Jm (pv 2) (pv 6)) (jo Js (pv 7) (jk ju (pv 1) (pv 4)))) zL))
    (jf (j5 (JP q4 q5 q7 jO (pv 3) (ja (jR (ja (pv 4) (ja (pv 6) (ja (pv 7) (ja (pv 8) jc))))) jc))))))
    jB)))
  (jf (jx (pv 3))))),?_⟩
 rotate_right 306
 have B:∀j,j<⇑a->a[j]?=some (a∘j):=λj h=>by
  rw[vy,vz h];rfl
 have bl:=Y.1;exists⟨va _,?_⟩;walk_at"f p hp H1 s1 e1";have np:∀{c u},H c=some u->c≠p:=λh=>je h hp
 exists⟨l,rfl,⟨_,bZ.of (s1 _ _ W)⟩,?_⟩;refine Ji (xs:=bs.map V.ref) (λi U m=>mu λ(I J L M N:N3) (d:L7)=>eD (U=[↥l,↥s0,~~~b,↥p,I,J,L,M,N]) (bX H m) (m p=some (.lst (d.map V.ref))) (⇑d<=i/\nz m d (dA a b (S.take i))))
  ⟨_,_,_,_,_,[],rfl,s1,e1,vb _,.nil⟩ ?_ ?_ ?_
 .rintro i U m _ ⟨I,J,L,M,N,d,rfl,k,e,Z,n⟩;exact bZ.of (k _ _ W)
 .rintro i v U m hv ⟨I,J,L,M,N,d,rfl,k,e,Z,n⟩;let⟨c,x,rfl,R,hc⟩:=Y.cF hv;have hi:=(vx.mp R).1;have C:=ok x (vm R);have D:=C;let⟨x1,g1,g2,n1,n2,b1,b2⟩:=D;have g:dA a b (S.take (i+1))=dA a b (S.take i)++(cZ a b x).toList:=by
   rw[take_snoc R];unfold dA;rw[List.filterMap_append];congr 1
  refine Ap (cU.of (k _ _ hc)) ?_;exists cC (λr=>?_) (λr=>?_)
  .have a1:=De C r;exists cm (bZ.of (k _ _ X)) (jJ (j:=x.1) (by rw[vv,B _ x1];rfl)) ?_;ac_nf;have eo:(if x.2.1<(b-x.2.2)/a∘x.1 then x.2.1 else(b-x.2.2)/a∘x.1)=ov a b x:=rfl;have a0:(if(b-x.2.2)/a∘x.1>x.2.1 then x.2.1 else(b-x.2.2)/a∘x.1)=ov a b x:=rfl;refine⟨_,_,rfl,?_⟩;rw[eo];exists cC (λO=>?_) (λO=>?_)
   .exists cm (bZ.of (k _ _ X)) (jJ (j:=x.1) (by rw[vv,B _ x1];rfl)) ?_;exists⟨.inl ⟨rfl,_,bZ.of e⟩,?_⟩;exists⟨ub,?_⟩;walk_at"f 2 e";exists⟨p,_,_,rfl,rfl,s2 _ _ e,by rw[vt];lia,?_⟩;have o:p2≠p:=λz=>by rw[z,s2 _ _ e]at e2;cases e2
    refine⟨_,_,_,_,_,d++[p2],rfl,λc u h=>(jg (np h)).trans (s2 _ _ (k _ _ h)),by rw[jw,vj];rfl,by rw[vn];show ⇑d+1<=_;lia,?_⟩;have f:cZ a b x=some (x.1,x.2.2,ov a b x,some (b-x.2.2-ov a b x*a∘x.1)):=by
     unfold cZ;rw[vd r,vd O]
    rw[g,f];refine cg.snoc (cg.mono n λc y h=>?_) ((jg o).trans e2);exact(jg (λz=>by rw[z,e]at h;cases h)).trans (s2 _ _ h)
   .exists⟨.inl ⟨rfl,_,bZ.of e⟩,?_⟩;exists⟨ub,?_⟩;walk_at"f 2 e";exists⟨p,_,_,rfl,rfl,s2 _ _ e,by rw[vt];lia,?_⟩;have o:p2≠p:=λz=>by rw[z,s2 _ _ e]at e2;cases e2
    refine⟨_,_,_,_,_,d++[p2],rfl,λc u h=>(jg (np h)).trans (s2 _ _ (k _ _ h)),by rw[jw,vj];rfl,by rw[vn];show ⇑d+1<=_;lia,?_⟩;have f:cZ a b x=some (x.1,x.2.2,ov a b x,none):=by
     unfold cZ;rw[vd r,vc O]
    rw[g,f];refine cg.snoc (cg.mono n λc y h=>?_) ((jg o).trans e2);exact(jg (λz=>by rw[z,e]at h;cases h)).trans (s2 _ _ h)
  .exists⟨_,_,_,_,_,d,rfl,k,e,⋯,?_⟩;have f:cZ a b x=none:=by
    unfold cZ;rw[vc r]
   rw[g,f];show nz m d (_++[]);rw[append_nil];exact n
 rintro S' m ⟨I,J,L,M,N,d,rfl,k,e,Z,n⟩;rw[vt,bl,v3]at n;ac_nf;exact q p d m k hp e n
def wz(T:Txt K mg t):1<*t.qQ t.qR ["self","part"] (gQ t.jT):=by
 specialize T.wW.ok wJ;let⟨a,z,f,L,r,c,B,i,rfl,A,S,u,q⟩:=h;refine⟨_,(jf (jx (Df (B7 YY (jk ju (jM (pv 0) rfl) (pv 1)) zL (bY _)) (Dg (IC (jk ju (jM (pv 0) rfl) (pv 1))))))),?_⟩;refine jz (S':=[some _,some _]) rfl ?_
 try dsimp only[eF,Cx.lu]
 let⟨k,l⟩:=A.ob;have x:=S.lL;have o:=A.pa.1;have m:L[i]?=some (L.getD i none):=by rw[vy,vz ⋯];rfl
 have n:c[i]?=some (c.getD i []):=by rw[vy,vz ⋯];rfl
 let⟨y,e,p,d,g⟩:=A.pa.get n;exists⟨a,_,k,_,_,rfl,l,T.j9,T.qY,XJ,?_⟩;exists cm (bZ.of A.hl) (jJ (j:=i) (by rw[vv,m];rfl)) ?_;exists⟨rfl,?_⟩;refine⟨_,rfl,?_⟩;rw[sX];unfold pj at q;cases eo:L.getD i none with
 | none=>
  rw[eo]at q;exact iZ q
 | some v=>
  rw[eo]at q;refine dP ?_;refine IG ?_;exists⟨a,_,k,_,_,rfl,l,T.j9,T.JO,xT,?_⟩;exists cm (bZ.of A.hp) (jJ (j:=i) (by rw[vv,e];rfl)) ?_;refine⟨_,.inl ⟨_,bZ.of d,rfl⟩,?_⟩;rw[Bool.not_not,He (b:=c.getD i []) ((vt _).trans g.1)];exact q
def X6(T:Txt K mg t):1<*t.ZD t.ZJ ["many","top","plus","bottom"] (Pr.KO):=by
 refine T.wM.F.ok JS (λI H Q E h=>?_) (λv A o s H I Q E C h=>?_)
 .let⟨d,g,f,a,rfl,z,q⟩:=h;rfl
 let⟨d,g,f,a,rfl,z,q⟩:=h;refine⟨_,(jb (cz 4 JS.nd jd)
  (jb (Yq PassesOwn.never (jr Zw (pv 0) jd (bY _))
   (jb (wF (i:=4) JS.nd rfl (.inl rfl) (jo jL (jo Js (jo Jf (jo Js (pv 0) (jo Jm (pv 0) jd)) jd) (jo Jf (pv 1) (pv 3))) (jo Js (pv 0) (jo Jf (pv 2) (pv 3)))) wm)
   (jb (cz 5 JS.nd (jo Je (pv 1) (pv 3)))
   (jb (cz 6 JS.nd (jo jL (jo Js (pv 5) (pv 0)) (jo Je (pv 2) (pv 3))))
   (jb (cz 0 JS.nd (jo Jf (pv 6) (pv 3)))
   (jb (cz 2 JS.nd (jo Je (pv 6) (pv 3)))
   (jb (cz 1 JS.nd (pv 3))
   (jf (cz 3 JS.nd (pv 5))))))))))
  (jf (jx (pv 4))))),?_⟩
 rotate_right 403
 exists⟨λn S' l=>ni λ(m t p b j:Int) (r u:N3)=>eD (S'=[~~~m,~~~t,~~~p,~~~b,~~~j,r,u]) (l=H) (n=b.toNat) ((0<=m/\m<=10^100/\-10^125<=t/\t<=10^125/\-10^125<=p/\p<=10^125/\0<=b/\b<=10^125/\(0<m->0<b))/\j+Fs.fsum m t p b=Fs.fsum d g f a),
  ⟨_,_,_,_,_,_,_,_,rfl,rfl,rfl,⋯,uz _⟩,?_⟩
 rintro n S' l ⟨m,t,p,b,j,r,u,rfl,rfl,rfl,N,D⟩;exists cC (λc=>?_) (λc=>?_)
 .have k:0<b:=⋯
  have C:=Fs.round (t:=t) (p:=p) k c;have O:=Fs.HF k t p (m:=m) ⋯;have J:=CF (x:=t) (b:=b) (B:=10^125) k ⋯ ⋯;have L:=CF (x:=p) (b:=b) (B:=10^125) k ⋯ ⋯;have M:=C1 (x:=m) (y:=m-1) (A:=10^100) (B:=10^100) ⋯ ⋯ ⋯ ⋯;refine⟨_,λS' l h=>h,?_⟩;exists⟨(t%b).toNat,⋯,_,_,_,_,_,_,_,rfl,rfl,rfl,⋯,⋯⟩
 .ac_nf;rw[Fs.xS ⋯]at D;have e:j=Fs.fsum d g f a:=⋯
  rw[e];exact q
def DW(T:Txt K mg t)(d:1<*t.ZD t.ZJ ["many","top","plus","bottom"] (Pr.KO)):2<*t.kx t.kz ["start","goal","beats","many"] (Pr.wU):=by
 refine T.Wo.F.ok D8 (λk H Q E h=>?_) (λe A a s H k Q E i h=>?_)
 .let⟨j,g,b,m,rfl,c,f,q⟩:=h;rfl
 let⟨j,g,b,m,rfl,c,f,q⟩:=h;refine⟨_,(jf (jx (jo jL (jo Js (pv 0) (pv 3)) (jh T.wM d i (ja (pv 3) (ja (jo Jm (pv 1) (pv 0)) (ja jd (ja (pv 2) jc)))))))),?_⟩;refine jz (S':=[some _,some _,some _,some _]) rfl ?_
 try dsimp only[eF,Cx.lu]
 unfold Pr.B4 at c;exists⟨_,_,_,_,rfl,⋯,?_⟩;ac_nf;exact q
def Ej(T:Txt K mg t):1<*t.YM t.YR ["start","goal","beats","height"] (Pr.W0):=by
 refine T.KR.F.ok EB (λk H Q E h=>?_) (λi A d s H k Q E l h=>?_)
 .let⟨a,g,b,h,rfl,f,j,q⟩:=h;rfl
 let⟨a,g,b,h,rfl,f,j,q⟩:=h;refine⟨_,(jb (Ja (jr Zw (pv 1) (pv 0) (bY _))
   (jf (jx (Yo ZA (jo Jf (jo Js (jo Jm (pv 0) (pv 3)) (pv 2)) (jo Jm (pv 1) (pv 0))))))
   jB)
  (jf (jx (jo jL (jo Jf (jo Js (jo Jm (jo Jm (pv 0) (pv 3)) jd) (pv 2)) (jo Jm (pv 0) (pv 1))) jd)))),?_⟩
 rotate_right 400
 unfold Pr.B4 at f;exists cC (λc=>?_) (λc=>?_)
 .ac_nf;have e:Rp.reached a g b h = -((a-h)*b/(g-a)):=by unfold Rp.reached;rw[vd c]
  rw[e]at q;exact q
 .ac_nf;have e:Rp.reached a g b h=(a-h-1)*b/(a-g)+1:=by unfold Rp.reached;rw[vc c]
  rw[e]at q;exact q
def Ek(T:Txt K mg t)(u:1<*t.YM t.YR ["start","goal","beats","height"] (Pr.W0)):2<*t.KZ t.K6 ["start","goal","beats","height","many"] (Pr.W1):=by
 refine T.xy.F.ok yT (λC H Q E h=>?_) (λy A r s H C Q E x h=>?_)
 .let⟨f,g,b,h,m,rfl,v,n,o,q⟩:=h;rfl
 let⟨f,g,b,h,m,rfl,v,n,o,q⟩:=h;refine⟨_,(jb (Ja (jr Jr (pv 1) (pv 0) (bY _))
   (jf (jx (jR (ja jd (ja (Zx (jr Jr (pv 3) (pv 0) (bY _)) (pv 4) jd) jc)))))
   jB)
  (jb (cz 5 yT.nd (Zx (jr Zw (pv 1) (pv 0) (bY _)) (jo jL (pv 3) jd) (jo Jm (pv 3) jd)))
  (jb (cz 6 yT.nd (jD (K2 rfl) (by rfl) T.sM Wv (ja (jh T.KR u x (ja (pv 0) (ja (pv 1) (ja (pv 2) (ja (pv 3) jc))))) (ja jd jc))))
  (jb (cz 7 yT.nd (jD (YO rfl) (by rfl) T.uB Xx (ja (jh T.KR u x (ja (pv 0) (ja (pv 1) (ja (pv 2) (ja (pv 5) jc))))) (ja (pv 4) jc))))
  (jf (jx (jR (ja (pv 6) (ja (jD (K2 rfl) (by rfl) T.sM Wv (ja (pv 6) (ja (pv 7) jc))) jc))))))))),?_⟩
 rotate_right 503
 unfold Pr.B4 at v;have k:(2:Nat)<=sizeLine:=by decide
 exists cC (λc=>?_) (λc=>?_)
 .exists cC (λd=>?_) (λd=>?_)
  .exists⟨k,λp e=>q p _ (Pr.KI e _) ?_⟩;rw[jw];unfold Rp.fst Rp.lst;rw[vd c,vd c,vd d]
  .exists⟨k,λp e=>q p _ (Pr.KI e _) ?_⟩;rw[jw];unfold Rp.fst Rp.lst;rw[vd c,vd c,vc d]
 .have a:∀p j,bX H j->j p=some (.tup [.int (Rp.imax (Rp.reached f g b h) 0),.int (Rp.imax (Rp.imax (Rp.reached f g b h) 0) (Rp.ox (Rp.reached f g b (Rp.beyond f g h)) m))])->Q (.ref p) j:=by
   intro p j z B;refine q p j z ?_;rw[B];unfold Rp.fst Rp.lst;rw[vc c,vc c];unfold Rp.fst;rw[vc c]
  exists cC (λd=>?_) (λd=>?_)
  .have l:Rp.beyond f g h=h+1:=by unfold Rp.beyond;rw[vd d]
   rw[l]at a;exists⟨_,_,_,_,rfl,(by unfold Pr.B4;lia),c,?_⟩;exists⟨_,_,rfl,?_⟩;exists⟨_,_,_,_,rfl,(by unfold Pr.B4;lia),c,?_⟩;exists⟨_,_,rfl,?_⟩;exists⟨_,_,rfl,?_⟩;ac_nf;exact⟨k,λp e=>a p _ (Pr.KI e _) jw⟩
  .have l:Rp.beyond f g h=h-1:=by unfold Rp.beyond;rw[vc d]
   rw[l]at a;exists⟨_,_,_,_,rfl,(by unfold Pr.B4;lia),c,?_⟩;exists⟨_,_,rfl,?_⟩;exists⟨_,_,_,_,rfl,(by unfold Pr.B4;lia),c,?_⟩;exists⟨_,_,rfl,?_⟩;exists⟨_,_,rfl,?_⟩;ac_nf;exact⟨k,λp e=>a p _ (Pr.KI e _) jw⟩
def xp(T:Txt K mg t)(j:2<*t.KZ t.K6 ["start","goal","beats","height","many"] (Pr.W1)):3<*t.yx t.yG ["start","goal","beats","height","many"] (Pr.kh):=by
 refine T.Ka.F.ok kg (λr H Q E h=>?_) (λk A d s H r Q E l h=>?_)
 .let⟨o,g,b,h,m,rfl,e,a,c,q⟩:=h;rfl
 let⟨o,g,b,h,m,rfl,e,a,c,q⟩:=h;refine⟨_,(jb (cz 5 kg.nd (jh T.xy j l (ja (pv 0) (ja (pv 1) (ja (pv 2) (ja (pv 3) (ja (pv 4) jc)))))))
  (jf (jx (jo Jm (jk jv (pv 5) jd) (jk jv (pv 5) jd))))),?_⟩
 rotate_right 501
 exists⟨_,_,_,_,_,rfl,e,a,c,λp u n f=>?_⟩;exists cp f ?_;exists cp f ?_;ac_nf;exact q _ n
def El(T:Txt K mg t)(d:2<*t.kx t.kz ["start","goal","beats","many"] (Pr.wU))(f:3<*t.yx t.yG ["start","goal","beats","height","many"] (Pr.kh)):4<*t.K1 t.K7 ["asked","start","goal","beats","many"] (fX):=by
 specialize T.xz.F.ok EC;let⟨o,h,g,b,m,rfl,c,p,r,k,l,i,j,u,v,q⟩:=h;refine⟨_,(jb (Ja (jr C4 (pv 0) zL (bY _))
   (jf (jx (jh T.Wo d hr (ja (pv 1) (ja (pv 2) (ja (pv 3) (ja (pv 4) jc)))))))
   jB)
  (jf (jx (jh T.Ka f hr (ja (pv 1) (ja (pv 2) (ja (pv 3) (ja (pv 0) (ja (pv 4) jc))))))))),?_⟩
 rotate_right 500
 obtain⟨n,rfl⟩:∃n:Nat,m=(n:Int):=⟨m.toNat,⋯⟩
 rw[Int.toNat_natCast]at q;exists⟨rfl,?_⟩;refine⟨_,rfl,?_⟩;cases o with
 | none=>
  refine eN (by simp[dD]) ?_;exists⟨h,g,b,n,rfl,⟨⋯,⋯,⋯,⋯,⋯,⋯,⋯,⋯⟩,⋯,?_⟩;rw[Cd];exact q H (bX.refl _)
 | some x=>
  have:=c x rfl;refine c8 (by simp[dD]) ?_;exists⟨h,g,b,x,n,rfl,⟨⋯,⋯,⋯,⋯,⋯,⋯,⋯,⋯⟩,⋯,⋯,λa e=>?_⟩;rw[BG ⋯];exact q a e
def EV(T:Txt K mg t):1<*t.Kh t.Kp ["asked","height","many"] (gV):=by
 specialize T.Wp.F.ok Fc;let⟨o,h,m,rfl,a,b,d,f,q⟩:=h;refine⟨_,(jb (Ja (jr C4 (pv 0) zL (bY _))
   (jf (jx (jo Js (pv 1) (pv 2))))
   jB)
  (jf (jx (Zx (jr Jr (pv 1) (pv 0) (bY _)) (pv 2) jd)))),?_⟩
 rotate_right 300
 cases o with
 | none=>
  exists⟨rfl,?_⟩;refine⟨_,rfl,?_⟩;refine eN (by simp[dD]) ?_;ac_nf;exact q
 | some x=>
  dsimp only[dD];exists⟨rfl,?_⟩;refine⟨_,rfl,?_⟩;refine c8 (by simp) ?_;exists cC (λc=>?_) (λc=>?_)
  .ac_nf;have e:wA (some x) h*m=m:=by
    show(if h=x then(1:Int)else 0)*m=m;rw[vd c,uw]
   rw[e]at q;exact q
  .ac_nf;have e:wA (some x) h*m=0:=by
    show(if h=x then(1:Int)else 0)*m=0;rw[vc c,Int.zero_mul]
   rw[e]at q;exact q
def Y4(T:Txt K mg t)(qF:1<*t.zc t.zf ["pieces","sizes","gone"] (dB))(zI:1<*t.qQ t.qR ["self","part"] (gQ t.jT))(KY:4<*t.K1 t.K7 ["asked","start","goal","beats","many"] (fX))(Ke:1<*t.Kh t.Kp ["asked","height","many"] (gV)):5<*t.JZ t.J0 ["self","part","height","gone"] (eK t.jG t.jT):=by
 specialize T.km.ok jS;let⟨a,z,o,ls,d,gs,hs,E,k,x,f,B,n,i,h,D,rfl,A,O,ak,aj,hi,hh,s1,s2,q⟩:=h;refine⟨_,(jb (Ja (Yr (Zf (jM (pv 0) rfl) T.j9 T.wv (zI.mono nofun) hr T.wV .nil dG (ja (pv 1) jc)))
   (jf (jx (jR (ja (jh T.xz KY hr (ja (jM (pv 0) rfl) (ja (pv 2) (ja (jk ju (jM (jM (pv 0) rfl) rfl) (pv 1)) (ja (jk ju (jM (jM (pv 0) rfl) rfl) (pv 1)) (ja (pv 3) jc)))))) (ja zL jc)))))
   jB)
  (jb (cz 4 jS.nd jd)
  (jb (cz 5 jS.nd jd)
  (jb (Jd PassesOwn.never rfl (jQ (jh T.ye qF hr (ja (jk ju (jM (jM (pv 0) rfl) rfl) (pv 1)) (ja (jM (jM (pv 0) rfl) rfl) (ja (pv 3) jc))))) (J1 rfl (jA (cN 6 jS.nd) (jA (cN 7 jS.nd) (jA (cN 8 jS.nd) (jA (cN 9 jS.nd) Jw)))))
   (jb (wF (i:=4) jS.nd rfl (.inl rfl) (jo jL (jh T.Wp Ke hr (ja (jM (pv 0) rfl) (ja (pv 2) (ja (jo Jm (pv 7) (pv 5)) jc)))) (jo Js (pv 8) (qj (qS hr) (jk ju (jM (pv 0) rfl) (pv 6)) (pv 2)))) wm)
   (jb (Ja (jr YY (pv 9) zL (bY _))
    (jf (jx (jR (ja (pv 4) (ja (jR (ja (pv 6) (ja (pv 2) (ja (pv 9) jc)))) jc)))))
    jB)
   (jb (cz 5 jS.nd (jo jL (pv 7) (jo Js (pv 8) (jk ju (jM (jM (pv 0) rfl) rfl) (pv 6)))))
   (jf (cz 2 jS.nd (jk ju (jM (jM (pv 0) rfl) rfl) (pv 6))))))))
  (jf (jx (jR (ja (jo jL (pv 4) (jh T.Wp Ke hr (ja (jM (pv 0) rfl) (ja (pv 2) (ja (jo Jm (pv 3) (pv 5)) jc))))) (ja zL jc))))))))),?_⟩
 rotate_right 406
 let⟨J,N⟩:=A.ob;let⟨Z,os⟩:=A.st.ob;have S:=O.so;have M:=O.n.lm (k:=k) O.lE O.oE;have pl:⇑(fM d gs (cR E (k:Nat)))=⇑d:=O.len;have gi:=O.n.g hi;have lL:=S.lL;have lg:=S.lg;have hb:=O.has hh;have eP:(fM d gs (cR E (k:Nat)))[i]?=some ((fM d gs (cR E (k:Nat))).getD i []):=by rw[vy,vz ⋯];rfl
 have eG:∀{j:Nat},j<⇑d->eW (gs.map V.int) ((j:Nat):Int)=some (.int (gs∘j)):=λ{j} hj=>jJ (j:=j) (by rw[vv,vz ⋯,vy,vz ⋯];rfl)
 let⟨pc,ad,bs,ac,af⟩:=A.st.pa.get eP;exists⟨a,_,J,_,_,rfl,N,T.jF,T.jH,qX,?_⟩;refine⟨z.st,Z,_,rfl,os,Lb ∅ ∅ ∅ ∅ ∅,?_⟩;exists⟨z.st,z.t,f,_,gs,_,B,i,rfl,A.st,S,⋯,?_⟩;refine⟨_,rfl,?_⟩;cases er:pj (cR E (k:Nat)) (fM d gs (cR E (k:Nat))) i with
 | true=>
  have a9:=er;unfold pj at er;let⟨aa,ab⟩:=Bool.and_eq_true_iff.mp er;let⟨l1,l2⟩:=Kv aa;have lb:=S.lb i _ l1;have gb:=S.rs i _ l1 (isEmpty_iff.mp ab);refine dP ?_;exists⟨a,_,J,_,_,rfl,N,T.jF,T.JM,WF,?_⟩;exists⟨a,_,J,_,_,rfl,N,T.jF,T.jH,qX,?_⟩;refine⟨z.st,_,Z,_,_,rfl,os,T.j9,T.qY,XJ,?_⟩;exists cm (bZ.of A.st.hl) (jJ (j:=i) (by rw[vv,l2];rfl)) ?_;exists⟨a,_,J,_,_,rfl,N,T.jF,T.jH,qX,?_⟩;refine⟨z.st,_,Z,_,_,rfl,os,T.j9,T.Jv,Yj,?_⟩;exists cm (bZ.of A.st.hs) (eG hi) ?_;exists⟨o,h,gG (cR E (k:Nat)) i,gs∘i,D,rfl,ak,hb.1,hb.2,lb.1,lb.2,gb.1,gb.2,s1,⋯,λH1 p=>?_⟩;exists⟨ud,?_⟩;walk_at"f r hr' H2 t2 e2";refine q r .cW _ none H2 (p.trans t2) e2 rfl ?_ (λu hu=>by cases hu) (λ_=>rfl);show dH _ _+0=_;rw[uy];refine Q6 λj hj=>?_
  exact congrArg (wA o) (Ld M hi a9 ⋯ ⋯).symm
 | false=>
  have PT:=Lc M hi er;have U:∀u∈(fM d gs (cR E (k:Nat))).getD i [],fS gs u:=λu hu=>(S.pc i u hu).2.2
  have C:=HS (T:=hT ls d gs E k) (L:=cR E (k:Nat)) (gs:=gs) (w:=wA o) (s:=D) _ 0 0 h U PT.a (vA _) s1;have I:D=gs∘i->_:=λe=>FW (T:=hT ls d gs E k) (L:=cR E (k:Nat)) (gs:=gs) (w:=wA o) (s:=D) ((fM d gs (cR E (k:Nat))).getD i []) 0 0 h λu hu=>⟨U u hu,by rw[e];exact PT.e u hu⟩
  have a4:=II (s:=D) PT.a U (O.bo.cl i ⋯ h hh);have a3:=λy hy=>IE (gs:=gs) (s:=D) (PC:=(fM d gs (cR E (k:Nat))).getD i []) (y:=y) hy U
  have Y:dH (λj=>wA o (hW (hT ls d gs E k) (cR E (k:Nat)) gs h ((fM d gs (cR E (k:Nat))).getD i []) (0+j))) (D-0).toNat=dH (λj=>wA o (hT ls d gs E k i h j)) D.toNat:=by
   rw[Int.sub_zero];refine Q6 λj hj=>?_
   rw[uz];exact congrArg (wA o) (PT.h h j ⋯).symm
  rw[Y,uz]at C;clear Y;refine iZ ?_;exists⟨a,_,J,_,_,rfl,N,T.jF,T.jH,qX,?_⟩;refine⟨z.st,_,Z,_,_,rfl,os,T.j9,T.JO,xT,?_⟩;exists cm (bZ.of A.st.hp) (jJ (j:=i) (by rw[vv,ad];rfl)) ?_;exists⟨a,_,J,_,_,rfl,N,T.jF,T.jH,qX,?_⟩;refine⟨z.st,_,Z,_,_,rfl,os,T.j9,T.Jv,Yj,?_⟩;exists⟨pc,z.t.s,D,bs,_,gs,rfl,ac,af,A.st.hs,S.p8 i,U,s1,⋯,λp1 a8 H1 p _ e1 g1=>?_⟩;refine⟨p1,rfl,⟨_,bZ.of e1⟩,?_⟩;generalize dA gs D ((fM d gs (cR E (k:Nat))).getD i [])=ys at C I a4 a3 g1;have a7:=g1.1;generalize eR:oJ (hT ls d gs E k) (cR E (k:Nat)) gs (wA o) D 0 0 h ys=R at C I;refine Ji (xs:=a8.map V.ref) (λu σ H'=>ni λ(l b m:Int) (o6 o7 o8 o9:N3)=>pS (σ=[↥a,some (.int (i:Nat)),~~~m,~~~D,~~~l,~~~b,o6,o7,o8,o9]) (H1=H') (oJ (hT ls d gs E k) (cR E (k:Nat)) gs (wA o) D l b m (ys.drop u)=R) (pV (cR E (k:Nat)) B m (ys.drop u)) (0<=m) (m<=10^18) (0<=b/\b<=10^80)) ⟨0,0,h,_,_,_,_,rfl,rfl,eR,a4,hb.1,hb.2,vA _,by decide⟩ ?_ ?_ ?_
  .rintro u σ H' _ ⟨l,b,m,o6,o7,o8,o9,rfl,rfl,_⟩;exact bZ.of e1
  .rintro u v σ H' hv ⟨l,b,m,o6,o7,o8,o9,rfl,rfl,X,rn,h0,W,n0,ag⟩;let⟨c,y,rfl,hy,hc⟩:=g1.cF hv;let⟨qq,ae,yq,yb,b0,ai,o0,ah,yr⟩:=a3 y (vm hy);let⟨a5,a6,_⟩:=S.pc i qq ae;rw[<-yq]at a5 a6;let⟨l1,l2⟩:=Kv a6;have lb:=S.lb y.1 _ l1;rw[Hc hy]at X rn;let⟨a1,rn⟩:=rn;have jy:y.1<⇑d:=⋯
   have gy:=O.n.g jy;have am:=A.wd.1;have a2:z.wa[y.1]?=some z.wa[y.1]:=vz ⋯;let⟨al,ek,vk⟩:=A.wd.2 y.1 _ a2;have wb:=O.wh (o:=o) jy ⟨h0,W⟩;have g:dg H1 z.wa[y.1] (.int m) (some (.int (lH (hT ls d gs E k) gs (wA o) y.1 m))):=by
    have g:=dg.k (k:=Sum.inl m) (p _ _ ek);rw[vk m a1]at g;exact g
   refine Aq (cU.of hc) ?_;exists⟨a,_,J,_,_,rfl,p _ _ N,T.jF,T.JM,WF,?_⟩;exists⟨o,m,y.2.1-b,rfl,h0,W,⋯,⋯,?_⟩;exists⟨a,_,J,_,_,rfl,p _ _ N,T.jF,T.JC,wg,?_⟩;exists cm (bZ.of (p _ _ A.w)) (jJ (j:=y.1) (by rw[vv,a2];rfl)) ?_;exists⟨z.wa[y.1],_,rfl,g,?_⟩;exists⟨rfl,?_⟩;refine⟨_,rfl,?_⟩;unfold oJ at X;cases ey:y.2.2.2 with
   | some r=>
    rw[ey]at X;refine eN (by simp[dD]) ?_;exists⟨uc,?_⟩;walk_at"f c2 hc2 H2 t2 e2";exists⟨ud,?_⟩;walk_at"f r2 hr2 H3 t3 e3";rw[<-X]at C I;refine q r2 (.ref c2) _ (some (y.1,m,r)) H3 (p.trans (t2.trans t3)) e3 ⟨c2,rfl,t3 _ _ e2⟩ C (λu' a0=>?_) I;cases a0;have:=yr r ey;exact⟨a5,a1,this.1,by show r<=gs∘y.1;lia⟩
   | none=>
    rw[ey]at X;refine c8 (by simp[dD]) ?_;exists⟨a,_,J,_,_,rfl,p _ _ N,T.jF,T.jH,qX,?_⟩;refine⟨z.st,_,Z,_,_,rfl,p _ _ os,T.j9,T.Jv,Yj,?_⟩;exists cm (bZ.of (p _ _ A.st.hs)) (eG jy) ?_;have mb:=C1 (A:=10^18) (B:=10^60) (show -10^18<=y.2.2.1 by lia) ah (show -10^60<=gs∘y.1 by lia) gy.2;have mp:=vM o0 (show 0<=gs∘y.1 by lia);exists⟨a,_,J,_,_,rfl,p _ _ N,T.jF,T.jH,qX,?_⟩;refine⟨z.st,_,Z,_,_,rfl,p _ _ os,T.j9,T.qY,XJ,?_⟩;exists cm (bZ.of (p _ _ A.st.hl)) (jJ (j:=y.1) (by rw[vv,l2];rfl)) ?_;ac_nf;exact⟨_,_,_,_,_,_,_,rfl,rfl,X,rn,lb.1,lb.2,⋯,⋯⟩
  .rintro σ H' ⟨l,b,m,o6,o7,o8,o9,rfl,rfl,X,rn,h0,W,n0,ag⟩;rw[vt,a7,List.drop_length]at X;exists⟨a,_,J,_,_,rfl,p _ _ N,T.jF,T.JM,WF,?_⟩;exists⟨o,m,D-b,rfl,h0,W,⋯,⋯,?_⟩;exists⟨ud,?_⟩;walk_at"f r2 hr2 H3 t3 e3";rw[<-X]at C I;exact q r2 .cW _ none H3 (p.trans t3) e3 rfl C (λu' a0=>by cases a0) I
def yV(T:Txt K mg t)(QS:6<*t.qf t.Qd ["self","book","name"] (iA t.jT))(Jz:5<*t.JZ t.J0 ["self","part","height","gone"] (eK t.jG t.jT)):8<*t.Jq t.JL ["self","book","limb","asked"] (gk t.jG t.jT):=by
 specialize T.yZ.ok J3;let⟨a,I,b,pl,pp,ai,am,R,C,g,hs,x,f,k,o,rfl,ha,Bk,N,hk,ak,q⟩:=h;refine⟨_,(jb (qN (pv 0) (YZ T.FX (QS.mono nofun) hr (by rfl) T.FO T.kT .nil dG (ja (pv 1) (ja (pv 2) jc))) rfl)
  (jb (qN (pv 0) (jk ju (jM (jM (pv 0) rfl) rfl) (Yo ZA jd)) rfl)
  (jb (qN (pv 0) (pv 3) rfl)
  (jb (qN (pv 0) (jP jc) rfl)
  (jf (Jd PassesOwn.never rfl (Wi (by rfl) T.ZH (ja (jM (jM (pv 0) rfl) rfl) jc)) (J1 rfl (jA (jt (i:=4) J3.nd rfl (.inr rfl)) (jA (cN 5 J3.nd) Jw)))
   (jb (jq (i:=6) J3.nd rfl (.inr rfl) (jk ju (jM (jM (pv 0) rfl) rfl) (pv 4)))
   (jf (j5 (JP q4 q5 q7 jO (jM (pv 0) rfl) (ja (qz (Eu rfl) (by rfl) T.Xu Wd (ja (JR (ow:=["height"]) (ci:=[4,6,0]) rfl (cj.of (bV qk) ["self","book","limb","asked","part","begun","size"] rfl rfl ∅) (qi nofun) (ID (pv 5)) (λ_ _ _ _ _=>⟨(cN 0 (Jy ["self","book","limb","asked","part","begun","size"] rfl ∅)),Qu,(jR (ja (pv 0) (ja (jk (XL (K:=K) rfl) (Zf (pv 3) T.jF T.zN (Jz.mono nofun) hr T.Zn .nil dG (ja (pv 1) (ja (pv 0) (ja (pv 2) jc)))) jd) jc)))⟩)) jc)) jc))))))))))),?_⟩
 rotate_right 403
 have ne:=N.ne;have gl:=N.s.gl;have as:=N.s.w.l0;ac_nf;intro U dy ae ah ar;have s1:bX H (upd (upd H dy (.own U)) U (.ins t.jT dy [])):=λc u h=>(jg (je h ae)).trans ((jg (je h ah)).trans h)
 refine⟨U,dy,b,pl,pp,ai,am,R,C,g,hs,x,f,k,rfl,jw,Bk.same s1,N,hk,λzs E B W k2 lE oE SO SA BO=>⟨rfl,?_⟩⟩;have s2:bX H W:=λc u h=>k2 _ _ (je h ae) (s1 _ _ h)
 have O:mU R C g hs E k x f B:=⟨N,lE,oE,hk,SO,BO⟩
 let⟨H0,L,n0,M⟩:=SA.less (s2 _ _ ha);let⟨dz,os⟩:=M.ob;clear s1 k2 SA;have z2:bX H0 W:=L W λc u _ h=>h
 have a2:=s2 _ _ ha;exists⟨a,_,I,[],rfl,a2,T.jF,T.jH,(by show 0<1000;decide),?_⟩;generalize e3:upd W a _=H3;have k3:∀c u,c≠a->W c=some u->H3 c=some u:=λc u n h=>e3▸(jg n).trans h
 have a3:=JT e3;clear e3;have z3:=L H3 k3;exists⟨a,_,I,_,_,rfl,a3,T.jF,T.jH,JB,?_⟩;refine⟨U,_,dz,_,_,rfl,z3 _ _ os,T.j9,T.Jv,Yj,?_⟩;exists cm (bZ.of (z3 _ _ M.hs)) (Xs ne gl) ?_;exists⟨a,_,I,_,rfl,a3,T.jF,T.Qp,rO (Jb _ _ _) nofun,?_⟩;generalize e4:upd H3 a _=H4;have k4:∀c u,c≠a->W c=some u->H4 c=some u:=λc u n h=>e4▸(jg n).trans (k3 c u n h)
 have a4:=JT e4;clear e4 k3;exists⟨a,_,I,_,rfl,a4,T.jF,T.JM,vD (Jb _ _ _) (vD (Nat.succ_le_succ (Jb _ _ _)) nofun),?_⟩;generalize e5:upd H4 a _=H5;have k5:∀c u,c≠a->W c=some u->H5 c=some u:=λc u n h=>e5▸(jg n).trans (k4 c u n h)
 have a5:=JT e5;clear e5 k4;exists⟨va _,?_⟩;walk_at"f pw hpw H6 s6 t6";have nw:pw≠a:=λz=>by rw[z,a5]at hpw;cases hpw
 exists⟨a,_,I,_,rfl,s6 _ _ a5,T.jF,T.JC,ou,?_⟩;generalize e7:upd H6 a _=H7;have k7:∀c u,c≠a->H6 c=some u->H7 c=some u:=λc u n h=>e7▸(jg n).trans h
 have a7:∀p,H7 a=some (.ins t.jG I (lq ⟨U,zs,pw,p⟩ (g∘(⇑C-1)) o)):=λp=>JT e7
 clear e7;have w2:∀c u,c≠a->W c=some u->H7 c=some u:=λc u n h=>k7 _ _ n (s6 _ _ (k5 _ _ n h))
 have z7:=L H7 w2;have t7:=k7 _ _ nw t6;have nh:∀{c u},c≠a->W c=some u->c≠pw:=λn h=>je (k5 _ _ n h) hpw
 have a8:∀{c u},H0 c=some u->c≠pw:=λh=>nh (n0 h) (z2 _ _ h)
 have an:⇑(fM C g (cR E (k:Nat)))=⇑C:=O.len;have lL:=SO.lL;have af:=M.ba.1;have lB:=BO.ln;exists⟨a,_,I,_,_,rfl,a7 [],T.jF,T.jH,qX,?_⟩;refine⟨U,_,dz,_,_,rfl,z7 _ _ os,T.j9,T.Q0,Bm,?_⟩;exists⟨zs.b,_,rfl,bZ.of (z7 _ _ M.hb),?_⟩;refine Kq (xs:=zs.ba.map V.ref) (λi σ X=>gz λ(o4 o5 o6:N3) (p:L7)=>hQ (σ=[↥a,↥b,some (.str x),some (dD o),o4,o5,o6]) (∀c u,c≠pw->H7 c=some u->X c=some u) (X pw=some (.lst (p.map V.ref))) (nE X p B (lH (hT R C g E k) g (wA o)) i) (∀c∈p,c≠pw))
  ⟨_,_,_,[],rfl,λc u _ h=>h,t7,⟨rfl,λi a h=>by simp at h⟩,λc h=>nomatch h⟩ ?_ ?_ ?_
 .rintro i σ X _ ⟨o4,o5,o6,p,rfl,J,Z,hJ,nj⟩;exact bZ.of (J _ _ (a8 M.hb) (z7 _ _ M.hb))
 .rintro i v σ H1 P H8 hv ⟨o4,o5,o6,p,rfl,J,Z,hJ,nj⟩ S tP;let⟨ab,D,rfl,ad,al,ac⟩:=M.ba.cF hv;have hi:=(vx.mp ad).1;have a0:D=B.getD i []:=by rw[vy,ad];rfl
  have ip:i<⇑C:=⋯
  have z8:bX H0 H8:=λc u h=>S _ _ (J _ _ (a8 h) (z7 _ _ h))
  have aa:=hJ.1;have ao:⇑D<=⇑(cR E (k:Nat))+1:=a0▸BO.kb.len i;have A8:pT t.jG t.jT H8 a ⟨U,zs,pw,p⟩ o R C g E k f B i:=⟨⟨I,S _ _ (J _ _ nw.symm (a7 p))⟩,M.same z8,S _ _ Z,hJ.same S⟩
  refine Qh (cU.of tP) ?_;exists⟨a,_,I,_,_,rfl,S _ _ (J _ _ nw.symm (a7 p)),T.jF,T.jH,qX,?_⟩;refine⟨U,_,dz,_,_,rfl,z8 _ _ os,T.j9,T.Jv,Yj,?_⟩;exists cm (bZ.of (z8 _ _ M.hs)) (jJ (j:=i) (show(g.map V.int)[i]?=some (.int (g∘i)) by rw[vv,vz ⋯,vy,vz ⋯];rfl)) ?_;exists⟨a,_,I,_,_,rfl,S _ _ (J _ _ nw.symm (a7 p)),T.jF,T.JC,wg,.inl ⟨rfl,_,bZ.of (S _ _ Z)⟩,?_⟩;exists Hi ?_;exists⟨ab,al,D,rfl,z8 _ _ ac,?_⟩;refine Fo (λt ys X=>dX λ(m:L7)=>eD (ys=m.map V.ref) (⇑m=t) (bX H8 X) (∀(s:Nat) (c:Addr) (q:Key×V),m[s]?=some c->D[s]?=some q->X c=some (.tup [.int (Rm.fU q.1),.int (lH (hT R C g E k) g (wA o) i (Rm.fU q.1))])))
   ⟨[],rfl,rfl,bX.refl _,λs c q h=>by simp at h⟩ ?_ ?_ ?_
  .rintro t ys X _ ⟨m,rfl,tl,s3,ht⟩;exact s3 _ _ (z8 _ _ ac)
  .rintro t q0 ys H9 a6 ⟨m,rfl,tl,s9,ht⟩;have aq:=(vx.mp a6).1;let⟨h,ex,h0,ap,xh⟩:=BO.key SO (a0▸vm a6);rw[ex];show cv 0 (.int h) _ _ _;refine qb (S':=[none,some (.int (i:Nat)),some (.int (g∘i)),↥a]) rfl ?_;exists dP ?_;exists⟨a,I,_,rfl,s9 _ _ (S _ _ (J _ _ nw.symm (a7 p))),xL,?_⟩;ac_nf;have gi:=N.g ip;refine⟨a,⟨U,zs,pw,p⟩,o,R,C,g,hs,E,k,x,f,B,i,i,h,g∘i,rfl,A8.same s9,O,ak,vb _,ip,xh,⋯,⋯,λr v Y y H10 s10 e10 au re _ aj=>?_⟩;obtain rfl:=aj rfl;have et:Y=lH (hT R C g E k) g (wA o) i h:=by
    have e:Y+0=_:=re;rw[uy]at e;exact e
   subst et;exists cp e10 ?_;exists⟨ud,?_⟩;walk_at"f t4 ht4 H11 s11 e11";refine⟨by rw[vt];lia,m++[t4],by rw[vj];rfl,by rw[vn,tl];rfl,s9.trans (s10.trans s11),λs c q l hq=>?_⟩;rcases Nat.lt_or_ge s ⇑m with z | z
   .rw[vB z]at l;exact s11 _ _ (s10 _ _ (ht s c q l hq))
   .rw[vC z]at l;have es:s=⇑m:=by
     have:=(vx.mp l).1;rw[vR]at this;lia
    subst es;rw[Nat.sub_self]at l;cases l;rw[tl,a6]at hq;cases hq;rw[ex];exact e11
  rintro ys H9 ⟨m,rfl,tl,s9,ht⟩;refine⟨by rw[vt];lia,?_⟩;walk_at"f p4 hp4 H10 s10 e10";exists⟨p4,m,(D.map λq=>Rm.fU q.1).map λh=>(h,.int (lH (hT R C g E k) g (wA o) i h)),rfl,e10,by rw[vt,vt,tl],λs c q l hq=>?_,?_⟩
  .rw[vv,vv]at hq;let⟨h,hx,rfl⟩:=vg.mp hq;let⟨q',a1,rfl⟩:=vg.mp hx;exact s10 _ _ (ht s c q' l a1)
  walk_at"f d hd H11 s11 e11";ac_nf;have a9:bX H1 H11:=S.trans (s9.trans (s10.trans s11));have ag:=a9 _ _ Z;refine⟨pw,_,_,rfl,rfl,ag,by rw[vt];lia,?_⟩;have nd:d≠pw:=λz=>by rw[z,s10 _ _ (s9 _ _ (S _ _ Z))]at hd;cases hd
  refine⟨_,_,_,p++[d],rfl,λc u l h=>(jg l).trans (a9 _ _ (J _ _ l h)),?_,⟨by rw[vn,aa];rfl,λj c l=>?_⟩,λc l=>(vh.mp l).elim (nj c) λz=>by rw[vo.mp z];exact nd⟩
  .rw[jw,vj];rfl
  .rcases Nat.lt_or_ge j ⇑p with z | z
   .rw[vB z]at l;let⟨kv,h1,h2⟩:=hJ.2 j c l;exact⟨kv,(jg (nj c (vm l))).trans (a9 _ _ h1),h2⟩
   .rw[vC z]at l;have es:j=⇑p:=by
     have:=(vx.mp l).1;rw[vR]at this;lia
    subst es;rw[Nat.sub_self]at l;cases l;refine⟨_,(jg nd).trans e11,λh hh=>?_⟩;rw[v4];show cO (cS [] ((D.map λq=>Rm.fU q.1).map λh=>rg (h,.int (lH (hT R C g E k) g (wA o) i h)))) _=_;rw[FU (λh=>.int (lH (hT R C g E k) g (wA o) i h)),vd,aa];unfold fJ at hh;rw[aa,<-a0]at hh;let⟨v,hv⟩:=Option.isSome_iff_exists.mp hh;let⟨q',a1,e'⟩:=vK.mp (Cq hv);exact vK.mpr ⟨q',a1,by rw[e'];rfl⟩
 .rintro σ H8 ⟨o4,o5,o6,p,rfl,J,Z,hJ,nj⟩;rw[vt,af,lB,an]at hJ;exists q ⟨U,zs,pw,p⟩ E B H8 (λc u n h=>J _ _ (nh n (s2 _ _ h)) (w2 _ _ n (s2 _ _ h))) O ⟨⟨I,J _ _ nw.symm (a7 p)⟩,M.same λc u h=>J _ _ (a8 h) (z7 _ _ h),Z,hJ⟩
def kE(T:Txt K mg t)(Jz:5<*t.JZ t.J0 ["self","part","height","gone"] (eK t.jG t.jT)):6<*t.qZ t.Qb ["self","beat"] (dq t.jG t.jT):=by
 specialize T.Kb.ok JF;let⟨a,z,o,n,d,g,hs,E,k,x,f,B,C,rfl,A,O,ak,b0,b1,q⟩:=h;refine⟨_,(jb (cz 2 JF.nd jd)
  (jb (cz 3 JF.nd (jR (ja (jo Jm (jD jX (by rfl) T.qg Jt (ja (jM (pv 0) rfl) jc)) jd) (ja (jM (jM (pv 0) rfl) rfl) (ja (pv 1) jc)))))
  (jb (Yq PassesOwn.never (jr YY (pv 3) zL (bY _))
   (jb (cz 4 JF.nd (Zf (pv 0) T.jF T.zN (Jz.mono nofun) hr T.Zn .nil dG (ja (jk jv (pv 3) jd) (ja (jk jv (pv 3) jd) (ja (jk jv (pv 3) jd) jc)))))
   (jb (wF (i:=2) JF.nd rfl (.inl rfl) (jk jv (pv 4) jd) wm)
   (jf (cz 3 JF.nd (jk jv (pv 4) jd))))))
  (jf (jx (pv 2)))))),?_⟩
 rotate_right 203
 let⟨S,X⟩:=A.ob;let⟨dy,os⟩:=A.st.ob;have ne:=O.n.ne;have Z:=A.wd.1;have pl:⇑(fM d g (cR E (k:Nat)))=⇑d:=O.len;have ht:=O.bo.tp;rw[pl]at ht;have eS:dH (λj=>wA o ((cL n d g E j).getD k 0)) C.toNat=dH (λj=>wA o (hT n d g E k (⇑d-1) f j)) C.toNat:=by
  refine Q6 λj hj=>?_
  rw[Xf O.n O.lE O.oE O.hk]
 rw[eS]at q;exists⟨a,_,S,_,_,rfl,X,T.jF,T.JC,wg,?_⟩;refine⟨_,_,rfl,.inl ⟨_,bZ.of A.w,rfl⟩,?_⟩;rw[vt,Z];exists⟨a,_,S,_,_,rfl,X,T.jF,T.jH,qX,?_⟩;refine⟨z.st,_,dy,_,_,rfl,os,T.j9,T.Qf,GG,?_⟩;exists⟨uc,?_⟩;sleep 1;rw[show((⇑d:Nat):Int)-1=((⇑d-1:Nat):Int) by lia]at t1;exists⟨λm R p=>gz λ(b:Int) (v:V) (D:N3) (y:Option (Nat×Int×Int))=>hQ (R=[↥a,~~~C,~~~b,some v,D]) (bX H p) (nA p v y) (resT (hT n d g E k) (wA o) (b,y)=dH (λj=>wA o (hT n d g E k (⇑d-1) f j)) C.toNat) ((∀u,y=some u->u.1<⇑d/\fJ B u.1 u.2.1/\0<=u.2.2/\u.2.2<=g∘u.1+1)/\m=(match y with | none=>0 | some u=>u.1+1)),
  ⟨_,0,.ref p1,none,some (⇑d-1,f,C),rfl,s1,⟨p1,rfl,t1⟩,by show 0+_=_;rw[uz],λu hu=>by cases hu;exact⟨by show ⇑d-1<_;lia,ht,b0,b1⟩,rfl⟩,?_⟩
 rintro m R p ⟨b,v,D,y,rfl,M,J,re,ok,rfl⟩;exists⟨rfl,?_⟩;refine⟨_,rfl,?_⟩;cases y with
 | none=>
  have ev:v = .cW:=J;subst ev;refine c8 (by simp) ?_;ac_nf;have e:b=dH (λj=>wA o (hT n d g E k (⇑d-1) f j)) C.toNat:=by
   have e:b+0=_:=re;rw[<-e,uy]
  rw[e];exact q p M
 | some u=>
  let⟨c,rfl,U⟩:=J;let⟨u1,u2,u3,u4⟩:=ok u rfl;refine eN (by simp) ?_;refine⟨λR p=>gz λ(b:Int) (v:V) (D:N3) (y:Option (Nat×Int×Int))=>hQ (R=[↥a,~~~C,~~~b,some v,D]) (bX H p) (nA p v y) (resT (hT n d g E k) (wA o) (b,y)=dH (λj=>wA o (hT n d g E k (⇑d-1) f j)) C.toNat) ((∀u,y=some u->u.1<⇑d/\fJ B u.1 u.2.1/\0<=u.2.2/\u.2.2<=g∘u.1+1)/\(match y with | none=>0 | some u=>u.1+1)<u.1+1),
   (by rintro S' p ⟨b,v,D,y,h1,h2,h3,h4,h5,h6⟩;exact⟨_,h6,b,v,D,y,h1,h2,h3,h4,h5,rfl⟩),?_⟩
  exists⟨a,S,_,rfl,M _ _ X,xL,?_⟩;exists cp U ?_;exists cp U ?_;exists cp U ?_;exists⟨a,z,o,n,d,g,hs,E,k,x,f,B,⇑d,u.1,u.2.1,u.2.2,rfl,A.same M,O,ak,⋯,u1,u2,u3,u4,λr v l y' H2 s2 e2 L Y I _=>?_⟩;exists cp e2 ?_;exists cp e2 ?_;exists⟨b+l,v,_,y',rfl,M.trans s2,L,?_,λN W=>?_,?_⟩
  .have e3:b+dH (λj=>wA o (hT n d g E k u.1 u.2.1 j)) u.2.2.toNat=_:=re;rw[<-Y]at e3;rw[<-e3];exact Int.add_assoc b l _
  .let⟨w1,w2,w3,w4⟩:=I N W;exact⟨⋯,w2,w3,⋯⟩
  .cases y' with
   | none=>show 0<u.1+1;lia
   | some N=>have:=(I N rfl).1;show N.1+1<u.1+1;lia
def kF(T:Txt K mg t)(qF:1<*t.zc t.zf ["pieces","sizes","gone"] (dB)):2<*t.Qa t.Qc ["self","beat"] (dt t.jW):=by
 specialize T.Kc.ok jZ;let⟨a,z,ls,ps,gs,C,hs,x,t0,rfl,Z,N,O,b0,b1,q⟩:=h;refine⟨_,(jb (cz 2 jZ.nd jd)
  (jb (cz 3 jZ.nd (jP (ja (jR (ja (jo Jm (jD jX (by rfl) T.qg Jt (ja (jM (pv 0) rfl) jc)) jd) (ja (pv 1) jc))) jc)))
  (jb (Yq PassesOwn.never (Ao (pv 3) (λ_=>rfl))
   (jb (cz 4 jZ.nd (Am q4 PySem.F.slot_list_pop PySem.F.type_list_pop C0 (pv 3)))
   (jb (Qg (PW.pt (Q1 (ZW (Ao (jk ju (jM (pv 0) rfl) (jk jv (pv 4) jd)) (λ_=>rfl))) (QC (jr Zw (jk jv (pv 4) jd) jd (bY _)))))
    (jf (wF (i:=2) jZ.nd rfl (.inl rfl) (jk ju (jM (pv 0) rfl) (jk jv (pv 4) jd)) wm))
    jB)
   (jf (Jd PassesOwn.never rfl (jQ (jh T.ye qF hr (ja (jk ju (jM (pv 0) rfl) (jk jv (pv 4) jd)) (ja (jM (pv 0) rfl) (ja (jk jv (pv 4) jd) jc))))) (J1 rfl (jA (cN 5 jZ.nd) (jA (cN 6 jZ.nd) (jA (cN 7 jZ.nd) (jA (cN 8 jZ.nd) Jw)))))
    (jb (wF (i:=2) jZ.nd rfl (.inl rfl) (jo Js (pv 7) (jk ju (jM (pv 0) rfl) (pv 5))) wm)
    (jf (Ja (jr YY (pv 8) zL (bY _))
     (jf (j5 (JP q4 q5 q7 jO (pv 3) (ja (jR (ja (pv 5) (ja (pv 8) jc))) jc))))
     jB))))))))
  (jf (jx (pv 2)))))),?_⟩
 rotate_right 207
 have sz:(20000:Nat)<sizeLine:=by decide
 have W:=N.s.w;have gl:=N.s.gl;have ne:=N.ne;have wl:=O.1;have aw:=W.l0;have au:=N.g (show ⇑ps-1<⇑ps by lia);have M8:∀i,i<⇑ps->⇑(hs.getD i [])<=8:=λi hi=>BX W N.hl N.m (wQ N.s N.hl hi)
 have wb:∀j,j<⇑ps->0<=C∘j/\C∘j<=10^60*8^62:=λj hj=>by
  have b:=O.uV N (vb _) j hj;have g:=N.g hj;have e:(8:Int)^(j+1)<=8^62:=by
   have:=Nat.pow_le_pow_right (show 0<8 by decide) (show j+1<=62 by lia)
   exact_mod_cast this
  exact⟨b.1,Int.le_trans b.2 (Int.mul_le_mul g.2 e (Int.le_of_lt (Int.pow_pos nofun)) nofun)⟩
 let⟨dx,ob⟩:=Z.o;exists⟨a,_,dx,_,_,rfl,ob,T.jY,T.Ju,Bl,?_⟩;exists⟨_,_,rfl,.inl ⟨_,bZ.of Z.s,rfl⟩,?_⟩;rw[vt,gl];exists⟨ud,?_⟩;walk_at"f 3 e";exists⟨ue,?_⟩;walk_at"f 4 e";rw[show((⇑ps:Nat):Int)-1=((⇑ps-1:Nat):Int) by lia]at e3;have aq:=s3.trans s4;have m4:∀{c u},H c=some u->c≠p4:=λh=>je (s3 _ _ h) hp4
 exists⟨λm σ l=>mx λ(o4 D I J L:N3) (d:L7) (S:L3) (Y:Int)=>hQ (σ=[↥a,~~~t0,~~~Y,↥p4,o4,D,I,J,L]) (bX H l) (l p4=some (.lst (d.map V.ref))) (dM l d S) (rV ps gs C (RA ps gs C (⇑ps-1) t0) Y S/\m=(S.map λs=>nodes ps gs s.1 s.2).sum),
  ⟨_,none,none,none,none,none,[p3],[(⇑ps-1,t0)],0,rfl,aq,e4,cg.snoc (as:=[]) (xs:=[]) .nil (s4 _ _ e3),⟨by simp,λs ak=>by rw[vo.mp ak];exact⟨by show ⇑ps-1<_;lia,b0,by show t0<=_;lia⟩,by have:=N.nodes M8 (i:=⇑ps-1) (t:=t0) ⋯ b0;simpa using this⟩,rfl⟩,?_⟩
 rintro m σ l ⟨o4,D,I,J,L,d,S,Y,rfl,sm,eT,gT,A,rfl⟩;have tl:=gT.1;have ag:⇑S<=(S.map λx=>nodes ps gs x.1 x.2).sum:=AF λx _=>YW (ps:=ps) (gs:=gs) x.1 x.2
 have an:=A.n;exists⟨_,.inl ⟨_,bZ.of eT,rfl⟩,?_⟩;rcases List.eq_nil_or_concat S with rfl | ⟨S0,y,rfl⟩
 .have et:d=[]:=length_eq_zero_iff.mp tl;subst et;refine iZ ?_;ac_nf;have e:=A.e;rw[map_nil,sum_nil,uy]at e;rw[e];exact q _ sm
 rw[List.concat_eq_append]at *;let⟨f,ax,rfl,aa,ac⟩:=cg.last gT;rw[vj]at eT|-;refine eN (by simp) ?_;let⟨y1,y2,y3⟩:=A.ok y (mem_append_right _ vq);have A':=A.next N;have nx:=WV (i:=y.1) (t:=y.2) N;have a9:([y].map λs:Nat×Int=>nodes ps gs s.1 s.2).sum=nodes ps gs y.1 y.2:=by simp
 rw[vj,sum_append,a9];have ay:=aa.1;rw[vn,vR]at ag;refine⟨λσ l=>mx λ(o4 D I J L:N3) (d:L7) (S:L3) (Y:Int)=>hQ (σ=[↥a,~~~t0,~~~Y,↥p4,o4,D,I,J,L]) (bX H l) (l p4=some (.lst (d.map V.ref))) (dM l d S) (rV ps gs C (RA ps gs C (⇑ps-1) t0) Y S/\(S.map λs=>nodes ps gs s.1 s.2).sum<(S0.map λs=>nodes ps gs s.1 s.2).sum+nodes ps gs y.1 y.2),
  (by rintro S' l ⟨o4,D,I,J,L,d,S,Y,h1,h2,h3,h4,h5,h6⟩;exact⟨_,h6,o4,D,I,J,L,d,S,Y,h1,h2,h3,h4,h5,rfl⟩),?_⟩
 exists⟨.inl ⟨rfl,_,bZ.of eT⟩,?_⟩;refine⟨p4,_,.ref ax,rfl,rfl,eT,by simp,?_⟩;rw[show((f.map V.ref)++[ax].map V.ref).dropLast=f.map V.ref by simp];have a4:∀{c:Addr} {xs:N2},l c=some (.tup xs)->c≠p4:=λh z=>by rw[z,eT]at h;cases h
 have U:bX H (upd l p4 (.lst (f.map V.ref))):=λc u h=>(jg (m4 h)).trans (sm _ _ h)
 have a3:upd l p4 (.lst (f.map V.ref)) p4=some (.lst (f.map V.ref)):=jw;have ab:dM (upd l p4 (.lst (f.map V.ref))) f S0:=cg.mono aa λc y h=>(jg (a4 h)).trans h
 have B:=(jg (o:=HO.lst (f.map V.ref)) (a4 ac)).trans ac;generalize upd l p4 (.lst (f.map V.ref))=H5 at U a3 ab B|-;clear a4;have a0:=U _ _ ob;obtain⟨p,hp⟩:∃p,ps[y.1]?=some p:=⟨_,vz y1⟩
 have ah:cy ps gs y.1=de gs p.2 (cG ps p.2):=by unfold cy;rw[hp]
 have aj:(ps.map λp=>de gs p.2 (cG ps p.2))[y.1]?=some (cy ps gs y.1):=by rw[vv,hp,ah];rfl
 let⟨al,a8,bs,ae,hq⟩:=Z.pa.get aj;have ad:=hq.1;have ap:=v9 N y.1;have iw:∀{j:Nat},j<⇑ps->eW (C.map V.int) (j:Int)=some (.int (C∘j)):=λ{j} hj=>jJ (j:=j) (by rw[vv,vz ⋯,vy,vz ⋯];rfl)
 generalize eX:(if cy ps gs y.1=[]then(if 0<y.2 then C∘y.1 else 0)else 0)=X at A';exists⟨λS' H6=>S'=[↥a,~~~t0,some (.int (Y+X)),↥p4,↥ax,D,I,J,L]/\H5=H6,?_,?_⟩
 rotate_left
 .exists⟨a,_,dx,_,_,rfl,a0,T.jY,T.JD,wj,?_⟩;exists cp B ?_;exists cm (bZ.of (U _ _ Z.p)) (jJ (j:=y.1) (by rw[vv,a8];rfl)) ?_;exists⟨_,.inl ⟨_,bZ.of (U _ _ ae),rfl⟩,?_⟩;by_cases cb:cy ps gs y.1=[]
  .have eb:bs=[]:=length_eq_zero_iff.mp (by rw[ad,cb];rfl);subst eb;refine dP ?_;exists cp B ?_;exists cC (λc=>?_) (λc=>?_)
   .exists⟨a,_,dx,_,_,rfl,a0,T.jY,T.Jo,YT,?_⟩;exists cp B ?_;exists cm (bZ.of (U _ _ Z.w)) (iw y1) ?_;ac_nf;rw[vd cb,vd ⋯]at eX;exact⟨by rw[eX],rfl⟩
   .ac_nf;rw[vd cb,vc ⋯]at eX;exact⟨by rw[<-eX,uy],rfl⟩
  .have am:¬bs.map V.ref=[]:=λz=>by
    have:=congrArg List.length z;rw[vt,ad]at this;exact cb (length_eq_zero_iff.mp this)
   refine c8 #v[am] ?_;refine iZ ?_;ac_nf;rw[vc cb]at eX;exact⟨by rw[<-eX,uy],rfl⟩
 rintro S' H6 ⟨rfl,rfl⟩;exists⟨a,_,dx,_,_,rfl,a0,T.jY,T.JD,wj,?_⟩;exists cp B ?_;exists cm (bZ.of (U _ _ Z.p)) (jJ (j:=y.1) (by rw[vv,a8];rfl)) ?_;exists⟨a,_,dx,_,_,rfl,a0,T.jY,T.Ju,Bl,?_⟩;exists cp B ?_;exists⟨al,z.s,y.2,bs,cy ps gs y.1,gs,rfl,U _ _ ae,cg.mono hq λc x h=>U _ _ h,U _ _ Z.s,ap,λu hu=>N.fk hu,y2,⋯,λp6 a2 H6 s6 af e6 g6=>?_⟩;have ai:dM H6 f S0:=cg.mono ab λc y h=>s6 _ _ h
 have a6:=s6 _ _ a3;have a1:=g6.1;have n6:p6≠p4:=λz=>by rw[z,a3]at af;cases af
 have av:=XT (gs:=gs) (t:=y.2) (cy ps gs y.1);have a5:=U.trans s6;refine⟨p6,rfl,⟨_,bZ.of e6⟩,?_⟩;refine Ji (xs:=a2.map V.ref) (λk σ l=>oj λ(D I J L:N3) (d:L7)=>eD (σ=[↥a,~~~t0,some (.int (Y+X+oz C ((dA gs y.2 (cy ps gs y.1)).take k))),↥p4,↥ax,D,I,J,L]) (∀c u,c≠p4->H6 c=some u->l c=some u) (l p4=some (.lst (d.map V.ref))) (⇑d<=⇑f+k/\dM l d (S0++eU ((dA gs y.2 (cy ps gs y.1)).take k))))
  ⟨_,_,_,_,f,by rw[show oz C ((dA gs y.2 (cy ps gs y.1)).take 0)=0 from rfl,uy],λc u _ h=>h,a6,vb _,by rw[show eU ((dA gs y.2 (cy ps gs y.1)).take 0)=[]from rfl,append_nil];exact ai⟩ ?_ ?_ ?_
 .rintro k σ l _ ⟨D,I,J,L,d,rfl,n,_⟩;exact bZ.of (n _ _ n6 e6)
 .rintro k v σ H7 hv ⟨D,I,J,L,d,rfl,n,M,ar,R⟩;let⟨c,u,rfl,hu,hc⟩:=g6.cF hv;have ku:=(vx.mp hu).1;have um:=vm hu;have ul:=uq W um;have uo:=LI N um;have wu:=wb u.1 ⋯;have ao:c≠p4:=λz=>by rw[z,a6]at hc;cases hc
  refine Aq (cU.of (n _ _ ao hc)) ?_;exists⟨a,_,dx,_,_,rfl,n _ _ (m4 ob) (a5 _ _ ob),T.jY,T.Jo,YT,?_⟩;exists cm (bZ.of (n _ _ (m4 Z.w) (a5 _ _ Z.w))) (iw ⋯) ?_;ac_nf;have eo:=GJ (W:=C) hu;cases er:u.2.2.2 with
  | none=>
   refine⟨rfl,_,rfl,?_⟩;refine c8 (by simp[dD]) ?_;exists⟨_,_,_,_,d,by rw[eo,Int.add_assoc],n,M,⋯,?_⟩;rw[E8 hu er];exact R
  | some r=>
   refine⟨rfl,_,rfl,?_⟩;refine eN (by simp[dD]) ?_;exists⟨.inl ⟨rfl,_,bZ.of M⟩,?_⟩;exists⟨ud,?_⟩;walk_at"f 8 e";have a7:=s8 _ _ M;exists⟨p4,_,_,rfl,rfl,a7,by rw[vt];lia,?_⟩;have nt:∀{c:Addr} {xs:N2},H8 c=some (.tup xs)->c≠p4:=λh z=>by rw[z,a7]at h;cases h
   exists⟨_,_,_,_,d++[p8],by rw[eo,Int.add_assoc],λc u hc h=>(jg hc).trans (s8 _ _ (n _ _ hc h)),by rw[jw,vj];rfl,by rw[vn,vR];lia,?_⟩;rw[E9 hu er,<-List.append_assoc];exact cg.snoc (cg.mono R λc y h=>(jg (nt (s8 _ _ h))).trans (s8 _ _ h)) ((jg (nt e8)).trans e8)
 .rintro σ H7 ⟨D,I,J,L,d,rfl,n,M,ar,R⟩;rw[show(a2.map V.ref).length=⇑(dA gs y.2 (cy ps gs y.1)) by rw[vt];exact a1,v3]at R;rw[show(a2.map V.ref).length=⇑(dA gs y.2 (cy ps gs y.1)) by rw[vt];exact a1,v3];exists⟨_,_,_,_,_,d,_,_,rfl,λc u h=>n _ _ (m4 h) (a5 _ _ h),M,R,A',?_⟩;rw[vj,sum_append];lia
def DS(T:Txt K mg t)(C:6<*t.qZ t.Qb ["self","beat"] (dq t.jG t.jT))(D:2<*t.Qa t.Qc ["self","beat"] (dt t.jW)):7<*t.Zo t.Zp ["tally","beat"] (oH (dq t.jG t.jT) (dt t.jW)):=by
 refine T.yd.F.ok D5 (λR H Q E h=>?_) (λL A r s H R Q E y h=>?_)
 .let⟨d,e,rfl,b⟩:=h;rfl
 let⟨d,e,rfl,b⟩:=h;refine⟨_,(jb (Ja (ZW (BJ Xd Xd jd (pv 1) (jo jL (jM (pv 0) rfl) jd)))
   (jf Yp)
   jB)
  (jf (jx (Lg (Zf (pv 0) T.jF T.kA (C.mono nofun) y T.kR .nil dG (ja (pv 1) jc)) (Zf (pv 0) T.jY T.kB (D.mono nofun) y T.kS .nil dG (ja (pv 1) jc)))))),?_⟩
 rotate_right 200
 rcases b with⟨a,z,o,p,u,m,n,E,k,x,f,B,M,l,A,O,J,g,i,q⟩ | ⟨a,z,p,u,m,I,n,x,M,l,v,N,O,g,i,q⟩
 .cases l;let⟨j,b⟩:=A.ob;exists eN (vG g) ?_;exists⟨d,_,j,_,_,rfl,b,T.jF,T.Qp,HB,?_⟩;exists g7 (λc=>uf i c) (λZ=>?_);exists LJ ?_;exists⟨d,j,_,rfl,b,Gz,?_⟩;ac_nf;exact⟨d,z,o,p,u,m,n,E,k,x,f,B,e,rfl,A,O,J,g,i,q⟩
 .cases l;let⟨j,b⟩:=v.o;exists eN (vG g) ?_;exists⟨d,_,j,_,_,rfl,b,T.jY,T.Qq,HE,?_⟩;exists g7 (λc=>uf i c) (λZ=>?_);exists LK ?_;exists⟨d,j,_,rfl,b,GD,?_⟩;ac_nf;exact⟨d,z,p,u,m,I,n,x,e,rfl,v,N,O,g,i,q⟩
def xj(T:Txt K mg t)(L:8<*t.Jq t.JL ["self","book","limb","asked"] (gk t.jG t.jT))(Z:7<*t.Zo t.Zp ["tally","beat"] (oH (dq t.jG t.jT) (dt t.jW))):10<*t.zW t.Zc ["book","limb","beat"] (hL):=by
 specialize T.zP.F.ok xu;let⟨b,X,Y,e,g,p,r,l,n,x,f,k,C,rfl,D,N,S,M,R,q⟩:=h;refine⟨_,(jf (jx (jh T.yd Z hr (ja (YZ T.wP (L.mono nofun) hr (by rfl) T.Ky T.zt .nil dG (ja (pv 0) (ja (pv 1) (ja zL jc)))) (ja (pv 2) jc))))),?_⟩;refine jz (S':=[some _,some _,some _]) rfl ?_
 try dsimp only[eF,Cx.lu]
 have j:iP none:=λy U=>by cases U
 ac_nf;intro o a m d ne;have v:bX H (upd (upd H a (.own o)) o (.ins t.jG a [])):=λc u h=>(jg (je h m)).trans ((jg (je h d)).trans h)
 refine⟨o,a,b,X,Y,e,g,p,r,l,n,x,f,k,none,rfl,jw,D.same v,N,S,j,λz E B I W O A=>⟨rfl,?_⟩⟩;have i:bX H I:=λc u h=>W _ _ (je h m) (v _ _ h)
 ac_nf;exact⟨o,C,rfl,.inl ⟨o,z,none,p,r,l,n,E,k,x,f,B,C,rfl,A,O,j,M,R,λJ s6=>q E J (i.trans s6) O.lE O.oE⟩⟩
def wZ(T:Txt K mg t)(L:8<*t.Jq t.JL ["self","book","limb","asked"] (gk t.jG t.jT))(qD:7<*t.Zo t.Zp ["tally","beat"] (oH (dq t.jG t.jT) (dt t.jW))):10<*t.QV t.QX ["book","limb","height","beat"] (fE):=by
 specialize T.QO.F.ok Wa;let⟨b,Z,pp,e,g,p,r,l,n,x,f,k,c,C,rfl,D,N,W,S,U,M,R,q⟩:=h;refine⟨_,(jf (jx (jh T.yd qD hr (ja (YZ T.wP (L.mono nofun) hr (by rfl) T.Ky T.zt .nil dG (ja (pv 0) (ja (pv 1) (ja (pv 2) jc)))) (ja (pv 3) jc))))),?_⟩;refine jz (S':=[some _,some _,some _,some _]) rfl ?_
 try dsimp only[eF,Cx.lu]
 have j:iP (some c):=λy X=>by cases X;exact⟨S,U⟩
 ac_nf;intro o a m d ne;have v:bX H (upd (upd H a (.own o)) o (.ins t.jG a [])):=λc u h=>(jg (je h m)).trans ((jg (je h d)).trans h)
 refine⟨o,a,b,Z,pp,e,g,p,r,l,n,x,f,k,some c,rfl,jw,D.same v,N,W,j,λz E B I Y O A=>⟨rfl,?_⟩⟩;have i:bX H I:=λc u h=>Y _ _ (je h m) (v _ _ h)
 ac_nf;exact⟨o,C,rfl,.inl ⟨o,z,some c,p,r,l,n,E,k,x,f,B,C,rfl,A,O,j,M,R,λJ s6=>q E J (i.trans s6) O.lE O.oE⟩⟩
def yW(T:Txt K mg t)(Ql:5<*t.Z3 t.Z4 ["book"] (dR))(qe:3<*t.zz t.zD ["book","sizes"] (dj)):6<*t.JK t.qh ["self","book","word"] (iz t.jW):=by
 specialize T.y6.ok qa;let⟨a,g,b,pl,pp,ae,a2,ls,ps,gs,hs,x,rfl,ha,B,N,wx,wf,q⟩:=h;refine⟨_,(jb (qN (pv 0) (jh T.YI Ql hr (ja (pv 1) jc)) rfl)
  (jb (qN (pv 0) (jk ju (jM (pv 0) rfl) (Yo ZA jd)) rfl)
  (jb (qN (pv 0) (jh T.ZC qe hr (ja (pv 1) (ja (jM (pv 0) rfl) jc))) rfl)
  (jb (qN (pv 0) (jP jc) rfl)
  (jf (Jd PassesOwn.never rfl (An (by rfl) T.AK (ja (jk jv (pv 1) jd) (ja (jM (pv 0) rfl) jc))) (J1 rfl (jA (cN 3 qa.nd) (jA (cN 4 qa.nd) Jw)))
   (jb (cz 5 qa.nd (Zx (jr (ua hr.units) (zF LQ (jk jv (pv 3) jd) ZO (Zg jd)) (jR (ja jI (ja (pv 2) jc))) (bY _)) jd jd))
   (jf (j5 (JP q4 q5 q7 jO (jM (pv 0) rfl) (ja (jo jL (pv 5) (jD (YQ rfl) (by rfl) T.uC Xy (ja (JR (ow:=["other","turns","begin"]) (ci:=[0]) rfl (cj.of (bV qm) ["self","book","word","part","pieces","own"] rfl rfl ∅) (HH nofun nofun nofun) (jQ (pv 4)) (λ_ _ _ _ _=>⟨(J1 rfl (jA (cN 0 (Jy ["self","book","word","part","pieces","own"] rfl ∅)) (jA (cN 1 (Jy ["self","book","word","part","pieces","own"] rfl ∅)) (jA (cN 2 (Jy ["self","book","word","part","pieces","own"] rfl ∅)) Jw)))),Qu,(jo Js (pv 1) (jk (Yk (K:=K) rfl) (IA (K:=K) rfl (pv 3) rfl) (pv 0)))⟩)) jc))) jc))))))))))),?_⟩
 rotate_right 303
 have W:=N.s.w;have gl:=N.s.gl;have aF:=W.l0;have ne:=N.ne;have av:=B.pa.1;let⟨H0,D,n0,B0⟩:=B.less ha;have z0:bX H0 H:=D H λc u _ h=>h
 exists⟨b,pl,pp,ae,a2,ls,ps,gs,hs,rfl,B,N.s,λl5 H5 s5 ab e5=>?_⟩;exists⟨a,_,g,[],rfl,s5 _ _ ha,T.jY,T.Ju,(by show 0<1000;decide),?_⟩;have o:l5≠a:=λz=>by rw[z,ha]at ab;cases ab
 generalize e6:upd H5 a _=H6;have k6:∀c u,c≠a->H5 c=some u->H6 c=some u:=λc u n h=>e6▸(jg n).trans h
 have a6:=JT e6;clear e6;have z6:bX H0 H6:=D H6 λc u n h=>k6 _ _ n (s5 _ _ h)
 exists⟨a,_,g,_,_,rfl,a6,T.jY,T.Ju,JB,?_⟩;exists cm (bZ.of (k6 _ _ o e5)) (Xs ne gl) ?_;exists⟨a,_,g,_,rfl,a6,T.jY,T.Qq,rO (Jb _ _ _) nofun,?_⟩;generalize e7:upd H6 a _=H7;have k7:∀c u,c≠a->H6 c=some u->H7 c=some u:=λc u n h=>e7▸(jg n).trans h
 have S:=JT e7;clear e7;have z7:bX H0 H7:=λc u h=>k7 _ _ (n0 h) (z6 _ _ h)
 exists⟨a,_,g,_,_,rfl,S,T.jY,T.Ju,(jE ∅).trans JB,?_⟩;exists⟨b,pl,pp,l5,ae,a2,ls,ps,gs,rfl,B0.same z7,W,k7 _ _ o (k6 _ _ o e5),gl,λl8 m M J ac e8 Y af=>?_⟩;have n8:l8≠a:=λz=>by rw[z,S]at ac;cases ac
 exists⟨a,_,g,_,rfl,J _ _ S,T.jY,T.JD,vD (Jb _ _ _) (vD (Nat.succ_le_succ (Jb _ _ _)) nofun),?_⟩;generalize e9:upd M a _=H9;have k9:∀c u,c≠a->M c=some u->H9 c=some u:=λc u n h=>e9▸(jg n).trans h
 have a9:=JT e9;clear e9;exists⟨va _,?_⟩;walk_at"f pw hpw H10 s10 t10";have nw:pw≠a:=λz=>by rw[z,a9]at hpw;cases hpw
 exists⟨a,_,g,_,rfl,s10 _ _ a9,T.jY,T.Jo,ou,?_⟩;generalize U:upd H10 a _=H11;have ad:∀c u,c≠a->H10 c=some u->H11 c=some u:=λc u n h=>U▸(jg n).trans h
 have R:H11 a=some (.ins t.jW g (lQ ⟨l5,l8,pw,m⟩ (gs∘(⇑ps-1)))):=JT U;clear U;have C:∀c u,c≠a->M c=some u->H11 c=some u:=λc u n h=>ad _ _ n (s10 _ _ (k9 _ _ n h))
 have ai:bX H0 H11:=λc u h=>C _ _ (n0 h) (J _ _ (z7 _ _ h))
 have I:∀{c u},c≠a->M c=some u->c≠pw:=λn h=>je (k9 _ _ n h) hpw
 have ag:∀{c u},H0 c=some u->c≠pw:=λh=>I (n0 h) (J _ _ (z7 _ _ h))
 have az:=ad _ _ nw t10;have L:=B0.same ai;exists cp L.t ?_;exists⟨a,_,g,_,_,rfl,R,T.jY,T.JD,wj,?_⟩;ac_nf;have aw:=Y.1;rw[vt]at aw;refine⟨pp,l8,_,_,rfl,bZ.of L.p,bZ.of (C _ _ n8 e8),?_⟩;refine CI (xs:=a2.map V.ref) (ys:=m.map V.ref) (λi σ H'=>gz λ(o3 o4 o5:N3) (l:L5)=>m9 (σ=[↥a,↥b,some (.str x),o3,o4,o5]) (∀c u,c≠pw->H11 c=some u->H' c=some u) (H' pw=some (.lst (l.map V.int))/\fT ps gs x l i)) (by rw[vt,vt];lia) ⟨_,_,_,[],rfl,λc u _ h=>h,az,rfl,λj p h=>uf h (Nat.not_lt_zero _)⟩ ?_ ?_ ?_
 .rintro i σ H' _ ⟨o3,o4,o5,l,rfl,f,e,O⟩;exact⟨bZ.of (f _ _ (ag B0.p) L.p),bZ.of (f _ _ (I n8 e8) (C _ _ n8 e8))⟩
 .rintro i u v σ H' T0 a4 hu hv ⟨o3,o4,o5,l,rfl,f,ew,O⟩ sP tP;let⟨pa,p,rfl,hp,fb,am,hf⟩:=B0.pa.cF hu;let⟨c0,qs,rfl,a0,bs,ao,aa⟩:=Y.cF hv;rw[vv,hp]at a0;have ap:=(vx.mp hp).1;have X:qs=cy ps gs i:=by
   unfold cy;rw[hp];exact(vL a0).symm
  clear a0;have aj:c0∈m:=by
   rw[vv]at hv;let⟨a',ea,e'⟩:=vg.mp hv;injection e' with e';subst e';exact vm ea
  have as:c0≠a:=λz=>by have:=af c0 aj;rw[z,S]at this;cases this
  have a1:∀c u,H0 c=some u->a4 c=some u:=λc u h=>sP _ _ (f _ _ (ag h) (ai _ _ h))
  have ah:∀c u,c≠a->M c=some u->a4 c=some u:=λc u n h=>sP _ _ (f _ _ (I n h) (C _ _ n h))
  have r:∀{c:Addr} {xs:N2},M c=some (.tup xs)->c≠a:=λh=>JG h (J _ _ S) (λz=>by cases z)
  let⟨xs,al,ar,aA⟩:=GU (x:=x) hf (wf p (vm hp));refine Qh (cU.of tP) ?_;exists cp (a1 _ _ am) ?_;exists HJ (a1 _ _ al) ar λcc aC ax ak=>?_
  exists⟨ud,?_⟩;sleep 14;have s1:=ax.trans s14;let⟨d,dv,sh,ev⟩:=aA H14 cc (λc u h=>s1 _ _ (a1 _ _ h)) (s14 _ _ ak);have ay:SeqAt.shaped (.tuple [.str "ring",.str x])=true:=(gc.tup (n:=0) (KM (xs:=["ring",x]) λy hy=>by
   rcases mem_cons.mp hy with rfl | hy
   .decide +kernel
   .rw[vo.mp hy];exact wx)).ok nofun
  refine⟨d,_,dv,.tup t14 (.cons (.str _) (.cons (.str _) .nil)),sh,ay,?_⟩;refine⟨_,rfl,?_⟩;rw[ev];have au:fj x p.2=0\/fj x p.2=1:=by
   unfold fj;split
   .split
    .exact .inr rfl
    .exact .inl rfl
   .exact .inl rfl
  have a5:H14 a=_:=s1 _ _ (sP _ _ (f _ _ (Ne.symm nw) R));have a3:H14 pw=_:=s1 _ _ (sP _ _ ew);have a8:H14 c0=_:=s1 _ _ (ah _ _ as ao);have an:=aa.1;have q8:⇑qs<=8:=X▸v9 N i;have aD:=O.1;refine cC (λc=>?A) (λc=>?B)
  case' A=>have eo:fj x p.2=1:=c
  case' B=>have eo:fj x p.2=0:=au.resolve_right c
  all_goals
   exists⟨a,_,g,_,_,rfl,a5,T.jY,T.Jo,YT,.inl ⟨rfl,_,bZ.of a3⟩,?_⟩;exists⟨c0,rfl,⟨_,bZ.of a8⟩,?_⟩;refine JA (xs:=bs.map V.ref) (λj ys k=>ys=((qs.take j).map λq=>q.2.1*l∘q.1).map V.int/\H14=k) ⟨rfl,rfl⟩ ?_ ?_ ?_
   .rintro j ys k _ ⟨rfl,rfl⟩;exact bZ.of a8
   .rintro j v ys k aq ⟨rfl,rfl⟩;let⟨cq,y,rfl,hy,Z⟩:=aa.cF aq;have aE:=(vx.mp hy).1;have ym:y∈cy ps gs i:=X▸vm hy;have aB:=zK W ym;let⟨_,_,_,k4,k5,_,_⟩:=N.fk ym;have bw:=O.uU N (vX ap) aB;have ey:l[y.1]?=some (l∘y.1):=by rw[vy,vz ⋯];rfl
    refine qb (S':=[none,none,none,↥a]) rfl ?_;refine Ap (cU.of (s1 _ _ (ah _ _ (r Z) Z))) ?_;exists dP ?_;exists⟨a,_,g,_,_,rfl,a5,T.jY,T.Jo,YT,?_⟩;exists cm (bZ.of a3) (jJ (j:=y.1) (by rw[vv,ey];rfl)) ?_;exists⟨by rw[vt,vt,vi];lia,?_,rfl⟩;rw[take_snoc hy,vj,vj];rfl
   rintro ys k ⟨rfl,rfl⟩;rw[show(bs.map V.ref).length=⇑qs from(vt _).trans an,v3];refine⟨by rw[vt,vt];lia,?_⟩;sleep 15;exists⟨p15,_,rfl,bZ.of t15,?_⟩;exists⟨pw,_,_,rfl,rfl,s15 _ _ a3,by rw[vt];lia,?_⟩;ac_nf;have O2:=O.snoc W hp;rw[eo]at O2;refine⟨_,_,_,_,rfl,λc u Z h=>(jg Z).trans (s15 _ _ (s1 _ _ (sP _ _ (f _ _ Z h)))),?_,O2⟩;rw[jw,vj,<-X];rfl
 .rintro σ H' ⟨o3,o4,o5,l,rfl,f,ew,O⟩;rw[vt,av]at O;exists q ⟨l5,l8,pw,m⟩ l H' (λc u n h=>?_) O ⟨⟨g,f _ _ (Ne.symm nw) R⟩,f _ _ (I o (J _ _ (k7 _ _ o (k6 _ _ o e5)))) (C _ _ o (J _ _ (k7 _ _ o (k6 _ _ o e5)))),f _ _ (I n8 e8) (C _ _ n8 e8),?_,ew⟩
  .have h8:=J _ _ (k7 _ _ n (k6 _ _ n (s5 _ _ h)));exact f _ _ (I n h8) (C _ _ n h8)
  .refine cg.iS Y λc Z e ⟨bs,h1,h2⟩=>?_
   have r:∀{c:Addr} {xs:N2},M c=some (.tup xs)->c≠a:=λh=>JG h (J _ _ S) (λz=>by cases z)
   have nc:c≠a:=λz=>by have:=af c Z;rw[z,S]at this;cases this
   exact⟨bs,f _ _ (I nc h1) (C _ _ nc h1),cg.mono h2 λb' q' h=>f _ _ (I (r h) h) (C _ _ (r h) h)⟩
def xq(T:Txt K mg t)(B:6<*t.JK t.qh ["self","book","word"] (iz t.jW))(R:7<*t.Zo t.Zp ["tally","beat"] (oH (dq t.jG t.jT) (dt t.jW))):8<*t.zX t.Zd ["book","word","beat"] (gq):=by
 specialize T.zQ.F.ok xv;let⟨b,L,M,e,f,m,n,j,l,x,r,rfl,v,N,I,D,i,C,q⟩:=h;refine⟨_,(jf (jx (jh T.yd R hr (ja (YZ T.D2 (B.mono nofun) hr (by rfl) T.XY T.yX .nil dG (ja (pv 0) (ja (pv 1) jc))) (ja (pv 2) jc))))),?_⟩;refine jz (S':=[some _,some _,some _]) rfl ?_
 try dsimp only[eF,Cx.lu]
 ac_nf;intro o a k d X;have p:bX H (upd (upd H a (.own o)) o (.ins t.jW a [])):=λc u h=>(jg (je h k)).trans ((jg (je h d)).trans h)
 refine⟨o,a,b,L,M,e,f,m,n,j,l,x,rfl,jw,v.same p,N,I,D,λz W y J O A=>⟨rfl,?_⟩⟩;have g:bX H y:=λc u h=>J _ _ (je h k) (p _ _ h)
 exists⟨o,r,rfl,.inr ⟨o,z,m,n,j,W,l,x,r,rfl,A,N,O,i,C,λU S=>?_⟩⟩;rw[FY N O i];exact q _ (g.trans S)
def wY(T:Txt K mg t):1<*t.qw t.qy ["_law_script","_law_k"] (Pr.dQ K):=by
 specialize T.JI.F.ok w6;let⟨a,g,k,rfl,b,f,d,q⟩:=h;refine⟨_,(jb (Ja (jr ka (pv 1) (jD jX (by rfl) T.qg Jt (ja (pv 0) jc)) (bY _))
   (jf (jx (jk ju (pv 0) (pv 1))))
   jB)
  (jf (jx jd))),?_⟩
 rotate_right 200
 exists⟨_,_,rfl,.inl ⟨_,b,rfl⟩,?_⟩;exists cC (λc=>?_) (λc=>?_)
 .ac_nf;exact⟨a,_,k,_,rfl,rfl,b,Pr.G5 d (by rw[vt]at c;exact c),q⟩
 .ac_nf;have e:Pr.cell g k=0:=by
   rw[vt]at c;unfold Pr.cell;rw[vy,List.getElem?_eq_none ⋯];rfl
  rw[e]at q;exact q
def W9(T:Txt K mg t):1<*t.qI t.qL ["_law_cell","_law_k"] (KP):=by
 refine T.JH.F.ok xr (λf H Q E h=>?_) (λe A d s H f Q E g h=>?_)
 .let⟨c,k,rfl,a,b,q⟩:=h;rfl
 let⟨c,k,rfl,a,b,q⟩:=h;refine⟨_,(jf (jx (jo Je (jo Js (jo jL (jo jL (jo Je (pv 0) (jo zh jd jd)) (jo Js (pv 1) (pv 1))) jd) jd) (jo jL (jo zh jd jd) jd)))),?_⟩;refine jz (S':=[some _,some _]) rfl ?_
 try dsimp only[eF,Cx.lu]
 have j:=ve c (show(10^30:Int)≠0 by decide);have l:=vf c (show(0:Int)<10^30 by decide);have i:0<=k*k/\k*k<=10^40:=⟨vM a a,by have:=Int.mul_le_mul b b a nofun;lia⟩
 ac_nf;exact q
def W6(T:Txt K mg t)(e:1<*t.qw t.qy ["_law_script","_law_k"] (Pr.dQ K))(f:1<*t.qI t.qL ["_law_cell","_law_k"] (KP)):2<*t.yp t.yA ["_law_script","_law_j","_law_k"] (gJ K):=by
 specialize T.ya.F.ok kf;let⟨a,c,j,k,rfl,d,b,m,n,o,p,q⟩:=h;refine⟨_,(jb (cz 3 kf.nd (jh T.JH f hr (ja (jh T.JI e hr (ja (pv 0) (ja (pv 1) jc))) (ja (pv 2) jc))))
  (jf (jx (jo Js (pv 3) (jh T.JH f hr (ja (jh T.JI e hr (ja (pv 0) (ja (jo jL (pv 1) jd) jc))) (ja (jo jL (pv 2) jd) jc))))))),?_⟩
 rotate_right 301
 have g:=zE (Pr.cell c j) k;have l:=zE (Pr.cell c (j+1)) (k+20);exists⟨a,c,_,rfl,d,b,⋯,?_⟩;exists⟨_,_,rfl,⋯,⋯,?_⟩;exists⟨a,c,_,rfl,d,b,⋯,?_⟩;exists⟨_,_,rfl,⋯,⋯,?_⟩;ac_nf;exact q
def X5(T:Txt K mg t):1<*t.zy t.zC ["_law_place","_law_k"] (gr):=by
 specialize T.zu.F.ok DY;let⟨p,k,rfl,f,e,q⟩:=h;refine⟨_,(jf (jx (jo kH (jo kH (jo kH (zF Dq jI ZO (Zg (pv 0))) (jk Dd jI (jo Je (pv 1) jd))) (jk Dd jI (jo Jf (pv 1) jd))) (zF Dq jI (Zg (pv 0)) ZO)))),?_⟩;refine jz (S':=[some _,some _]) rfl ?_
 try dsimp only[eF,Cx.lu]
 have j:(200:Nat)<sizeLine:=by decide
 have b:(Str.ofString "abcdefghijklnopqrstuvwxyz").cps.toList[((k%25:Nat):Int).toNat]?=some (A7.cps.toList.getD (k%25) 97):=by
  have l:(Str.ofString "abcdefghijklnopqrstuvwxyz").cps.toList.length=25:=by trivial
  show _=some ((Str.ofString "abcdefghijklnopqrstuvwxyz").cps.toList.getD (k%25) 97);rw[Int.toNat_natCast,vy,vz ⋯];rfl
 have g:(Txt.slice (Str.ofString "mm") none (some ((p:Nat):Int))).length<=4:=vV Bg ∅;have i:(Txt.slice (Str.ofString "mm") (some ((p:Nat):Int)) none).length<=4:=vV Bg ∅;have a:∀c,⇑(⟨#[c]⟩:Str)=1:=λc=>rfl
 exists⟨∅,?_⟩;ac_nf;rw[show((k:Nat):Int)%25=((k%25:Nat):Int) by lia];refine⟨_,_,_,rfl,rfl,∅,Gs ⋯ b,?_⟩;refine⟨_,_,rfl,rfl,by rw[a];lia,?_⟩;ac_nf;have d:eW (Str.ofString "nopq").cps.toList (((k:Nat):Int)/25)=some (if k<25 then 110 else 111):=by
  by_cases c:k<25
  .rw[vd c,show((k:Nat):Int)/25=0 by lia];decide +kernel
  .rw[vc c,show((k:Nat):Int)/25=1 by lia];decide +kernel
 refine⟨_,_,(if k<25 then 110 else 111),rfl,rfl,∅,?_,?_⟩
 .exact d
 refine⟨_,_,rfl,rfl,by rw[Str.length_append,a,a];lia,?_⟩;exists⟨∅,?_⟩;refine⟨_,_,rfl,rfl,by rw[Str.length_append,Str.length_append,a,a];lia,?_⟩;exact q
def xc(T:Txt K mg t):1<*t.zT t.zZ ["_law_number","_law_names","_law_movers","_law_kind"] (gO):=by
 specialize T.zO.F.ok qv;let⟨n,nl,ml,a1,L,m,Ms,o,rfl,N,n1,n0,n2,hk,q⟩:=h;refine⟨_,(jb (cz 4 qv.nd (jP jc))
  (jb (jq (i:=5) qv.nd rfl (.inr rfl) (jP jc))
  (jb (Jd PassesOwn.never rfl (QN (by rfl) T.zY (ja (jD jX (by rfl) T.qg Jt (ja (pv 1) jc)) jc)) (cN 6 qv.nd)
   (jb (cz 7 qv.nd (jo Je (jo Jm (jo Jm (jD jX (by rfl) T.qg Jt (ja (pv 1) jc)) jd) (jo Js (pv 6) (jo jL jd (jo Je (pv 0) jd)))) (jD jX (by rfl) T.qg Jt (ja (pv 1) jc))))
   (jb (wk (i:=8) (ow:=["_law_one"]) (ci:=[5]) rfl (cj.of (bV Zi) ["_law_number","_law_names","_law_movers","_law_kind","_law_some","_law_used","_law_j","_law_at","_law_twice"] rfl rfl ∅) (qi nofun) qv.nd rfl (.inl rfl) (jQ (jk ju (pv 2) (pv 7))) (λ_ _ _ _ _=>⟨(cN 0 (Jy ["_law_number","_law_names","_law_movers","_law_kind","_law_some","_law_used","_law_j","_law_at","_law_twice"] rfl ∅)),(wD (jr (kJ (K:=K) rfl) (pv 0) (pv 1) (by with_unfolding_all rfl))),(pv 0)⟩))
   (jb (Qg (PW.pt (Q1 (jr Jr (pv 3) jI (bY _)) (QC (jr ka (pv 6) (jo jL jd (jo Je (jo Jf (pv 0) jd) jd)) (bY _)))))
    (jf (j5 (JP q4 q5 q7 jO (pv 4) (ja (jk ju (pv 1) (pv 7)) jc))))
    jB)
   (jf (Ja (PW.pt (Q1 (jr Jr (pv 3) jI (bY _)) (Q1 (jr (Al hr.units) (jk ju (pv 2) (pv 7)) (jP jc) (bY _)) (Q1 (jr (ua hr.units) (pv 8) (jP jc) (bY _)) (QC (jr ka (jD jX (by rfl) T.qg Jt (ja (pv 4) jc)) jd (bY _)))))))
    (jb (j5 (JP q4 q5 q7 jO (pv 4) (ja (jk ju (pv 1) (pv 7)) jc)))
    (jf (jq (i:=5) qv.nd rfl (.inr rfl) (jo kI (pv 5) (jk ju (pv 2) (pv 7))))))
    jB))))))
  (jf (jx (qz zm (by rfl) T.Wc Kk (ja (pv 4) jc))))))),?_⟩
 rotate_right 405
 have a4:=N.sU;have m8:∀j,⇑(Ms.getD j [])<=8:=λj=>by
  by_cases h:j<⇑m
  .exact(N.mv h).choose_spec.2.2.1
  .rw[vy,List.getElem?_eq_none (by have:=N.ml;lia)];exact va _
 exists⟨va _,?_⟩;walk_at"f ps hps H1 s1 t1";exists⟨va _,?_⟩;walk_at"f pu hpu H2 s2 t2";have W:=s1.trans s2;have B:∀{c u},H c=some u->c≠ps:=λh=>je h hps
 have a3:pu≠ps:=(je t1 hpu).symm;exists⟨_,_,rfl,.inl ⟨_,bZ.of (W _ _ N.en),rfl⟩,?_⟩;rw[vt];exists⟨_,rfl,⋯,⋯,?_⟩;refine zg (λt σ p=>gz λ(o6 o7 o8:N3) (e:Addr)=>eD (σ=[~~~n,↥nl,↥ml,some (.str o),↥ps,↥e,o6,o7,o8]) (e≠ps) (∀c u,H c=some u->p c=some u) (p ps=some (.lst (((eB n ⇑m Ms (decide (o = "row")) t).1.map λj=>m.getD j ⟨#[]⟩).map V.str))/\p e=some (.lst ((eB n ⇑m Ms (decide (o = "row")) t).2.map V.str)))) ⟨_,_,_,pu,rfl,a3,W,s2 _ _ t1,t2⟩ ?_ ?_
 .rintro t σ H3 ht ⟨o6,o7,o8,e,rfl,g,C,M,Z⟩;have m0:=ve n (show(3:Int)≠0 by decide);have m1:=vf n (show(0:Int)<3 by decide);exists⟨_,_,rfl,.inl ⟨_,bZ.of (C _ _ N.en),rfl⟩,?_⟩;rw[vt];exists⟨_,_,rfl,.inl ⟨_,bZ.of (C _ _ N.en),rfl⟩,?_⟩;rw[vt];ac_nf;have O:((⇑m:Int)-1-(0+(t:Int))*(1+n%3))%(⇑m:Int)=((ji n ⇑m t:Nat):Int):=by
   unfold ji;have a:=ve ((⇑m:Int)-1-(t:Int)*(1+n%3)) (show(⇑m:Int)≠0 by lia);rw[uz];lia
  rw[O];have Y:=Av (n:=n) (t:=t) n1;have d:=Gi (n:=n) (len:=⇑m) (Ms:=Ms) (ro:=decide (o = "row")) t;have us:=Lw (n:=n) (len:=⇑m) (ro:=decide (o = "row")) m8 t;have sl:=XZ (n:=n) (len:=⇑m) (Ms:=Ms) (ro:=decide (o = "row")) t;generalize eB n ⇑m Ms (decide (o = "row")) t=S at M Z d us sl;generalize ji n ⇑m t=j at Y d|-;clear O;let⟨ma,a0,v,a2,mw⟩:=N.mv Y;have aM:eW (a1.map V.ref) ((j:Nat):Int)=↥ma:=jJ (by rw[vv,a0];rfl);refine cm (bZ.of (C _ _ N.em)) (aM) ?_;refine⟨ma,rfl,⟨_,bZ.of (C _ _ v)⟩,?_⟩;refine JA (xs:=(Ms.getD j []).map V.str) (λi ys p=>ys=(((Ms.getD j []).take i).filter λs=>decide (s∈S.2)).map V.str/\H3=p) ⟨rfl,rfl⟩ ?_ ?_ ?_
  .rintro i ys p _ ⟨rfl,rfl⟩;exact bZ.of (C _ _ v)
  .rintro i x ys p hx ⟨rfl,rfl⟩;rw[vv]at hx;let⟨k,R,rfl⟩:=vg.mp hx;have ik:=(vx.mp R).1;refine qb (S':=[none,some _]) rfl ?_;exists⟨e,_,rfl,.inl (bZ.of Z),rfl,j0 _,?_⟩;rw[vW];ac_nf;rw[take_snoc R,filter_append];have lf:⇑(((Ms.getD j []).take i).filter λs=>decide (s∈S.2))<=8:=vV (length_filter_le _ _) (by rw[vi];lia);refine cC (λc=>?_) (λc=>?_)
   .exists⟨by rw[vt];lia,?_,rfl⟩;rw[vj,v6,vd (vG c),filter_nil];rfl
   .refine⟨?_,rfl⟩;rw[v6,vc (by rw[vH c];exact vF),filter_nil,append_nil]
  rintro ys p ⟨rfl,rfl⟩;rw[show((Ms.getD j []).map V.str).length=⇑(Ms.getD j []) from vt _,v3];have lf:⇑((Ms.getD j []).filter λs=>decide (s∈S.2))<=8:=vV (length_filter_le _ _) a2;have wf:∀x∈(Ms.getD j []).filter (λs=>decide (s∈S.2)),Ws.ff x=true:=λx hx=>mw x (vO.mp hx).1
  refine⟨by rw[vt];lia,?_⟩;sleep 5;have k5:bX H H5:=λc u h=>s5 _ _ (C _ _ h)
  have y:=s5 _ _ M;have r:=s5 _ _ Z;have n5:p5≠ps:=(je M hp5).symm;exists⟨λS' p=>dX λ(X:L6)=>eD (S'=[~~~n,↥nl,↥ml,some (.str o),↥ps,↥e,some (.int (0+(t:Int))),some (.int (j:Nat)),↥p5]) (∀c u,c≠ps->H5 c=some u->p c=some u) (p ps=some (.lst ((X.map λj=>m.getD j ⟨#[]⟩).map V.str))) ((o = "row"->X=(eB n ⇑m Ms (decide (o = "row")) (t+1)).1/\(eB n ⇑m Ms (decide (o = "row")) (t+1)).2=S.2)/\(o≠"row"->X=S.1)),?_,?_⟩
  rotate_left
  .exists cC (λc=>?_) (λc=>?_)
   .rw[vd (vG c)]at d;exists cC (λc2=>?_) (λc2=>?_)
    .rw[vd ⋯]at d;exists⟨.inl ⟨rfl,_,bZ.of y⟩,?_⟩;exists cm (bZ.of (k5 _ _ N.en)) (ZG Y) ?_;exists⟨ps,_,_,rfl,rfl,y,by rw[vt,vt];lia,?_⟩;refine⟨S.1++[j],rfl,λc u hc h=>(jg hc).trans h,?_,λ_=>by rw[d];exact⟨rfl,rfl⟩,λh=>uf c h⟩;rw[jw,vj,vj];rfl
    .rw[vc ⋯]at d;ac_nf;exact⟨S.1,rfl,λc u _ h=>h,y,λ_=>by rw[d];exact⟨rfl,rfl⟩,λh=>uf c h⟩
   .ac_nf;exact⟨S.1,rfl,λc u _ h=>h,y,λh=>uf h c,λ_=>rfl⟩
  rintro S' H6 ⟨X,rfl,J,D,U,I⟩;have l:bX H H6:=λc u h=>J _ _ (B h) (k5 _ _ h)
  exists cC (λc=>?_) (λc=>?_)
  .have nr:o≠"row":=λz=>by rw[z]at c;exact uf c ∅
   obtain rfl:=I nr;rw[vc (by rw[vH nr];exact vF)]at d;exists cm (bZ.of (l _ _ N.em)) (aM) ?_;exists⟨va _,?_⟩;sleep 7;refine⟨_,_,.lst (s7 _ _ (l _ _ v)) (ZM _),rQ t7,mQ mw,mP,?_⟩;rw[mG];exists g7 (λd1=>?_) (λd1=>?_)
   .exists⟨va _,?_⟩;sleep 8;have f:=s7.trans s8;refine⟨_,_,.lst (f _ _ (J _ _ n5 t5)) (ZM _),rQ t8,mQ wf,mP,?_⟩;rw[mG];exists cC (λd2=>?_) (λd2=>?_)
    .exists⟨_,_,rfl,.inl ⟨_,bZ.of (f _ _ D),rfl⟩,?_⟩;rw[vt,vt];exists cC (λd3=>?_) (λd3=>?_)
     .rw[vd ⟨d1,d2,⋯⟩]at d;exists⟨.inl ⟨rfl,_,bZ.of (f _ _ D)⟩,?_⟩;exists cm (bZ.of (f _ _ (l _ _ N.en))) (ZG Y) ?_;exists⟨ps,_,_,rfl,rfl,f _ _ D,by rw[vt,vt];lia,?_⟩;generalize eG:upd H8 ps _=H9;have e9:H9 ps=some (.lst (((S.1++[j]).map λj=>m.getD j ⟨#[]⟩).map V.str)):=by
       rw[vj,vj];exact JT eG
      have k9:∀c u,c≠ps->H6 c=some u->H9 c=some u:=λc u hc h=>eG▸(jg hc).trans (f c u h)
      clear eG;exists cm (bZ.of (k9 _ _ (B N.em) (l _ _ N.em))) (aM) ?_;refine⟨e,ma,_,_,rfl,rfl,k9 _ _ g (J _ _ g r),k9 _ _ (B v) (l _ _ v),by rw[vt,vt];lia,?_⟩;sleep 10;exists⟨_,_,_,p10,rfl,(je e9 hp10).symm,λc u h=>s10 _ _ (k9 _ _ (B h) (l _ _ h)),by rw[d];exact s10 _ _ e9,by rw[d,vj];exact t10⟩
     .rw[vc (λz=>d3 ⋯)]at d;ac_nf;exact⟨_,_,_,e,rfl,g,λc u h=>f _ _ (l _ _ h),by rw[d];exact f _ _ D,by rw[d];exact f _ _ (J _ _ g r)⟩
    .rw[vc (λz=>d2 z.2.1)]at d;ac_nf;exact⟨_,_,_,e,rfl,g,λc u h=>f _ _ (l _ _ h),by rw[d];exact f _ _ D,by rw[d];exact f _ _ (J _ _ g r)⟩
   .rw[vc (λz=>z.1 d1)]at d;ac_nf;exact⟨_,_,_,e,rfl,g,λc u h=>s7 _ _ (l _ _ h),by rw[d];exact s7 _ _ D,by rw[d];exact s7 _ _ (J _ _ g r)⟩
  .have cr:o = "row":=hk.resolve_right c;let⟨r1,r2⟩:=U cr;ac_nf;exact⟨_,_,_,e,rfl,g,l,by rw[<-r1];exact D,by rw[r2];exact J _ _ g r⟩
 .rintro σ p ⟨o6,o7,o8,e,rfl,g,C,M,Z⟩;exists⟨ps,_,rfl,.inl ⟨bZ.of M,?_⟩⟩;walk_at"f b hb H3 s3 t3";exact q b H3 (λc u h=>s3 _ _ (C _ _ h)) t3
def X1(T:Txt K mg t)(O:1<*t.zT t.zZ ["_law_number","_law_names","_law_movers","_law_kind"] (gO)):2<*t.Yf t.Yh ["_law_number","_law_names","_law_movers","_law_limbs","_law_bounds"] (ir):=by
 specialize T.wL.F.ok Qr;let⟨n,C,L,pl,bd,p,ad,B,d,Ms,b0,b1,b2,b3,b4,rfl,N,Lm,Bd,n0,n2,q⟩:=h;refine⟨_,(jb (cz 5 Qr.nd (jo Je (pv 0) jd))
  (jb (cz 6 Qr.nd (jo Jf (pv 0) jd))
  (jb (cz 7 Qr.nd (jo jL jd (jo Je (jo Jf (pv 0) (jo zh jd jd)) (jk ju (pv 4) (jo Je (jo Jf (pv 0) jd) jd)))))
  (jb (Qg (PW.pt (Q1 (jr (ua hr.units) (pv 1) (jP jc) (bY _)) (QC (jr Zw (pv 5) jd (bY _)))))
   (jf (cz 5 Qr.nd (jo Je (jo Jf (pv 0) jd) jd)))
   jB)
  (jb (Ja (jr ka (pv 5) jd (bY _))
   (jf (jx (jR (ja jI (ja (jk jv (jk ju (pv 3) (jo Je (pv 6) (jD jX (by rfl) T.qg Jt (ja (pv 3) jc)))) jd) (ja (jo Je (jo Jf (pv 6) jd) (jk ju (pv 4) jd)) (ja (pv 7) jc)))))))
   jB)
  (jb (Ja (jr Jr (pv 5) jd (bY _))
   (jf (jx (jR (ja jI (ja (jk ju (jo kI (jo kI (jP (ja jI (ja jI jc))) (zF Ag (pv 1) ZO (Zg jd))) (jP (ja jI jc))) (jo Je (pv 6) jd)) (ja (pv 7) jc))))))
   jB)
  (jb (Ja (jr Jr (pv 5) jd (bY _))
   (jf (jx (jR (ja jI (ja (jh T.zO O hr (ja (pv 6) (ja (pv 1) (ja (pv 2) (ja jI jc))))) jc)))))
   jB)
  (jb (Ja (PW.pt (Q1 (jr Jr (pv 5) jd (bY _)) (QC (jr Zw (jD jX (by rfl) T.qg Jt (ja (jh T.zO O hr (ja (pv 6) (ja (pv 1) (ja (pv 2) (ja jI jc))))) jc)) jd (bY _)))))
   (jf (jx (jR (ja jI (ja (jh T.zO O hr (ja (pv 6) (ja (pv 1) (ja (pv 2) (ja jI jc))))) jc)))))
   jB)
  (jb (Ja (jr Jr (pv 5) jd (bY _))
   (jb (cz 8 Qr.nd (jo Jm (jo Jm (jD jX (by rfl) T.qg Jt (ja (pv 1) jc)) jd) (jo Je (pv 6) (jD (YO rfl) (by rfl) T.uB Xx (ja jd (ja (jD jX (by rfl) T.qg Jt (ja (pv 1) jc)) jc))))))
   (jf (jx (jR (ja jI (ja (jo jL jd (jo Je (jo Jf (pv 0) (jo zh jd jd)) (jk ju (pv 4) jd))) (ja (jk ju (pv 1) (pv 8)) jc)))))))
   jB)
  (jf (jx (jR (ja jI (ja (pv 7) jc)))))))))))))),?_⟩
 rotate_right 504
 have ae:=N.sU;have l1:=Lm.l1;have a2:=Lm.la.1;let⟨eb,R,S,U,W,a3,a4,a5,a6,a7,a8⟩:=Bd;have k0:=ve n (show(8:Int)≠0 by decide);have k1:=vf n (show(0:Int)<8 by decide);have i0:=ve (n/8) (show(2:Int)≠0 by decide);have i1:=vf (n/8) (show(0:Int)<2 by decide);let⟨m,Y,a9,aa⟩:=pY (b2:=b2) (b3:=b3) (b4:=b4) ⟨R,S⟩ ⟨U,W⟩ i0 i1;have m0:0<=n/100:=⋯
 have m1:n/100<=10^40:=⋯
 have v0:=ve (n/10^12) (show m≠0 by lia);have v1:=vf (n/10^12) (show 0<m by lia);exists Dl ?_;exists cm (bZ.of eb) (Y) ?_;exists⟨λS' H'=>dX λ(y:Int)=>eD (S'=[~~~n,↥C,↥L,↥pl,↥bd,~~~y,some (.int (n/100)),some (.int (1+n/10^12%m)),none]) (bX H H') (0<=y) (y<8/\(4<y->1<=⇑d)),?_,?_⟩
 rotate_left
 .exists⟨va _,?_⟩;walk_at"f e3 he3 H3 s3 t3";refine⟨_,_,.lst (s3 _ _ N.en) (ZM _),rQ t3,mQ N.w,mP,?_⟩;rw[mG];exists cC (λc=>?_) (λc=>?_)
  .exists cC (λc2=>?_) (λc2=>?_)
   .ac_nf;have I:=ve (n/16) (show(5:Int)≠0 by decide);have w1:=vf (n/16) (show(0:Int)<5 by decide);exact⟨_,rfl,s3,I,⋯,λh=>uf h ⋯⟩
   .ac_nf;exact⟨_,rfl,s3,k0,k1,λh=>uf h c2⟩
  .ac_nf;exact⟨_,rfl,s3,k0,k1,λ_=>length_pos_iff.mpr c⟩
 rintro S' H1 ⟨y,rfl,f,ab,ac,kn⟩;have l:=N.same f;have g:=Lm.same f;have u:=f _ _ eb;exists cC (λc=>?_) (λc=>?_)
 .exists⟨_,_,rfl,.inl ⟨_,bZ.of g.el,rfl⟩,?_⟩;rw[vt,a2];ac_nf;have I:=ve (n/100) (show(⇑B:Int)≠0 by lia);have w1:=vf (n/100) (show(0:Int)<(⇑B:Int) by lia);generalize n/100%(⇑B:Int)=r at I w1|-;obtain⟨j,rfl⟩:∃j:Nat,r=(j:Int):=⟨r.toNat,⋯⟩
  have x:j<⇑B:=⋯
  let⟨lk,a0,Z⟩:=g.la.get (vz x);refine cm (bZ.of g.el) (jJ (j:=j) (by rw[vv,a0];rfl)) ?_;exists cp Z ?_;exists cm (bZ.of u) rfl ?_;ac_nf;have h0:=ve (n/100/10) (show b2≠0 by lia);have h1:=vf (n/100/10) (show 0<b2 by lia);refine⟨ub,?_⟩;walk_at"f b6 hb6 H6 s6 t6";refine q b6 (.rise B[j].1 (n/100/10%b2) (1+n/10^12%m)) H6 (f.trans s6) t6 ⟨⟨j,?_⟩,h0,⋯,⋯,⋯⟩;unfold bW;rw[vv,vz x];rfl
 exists cC (λc4=>?_) (λc4=>?_)
 .exists⟨ud,?_⟩;walk_at"f b3 hb3 H3 s3 t3";exists⟨C,_,rfl,bZ.of (s3 _ _ l.en),?_⟩;walk_at"f b4 hb4 H4 s4 t4";have cl:=ZI (d.map V.str) none (some 1);rw[vt]at cl;refine⟨b3,b4,_,_,rfl,rfl,s4 _ _ t3,t4,by show 2+_<=sizeLine;lia,?_⟩;walk_at"f b5 hb5 H5 s5 t5";exists⟨ue,?_⟩;walk_at"f b6 hb6 H6 s6 t6";refine⟨b5,b6,_,_,rfl,rfl,s6 _ _ t5,t6,by rw[vn];show 2+_+1<=sizeLine;lia,?_⟩;walk_at"f b7 hb7 H7 s7 t7";ac_nf;have I:=ve (n/100) (show(3:Int)≠0 by decide);have w1:=vf (n/100) (show(0:Int)<3 by decide);have a1:∀v∈[V.str "ding",V.str "dong"]++fc (d.map V.str) none (some 1)++[V.str "din"],∃w:Str,v = .str w/\Ws.ff w=true:=λv hv=>by
   rcases vh.mp hv with z | z
   .rcases vh.mp z with z | z
    .rcases mem_cons.mp z with rfl | z
     .exact⟨_,rfl,by trivial⟩
     .rw[vo.mp z];exact⟨_,rfl,by trivial⟩
    .let⟨M,o,rfl⟩:=vK.mp (CA z);exact⟨M,rfl,N.w M o⟩
   .rw[vo.mp z];exact⟨_,rfl,by trivial⟩
  let⟨M,o,ww⟩:=BA (k:=n/100%3) a1 I (by rw[vn,vn];show _<(((2+_+1:Nat)):Int);lia);refine cm (bZ.of t7) (o) ?_;exists⟨uc,?_⟩;walk_at"f b8 hb8 H8 s8 t8";exact q b8 (.ring M (1+n/10^12%m)) H8 (f.trans (s3.trans (s4.trans (s5.trans (s6.trans (s7.trans s8)))))) t8 ⟨⋯,⋯,ww⟩
 exists cC (λc5=>?_) (λc5=>?_)
 .have e:=kn ⋯;exists⟨_,C,L,p,_,d,Ms,"row",rfl,l,e,m0,m1,.inl rfl,λb2 H2 D X=>?_⟩;exists⟨ud,?_⟩;walk_at"f b6 hb6 H6 s6 t6";have ln:=XZ (n:=n/100) (len:=⇑d) (Ms:=Ms) (ro:=decide (("row" : Str) = "row")) ⇑d;refine q b6 (.row (eB (n/100) ⇑d Ms (decide (("row" : Str) = "row")) ⇑d).1) H6 (f.trans (D.trans s6)) ⟨b2,t6,s6 _ _ X⟩ ⟨Lv ∅ _ e,⋯,C3 e _⟩
 exists cC (λc6=>?_) (λc6=>?_)
 .have e:=kn ⋯;exists⟨_,C,L,p,_,d,Ms,"side",rfl,l,e,m0,m1,.inr rfl,λb2 H2 D X=>?_⟩;have ln:=XZ (n:=n/100) (len:=⇑d) (Ms:=Ms) (ro:=decide (("side" : Str) = "row")) ⇑d;refine⟨_,_,rfl,.inr ⟨_,cU.of X,rfl⟩,?_⟩;rw[vt,vt];exists cC (λc7=>?_) (λc7=>?_)
  .exists⟨_,C,L,p,_,d,Ms,"side",rfl,l.same D,e,m0,m1,.inr rfl,λb3 H3 s3 e3=>?_⟩;exists⟨ud,?_⟩;walk_at"f b6 hb6 H6 s6 t6";refine q b6 (.side (eB (n/100) ⇑d Ms (decide (("side" : Str) = "row")) ⇑d).1) H6 (f.trans (D.trans (s3.trans s6))) ⟨b3,t6,s6 _ _ e3⟩ ⟨⋯,⋯,C3 e _,(Lu ∅ _).1.n N.il⟩
  .exists cC (λJ=>?_) (λJ=>?_)
   .exact uf J ⋯
   exists⟨ud,?_⟩;walk_at"f b6 hb6 H6 s6 t6";exact q b6 (.hold (1+n/10^12%m)) H6 (f.trans (D.trans s6)) t6 ⟨⋯,⋯⟩
 refine iZ ?_;exists cC (λJ=>?_) (λJ=>?_)
 .have e:=kn ⋯;exists⟨_,_,rfl,.inl ⟨_,bZ.of l.en,rfl⟩,?_⟩;rw[vt];exists⟨_,_,rfl,.inl ⟨_,bZ.of l.en,rfl⟩,?_⟩;rw[vt];refine⟨_,_,rfl,?_⟩;dsimp only;ac_nf;obtain⟨j,ej,x⟩:∃j:Nat,(⇑d:Int)-1-n/100%(if(⇑d:Int)<3 then(⇑d:Int)else 3)=(j:Int)/\j<⇑d:=by
   have a:=ve (n/100) (show(if(⇑d:Int)<3 then(⇑d:Int)else 3)≠0 by split<;>lia);have b:=vf (n/100) (show 0<(if(⇑d:Int)<3 then(⇑d:Int)else 3) by split<;>lia);generalize n/100%(if(⇑d:Int)<3 then(⇑d:Int)else 3)=z at a b|-;refine⟨((⇑d:Int)-1-z).toNat,?_,?_⟩
   .split at b<;>lia
   .split at b<;>lia
  rw[ej];refine Dl ?_;exists cm (bZ.of u) rfl ?_;ac_nf;have h0:=ve (n/10^12) (show b3≠0 by lia);have h1:=vf (n/10^12) (show 0<b3 by lia);refine cm (bZ.of l.en) (ZG x) ?_;exists⟨uc,?_⟩;walk_at"f b6 hb6 H6 s6 t6";exact q b6 (.again (1+n/10^12%b3) j) H6 (f.trans s6) t6 ⟨⋯,⋯,x⟩
 exists⟨ud,?_⟩;walk_at"f b6 hb6 H6 s6 t6";exact q b6 (.hold (1+n/10^12%m)) H6 (f.trans s6) t6 ⟨⋯,⋯⟩
def X3(T:Txt K mg t):1<*t.QK t.QL ["_law_form_here","_law_known_here"] (fv):=by
 specialize T.QI.F.ok DX;let⟨C,d,f,o,I,L,M,rfl,y,O,X,Y,p,R,q⟩:=h;refine⟨_,(jb (Ja (jr Jr (jk jv (pv 0) jd) jI (bY _))
   (jf (jx (jD (YQ rfl) (by rfl) T.uC Xy (ja (JR (ow:=["_law_name"]) (ci:=[1]) rfl (cj.of (bV zG) ["_law_form_here","_law_known_here"] rfl rfl ∅) (qi nofun) (uk (jk jv (pv 0) jd)) (λ_ _ _ _ _=>⟨(cN 0 (Jy ["_law_form_here","_law_known_here"] rfl ∅)),Qu,(qj (qS hr) (pv 1) (pv 0))⟩)) jc))))
   jB)
  (jb (Ja (jr Jr (jk jv (pv 0) jd) jI (bY _))
   (jf (jx (jD (xF rfl) (by rfl) T.sM Wv (ja (JR (ow:=["_law_name"]) (ci:=[1]) rfl (cj.of (bV zG) ["_law_form_here","_law_known_here"] rfl rfl ∅) (qi nofun) (uk (jk jv (pv 0) jd)) (λ_ _ _ _ _=>⟨(cN 0 (Jy ["_law_form_here","_law_known_here"] rfl ∅)),Qu,(qj (qS hr) (pv 1) (pv 0))⟩)) jc))))
   jB)
  (jb (Ja (jr Jr (jk jv (pv 0) jd) jI (bY _))
   (jf (jx (jo Js (jk jv (pv 0) jd) (qj (qS hr) (pv 1) (jk jv (pv 0) jd)))))
   jB)
  (jf (jx (jk jv (pv 0) (jo Jm (jD jX (by rfl) T.qg Jt (ja (pv 0) jc)) jd))))))),?_⟩
 rotate_right 200
 have u:∀j,j<⇑o->dg H d (.str (o.getD j ⟨#[]⟩)) (some (.int (I∘j))):=λj l=>by
  have g:=dg.k (k:=Sum.inr (o.getD j ⟨#[]⟩)) O;rw[Kt X Y l]at g;exact g
 let⟨D,c⟩:=p.js;cases f with
 | hold n=>
  have a:H C=some (.tup _):=y;exists cp a ?_;exists cw ?_;exists cp a ?_;exists cw ?_;exists cp a ?_;exists cw ?_;exists⟨_,_,rfl,.inr ⟨_,cU.of a,rfl⟩,?_⟩;exists cp a ?_;exact q _ H (bX.refl _) rfl
 | ring x n=>
  have a:H C=some (.tup _):=y;exists cp a ?_;exists cw ?_;exists cp a ?_;exists cw ?_;exists cp a ?_;exists cw ?_;exists⟨_,_,rfl,.inr ⟨_,cU.of a,rfl⟩,?_⟩;exists cp a ?_;exact q _ H (bX.refl _) rfl
 | rise x h n=>
  have a:H C=some (.tup _):=y;exists cp a ?_;exists cw ?_;exists cp a ?_;exists cw ?_;exists cp a ?_;exists cw ?_;exists⟨_,_,rfl,.inr ⟨_,cU.of a,rfl⟩,?_⟩;exists cp a ?_;exact q _ H (bX.refl _) rfl
 | row is=>
  let⟨b,a,z⟩:=y;have D:⇑is<=8:=D;have c:∀j∈is,j<⇑o:=c;exists cp a ?_;exists df ?_;exists cp a ?_;refine⟨b,rfl,⟨_,cU.of z⟩,?_⟩;refine Kn (xs:=(is.map λj=>o.getD j ⟨#[]⟩).map V.str) (λt r m=>r=((is.take t).map λj=>I∘j).map V.int/\H=m) ⟨rfl,rfl⟩ ?_ ?_ ?_
  .rintro t r m _ ⟨rfl,rfl⟩;exact cU.of z
  .rintro t v r m B ⟨rfl,rfl⟩;rw[vv,vv]at B;let⟨x,J,rfl⟩:=vg.mp B;let⟨j,l,rfl⟩:=vg.mp J;have W:=(vx.mp l).1;refine qb (S':=[none,↥d]) rfl ?_;exists dP ?_;exists⟨d,_,rfl,u j (c j (vm l)),?_⟩;refine⟨by rw[vt,vt,vi];lia,?_,rfl⟩;rw[take_snoc l,vj,vj];rfl
  rintro r m ⟨rfl,rfl⟩;rw[show((is.map λj=>o.getD j ⟨#[]⟩).map V.str).length=⇑is by rw[vt,vt],v3];refine⟨by rw[vt,vt];lia,?_⟩;sleep 1;exists⟨p1,_,rfl,bZ.of t1,?_⟩;exact q _ H1 s1 rfl
 | side is=>
  let⟨b,a,z⟩:=y;have D:⇑is<=8:=D;have c:∀j∈is,j<⇑o:=c;have i2:=p.1;exists cp a ?_;exists cw ?_;exists cp a ?_;exists df ?_;exists cp a ?_;refine⟨b,rfl,⟨_,cU.of z⟩,?_⟩;refine Kn (xs:=(is.map λj=>o.getD j ⟨#[]⟩).map V.str) (λt r m=>r=((is.take t).map λj=>I∘j).map V.int/\H=m) ⟨rfl,rfl⟩ ?_ ?_ ?_
  .rintro t r m _ ⟨rfl,rfl⟩;exact cU.of z
  .rintro t v r m B ⟨rfl,rfl⟩;rw[vv,vv]at B;let⟨x,J,rfl⟩:=vg.mp B;let⟨j,l,rfl⟩:=vg.mp J;have W:=(vx.mp l).1;refine qb (S':=[none,↥d]) rfl ?_;exists dP ?_;exists⟨d,_,rfl,u j (c j (vm l)),?_⟩;refine⟨by rw[vt,vt,vi];lia,?_,rfl⟩;rw[take_snoc l,vj,vj];rfl
  rintro r m ⟨rfl,rfl⟩;rw[show((is.map λj=>o.getD j ⟨#[]⟩).map V.str).length=⇑is by rw[vt,vt],v3];refine⟨by rw[vt,vt];lia,?_⟩;sleep 1;exists⟨p1,_,rfl,bZ.of t1,by rw[vt];lia,λg S U=>?_⟩;let⟨j,l,e⟩:=vK.mp S;exact q g H1 s1 ⟨⟨j,l,e.symm⟩,λj l=>U _ (vK.mpr ⟨j,l,rfl⟩)⟩
 | again k j=>
  have a:H C=some (.tup _):=y;have N:=c j vq;have Z:=R j N;have k1:=p.1;have k2:=p.2.1;exists cp a ?_;exists cw ?_;exists cp a ?_;exists cw ?_;exists cp a ?_;exists df ?_;exists cp a ?_;exists cp a ?_;exists⟨d,_,rfl,u j N,?_⟩;ac_nf;exact q _ H (bX.refl _) rfl
def xa(T:Txt K mg t):1<*t.QU t.QW ["_law_form_here","_law_names","_law_movers"] (fF):=by
 specialize T.yc.F.ok qu;let⟨C,J,U,a7,f,N,Ms,L,M,rfl,Z,en,em,aM,nd,ln,ac,O,k4,q⟩:=h;refine⟨_,(jb (Ja (jr Jr (jk jv (pv 0) jd) jI (bY _))
   (jf (jx (jP (ja (jk jv (pv 0) jd) jc))))
   jB)
  (jb (cz 3 qu.nd (jP jc))
  (jb (Qg (PW.pt (WR (jr Jr (jk jv (pv 0) jd) jI (bY _)) (WS (jr Jr (jk jv (pv 0) jd) jI (bY _)))))
   (jf (cz 3 qu.nd (qz Kl (by rfl) T.Aw Xw (ja (jk jv (pv 0) jd) jc))))
   jB)
  (jb (Qg (jr Jr (jk jv (pv 0) jd) jI (bY _))
   (jf (cz 3 qu.nd (jP (ja (jk jv (pv 0) jd) jc))))
   jB)
  (jb (cz 4 qu.nd (jP jc))
  (jb (Jd PassesOwn.never rfl (jQ (pv 3)) (cN 5 qu.nd)
   (jf (Jd PassesOwn.never rfl (jQ (jk ju (pv 2) (JP q4 PySem.F.slot_list_index PySem.F.type_list_index ER (pv 1) (ja (pv 5) jc)))) (cN 6 qu.nd)
    (jf (Ja (jr DN (pv 6) (pv 4) (by with_unfolding_all rfl))
     (jf (j5 (JP q4 q5 q7 jO (pv 4) (ja (pv 6) jc))))
     jB)))))
  (jf (jx (pv 4))))))))),?_⟩
 rotate_right 304
 cases f
 case rise x h n=>
  have o:H C=some (.tup _):=Z;exists cp o ?_;exists df ?_;exists cp o ?_;exists⟨ue,?_⟩;sleep 1;refine q p1 [x] H1 s1 hp1 t1 ⟨pairwise_singleton _ _,λs=>?_⟩ (by show 1<=80;decide);rw[vo];constructor
  .rintro rfl;exact .inr ⟨h,n,rfl⟩
  .rintro(⟨j,hj,_⟩ | ⟨h',n',e⟩)
   .exact nomatch hj
   .injection e with e1;exact e1.symm
 case' hold n=>
  have o:H C=some (.tup _):=Z;exists cp o ?_;exists cw ?_;exists⟨va _,?_⟩;sleep 1;have l:=s1 _ _ o;exists⟨λS' g=>dX λ(d:Addr)=>d0 (S'=[↥C,↥J,↥U,↥d,none,none,none]) (bX H g/\g d=some (.lst (((tm (Fn.hold n)).map λj=>N.getD j ⟨#[]⟩).map V.str))),?_,?_⟩
  rotate_left
  .exists cp l ?_;exists cw ?_;exists cp l ?_;exists cw ?_;ac_nf;exact⟨p1,rfl,s1,t1⟩
  rintro S' H2 ⟨p2,rfl,m,e2⟩;have r:=m _ _ o;exists⟨λS' g=>dX λ(d:Addr)=>d0 (S'=[↥C,↥J,↥U,↥d,none,none,none]) (bX H g/\g d=some (.lst (((Fn.hold n).js.map λj=>N.getD j ⟨#[]⟩).map V.str))),?_,?_⟩
  rotate_left
  .exists cp r ?_;exists cw ?_;ac_nf;exact⟨p2,rfl,m,e2⟩
  rintro S' H3 ⟨d,rfl,D,S⟩;have Y:∀u0 u1 u2,(Fn.hold n)≠.rise u0 u1 u2:=λ_ _ _ z=>by cases z
  clear Z;generalize(Fn.hold n)=f at S Y O q
 case' ring x n=>
  have o:H C=some (.tup _):=Z;exists cp o ?_;exists cw ?_;exists⟨va _,?_⟩;sleep 1;have l:=s1 _ _ o;exists⟨λS' g=>dX λ(d:Addr)=>d0 (S'=[↥C,↥J,↥U,↥d,none,none,none]) (bX H g/\g d=some (.lst (((tm (Fn.ring x n)).map λj=>N.getD j ⟨#[]⟩).map V.str))),?_,?_⟩
  rotate_left
  .exists cp l ?_;exists cw ?_;exists cp l ?_;exists cw ?_;ac_nf;exact⟨p1,rfl,s1,t1⟩
  rintro S' H2 ⟨p2,rfl,m,e2⟩;have r:=m _ _ o;exists⟨λS' g=>dX λ(d:Addr)=>d0 (S'=[↥C,↥J,↥U,↥d,none,none,none]) (bX H g/\g d=some (.lst (((Fn.ring x n).js.map λj=>N.getD j ⟨#[]⟩).map V.str))),?_,?_⟩
  rotate_left
  .exists cp r ?_;exists cw ?_;ac_nf;exact⟨p2,rfl,m,e2⟩
  rintro S' H3 ⟨d,rfl,D,S⟩;have Y:∀u0 u1 u2,(Fn.ring x n)≠.rise u0 u1 u2:=λ_ _ _ z=>by cases z
  clear Z;generalize(Fn.ring x n)=f at S Y O q
 case' row is=>
  let⟨b,o,hb⟩:=Z;exists cp o ?_;exists cw ?_;exists⟨va _,?_⟩;sleep 1;have l:=s1 _ _ o;exists⟨λS' g=>dX λ(d:Addr)=>d0 (S'=[↥C,↥J,↥U,↥d,none,none,none]) (bX H g/\g d=some (.lst (((tm (Fn.row is)).map λj=>N.getD j ⟨#[]⟩).map V.str))),?_,?_⟩
  rotate_left
  .exists cp l ?_;exists df ?_;refine dP ?_;exists cp l ?_;exists⟨b,_,rfl,.inr (cU.of (s1 _ _ hb)),?_⟩;sleep 2;ac_nf;exact⟨p2,rfl,s1.trans s2,t2⟩
  rintro S' H2 ⟨p2,rfl,m,e2⟩;have r:=m _ _ o;exists⟨λS' g=>dX λ(d:Addr)=>d0 (S'=[↥C,↥J,↥U,↥d,none,none,none]) (bX H g/\g d=some (.lst (((Fn.row is).js.map λj=>N.getD j ⟨#[]⟩).map V.str))),?_,?_⟩
  rotate_left
  .exists cp r ?_;exists cw ?_;ac_nf;exact⟨p2,rfl,m,e2⟩
  rintro S' H3 ⟨d,rfl,D,S⟩;have Y:∀u0 u1 u2,(Fn.row is)≠.rise u0 u1 u2:=λ_ _ _ z=>by cases z
  generalize(Fn.row is)=f at S Y O q;clear o hb
 case' side is=>
  let⟨b,o,hb⟩:=Z;exists cp o ?_;exists cw ?_;exists⟨va _,?_⟩;sleep 1;have l:=s1 _ _ o;exists⟨λS' g=>dX λ(d:Addr)=>d0 (S'=[↥C,↥J,↥U,↥d,none,none,none]) (bX H g/\g d=some (.lst (((tm (Fn.side is)).map λj=>N.getD j ⟨#[]⟩).map V.str))),?_,?_⟩
  rotate_left
  .exists cp l ?_;exists cw ?_;exists cp l ?_;exists df ?_;exists cp l ?_;exists⟨b,_,rfl,.inr (cU.of (s1 _ _ hb)),?_⟩;sleep 2;ac_nf;exact⟨p2,rfl,s1.trans s2,t2⟩
  rintro S' H2 ⟨p2,rfl,m,e2⟩;have r:=m _ _ o;exists⟨λS' g=>dX λ(d:Addr)=>d0 (S'=[↥C,↥J,↥U,↥d,none,none,none]) (bX H g/\g d=some (.lst (((Fn.side is).js.map λj=>N.getD j ⟨#[]⟩).map V.str))),?_,?_⟩
  rotate_left
  .exists cp r ?_;exists cw ?_;ac_nf;exact⟨p2,rfl,m,e2⟩
  rintro S' H3 ⟨d,rfl,D,S⟩;have Y:∀u0 u1 u2,(Fn.side is)≠.rise u0 u1 u2:=λ_ _ _ z=>by cases z
  generalize(Fn.side is)=f at S Y O q;clear o hb
 case' again k j=>
  have o:H C=some (.tup _):=Z;exists cp o ?_;exists cw ?_;exists⟨va _,?_⟩;sleep 1;have l:=s1 _ _ o;exists⟨λS' g=>dX λ(d:Addr)=>d0 (S'=[↥C,↥J,↥U,↥d,none,none,none]) (bX H g/\g d=some (.lst (((tm (Fn.again k j)).map λj=>N.getD j ⟨#[]⟩).map V.str))),?_,?_⟩
  rotate_left
  .exists cp l ?_;exists cw ?_;exists cp l ?_;exists cw ?_;ac_nf;exact⟨p1,rfl,s1,t1⟩
  rintro S' H2 ⟨p2,rfl,m,e2⟩;have r:=m _ _ o;exists⟨λS' g=>dX λ(d:Addr)=>d0 (S'=[↥C,↥J,↥U,↥d,none,none,none]) (bX H g/\g d=some (.lst (((Fn.again k j).js.map λj=>N.getD j ⟨#[]⟩).map V.str))),?_,?_⟩
  rotate_left
  .exists cp r ?_;exists df ?_;exists cp r ?_;exists⟨ue,?_⟩;sleep 3;ac_nf;exact⟨p3,rfl,m.trans s3,t3⟩
  rintro S' H3 ⟨d,rfl,D,S⟩;have Y:∀u0 u1 u2,(Fn.again k j)≠.rise u0 u1 u2:=λ_ _ _ z=>by cases z
  clear Z;generalize(Fn.again k j)=f at S Y O q
 all_goals
  let⟨j8,a8⟩:=O.js;exists⟨va _,?_⟩;walk_at"f pf hpf H4 s4 t4";have a3:=D.trans s4;have mf:∀{c u},H c=some u->c≠pf:=λh=>je (D _ _ h) hpf
  have a9:d≠pf:=je S hpf;have aa:=aM.1;exists⟨d,rfl,⟨_,bZ.of (s4 _ _ S)⟩,?_⟩;refine Ji (xs:=(f.js.map λj=>N.getD j ⟨#[]⟩).map V.str) (λt σ g=>iU λ(o5 o6:N3) (X:L8)=>i7 (σ=[↥C,↥J,↥U,↥d,↥pf,o5,o6]) (∀c u,c≠pf->H4 c=some u->g c=some u) (g pf=some (.lst (X.map V.str))) X.Nodup (⇑X<=8*t) (∀s,s∈X↔∃j∈f.js.take t,s∈Ms.getD j [])) ⟨_,_,[],rfl,λc u _ h=>h,t4,.nil,vb _,λs=>⟨(λh=>nomatch h),λ⟨j,hj,_⟩=>nomatch hj⟩⟩ ?_ ?_ ?_
  .rintro t σ g _ ⟨o5,o6,X,rfl,sm,_⟩;exact bZ.of (sm _ _ a9 (s4 _ _ S))
  .rintro t v σ H5 hv ⟨o5,o6,X,rfl,sm,e5,a2,kl,W⟩;rw[vv,vv]at hv;let⟨x,hx,rfl⟩:=vg.mp hv;let⟨j,hj,rfl⟩:=vg.mp hx;have tl:=(vx.mp hj).1;have jl:=a8 j (vm hj);let⟨l1,l2,l3⟩:=sR nd jl;have a4:Ms[j]?=some (Ms.getD j []):=by rw[vy,vz ⋯];rfl
   have ab:=k4 _ (vm a4);obtain⟨ma,a5⟩:∃ma,a7[j]?=some ma:=⟨_,vz ⋯⟩
   have a0:=aM.2 j ma _ a5 a4;have k5:∀{c u},H c=some u->H5 c=some u:=λh=>sm _ _ (mf h) (a3 _ _ h)
   exists⟨.inl ⟨rfl,_,bZ.of (k5 en)⟩,?_⟩;exists⟨J,_,.str _,.str _,j,rfl,rfl,bZ.of (k5 en),rfl,j0 _,l1,l2,l3,?_⟩;exists cm (bZ.of (k5 em)) (jJ (show(a7.map V.ref)[j]?=↥ma by rw[vv,a5];rfl)) ?_;refine⟨ma,rfl,⟨_,bZ.of (k5 a0)⟩,?_⟩;refine Ji (xs:=(Ms.getD j []).map V.str) (λu σ g=>gw λ(o6:N3) (B:L8)=>i7 (σ=[↥C,↥J,↥U,↥d,↥pf,some (.str (N.getD j ⟨#[]⟩)),o6]) (∀c u,c≠pf->H4 c=some u->g c=some u) (g pf=some (.lst (B.map V.str))) B.Nodup (⇑B<=8*t+u) (∀s,s∈B↔s∈X\/s∈(Ms.getD j []).take u)) ⟨_,X,rfl,sm,e5,a2,kl,λs=>⟨.inl,λh=>h.elim id λh=>nomatch h⟩⟩ ?_ ?_ ?_
   .rintro u σ g _ ⟨o6,B,rfl,R,_⟩;exact bZ.of (R _ _ (mf a0) (a3 _ _ a0))
   .rintro u v σ H6 hv ⟨o6,B,rfl,R,e6,I,a6,p⟩;rw[vv]at hv;let⟨y,hy,rfl⟩:=vg.mp hv;have ul:=(vx.mp hy).1;exists⟨pf,_,rfl,.inl (bZ.of e6),rfl,j0 _,?_⟩;rw[vd rfl,CK];refine⟨_,rfl,?_⟩;refine g7 (λc=>?_) (λc=>?_)
    .exists⟨.inl ⟨rfl,_,bZ.of e6⟩,?_⟩;exists⟨pf,_,_,rfl,rfl,e6,by rw[vt];lia,?_⟩;refine⟨_,B++[y],rfl,λc u hc h=>(jg hc).trans (R _ _ hc h),by rw[jw,vj];rfl,nodup_append.mpr ⟨I,pairwise_singleton _ _,λa o b hb e=>c (by rw[<-vo.mp hb,<-e];exact o)⟩,by rw[vn,vR];lia,λs=>?_⟩;rw[vh,p,vo,take_snoc hy,vh,vo,or_assoc]
    .exists⟨_,B,rfl,R,e6,I,⋯,λs=>?_⟩;rw[p,take_snoc hy,vh,vo];refine⟨λh=>h.elim .inl λh=>.inr (.inl h),?_⟩;rintro(h | h | rfl)
     .exact .inl h
     .exact .inr h
     .exact(p _).mp c
   .rintro σ H6 ⟨o6,B,rfl,R,e6,I,a6,p⟩;rw[vt]at a6 p;rw[v3]at p;exists⟨_,_,B,rfl,R,e6,I,⋯,λs=>?_⟩;rw[p,W,take_snoc hj];constructor
    .rintro(⟨j',a1,h⟩ | h)
     .exact⟨j',mem_append_left _ a1,h⟩
     .exact⟨j,mem_append_right _ vq,h⟩
    .rintro⟨j',a1,h⟩;rcases vh.mp a1 with z | z
     .exact .inl ⟨j',z,h⟩
     .rw[vo.mp z]at h;exact .inr h
  .rintro σ H5 ⟨o5,o6,X,rfl,sm,e5,a2,kl,W⟩;rw[show((f.js.map λj=>N.getD j ⟨#[]⟩).map V.str).length=⇑f.js by rw[vt,vt]]at kl W;rw[v3]at W;ac_nf;exact q pf X H5 (λc u h=>sm _ _ (mf h) (a3 _ _ h)) (none_of D hpf) e5 ⟨a2,λs=>(W s).trans ⟨.inl,λh=>h.elim id λ⟨h',n',e⟩=>uf e (Y _ _ _)⟩⟩ ⋯
def X2(T:Txt K mg t):1<*t.zw t.zA ["_law_names","_law_known_here","_law_most"] (gn):=by
 specialize T.yY.F.ok Q5;let⟨Z,d,f,W,B,rfl,R,O,nd,ng,n1,a0,gb,q⟩:=h;refine⟨_,(jb (cz 3 Q5.nd (jP jc))
  (jb (cz 4 Q5.nd jd)
  (jb (Jd PassesOwn.never rfl (LF (by rfl) T.Et (ja (pv 0) jc)) (cN 5 Q5.nd)
   (jf (Ja (PW.pt (Q1 (jr ka (jD jX (by rfl) T.qg Jt (ja (pv 3) jc)) jd (bY _)) (QC (jr Xd (jo jL (pv 4) (qj (qS hr) (pv 1) (pv 5))) (pv 2) (bY _)))))
    (jb (j5 (JP q4 q5 q7 jO (pv 3) (ja (pv 5) jc)))
    (jf (cz 4 Q5.nd (jo jL (pv 4) (qj (qS hr) (pv 1) (pv 5))))))
    jB)))
  (jf (jx (qz zm (by rfl) T.Wc Kk (ja (pv 3) jc))))))),?_⟩
 rotate_right 303
 have p:∀(h:Hp) j,h d=some (.dK (iJ f W))->j<⇑f->dg h d (.str (f.getD j ⟨#[]⟩)) (some (.int (W∘j))):=λh j eh hj=>by
  have g:=dg.k (k:=Sum.inr (f.getD j ⟨#[]⟩)) eh;rw[Kt nd ng hj]at g;exact g
 exists⟨va _,?_⟩;walk_at"f ps hps H1 s1 t1";have l:∀{c u},H c=some u->c≠ps:=λh=>je h hps
 exists⟨Z,_,rfl,bZ.of (s1 _ _ R),?_⟩;refine HD (xs:=f.map V.str) (λt M m=>iU λ(J:N3) (e:L6) (a:Int)=>i7 (M=[↥Z,↥d,~~~B,↥ps,~~~a,J]) (∀c u,c≠ps->H1 c=some u->m c=some u) (m ps=some (.lst ((e.map λj=>f.getD j ⟨#[]⟩).map V.str))) (⇑e<=5) (∀j∈e,j<⇑f) ((t=0->e=[]/\a=0)/\(0<t->e≠[]))) ⟨_,[],0,rfl,λc u _ h=>h,t1,va _,(λj h=>nomatch h),λ_=>⟨rfl,rfl⟩,λh=>uf h ⋯⟩ ?_ ?_ ?_
 .rintro t M m _ ⟨J,e,a,rfl,n,_⟩;exact bZ.of (n _ _ (l R) (s1 _ _ R))
 .rintro t v M m hi D ⟨J,e,a,rfl,n,o,I,r,z0,L⟩;rw[vt]at hi D;rw[vv]at D;let⟨x,Y,rfl⟩:=vg.mp D;have ej:x=f.getD (⇑f-1-t) ⟨#[]⟩:=by rw[vy,Y];rfl
  subst ej;have y:⇑f-1-t<⇑f:=⋯
  clear Y D;generalize ⇑f-1-t=j at y|-;have k':∀{c u},H c=some u->m c=some u:=λh=>n _ _ (l h) (s1 _ _ h)
  have g:=gb j y;exists⟨_,_,rfl,.inl ⟨_,bZ.of o,rfl⟩,?_⟩;rw[vt,vt];exists cC (λc=>?_) (λc=>?_)
  .exists⟨d,_,rfl,p m j (k' O) y,?_⟩;exists cC (λU=>?_) (λU=>?_)
   .exists⟨.inl ⟨rfl,_,bZ.of o⟩,?_⟩;exists⟨ps,_,_,rfl,rfl,o,by rw[vt,vt];lia,?_⟩;generalize N:upd m ps _=H2;have e2:H2 ps=some (.lst (((e++[j]).map λj=>f.getD j ⟨#[]⟩).map V.str)):=by
     rw[vj,vj];exact JT N
    have C:∀c u,c≠ps->H1 c=some u->H2 c=some u:=λc u X h=>N▸(jg X).trans (n c u X h)
    clear N;exists⟨d,_,rfl,p H2 j (C _ _ (l O) (s1 _ _ O)) y,?_⟩;exists⟨_,e++[j],_,rfl,C,e2,by rw[vn];show _+1<=5;lia,λj' S=>?_,λh=>uf h ⋯,λ_ h=>by simp at h⟩;rcases vh.mp S with z | z
    .exact r j' z
    .rw[vo.mp z];exact y
   .exists⟨_,e,a,rfl,n,o,I,r,λh=>uf h ⋯,λ_ h=>?_⟩;rcases Nat.eq_zero_or_pos t with z | z
    .let⟨_,rfl⟩:=z0 z;exact U ⋯
    .exact L z h
  .exists⟨_,e,a,rfl,n,o,I,r,λh=>uf h ⋯,λ_ h=>?_⟩;rw[h]at c;exact c (by show((0:Nat):Int)<5;lia)
 .rintro M m ⟨J,e,a,rfl,n,o,I,r,z0,L⟩;rw[vt]at L;exists⟨ps,_,rfl,.inl ⟨bZ.of o,?_⟩⟩;walk_at"f b hb H3 s3 t3";exact q b e H3 (λc u h=>s3 _ _ (n _ _ (l h) (s1 _ _ h))) t3 (L ⋯) I r
def X4(T:Txt K mg t)(j:1<*t.qI t.qL ["_law_cell","_law_k"] (KP)):2<*t.zx t.zB ["_law_pool","_law_many"] (fy):=by
 specialize T.jU.F.ok KK;let⟨p,x,y,m,rfl,b,z,n,B,C,q⟩:=h;refine⟨_,(jb (Ja (jr Zw (jk ju (pv 0) jd) jd (bY _))
   (jb (cz 2 KK.nd (jo Je (jk ju (pv 0) jd) (pv 1)))
   (jb (kK (jo Jf (jk ju (pv 0) jd) (pv 1)) (wE (pv 0) jd set_list))
   (jf (jx (pv 2)))))
   jB)
  (jb (kK (jo Je (jo Js (jo jL (jk ju (pv 0) jd) (pv 1)) jd) (jo jL (jo zh jd jd) jd)) (wE (pv 0) jd set_list))
  (jb (kK (jh T.JH j hr (ja (jk ju (pv 0) jd) (ja (pv 1) jc))) (wE (pv 0) jd set_list))
  (jf (jx (jo Je (jo Jf (jk ju (pv 0) jd) jd) (pv 1))))))),?_⟩
 rotate_right 201
 exists cm (bZ.of b) rfl ?_;exists cC (λc=>?_) (λc=>?_)
 .have e:fA x y m=(x%m,x/m,y):=vd ⋯;rw[e]at q;exists cm (bZ.of b) rfl ?_;exists cm (bZ.of b) rfl ?_;exists⟨p,_,_,0,rfl,rfl,b,rfl,?_⟩;ac_nf;exact q _ (λc u d h=>(jg d).trans h) jw
 .have e:fA x y m=(dn ((y+m)*314159265358979323846264338327%(10^30+57)) m/1000%m,x,dn ((y+m)*314159265358979323846264338327%(10^30+57)) m):=vc ⋯;rw[e]at q;exists cm (bZ.of b) rfl ?_;exists⟨p,_,_,1,rfl,rfl,b,rfl,?_⟩;have o:=ve ((y+m)*314159265358979323846264338327) (show(10^30+57:Int)≠0 by decide);have r:=vf ((y+m)*314159265358979323846264338327) (show(0:Int)<10^30+57 by decide);generalize(y+m)*314159265358979323846264338327%(10^30+57)=v at o r q|-;generalize a:upd H p _=H1;have f:H1 p=some (.lst [.int x,.int v]):=JT a;have k:∀c u,c≠p->H c=some u->H1 c=some u:=λc u d h=>a▸(jg d).trans h
  clear a;exists cm (bZ.of f) rfl ?_;exists⟨v,m,rfl,⋯,n,?_⟩;exists⟨p,_,_,1,rfl,rfl,f,rfl,?_⟩;generalize a:upd H1 p _=H2;have g:H2 p=some (.lst [.int x,.int (dn v m)]):=JT a;have l:∀c u,c≠p->H c=some u->H2 c=some u:=λc u d h=>a▸(jg d).trans (k c u d h)
  clear a;exists cm (bZ.of g) rfl ?_;ac_nf;exact q _ l g
def WP(T:Txt K mg t)(jN:2<*t.zx t.zB ["_law_pool","_law_many"] (fy)):3<*t.ZS t.ZT ["_law_pool","_law_kind","_law_names","_law_movers","_law_bounds"] (fW):=by
 specialize T.Y7.F.ok Jx;let⟨p,nl,ml,bd,x,y,kd,H0,am,L,v,J,b0,b1,b2,b3,b4,rfl,ep,y0,y1,R,N,n1,Bd,q⟩:=h;refine⟨_,(jb (Ja (jr Jr (pv 1) jd (bY _))
   (jb (cz 5 Jx.nd (jo jL jd (jh T.jU jN hr (ja (pv 0) (ja (jk ju (pv 4) jd) jc)))))
   (jf (jx (jR (ja jI (ja (pv 5) (ja (jk ju (pv 2) (jh T.jU jN hr (ja (pv 0) (ja (jD jX (by rfl) T.qg Jt (ja (pv 2) jc)) jc)))) jc)))))))
   jB)
  (jb (Ja (jr Jr (pv 1) jd (bY _))
   (jb (cz 6 Jx.nd (jo jL jd (jh T.jU jN hr (ja (pv 0) (ja jd jc)))))
   (jf (jx (jR (ja jI (ja (qz zm (by rfl) T.Wc Kk (ja (JR (ow:=["_law_j"]) (ci:=[2,0]) rfl (cj.of (bV Qy) ["_law_pool","_law_kind","_law_names","_law_movers","_law_bounds","_law_times","_law_many","_law_some","_law_used","_law_j","_law_at","_law_twice"] rfl rfl ∅) (qi nofun) (QN (by rfl) T.zY (ja (pv 6) jc)) (λ_ _ _ _ _=>⟨(cN 0 (Jy ["_law_pool","_law_kind","_law_names","_law_movers","_law_bounds","_law_times","_law_many","_law_some","_law_used","_law_j","_law_at","_law_twice"] rfl ∅)),Qu,(jk (Yk (K:=K) rfl) (pv 1) (jh T.jU jN hr (ja (pv 2) (ja (jD (EM (K:=K) rfl) (by rfl) T.qg Jt (ja (pv 1) jc)) jc))))⟩)) jc)) jc))))))
   jB)
  (jb (cz 7 Jx.nd (jP jc))
  (jb (jq (i:=8) Jx.nd rfl (.inr rfl) (jP jc))
  (jb (Jd PassesOwn.never rfl (QN (by rfl) T.zY (ja (jo jL jd (jh T.jU jN hr (ja (pv 0) (ja jd jc)))) jc)) (cN 9 Jx.nd)
   (jb (cz 10 Jx.nd (jh T.jU jN hr (ja (pv 0) (ja (jD jX (by rfl) T.qg Jt (ja (pv 2) jc)) jc))))
   (jb (wk (i:=11) (ow:=["_law_one"]) (ci:=[8]) rfl (cj.of (bV Qy) ["_law_pool","_law_kind","_law_names","_law_movers","_law_bounds","_law_times","_law_many","_law_some","_law_used","_law_j","_law_at","_law_twice"] rfl rfl ∅) (qi nofun) Jx.nd rfl (.inl rfl) (jQ (jk ju (pv 3) (pv 10))) (λ_ _ _ _ _=>⟨(cN 0 (Jy ["_law_pool","_law_kind","_law_names","_law_movers","_law_bounds","_law_times","_law_many","_law_some","_law_used","_law_j","_law_at","_law_twice"] rfl ∅)),(wD (jr (kJ (K:=K) rfl) (pv 0) (pv 1) (by with_unfolding_all rfl))),(pv 0)⟩))
   (jf (Ja (PW.pt (Q1 (jr (Al hr.units) (jk ju (pv 3) (pv 10)) (jP jc) (bY _)) (QC (jr (ua hr.units) (pv 11) (jP jc) (bY _)))))
    (jb (j5 (JP q4 q5 q7 jO (pv 7) (ja (jk ju (pv 2) (pv 10)) jc)))
    (jf (jq (i:=8) Jx.nd rfl (.inr rfl) (jo kI (pv 8) (jk ju (pv 3) (pv 10))))))
    jB)))))
  (jb (Ja (jr ka (jD jX (by rfl) T.qg Jt (ja (pv 7) jc)) jd (bY _))
   (jf (jx (jR (ja jI (ja (jo jL jd (jh T.jU jN hr (ja (pv 0) (ja (jk ju (pv 4) jd) jc)))) jc)))))
   jB)
  (jf (jx (jR (ja jI (ja (qz zm (by rfl) T.Wc Kk (ja (pv 7) jc)) jc))))))))))),?_⟩
 rotate_right 507
 have aA:=N.sU;let⟨eb,ae,aq,ar,as,au,av,a9,aw,ax,ay⟩:=Bd;exists cC (λc=>?_) (λc=>?_)
 .exists cm (bZ.of (R _ _ eb).2) rfl ?_;ac_nf;have r:=JN (x:=x) (y:=y) a9;refine⟨p,x,y,_,rfl,ep,a9,⋯,y0,y1,λH1 x1 e1=>?_⟩;have o:=qt (x:=x) (m:=b3) y0 y1;have o1:=R.ex x1;exists⟨_,_,rfl,.inl ⟨_,bZ.of (o1 _ _ N.en).2,rfl⟩,?_⟩;rw[vt];exists⟨p,_,_,_,rfl,e1,⋯,⋯,o.1,o.2,λH2 x2 e2=>?_⟩;have r2:=JN (x:=(fA x y b3).2.1) (y:=(fA x y b3).2.2) (m:=(⇑v:Int)) ⋯;have o2:=o1.ex x2;generalize fA (fA x y b3).2.1 (fA x y b3).2.2 (⇑v:Int)=T2 at r2 e2|-;obtain⟨j,ej⟩:∃j:Nat,T2.1=(j:Int):=⟨T2.1.toNat,⋯⟩
  rw[ej]at r2|-;have I:j<⇑v:=⋯
  refine cm (bZ.of (o2 _ _ N.en).2) (ZG I) ?_;exists⟨uc,?_⟩;walk_at"f b6 hb6 H6 s6 t6";exact q b6 (.again (1+(fA x y b3).1) j) H6 (x1.trans (x2.trans (.of s6))) t6 ⟨⋯,⋯,I⟩
 exists cC (λc5=>?_) (λc5=>?_)
 .ac_nf;have r:=JN (x:=x) (y:=y) (m:=5) ⋯;have o:=qt (x:=x) (m:=5) y0 y1;refine⟨p,x,y,_,rfl,ep,⋯,⋯,y0,y1,λH1 x1 e1=>?_⟩;generalize fA x y 5=T at r o e1|-;have o1:=R.ex x1;exists⟨_,rfl,⋯,⋯,?_⟩;refine Ez (λi ys C=>iU λ(f:L6) (x y:Int)=>i7 (ys=f.map (λj=>V.str (v.getD j ⟨#[]⟩))) (⇑f=i) (∀j∈f,j<⇑v) (Ex p H1 C) (C p=some (.lst [.int x,.int y])) (0<=y/\y<10^30+57)) ⟨[],_,_,rfl,rfl,(λj h=>nomatch h),.refl _,e1,o⟩ ?_ ?_
  .rintro i ys C hi ⟨f,x2,y2,rfl,il,I,xx,ai,yy⟩;have o2:=o1.ex xx;refine qb (S':=[none,some _,some _]) rfl ?_;exists dP ?_;exists⟨_,_,rfl,.inl ⟨_,bZ.of (o2 _ _ N.en).2,rfl⟩,?_⟩;rw[show(v.map V.str).length=⇑v from vt _];ac_nf;have r2:=JN (x:=x2) (y:=y2) (m:=(⇑v:Int)) ⋯;have e:=qt (x:=x2) (m:=(⇑v:Int)) yy.1 yy.2;refine⟨p,x2,y2,_,rfl,ai,⋯,⋯,yy.1,yy.2,λH3 x3 e3=>?_⟩;generalize fA x2 y2 (⇑v:Int)=T2 at r2 e e3|-;obtain⟨j,ej⟩:∃j:Nat,T2.1=(j:Int):=⟨T2.1.toNat,⋯⟩
   rw[ej]at r2|-;have jn:j<⇑v:=⋯
   refine cm (bZ.of (o2.ex x3 _ _ N.en).2) (ZG jn) ?_;refine⟨by rw[vt];lia,f++[j],_,_,by rw[vj];rfl,by rw[vn,il];rfl,λj' g=>?_,xx.trans x3,e3,e⟩;rcases vh.mp g with z | z
   .exact I j' z
   .rw[vo.mp z];exact jn
  rintro ys H3 ⟨f,x3,y3,rfl,il,I,xx,az,yy⟩;refine⟨by rw[vt];lia,?_⟩;walk_at"f b hb H4 s4 t4";exists⟨b,_,rfl,.inl ⟨bZ.of t4,?_⟩⟩;walk_at"f b5 hb5 H5 s5 t5";exists⟨ud,?_⟩;walk_at"f b6 hb6 H6 s6 t6";refine q b6 (.row f) H6 (x1.trans (xx.trans (.of (s4.trans (s5.trans s6))))) ⟨b5,t6,?_⟩ ⟨λz=>?_,⋯,I⟩
  .rw[s6 _ _ t5,v4];rfl
  .rw[z]at il;have:(0:Nat)=_:=il;lia
 exists⟨va _,?_⟩;walk_at"f ps hps H1 s1 t1";exists⟨va _,?_⟩;walk_at"f pu hpu H2 s2 t2";have a6:=s1.trans s2;have a2:ps≠p:=(je ep hps).symm;have ad:pu≠p:=(je (s1 _ _ ep) hpu).symm;have ac:∀{c u},H c=some u->c≠ps:=λh=>je h hps
 have ao:pu≠ps:=(je t1 hpu).symm;ac_nf;have r:=JN (x:=x) (y:=y) (m:=3) ⋯;have o:=qt (x:=x) (m:=3) y0 y1;refine⟨p,x,y,_,rfl,a6 _ _ ep,⋯,⋯,y0,y1,λH3 x3 e3=>?_⟩;generalize fA x y 3=T at r o e3|-;have o3:Off p H0 H3:=λc u h=>⟨(R c u h).1,x3 _ _ (R c u h).1 (a6 _ _ (R c u h).2)⟩
 have af:=x3 _ _ a2 (s2 _ _ t1);have ag:=x3 _ _ ad t2;have aj:∀{c u},c≠p->H c=some u->H3 c=some u:=λn h=>x3 _ _ n (a6 _ _ h)
 exists⟨_,rfl,⋯,⋯,?_⟩;refine zg (λt σ C=>mx λ(o9 a4 a5:N3) (d:Addr) (f:L6) (D:L8) (x y:Int)=>oR (σ=[↥p,~~~kd,↥nl,↥ml,↥bd,none,none,↥ps,↥d,o9,a4,a5]) (d≠ps) (d≠p) (Ex p H C) (C ps=some (.lst ((f.map λj=>v.getD j ⟨#[]⟩).map V.str))) (C d=some (.lst (D.map V.str))) (C p=some (.lst [.int x,.int y])) (0<=y) (y<10^30+57) (⇑f<=t) (⇑D<=8*t) (∀j∈f,j<⇑v) (iT J f) (∀s,s∈D↔∃j∈f,s∈J.getD j [])) ⟨_,_,_,pu,[],[],_,_,rfl,ao,ad,λc u n h=>aj n h,af,ag,e3,o.1,o.2,vb _,vb _,(λj h=>nomatch h),⟨(λj h=>nomatch h),.nil⟩,λs=>⟨(λh=>nomatch h),λ⟨j,h,_⟩=>nomatch h⟩⟩ ?_ ?_
 .rintro t σ H4 ht ⟨o9,a4,a5,d,f,D,x4,y4,rfl,a1,a0,B,M,a3,e4,U,W,il,ul,I,ap,O⟩;have t4:t<4:=⋯
  have o4:=R.ex B;exists⟨_,_,rfl,.inl ⟨_,bZ.of (o4 _ _ N.en).2,rfl⟩,?_⟩;rw[vt];ac_nf;have r2:=JN (x:=x4) (y:=y4) (m:=(⇑v:Int)) ⋯;have e:=qt (x:=x4) (m:=(⇑v:Int)) U W;refine⟨p,x4,y4,_,rfl,e4,⋯,⋯,U,W,λH5 x5 e5=>?_⟩;generalize fA x4 y4 (⇑v:Int)=T2 at r2 e e5|-;obtain⟨j,ej⟩:∃j:Nat,T2.1=(j:Int):=⟨T2.1.toNat,⋯⟩
  rw[ej]at r2|-;have al:j<⇑v:=⋯
  have a7:=B.trans x5;have o5:=R.ex a7;have X:=x5 _ _ a2 M;have Y:=x5 _ _ a0 a3;clear x5 B o4 M a3 e4 U W;let⟨ma,ak,Z,an,mw⟩:=N.mv al;have aM:eW (am.map V.ref) ((j:Nat):Int)=↥ma:=jJ (by rw[vv,ak];rfl);exists cm (bZ.of (o5 _ _ N.em).2) (aM) ?_;refine⟨ma,rfl,⟨_,bZ.of (o5 _ _ Z).2⟩,?_⟩;refine JA (xs:=(J.getD j []).map V.str) (λi ys C=>ys=(((J.getD j []).take i).filter λs=>decide (s∈D)).map V.str/\H5=C) ⟨rfl,rfl⟩ ?_ ?_ ?_
  .rintro i ys C _ ⟨rfl,rfl⟩;exact bZ.of (o5 _ _ Z).2
  .rintro i x ys C hx ⟨rfl,rfl⟩;rw[vv]at hx;let⟨k,aa,rfl⟩:=vg.mp hx;have ik:=(vx.mp aa).1;refine qb (S':=[none,some _]) rfl ?_;exists⟨d,_,rfl,.inl (bZ.of Y),rfl,j0 _,?_⟩;rw[vW];ac_nf;rw[take_snoc aa,filter_append];have lf:⇑(((J.getD j []).take i).filter λs=>decide (s∈D))<=8:=vV (length_filter_le _ _) (by rw[vi];lia);refine cC (λc=>?_) (λc=>?_)
   .exists⟨by rw[vt];lia,?_,rfl⟩;rw[vj,v6,vd (vG c),filter_nil];rfl
   .refine⟨?_,rfl⟩;rw[v6,vc (by rw[vH c];exact vF),filter_nil,append_nil]
  rintro ys C ⟨rfl,rfl⟩;rw[show((J.getD j []).map V.str).length=⇑(J.getD j []) from vt _,v3];have lf:⇑((J.getD j []).filter λs=>decide (s∈D))<=8:=vV (length_filter_le _ _) an;have wf:∀x∈(J.getD j []).filter (λs=>decide (s∈D)),Ws.ff x=true:=λx hx=>mw x (vO.mp hx).1
  refine⟨by rw[vt];lia,?_⟩;walk_at"f p5 hp5 H6 s6 t6";have o6:=o5.ex (.of s6);exists cm (bZ.of (o6 _ _ N.em).2) (aM) ?_;exists⟨va _,?_⟩;sleep 7;have S:=s6.trans s7;refine⟨_,_,.lst (s7 _ _ (o6 _ _ Z).2) (ZM _),rQ t7,mQ mw,mP,?_⟩;rw[mG];exists g7 (λd1=>?_) (λd1=>?_)
  .exists⟨va _,?_⟩;sleep 8;have l:=S.trans s8;have a8:=a7.trans (.of l);refine⟨_,_,.lst (s8 _ _ (s7 _ _ t6)) (ZM _),rQ t8,mQ wf,mP,?_⟩;rw[mG];exists cC (λd2=>?_) (λd2=>?_)
   .exists⟨.inl ⟨rfl,_,bZ.of (l _ _ X)⟩,?_⟩;ac_nf;have o8:=R.ex a8;refine cm (bZ.of (o8 _ _ N.en).2) (ZG al) ?_;exists⟨ps,_,_,rfl,rfl,l _ _ X,by rw[vt,vt];lia,?_⟩;generalize eG:upd H8 ps _=H9;have e9:H9 ps=some (.lst (((f++[j]).map λj=>v.getD j ⟨#[]⟩).map V.str)):=by
     rw[vj,vj];exact JT eG
    have k9:∀c u,c≠ps->H8 c=some u->H9 c=some u:=λc u hc h=>eG▸(jg hc).trans h
    clear eG;have n9:∀{c u},H0 c=some u->H9 c=some u:=λ{c u} h=>k9 _ _ (ac (R _ _ h).2) (o8 _ _ h).2
    exists cm (bZ.of (n9 N.em)) (aM) ?_;refine⟨d,ma,_,_,rfl,rfl,k9 _ _ a1 (l _ _ Y),n9 Z,by rw[vt,vt];lia,?_⟩;sleep 10;ac_nf;have ah:=s10 _ _ (k9 _ _ a2.symm (l _ _ e5));refine⟨_,_,_,p10,f++[j],D++J.getD j [],_,_,rfl,(je e9 hp10).symm,(je (k9 _ _ a2.symm (l _ _ e5)) hp10).symm,λc u n h=>s10 _ _ (k9 _ _ (ac h) (a8 _ _ n h)),s10 _ _ e9,by rw[vj];exact t10,ah,e.1,e.2,by rw[vn];show _+1<=_;lia,by rw[vn];lia,λj' g=>?_,⟨λj' g=>?_,List.pairwise_append.mpr ⟨ap.2,pairwise_singleton ..,λa ha b hb s hs ab=>?_⟩⟩,λs=>?_⟩
    .rcases vh.mp g with z | z
     .exact I j' z
     .rw[vo.mp z];exact al
    .rcases vh.mp g with z | z
     .exact ap.1 j' z
     .rw[vo.mp z];exact d1
    .rw[vo.mp hb]at ab;have:s∈(J.getD j []).filter λs=>decide (s∈D):=vO.mpr ⟨ab,vG ((O s).mpr ⟨a,ha,hs⟩)⟩
     rw[d2]at this;cases this
    .rw[vh,O];constructor
     .rintro(⟨j',g,hs⟩ | hs)
      .exact⟨j',mem_append_left _ g,hs⟩
      .exact⟨_,mem_append_right _ vq,hs⟩
     .rintro⟨j',g,hs⟩;rcases vh.mp g with z | z
      .exact .inl ⟨j',z,hs⟩
      .rw[vo.mp z]at hs;exact .inr hs
   .ac_nf;exact⟨_,_,_,d,f,D,_,_,rfl,a1,a0,a8,l _ _ X,l _ _ Y,l _ _ e5,e.1,e.2,⋯,⋯,I,ap,O⟩
  .ac_nf;exact⟨_,_,_,d,f,D,_,_,rfl,a1,a0,a7.trans (.of S),S _ _ X,S _ _ Y,S _ _ e5,e.1,e.2,⋯,⋯,I,ap,O⟩
 rintro σ H4 ⟨o9,a4,a5,d,f,D,x4,y4,rfl,a1,a0,B,M,a3,e4,U,W,il,ul,I,ap,O⟩;exists⟨_,_,rfl,.inl ⟨_,bZ.of M,rfl⟩,?_⟩;rw[vt,vt];exists cC (λc2=>?_) (λc2=>?_)
 .ac_nf;have o4:=R.ex B;refine cm (bZ.of (o4 _ _ eb).2) rfl ?_;ac_nf;have r2:=JN (x:=x4) (y:=y4) ae;refine⟨p,x4,y4,_,rfl,e4,⋯,⋯,U,W,λH5 x5 e5=>?_⟩;exists⟨ud,?_⟩;walk_at"f b6 hb6 H6 s6 t6";exact q b6 (.hold (1+(fA x4 y4 b0).1)) H6 (B.trans (x5.trans (.of s6))) t6 ⟨⋯,⋯⟩
 exists⟨ps,_,rfl,.inl ⟨bZ.of M,?_⟩⟩;walk_at"f b5 hb5 H5 s5 t5";exists⟨ud,?_⟩;walk_at"f b6 hb6 H6 s6 t6";exact q b6 (.side f) H6 (B.trans (.of (s5.trans s6))) ⟨b5,t6,s6 _ _ t5⟩ ⟨⋯,⋯,I,ap.n N.il⟩
def KE(T:Txt K mg t)(R:2<*t.zx t.zB ["_law_pool","_law_many"] (fy))(ZR:3<*t.ZS t.ZT ["_law_pool","_law_kind","_law_names","_law_movers","_law_bounds"] (fW)):4<*t.zb t.ze ["_law_pool","_law_names","_law_movers","_law_limbs","_law_bounds"] (iu):=by
 specialize T.Z2.F.ok qr;let⟨p,nl,ml,pl,bd,x,y,H0,aa,ac,I,Y,Ms,b0,b1,b2,b3,b4,rfl,ep,y0,y1,of,N,Lm,Bd,q⟩:=h;refine⟨_,(jb (cz 5 qr.nd (jh T.jU R hr (ja (pv 0) (ja jd jc))))
  (jb (Ja (PW.pt (Q1 (jr Zw (pv 5) jd (bY _)) (QC (jr (Al hr.units) (pv 1) (jP jc) (bY _)))))
   (jf (jx (jh T.Y7 ZR hr (ja (pv 0) (ja (pv 5) (ja (pv 1) (ja (pv 2) (ja (pv 4) jc))))))))
   jB)
  (jb (cz 6 qr.nd (jo jL jd (jh T.jU R hr (ja (pv 0) (ja (jk ju (pv 4) (jh T.jU R hr (ja (pv 0) (ja jd jc)))) jc)))))
  (jb (Ja (jr ka (pv 5) jd (bY _))
   (jb (cz 7 qr.nd (jk jv (jk ju (pv 3) (jh T.jU R hr (ja (pv 0) (ja (jD jX (by rfl) T.qg Jt (ja (pv 3) jc)) jc)))) jd))
   (jf (jx (jR (ja jI (ja (pv 7) (ja (jh T.jU R hr (ja (pv 0) (ja (jk ju (pv 4) jd) jc))) (ja (pv 6) jc))))))))
   jB)
  (jb (Ja (jr Jr (pv 5) jd (bY _))
   (jb (cz 8 qr.nd (jo kI (jP (ja jI (ja jI (ja jI jc)))) (zF Ag (pv 1) ZO (Zg jd))))
   (jf (jx (jR (ja jI (ja (jk ju (pv 8) (jh T.jU R hr (ja (pv 0) (ja (jD jX (by rfl) T.qg Jt (ja (pv 8) jc)) jc)))) (ja (pv 6) jc)))))))
   jB)
  (jf (jx (jR (ja jI (ja (pv 6) jc)))))))))),?_⟩
 rotate_right 504
 have ad:=N.sU;let⟨eb,l,n,o,u,U,a0,a1,a2,a3,a4⟩:=Bd;ac_nf;have r:=JN (x:=x) (y:=y) (m:=8) ⋯;have b:=qt (x:=x) (m:=8) y0 y1;refine⟨p,x,y,_,rfl,ep,⋯,⋯,y0,y1,λH1 x1 e1=>?_⟩;generalize fA x y 8=T at r b e1|-;have o1:=of.ex x1;exists cC (λc=>?_) (λc=>?_)
 .exists⟨va _,?_⟩;walk_at"f e3 he3 H3 s3 t3";have o3:=o1.ex (.of s3);refine⟨_,_,.lst (o3 _ _ N.en).2 (ZM _),rQ t3,mQ N.w,mP,?_⟩;rw[mG];exists g7 (λd=>?_) (λd=>?_)
  .ac_nf;exact⟨p,nl,ml,bd,_,_,_,H0,aa,_,Y,Ms,b0,b1,b2,b3,b4,rfl,s3 _ _ e1,b.1,b.2,o3,N,length_pos_iff.mpr d,⟨eb,l,n,o,u,U,a0,a1,a2,a3,a4⟩,λa f H' x' hf ab=>q a f H' (x1.trans ((Ex.of s3).trans x')) hf ab⟩
  .ac_nf;have J:=JN (x:=T.2.1) (y:=T.2.2) (m:=2) ⋯;have e:=qt (x:=T.2.1) (m:=2) b.1 b.2;refine⟨p,_,_,_,rfl,s3 _ _ e1,⋯,⋯,b.1,b.2,λH4 x4 W=>?_⟩;generalize fA T.2.1 T.2.2 2=T2 at J e W|-;have o4:=o3.ex x4;let⟨O,C,B,a5⟩:=pY (b2:=b2) (b3:=b3) (b4:=b4) ⟨l,n⟩ ⟨o,u⟩ J.1 J.2;refine cm (bZ.of (o4 _ _ eb).2) (C) ?_;ac_nf;have r3:=JN (x:=T2.2.1) (y:=T2.2.2) (m:=O) B;refine⟨p,_,_,_,rfl,W,⋯,⋯,e.1,e.2,λH5 x5 X=>?_⟩;exists cC (λc3=>?_) (λc3=>?_)
   .exact uf c3 ⋯
   exists cC (λc4=>?_) (λc4=>?_)
   .exact uf c4 ⋯
   exists⟨ud,?_⟩;walk_at"f b6 hb6 H6 s6 t6";exact q b6 (.hold (1+(fA T2.2.1 T2.2.2 O).1)) H6 (x1.trans ((Ex.of s3).trans (x4.trans (x5.trans (.of s6))))) t6 ⟨⋯,⋯⟩
 refine iZ ?_;ac_nf;have J:=JN (x:=T.2.1) (y:=T.2.2) (m:=2) ⋯;have e:=qt (x:=T.2.1) (m:=2) b.1 b.2;refine⟨p,_,_,_,rfl,e1,⋯,⋯,b.1,b.2,λH4 x4 W=>?_⟩;generalize fA T.2.1 T.2.2 2=T2 at J e W|-;have o4:=o1.ex x4;let⟨O,C,B,a5⟩:=pY (b2:=b2) (b3:=b3) (b4:=b4) ⟨l,n⟩ ⟨o,u⟩ J.1 J.2;refine cm (bZ.of (o4 _ _ eb).2) (C) ?_;ac_nf;have r3:=JN (x:=T2.2.1) (y:=T2.2.2) (m:=O) B;have g:=qt (x:=T2.2.1) (m:=O) e.1 e.2;refine⟨p,_,_,_,rfl,W,⋯,⋯,e.1,e.2,λH5 x5 X=>?_⟩;generalize fA T2.2.1 T2.2.2 O=T3 at r3 g X|-;have o5:=o4.ex x5;have L:=x1.trans (x4.trans x5);have l1:=Lm.l1;have a9:=Lm.la.1;have l8:=N.l8;rw[show(bW I).length=⇑I from vt _]at l8;exists cC (λc3=>?_) (λc3=>?_)
 .exists⟨_,_,rfl,.inl ⟨_,bZ.of (o5 _ _ Lm.el).2,rfl⟩,?_⟩;rw[vt,a9];ac_nf;have S:=JN (x:=T3.2.1) (y:=T3.2.2) (m:=(⇑I:Int)) ⋯;have M:=qt (x:=T3.2.1) (m:=(⇑I:Int)) g.1 g.2;refine⟨p,_,_,_,rfl,X,⋯,⋯,g.1,g.2,λH6 x6 e6=>?_⟩;generalize fA T3.2.1 T3.2.2 (⇑I:Int)=T4 at S M e6|-;obtain⟨j,ej⟩:∃j:Nat,T4.1=(j:Int):=⟨T4.1.toNat,⋯⟩
  rw[ej]at S|-;have jl:j<⇑I:=⋯
  have o6:=o5.ex x6;let⟨lk,a7,a6⟩:=Lm.la.get (vz jl);refine cm (bZ.of (o6 _ _ Lm.el).2) (jJ (j:=j) (by rw[vv,a7];rfl)) ?_;exists iI (cU.of (o6 _ _ a6).2) rfl ?_;exists cm (bZ.of (o6 _ _ eb).2) rfl ?_;ac_nf;have r5:=JN (x:=T4.2.1) (y:=T4.2.2) (m:=b2) U;refine⟨p,_,_,_,rfl,e6,⋯,⋯,M.1,M.2,λH7 x7 e7=>?_⟩;generalize fA T4.2.1 T4.2.2 b2=T5 at r5 e7|-;exists⟨ub,?_⟩;walk_at"f b6 hb6 H8 s8 t8";refine q b6 (.rise I[j].1 T5.1 (1+T3.1)) H8 (L.trans (x6.trans (x7.trans (.of s8)))) t8 ⟨⟨j,?_⟩,r5.1,⋯,⋯,⋯⟩;unfold bW;rw[vv,vz jl];rfl
 exists cC (λc4=>?_) (λc4=>?_)
 .exists⟨uc,?_⟩;walk_at"f b3' hb3' H6 s6 t6";exists⟨nl,_,rfl,bZ.of (s6 _ _ (o5 _ _ N.en).2),?_⟩;walk_at"f b4' hb4' H7 s7 t7";have cl:=ZI (Y.map V.str) none (some 1);rw[vt]at cl;refine⟨b3',b4',_,_,rfl,rfl,s7 _ _ t6,t7,by show 3+_<=sizeLine;lia,?_⟩;walk_at"f b5' hb5' H8 s8 t8";have Z:=s6.trans (s7.trans s8);have n5:b5'≠p:=(je (s7 _ _ (s6 _ _ X)) hb5').symm;exists⟨_,_,rfl,.inl ⟨_,bZ.of t8,rfl⟩,?_⟩;ac_nf;have S:=JN (x:=T3.2.1) (y:=T3.2.2) (m:=((([V.str "ding",V.str "dong",V.str "din"]++fc (Y.map V.str) none (some 1)).length:Nat):Int)) (by rw[vn];show 1<=(((3+_:Nat)):Int);lia);refine⟨p,_,_,_,rfl,Z _ _ X,by rw[vn];show 1<=(((3+_:Nat)):Int);lia,by rw[vn];show(((3+_:Nat)):Int)<=_;lia,g.1,g.2,λH9 x9 e9=>?_⟩;generalize fA T3.2.1 T3.2.2 ((([V.str "ding",V.str "dong",V.str "din"]++fc (Y.map V.str) none (some 1)).length:Nat):Int)=T4 at S e9|-;have a8:∀v∈[V.str "ding",V.str "dong",V.str "din"]++fc (Y.map V.str) none (some 1),∃w:Str,v = .str w/\Ws.ff w=true:=λv hv=>by
   rcases vh.mp hv with z | z
   .rcases mem_cons.mp z with rfl | z
    .exact⟨_,rfl,by trivial⟩
    .rcases mem_cons.mp z with rfl | z
     .exact⟨_,rfl,by trivial⟩
     .rw[vo.mp z];exact⟨_,rfl,by trivial⟩
   .let⟨w',D,rfl⟩:=vK.mp (CA z);exact⟨w',rfl,N.w w' D⟩
  let⟨w',D,ww⟩:=BA (k:=T4.1) a8 S.1 S.2;refine cm (bZ.of (x9 _ _ n5 t8)) (D) ?_;exists⟨uc,?_⟩;walk_at"f b8 hb8 H10 s10 t10";exact q b8 (.ring w' (1+T3.1)) H10 (L.trans ((Ex.of Z).trans (x9.trans (.of s10)))) t10 ⟨⋯,⋯,ww⟩
 exists⟨ud,?_⟩;walk_at"f b6 hb6 H6 s6 t6";exact q b6 (.hold (1+T3.1)) H6 (L.trans (.of s6)) t6 ⟨⋯,⋯⟩
def KD(T:Txt K mg t)(j7:1<*t.qw t.qy ["_law_script","_law_k"] (Pr.dQ K))(jV:1<*t.qI t.qL ["_law_cell","_law_k"] (KP))(qB:1<*t.zy t.zC ["_law_place","_law_k"] (gr))(JJ:1<*t.QK t.QL ["_law_form_here","_law_known_here"] (fv))(Qk:1<*t.QU t.QW ["_law_form_here","_law_names","_law_movers"] (fF))(QJ:1<*t.zw t.zA ["_law_names","_law_known_here","_law_most"] (gn))(jN:2<*t.zx t.zB ["_law_pool","_law_many"] (fy))(Q9:4<*t.zb t.ze ["_law_pool","_law_names","_law_movers","_law_limbs","_law_bounds"] (iu)):5<*t.za t.zd ["_law_script","_law_many","_law_bounds"] (fm K):=by
 specialize T.Z1.F.ok jC;let⟨a,bd,ns,v,b0,b1,b2,b3,b4,rfl,hS,av,m2,b7,Bd,q⟩:=h;refine⟨_,(jb (cz 3 jC.nd (jP (ja (jo Jf (jD Ww (by rfl) T.AJ Ax (ja (jh T.JI j7 hr (ja (pv 0) (ja jd jc))) jc)) jd) (ja jd jc))))
  (jb (cz 4 jC.nd (jh T.jU jN hr (ja (pv 3) (ja jd jc))))
  (jb (cz 5 jC.nd (jP jc))
  (jb (Jd PassesOwn.never rfl (QN (by rfl) T.zY (ja (jo jL jd (jh T.jU jN hr (ja (pv 3) (ja jd jc)))) jc)) (cN 6 jC.nd)
   (jf (j5 (JP q4 q5 q7 jO (pv 5) (ja (jR (ja (jh T.zu qB hr (ja (pv 4) (ja (pv 6) jc))) (ja (jh T.jU jN hr (ja (pv 3) (ja (jk ju (pv 2) jd) jc))) jc))) jc)))))
  (jb (cz 7 jC.nd (jh T.jU jN hr (ja (pv 3) (ja (jo jL (jo Js jd (pv 1)) jd) jc))))
  (jb (cz 8 jC.nd (jh T.jU jN hr (ja (pv 3) (ja jd jc))))
  (jb (cz 9 jC.nd (jP jc))
  (jb (cz 10 jC.nd (jP jc))
  (jb (cz 11 jC.nd Z6)
  (jb (cz 12 jC.nd (jP jc))
  (jb (Jd PassesOwn.never rfl (QN (by rfl) T.zY (ja (jo jL (pv 1) jd) jc)) (cN 6 jC.nd)
   (jb (cz 13 jC.nd (jD Ww (by rfl) T.AJ Ax (ja (jh T.JI j7 hr (ja (pv 0) (ja (jo jL jd (pv 6)) jc))) jc)))
   (jb (cz 14 jC.nd (jP (ja (pv 13) (ja (jh T.JH jV hr (ja (pv 13) (ja (jo jL jd (pv 6)) jc))) jc))))
   (jb (Qg (jr ka (pv 13) (jo zh jd jd) (bY _))
    (jf (kK jd (wE (pv 14) jd set_list)))
    jB)
   (jb (cz 15 jC.nd (jh T.Z2 Q9 hr (ja (pv 14) (ja (pv 9) (ja (pv 10) (ja (pv 5) (ja (pv 2) jc)))))))
   (jb (Qg (PW.pt (Q1 (jr Jr (pv 6) (pv 1) (bY _)) (QC (jr Jr (pv 8) jd (bY _)))))
    (jf (cz 15 jC.nd (jR (ja jI (ja (jh T.yY QJ hr (ja (pv 9) (ja (pv 11) (ja (jk ju (pv 2) jd) jc)))) jc)))))
    jB)
   (jb (Qg (jr Zw (jh T.QI JJ hr (ja (pv 15) (ja (pv 11) jc))) (jk ju (pv 2) jd) (bY _))
    (jf (cz 15 jC.nd (jR (ja jI (ja jd jc)))))
    jB)
   (jb (j5 (JP q4 q5 q7 jO (pv 10) (ja (jh T.yc Qk hr (ja (pv 15) (ja (pv 9) (ja (pv 10) jc)))) jc)))
   (jb (cz 16 jC.nd (jh T.zu qB hr (ja (pv 4) (ja (jo jL jd (pv 6)) jc))))
   (jb (Qg (jr Jr (pv 6) (pv 7) (bY _))
    (jf (cz 16 jC.nd (jk jv (jk ju (pv 5) (jo Je (pv 6) (jD jX (by rfl) T.qg Jt (ja (pv 5) jc)))) jd)))
    jB)
   (jb (j5 (JP q4 q5 q7 jO (pv 9) (ja (pv 16) jc)))
   (jb (j5 (JP q4 q5 q7 jO (pv 12) (ja (jR (ja (pv 16) (ja (pv 15) jc))) jc)))
   (jf (yJ (qS hr) (pv 11) (pv 16) (jh T.QI JJ hr (ja (pv 15) (ja (pv 11) jc))) rfl))))))))))))))
  (jf (jx (jR (ja (jR (ja (pv 5) (ja (pv 12) jc))) (ja (qj (qS hr) (pv 11) (jk ju (pv 9) (pv 1))) jc)))))))))))))))),?_⟩
 rotate_right 314
 let⟨eb,aE,aF,aG,aH,am,aI,aJ,aK,an,ao⟩:=Bd;exists⟨a,ns,_,rfl,hS,av,⋯,?_⟩;refine⟨_,rfl,?_⟩;exists⟨ud,?_⟩;walk_at"f po hpo H1 s1 t1";generalize(if Pr.cell ns 0<0 then -Pr.cell ns 0 else Pr.cell ns 0)/2=x0 at t1;ac_nf;have r1:=JN (x:=x0) (y:=7) (m:=3) ⋯;have y1:=qt (x:=x0) (y:=7) (m:=3) nofun nofun;refine⟨po,_,_,_,rfl,t1,⋯,⋯,⋯,⋯,λH2 x2 e2=>?_⟩;generalize fA x0 7 3=T1 at r1 y1 e2|-;obtain⟨p,e3⟩:∃p:Nat,T1.1=(p:Int):=⟨T1.1.toNat,⋯⟩
 have hp:p<3:=⋯
 have s2:bX H H2:=λc u h=>x2 _ _ (je h hpo) (s1 _ _ h)
 rw[e3];clear s1 x2;exists⟨va _,?_⟩;walk_at"f pl hpl H3 s3 t3";have a1:pl≠po:=(je e2 hpl).symm;ac_nf;have r2:=JN (x:=T1.2.1) (y:=T1.2.2) (m:=8) ⋯;have y2:=qt (x:=T1.2.1) (m:=8) y1.1 y1.2;refine⟨po,_,_,_,rfl,s3 _ _ e2,⋯,⋯,y1.1,y1.2,λH4 x4 e4=>?_⟩;generalize fA T1.2.1 T1.2.2 8=T2 at r2 y2 e4|-;have s4:bX H H4:=λc u h=>x4 _ _ (je h hpo) (s3 _ _ (s2 _ _ h))
 have t4:=x4 _ _ a1 t3;have aw:H pl=none:=none_of s2 hpl;clear s2 s3 x4 t3 hpl;exists⟨_,rfl,⋯,⋯,?_⟩;refine zg (λi σ H'=>oj λ(o6:N3) (B:L7) (o:L4) (x y:Int)=>oh (σ=[↥a,some (.int (v:Nat)),↥bd,↥po,some (.int (p:Nat)),↥pl,o6,none,none,none,none,none,none,none,none,none,none]) (bX H H') (H' pl=some (.lst (B.map V.ref))) (cg (hU H') B o) (bW o=mX p i) (⇑o=i) (∀q∈o,0<=q.2/\q.2<=10^18) (H' po=some (.lst [.int x,.int y])) (0<=y/\y<10^30+57)) ⟨_,[],[],_,_,rfl,s4,t4,.nil,rfl,rfl,(λq h=>nomatch h),e4,y2⟩ ?_ ?_
 .rintro i σ H' hi ⟨o6,B,o,x,y,rfl,D,el,la,nm,ll,lh,ep,y0,a3⟩;have i4:i<8:=⋯
  have ay:=la.1;exists⟨.inl ⟨rfl,_,bZ.of el⟩,?_⟩;exists⟨p,i,by rw[uz];rfl,hp,⋯,?_⟩;exists cm (bZ.of (D _ _ eb)) rfl ?_;ac_nf;have r3:=JN (x:=x) (y:=y) (m:=b2) am;have y3:=qt (x:=x) (m:=b2) y0 a3;refine⟨po,_,_,_,rfl,ep,⋯,⋯,y0,a3,λH2 x2 e2=>?_⟩;generalize fA x y b2=T3 at r3 y3 e2|-;have kp:∀c xs,H' c=some (.tup xs)->H2 c=some (.tup xs):=λc xs h=>x2 _ _ (JG h ep λz=>by cases z) h
  have aq:=x2 _ _ a1 el;exists⟨ud,?_⟩;sleep 3;exists⟨pl,_,_,rfl,rfl,s3 _ _ aq,by rw[vt];lia,?_⟩;have kt:∀c xs,H3 c=some (.tup xs)->upd H3 pl (.lst (B.map V.ref++[.ref p3])) c=some (.tup xs):=λc xs h=>(jg (JG h (s3 _ _ aq) λz=>by cases z)).trans h
  refine⟨_,B++[p3],o++[(iN p i,T3.1)],_,_,rfl,λc u h=>?_,by rw[jw,vj];rfl,(la.mono λc x h=>kt _ _ (s3 _ _ (kp _ _ h))).snoc (kt _ _ t3),?_,by rw[vn,ll];rfl,λq hq=>?_,(jg a1.symm).trans (s3 _ _ e2),y3⟩
  .exact(jg (je h aw)).trans (s3 _ _ (x2 _ _ (je h hpo) (D _ _ h)))
  .rw[Bs,<-nm];unfold bW;rw[vj];rfl
  .rcases vh.mp hq with z | z
   .exact lh q z
   .rw[vo.mp z];exact⟨r3.1,by show T3.1<=10^18;lia⟩
 rintro S' H5 ⟨o6,B,o,x,y,rfl,aB,ar,ae,nm,ll,lh,a4,y0,a3⟩;clear s4 t4 e4 e2 H2 H3 H4;have m1:1<=⇑o:=⋯
 have m4:⇑o<=8:=⋯
 replace nm:bW o=mX p ⇑o:=by rw[nm,ll]
 let⟨af,lW⟩:=CW (m:=⇑o) hp ⋯;rw[<-nm]at af lW;clear ll;have Ll:⇑(bW o)=⇑o:=vt _;have ay:=ae.1;ac_nf;have r3:=JN (x:=x) (y:=y) (m:=2*(v:Int)+2) ⋯;have y3:=qt (x:=x) (m:=2*(v:Int)+2) y0 a3;refine⟨po,_,_,_,rfl,a4,⋯,⋯,y0,a3,λH6 x6 e6=>?_⟩;generalize fA x y (2*(v:Int)+2)=T3 at r3 y3 e6|-;have r4:=JN (x:=T3.2.1) (y:=T3.2.2) (m:=2) ⋯;exists⟨po,_,_,_,rfl,e6,⋯,⋯,y3.1,y3.2,λH2 x7 e7=>?_⟩;generalize fA T3.2.1 T3.2.2 2=T4 at r4 e7|-;have D:bX H H2:=λc u h=>x7 _ _ (je h hpo) (x6 _ _ (je h hpo) (aB _ _ h))
 have el:=x7 _ _ a1 (x6 _ _ a1 ar);have la:cg (hU H2) B o:=ae.mono λc x h=>x7 _ _ (JG h a4 λz=>by cases z) (x6 _ _ (JG h a4 λz=>by cases z) h)
 clear aB ar ae x6 x7 e6 e7 a4 H5 H6;obtain⟨R,aP⟩:∃R:Nat,T3.1=(R:Int):=⟨T3.1.toNat,⋯⟩
 rw[aP];generalize T4.1=en4;let⟨nd,nW⟩:=C2 (p:=p) (st:=9) (c:=R) (m:=⇑o) hp m1 ⋯ ⋯;have ng:∀{k:Nat},k<17->(nJ p 9 R ⇑o).getD k ⟨#[]⟩=iN p (mW 9 R ⇑o k):=λh=>BY h
 have nL:=BZ (p:=p) (st:=9) (c:=R) (m:=⇑o);generalize nJ p 9 R ⇑o=names at nd nW ng nL;exists⟨va _,?_⟩;walk_at"f nl hnl H3 s3 t3";exists⟨va _,?_⟩;walk_at"f ml hml H4 s4 t4";ac_nf;walk_at"f d hd' H5 s5 t5";exists⟨va _,?_⟩;walk_at"f pp hpp H6 s6 t6";have ak:=s4.trans (s5.trans s6);have a9:=s3.trans ak;have BB:mT pl nl ml d pp B [] [] o names [] [] [] b4 H6:=by
  refine⟨⟨ak _ _ t3,s6 _ _ (s5 _ _ t4),.nil,(λks hk=>nomatch hk),rfl,va _,⋯,(λx hx=>nomatch hx),lW⟩,⟨a9 _ _ el,la.mono λc x h=>a9 _ _ h,m1⟩,s6 _ _ t5,t6,.nil,⟨rfl,rfl,(λi f h=>by simp at h),λi h=>uf h (Nat.not_lt_zero i)⟩,λj Z=>uf Z (Nat.not_lt_zero j),va _⟩
 have SS:oT pl nl ml pp bd []:=⟨je el hnl,je (s3 _ _ el) hml,je (s5 _ _ (s4 _ _ (s3 _ _ el))) hpp,je t3 hml,je (s5 _ _ (s4 _ _ t3)) hpp,je (s5 _ _ t4) hpp,je (D _ _ eb) hnl,je (s3 _ _ (D _ _ eb)) hml,je (s5 _ _ (s4 _ _ (s3 _ _ (D _ _ eb)))) hpp,(λx hx=>nomatch hx)⟩
 have aT:H nl=none:=none_of D hnl;have aS:H ml=none:=none_of (D.trans s3) hml;have aR:H d=none:=none_of (D.trans (s3.trans s4)) hd';have aU:H pp=none:=none_of (D.trans (s3.trans (s4.trans s5))) hpp;have aZ:=D.trans a9;clear a9 ak t3 t4 t5 t6 el la D s3 s4 s5 s6 hnl hml hd' hpp;exists⟨_,rfl,⋯,⋯,?_⟩;refine zg (λi σ H'=>oS λ(o5 ai aj a7 U:N3) (N I:L7) (fs:List Fn) (X:List L8) (Y:L5)=>eD (σ=[↥a,some (.int (v:Nat)),↥bd,↥po,some (.int (p:Nat)),↥pl,o5,some (.int (R:Nat)),~~~en4,↥nl,↥ml,↥d,↥pp,ai,aj,a7,U]) (bX H H') (mT pl nl ml d pp B N I o names fs X Y b4 H') (oT pl nl ml pp bd I/\⇑fs=i))
  ⟨_,_,_,_,_,[],[],[],[],[],rfl,aZ,BB,SS,rfl⟩ ?_ ?_
 .rintro i σ H7 hi ⟨o5,ai,aj,a7,U,N,I,fs,X,Y,rfl,D,C,S,fl⟩;have aW:i<17:=⋯
  have tl:⇑(names.take ⇑fs)=⇑fs:=by rw[vi];lia
  have b9:⇑N=⇑fs:=C.pa.1.trans QM;have gl:=C.dk.gl;have Ml:⇑X=⇑fs:=by have:=C.n.ml;lia
  have b8:⇑I=⇑fs:=by have:=C.n.am.1;lia
  have W:(names.take ⇑fs).Nodup:=nd.sublist (take_sublist _ _);have ag:∀j,j<⇑fs->1<=Y∘j/\Y∘j<=b4:=λj Z=>⟨(C.dk.g j Z).1,C.gb j Z⟩
  exists⟨a,ns,_,rfl,D.seq hS,av,⋯,?_⟩;refine⟨_,rfl,?_⟩;ac_nf;generalize(if Pr.cell ns (1+(0+(i:Int)))<0 then -Pr.cell ns (1+(0+(i:Int)))else Pr.cell ns (1+(0+(i:Int))))=num;refine⟨_,_,rfl,⋯,⋯,?_⟩;have nb:=zE num (1+(0+(i:Int)));generalize dn num (1+(0+(i:Int)))=yo at nb|-;exists⟨ud,?_⟩;walk_at"f ow how Ha sa ta";exists⟨λS' H'=>dX λ(xo:Int)=>d0 (S'=[↥a,some (.int (v:Nat)),↥bd,↥po,some (.int (p:Nat)),↥pl,some (.int (0+(i:Int))),some (.int (R:Nat)),~~~en4,↥nl,↥ml,↥d,↥pp,~~~num,↥ow,a7,U]) (bX H7 H'/\H' ow=some (.lst [.int xo,.int yo])),?_,?_⟩
  rotate_left
  .exists cC (λc=>?_) (λc=>?_)
   .exists⟨ow,_,_,0,rfl,rfl,ta,rfl,?_⟩;exact⟨0,rfl,λc u h=>(jg (je h how)).trans (sa _ _ h),jw⟩
   .ac_nf;exact⟨num,rfl,sa,ta⟩
  rintro S' Hb ⟨xo,rfl,sb,tb⟩;have ob:Off ow H7 Hb:=λc u h=>⟨je h how,sb _ _ h⟩
  exists⟨ow,nl,ml,pl,bd,xo,yo,H7,I,B,o,names.take ⇑fs,X,b0,b1,b2,b3,b4,rfl,tb,nb.1,nb.2,ob,C.n,C.l,⟨D _ _ eb,aE,aF,aG,aH,am,aI,aJ,aK,an,ao⟩,λas f0 H8 x8 ab O=>?_⟩;have s8:bX H7 H8:=(ob.ex x8).same;rw[tl]at O;have C8:=C.same s8;exists⟨λS' H'=>gw λ(fa:Addr) (f:Fn)=>m9 (S'=[↥a,some (.int (v:Nat)),↥bd,↥po,some (.int (p:Nat)),↥pl,some (.int (0+(i:Int))),some (.int (R:Nat)),~~~en4,↥nl,↥ml,↥d,↥pp,~~~num,↥ow,↥fa,U]) (bX H8 H') (ck H' fa (cY (names.take ⇑fs) f)/\ei (bW o) (X.map (gZ (bW o))) ⇑fs f),?_,?_⟩
  rotate_left
  .exists cC (λc=>?_) (λc=>?_)
   .exists cC (λc2=>?_) (λc2=>?_)
    .exists cm (bZ.of (s8 _ _ (D _ _ eb))) rfl ?_;exists⟨nl,d,names.take ⇑fs,Y,b4,rfl,C8.n.en,C8.ed,W,⋯,⋯,⋯,λj Z=>ag j ⋯,λb is H9 s9 e9 ne l5 jl=>?_⟩;exists⟨ud,?_⟩;walk_at"f fa hfa H10 s10 t10";ac_nf;exact⟨fa,.row is,rfl,s9.trans s10,⟨b,t10,s10 _ _ e9⟩,ne,⋯,λj Z=>by have:=jl j Z;lia⟩
    .ac_nf;exact⟨as,f0,rfl,bX.refl _,ab,O⟩
   .ac_nf;exact⟨as,f0,rfl,bX.refl _,ab,O⟩
  rintro S' H9 ⟨au,f1,rfl,s9,ac,a2⟩;have C9:=C8.same s9;have al:=D.trans (s8.trans s9);clear C8 C ab O s8 s9 D;exists⟨λS' H'=>iU λ(fa:Addr) (f:Fn) (g:Int)=>hQ (S'=[↥a,some (.int (v:Nat)),↥bd,↥po,some (.int (p:Nat)),↥pl,some (.int (0+(i:Int))),some (.int (R:Nat)),~~~en4,↥nl,↥ml,↥d,↥pp,~~~num,↥ow,↥fa,U]) (bX H9 H') (ck H' fa (cY (names.take ⇑fs) f)) (ei (bW o) (X.map (gZ (bW o))) ⇑fs f) (fK Y f g/\g<=b4),?_,?_⟩
  rotate_left
  .exists⟨au,d,f1,names.take ⇑fs,Y,bW o,X.map (gZ (bW o)),rfl,ac,C9.ed,W,⋯,by rw[tl];exact a2,λj Z=>by have:=ag j ⋯;lia,λg H10 s10 lg=>?_⟩;exists cm (bZ.of (s10 _ _ (al _ _ eb))) rfl ?_;exists cC (λc=>?_) (λc=>?_)
   .exists⟨ud,?_⟩;walk_at"f fa hfa H11 s11 t11";ac_nf;exact⟨fa,.hold 1,1,rfl,s10.trans s11,t11,⟨by decide,by decide⟩,rfl,an⟩
   .ac_nf;exact⟨au,f1,g,rfl,s10,ck.same s10 ac,a2,lg,⋯⟩
  rintro S' H10 ⟨fa,f,g,rfl,s10,hf,a8,lg,gb⟩;have n:=C9.same s10;have aA:=al.trans s10;clear C9 ac a2 s10 al;exists⟨.inl ⟨rfl,_,bZ.of n.n.em⟩,?_⟩;exists⟨fa,nl,ml,I,f,names.take ⇑fs,X,bW o,X.map (gZ (bW o)),rfl,hf,n.n.en,n.n.em,n.n.am,W,⋯,⋯,by rw[tl];exact a8,λks hk=>by have:=n.n.il.len hk;lia,λl ks H11 s11 hl el mv kl=>?_⟩;exists⟨ml,_,_,rfl,rfl,s11 _ _ n.n.em,by rw[vt];lia,?_⟩;generalize J:upd H11 ml _=H12;have aL:H12 ml=some (.lst ((I++[l]).map V.ref)):=by rw[vj];exact JT J
  have ax:∀c u,c≠ml->H11 c=some u->H12 c=some u:=λc u hc h=>J▸(jg hc).trans h
  clear J;have k2:∀c u,c≠ml->H10 c=some u->H12 c=some u:=λc u hc h=>ax c u hc (s11 _ _ h)
  have M:∀{c u},H10 c=some u->l≠c:=λh=>(je h hl).symm
  have ap:=ax _ _ (M n.n.em) el;have a5:d≠ml:=JG n.ed n.n.em (λz=>by cases z);have a6:d≠nl:=JG n.ed n.n.en (λz=>by cases z);have ah:d≠pp:=JG n.ed n.ep (λz=>by cases z);exists⟨p,9+i,by rw[show(9+(0+(i:Int)))=((9+i:Nat):Int) by lia];rfl,hp,⋯,?_⟩;exists⟨λS' H'=>S'=[↥a,some (.int (v:Nat)),↥bd,↥po,some (.int (p:Nat)),↥pl,some (.int (0+(i:Int))),some (.int (R:Nat)),~~~en4,↥nl,↥ml,↥d,↥pp,~~~num,↥ow,↥fa,some (.str (names.getD ⇑fs ⟨#[]⟩))]/\H12=H',?_,?_⟩
  rotate_left
  .have nk:=ng aW;rw[<-fl]at nk;exists cC (λc=>?_) (λc=>?_)
   .have ic:i=R:=⋯
    exists⟨_,_,rfl,.inl ⟨_,bZ.of (k2 _ _ S.lm n.l.el),rfl⟩,?_⟩;rw[vt,ay];ac_nf;rw[show(0+(i:Int))%(⇑o:Int)=((i%⇑o:Nat):Int) by rw[uz];exact(Int.natCast_emod _ _).symm];have jm:=Nat.mod_lt i (show 0<⇑o by lia);let⟨lk,aV,aQ⟩:=n.l.la.get (vz jm);have aa:H10 lk=some (.tup [.str (o[i%⇑o]).1,.int (o[i%⇑o]).2]):=aQ;refine cm (bZ.of (k2 _ _ S.lm n.l.el)) (jJ (j:=i%⇑o) (by rw[vv,aV];rfl)) ?_;exists cp (k2 _ _ (JG aa n.n.em λz=>by cases z) aa) ?_;exists⟨?_,rfl⟩;have ew:(o[i%⇑o]).1=iN p (i%⇑o):=by
     have h1:(bW o)[i%⇑o]?=some (o[i%⇑o]).1:=by unfold bW;rw[vv,vz jm];rfl
     rw[nm,CV jm]at h1;exact(vL h1).symm
    rw[nk,fl];unfold mW;rw[vd ic,ew]
   .exists⟨?_,rfl⟩;rw[nk,fl];unfold mW;rw[vc ⋯]
  rintro S' b5 ⟨rfl,rfl⟩;exists⟨.inl ⟨rfl,_,bZ.of (k2 _ _ S.nm n.n.en)⟩,?_⟩;exists⟨nl,_,_,rfl,rfl,k2 _ _ S.nm n.n.en,by rw[vt];lia,?_⟩;generalize J:upd H12 nl _=H13;have aM:H13 nl=some (.lst ((names.take (⇑fs+1)).map V.str)):=by
   rw[take_snoc (show names[⇑fs]?=some (names.getD ⇑fs ⟨#[]⟩) by rw[vy,vz ⋯];rfl),vj];exact JT J
  have ad:∀c u,c≠nl->H12 c=some u->H13 c=some u:=λc u hc h=>J▸(jg hc).trans h
  clear J;have b6:eW ((names.take (⇑fs+1)).map V.str) (0+(i:Int))=some (.str (names.getD ⇑fs ⟨#[]⟩)):=by
   rw[<-fl,uz];refine jJ ?_;rw[vv,ut ⋯,vy,vz ⋯];rfl
  have k3:∀c u,c≠ml->c≠nl->H10 c=some u->H13 c=some u:=λc u h1 h2 h=>ad c u h2 (k2 c u h1 h)
  exists⟨.inl ⟨rfl,_,bZ.of (k3 _ _ S.mp.symm S.np.symm n.ep)⟩,?_⟩;exists⟨ud,?_⟩;walk_at"f c hc H14 s14 t14";exists⟨pp,_,_,rfl,rfl,s14 _ _ (k3 _ _ S.mp.symm S.np.symm n.ep),by rw[vt];lia,?_⟩;generalize J:upd H14 pp _=H15;have aN:H15 pp=some (.lst ((N++[c]).map V.ref)):=by rw[vj];exact JT J
  have a0:∀c u,c≠pp->H14 c=some u->H15 c=some u:=λc u hc h=>J▸(jg hc).trans h
  clear J;have k4:∀c u,c≠ml->c≠nl->c≠pp->H10 c=some u->H15 c=some u:=λc u h1 h2 h3 h=>a0 c u h3 (s14 _ _ (k3 c u h1 h2 h))
  have kt:∀c xs,H10 c=some (.tup xs)->H15 c=some (.tup xs):=λc xs h=>k4 c _ (JG h n.n.em λz=>by cases z) (JG h n.n.en λz=>by cases z) (JG h n.ep λz=>by cases z) h
  have aY:c≠pp:=(je (k3 _ _ S.mp.symm S.np.symm n.ep) hc).symm;exists⟨fa,d,f,names.take ⇑fs,Y,bW o,X.map (gZ (bW o)),rfl,ck.keep kt hf,k4 _ _ a5 a6 ah n.ed,W,⋯,by rw[tl];exact a8,λj Z=>by have:=ag j ⋯;lia,λg' aD az aX=>?_⟩;obtain rfl:=lg.uniq aX;exists⟨d,_,rfl,g5.k (k:=Sum.inr (names.getD ⇑fs ⟨#[]⟩)) (az _ _ (k4 _ _ a5 a6 ah n.ed)) (by rw[XN ⋯];lia),?_⟩;have xn:names.getD ⇑fs ⟨#[]⟩∉names.take ⇑fs:=λz=>by
   let⟨j,Z,e⟩:=mem_iff_getElem.mp z;rw[getElem_take]at e;have jl:j<⇑fs:=by rw[tl]at Z;exact Z
   have e2:names[j]?=some (names.getD ⇑fs ⟨#[]⟩):=by rw[vz ⋯,e]
   have e3:names[⇑fs]?=some (names.getD ⇑fs ⟨#[]⟩):=by rw[vy,vz ⋯];rfl
   have:=JQ nd e2;have:=JQ nd e3;lia
  rw[XO ⋯ xn];generalize J:upd aD d _=H17;have aO:H17 d=some (.dK (iJ (names.take (⇑fs+1)) (Y++[g]))):=by
   rw[take_snoc (show names[⇑fs]?=some (names.getD ⇑fs ⟨#[]⟩) by rw[vy,vz ⋯];rfl)];exact JT J
  have L:∀c u,c≠d->H15 c=some u->H17 c=some u:=λc u hc h=>J▸(jg hc).trans (az _ _ h)
  clear J;have aC:=n.add (fa:=fa) (l:=l) (c:=c) (f:=f) (ks:=ks) (g:=g) (H':=H17) S (by rw[<-kP a8];exact hf) a8 mv lg gb ao ⋯ ⋯ nW (λx u h1 h2 h3 h4 h=>L _ _ h4 (k4 _ _ h1 h2 h3 h)) (L _ _ a5.symm (a0 _ _ S.mp (s14 _ _ (ad _ _ S.nm.symm aL)))) (L _ _ (M n.ed) (a0 _ _ (M n.ep) (s14 _ _ (ad _ _ (M n.n.en) ap)))) (L _ _ a6.symm (a0 _ _ S.np (s14 _ _ aM))) (L _ _ ah.symm aN) (L _ _ (JG t14 (s14 _ _ (k3 _ _ a5 a6 n.ed)) λz=>by cases z) (a0 _ _ aY t14)) aO;exact⟨_,_,_,_,_,N++[c],I++[l],fs++[f],X++[ks],Y++[g],rfl,λx u h=>L _ _ (je h aR) (k4 _ _ (je h aS) (je h aT) (je h aU) (aA _ _ h)),aC,S.add ⟨M n.n.en,M n.n.em,M n.ep⟩,by rw[vn,fl];rfl⟩
 rintro S' H7 ⟨o5,ai,aj,a7,U,N,I,fs,X,Y,rfl,D,C,S,fl⟩
 replace fl:⇑fs=v+1:=⋯
 have gl:=C.dk.gl;have tl:⇑(names.take ⇑fs)=⇑fs:=by rw[vi];lia
 have W:(names.take ⇑fs).Nodup:=nd.sublist (take_sublist _ _);exists⟨ud,?_⟩;walk_at"f b hbb H8 s8 t8";have C8:=C.same s8;exists cm (bZ.of C8.n.en) (ZG (j:=v) ⋯) ?_;have g:=dg.k (k:=Sum.inr ((names.take ⇑fs).getD v ⟨#[]⟩)) C8.ed;rw[Kt W ⋯ ⋯]at g;refine⟨d,_,rfl,g,?_⟩;exists⟨ud,?_⟩;walk_at"f r hr' H9 s9 t9";exact q r b pl pp B N names o fs _ Y H9 (D.trans (s8.trans s9)) (by rw[show ⇑fs-1=v by lia];exact t9) ((C8.book t8).same s9) C.dk (C.dk.sn C.fl nd af ⋯ ⋯ ⋯ lh) fl nL nd nW m1 ⋯ af lW S.lp C.gb
def X0(T:Txt K mg t)(j7:1<*t.qw t.qy ["_law_script","_law_k"] (Pr.dQ K))(jV:1<*t.qI t.qL ["_law_cell","_law_k"] (KP))(qB:1<*t.zy t.zC ["_law_place","_law_k"] (gr))(y9:2<*t.Yf t.Yh ["_law_number","_law_names","_law_movers","_law_limbs","_law_bounds"] (ir))(JJ:1<*t.QK t.QL ["_law_form_here","_law_known_here"] (fv))(Qk:1<*t.QU t.QW ["_law_form_here","_law_names","_law_movers"] (fF))(QJ:1<*t.zw t.zA ["_law_names","_law_known_here","_law_most"] (gn))(Q8:5<*t.za t.zd ["_law_script","_law_many","_law_bounds"] (fm K)):6<*t.Ye t.Yg ["_law_script","_law_many","_law_bounds"] (fm K):=by
 specialize T.wK.F.ok j6;let⟨a,bd,ns,y,b0,b1,b2,b3,b4,rfl,hS,a2,m2,aR,Bd,q⟩:=h;refine⟨_,(jb (Ja (jr Lf (jD Ww (by rfl) T.AJ Ax (ja (jh T.JI j7 hr (ja (pv 0) (ja jd jc))) jc)) (jo zh jd jd) (bY _))
   (jf (jx (jh T.Z1 Q8 hr (ja (pv 0) (ja (pv 1) (ja (pv 2) jc))))))
   jB)
  (jb (cz 3 j6.nd (jh T.JH jV hr (ja (jh T.JH jV hr (ja (jh T.JI j7 hr (ja (pv 0) (ja jd jc))) (ja jd jc))) (ja jd jc))))
  (jb (cz 4 j6.nd (jP jc))
  (jb (Jd PassesOwn.never rfl (QN (by rfl) T.zY (ja (jo jL jd (jo Je (jo Jf (pv 3) jd) jd)) jc)) (cN 5 j6.nd)
   (jb (cz 6 j6.nd (jo Je (jh T.JH jV hr (ja (pv 3) (ja (jo jL jd (pv 5)) jc))) (jk ju (pv 2) jd)))
   (jf (j5 (JP q4 q5 q7 jO (pv 4) (ja (jR (ja (jh T.zu qB hr (ja (jo Je (pv 3) jd) (ja (pv 5) jc))) (ja (pv 6) jc))) jc))))))
  (jb (cz 7 j6.nd (jP jc))
  (jb (cz 8 j6.nd (jP jc))
  (jb (cz 9 j6.nd Z6)
  (jb (cz 10 j6.nd (jP jc))
  (jb (Jd PassesOwn.never rfl (QN (by rfl) T.zY (ja (jo jL (pv 1) jd) jc)) (cN 5 j6.nd)
   (jb (cz 11 j6.nd (jh T.JH jV hr (ja (jh T.JH jV hr (ja (jh T.JI j7 hr (ja (pv 0) (ja (jo jL jd (pv 5)) jc))) (ja (jo jL jd (pv 5)) jc))) (ja (jo jL jd (pv 5)) jc))))
   (jb (cz 12 j6.nd (jh T.wL y9 hr (ja (pv 11) (ja (pv 7) (ja (pv 8) (ja (pv 4) (ja (pv 2) jc)))))))
   (jb (Qg (PW.pt (Q1 (jr Jr (pv 5) (pv 1) (bY _)) (QC (jr Jr (jo Je (jo Jf (pv 3) jd) jd) jd (bY _)))))
    (jf (cz 12 j6.nd (jR (ja jI (ja (jh T.yY QJ hr (ja (pv 7) (ja (pv 9) (ja (jk ju (pv 2) jd) jc)))) jc)))))
    jB)
   (jb (Qg (jr Zw (jh T.QI JJ hr (ja (pv 12) (ja (pv 9) jc))) (jk ju (pv 2) jd) (bY _))
    (jf (cz 12 j6.nd (jR (ja jI (ja jd jc)))))
    jB)
   (jb (j5 (JP q4 q5 q7 jO (pv 8) (ja (jh T.yc Qk hr (ja (pv 12) (ja (pv 7) (ja (pv 8) jc)))) jc)))
   (jb (cz 13 j6.nd (jh T.zu qB hr (ja (jo Je (pv 3) jd) (ja (jo jL jd (pv 5)) jc))))
   (jb (Qg (PW.pt (Q1 (jr Jr (pv 5) (jo Je (jo Jf (pv 3) jd) (jo jL (pv 1) jd)) (bY _)) (QC (jr Jr (jo Je (jo Jf (pv 3) jd) jd) jd (bY _)))))
    (jf (cz 13 j6.nd (jk jv (jk ju (pv 4) (jo Je (pv 5) (jD jX (by rfl) T.qg Jt (ja (pv 4) jc)))) jd)))
    jB)
   (jb (j5 (JP q4 q5 q7 jO (pv 7) (ja (pv 13) jc)))
   (jb (j5 (JP q4 q5 q7 jO (pv 10) (ja (jR (ja (jk ju (pv 7) (pv 5)) (ja (pv 12) jc))) jc)))
   (jf (yJ (qS hr) (pv 9) (jk ju (pv 7) (pv 5)) (jh T.QI JJ hr (ja (pv 12) (ja (pv 9) jc))) rfl))))))))))))
  (jf (jx (jR (ja (jR (ja (pv 4) (ja (pv 10) jc))) (ja (qj (qS hr) (pv 9) (jk ju (pv 7) (pv 1))) jc)))))))))))))),?_⟩
 rotate_right 311
 have au:=Bd;let⟨eb,ax,ay,az,aA,aB,aC,aD,aE,al,am⟩:=Bd;exists⟨a,ns,_,rfl,hS,a2,⋯,?_⟩;refine⟨_,rfl,?_⟩;exists cC (λc=>?_) (λc=>?_)
 .ac_nf;exact⟨a,bd,ns,y,b0,b1,b2,b3,b4,rfl,hS,a2,m2,aR,au,q⟩
 clear c;exists⟨a,ns,_,rfl,hS,a2,⋯,?_⟩;exists⟨_,_,rfl,⋯,⋯,?_⟩;exists⟨_,_,rfl,⋯,⋯,?_⟩;have hb:=zE (dn (Pr.cell ns 0) 0) 90;generalize dn (dn (Pr.cell ns 0) 0) 90=hd at hb|-;obtain⟨p,e3⟩:∃p:Nat,hd%3=(p:Int):=⟨(hd%3).toNat,⋯⟩
 have hp:p<3:=⋯
 exists⟨va _,?_⟩;walk_at"f pl hpl H1 s1 t1";exists⟨_,rfl,⋯,⋯,?_⟩;refine zg (λi σ H'=>gz λ(o5 o6:N3) (B:L7) (o:L4)=>pS (σ=[↥a,some (.int (y:Nat)),↥bd,~~~hd,↥pl,o5,o6,none,none,none,none,none,none,none]) (bX H H') (H' pl=some (.lst (B.map V.ref))) (cg (hU H') B o) (bW o=mX p i) (⇑o=i) (∀q∈o,0<=q.2/\q.2<=10^18)) ⟨_,_,[],[],rfl,s1,t1,.nil,rfl,rfl,(λq h=>nomatch h)⟩ ?_ ?_
 .rintro i σ H' hi ⟨o5,o6,B,o,rfl,D,Z,la,nm,ll,lh⟩;have i4:i<8:=⋯
  have ar:=la.1;exists⟨_,_,rfl,⋯,⋯,?_⟩;exists cm (bZ.of (D _ _ eb)) rfl ?_;ac_nf;have v0:=ve (dn hd (200+(0+(i:Int)))) (show b2≠0 by lia);have v1:=vf (dn hd (200+(0+(i:Int)))) (show 0<b2 by lia);generalize dn hd (200+(0+(i:Int)))%b2=v at v0 v1|-;refine⟨.inl ⟨rfl,_,bZ.of Z⟩,?_⟩;exists⟨p,i,by rw[e3,uz];rfl,hp,⋯,?_⟩;exists⟨ud,?_⟩;sleep 3;exists⟨pl,_,_,rfl,rfl,s3 _ _ Z,by rw[vt];lia,?_⟩;have kt:∀c xs,H3 c=some (.tup xs)->upd H3 pl (.lst (B.map V.ref++[.ref p3])) c=some (.tup xs):=λc xs h=>(jg (JG h (s3 _ _ Z) λz=>by cases z)).trans h
  refine⟨_,_,B++[p3],o++[(iN p i,v)],rfl,λc u h=>?_,by rw[jw,vj];rfl,(la.mono λc x h=>kt _ _ (s3 _ _ h)).snoc (kt _ _ t3),?_,by rw[vn,ll];rfl,λq hq=>?_⟩
  .refine(jg ?_).trans (s3 _ _ (D _ _ h));exact je h hpl
  .rw[Bs,<-nm];unfold bW;rw[vj];rfl
  .rcases vh.mp hq with z | z
   .exact lh q z
   .rw[vo.mp z];exact⟨v0,by show v<=10^18;lia⟩
 rintro S' H2 ⟨o5,o6,B,o,rfl,D,Z,la,nm,ll,lh⟩;have m1:1<=⇑o:=⋯
 have m4:⇑o<=8:=⋯
 replace nm:bW o=mX p ⇑o:=by rw[nm,ll]
 let⟨ac,lW⟩:=CW (m:=⇑o) hp ⋯;rw[<-nm]at ac lW;clear ll s1 t1 H1;have Ll:⇑(bW o)=⇑o:=vt _;have ar:=la.1;obtain⟨cc,aN⟩:∃cc:Nat,∀i:Nat,i<=y->(i=cc↔((i:Int)=hd/48%((y:Int)+1)/\hd/24%2=0)):=by
  have u0:=ve (hd/48) (show((y:Int)+1)≠0 by lia);have u1:=vf (hd/48) (show(0:Int)<(y:Int)+1 by lia);by_cases c:hd/24%2=0
  .exact⟨(hd/48%((y:Int)+1)).toNat,λi hi=>⋯⟩
  .exact⟨100,λi hi=>⋯⟩
 let⟨nd,nW⟩:=C2 (p:=p) (st:=9) (c:=cc) (m:=⇑o) hp m1 ⋯ ⋯;have ng:∀{k:Nat},k<17->(nJ p 9 cc ⇑o).getD k ⟨#[]⟩=iN p (mW 9 cc ⇑o k):=λh=>BY h
 have nL:=BZ (p:=p) (st:=9) (c:=cc) (m:=⇑o);generalize nJ p 9 cc ⇑o=names at nd nW ng nL;exists⟨va _,?_⟩;walk_at"f nl hnl H3 s3 t3";exists⟨va _,?_⟩;walk_at"f ml hml H4 s4 t4";ac_nf;walk_at"f d hd' H5 s5 t5";exists⟨va _,?_⟩;walk_at"f pp hpp H6 s6 t6";have ai:=s4.trans (s5.trans s6);have a6:=s3.trans ai;have BB:mT pl nl ml d pp B [] [] o names [] [] [] b4 H6:=by
  refine⟨⟨ai _ _ t3,s6 _ _ (s5 _ _ t4),.nil,(λks hk=>nomatch hk),rfl,va _,⋯,(λx hx=>nomatch hx),lW⟩,⟨a6 _ _ Z,la.mono λc x h=>a6 _ _ h,m1⟩,s6 _ _ t5,t6,.nil,⟨rfl,rfl,(λi f h=>by simp at h),λi h=>uf h (Nat.not_lt_zero i)⟩,λj Y=>uf Y (Nat.not_lt_zero j),va _⟩
 have SS:oT pl nl ml pp bd []:=⟨je Z hnl,je (s3 _ _ Z) hml,je (s5 _ _ (s4 _ _ (s3 _ _ Z))) hpp,je t3 hml,je (s5 _ _ (s4 _ _ t3)) hpp,je (s5 _ _ t4) hpp,je (D _ _ eb) hnl,je (s3 _ _ (D _ _ eb)) hml,je (s5 _ _ (s4 _ _ (s3 _ _ (D _ _ eb)))) hpp,(λx hx=>nomatch hx)⟩
 have aL:H nl=none:=none_of D hnl;have aK:H ml=none:=none_of (D.trans s3) hml;have aJ:H d=none:=none_of (D.trans (s3.trans s4)) hd';have aM:H pp=none:=none_of (D.trans (s3.trans (s4.trans s5))) hpp;have aT:=D.trans a6;clear a6 ai t3 t4 t5 t6 Z la D s3 s4 s5 s6 hnl hml hd' hpp;exists⟨_,rfl,⋯,⋯,?_⟩;refine zg (λi σ H'=>rW λ(o5 af ag a0:N3) (N I:L7) (fs:List Fn) (W:List L8) (X:L5)=>eD (σ=[↥a,some (.int (y:Nat)),↥bd,~~~hd,↥pl,o5,o6,↥nl,↥ml,↥d,↥pp,af,ag,a0]) (bX H H') (mT pl nl ml d pp B N I o names fs W X b4 H') (oT pl nl ml pp bd I/\⇑fs=i))
  ⟨_,_,_,_,[],[],[],[],[],rfl,aT,BB,SS,rfl⟩ ?_ ?_
 .rintro i σ H7 hi ⟨o5,af,ag,a0,N,I,fs,W,X,rfl,D,C,S,fl⟩;have aP:i<17:=⋯
  have tl:⇑(names.take ⇑fs)=⇑fs:=by rw[vi];lia
  have aW:⇑N=⇑fs:=C.pa.1.trans QM;have gl:=C.dk.gl;have Ml:⇑W=⇑fs:=by have:=C.n.ml;lia
  have aV:⇑I=⇑fs:=by have:=C.n.am.1;lia
  have U:(names.take ⇑fs).Nodup:=nd.sublist (take_sublist _ _);have ad:∀j,j<⇑fs->1<=X∘j/\X∘j<=b4:=λj Y=>⟨(C.dk.g j Y).1,C.gb j Y⟩
  exists⟨a,ns,_,rfl,D.seq hS,a2,⋯,?_⟩;exists⟨_,_,rfl,⋯,⋯,?_⟩;exists⟨_,_,rfl,⋯,⋯,?_⟩;have nb:=zE (dn (Pr.cell ns (1+(0+(i:Int)))) (1+(0+(i:Int)))) (91+(0+(i:Int)));generalize dn (dn (Pr.cell ns (1+(0+(i:Int)))) (1+(0+(i:Int)))) (91+(0+(i:Int)))=num at nb|-;exists⟨num,nl,ml,pl,bd,I,B,o,names.take ⇑fs,W,b0,b1,b2,b3,b4,rfl,C.n,C.l,⟨D _ _ eb,ax,ay,az,aA,aB,aC,aD,aE,al,am⟩,⋯,⋯,λao f0 H8 s8 a9 O=>?_⟩;rw[tl]at O;have C8:=C.same s8;exists⟨λS' H'=>gw λ(fa:Addr) (f:Fn)=>m9 (S'=[↥a,some (.int (y:Nat)),↥bd,~~~hd,↥pl,some (.int (0+(i:Int))),o6,↥nl,↥ml,↥d,↥pp,~~~num,↥fa,a0]) (bX H8 H') (ck H' fa (cY (names.take ⇑fs) f)/\ei (bW o) (W.map (gZ (bW o))) ⇑fs f),?_,?_⟩
  rotate_left
  .exists cC (λc=>?_) (λc=>?_)
   .exists cC (λc2=>?_) (λc2=>?_)
    .exists cm (bZ.of (s8 _ _ (D _ _ eb))) rfl ?_;exists⟨nl,d,names.take ⇑fs,X,b4,rfl,C8.n.en,C8.ed,U,⋯,⋯,⋯,λj Y=>ad j ⋯,λb is H9 s9 e9 ne l5 jl=>?_⟩;exists⟨ud,?_⟩;walk_at"f fa hfa H10 s10 t10";ac_nf;exact⟨fa,.row is,rfl,s9.trans s10,⟨b,t10,s10 _ _ e9⟩,ne,⋯,λj Y=>by have:=jl j Y;lia⟩
    .ac_nf;exact⟨ao,f0,rfl,bX.refl _,a9,O⟩
   .ac_nf;exact⟨ao,f0,rfl,bX.refl _,a9,O⟩
  rintro S' H9 ⟨ap,f1,rfl,s9,aa,a1⟩;have C9:=C8.same s9;have aj:=D.trans (s8.trans s9);clear C8 C a9 O s8 s9 D;exists⟨λS' H'=>iU λ(fa:Addr) (f:Fn) (g:Int)=>hQ (S'=[↥a,some (.int (y:Nat)),↥bd,~~~hd,↥pl,some (.int (0+(i:Int))),o6,↥nl,↥ml,↥d,↥pp,~~~num,↥fa,a0]) (bX H9 H') (ck H' fa (cY (names.take ⇑fs) f)) (ei (bW o) (W.map (gZ (bW o))) ⇑fs f) (fK X f g/\g<=b4),?_,?_⟩
  rotate_left
  .exists⟨ap,d,f1,names.take ⇑fs,X,bW o,W.map (gZ (bW o)),rfl,aa,C9.ed,U,⋯,by rw[tl];exact a1,λj Y=>by have:=ad j ⋯;lia,λg H10 s10 lg=>?_⟩;exists cm (bZ.of (s10 _ _ (aj _ _ eb))) rfl ?_;exists cC (λc=>?_) (λc=>?_)
   .exists⟨ud,?_⟩;walk_at"f fa hfa H11 s11 t11";ac_nf;exact⟨fa,.hold 1,1,rfl,s10.trans s11,t11,⟨by decide,by decide⟩,rfl,al⟩
   .ac_nf;exact⟨ap,f1,g,rfl,s10,ck.same s10 aa,a1,lg,⋯⟩
  rintro S' H10 ⟨fa,f,g,rfl,s10,hf,a5,lg,gb⟩;have n:=C9.same s10;have as:=aj.trans s10;clear C9 aa a1 s10 aj;exists⟨.inl ⟨rfl,_,bZ.of n.n.em⟩,?_⟩;exists⟨fa,nl,ml,I,f,names.take ⇑fs,W,bW o,W.map (gZ (bW o)),rfl,hf,n.n.en,n.n.em,n.n.am,U,⋯,⋯,by rw[tl];exact a5,λks hk=>by have:=n.n.il.len hk;lia,λl ks H11 s11 hl Z mv kl=>?_⟩;exists⟨ml,_,_,rfl,rfl,s11 _ _ n.n.em,by rw[vt];lia,?_⟩;generalize J:upd H11 ml _=H12;have aF:H12 ml=some (.lst ((I++[l]).map V.ref)):=by rw[vj];exact JT J
  have aq:∀c u,c≠ml->H11 c=some u->H12 c=some u:=λc u hc h=>J▸(jg hc).trans h
  clear J;have k2:∀c u,c≠ml->H10 c=some u->H12 c=some u:=λc u hc h=>aq c u hc (s11 _ _ h)
  have M:∀{c u},H10 c=some u->l≠c:=λh=>(je h hl).symm
  have an:=aq _ _ (M n.n.em) Z;have a3:d≠ml:=JG n.ed n.n.em (λz=>by cases z);have a4:d≠nl:=JG n.ed n.n.en (λz=>by cases z);have ae:d≠pp:=JG n.ed n.ep (λz=>by cases z);exists⟨p,9+i,by rw[e3,show(9+(0+(i:Int)))=((9+i:Nat):Int) by lia];rfl,hp,⋯,?_⟩;exists⟨λS' H'=>S'=[↥a,some (.int (y:Nat)),↥bd,~~~hd,↥pl,some (.int (0+(i:Int))),o6,↥nl,↥ml,↥d,↥pp,~~~num,↥fa,some (.str (names.getD ⇑fs ⟨#[]⟩))]/\H12=H',?_,?_⟩
  rotate_left
  .have hz:=aN i ⋯;have nk:=ng aP;rw[<-fl]at nk;exists cC (λc=>?_) (λc=>?_)
   .exists cC (λc2=>?_) (λc2=>?_)
    .have ic:i=cc:=hz.mpr ⟨⋯,c2⟩;exists⟨_,_,rfl,.inl ⟨_,bZ.of (k2 _ _ S.lm n.l.el),rfl⟩,?_⟩;rw[vt,ar];ac_nf;rw[show(0+(i:Int))%(⇑o:Int)=((i%⇑o:Nat):Int) by rw[uz];exact(Int.natCast_emod _ _).symm];have jm:=Nat.mod_lt i (show 0<⇑o by lia);let⟨lk,aO,aI⟩:=n.l.la.get (vz jm);have a7:H10 lk=some (.tup [.str (o[i%⇑o]).1,.int (o[i%⇑o]).2]):=aI;refine cm (bZ.of (k2 _ _ S.lm n.l.el)) (jJ (j:=i%⇑o) (by rw[vv,aO];rfl)) ?_;exists cp (k2 _ _ (JG a7 n.n.em λz=>by cases z) a7) ?_;exists⟨?_,rfl⟩;have ew:(o[i%⇑o]).1=iN p (i%⇑o):=by
      have h1:(bW o)[i%⇑o]?=some (o[i%⇑o]).1:=by unfold bW;rw[vv,vz jm];rfl
      rw[nm,CV jm]at h1;exact(vL h1).symm
     rw[nk,fl];unfold mW;rw[vd ic,ew]
    .exists⟨?_,rfl⟩;rw[nk,fl];unfold mW;rw[vc (λz=>c2 (hz.mp z).2)]
   .exists⟨?_,rfl⟩;rw[nk,fl];unfold mW;rw[vc (λz=>c (by have:=(hz.mp z).1;lia))]
  rintro S' aU ⟨rfl,rfl⟩;exists⟨.inl ⟨rfl,_,bZ.of (k2 _ _ S.nm n.n.en)⟩,?_⟩;exists⟨nl,_,_,rfl,rfl,k2 _ _ S.nm n.n.en,by rw[vt];lia,?_⟩;generalize J:upd H12 nl _=H13;have a8:H13 nl=some (.lst ((names.take (⇑fs+1)).map V.str)):=by
   rw[take_snoc (show names[⇑fs]?=some (names.getD ⇑fs ⟨#[]⟩) by rw[vy,vz ⋯];rfl),vj];exact JT J
  have ab:∀c u,c≠nl->H12 c=some u->H13 c=some u:=λc u hc h=>J▸(jg hc).trans h
  clear J;have ak:eW ((names.take (⇑fs+1)).map V.str) (0+(i:Int))=some (.str (names.getD ⇑fs ⟨#[]⟩)):=by
   rw[<-fl,uz];refine jJ ?_;rw[vv,ut ⋯,vy,vz ⋯];rfl
  have k3:∀c u,c≠ml->c≠nl->H10 c=some u->H13 c=some u:=λc u h1 h2 h=>ab c u h2 (k2 c u h1 h)
  exists⟨.inl ⟨rfl,_,bZ.of (k3 _ _ S.mp.symm S.np.symm n.ep)⟩,?_⟩;exists cm (bZ.of a8) (ak) ?_;exists⟨ud,?_⟩;walk_at"f c hc H14 s14 t14";exists⟨pp,_,_,rfl,rfl,s14 _ _ (k3 _ _ S.mp.symm S.np.symm n.ep),by rw[vt];lia,?_⟩;generalize J:upd H14 pp _=H15;have aG:H15 pp=some (.lst ((N++[c]).map V.ref)):=by rw[vj];exact JT J
  have R:∀c u,c≠pp->H14 c=some u->H15 c=some u:=λc u hc h=>J▸(jg hc).trans h
  clear J;have k4:∀c u,c≠ml->c≠nl->c≠pp->H10 c=some u->H15 c=some u:=λc u h1 h2 h3 h=>R c u h3 (s14 _ _ (k3 c u h1 h2 h))
  have kt:∀c xs,H10 c=some (.tup xs)->H15 c=some (.tup xs):=λc xs h=>k4 c _ (JG h n.n.em λz=>by cases z) (JG h n.n.en λz=>by cases z) (JG h n.ep λz=>by cases z) h
  have aS:c≠pp:=(je (k3 _ _ S.mp.symm S.np.symm n.ep) hc).symm;exists⟨fa,d,f,names.take ⇑fs,X,bW o,W.map (gZ (bW o)),rfl,ck.keep kt hf,k4 _ _ a3 a4 ae n.ed,U,⋯,by rw[tl];exact a5,λj Y=>by have:=ad j ⋯;lia,λg' aw ah aQ=>?_⟩;obtain rfl:=lg.uniq aQ;exists cm (bZ.of (ah _ _ (R _ _ S.np (s14 _ _ a8)))) (ak) ?_;refine⟨d,_,rfl,g5.k (k:=Sum.inr (names.getD ⇑fs ⟨#[]⟩)) (ah _ _ (k4 _ _ a3 a4 ae n.ed)) (by rw[XN ⋯];lia),?_⟩;have xn:names.getD ⇑fs ⟨#[]⟩∉names.take ⇑fs:=λz=>by
   let⟨j,Y,e⟩:=mem_iff_getElem.mp z;rw[getElem_take]at e;have jl:j<⇑fs:=by rw[tl]at Y;exact Y
   have e2:names[j]?=some (names.getD ⇑fs ⟨#[]⟩):=by rw[vz ⋯,e]
   have e3:names[⇑fs]?=some (names.getD ⇑fs ⟨#[]⟩):=by rw[vy,vz ⋯];rfl
   have:=JQ nd e2;have:=JQ nd e3;lia
  rw[XO ⋯ xn];generalize J:upd aw d _=H17;have aH:H17 d=some (.dK (iJ (names.take (⇑fs+1)) (X++[g]))):=by
   rw[take_snoc (show names[⇑fs]?=some (names.getD ⇑fs ⟨#[]⟩) by rw[vy,vz ⋯];rfl)];exact JT J
  have L:∀c u,c≠d->H15 c=some u->H17 c=some u:=λc u hc h=>J▸(jg hc).trans (ah _ _ h)
  clear J;have av:=n.add (fa:=fa) (l:=l) (c:=c) (f:=f) (ks:=ks) (g:=g) (H':=H17) S (by rw[<-kP a5];exact hf) a5 mv lg gb am ⋯ ⋯ nW (λx u h1 h2 h3 h4 h=>L _ _ h4 (k4 _ _ h1 h2 h3 h)) (L _ _ a3.symm (R _ _ S.mp (s14 _ _ (ab _ _ S.nm.symm aF)))) (L _ _ (M n.ed) (R _ _ (M n.ep) (s14 _ _ (ab _ _ (M n.n.en) an)))) (L _ _ a4.symm (R _ _ S.np (s14 _ _ a8))) (L _ _ ae.symm aG) (L _ _ (JG t14 (s14 _ _ (k3 _ _ a3 a4 n.ed)) λz=>by cases z) (R _ _ aS t14)) aH;exact⟨_,_,_,_,N++[c],I++[l],fs++[f],W++[ks],X++[g],rfl,λx u h=>L _ _ (je h aJ) (k4 _ _ (je h aK) (je h aL) (je h aM) (as _ _ h)),av,S.add ⟨M n.n.en,M n.n.em,M n.ep⟩,by rw[vn,fl];rfl⟩
 rintro S' H7 ⟨o5,af,ag,a0,N,I,fs,W,X,rfl,D,C,S,fl⟩
 replace fl:⇑fs=y+1:=⋯
 have gl:=C.dk.gl;have tl:⇑(names.take ⇑fs)=⇑fs:=by rw[vi];lia
 have U:(names.take ⇑fs).Nodup:=nd.sublist (take_sublist _ _);exists⟨ud,?_⟩;walk_at"f b hbb H8 s8 t8";have C8:=C.same s8;exists cm (bZ.of C8.n.en) (ZG (j:=y) ⋯) ?_;have g:=dg.k (k:=Sum.inr ((names.take ⇑fs).getD y ⟨#[]⟩)) C8.ed;rw[Kt U ⋯ ⋯]at g;refine⟨d,_,rfl,g,?_⟩;exists⟨ud,?_⟩;walk_at"f r hr' H9 s9 t9";exact q r b pl pp B N names o fs _ X H9 (D.trans (s8.trans s9)) (by rw[show ⇑fs-1=y by lia];exact t9) ((C8.book t8).same s9) C.dk (C.dk.sn C.fl nd ac ⋯ ⋯ ⋯ lh) fl nL nd nW m1 ⋯ ac lW S.lp C.gb
def W8(T:Txt K mg t)(Y:1<*t.QK t.QL ["_law_form_here","_law_known_here"] (fv)):2<*t.yu t.yD ["_law_book_here"] (gM):=by
 specialize T.kW.F.ok zq;let⟨b,pl,pp,a2,x,ls,a,fs,M,l,rfl,B,q⟩:=h;refine⟨_,(jb (cz 1 zq.nd Z6)
  (jb (Jd PassesOwn.never rfl (jQ (jk jv (pv 0) jd)) (J1 rfl (jA (cN 2 zq.nd) (jA (cN 3 zq.nd) Jw)))
   (jf (yJ (qS hr) (pv 1) (pv 2) (jh T.QI Y hr (ja (pv 3) (ja (pv 1) jc))) rfl)))
  (jf (jx (pv 1))))),?_⟩
 rotate_right 103
 have S:⇑x=⇑fs:=B.bk.pa.1.trans QM;have gl:=B.d.gl;have fn:=B.fn;have a0:=B.qd;ac_nf;walk_at"f d hd H1 s1 t1";have R:∀{c u},H c=some u->c≠d:=λh=>je h hd
 exists cp (s1 _ _ B.bk.t) ?_;refine⟨pp,rfl,⟨_,bZ.of (s1 _ _ B.bk.p)⟩,?_⟩;refine Ji (xs:=x.map V.ref) (λi I o=>gw λ(C D:N3)=>d0 (I=[↥b,↥d,C,D]) (bX H o/\o d=some (.dK (iJ (a.take i) (l.take i))))) ⟨_,_,rfl,s1,t1⟩ ?_ ?_ ?_
 .rintro i I o _ ⟨C,D,rfl,n,p⟩;exact bZ.of (n _ _ B.bk.p)
 .rintro i v I o hv ⟨C,D,rfl,n,p⟩;let⟨c,pt,rfl,O,fb,N,hf⟩:=B.bk.pa.cF hv;let⟨f,r,rfl⟩:=qW O;have il:=(vx.mp r).1;let⟨m,mv,ln⟩:=B.d.f i f r;have X:⇑(a.take i)=i:=by rw[vi];lia
  have a1:⇑(l.take i)=i:=by rw[vi];lia
  have L:∀j,j<i->(l.take i).getD j 0=l∘j:=λj y=>by rw[vy,vy,ut y]
  refine Qh (cU.of (n _ _ N)) ?_;exists⟨fb,d,f,a.take i,l.take i,bW ls,M,rfl,ck.same n (by rw[kP m];exact hf),p,B.nd.sublist (take_sublist _ _),⋯,by rw[X];exact m,λj y=>by rw[L j ⋯];exact B.d.g j ⋯,λg H2 W lg=>?_⟩;have J:g=l∘i:=lg.uniq (ln.tk m.js.2);subst J;exists⟨d,_,rfl,g5.k (k:=Sum.inr (a.getD i ⟨#[]⟩)) (W _ _ p) (by rw[XN ⋯];lia),?_⟩;have U:a[i]?=some (a.getD i ⟨#[]⟩):=by rw[vy,vz ⋯];rfl
  have J:l[i]?=some (l∘i):=by rw[vy,vz ⋯];rfl
  have xn:a.getD i ⟨#[]⟩∉a.take i:=λz=>by
   let⟨j,y,e⟩:=mem_iff_getElem.mp z;rw[getElem_take]at e;rw[X]at y;have Z:a[j]?=some (a.getD i ⟨#[]⟩):=by rw[vz ⋯,e]
   have:=JQ B.nd Z;have:=JQ B.nd U;lia
  rw[XO ⋯ xn];refine⟨_,_,rfl,λc u h=>(jg (R h)).trans (W _ _ (n _ _ h)),?_⟩;rw[jw,take_snoc U,take_snoc J]
 .rintro I o ⟨C,D,rfl,n,p⟩;rw[vt,S,show l.take ⇑fs=l by rw[<-gl,v3]]at p;ac_nf;exact q d o n p
def xf(T:Txt K mg t)(yg:2<*t.yu t.yD ["_law_book_here"] (gM)):3<*t.yv t.yE ["_law_book_here","_law_number"] (gS):=by
 specialize T.kY.F.ok Jc;let⟨b,pl,pp,ai,R,ls,e,fs,M,r,n0,rfl,B,n1,n2,q⟩:=h;refine⟨_,(jb (cz 2 Jc.nd (qz (Ew rfl) (by rfl) T.Xu Wd (ja (jk jv (pv 0) jd) jc)))
  (jb (jq (i:=3) Jc.nd rfl (.inr rfl) (jh T.kW yg hr (ja (pv 0) jc)))
  (jb (cz 4 Jc.nd (jk jv (jk ju (jk jv (pv 0) jd) (Yo ZA jd)) jd))
  (jb (cz 5 Jc.nd jd)
  (jb (cz 6 Jc.nd (jP jc))
  (jb (Yq PassesOwn.never (jr Xc (jk jv (qj (qS hr) (pv 2) (pv 4)) jd) (jR (ja jI (ja jI (ja jI jc)))) (by with_unfolding_all rfl))
   (jb (cz 7 Jc.nd (qj (qS hr) (pv 2) (pv 4)))
   (jb (Qg (jr Jr (jk jv (pv 7) jd) jI (bY _))
    (jb (cz 5 Jc.nd (jo jL (pv 5) (jo Js (jo Je (pv 1) (jk jv (pv 7) jd)) (qj (qS hr) (pv 3) (jk jv (pv 7) jd)))))
    (jf (cz 4 Jc.nd (jk jv (pv 7) jd))))
    (jb (cz 8 Jc.nd (jo Je (pv 1) (jD jX (by rfl) T.qg Jt (ja (jk jv (pv 7) jd) jc))))
    (jb (Qg (jr Jr (jk jv (pv 7) jd) jI (bY _))
     (jf (cz 5 Jc.nd (jo jL (pv 5) (jD (YQ rfl) (by rfl) T.uC Xy (ja (JR (ow:=["_law_one"]) (ci:=[3]) rfl (cj.of (bV Q4) ["_law_book_here","_law_number","_law_forms","_law_known_here","_law_name","_law_base","_law_found","_law_form_here","_law_at"] rfl rfl ∅) (qi nofun) (uk (zF AE (jk jv (pv 7) jd) ZO (Zg (pv 8)))) (λ_ _ _ _ _=>⟨(cN 0 (Jy ["_law_book_here","_law_number","_law_forms","_law_known_here","_law_name","_law_base","_law_found","_law_form_here","_law_at"] rfl ∅)),Qu,(qj (qS hr) (pv 1) (pv 0))⟩)) jc)))))
     jB)
    (jf (cz 4 Jc.nd (jk jv (jk jv (pv 7) jd) (pv 8)))))))
   (jb (cz 1 Jc.nd (jo Je (jo Js (pv 1) jd) (jo jL (jo zh jd jd) jd)))
   (jf (j5 (JP q4 q5 q7 jO (pv 6) (ja (pv 5) jc))))))))
  (jb (j5 (JP q4 q5 q7 jO (pv 6) (ja (jo jL (pv 5) (qj (qS hr) (pv 3) (pv 4))) jc)))
  (jf (jx (JR (ow:=["_law_beat"]) (ci:=[]) rfl (cj.of (bV Q4) ["_law_book_here","_law_number","_law_forms","_law_known_here","_law_name","_law_base","_law_found","_law_form_here","_law_at"] rfl rfl ∅) (qi nofun) (jQ (pv 6)) (λ_ _ _ _ _=>⟨(cN 0 (Jy ["_law_book_here","_law_number","_law_forms","_law_known_here","_law_name","_law_base","_law_found","_law_form_here","_law_at"] rfl ∅)),(wD (jr Zw (pv 0) jd (bY _))),(pv 0)⟩))))))))))),?_⟩
 rotate_right 207
 have a7:⇑R=⇑fs:=B.bk.pa.1.trans QM;have gl:=B.d.gl;have fn:=B.fn;have al:=B.qd;have f1:=B.f1;let⟨g,hg⟩:=B.forms;have tl:⇑(e.take ⇑fs)=⇑fs:=by rw[vi];lia
 have aj:(e.take ⇑fs).Nodup:=B.nd.sublist (take_sublist _ _);have tg:∀j,j<⇑fs->(e.take ⇑fs).getD j ⟨#[]⟩=e.getD j ⟨#[]⟩:=λj Z=>by rw[vy,vy,ut Z]
 have W:∀j,j<⇑fs->fs[j]?=some (fs.getD j (.hold 0)):=λj Z=>by rw[vy,vz Z];rfl
 exists cp B.bk.t ?_;refine⟨pp,R,rf e g ⇑fs,rfl,B.bk.p,by unfold rf;rw[vt,length_range];exact a7,λi a q' h1 h2=>?_,?_⟩
 .have il:i<⇑fs:=by have:=(vx.mp h1).1;lia
  rw[C7 il]at h2;cases h2;exact(hg i _ (W i il)).1 a h1
 walk_at"f fd hfd H1 s1 t1";exists⟨b,pl,pp,ai,R,ls,e,fs,M,r,rfl,B.same s1,λd H2 s2 ed=>?_⟩;have N:=s1.trans s2;have B2:=B.same N;exists cp B2.bk.t ?_;ac_nf;obtain⟨la,a4⟩:∃la,R[⇑fs-1]?=some la:=⟨_,vz ⋯⟩
 have ad:=(hg _ _ (W (⇑fs-1) ⋯)).1 la a4;refine cm (bZ.of B2.bk.p) (C5 (n:=⇑fs) f1 (by rw[vt];exact a7) (by rw[vv,a4];rfl)) ?_;exists cp (N _ _ ad) ?_;exists⟨va _,?_⟩;walk_at"f pf hpf H3 s3 t3";have gF:∀(h:Hp) j,h fd=some (.dK (cS [] ((rf e g ⇑fs).map rS)))->j<⇑fs->dg h fd (.str (e.getD j ⟨#[]⟩)) (some (.ref (g j))):=λh j eh Z=>by
  have z:=dg.k (k:=Sum.inr (e.getD j ⟨#[]⟩)) eh;rw[HC B.nd fn Z]at z;exact z
 have gK:∀(h:Hp) j,h d=some (.dK (iJ (e.take ⇑fs) r))->j<⇑fs->dg h d (.str (e.getD j ⟨#[]⟩)) (some (.int (r∘j))):=λh j eh Z=>by
  have z:=dg.k (k:=Sum.inr ((e.take ⇑fs).getD j ⟨#[]⟩)) eh;rw[Kt aj ⋯ ⋯,tg j Z]at z;exact z
 have np:∀{c u},H2 c=some u->c≠pf:=λh=>je h hpf
 exists⟨λm σ C=>mu λ(j:Nat) (base o:Int) (xs:L5) (o7 o8:N3)=>m6 (σ=[↥b,~~~o,↥fd,↥d,some (.str (e.getD j ⟨#[]⟩)),~~~base,↥pf,o7,o8]) (∀c u,c≠pf->H2 c=some u->C c=some u) (C pf=some (.lst (xs.map V.int))) (j<⇑fs) (0<=base) (base+r∘j<=r∘(⇑fs-1)) (0<=o) (o<=10^70) (⇑xs+j<⇑fs) ((∀x∈xs,0<=x/\x<=r∘(⇑fs-1))/\j=m),
  ⟨_,⇑fs-1,0,n0,[],_,_,rfl,λc u _ h=>s3 _ _ h,t3,⋯,vA _,⋯,n1,n2,by show 0+_<_;lia,(λx h=>nomatch h),rfl⟩,?_⟩
 rintro m σ H4 ⟨j,base,o,xs,o7,o8,rfl,k4,e4,jl,ab,ak,ap,aq,xl,xb,rfl⟩;have ah:bX H H4:=λc u h=>k4 _ _ (np (N _ _ h)) (N _ _ h)
 have a2:=k4 _ _ (np (s2 _ _ t1)) (s2 _ _ t1);have U:=k4 _ _ (np ed) ed;have Y:=W j jl;let⟨S,mv,ln⟩:=B.d.f j _ Y;have hF:=ck.same ah (hg j _ Y).2;have gj:=B.d.g j jl;generalize fs.getD j (.hold 0)=f at Y S mv ln hF;let⟨ft,ac,a8⟩:=Fx hF;exists⟨fd,_,rfl,gF H4 j a2 jl,?_⟩;exists iI (cU.of ac) (a8) ?_;exists⟨uc,?_⟩;sleep 5;refine⟨p5,_,rfl,.inr (cU.of t5),rfl,j0 ["row","side","again"],?_⟩;rw[I7];refine⟨_,rfl,?_⟩;have e5:=s5 _ _ e4;have X:=ck.same s5 hF;have k5:∀c u,c≠pf->H2 c=some u->H5 c=some u:=λc u n h=>s5 _ _ (k4 c u n h)
 cases er:tq f with
 | false=>
  refine iZ ?_;exists⟨.inl ⟨rfl,_,bZ.of e5⟩,?_⟩;exists⟨d,_,rfl,gK H5 j (s5 _ _ U) jl,?_⟩;exists⟨pf,_,_,rfl,rfl,e5,by rw[vt];lia,?_⟩;generalize eG:upd H5 pf _=H6;have e6:H6 pf=some (.lst ((xs++[base+r∘j]).map V.int)):=by rw[vj];exact JT eG
  have k6:∀c u,c≠pf->H2 c=some u->H6 c=some u:=λc u n h=>eG▸(jg n).trans (k5 c u n h)
  clear eG;exists⟨pf,rfl,⟨_,bZ.of e6⟩,?_⟩;generalize eY:xs++[base+r∘j]=O at e6;have yl:⇑O<=20:=by rw[<-eY,vn];show _+1<=20;lia
  have yb:∀y∈O,0<=y/\y<=r∘(⇑fs-1):=λy hy=>by
   rw[<-eY]at hy;rcases vh.mp hy with z | z
   .exact xb y z
   .rw[vo.mp z];lia
  clear eY;refine JA (xs:=O.map V.int) (λi zs C=>zs=((O.take i).filter λy=>decide (0<y)).map V.int/\H6=C) ⟨rfl,rfl⟩ ?_ ?_ ?_
  .rintro i zs C _ ⟨rfl,rfl⟩;exact bZ.of e6
  .rintro i v zs C hv ⟨rfl,rfl⟩;rw[vv]at hv;let⟨y,hy,rfl⟩:=vg.mp hv;have iy:=(vx.mp hy).1;refine qb (S':=[none]) rfl ?_;ac_nf;rw[take_snoc hy,filter_append];have lf:⇑((O.take i).filter λy=>decide (0<y))<=20:=vV (length_filter_le _ _) (by rw[vi];lia);refine cC (λc=>?_) (λc=>?_)
   .exists⟨by rw[vt];lia,?_,rfl⟩;rw[vj,v6,vd (vG c),filter_nil];rfl
   .refine⟨?_,rfl⟩;rw[v6,vc (by rw[vH c];exact vF),filter_nil,append_nil]
  rintro zs C ⟨rfl,rfl⟩;rw[show(O.map V.int).length=⇑O from vt _,v3];have lf:⇑(O.filter λy=>decide (0<y))<=20:=vV (length_filter_le _ _) yl;refine⟨by rw[vt];lia,?_⟩;walk_at"f l hl H7 s7 t7";exists q l _ H7 (λc u h=>s7 _ _ (k6 _ _ (np (N _ _ h)) (N _ _ h))) t7 ⋯ λy hy=>?_
  let⟨z1,z2⟩:=vO.mp hy;have:=yb y z1;have:=of_decide_eq_true z2;lia
 | true=>
  refine dP ?_;refine⟨λσ C=>mu λ(J:Nat) (base o:Int) (xs:L5) (o7 o8:N3)=>m6 (σ=[↥b,~~~o,↥fd,↥d,some (.str (e.getD J ⟨#[]⟩)),~~~base,↥pf,o7,o8]) (∀c u,c≠pf->H2 c=some u->C c=some u) (C pf=some (.lst (xs.map V.int))) (J<⇑fs) (0<=base) (base+r∘J<=r∘(⇑fs-1)) (0<=o) (o<=10^70) (⇑xs+J<⇑fs) ((∀x∈xs,0<=x/\x<=r∘(⇑fs-1))/\J<j),
   (by rintro S' C ⟨J,base,o,xs,o7,o8,h1,h2,h3,h4,h5,h6,h7,h8,h9,ae,af⟩;exact⟨_,af,J,base,o,xs,o7,o8,h1,h2,h3,h4,h5,h6,h7,h8,h9,ae,rfl⟩),?_⟩
  exists⟨fd,_,rfl,gF H5 j (s5 _ _ a2) jl,?_⟩;exists⟨λS' C=>iU λ(J:Nat) (p:Int) (a6:N3)=>eD (S'=[↥b,~~~o,↥fd,↥d,some (.str (e.getD J ⟨#[]⟩)),~~~p,↥pf,some (.ref (g j)),a6]) (bX H5 C) (J<j) (0<=p/\p+r∘J<=r∘(⇑fs-1)),?_,?_⟩
  rotate_left
  .cases f with
   | hold _=>cases er
   | ring _ _=>cases er
   | rise _ _ _=>cases er
   | again k D=>
    have I:H5 (g j)=some (.tup _):=X;let⟨p1,p2,p3⟩:=S;have ln:r∘j=k*r∘D:=ln;have an:=B.d.g D ⋯;have r0:=ve o (show k≠0 by lia);have r1:=vf o (show 0<k by lia);exists cp I ?_;exists df ?_;exists cp I ?_;exists cp I ?_;refine⟨d,_,rfl,gK H5 D (s5 _ _ U) ⋯,?_⟩;exists cp I ?_;ac_nf;have m1:=vM r0 (show 0<=r∘D by lia);have m2:(o%k+1)*r∘D<=k*r∘D:=vT ⋯ ⋯;rw[uv,uw]at m2;exact⟨D,_,_,rfl,bX.refl _,p3,⋯,⋯⟩
   | row is=>
    let⟨bb,I,hb⟩:=X;let⟨p1,p2,p3⟩:=S;have il:1<=⇑is:=length_pos_iff.mpr p1;have ln:r∘j=(is.map λj=>r∘j).sum:=ln;have r0:=ve o (show(⇑is:Int)≠0 by lia);have r1:=vf o (show(0:Int)<(⇑is:Int) by lia);exists cp I ?_;exists cw ?_;exists cp I ?_;refine⟨_,_,rfl,.inr ⟨_,cU.of hb,rfl⟩,?_⟩;rw[vt,vt];ac_nf;obtain⟨t,et⟩:∃t:Nat,o%(⇑is:Int)=(t:Int):=⟨(o%(⇑is:Int)).toNat,⋯⟩
    rw[et]at r0 r1|-;have a1:t<⇑is:=⋯
    obtain⟨D,L⟩:∃D,is[t]?=some D:=⟨_,vz a1⟩
    have sp:=Cm (g:=λj=>r∘j) (λi hi=>by have:=p3 i hi;have:=B.d.g i ⋯;show 0<=r∘i;lia) L;have a0:=p3 D (vm L);refine⟨λS' C=>S'=[↥b,~~~o,↥fd,↥d,some (.str (e.getD j ⟨#[]⟩)),some (.int (base+((is.take t).map λj=>r∘j).sum)),↥pf,some (.ref (g j)),some (.int (t:Nat))]/\bX H5 C,?_,?_⟩
    rotate_left
    .exists cp I ?_;exists df ?_;exists cp I ?_;ac_nf;have lm:⇑((is.map λj=>e.getD j ⟨#[]⟩).map V.str)=⇑is:=by rw[vt,vt]
     refine⟨bb,_,rfl,cU.of hb,λz=>?_,?_⟩
     .have z2:=z.2;rw[HT.Ce,lm]at z2;lia
     sleep 6;rw[Ic,<-map_take,<-map_take]at t6;refine⟨p6,rfl,⟨_,cU.of t6⟩,?_⟩;refine Kn (xs:=((is.take t).map λj=>e.getD j ⟨#[]⟩).map V.str) (λu O C=>O=(((is.take t).take u).map λj=>r∘j).map V.int/\H6=C) ⟨rfl,rfl⟩ ?_ ?_ ?_
     .rintro u O C _ ⟨rfl,rfl⟩;exact cU.of t6
     .rintro u v O C hv ⟨rfl,rfl⟩;rw[vv,vv]at hv;let⟨x,hx,rfl⟩:=vg.mp hv;let⟨i',a3,rfl⟩:=vg.mp hx;have im:=p3 i' (mem_of_mem_take (vm a3));refine qb (S':=[none,↥d]) rfl ?_;exists dP ?_;exists⟨d,_,rfl,gK H6 i' (s6 _ _ (s5 _ _ U)) ⋯,?_⟩;refine⟨by rw[vt,vt,vi,vi];lia,?_,rfl⟩;rw[take_snoc a3,vj,vj];rfl
     rintro O C ⟨rfl,rfl⟩;rw[show(((is.take t).map λj=>e.getD j ⟨#[]⟩).map V.str).length=⇑(is.take t) by rw[vt,vt],v3];refine⟨by rw[vt,vt,vi];lia,?_⟩;sleep 7;exists⟨p7,_,rfl,bZ.of t7,?_⟩;ac_nf;exact⟨rfl,s6.trans s7⟩
    rintro S' H8 ⟨rfl,s8⟩;exists cp (s8 _ _ I) ?_;exists iI (cU.of (s8 _ _ hb)) (jJ (j:=t) (by rw[vv,vv,L];rfl)) ?_;ac_nf;exact⟨D,_,_,rfl,s8,a0,⋯,⋯⟩
   | side is=>
    let⟨bb,I,hb⟩:=X;let⟨p1,p2,p3,p4⟩:=S;let⟨_,lm⟩:=ln;have r0:=ve o (show(⇑is:Int)≠0 by lia);have r1:=vf o (show(0:Int)<(⇑is:Int) by lia);exists cp I ?_;exists cw ?_;exists cp I ?_;refine⟨_,_,rfl,.inr ⟨_,cU.of hb,rfl⟩,?_⟩;rw[vt,vt];ac_nf;obtain⟨t,et⟩:∃t:Nat,o%(⇑is:Int)=(t:Int):=⟨(o%(⇑is:Int)).toNat,⋯⟩
    rw[et]at r0 r1|-;have a1:t<⇑is:=⋯
    obtain⟨D,L⟩:∃D,is[t]?=some D:=⟨_,vz a1⟩
    have a5:=vm L;have a0:=p3 D a5;have ao:=lm D a5;refine⟨λS' C=>S'=[↥b,~~~o,↥fd,↥d,some (.str (e.getD j ⟨#[]⟩)),~~~base,↥pf,some (.ref (g j)),some (.int (t:Nat))]/\H5=C,?_,?_⟩
    rotate_left
    .exists cp I ?_;exists cw ?_;ac_nf;exact⟨rfl,rfl⟩
    rintro S' H8 ⟨rfl,rfl⟩;exists cp I ?_;exists iI (cU.of hb) (jJ (j:=t) (by rw[vv,vv,L];rfl)) ?_;ac_nf;exact⟨D,_,_,rfl,bX.refl _,a0,ab,⋯⟩
  rintro S' H6 ⟨J,p,a6,rfl,s6,ag,a9,aa⟩;have am:=B.d.g J ⋯;have e6:=s6 _ _ e5;exists LM ?_;ac_nf;have w0:=ve (o*48271) (show(10^36+67:Int)≠0 by decide);have w1:=vf (o*48271) (show(0:Int)<10^36+67 by decide);refine⟨.inl ⟨rfl,_,bZ.of e6⟩,?_⟩;exists⟨pf,_,_,rfl,rfl,e6,by rw[vt];lia,?_⟩;refine⟨J,p,_,xs++[p],_,_,rfl,λc u n h=>(jg n).trans (s6 _ _ (k5 c u n h)),by rw[jw,vj];rfl,⋯,a9,aa,w0,⋯,by rw[vn];show _+1+_<_;lia,λx hx=>?_,ag⟩;rcases vh.mp hx with z | z
  .exact xb x z
  .rw[vo.mp z];lia
def KA(T:Txt K mg t)(Jn:1<*t.qJ t.qM ["named"] (cX))(yk:3<*t.Wr t.WA ["book"] (gh))(Ql:5<*t.Z3 t.Z4 ["book"] (dR))(qe:3<*t.zz t.zD ["book","sizes"] (dj)):6<*t.JX t.qx ["self","book"] (gm t.Jg):=by
 specialize T.KS.ok KJ;let⟨a,m,b,pl,pp,g,C,U,ps,gs,hs,rfl,ha,B,N,q⟩:=h;refine⟨_,(jb (qN (pv 0) (jh T.QP Jn hr (ja (jk jv (pv 1) jd) jc)) rfl)
  (jb (qN (pv 0) (JR (ow:=["name","height"]) (ci:=[]) rfl (cj.of (bV qA) ["self","book"] rfl rfl ∅) (We nofun nofun) (jQ (jk jv (pv 1) jd)) (λ_ _ _ _ _=>⟨(J1 rfl (jA (cN 0 (Jy ["self","book"] rfl ∅)) (jA (cN 1 (Jy ["self","book"] rfl ∅)) Jw))),Qu,(pv 1)⟩)) rfl)
  (jb (qN (pv 0) (JR (ow:=["name","form"]) (ci:=[]) rfl (cj.of (bV qA) ["self","book"] rfl rfl ∅) (We nofun nofun) (jQ (jk jv (pv 1) jd)) (λ_ _ _ _ _=>⟨(J1 rfl (jA (cN 0 (Jy ["self","book"] rfl ∅)) (jA (cN 1 (Jy ["self","book"] rfl ∅)) Jw))),Qu,(pv 1)⟩)) rfl)
  (jb (qN (pv 0) (jh T.YI Ql hr (ja (pv 1) jc)) rfl)
  (jb (qN (pv 0) (jh T.Xi yk hr (ja (pv 1) jc)) rfl)
  (jf (qN (pv 0) (jh T.ZC qe hr (ja (pv 1) (ja (jM (pv 0) rfl) jc))) rfl))))))),?_⟩
 rotate_right 200
 have W:=N.s.w;have gl:=N.s.gl;have l8:=W.l8;have ae:=W.l0;have la:=B.la.1;have ac:=B.pa.1;let⟨X,L,n0,Z⟩:=B.less ha;have z0:bX X H:=L H λc u _ h=>h
 exists cp B.t ?_;exists⟨pl,g,bW U,rfl,B.l,by rw[bW,vt];exact la,λi a x ea ex=>?_,W.ln,by rw[bW,vt];lia,λd H1 s1 hd ed=>?_⟩
 .unfold bW at ex;rw[vv]at ex;let⟨p,ep,rfl⟩:=vg.mp ex;exact⟨_,B.la.2 i a p ea ep⟩
 exists⟨a,_,m,[],rfl,s1 _ _ ha,T.Jk,T.zp,(by show 0<1000;decide),?_⟩;have nd:d≠a:=λz=>by rw[z,ha]at hd;cases hd
 generalize e2:upd H1 a _=H2;have k2:∀c u,c≠a->H1 c=some u->H2 c=some u:=λc u n h=>e2▸(jg n).trans h
 have a2:=JT e2;clear e2;have z2:bX X H2:=L H2 λc u n h=>k2 _ _ n (s1 _ _ h)
 have B2:=Z.same z2;exists cp B2.t ?_;exists⟨pl,rfl,⟨_,bZ.of B2.l⟩,?_⟩;refine JA (xs:=g.map V.ref) (λi I o=>I=((U.map (·.2)).take i).map V.int/\H2=o) ⟨rfl,rfl⟩ ?_ ?_ ?_
 .rintro i I o _ ⟨rfl,rfl⟩;exact bZ.of B2.l
 .rintro i v I o hv ⟨rfl,rfl⟩;let⟨a,p,rfl,hp,R⟩:=B2.la.cF hv;have hi:=(vx.mp hp).1;refine qb (S':=[none,none]) rfl ?_;refine Qh (cU.of R) ?_;exists dP ?_;exists⟨by rw[vt,vi,vt];lia,?_,rfl⟩;rw[take_snoc (show(U.map (·.2))[i]?=some p.2 by rw[vv,hp];rfl),vj];rfl
 rintro I o ⟨rfl,rfl⟩;rw[show(g.map V.ref).length=⇑(U.map (·.2)) by rw[vt,vt];exact la,v3];refine⟨by rw[vt,vt];lia,?_⟩;sleep 3;exists⟨a,_,m,_,rfl,s3 _ _ a2,T.Jk,T.zo,rO (Jb _ _ _) nofun,?_⟩;have n3:p3≠a:=λz=>by rw[z,a2]at hp3;cases hp3
 generalize e4:upd H3 a _=H4;have k4:∀c u,c≠a->H3 c=some u->H4 c=some u:=λc u n h=>e4▸(jg n).trans h
 have a4:=JT e4;clear e4;have z4:bX X H4:=λc u h=>k4 _ _ (n0 h) (s3 _ _ (z2 _ _ h))
 have B4:=Z.same z4;exists cp B4.t ?_;exists⟨pp,rfl,⟨_,bZ.of B4.p⟩,?_⟩;refine JA (xs:=C.map V.ref) (λi I o=>dX λ(f:L7)=>d0 (I=f.map V.ref) (cg (λa p=>ck H4 a p.2) f (ps.take i)/\H4=o)) ⟨[],rfl,.nil,rfl⟩ ?_ ?_ ?_
 .rintro i I o _ ⟨f,rfl,M,rfl⟩;exact bZ.of B4.p
 .rintro i v I o hv ⟨f,rfl,M,rfl⟩;let⟨a',p,rfl,hp,fb,R,hf⟩:=B4.pa.cF hv;have hi:=(vx.mp hp).1;have a5:=M.1;rw[vi]at a5;refine qb (S':=[none,none]) rfl ?_;refine Qh (cU.of R) ?_;exists dP ?_;exists⟨by rw[vt];lia,f++[fb],by rw[vj];rfl,?_,rfl⟩;rw[take_snoc hp];exact cg.snoc M hf
 rintro I o ⟨f,rfl,M,rfl⟩;rw[vt,ac,v3]at M;have fl:=M.1;refine⟨by rw[vt];lia,?_⟩;sleep 5;exists⟨a,_,m,_,rfl,s5 _ _ a4,T.Jk,T.Qx,vD (Jb _ _ _) (vD (Nat.succ_le_succ (Jb _ _ _)) nofun),?_⟩;have n5:p5≠a:=λz=>by rw[z,a4]at hp5;cases hp5
 generalize e6:upd H5 a _=H6;have k6:∀c u,c≠a->H5 c=some u->H6 c=some u:=λc u n h=>e6▸(jg n).trans h
 have a6:=JT e6;clear e6;have z6:bX X H6:=λc u h=>k6 _ _ (n0 h) (s5 _ _ (z4 _ _ h))
 exists⟨b,pl,pp,g,C,U,ps,gs,hs,rfl,Z.same z6,N.s,λl7 H7 s7 a1 e7=>?_⟩;exists⟨a,_,m,_,rfl,s7 _ _ a6,T.Jk,T.JV,ou,?_⟩;have n7:l7≠a:=λz=>by rw[z,a6]at a1;cases a1
 generalize e8:upd H7 a _=H8;have k8:∀c u,c≠a->H7 c=some u->H8 c=some u:=λc u n h=>e8▸(jg n).trans h
 have a8:=JT e8;clear e8;have z8:bX X H8:=λc u h=>k8 _ _ (n0 h) (s7 _ _ (z6 _ _ h))
 exists⟨b,pl,pp,g,C,U,ps,rfl,Z.same z8,W,λl9 as E H9 Y a3 e9 na lE aE oE=>?_⟩;exists⟨a,_,m,_,rfl,Y _ _ a8,T.Jk,T.Ze,su,?_⟩;have n9:l9≠a:=λz=>by rw[z,a8]at a3;cases a3
 generalize O:upd H9 a _=H10;have S:∀c u,c≠a->H9 c=some u->H10 c=some u:=λc u n h=>O▸(jg n).trans h
 have k:=JT O;clear O;have ad:bX X H10:=λc u h=>S _ _ (n0 h) (Y _ _ (z8 _ _ h))
 have w7:∀c u,c≠a->H7 c=some u->H10 c=some u:=λc u n h=>S _ _ n (Y _ _ (k8 _ _ n h))
 exists⟨a,_,m,_,_,rfl,k,T.Jk,T.JV,(jE ∅).trans JB,?_⟩;exists⟨b,pl,pp,l7,g,C,U,ps,gs,rfl,Z.same ad,W,w7 _ _ n7 e7,gl,λy l j D J a7 a0 _=>?_⟩;exists⟨a,_,m,_,rfl,D _ _ k,T.Jk,T.QZ,vS,?_⟩;have a9:y≠a:=λz=>by rw[z,k]at J;cases J
 have r:∀c u,c≠a->j c=some u->upd j a (.ins t.Jg m (iG ⟨d,p3,p5,l7,l9,y,f,as,l⟩)) c=some u:=λc u n h=>(jg n).trans h
 have u9:∀c u,c≠a->H9 c=some u->upd j a (.ins t.Jg m (iG ⟨d,p3,p5,l7,l9,y,f,as,l⟩)) c=some u:=λc u n h=>r _ _ n (D _ _ (S _ _ n h))
 have u7:∀c u,c≠a->H7 c=some u->_=some u:=λc u n h=>u9 _ _ n (Y _ _ (k8 _ _ n h))
 have u5:∀c u,c≠a->H5 c=some u->_=some u:=λc u n h=>u7 _ _ n (s7 _ _ (k6 _ _ n h))
 have u3:∀c u,c≠a->H3 c=some u->_=some u:=λc u n h=>u5 _ _ n (s5 _ _ (k4 _ _ n h))
 have u1:∀c u,c≠a->H1 c=some u->_=some u:=λc u n h=>u3 _ _ n (s3 _ _ (k2 _ _ n h))
 have nq:∀{c:Addr} {xs:N2},j c=some (.lst xs)->c≠a:=λh z=>by rw[z,D _ _ k]at h;cases h
 have ab:∀{c:Addr} {xs:N2},j c=some (.tup xs)->c≠a:=λh z=>by rw[z,D _ _ k]at h;cases h
 have nt:∀{c:Addr} {xs:N2},H9 c=some (.tup xs)->c≠a:=λh z=>by rw[z,Y _ _ a8]at h;cases h
 have nl:∀{c:Addr} {xs:N2},H9 c=some (.lst xs)->c≠a:=λh z=>by rw[z,Y _ _ a8]at h;cases h
 have aa:∀{c:Addr} {xs:N2},H4 c=some (.tup xs)->c≠a:=λh z=>by rw[z,a4]at h;cases h
 exact q ⟨d,p3,p5,l7,l9,y,f,as,l⟩ E _ (λc u n h=>u1 _ _ n (s1 _ _ h)) ⟨⟨m,jw⟩,u1 _ _ nd ed,u3 _ _ n3 t3,u5 _ _ n5 t5,cg.mono M λc p h=>ck.put (λb xs hb=>u5 _ _ (aa hb) (s5 _ _ hb)) h,u7 _ _ n7 e7,u9 _ _ n9 e9,lE,
  cg.mono aE λc e ⟨bs,h1,h2⟩=>⟨bs,u9 _ _ (nl h1) h1,cg.mono h2 λb q h=>u9 _ _ (nt h) h⟩,oE,r _ _ a9 a7,cg.mono a0 λc e ⟨bs,h1,h2⟩=>⟨bs,r _ _ (nq h1) h1,cg.mono h2 λb q h=>r _ _ (ab h) h⟩⟩
def Iw(T:Txt K mg t):1<*t.Xo t.XD ["start","goal","beats","j"] (Pr.Cj):=by
 refine T.CT.F.ok IJ (λf H Q E h=>?_) (λd A a s H f Q E i h=>?_)
 .let⟨e,g,b,j,rfl,c,q⟩:=h;rfl
 let⟨e,g,b,j,rfl,c,q⟩:=h;refine⟨_,(jf (jx (jo jL (pv 0) (jo Jf (jo Js (jo Jm (pv 1) (pv 0)) (pv 3)) (pv 2))))),?_⟩;refine jz (S':=[some _,some _,some _,some _]) rfl ?_
 try dsimp only[eF,Cx.lu]
 unfold Pr.B4 at c;ac_nf;exact q
def EW(T:Txt K mg t)(qF:1<*t.zc t.zf ["pieces","sizes","gone"] (dB)):2<*t.Wt t.WB ["pieces","sizes","gone"] (gW):=by
 specialize T.Bw.F.ok Zl;let⟨l,W,n,bs,C,gs,rfl,el,hq,es,q8,ok,t1,t2,q⟩:=h;refine⟨_,(jb (cz 3 Zl.nd (jP jc))
  (jb (Jd PassesOwn.never rfl (jQ (jh T.ye qF hr (ja (pv 0) (ja (pv 1) (ja (pv 2) jc))))) (J1 rfl (jA (cN 4 Zl.nd) (jA (cN 5 Zl.nd) (jA (cN 6 Zl.nd) (jA (cN 7 Zl.nd) Jw)))))
   (jb (Qg (jr Zw (pv 6) jd (bY _))
    (jf (j5 (JP q4 q5 q7 jO (pv 3) (ja (jR (ja (pv 4) (ja (jk ju (pv 1) (pv 4)) jc))) jc))))
    jB)
   (jf (Ja (jr YY (pv 7) zL (bY _))
    (jf (j5 (JP q4 q5 q7 jO (pv 3) (ja (jR (ja (pv 4) (ja (pv 7) jc))) jc))))
    jB))))
  (jf (jx (pv 3))))),?_⟩
 rotate_right 305
 have a1:∀j,j<⇑gs->gs[j]?=some (gs∘j):=λj h=>by
  rw[vy,vz h];rfl
 exists⟨va _,?_⟩;walk_at"f p hp H1 s1 e1";have np:∀{c u},H c=some u->c≠p:=λh=>je h hp
 exists⟨l,W,n,bs,C,gs,rfl,s1 _ _ el,cg.mono hq λc x h=>s1 _ _ h,s1 _ _ es,q8,ok,t1,t2,λl2 Y H2 s2 M e2 J=>?_⟩;have a5:=XT (gs:=gs) (t:=n) C;have X:=J.1;have a2:l2≠p:=λz=>by rw[z,e1]at M;cases M
 have D:=s2 _ _ e1;exists⟨l2,rfl,⟨_,bZ.of e2⟩,?_⟩;refine Ji (xs:=Y.map V.ref) (λi σ f=>oj λ(O R S U:N3) (e:L7)=>eD (σ=[↥l,↥W,~~~n,↥p,O,R,S,U]) (∀c u,c≠p->H2 c=some u->f c=some u) (f p=some (.lst (e.map V.ref))) (⇑e<=2*i/\dM f e (((dA gs n C).take i).flatMap (dF gs))))
  ⟨_,_,_,_,[],rfl,λc u _ h=>h,D,vb _,.nil⟩ ?_ ?_ ?_
 .rintro i σ f _ ⟨O,R,S,U,e,rfl,m,g,la,B⟩;exact bZ.of (m _ _ a2 e2)
 .rintro i v σ f hv ⟨O,R,S,U,e,rfl,m,g,la,B⟩;let⟨c,y,rfl,hy,b⟩:=J.cF hv;have hi:=(vx.mp hy).1;have a3:c≠p:=λz=>by rw[z,D]at b;cases b
  let⟨x,hx,ex⟩:=YU (vm hy);have y1:y.1<⇑gs:=by rw[WQ ex];exact(ok x hx).1
  have k:((dA gs n C).take (i+1)).flatMap (dF gs)=((dA gs n C).take i).flatMap (dF gs)++dF gs y:=by
   rw[take_snoc hy,flatMap_append,flatMap_cons,flatMap_nil,append_nil]
  have a0:f W=some (.lst (gs.map V.int)):=m _ _ (np es) (s2 _ _ (s1 _ _ es));refine Aq (cU.of (m _ _ a3 b)) ?_;exists⟨λS' H3=>dX λ(a:L7)=>eD (S'=[↥l,↥W,~~~n,↥p,some (.int (y.1:Nat)),~~~y.2.1,~~~y.2.2.1,some (dD y.2.2.2)]) (∀c u,c≠p->f c=some u->H3 c=some u) (H3 p=some (.lst (a.map V.ref))) (⇑a<=2*i+1/\dM H3 a (((dA gs n C).take i).flatMap (dF gs)++(if 0<y.2.2.1 then[(y.1,gs∘y.1)]else[]))),?_,?_⟩
  rotate_left
  .exists cC (λZ=>?_) (λZ=>?_)
   .exists⟨.inl ⟨rfl,_,bZ.of g⟩,?_⟩;exists cm (bZ.of a0) (jJ (j:=y.1) (by rw[vv,a1 _ y1];rfl)) ?_;exists⟨ud,?_⟩;walk_at"f p2 hp2 H3 s3 e3";exists⟨p,_,_,rfl,rfl,s3 _ _ g,by rw[vt];lia,?_⟩;have o:p2≠p:=λz=>by rw[z,s3 _ _ g]at e3;cases e3
    refine⟨e++[p2],rfl,λc u b h=>(jg b).trans (s3 _ _ h),by rw[jw,vj];rfl,by rw[vn];show ⇑e+1<=_;lia,?_⟩;rw[vd Z];refine cg.snoc (cg.mono B λc y h=>?_) ((jg o).trans e3);exact(jg (λz=>by rw[z,g]at h;cases h)).trans (s3 _ _ h)
   .exists⟨e,rfl,λc u _ h=>h,g,⋯,?_⟩;rw[vc Z,append_nil];exact B
  rintro S' H3 ⟨a,rfl,N,d,a4,L⟩;have I:dF gs y=(if 0<y.2.2.1 then[(y.1,gs∘y.1)]else[])++(match y.2.2.2 with | some r=>[(y.1,r)] | none=>[]):=rfl;cases er:y.2.2.2 with
  | none=>
   exists⟨rfl,_,rfl,?_⟩;refine c8 (by simp[dD]) ?_;exists⟨_,_,_,_,a,rfl,λc u b h=>N _ _ b (m _ _ b h),d,⋯,?_⟩;rw[k,I,er,append_nil];exact L
  | some r=>
   exists⟨rfl,_,rfl,?_⟩;refine eN (by simp[dD]) ?_;exists⟨.inl ⟨rfl,_,bZ.of d⟩,?_⟩;exists⟨ud,?_⟩;walk_at"f p2 hp2 H4 s4 e4";exists⟨p,_,_,rfl,rfl,s4 _ _ d,by rw[vt];lia,?_⟩;have o:p2≠p:=λz=>by rw[z,s4 _ _ d]at e4;cases e4
   refine⟨_,_,_,_,a++[p2],rfl,λc u b h=>(jg b).trans (s4 _ _ (N _ _ b (m _ _ b h))),by rw[jw,vj];rfl,by rw[vn];show ⇑a+1<=_;lia,?_⟩;rw[k,I,er,<-List.append_assoc];refine cg.snoc (cg.mono L λc y h=>?_) ((jg o).trans e4);exact(jg (λz=>by rw[z,d]at h;cases h)).trans (s4 _ _ h)
 rintro S' f ⟨O,R,S,U,e,rfl,m,g,la,B⟩;rw[vt,X,v3]at B;ac_nf;exact q p e f (λc u h=>m _ _ (np h) (s2 _ _ (s1 _ _ h))) hp g B
def WO(T:Txt K mg t)(Wq:2<*t.Wt t.WB ["pieces","sizes","gone"] (gW)):3<*t.Qv t.Qw ["self","beat"] (fG t.Jg):=by
 specialize T.W5.ok J2;let⟨a,z,U,ps,gs,hs,E,t0,rfl,A,N,t1,t2,q⟩:=h;refine⟨_,(jb (Ja (ZW (BJ Xd Xd jd (pv 1) (jk ju (jM (pv 0) rfl) (Yo ZA jd))))
   (jf Yp)
   jB)
  (jb (cz 2 J2.nd (qz Kl (by rfl) T.Aw Xw (ja (jM (pv 0) rfl) jc)))
  (jb (cz 3 J2.nd (jP jc))
  (jb (cz 4 J2.nd (jP (ja (jR (ja (jo Jm (jD jX (by rfl) T.qg Jt (ja (jM (pv 0) rfl) jc)) jd) (ja (pv 1) jc))) jc)))
  (jb (Yq PassesOwn.never (Ao (pv 4) (λ_=>rfl))
   (jb (cz 5 J2.nd (Am q4 PySem.F.slot_list_pop PySem.F.type_list_pop C0 (pv 4)))
   (jf (Ja (jr ka (jk jv (pv 5) jd) (jk ju (jM (pv 0) rfl) (jk jv (pv 5) jd)) (bY _))
    (jb (j5 (JP q4 q5 q7 jO (pv 3) (ja (pv 5) jc)))
    (jf (j5 (JP q4 PySem.F.slot_list_extend PySem.F.type_list_extend FQ (pv 4) (ja (LC (jh T.Bw Wq hr (ja (jk ju (jM (pv 0) rfl) (jk jv (pv 5) jd)) (ja (jM (pv 0) rfl) (ja (jk jv (pv 5) jd) jc)))) (Zg (Yo ZA jd))) jc)))))
    (jf (Jd PassesOwn.never rfl (jQ (jk ju (jM (pv 0) rfl) (jk jv (pv 5) jd))) (J1 rfl (jA (cN 6 J2.nd) (jA (cN 7 J2.nd) Jw)))
     (jf (kK (pv 7) (wE (pv 2) (pv 6) set_list)))))))))
  (jf (jx (jR (ja (pv 2) (ja (pv 3) jc)))))))))),?_⟩
 rotate_right 206
 have W:=N.s.w;have gl:=N.s.gl;have ne:=N.ne;have b1:=W.l0;have lE:=A.el;have M8:∀i,i<⇑ps->⇑(hs.getD i [])<=8:=λi hi=>BX W N.hl N.m (wQ N.s N.hl hi)
 have ac:eW (gs.map V.int) (-1)=some (.int (gs∘(⇑ps-1))):=Xs ⋯ (by rw[gl]);have aQ:∀j,j<⇑ps->gs[j]?=some (gs∘j):=λj h=>N.AM h
 let⟨dx,ob⟩:=A.ob;exists cC (λ_=>?_) (λc=>uf t1 c);exists⟨a,_,dx,_,_,rfl,ob,T.Jk,T.JV,YS,?_⟩;exists cm (bZ.of A.hs) (ac) ?_;exists g7 (λz=>uf t2 z) (λ_=>?_);exists⟨a,_,dx,_,_,rfl,ob,T.Jk,T.zo,Ft,?_⟩;exists⟨z.f,_,rfl,.inl (bZ.of A.hf),?_⟩;walk_at"f 1 e";exists⟨va _,?_⟩;walk_at"f 2 e";have ai:=s1.trans s2;exists⟨a,_,dx,_,_,rfl,ai _ _ ob,T.Jk,T.JV,YS,?_⟩;exists⟨_,_,rfl,.inl ⟨_,bZ.of (ai _ _ A.hs),rfl⟩,?_⟩;rw[vt,gl];exists⟨ud,?_⟩;walk_at"f 3 e";exists⟨ue,?_⟩;walk_at"f 4 e";rw[show((⇑ps:Nat):Int)-1=((⇑ps-1:Nat):Int) by lia]at e3;have aI:=ai.trans s3;have aW:=aI.trans s4;have ad:p1≠p2:=je e1 hp2;have af:p1≠p4:=je (s3 _ _ (s2 _ _ e1)) hp4;have ag:p2≠p4:=je (s3 _ _ e2) hp4;have m1:∀{c u},H c=some u->c≠p1:=λh=>je h hp1
 have m2:∀{c u},H c=some u->c≠p2:=λh=>je (s1 _ _ h) hp2
 have m4:∀{c u},H c=some u->c≠p4:=λh=>je (aI _ _ h) hp4
 have aH:=N.nodes M8 (i:=⇑ps-1) (t:=t0) ⋯ t1;have aK:∀h∈U.map (·.2),0<=h/\h<=10^18:=λh hh=>by
  let⟨q0,aS,rfl⟩:=vK.mp hh;exact N.uE q0 aS
 exists⟨λm σ B=>mx λ(o5 M O:N3) (d g:L7) (D P S:L3)=>d0 (σ=[↥a,~~~t0,↥p1,↥p2,↥p4,o5,M,O]) (sg U ps gs E t0 H B p1 p2 p4 d g D P S/\m=(S.map λx=>nodes ps gs x.1 x.2).sum),
  ⟨_,none,none,none,[],[p3],[],[],[(⇑ps-1,t0)],rfl,⟨aW,s4 _ _ (s3 _ _ (s2 _ _ e1)),s4 _ _ (s3 _ _ e2),e4,.nil,cg.snoc (as:=[]) (xs:=[]) .nil (s4 _ _ e3),by simp,λx hx=>by rw[vo.mp hx];exact⟨by show ⇑ps-1<_;lia,t1⟩,rfl,(λx hx=>nomatch hx),#v[aH],by show(U.map (·.2)).length=_;rw[vt],aK⟩,rfl⟩,?_⟩
 rintro m σ B ⟨o5,M,O,d,g,D,P,S,rfl,Sc,rfl⟩;let⟨sm,ak,an,eT,gP,gT,J,hS,hP,bP,aM,ll,hb⟩:=Sc;have a6:⇑S<=(S.map λx=>nodes ps gs x.1 x.2).sum:=AF λx _=>YW (ps:=ps) (gs:=gs) x.1 x.2
 have pl:=gP.1;have tl:=gT.1;exists⟨_,.inl ⟨_,bZ.of eT,rfl⟩,?_⟩;rcases List.eq_nil_or_concat S with rfl | ⟨S0,x,rfl⟩
 .have et:g=[]:=length_eq_zero_iff.mp tl;subst et;refine iZ ?_;ac_nf;rw[show([]:L3).reverse.flatMap (λx=>Rm.reach ps gs x.1 x.2)=[]from rfl,append_nil]at J;subst J;have b0:([].map λx:Nat×Int=>nodes ps gs x.1 x.2).sum=0:=rfl;refine⟨ud,?_⟩;walk_at"f 5 e";exact q p5 p1 p2 d P H5 (sm.trans s5) hp1 (none_of s1 hp2) e5 (s5 _ _ ak) ll hb (s5 _ _ an) ad (cg.mono gP λc y h=>s5 _ _ h) ⋯ bP hP
 rw[List.concat_eq_append]at *;let⟨b,l,rfl,aw,aA⟩:=cg.last gT;rw[vj]at eT|-;refine eN (by simp) ?_;let⟨x1,x2⟩:=hS x (mem_append_right _ vq);have az:∀y∈S0,y.1<⇑ps/\0<=y.2:=λy hy=>hS y (mem_append_left _ hy)
 rw[List.reverse_append,flatMap_append,vj,sum_append]at *;have aZ:=YW (ps:=ps) (gs:=gs) x.1 x.2;have ar:([x].map λx:Nat×Int=>nodes ps gs x.1 x.2).sum=nodes ps gs x.1 x.2:=by simp
 have a9:([x].reverse.flatMap λx=>Rm.reach ps gs x.1 x.2)=Rm.reach ps gs x.1 x.2:=by simp
 rw[ar]at a6 aM|-;have b2:S0.length<=5000:=by rw[vn]at a6;lia
 have b3:=aw.1;rw[a9]at J;refine⟨λσ B=>mx λ(o5 M O:N3) (d g:L7) (D P S:L3)=>d0 (σ=[↥a,~~~t0,↥p1,↥p2,↥p4,o5,M,O]) (sg U ps gs E t0 H B p1 p2 p4 d g D P S/\(S.map λx=>nodes ps gs x.1 x.2).sum<(S0.map λx=>nodes ps gs x.1 x.2).sum+nodes ps gs x.1 x.2),
  (by rintro S' B ⟨o5,M,O,d,g,D,P,S,h1,h2,h3⟩;exact⟨_,h3,o5,M,O,d,g,D,P,S,h1,h2,rfl⟩),?_⟩
 exists⟨.inl ⟨rfl,_,bZ.of eT⟩,?_⟩;refine⟨p4,_,.ref l,rfl,rfl,eT,by simp,?_⟩;rw[show((b.map V.ref)++[l].map V.ref).dropLast=b.map V.ref by simp];have a1:∀{c:Addr} {xs:N2},B c=some (.tup xs)->c≠p4:=λh z=>by rw[z,eT]at h;cases h
 have s5:bX H (upd B p4 (.lst (b.map V.ref))):=λc u h=>(jg (m4 h)).trans (sm _ _ h)
 have a7:upd B p4 (.lst (b.map V.ref)) p4=some (.lst (b.map V.ref)):=jw;have Y:=(jg (o:=HO.lst (b.map V.ref)) af).trans ak;have C:=(jg (o:=HO.lst (b.map V.ref)) ag).trans an;have aa:dM (upd B p4 (.lst (b.map V.ref))) d P:=cg.mono gP λc y h=>(jg (a1 h)).trans h
 have ab:dM (upd B p4 (.lst (b.map V.ref))) b S0:=cg.mono aw λc y h=>(jg (a1 h)).trans h
 have n:=(jg (o:=HO.lst (b.map V.ref)) (a1 aA)).trans aA;generalize upd B p4 (.lst (b.map V.ref))=H5 at s5 a7 Y C aa ab n|-;clear a1;have aP:H5 z.s=some (.lst (gs.map V.int)):=s5 _ _ A.hs;have aE:=s5 _ _ ob;exists cp n ?_;exists⟨a,_,dx,_,_,rfl,aE,T.Jk,T.JV,YS,?_⟩;exists cp n ?_;exists cm (bZ.of aP) (jJ (j:=x.1) (by rw[vv,aQ _ x1];rfl)) ?_;ac_nf;obtain⟨p,hp⟩:∃p,ps[x.1]?=some p:=⟨_,vz x1⟩
 have aq:cy ps gs x.1=de gs p.2 (cG ps p.2):=by unfold cy;rw[hp]
 refine cC (λc1=>?_) (λc1=>?_)
 .have a2:iL gs x=false:=vH ⋯;have aR:(ps.map λp=>de gs p.2 (cG ps p.2))[x.1]?=some (cy ps gs x.1):=by rw[vv,hp,aq];rfl
  let⟨al,aO,bs,a0,hq⟩:=A.pa.get aR;have aX:=(N.g x1).2;have aU:⇑(cy ps gs x.1)<=8:=by rw[aq];exact Kw (N.i8 hp)
  have wl:=Il (gs:=gs) (t:=x.2) (cy ps gs x.1);exists⟨.inl ⟨rfl,_,bZ.of C⟩,?_⟩;exists⟨p2,_,_,rfl,rfl,C,by rw[vt];lia,?_⟩;have ah:∀{c:Addr} {xs:N2},H5 c=some (.tup xs)->c≠p2:=λh z=>by rw[z,C]at h;cases h
  have s6:bX H (upd H5 p2 (.lst (d.map V.ref++[.ref l]))):=λc u h=>(jg (m2 h)).trans (s5 _ _ h)
  have ao:upd H5 p2 (.lst (d.map V.ref++[.ref l])) p2=some (.lst ((d++[l]).map V.ref)):=by rw[jw,vj];rfl
  have am:=(jg (o:=HO.lst (d.map V.ref++[.ref l])) ad).trans Y;have a8:=(jg (o:=HO.lst (d.map V.ref++[.ref l])) ag.symm).trans a7;have X:=(jg (o:=HO.lst (d.map V.ref++[.ref l])) (ah n)).trans n;have au:dM (upd H5 p2 (.lst (d.map V.ref++[.ref l]))) (d++[l]) (P++[x]):=cg.snoc (cg.mono aa λc y h=>(jg (ah h)).trans h) X;have ay:dM (upd H5 p2 (.lst (d.map V.ref++[.ref l]))) b S0:=cg.mono ab λc y h=>(jg (ah h)).trans h
  generalize upd H5 p2 (.lst (d.map V.ref++[.ref l]))=H6 at s6 ao am a8 X au ay|-;exists⟨.inl ⟨rfl,_,bZ.of a8⟩,?_⟩;exists⟨a,_,dx,_,_,rfl,s6 _ _ ob,T.Jk,T.QZ,Ea,?_⟩;exists cp X ?_;exists cm (bZ.of (s6 _ _ A.hp)) (yz (i:=(x.1:Int)) ⋯ aO) ?_;exists⟨a,_,dx,_,_,rfl,s6 _ _ ob,T.Jk,T.JV,YS,?_⟩;exists cp X ?_;exists⟨al,z.s,x.2,bs,cy ps gs x.1,gs,rfl,s6 _ _ a0,cg.mono hq λc y h=>s6 _ _ h,s6 _ _ A.hs,aU,λq hq=>N.fk hq,x2,⋯,λlw aJ H7 s7 aY ew hw=>?_⟩;exists⟨rfl,lw,_,rfl,bZ.of ew,?_⟩;walk_at"f lr hlr H8 s8 e8";have r:=s7.trans s8;have ap:=r _ _ a8;have b4:=hw.1;refine⟨p4,lr,_,_,rfl,rfl,ap,e8,by rw[vt,List.length_reverse,vt];lia,?_⟩;have a5:∀{c:Addr} {xs:N2},H8 c=some (.tup xs)->c≠p4:=λh z=>by rw[z,ap]at h;cases h
  have av:=λ(c:Addr) (y:Nat×Int) (h:H6 c=some (.tup [.int (y.1:Nat),.int y.2]))=>(jg (o:=HO.lst (b.map V.ref++(aJ.map V.ref).reverse)) (a5 (r _ _ h))).trans (r _ _ h)
  have aL:∀y∈P++[x],y.1<⇑ps/\0<=y.2/\y.2<gs∘y.1:=λy hy=>by
   rcases vh.mp hy with h | h
   .exact bP y h
   .rw[vo.mp h];exact⟨x1,x2,c1⟩
  refine⟨_,_,_,d++[l],b++aJ.reverse,if dW ps gs x=true then D++[x]else D,P++[x],S0++(eV gs x.2 (cy ps gs x.1)).reverse,rfl,⟨λc u h=>(jg (m4 h)).trans (r _ _ (s6 _ _ h)),?_,(jg ag).trans (r _ _ ao),by rw[jw,vj,List.map_reverse],cg.mono au av,?_,?_,?_,?_,aL,?_,?_,?_⟩,?_⟩
  .rw[WI a2];exact(jg af).trans (r _ _ am)
  .exact cg.app (cg.mono ay av) (cg.mono (cg.rev hw) λc y h=>(jg (a5 (s8 _ _ h))).trans (s8 _ _ h))
  .rw[List.reverse_append,List.reverse_reverse,flatMap_append,<-J];by_cases lf:dW ps gs x=true
   .have c2:cy ps gs x.1=[]:=isEmpty_iff.mp lf;rw[vd lf,c2,JE (.inr c2),List.append_assoc];rfl
   .have c2:¬(gs∘x.1<=x.2\/cy ps gs x.1=[]):=λh=>h.elim ⋯ λe=>lf (isEmpty_iff.mpr e)
    rw[vc lf,Qi W c2]
  .intro y hy;rcases vh.mp hy with h | h
   .exact az y h
   .have h:=List.mem_reverse.mp h;have:=ZB W h;exact⟨⋯,kQ (λq hq=>N.fk hq) h⟩
  .rw[filter_append,hP];by_cases lf:dW ps gs x=true
   .rw[vd lf,filter_append,filter_cons_of_pos lf,filter_cons_of_pos (by rw[a2];rfl)];rfl
   .rw[vc lf,filter_cons_of_neg lf];exact append_nil _
  .have:=wy W (i:=x.1) (t:=x.2) c1;rw[vj,sum_append,List.map_reverse,List.sum_reverse,vn];show ⇑P+1+_<=_;lia
  .rw[WI a2];exact ll
  .rw[WI a2];exact hb
  .have:=wy W (i:=x.1) (t:=x.2) c1;rw[vj,sum_append,List.map_reverse,List.sum_reverse];lia
 .have a3:iL gs x=true:=vG ⋯;have hE:E[x.1]?=some (E.getD x.1 []):=by rw[vy,vz ⋯];rfl
  let⟨ae,aN,bs,a0,aG⟩:=A.ea.get hE;have aj:=Yi W ⋯ A.eo x.1;have eb:=Ai N lE A.eo x1;have a4:=s5 _ _ a0;exists⟨a,_,dx,_,_,rfl,aE,T.Jk,T.Ze,GA,?_⟩;exists cp n ?_;exists cm (bZ.of (s5 _ _ A.hl)) (yz (i:=(x.1:Int)) ⋯ aN) ?_;refine⟨ae,rfl,⟨_,bZ.of a4⟩,?_⟩;have aV:=aG.1;have aT:ae≠p1:=m1 a0;refine Ji (xs:=bs.map V.ref) (λk σ H7=>gw λ(M O:N3)=>eD (σ=[↥a,~~~t0,↥p1,↥p2,↥p4,↥l,M,O]) (∀c u,c≠p1->H5 c=some u->H7 c=some u) (H7 p1=some (.lst ((dY ((E.getD x.1 []).take k) (lY U gs E D)).map V.int))) (⇑(dY ((E.getD x.1 []).take k) (lY U gs E D))=⇑U/\(∀h∈dY ((E.getD x.1 []).take k) (lY U gs E D),0<=h/\h<=10^18)))
   ⟨_,_,rfl,λc u _ h=>h,Y,ll,hb⟩ ?_ ?_ ?_
  .rintro k σ H7 _ ⟨M,O,rfl,f,I,_⟩;exact bZ.of (f _ _ aT a4)
  .rintro k v σ H7 hv ⟨M,O,rfl,f,I,L,Z⟩;let⟨c',y,rfl,hy,aB⟩:=aG.cF hv;have aC:=vm hy;have yb:=aj y aC;have yh:=eb y aC;refine Qh (cU.of (f _ _ (m1 aB) (s5 _ _ aB))) ?_;ac_nf;have R:dY ((E.getD x.1 []).take (k+1)) (lY U gs E D)=(dY ((E.getD x.1 []).take k) (lY U gs E D)).set y.1.toNat y.2:=by
    unfold dY;rw[take_snoc hy,foldl_append];rfl
   refine⟨p1,_,_,y.1.toNat,rfl,rfl,I,DM yb.1 (by rw[vt,L];exact yb.2),?_⟩;refine⟨_,_,rfl,λc u hc h=>(jg hc).trans (f _ _ hc h),jw.trans ?_,by rw[R,length_set];exact L,λh hh=>?_⟩
   .rw[R,List.map_set]
   .rw[R]at hh;rcases List.mem_or_eq_of_mem_set hh with z | z
    .exact Z h z
    .rw[z];exact yh
  rintro S' H7 ⟨M,O,rfl,f,I,L,Z⟩;rw[vt,aV,v3]at I L Z;have aD:∀{c:Addr} {xs:N2},H5 c=some (.tup xs)->c≠p1:=λh z=>by rw[z,Y]at h;cases h
  have aF:gs∘x.1<=x.2:=⋯
  refine⟨_,_,_,d,b,D++[x],P,S0,rfl,⟨λc u h=>f _ _ (m1 h) (s5 _ _ h),?_,f _ _ ad.symm C,f _ _ af.symm a7,cg.mono aa λc y h=>f _ _ (aD h) h,cg.mono ab λc y h=>f _ _ (aD h) h,?_,az,?_,bP,⋯,?_,?_⟩,⋯⟩
  .rw[WJ a3];exact I
  .rw[<-J,JE (.inl aF),List.append_assoc]
  .rw[hP,filter_append,filter_cons_of_neg (by rw[a3];decide)];exact(append_nil _).symm
  .rw[WJ a3];exact L
  .rw[WJ a3];exact Z
def Y5(T:Txt K mg t)(a3:1<*t.Xo t.XD ["start","goal","beats","j"] (Pr.Cj))(qV:3<*t.Qv t.Qw ["self","beat"] (fG t.Jg)):4<*t.qH t.qK ["self","beat"] (fq t.Jg):=by
 specialize T.ko.ok Jj;let⟨a,z,d,f,I,hs,E,L,rfl,A,N,t1,t2,q⟩:=h;refine⟨_,(jb (cz 2 Jj.nd (Zf (pv 0) T.Jk T.Ym (qV.mono nofun) hr T.Y6 .nil dG (ja (pv 1) jc)))
  (jb (cz 3 Jj.nd (jk jv (pv 2) jd))
  (jb (Jd PassesOwn.never rfl (jQ (jk jv (pv 2) jd)) (J1 rfl (jA (cN 4 Jj.nd) (jA (cN 5 Jj.nd) Jw)))
   (jb (cz 6 Jj.nd (jk ju (jM (pv 0) rfl) (pv 4)))
   (jf (Ja (jr Jr (jk jv (pv 6) jd) jI (bY _))
    (jb (cz 7 Jj.nd (qj (qS hr) (jM (pv 0) rfl) (jk jv (pv 6) jd)))
    (jf (kK (jh T.CT a3 hr (ja (jk ju (pv 3) (pv 7)) (ja (jk jv (pv 6) jd) (ja (jk jv (pv 6) jd) (ja (pv 5) jc))))) (wE (pv 3) (pv 7) set_list))))
    jB))))
  (jf (jx (pv 3)))))),?_⟩
 rotate_right 206
 have W:=N.s.w;have lE:=A.el;let⟨dx,ob⟩:=A.ob;exists⟨a,dx,_,rfl,ob,XI ∅ ∅ ∅ ∅ ∅ ∅,?_⟩;exists⟨a,z,d,f,I,hs,E,L,rfl,A,N,t1,t2,λr R l2 as P H1 s1 X a5 er h1 C m h2 a4 gP pl bP hP=>?_⟩;have a1:=Ep N lE A.eo t1 hP;exists cp er ?_;exists cp er ?_;have m1:∀{c u},H c=some u->c≠R:=λh=>je h X
 have al:=gP.1;refine⟨l2,rfl,⟨_,bZ.of h2⟩,?_⟩;refine Ji (xs:=as.map V.ref) (λi σ l=>gz λ(o4 o5 o6 o7:N3)=>eD (σ=[↥a,~~~L,↥r,↥R,o4,o5,o6,o7]) (∀c u,c≠R->H1 c=some u->l c=some u) (l R=some (.lst (((P.take i).foldl (lG d f) (iD d f I E L)).map V.int))) (⇑((P.take i).foldl (lG d f) (iD d f I E L))=⇑d/\(∀h∈((P.take i).foldl (lG d f) (iD d f I E L)),0<=h/\h<=10^18)))
  ⟨_,_,_,_,rfl,λc u _ h=>h,h1,C,m⟩ ?_ ?_ ?_
 .rintro i σ l _ ⟨o4,o5,o6,o7,rfl,J,D,_⟩;exact bZ.of (J _ _ a4.symm h2)
 .rintro i v σ l hv ⟨o4,o5,o6,o7,rfl,J,D,C,m⟩;let⟨c,x,rfl,hx,S⟩:=gP.cF hv;let⟨x1,x0,x2⟩:=bP x (vm hx);obtain⟨p,hp⟩:∃p,f[x.1]?=some p:=⟨_,vz x1⟩
  let⟨fb,a0,hf⟩:=A.fo.get hp;have Y:(P.take (i+1)).foldl (lG d f) (iD d f I E L)=lG d f ((P.take i).foldl (lG d f) (iD d f I E L)) x:=by
   rw[take_snoc hx,foldl_append];rfl
  rw[Y];generalize(P.take i).foldl (lG d f) (iD d f I E L)=hts at D C m|-;have Z:∀{c u},H c=some u->l c=some u:=λh=>J _ _ (m1 h) (s1 _ _ h)
  have nc:c≠R:=λz=>by rw[z,h1]at S;cases S
  have M:ck l fb p.2:=ck.put (λb xs m=>Z m) hf;refine Qh (cU.of (J _ _ nc S)) ?_;exists⟨a,_,dx,_,_,rfl,Z ob,T.Jk,T.Qx,xN,?_⟩;exists cm (bZ.of (Z A.ho)) (yz (i:=(x.1:Int)) ⋯ a0) ?_;ac_nf;by_cases O:∃y v n,p.2 = .rise y v n
  .let⟨y,v,n,e⟩:=O;rw[e]at M;have B:f[x.1]?=some (p.1,.rise y v n):=by rw[hp,<-e]
   let⟨k,U⟩:=W.r x.1 p.1 y v n B;have ek:=JQ W.ln U;have kl:k<⇑d:=by have:=(vx.mp U).1;rw[bW,vt]at this;exact this
   have o:l fb=some (.tup [.str "raise",.str y,.int v,.int n]):=M;have gx:I∘x.1=n:=((N.s.ln x.1 (p.1,.rise y v n) B).2 n (show iQ (.rise y v n) _ n from rfl)).symm;have eA:lG d f hts x=hts.set k (Rp.ramp (hts∘k) v n x.2):=by
    unfold lG;rw[B];show hts.set (cP (bW d) y) (Rp.ramp (hts∘(cP (bW d) y)) v n x.2)=_;rw[ek]
   refine cp o ?_;exists df ?_;exists⟨a,_,dx,_,_,rfl,Z ob,T.Jk,T.zp,Fu,?_⟩;exists cp o ?_;have g:dg l z.d (.str y) (some (.int (k:Nat))):=by
    have g:=dg.k (k:=Sum.inr y) (Z A.hd);rw[Kz W.ln U]at g;exact g
   refine⟨z.d,_,rfl,g,?_⟩;ac_nf;have hh:hts[k]?=some (hts∘k):=by rw[vy,vz ⋯];rfl
   refine cm (bZ.of D) (jJ (j:=k) (by rw[vv,hh];rfl)) ?_;exists cp o ?_;exists cp o ?_;ac_nf;have h0:=m _ (vm hh);let⟨v0,v1,n1,n2⟩:=N.uG x.1 p.1 y v n B;refine⟨_,_,_,_,rfl,by unfold Pr.B4;lia,?_⟩;exists⟨R,_,_,k,rfl,rfl,D,by unfold lF;simp[C,kl],?_⟩;rw[eA];refine⟨_,_,_,_,rfl,λc u S h=>(jg S).trans (J _ _ S h),jw.trans (by rw[List.map_set]),by rw[length_set];exact C,λh a2=>?_⟩;rcases List.mem_or_eq_of_mem_set a2 with z | z
   .exact m h z
   .rw[z];exact Ca h0 ⟨v0,v1⟩ n1 x0 ⋯
  .have eA:lG d f hts x=hts:=by
    unfold lG;rw[hp];let⟨pn,pf⟩:=p;cases pf with
    | rise y v n=>exact uf ⟨y,v,n,rfl⟩ O
    | _=>rfl
   let⟨k,xs,U,dk⟩:=Bp M λy v n e=>O ⟨y,v,n,e⟩
   refine iI (cU.of U) (nF) ?_;exists c8 dk ?_;ac_nf;rw[eA];exact⟨_,_,_,_,rfl,J,D,C,m⟩
 rintro S' l ⟨o4,o5,o6,o7,rfl,J,D,C,m⟩;rw[vt,al,v3,a1]at D C;ac_nf;exact q R l (λc u h=>J _ _ (m1 h) (s1 _ _ h)) X D C
def Gq(T:Txt K mg t)(x:6<*t.JX t.qx ["self","book"] (gm t.Jg))(y:4<*t.qH t.qK ["self","beat"] (fq t.Jg)):8<*t.Xq t.XF ["book","beat"] (gU):=by
 specialize T.Cu.F.ok Hq;let⟨b,O,R,e,f,k,m,g,j,U,rfl,B,N,W,X,q⟩:=h;refine⟨_,(jf (jx (Zf (YZ T.Cv (x.mono nofun) hr (by rfl) T.Bu T.Z0 .nil dG (ja (pv 0) jc)) T.Jk T.Y3 (y.mono nofun) hr T.kj .nil dG (ja (pv 1) jc)))),?_⟩;refine jz (S':=[some _,some _]) rfl ?_
 try dsimp only[eF,Cx.lu]
 ac_nf;intro o a i d Y;have n:bX H (upd (upd H a (.own o)) o (.ins t.Jg a [])):=λc u h=>(jg (je h i)).trans ((jg (je h d)).trans h)
 refine⟨o,a,b,O,R,e,f,k,m,g,j,rfl,jw,B.same n,N,λz E r J A=>⟨rfl,?_⟩⟩;let⟨C,M⟩:=A.ob;have p:bX H r:=λc u h=>J _ _ (je h i) (n _ _ h)
 refine⟨o,C,_,rfl,M,XI ∅ ∅ ∅ ∅ ∅ ∅,?_⟩;exists⟨o,z,k,m,g,j,E,U,rfl,A,N,W,X,λl v S I D L=>?_⟩;exact q l E v (p.trans S) (none_of p I) A.el A.eo D L
def KC(T:Txt K mg t)(qV:3<*t.Qv t.Qw ["self","beat"] (fG t.Jg)):4<*t.Qm t.Qn ["self","beat"] (gX t.Jg):=by
 specialize T.KU.ok qp;let⟨a,z,ls,j,gs,hs,E,t0,rfl,A,N,t1,t2,q⟩:=h;refine⟨_,(jb (cz 2 qp.nd (jP jc))
  (jb (Jd PassesOwn.never rfl (jQ (jk jv (Zf (pv 0) T.Jk T.Ym (qV.mono nofun) hr T.Y6 .nil dG (ja (pv 1) jc)) jd)) (J1 rfl (jA (cN 3 qp.nd) (jA (cN 4 qp.nd) Jw)))
   (jb (cz 5 qp.nd (jk ju (jM (pv 0) rfl) (pv 3)))
   (jf (Ja (PW.pt (Q1 (jr Jr (jk jv (pv 5) jd) jI (bY _)) (QC (jr Jr (pv 4) jd (bY _)))))
    (jf (j5 (JP q4 q5 q7 jO (pv 2) (ja (jk jv (pv 5) jd) jc))))
    jB))))
  (jf (jx (pv 2))))),?_⟩
 rotate_right 204
 let⟨dx,ob⟩:=A.ob;exists⟨va _,?_⟩;walk_at"f p1 hp1 H0 s0 e0";exists⟨a,dx,_,rfl,s0 _ _ ob,XI ∅ ∅ ∅ ∅ ∅ ∅,?_⟩;exists⟨a,z,ls,j,gs,hs,E,t0,rfl,A.same s0,N,t1,t2,λr l1 l2 as P H1 s1 a1 L C R ll hb h2 a2 gP pl bP hP=>?_⟩;have I:=Eo N hP;have M:=s0.trans s1;have e1:=s1 _ _ e0;have m1:∀{c u},H c=some u->c≠p1:=λh=>je h hp1
 have n2:l2≠p1:=λe=>by rw[e,e0]at L;cases L
 have al:=gP.1;have wl:∀xs:L3,⇑(xs.flatMap (cV j))<=⇑xs:=λxs=>by
  induction xs with
  | nil=>exact vb _
  | cons x r ih=>
   rw[flatMap_cons,vn,vP];have:⇑(cV j x)<=1:=by
    unfold cV;split
    .split<;>simp
    .exact va _
   lia
 exists cp C ?_;refine⟨l2,rfl,⟨_,bZ.of h2⟩,?_⟩;refine Ji (xs:=as.map V.ref) (λi σ m=>iU λ(S U W:N3)=>d0 (σ=[↥a,~~~t0,↥p1,S,U,W]) ((∀c u,c≠p1->H1 c=some u->m c=some u)/\m p1=some (.lst (((P.take i).flatMap (cV j)).map V.str))))
  ⟨_,_,_,rfl,λc u _ h=>h,e1⟩ ?_ ?_ ?_
 .rintro i σ m _ ⟨S,U,W,rfl,o,B⟩;exact bZ.of (o _ _ n2 h2)
 .rintro i v σ m hv ⟨S,U,W,rfl,o,B⟩;let⟨c,x,rfl,hx,D⟩:=gP.cF hv;have hi:=(vx.mp hx).1;let⟨x1,x0,x2⟩:=bP x (vm hx);obtain⟨p,Z⟩:∃p,j[x.1]?=some p:=⟨_,vz x1⟩
  let⟨Y,X,hf⟩:=A.fo.get Z;have l:(P.take (i+1)).flatMap (cV j)=(P.take i).flatMap (cV j)++cV j x:=by
   rw[take_snoc hx,flatMap_append,flatMap_cons,flatMap_nil,append_nil]
  have n3:∀{c u},H c=some u->m c=some u:=λh=>o _ _ (m1 h) (M _ _ h)
  have nc:c≠p1:=λz=>by rw[z,e1]at D;cases D
  have g:ck m Y p.2:=ck.put (λb xs hb=>n3 hb) hf;refine Qh (cU.of (o _ _ nc D)) ?_;exists⟨a,_,dx,_,_,rfl,n3 ob,T.Jk,T.Qx,xN,?_⟩;exists cm (bZ.of (n3 A.ho)) (yz (i:=(x.1:Int)) ⋯ X) ?_;ac_nf;by_cases d:∃y n,p.2 = .ring y n
  .let⟨y,n,C⟩:=d;rw[C]at g;have J:m Y=some (.tup [.str "ring",.str y,.int n]):=g;have O:cV j x=if x.2=0 then[y]else[]:=by
    unfold cV;rw[Z];let⟨pn,pf⟩:=p;have C:pf = .ring y n:=C;subst C;rfl
   refine cp J ?_;exists df ?_;exists cC (λc=>?_) (λc=>?_)
   .exists⟨.inl ⟨rfl,_,bZ.of B⟩,?_⟩;exists cp J ?_;have:=wl (P.take i);rw[vi]at this;refine⟨p1,_,_,rfl,rfl,B,by rw[vt];lia,?_⟩;refine⟨_,_,_,rfl,λc u D h=>(jg D).trans (o _ _ D h),jw.trans ?_⟩;rw[l,O,vd c,vj];rfl
   .exists⟨_,_,_,rfl,o,?_⟩;rw[l,O,vc c,append_nil];exact B
  .have O:cV j x=[]:=by
    unfold cV;rw[Z];let⟨pn,pf⟩:=p;cases pf with
    | ring y n=>exact uf ⟨y,n,rfl⟩ d
    | _=>rfl
   have a0:∃k xs,m Y=some (.tup (.str k::xs))/\decide (k=("ring" : Str))=false:=by
    generalize p.2=f at g d;cases f with
    | hold n=>exact⟨_,_,g,by trivial⟩
    | ring y n=>exact uf ⟨y,n,rfl⟩ d
    | rise y v n=>exact⟨_,_,g,by trivial⟩
    | row j=>let⟨b',R,_⟩:=g;exact⟨_,_,R,by trivial⟩
    | side j=>let⟨b',R,_⟩:=g;exact⟨_,_,R,by trivial⟩
    | again k y=>exact⟨_,_,g,by trivial⟩
   let⟨k,xs,hk,dk⟩:=a0;refine iI (cU.of hk) (nF) ?_;exists c8 dk ?_;exists⟨_,_,_,rfl,o,?_⟩;rw[l,O,append_nil];exact B
 rintro S' m ⟨S,U,W,rfl,o,B⟩;rw[vt,al,v3,I]at B;ac_nf;have w1:=wl P;rw[I]at w1;exact q p1 m (λc u h=>o _ _ (m1 h) (M _ _ h)) hp1 B ⋯
def Gp(T:Txt K mg t)(x:6<*t.JX t.qx ["self","book"] (gm t.Jg))(y:4<*t.Qm t.Qn ["self","beat"] (gX t.Jg)):8<*t.Xp t.XE ["book","beat"] (gR):=by
 specialize T.Ct.F.ok Ho;let⟨b,O,R,e,f,k,m,g,j,U,rfl,B,N,W,X,q⟩:=h;refine⟨_,(jf (jx (Zf (YZ T.Cv (x.mono nofun) hr (by rfl) T.Bu T.Z0 .nil dG (ja (pv 0) jc)) T.Jk T.Kx (y.mono nofun) hr T.KQ .nil dG (ja (pv 1) jc)))),?_⟩;refine jz (S':=[some _,some _]) rfl ?_
 try dsimp only[eF,Cx.lu]
 ac_nf;intro o a i d Y;have n:bX H (upd (upd H a (.own o)) o (.ins t.Jg a [])):=λc u h=>(jg (je h i)).trans ((jg (je h d)).trans h)
 refine⟨o,a,b,O,R,e,f,k,m,g,j,rfl,jw,B.same n,N,λz E r J A=>⟨rfl,?_⟩⟩;let⟨C,M⟩:=A.ob;have p:bX H r:=λc u h=>J _ _ (je h i) (n _ _ h)
 refine⟨o,C,_,rfl,M,XI ∅ ∅ ∅ ∅ ∅ ∅,?_⟩;exists⟨o,z,k,m,g,j,E,U,rfl,A,N,W,X,λl v S I D L=>?_⟩;exact q l v (p.trans S) (none_of p I) D L
def xg(T:Txt K mg t):1<*t.zU t.Za ["_law_found"] (Pr.BR):=by
 refine T.qC.F.ok xt (λc H Q E h=>?_) (λb A a s H c Q E d h=>?_)
 .let⟨i,rfl,q⟩:=h;rfl
 let⟨i,rfl,q⟩:=h;refine⟨_,(jf (jx (Df (jD BE (by rfl) T.Kj Y8 (ja (pv 0) (ja (B3 (v:=.ty "int") (by rfl) T.JW HZ rfl) jc))) (Dg (LB (jD BE (by rfl) T.Kj Y8 (ja (pv 0) (ja (B3 (v:=.ty "bool") (by rfl) T.HX G7 rfl) jc)))))))),?_⟩;refine jz (S':=[some _]) rfl ?_
 try dsimp only[eF,Cx.lu]
 exists⟨_,_,_,_,rfl,.int i,FC,?_⟩;exists dP ?_;exists⟨_,_,_,_,rfl,.int i,Ed,?_⟩;ac_nf;exact q
def W7(T:Txt K mg t)(qE:10<*t.zW t.Zc ["book","limb","beat"] (hL))(JY:10<*t.QV t.QX ["book","limb","height","beat"] (fE))(qG:8<*t.zX t.Zd ["book","word","beat"] (gq))(Xl:8<*t.Xq t.XF ["book","beat"] (gU))(Xk:8<*t.Xp t.XE ["book","beat"] (gR))(qc:1<*t.zU t.Za ["_law_found"] (Pr.BR)):11<*t.yt t.yC ["_law_book_here","_law_beat"] (gL):=by
 specialize T.kU.F.ok j4;let⟨b,pl,pp,n,o,d,l,g,hs,x0,f0,a,rfl,Bk,N,fw,av,aw,l1,l8,S,b1,q⟩:=h;refine⟨_,(jb (cz 2 j4.nd (jh T.Cu Xl hr (ja (pv 0) (ja (pv 1) jc))))
  (jb (cz 3 j4.nd (jh T.Ct Xk hr (ja (pv 0) (ja (pv 1) jc))))
  (jb (Jd PassesOwn.never rfl (jQ (Em rfl (by rfl) T.BC (by rfl) T.KW (jP (ja (jo Je (pv 1) (jD jX (by rfl) T.qg Jt (ja (jk jv (pv 0) jd) jc))) (ja (jo Je (jo jL (pv 1) jd) (jD jX (by rfl) T.qg Jt (ja (jk jv (pv 0) jd) jc))) jc))))) (cN 4 j4.nd)
   (jb (cz 5 j4.nd (jk jv (jk ju (jk jv (pv 0) jd) (pv 4)) jd))
   (jb (cz 6 j4.nd (jh T.zP qE hr (ja (pv 0) (ja (pv 5) (ja (pv 1) jc)))))
   (jb (cz 7 j4.nd (jh T.zP qE hr (ja (pv 0) (ja (pv 5) (ja (jo jL (pv 1) jd) jc)))))
   (jb (Ja (PW.pt (WR (ZW (Yr (jh T.qC qc hr (ja (pv 6) jc)))) (WS (ZW (Yr (jh T.qC qc hr (ja (pv 7) jc)))))))
    (jf (jx kc))
    jB)
   (jb (Ja (jr sN (jo Jm (pv 7) (pv 6)) (jk ju (pv 2) (pv 4)) (bY _))
    (jf (jx kc))
    jB)
   (jf (Jd PassesOwn.never rfl (jQ (jP (ja jd (ja jd jc)))) (cN 8 j4.nd)
    (jb (cz 9 j4.nd (jo jL (jk ju (pv 2) (pv 4)) (pv 8)))
    (jb (cz 6 j4.nd (jh T.QO JY hr (ja (pv 0) (ja (pv 5) (ja (pv 9) (ja (pv 1) jc))))))
    (jb (cz 7 j4.nd (jh T.QO JY hr (ja (pv 0) (ja (pv 5) (ja (pv 9) (ja (jo jL (pv 1) jd) jc))))))
    (jf (Ja (PW.pt (WR (ZW (Yr (jh T.qC qc hr (ja (pv 6) jc)))) (WR (ZW (Yr (jh T.qC qc hr (ja (pv 7) jc)))) (WS (jr sN (jo Jm (pv 7) (pv 6)) (jo Jm jd (pv 8)) (bY _))))))
     (jf (jx kc))
     jB)))))))))))))
  (jb (Jd PassesOwn.never rfl (jQ (jP (ja jI (ja jI (ja (jk jv (jk ju (jk jv (pv 0) jd) jd) jd) jc))))) (jt (i:=10) j4.nd rfl (.inr rfl))
   (jb (cz 11 j4.nd (jD jX (by rfl) T.qg Jt (ja (JR (ow:=["_law_one"]) (ci:=[10]) rfl (cj.of (bV Zh) ["_law_book_here","_law_beat","_law_heights","_law_words","_law_k","_law_limb","_law_ahead","_law_behind","_law_more","_law_height","_law_word_here","_law_due"] rfl rfl ∅) (qi nofun) (jQ (pv 3)) (λ_ _ _ _ _=>⟨(cN 0 (Jy ["_law_book_here","_law_beat","_law_heights","_law_words","_law_k","_law_limb","_law_ahead","_law_behind","_law_more","_law_height","_law_word_here","_law_due"] rfl ∅)),(wD (jr Jr (pv 0) (pv 1) (bY _))),(pv 0)⟩)) jc)))
   (jb (cz 6 j4.nd (jh T.zQ qG hr (ja (pv 0) (ja (pv 10) (ja (pv 1) jc)))))
   (jb (cz 7 j4.nd (jh T.zQ qG hr (ja (pv 0) (ja (pv 10) (ja (jo jL (pv 1) jd) jc)))))
   (jf (Ja (PW.pt (WR (ZW (Yr (jh T.qC qc hr (ja (pv 6) jc)))) (WR (ZW (Yr (jh T.qC qc hr (ja (pv 7) jc)))) (WS (jr sN (jo Jm (pv 7) (pv 6)) (pv 11) (bY _))))))
    (jf (jx kc))
    jB))))))
  (jf (jx kc)))))),?_⟩
 rotate_right 210
 have sz:(20000:Nat)<sizeLine:=by decide
 exists⟨b,pl,pp,n,o,d,l,g,hs,a,rfl,Bk,N,S,b1,λlh E H1 s1 _ lE oE eh hl=>?_⟩;have B:=Bk.same s1;exists⟨b,pl,pp,n,o,d,l,g,hs,a,rfl,B,N,S,b1,λlw H2 s2 _ ew wl=>?_⟩;have O:=B.same s2;ac_nf;have a4:=Bk.la.1;refine Li ?_;exists cp O.t ?_;refine⟨_,_,rfl,.inl ⟨_,bZ.of O.l,rfl⟩,?_⟩;rw[vt,a4];exists cp O.t ?_;refine⟨_,_,rfl,.inl ⟨_,bZ.of O.l,rfl⟩,?_⟩;rw[vt,a4];exists⟨ud,?_⟩;sleep 3;refine⟨p3,[a%(⇑d:Int),(a+1)%(⇑d:Int)],[a%(⇑d:Int),(a+1)%(⇑d:Int)],rfl,bZ.of t3,by show 2<=4;decide,λy hy=>hy,?_⟩;have m0:=ve a (show(⇑d:Int)≠0 by lia);have m1:=vf a (show(0:Int)<(⇑d:Int) by lia);have m2:=ve (a+1) (show(⇑d:Int)≠0 by lia);have m3:=vf (a+1) (show(0:Int)<(⇑d:Int) by lia);intro l4 ms as _ mm;generalize a2:upd H3 l4 _=H4;have s4:bX H3 H4:=Af as a2;have t4:H4 l4=some (.lst (ms.map V.int)):=by rw[<-a2];exact jw
 clear a2;have mk:∀y∈ms,0<=y/\y<(⇑d:Int):=λy hy=>by
  have:=(mm y).mp hy;rcases mem_cons.mp this with rfl | h
  .exact⟨m0,m1⟩
  .rw[vo.mp h];exact⟨m2,m3⟩
 clear m0 m1 m2 m3 mm;have a7:bX H2 H4:=s3.trans s4;exists⟨l4,rfl,⟨_,bZ.of t4⟩,?_⟩;refine Ji (xs:=ms.map V.int) (λi r C=>mu λ(o4 o5 L M Y Z:N3)=>r=[↥b,~~~a,↥lh,↥lw,o4,o5,L,M,Y,Z,none,none]/\bX H4 C) ⟨_,_,_,_,_,_,rfl,bX.refl _⟩ ?_ ?_ ?_
 .rintro i r C _ ⟨o4,o5,L,M,Y,Z,rfl,sm⟩;exact bZ.of (sm _ _ t4)
 .rintro i v r H5 J ⟨o4,o5,L,M,Y,Z,rfl,sm⟩;rw[vv]at J;let⟨y,hy,rfl⟩:=vg.mp J;let⟨y0,y1⟩:=mk y (vm hy);obtain⟨k,rfl⟩:∃k:Nat,y=(k:Int):=⟨y.toNat,⋯⟩
  have kl:k<⇑d:=⋯
  clear hy y0 y1;obtain⟨x,f,hk⟩:∃(x:Str) (f:Int),d[k]?=some (x,f):=⟨_,_,vz kl⟩
  have D:=s2.trans (a7.trans sm);have e:=B.same D;let⟨lk,au,ao⟩:=e.la.get hk;have ac:H5 lk=some (.tup [.str x,.int f]):=ao;have aI:=D _ _ eh;have hI:=ry N lE oE hk S;have ad:((cL d l g E a).map V.int)[k]?=some (.int ((cL d l g E a).getD k 0)):=by rw[vv,vz ⋯,vy,vz ⋯];rfl
  exists cp e.t ?_;exists cm (bZ.of e.l) (jJ (j:=k) (by rw[vv,au];rfl)) ?_;exists cp ac ?_;exists⟨b,pl,pp,n,o,d,l,g,hs,x,f,k,a,rfl,e,N,hk,S,⋯,λE6 H6 s6 ax aA=>?_⟩;obtain rfl:=oq N.s.w ax aA lE oE;have a9:=e.same s6;exists⟨b,pl,pp,n,o,d,l,g,hs,x,f,k,a+1,rfl,a9,N,hk,⋯,⋯,λE7 H7 s7 ay aB=>?_⟩;obtain rfl:=oq N.s.w ay aB lE oE;have aa:=a9.same s7;rw[Cn S];exists⟨_,rfl,true,rfl,?_⟩;refine c8 rfl ?_;exists⟨_,rfl,true,rfl,?_⟩;refine c8 rfl ?_;ac_nf;have a1:=D.trans (s6.trans s7);have an:=a1 _ _ eh;refine cm (bZ.of an) (jJ (j:=k) ad) ?_;rw[show wA none ((cL d l g E a).getD k 0)=(cL d l g E a).getD k 0 from rfl];exists g7 (λc=>uf (show pN d l g E k none a+(cL d l g E a).getD k 0-pN d l g E k none a=(cL d l g E a).getD k 0 by lia) c) (λ_=>?_);exists⟨ud,?_⟩;sleep 8;have aE:=a1.trans s8;refine⟨p8,rfl,⟨_,bZ.of t8⟩,?_⟩;refine Ji (xs:=[V.int 0,V.int 1]) (λi r C=>gz λ(L M Y Z:N3)=>r=[↥b,~~~a,↥lh,↥lw,some (.int (k:Nat)),some (.str x),L,M,Y,Z,none,none]/\bX H8 C) ⟨_,_,_,_,rfl,bX.refl _⟩ ?_ ?_ ?_
  .rintro i r C _ ⟨L,M,Y,Z,rfl,p⟩;exact bZ.of (p _ _ t8)
  .rintro i v r H9 J ⟨L,M,Y,Z,rfl,p⟩;obtain⟨m,rfl,az⟩:∃m:Int,v = .int m/\(m=0\/m=1):=by
    have:=vm J;rcases mem_cons.mp this with rfl | h
    .exact⟨0,rfl,.inl rfl⟩
    .exact⟨1,vo.mp h,.inr rfl⟩
   clear J;have ak:=aE.trans p;have R:=B.same ak;exists cm (bZ.of (ak _ _ eh)) (jJ (j:=k) ad) ?_;exists⟨b,pl,pp,n,o,d,l,g,hs,x,f,k,_,a,rfl,R,N,hk,⋯,⋯,S,⋯,λaF al a0 af ah=>?_⟩;obtain rfl:=oq N.s.w af ah lE oE;have a8:=R.same a0;exists⟨b,pl,pp,n,o,d,l,g,hs,x,f,k,_,a+1,rfl,a8,N,hk,⋯,⋯,⋯,⋯,λaG aH aD ag ai=>?_⟩;obtain rfl:=oq N.s.w ag ai lE oE;rw[Cn S];exists⟨_,rfl,true,rfl,?_⟩;refine c8 rfl ?_;exists⟨_,rfl,true,rfl,?_⟩;refine c8 rfl ?_;ac_nf;have ap:wA (some ((cL d l g E a).getD k 0+m)) ((cL d l g E a).getD k 0)=1-m:=by
    unfold wA;dsimp only;rcases az with rfl | rfl
    .rw[vd ⋯];rfl
    .rw[vc ⋯];rfl
   rw[ap];refine g7 (λc=>uf ⋯ c) (λ_=>?_);ac_nf;exact⟨_,_,_,_,rfl,p.trans (a0.trans aD)⟩
  .rintro r H9 ⟨a5,a6,aJ,aK,rfl,p⟩;ac_nf;exact⟨_,_,_,_,_,_,rfl,sm.trans (s6.trans (s7.trans (s8.trans p)))⟩
 rintro r H5 ⟨o4,o5,L,M,Y,Z,rfl,sm⟩;have D:=s2.trans (a7.trans sm);have e:=B.same D;have aq:=(a7.trans sm) _ _ ew;ac_nf;let⟨aC,ae,am,I,_⟩:=e.pa.get av;have I:H5 aC=some (.tup [.str x0,.ref am]):=I;refine cp e.t ?_;exists cm (bZ.of e.p) (jJ (j:=0) (by rw[vv,ae];rfl)) ?_;exists cp I ?_;exists⟨uc,?_⟩;sleep 6;have aj:=D.trans s6;have ar:=s6 _ _ aq;clear mk a4 l1 l8;refine⟨p6,rfl,⟨_,bZ.of t6⟩,?_⟩;refine Ji (xs:=[V.str "ding",V.str "dong",V.str x0]) (λi r C=>gz λ(L M U X:N3)=>r=[↥b,~~~a,↥lh,↥lw,o4,o5,L,M,Y,Z,U,X]/\bX H6 C) ⟨_,_,_,_,rfl,bX.refl _⟩ ?_ ?_ ?_
 .rintro i r C _ ⟨a5,a6,U,X,rfl,p⟩;exact bZ.of (p _ _ t6)
 .rintro i v r H7 J ⟨a5,a6,U,X,rfl,p⟩;obtain⟨x,rfl,hx⟩:∃x:Str,v = .str x/\Ws.ff x=true:=by
   have:=vm J;rcases mem_cons.mp this with rfl | h
   .exact⟨_,rfl,by trivial⟩
   rcases mem_cons.mp h with rfl | h
   .exact⟨_,rfl,by trivial⟩
   .exact⟨_,vo.mp h,aw⟩
  clear J;have a1:=aj.trans p;have aa:=B.same a1;have a3:=p _ _ ar;have rs:=Fb N x S b1;generalize dE l g a=W at a3 wl rs;exists⟨lw,rfl,⟨_,bZ.of a3⟩,?_⟩;refine JA (xs:=W.map V.str) (λu ys C=>ys=((W.take u).filter λz=>decide (z=x)).map V.str/\H7=C) ⟨rfl,rfl⟩ ?_ ?_ ?_
  .rintro u ys C _ ⟨rfl,rfl⟩;exact bZ.of a3
  .rintro u v ys C J ⟨rfl,rfl⟩;rw[vv]at J;let⟨z,hz,rfl⟩:=vg.mp J;refine qb (S':=[none,some (.str x)]) rfl ?_;exists cC (λc=>?_) (λc=>?_)
   .ac_nf;have lf:=length_filter_le (λz=>decide (z=x)) (W.take u);have lt:=List.length_take_le' u W;refine⟨by rw[vt];lia,?_,rfl⟩;rw[take_snoc hz,filter_append,vj];congr 1;simp[c]
   .refine⟨?_,rfl⟩;rw[take_snoc hz,filter_append,filter_cons_of_neg (by rw[vH c];decide)];show _=List.map V.str (_++[]);rw[append_nil]
  rintro ys C ⟨rfl,rfl⟩;rw[show(W.map V.str).length=⇑W from vt _,v3];have lf:=length_filter_le (λz=>decide (z=x)) W;refine⟨by rw[vt];lia,?_⟩;sleep 8;have ec:(⇑(W.filter λz=>decide (z=x)):Int)=((W.count x:Nat):Int):=by
   rw[List.count_eq_length_filter];congr 2
  exists⟨_,_,rfl,.inl ⟨_,bZ.of t8,rfl⟩,?_⟩;rw[vt,ec];have ab:=aa.same s8;exists⟨b,pl,pp,n,o,d,l,g,hs,x,a,rfl,ab,N,hx,fw,S,⋯,λH9 s9=>?_⟩;have R:=ab.same s9;exists⟨b,pl,pp,n,o,d,l,g,hs,x,a+1,rfl,R,N,hx,fw,⋯,⋯,λal a0=>?_⟩;exists⟨_,rfl,true,rfl,?_⟩;refine c8 rfl ?_;exists⟨_,rfl,true,rfl,?_⟩;refine c8 rfl ?_;ac_nf;rw[rs];refine g7 (λc=>uf rfl c) (λ_=>?_);ac_nf;exact⟨_,_,_,_,rfl,p.trans (s8.trans (s9.trans a0))⟩
 rintro r H7 ⟨a5,a6,U,X,rfl,p⟩;ac_nf;exact q _ (s1.trans (aj.trans p))
def Lx(T:Txt K mg t)(qE:10<*t.zW t.Zc ["book","limb","beat"] (hL))(JY:10<*t.QV t.QX ["book","limb","height","beat"] (fE))(qG:8<*t.zX t.Zd ["book","word","beat"] (gq))(zR:2<*t.yp t.yA ["_law_script","_law_j","_law_k"] (gJ K))(y8:6<*t.Ye t.Yg ["_law_script","_law_many","_law_bounds"] (fm K))(yi:3<*t.yv t.yE ["_law_book_here","_law_number"] (gS))(yf:11<*t.yt t.yC ["_law_book_here","_law_beat"] (gL)):12<*t.sO t.rP ["_law_script"] (Pr.gN K):=by
 specialize T.AH.F.ok ZZ;let⟨a,l,rfl,hS,Z,hB,q⟩:=h;refine⟨_,(jb (cz 1 ZZ.nd (jD (K2 rfl) (by rfl) T.sM Wv (ja jd (ja (jD (YO rfl) (by rfl) T.uB Xx (ja (jo Jm (jD jX (by rfl) T.qg Jt (ja (pv 0) jc)) jd) (ja jd jc))) jc))))
  (jb (kK (jh T.wK y8 hr (ja (pv 0) (ja (pv 1) (ja (jP (ja jd (ja (jo zh jd jd) (ja (jo jL (jo zh jd jd) jd) (ja (jo zh jd jd) (ja (jo zh jd jd) jc)))))) jc)))) (J1 rfl (jA (cN 2 ZZ.nd) (jA (cN 3 ZZ.nd) Jw))))
  (jb (cz 4 ZZ.nd (jP (ja jd (ja (jo Jm (pv 3) jd) (ja (pv 3) jc)))))
  (jb (Jd PassesOwn.never rfl (QN (by rfl) T.zY (ja jd jc)) (cN 5 ZZ.nd)
   (jf (j5 (JP q4 q5 q7 jO (pv 4) (ja (jo Je (jh T.ya zR hr (ja (pv 0) (ja (jo jL jd (pv 5)) (ja (jo jL jd (pv 5)) jc)))) (jo jL (pv 3) jd)) jc)))))
  (jb (cz 4 ZZ.nd (jo kI (pv 4) (JR (ow:=["_law_beat"]) (ci:=[]) rfl (cj.of (bV uA) ["_law_script","_law_many","_law_book_here","_law_beats","_law_some","_law_k","_law_beat","_law_limb","_law_height"] rfl rfl ∅) (qi nofun) (jQ (zF Ag (jh T.kY yi hr (ja (pv 2) (ja (jh T.ya zR hr (ja (pv 0) (ja jd (ja jd jc)))) jc))) (Zg (Yo ZA jd)) ZO)) (λ_ _ _ _ _=>⟨(cN 0 (Jy ["_law_script","_law_many","_law_book_here","_law_beats","_law_some","_law_k","_law_beat","_law_limb","_law_height"] rfl ∅)),Qu,(jo Jm (pv 0) jd)⟩))))
  (jb (Jd PassesOwn.never rfl (jQ (pv 4)) (cN 6 ZZ.nd)
   (jf (Ja (ZW (Yr (jh T.kU yf hr (ja (pv 2) (ja (pv 6) jc)))))
    (jf (jx kc))
    jB)))
  (jb (Jd PassesOwn.never rfl (jQ (jk jv (pv 2) jd)) (J1 rfl (jA (cN 7 ZZ.nd) (jA (cN 8 ZZ.nd) Jw)))
   (jf (Ja (PW.pt (WR (jr sN (jh T.zP qE hr (ja (pv 2) (ja (pv 7) (ja jd jc)))) jd (bY _)) (WS (jr sN (jh T.QO JY hr (ja (pv 2) (ja (pv 7) (ja (pv 8) (ja jd jc))))) jd (bY _)))))
    (jf (jx kc))
    jB)))
  (jf (jx (B7 Jr (jh T.zQ qG hr (ja (pv 2) (ja jI (ja jd jc)))) jd (bY _))))))))))),?_⟩
 rotate_right 108
 exists⟨_,_,rfl,.inl ⟨_,hS,rfl⟩,?_⟩;rw[vt];exists⟨_,_,rfl,?_⟩;exists⟨_,_,rfl,?_⟩;obtain⟨e,em,ag,a9⟩:∃e:Nat,(if(2:Int)<(if(16:Int)<(⇑l:Int)-1 then 16 else(⇑l:Int)-1)then(if(16:Int)<(⇑l:Int)-1 then 16 else(⇑l:Int)-1)else 2)=(e:Int)/\2<=e/\e<=16:=by
  refine⟨(if(2:Int)<(if(16:Int)<(⇑l:Int)-1 then 16 else(⇑l:Int)-1)then(if(16:Int)<(⇑l:Int)-1 then 16 else(⇑l:Int)-1)else 2).toNat,?_,?_,?_⟩<;>(split<;>split<;>lia)
 rw[em];exists⟨(by show 5<=sizeLine;lia),?_⟩;walk_at"f bd hbd H1 s1 t1";exists⟨a,bd,l,e,30,10^18,10^18+1,10^18,10^60,rfl,s1.seq hS,Z,ag,a9,⟨t1,by decide,by decide,by decide,by decide,by decide,by decide,by decide,by decide,by decide,by decide⟩,λr b pl pp n B d ls fs M R H2 s2 a7 Bk D N fl nL nd nW l1 l8 au lW av gb=>?_⟩;clear em;have ah:=s1.trans s2;have dl:⇑(cu d fs)=⇑fs:=QM;have gp:=D.g (⇑fs-1) ⋯;generalize eL:R∘(⇑fs-1)=L at gp a7;refine Qh (cU.of a7) ?_;have a4:=ah.seq hS;have a3:∀j k:Int,0<=dn (Pr.cell l j) k*dn (Pr.cell l (j+1)) (k+20)/\dn (Pr.cell l j) k*dn (Pr.cell l (j+1)) (k+20)<=10^70:=λj k=>by
  have u1:=zE (Pr.cell l j) k;have u2:=zE (Pr.cell l (j+1)) (k+20);have h:dn (Pr.cell l j) k*dn (Pr.cell l (j+1)) (k+20)<=(10^30+57)*(10^30+57):=Int.mul_le_mul ⋯ ⋯ u2.1 nofun;exact⟨vM u1.1 u2.1,Int.le_trans h nofun⟩
 exists⟨uc,?_⟩;walk_at"f 8 e";exists⟨2,rfl,by decide,by decide,?_⟩;refine zg (λi C u=>gw λ(o5:N3) (xs:L5)=>hQ (C=[↥a,~~~e,↥b,~~~L,↥p8,o5,none,none,none]) (bX H2 u) (u p8=some (.lst (xs.map V.int))) (⇑xs=i+3) (∀x∈xs,0<=x/\x<=L))
  ⟨_,[0,L-1,L],rfl,s8,e8,rfl,λx I=>by
   rcases mem_cons.mp I with rfl | I
   .lia
   rcases mem_cons.mp I with rfl | I
   .lia
   .rw[vo.mp I];lia⟩ ?_ ?_
 .rintro i C u hi ⟨o5,xs,rfl,S,e8,xl,I⟩;have hi:i<2:=hi;exists⟨.inl ⟨rfl,_,bZ.of e8⟩,?_⟩;exists⟨a,l,_,_,rfl,S.seq a4,Z,⋯,⋯,⋯,⋯,?_⟩;exists⟨p8,_,_,rfl,rfl,e8,by rw[vt];lia,?_⟩;generalize dn _ _*dn _ _=g;have g0:=ve g (show L+1≠0 by lia);have g1:=vf g (show 0<L+1 by lia);refine⟨_,xs++[g%(L+1)],rfl,Ws.Hn S hp8,by rw[jw,vj];rfl,by rw[vn,xl];show i+3+1=i+1+3;lia,λx z=>?_⟩;rcases vh.mp z with h | h
  .exact I x h
  .rw[vo.mp h];exact⟨g0,⋯⟩
 rintro C H9 ⟨o5,xs,rfl,s9,e9,xl,I⟩;have xl:⇑xs=5:=xl;have ab:=Bk.same s9;have DB:oP H9 b pl pp n B ls d fs M R:=⟨ab,D,nd,⋯,⋯,⋯⟩
 exists⟨a,l,1,50,rfl,s9.seq a4,Z,⋯,⋯,⋯,⋯,?_⟩;exists⟨b,pl,pp,n,B,ls,d,fs,M,R,_,rfl,DB,(a3 1 50).1,(a3 1 50).2,λlz zs ar ai ez zl hz=>?_⟩;rw[eL]at hz;exists⟨lz,_,rfl,bZ.of ez,?_⟩;walk_at"f pz hpz H10' s10' ez'";obtain⟨J,a2,wl,hw⟩:∃J:L5,fc (zs.map V.int) (some (-6)) none=J.map V.int/\⇑J<=30/\∀x∈J,x∈zs:=by
  unfold fc;rw[<-List.map_drop,<-map_take];refine⟨_,rfl,by rw[vi,List.length_drop];lia,λx I=>List.mem_of_mem_drop (mem_of_mem_take I)⟩
 rw[a2]at ez';clear a2;have X:=ai.trans s10';refine⟨pz,rfl,⟨_,bZ.of ez'⟩,?_⟩;refine JA (xs:=J.map V.int) (λi ys u=>ys=((J.take i).map λx=>x-1).map V.int/\H10'=u) ⟨rfl,rfl⟩ ?_ ?_ ?_
 .rintro i ys u _ ⟨rfl,rfl⟩;exact bZ.of ez'
 .rintro i v ys u W ⟨rfl,rfl⟩;rw[vv]at W;let⟨x,z,rfl⟩:=vg.mp W;have hi:=(vx.mp z).1;refine qb (S':=[none]) rfl ?_;exists dP ?_;exists⟨by rw[vt,vt,vi];lia,?_,rfl⟩;rw[take_snoc z,vj,vj];rfl
 rintro ys u ⟨rfl,rfl⟩;rw[show(J.map V.int).length=⇑J from vt _,v3];refine⟨by rw[vt,vt];lia,?_⟩;walk_at"f 11 e";refine⟨p8,p11,_,_,rfl,rfl,s11 _ _ (X _ _ e9),e11,by rw[vt,vt,vt];lia,?_⟩;walk_at"f 12 e";have aa:=s9.trans (X.trans (s11.trans s12));rw[<-vj]at e12;have a8:∀x∈xs++J.map (λx=>x-1),0<=x/\x<=L:=λx z=>by
  rcases vh.mp z with h | h
  .exact I x h
  .let⟨w',ae,rfl⟩:=vK.mp h;have:=hz w' (hw w' ae);lia
 generalize xs++J.map (λx=>x-1)=us at e12 a8;have U:=Bk.same aa;have O:R∘(⇑(cu d fs)-1)=L:=by rw[dl];exact eL
 have fw:=Gy D lW nW ⋯;obtain⟨p0,a6⟩:∃p,(cu d fs)[0]?=some p:=⟨_,vz ⋯⟩
 have af:Ws.ff p0.1=true:=by
  let⟨f,_,rfl⟩:=qW a6;exact nW _ (getD_in ⋯)
 let⟨x0,f0⟩:=p0;exists⟨p12,rfl,⟨_,bZ.of e12⟩,?_⟩;refine Ji (xs:=us.map V.int) (λi C u=>∃(o6:N3),C=[↥a,~~~e,↥b,~~~L,↥p12,o5,o6,none,none]/\bX H12 u) ⟨_,rfl,bX.refl _⟩ ?_ ?_ ?_
 .rintro i C u _ ⟨o6,rfl,S⟩;exact bZ.of (S _ _ e12)
 .rintro i v C a1 W ⟨o6,rfl,S⟩;rw[vv]at W;let⟨y,hy,rfl⟩:=vg.mp W;let⟨y0,y1⟩:=a8 y (vm hy);exists⟨b,pl,pp,n,B,ls,_,R,M,x0,f0,y,rfl,U.same S,N,fw,a6,af,l1,l8,y0,by rw[O];exact y1,λY aj=>?_⟩;refine⟨true,rfl,?_⟩;refine c8 rfl ?_;ac_nf;exact⟨_,rfl,S.trans aj⟩
 rintro C a1 ⟨o6,rfl,S⟩;have m:=U.same S;have g0:=gp.1;exists cp m.t ?_;refine⟨pl,rfl,⟨_,bZ.of m.l⟩,?_⟩;refine Ji (xs:=n.map V.ref) (λi C u=>gw λ(o7 o8:N3)=>C=[↥a,~~~e,↥b,~~~L,↥p12,o5,o6,o7,o8]/\bX a1 u) ⟨_,_,rfl,bX.refl _⟩ ?_ ?_ ?_
 .rintro i C u _ ⟨o7,o8,rfl,sn⟩;exact bZ.of (sn _ _ m.l)
 .rintro i v C Y W ⟨o7,o8,rfl,sn⟩;rw[vv]at W;let⟨la,a5,rfl⟩:=vg.mp W;have o:=m.same sn;have ll:=o.la.1;have il:=(vx.mp a5).1;obtain⟨x,f,hk⟩:∃(x:Str) (f:Int),ls[i]?=some (x,f):=⟨_,_,vz ⋯⟩
  have ad:Y la=some (.tup [.str x,.int f]):=o.la.2 i la _ a5 hk;have fb:=N.uE _ (vm hk);refine Qh (cU.of ad) ?_;exists⟨b,pl,pp,n,B,ls,_,R,M,x,f,i,0,rfl,o,N,hk,⋯,by rw[O];lia,λap ac a0 al an=>?_⟩;rw[Co];exists g7 (λc=>uf rfl c) (λ_=>?_);exists⟨b,pl,pp,n,B,ls,_,R,M,x,f,i,f,0,rfl,o.same a0,N,hk,⋯,⋯,⋯,by rw[O];lia,λaq as ak am ao=>?_⟩;rw[Co];exists g7 (λc=>uf rfl c) (λ_=>?_);ac_nf;exact⟨_,_,rfl,sn.trans (a0.trans ak)⟩
 rintro C Y ⟨o7,o8,rfl,sn⟩;exists⟨b,pl,pp,n,B,ls,_,R,M,"ding",0,rfl,m.same sn,N,by trivial,fw,⋯,by rw[O];lia,λac a0=>?_⟩;rw[show(min (0:Int) (R∘(⇑(cu d fs)-1))).toNat=0 by lia];ac_nf;exact q _
def G3(T:Txt K mg t):12<*t.sO t.rP ["_law_script"] (Pr.gN K):=by
 have a:1<*t.qJ t.qM _ _:=xm T;have kq:1<*t.yw t.yF _ _:=DT T;have m:=Gm T a kq;have l:=Iv T a m;have X:=Gn T l;have yj:1<*t.zV t.Zb _ _:=xi T;have Yb:1<*t.ZE t.ZK _ _:=X7 T;have d:=Ei T m X yj Yb;have Yd:1<*t.ZF t.ZL _ _:=X8 T;have k:=X9 T m Yd;have zJ:1<*t.QA t.QB _ _:=wB T;have R:=kG T a l d k zJ;have j:1<*t.zc t.zf _ _:=DU T;have zI:1<*t.qQ t.qR _ _:=wz T;have Ya:1<*t.ZD t.ZJ _ _:=X6 T;have kr:=DW T Ya;have YJ:1<*t.YM t.YR _ _:=Ej T;have B:=Ek T YJ;have yn:=xp T B;have C:=El T kr yn;have D:1<*t.Kh t.Kp _ _:=EV T;have q:=Y4 T j zI C D;have p:=yV T R q;have N:=kE T q;have O:=kF T j;have i:=DS T N O;have x:=xj T p i;have o:=wZ T p i;have U:=yW T d k;have y:=xq T U i;have f:1<*t.qw t.qy _ _:=wY T;have b:1<*t.qI t.qL _ _:=W9 T;have zR:=W6 T f b;have v:1<*t.zy t.zC _ _:=X5 T;have S:1<*t.zT t.zZ _ _:=xc T;have y9:=X1 T S;have c:1<*t.QK t.QL _ _:=X3 T;have u:1<*t.QU t.QW _ _:=xa T;have r:1<*t.zw t.zA _ _:=X2 T;have g:=X4 T b;have ZR:=WP T g;have L:=KE T g ZR;have J:=KD T f b v c u r g L;have y8:=X0 T f b v y9 c u r J;have yg:=W8 T c;have yi:=xf T yg;have n:=KA T a l d k;have e:1<*t.Xo t.XD _ _:=Iw T;have W:=EW T j;have z:=WO T W;have M:=Y5 T e z;have Z:=Gq T n M;have I:=KC T z;have Y:=Gp T n I;have qc:1<*t.zU t.Za _ _:=xg T;have yf:=W7 T x o y Z Y qc;exact Lx T x o y zR y8 yi yf
theorem fin{P:Program}{w:World}{K:cA}{mg:Nw}{base:Heap}{t:Ad}(T:Txt K mg t):fH P w K mg base oN 12 t.sO t.rP ["_law_script"] (Pr.gN K):=by
 refine Classical.byContradiction λh=>?_
 have z:=Classical.epsilon_spec (p:=λb=>¬gB b) ⟨⟨P,w,K,mg,base,t⟩,λz=>h (z T)⟩
 rw[show Classical.epsilon (λb=>¬gB b)=cB by unfold cB;rfl]at z
 exact z (λT=>G3 T)
end
@[elab_as_elim] theorem uu1{P:L9->Prop}(us:L9)(hl:⇑us=1)(h:∀a0,P [a0]):P us:=by
 cases us with
 | nil=>cases hl
 | cons a r=>cases r with
  | nil=>exact h a
  | cons b s=>cases hl
def oo{K:cA}{x q:Str}{st:Stmt}{f:Addr}{l:FuncData}{m:Str}(F:fC K x q st f l)(h:∀(kV j r:Value) (n:Option Addr) (i o:Value) (k:Value),bindArgs (W.fnOf x q (dI st) (du st) (bV st) .none kV j r n i o) ⟨[k],[]⟩=pure ([m].zip [k]):=by intros;rfl):Binds K l [m] []:=F.binds λa b c d e g s p=>uu1 s p (h a b c d e g)
@[elab_as_elim] theorem uu2{P:L9->Prop}(us:L9)(hl:⇑us=2)(h:∀a0 a1,P [a0,a1]):P us:=by
 cases us with
 | nil=>cases hl
 | cons a r=>exact @uu1 (λr=>P (a::r)) r (Nat.succ.inj hl) (h a)
def iW{K:cA}{x q:Str}{st:Stmt}{f:Addr}{m:FuncData}{n o:Str}(F:fC K x q st f m)(h:∀(kV j t:Value) (p:Option Addr) (i r:Value) (k l:Value),bindArgs (W.fnOf x q (dI st) (du st) (bV st) .none kV j t p i r) ⟨[k,l],[]⟩=pure ([n,o].zip [k,l]):=by intros;rfl):Binds K m [n,o] []:=F.binds λa b c d e g u s=>uu2 u s (h a b c d e g)
@[elab_as_elim] theorem uu3{P:L9->Prop}(us:L9)(hl:⇑us=3)(h:∀a0 a1 a2,P [a0,a1,a2]):P us:=by
 cases us with
 | nil=>cases hl
 | cons a r=>exact @uu2 (λr=>P (a::r)) r (Nat.succ.inj hl) (h a)
def lO{K:cA}{x q:Str}{st:Stmt}{f:Addr}{n:FuncData}{o p r:Str}(F:fC K x q st f n)(h:∀(kV j v:Value) (s:Option Addr) (i t:Value) (k l m:Value),bindArgs (W.fnOf x q (dI st) (du st) (bV st) .none kV j v s i t) ⟨[k,l,m],[]⟩=pure ([o,p,r].zip [k,l,m]):=by intros;rfl):Binds K n [o,p,r] []:=F.binds λa b c d e g w u=>uu3 w u (h a b c d e g)
@[elab_as_elim] theorem uu4{P:L9->Prop}(us:L9)(hl:⇑us=4)(h:∀a0 a1 a2 a3,P [a0,a1,a2,a3]):P us:=by
 cases us with
 | nil=>cases hl
 | cons a r=>exact @uu3 (λr=>P (a::r)) r (Nat.succ.inj hl) (h a)
def oV{K:cA}{x q:Str}{st:Stmt}{f:Addr}{o:FuncData}{p r s t:Str}(F:fC K x q st f o)(h:∀(kV j y:Value) (u:Option Addr) (i v:Value) (k l m n:Value),bindArgs (W.fnOf x q (dI st) (du st) (bV st) .none kV j y u i v) ⟨[k,l,m,n],[]⟩=pure ([p,r,s,t].zip [k,l,m,n]):=by intros;rfl):Binds K o [p,r,s,t] []:=F.binds λa b c d e g z w=>uu4 z w (h a b c d e g)
@[elab_as_elim] theorem uu5{P:L9->Prop}(us:L9)(hl:⇑us=5)(h:∀a0 a1 a2 a3 a4,P [a0,a1,a2,a3,a4]):P us:=by
 cases us with
 | nil=>cases hl
 | cons a r=>exact @uu4 (λr=>P (a::r)) r (Nat.succ.inj hl) (h a)
def rM{K:cA}{x q:Str}{st:Stmt}{f:Addr}{p:FuncData}{r s t u v:Str}(F:fC K x q st f p)(h:∀(kV j A:Value) (w:Option Addr) (i y:Value) (k l m n o:Value),bindArgs (W.fnOf x q (dI st) (du st) (bV st) .none kV j A w i y) ⟨[k,l,m,n,o],[]⟩=pure ([r,s,t,u,v].zip [k,l,m,n,o]):=by intros;rfl):Binds K p [r,s,t,u,v] []:=F.binds λa b c d e g B z=>uu5 B z (h a b c d e g)
abbrev Ng(K:cA)(x:Str)(f:Addr):Prop:=W.nsIn K mainGlobals x=some (some (.ref f))
abbrev N0(K:cA)(x:Str):Prop:=W.nsIn K mainGlobals x=some none
abbrev Nn(K:cA)(C:Addr)(x:Str):Prop:=W.findIn K (.ref C) x=some none
abbrev Nx(K:cA)(C:Addr)(x:Str)(f:Addr):Prop:=W.findIn K (.ref C) x=some (some (.ref f))
abbrev dS(K:cA)(x:Str)(st:Stmt)(f:Addr)(d:FuncData):Prop:=fC K x x st f d
set_option autoImplicit true in
def I8{K:cA}{h:Heap}{mg:Nw}(X:K.In h)(G:h.Ns mainGlobals mg)
  {c:Addr}
  (H:Ng K "Stage" c) (N:W.plainGet K c Str.empty=true) (I:W.hasDictIn K c=true) (P:W.plainOver K c=true) (Q:W.findIn K (.ref c) "__setattr__"= some (some (.builtin "object.__setattr__"))) (L:W.makesIn K c=true) (J:W.keepIn K (.ref c)=true) (zp:Nn K c "limbs") (zo:Nn K c "first") (Qx:Nn K c "forms") (JV:Nn K c "sizes") (Ze:Nn K c "left") (QZ:Nn K c "pieces")
  {b:Addr}
  (g:Ng K "RingTally" b) (q:W.plainGet K b Str.empty=true) (k:W.hasDictIn K b=true) (s:W.plainOver K b=true) (w:W.findIn K (.ref b) "__setattr__"= some (some (.builtin "object.__setattr__"))) (o:W.makesIn K b=true) (m:W.keepIn K (.ref b)=true) (Ju:Nn K b "sizes") (Qq:Nn K b "last") (JD:Nn K b "pieces") (Jo:Nn K b "wholes")
  {a:Addr}
  (f:Ng K "LimbTally" a) (p:W.plainGet K a Str.empty=true) (j:W.hasDictIn K a=true) (r:W.plainOver K a=true) (u:W.findIn K (.ref a) "__setattr__"= some (some (.builtin "object.__setattr__"))) (n:W.makesIn K a=true) (l:W.keepIn K (.ref a)=true) (jH:Nn K a "strand") (Qp:Nn K a "last") (JM:Nn K a "asked") (JC:Nn K a "wholes")
  {d:Addr}
  (y:Ng K "Strand" d) (C:W.plainGet K d Str.empty=true) (z:W.hasDictIn K d=true) (D:W.plainOver K d=true) (E:W.findIn K (.ref d) "__setattr__"= some (some (.builtin "object.__setattr__"))) (B:W.makesIn K d=true) (A:W.keepIn K (.ref d)=true) (Qf:Nn K d "first") (Jv:Nn K d "sizes") (qY:Nn K d "left") (JO:Nn K d "pieces") (Q0:Nn K d "begun")
  (a1:Ng K "numbers_of" f1) (F1:dS K "numbers_of" yQ f1 d1)
  (a2:Ng K "names_in" f2) (F2:dS K "names_in" kM f2 d2)
  (a3:Ng K "inner" f3) (F3:dS K "inner" Wk f3 d3)
  (a4:Ng K "ends" f4) (F4:dS K "ends" Ar f4 d4)
  (a5:Ng K "moved" f5) (F5:dS K "moved" Wm f5 d5)
  (a6:Ng K "check_side" f6) (F6:dS K "check_side" Zj f6 d6)
  (a7:Ng K "length_of" f7) (F7:dS K "length_of" YD f7 d7)
  (a8:Ng K "lengths" f8) (F8:dS K "lengths" Z7 f8 d8)
  (a9:Ng K "floor_sum" f9) (F9:dS K "floor_sum" YC f9 d9)
  (aY:Ng K "ramp" f10) (ae:dS K "ramp" AD f10 d10)
  (aZ:Ng K "ramp_sum" f11) (af:dS K "ramp_sum" kO f11 d11)
  (b0:Ng K "reached" f12) (ag:dS K "reached" wG f12 d12)
  (b1:Ng K "stretch" f13) (ah:dS K "stretch" wH f13 d13)
  (b2:Ng K "ramp_count" f14) (ai:dS K "ramp_count" yR f14 d14)
  (b3:Ng K "pieces_in" f15) (aj:dS K "pieces_in" YE f15 d15)
  (b4:Ng K "pieces_of" f16) (ak:dS K "pieces_of" ZP f16 d16)
  (b5:Ng K "progress" f17) (al:dS K "progress" kN f17 d17)
  (b6:Ng K "heights_begun" f18) (am:dS K "heights_begun" QD f18 d18)
  (aQ:Nx K d "__init__" f19) (aU:W.isFn K (.ref f19)=true) (R:fC K "__init__" "Strand.__init__" qo f19 d19)
  (b7:Nx K d "raises" qd) (bH:W.isFn K (.ref qd)=true) (S:fC K "raises" "Strand.raises" zM qd d20)
  (b8:Ng K "weighed" f21) (an:dS K "weighed" wI f21 d21)
  (b9:Ng K "stayed" f22) (ao:dS K "stayed" WW f22 d22)
  (aR:Nx K a "__init__" f23) (aV:W.isFn K (.ref f23)=true) (T:fC K "__init__" "LimbTally.__init__" qk f23 d23)
  (ba:Nx K a "within" f24) (bI:W.isFn K (.ref f24)=true) (U:fC K "within" "LimbTally.within" QF f24 d24)
  (bb:Nx K a "ahead" f25) (bJ:W.isFn K (.ref f25)=true) (Y:fC K "ahead" "LimbTally.ahead" Q2 f25 d25)
  (aS:Nx K b "__init__" f26) (aW:W.isFn K (.ref f26)=true) (Z:fC K "__init__" "RingTally.__init__" qm f26 d26)
  (bc:Nx K b "ahead" f27) (bK:W.isFn K (.ref f27)=true) (a0:fC K "ahead" "RingTally.ahead" Q3 f27 d27)
  (bd:Ng K "ahead_of" f28) (ap:dS K "ahead_of" kL f28 d28)
  (be:Ng K "height_sum" f29) (aq:dS K "height_sum" yP f29 d29)
  (bf:Ng K "height_count" f30) (ar:dS K "height_count" Zz f30 d30)
  (bg:Ng K "ring_count" f31) (as:dS K "ring_count" yS f31 d31)
  (bh:Ng K "within" f32) (au:dS K "within" WX f32 d32)
  (aT:Nx K c "__init__" f33) (aX:W.isFn K (.ref f33)=true) (aa:fC K "__init__" "Stage.__init__" qA f33 d33)
  (bi:Nx K c "scene" f34) (bL:W.isFn K (.ref f34)=true) (ab:fC K "scene" "Stage.scene" ZX f34 d34)
  (bj:Nx K c "heights_at" f35) (bM:W.isFn K (.ref f35)=true) (ac:fC K "heights_at" "Stage.heights_at" QG f35 d35)
  (bk:Nx K c "words_at" f36) (bN:W.isFn K (.ref f36)=true) (ad:fC K "words_at" "Stage.words_at" zi f36 d36)
  (bl:Ng K "stand" f37) (av:dS K "stand" Ae f37 d37)
  (bm:Ng K "rings" f38) (aw:dS K "rings" Ac f38 d38)
  (bn:Ng K "_law_cell_at" f39) (ax:dS K "_law_cell_at" Zy f39 d39)
  (bo:Ng K "_law_mixed" f40) (ay:dS K "_law_mixed" yM f40 d40)
  (bp:Ng K "_law_whole" f41) (az:dS K "_law_whole" yO f41 d41)
  (bq:Ng K "_law_great" f42) (aA:dS K "_law_great" yK f42 d42)
  (br:Ng K "_law_word" f43) (aB:dS K "_law_word" YB f43 d43)
  (bs:Ng K "_law_named" f44) (aC:dS K "_law_named" Zi f44 d44)
  (bt:Ng K "_law_form" f45) (aD:dS K "_law_form" Yx f45 d45)
  (bu:Ng K "_law_long" f46) (aE:dS K "_law_long" zG f46 d46)
  (bv:Ng K "_law_moves" f47) (aF:dS K "_law_moves" yN f47 d47)
  (bw:Ng K "_law_last" f48) (aG:dS K "_law_last" Yy f48 d48)
  (bx:Ng K "_law_take" f49) (aH:dS K "_law_take" Yz f49 d49)
  (bz:Ng K "_law_naming" f50) (aI:dS K "_law_naming" Qy f50 d50)
  (bA:Ng K "_law_form_told" f51) (aJ:dS K "_law_form_told" zk f51 d51)
  (bB:Ng K "_law_book_told" f52) (aK:dS K "_law_book_told" zj f52 d52)
  (bC:Ng K "_law_book" f53) (aL:dS K "_law_book" Yv f53 d53)
  (bD:Ng K "_law_known" f54) (aM:dS K "_law_known" yL f54 d54)
  (bE:Ng K "_law_seams" f55) (aN:dS K "_law_seams" Q4 f55 d55)
  (bF:Ng K "_law_grows" f56) (aO:dS K "_law_grows" Zh f56 d56)
  (bG:Ng K "law" f57) (aP:dS K "law" uA f57 d57)
  {Qs:Addr}
  (i:Ng K "MOST_NAMES" Qs) (kk_MOST_NAMES:pX K Qs [("row",.flat (.int 8)),("side",.flat (.int 4))])
  (z0:N0 K "abs") (z1:N0 K "bool") (z2:N0 K "dict") (z3:N0 K "enumerate") (z4:N0 K "int") (z5:N0 K "isinstance") (z6:N0 K "len") (z7:N0 K "list") (z8:N0 K "max") (z9:N0 K "min") (bO:N0 K "range") (bP:N0 K "reversed") (bQ:N0 K "set") (bR:N0 K "sorted") (bS:N0 K "sum") (bT:N0 K "tuple") (bU:N0 K "zip") :
  ∃t:Ad,Txt K mg t:=by
 have M:∀{x v},W.nsIn K mainGlobals x=some (some v)->mg x=some v:=λe=>W.mg_of X G e
 have O:∀{x},N0 K x->mg x=none:=λe=>W.mg_none_of X G e
 exact⟨⟨f1,_,f2,_,f3,_,f4,_,f5,_,f6,_,f7,_,f8,_,f9,_,f10,_,f11,_,f12,_,f13,_,f14,_,f15,_,f16,_,f17,_,f18,_,f19,_,qd,_,f21,_,f22,_,f23,_,f24,_,f25,_,f26,_,f27,_,f28,_,f29,_,f30,_,f31,_,f32,_,f33,_,f34,_,f35,_,f36,_,f37,_,f38,_,f39,_,f40,_,f41,_,f42,_,f43,_,f44,_,f45,_,f46,_,f47,_,f48,_,f49,_,f50,_,f51,_,f52,_,f53,_,f54,_,f55,_,f56,_,f57,_,d,a,b,c,_⟩,⟨⟨F1,M a1,oo F1⟩,⟨F2,M a2,oo F2⟩,⟨F3,M a3,oo F3⟩,⟨F4,M a4,oo F4⟩,⟨F5,M a5,oo F5⟩,⟨F6,M a6,lO F6⟩,⟨F7,M a7,iW F7⟩,⟨F8,M a8,oo F8⟩,⟨F9,M a9,oV F9⟩,⟨ae,M aY,oV ae⟩,⟨af,M aZ,oV af⟩,⟨ag,M b0,oV ag⟩,⟨ah,M b1,rM ah⟩,⟨ai,M b2,rM ai⟩,⟨aj,M b3,lO aj⟩,⟨ak,M b4,iW ak⟩,⟨al,M b5,lO al⟩,⟨am,M b6,lO am⟩,R,⟨aQ,aU,R.kp⟩,lO R,S,⟨b7,bH,S.kp⟩,iW S,⟨an,M b8,rM an⟩,⟨ao,M b9,lO ao⟩,T,⟨aR,aV,T.kp⟩,oV T,U,⟨ba,bI,U.kp⟩,oV U,Y,⟨bb,bJ,Y.kp⟩,iW Y,Z,⟨aS,aW,Z.kp⟩,lO Z,a0,⟨bc,bK,a0.kp⟩,iW a0,⟨ap,M bd,iW ap⟩,⟨aq,M be,lO aq⟩,⟨ar,M bf,oV ar⟩,⟨as,M bg,lO as⟩,⟨au,M bh,lO au⟩,aa,⟨aT,aX,aa.kp⟩,iW aa,ab,⟨bi,bL,ab.kp⟩,iW ab,ac,⟨bj,bM,ac.kp⟩,iW ac,ad,⟨bk,bN,ad.kp⟩,iW ad,⟨av,M bl,iW av⟩,⟨aw,M bm,iW aw⟩,⟨ax,M bn,iW ax⟩,⟨ay,M bo,iW ay⟩,⟨az,M bp,oo az⟩,⟨aA,M bq,lO aA⟩,⟨aB,M br,iW aB⟩,⟨aC,M bs,oV aC⟩,⟨aD,M bt,rM aD⟩,⟨aE,M bu,iW aE⟩,⟨aF,M bv,lO aF⟩,⟨aG,M bw,lO aG⟩,⟨aH,M bx,iW aH⟩,⟨aI,M bz,rM aI⟩,⟨aJ,M bA,rM aJ⟩,⟨aK,M bB,lO aK⟩,⟨aL,M bC,lO aL⟩,⟨aM,M bD,oo aM⟩,⟨aN,M bE,iW aN⟩,⟨aO,M bF,iW aO⟩,⟨aP,M bG,oo aP⟩,⟨C,z,D,E⟩,⟨B,aQ,aU,A⟩,M y,Qf,Jv,qY,JO,Q0,⟨p,j,r,u⟩,⟨n,aR,aV,l⟩,M f,jH,Qp,JM,JC,⟨q,k,s,w⟩,⟨o,aS,aW,m⟩,M g,Ju,Qq,JD,Jo,⟨N,I,P,Q⟩,⟨L,aT,aX,J⟩,M H,zp,zo,Qx,JV,Ze,QZ,O z0,O z1,O z2,O z3,O z4,O z5,O z6,O z7,O z8,O z9,O bO,O bP,O bQ,O bR,O bS,O bT,O bU,M i,kk_MOST_NAMES⟩⟩
end
end K25
open PySem PySem.W PyProof.Rows
set_option maxRecDepth 100000 in
set_option maxHeartbeats 0 in
theorem PySem.Challenge.cw_camplay_k25_whole_counts_grow_holds : PySem.Challenge.rw_camplay_k25_whole_counts_grow.Holds := by
 w_on;o_law;k_head;(case hw=>w_witness2)
 k_fill
 refine L2.GY (l:=PySem.Challenge.rw_camplay_k25_whole_counts_grow) (n:=63) (k:=12) (x:="_law_script") (CX:=L2.oN) (sp:=Pr.gN) rfl nofun rfl ⟨rfl,by decide,by decide⟩ (λw h Y=>PySem.W.kIn_of Y) ?F (λK H a ns hl hb hO hS=>⟨a,ns,rfl,hS,hl,hb,λ_=>rfl⟩) (λ_ _ _ _ z=>z)
 case F=>
  intro w mg fa h KX G hmg;have TT:∃t:K25.Ad,K25.Txt (L2.KOf KX) mg t:=by
   dsimp only[L2.KOf];refine' K25.I8 KX G ?_ ?_ ?_ ?_ ?_ ?_ ?_ ?_ ?_ ?_ ?_ ?_ ?_ ?_ ?_ ?_ ?_ ?_ ?_ ?_ ?_ ?_ ?_ ?_ ?_ ?_ ?_ ?_ ?_ ?_ ?_ ?_ ?_ ?_ ?_ ?_ ?_ ?_ ?_ ?_ ?_ ?_ ?_ ?_ ?_ ?_ ?_ ?_ (L2.jK ?_ ?_ ?_) ?_ (L2.jK ?_ ?_ ?_) ?_ (L2.jK ?_ ?_ ?_) ?_ (L2.jK ?_ ?_ ?_) ?_ (L2.jK ?_ ?_ ?_) ?_ (L2.jK ?_ ?_ ?_) ?_ (L2.jK ?_ ?_ ?_) ?_ (L2.jK ?_ ?_ ?_) ?_ (L2.jK ?_ ?_ ?_) ?_ (L2.jK ?_ ?_ ?_) ?_ (L2.jK ?_ ?_ ?_) ?_ (L2.jK ?_ ?_ ?_) ?_ (L2.jK ?_ ?_ ?_) ?_ (L2.jK ?_ ?_ ?_) ?_ (L2.jK ?_ ?_ ?_) ?_ (L2.jK ?_ ?_ ?_) ?_ (L2.jK ?_ ?_ ?_) ?_ (L2.jK ?_ ?_ ?_) ?_ ?_ (L2.jK ?_ ?_ ?_) ?_ ?_ (L2.jK ?_ ?_ ?_) ?_ (L2.jK ?_ ?_ ?_) ?_ (L2.jK ?_ ?_ ?_) ?_ ?_ (L2.jK ?_ ?_ ?_) ?_ ?_ (L2.jK ?_ ?_ ?_) ?_ ?_ (L2.jK ?_ ?_ ?_) ?_ ?_ (L2.jK ?_ ?_ ?_) ?_ ?_ (L2.jK ?_ ?_ ?_) ?_ (L2.jK ?_ ?_ ?_) ?_ (L2.jK ?_ ?_ ?_) ?_ (L2.jK ?_ ?_ ?_) ?_ (L2.jK ?_ ?_ ?_) ?_ (L2.jK ?_ ?_ ?_) ?_ ?_ (L2.jK ?_ ?_ ?_) ?_ ?_ (L2.jK ?_ ?_ ?_) ?_ ?_ (L2.jK ?_ ?_ ?_) ?_ ?_ (L2.jK ?_ ?_ ?_) ?_ (L2.jK ?_ ?_ ?_) ?_ (L2.jK ?_ ?_ ?_) ?_ (L2.jK ?_ ?_ ?_) ?_ (L2.jK ?_ ?_ ?_) ?_ (L2.jK ?_ ?_ ?_) ?_ (L2.jK ?_ ?_ ?_) ?_ (L2.jK ?_ ?_ ?_) ?_ (L2.jK ?_ ?_ ?_) ?_ (L2.jK ?_ ?_ ?_) ?_ (L2.jK ?_ ?_ ?_) ?_ (L2.jK ?_ ?_ ?_) ?_ (L2.jK ?_ ?_ ?_) ?_ (L2.jK ?_ ?_ ?_) ?_ (L2.jK ?_ ?_ ?_) ?_ (L2.jK ?_ ?_ ?_) ?_ (L2.jK ?_ ?_ ?_) ?_ (L2.jK ?_ ?_ ?_) ?_ (L2.jK ?_ ?_ ?_) ?_ (L2.jK ?_ ?_ ?_) ?_ (L2.jK ?_ ?_ ?_) ?_ (L2.jK ?_ ?_ ?_) ?_ ?kk_MOST_NAMES ?_ ?_ ?_ ?_ ?_ ?_ ?_ ?_ ?_ ?_ ?_ ?_ ?_ ?_ ?_ ?_ ?_
   any_goals first | (show PySem.W.nsIn _ _ _=_;k_is) | (show PySem.W.findIn _ _ _=_;k_is) | k_is
   (case kk_MOST_NAMES=>(show PyProof.Rows.KTD.tabLook _ _ _ _=true);kernel_rfl)
  let⟨t,T⟩:=TT;let⟨_,_,kV,dc,pm,an,cd,ct,_,e,_⟩:=T.AH.F.ex;have e0:=hmg.symm.trans T.AH.m;cases e0;refine⟨t.rP,λs v=>?_,λbase _ _=>K25.fin T⟩;rw[e];exact .of_eq rfl
#print axioms PySem.Challenge.cw_camplay_k25_whole_counts_grow_holds
