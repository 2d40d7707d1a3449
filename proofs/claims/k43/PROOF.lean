import PyProof.Rows.All
import Wide.All
import OpenK.AllK
import Wide.FinOn
import Lean
import PyProof.EqAt
import PyProof.EqKinds
import PyProof.TupleCall
import PySem.Challenge.RW_camplay_k43_refused_and_apart
set_option Elab.async false
set_option linter.all false
set_option compiler.extract_closed false
set_option bootstrap.genMatcherCode false
set_option maxRecDepth 100000
set_option maxHeartbeats 4000000
open List (all_cons all_eq_true any_cons any_eq_true append_nil cons_append cons_ne_nil ext_getElem ext_getElem? filterMap_cons filter_append filter_cons filter_cons_of_neg filter_cons_of_pos filter_nil flatMap_append flatMap_cons flatten_cons foldl_append foldl_cons forall_mem_cons getD_eq_getElem?_getD getElem_idxOf getElem_map getElem_mem getElem_range getElem_take idxOf_lt_length_of_mem length_cons length_filter_le length_map length_nil length_pos_iff length_range length_replicate length_reverse length_set length_singleton length_take length_zip lookup_cons map_append map_congr_left map_cons map_id map_nil map_reverse map_set map_take mem_append mem_append_left mem_append_right mem_cons mem_cons_of_mem mem_cons_self mem_filter mem_filterMap mem_flatMap mem_iff_getElem mem_map mem_of_mem_take mem_range mem_reverse mem_singleton nil_append nodup_append nodup_cons nodup_nil nodup_range of_mem_zip pairwise_cons pairwise_iff_getElem pairwise_map pairwise_singleton range_succ replicate_succ reverse_cons size_toArray sum_append sum_cons take_length take_of_length_le take_sublist)
open Lean in
def CH:Nat->Term->MacroM (TSyntax `rcasesPat)
 | 0,_=>Macro.throwUnsupported
 | n+1,t=>match t with
  | `(⟨$xs,*⟩)=>do let ps<-xs.getElems.mapM λx=>do let p<-CH n x;`(Parser.Tactic.rcasesPatLo| $p:rcasesPat)
                   `(rcasesPat| ⟨$ps,*⟩)
  | `(_)=>`(rcasesPat| _)
  | `($x:ident)=>`(rcasesPat| $x:ident)
  | _=>Macro.throwUnsupported
local macro_rules
 | `(#[$a,$b]) => `(⟨$a,$b⟩)
 | `(#[$a,$b,$c,*]) => `(⟨$a,$b,$c,*⟩)
local macro_rules | `(tactic| rwa[$r,*]) => do
 let a:Array (Lean.TSyntax `term):=r.getElems.map λx=>⟨x.raw[1]⟩
 if a.size==1 then `(tactic| exact $(a[0]!)) else `(tactic| exact ⟨$a,*⟩)
local macro_rules | `(tactic| erw[$r,*]) => do
 let a:Array (Lean.TSyntax `term):=r.getElems.map λx=>⟨x.raw[1]⟩
 if a.size==1 then `(tactic| refine $(a[0]!)) else `(tactic| refine ⟨$a,*⟩)
local macro_rules | `($a⊂$b) => `($a=some $b)
local macro_rules | `($x⁻¹) => `(($x).heap.objs.size)
local macro_rules | `(tactic| let $p:term:=$e) => do let q<-CH 9 p;`(tactic| obtain $q:rcasesPat:=$e)
set_option hygiene false
local macro_rules | `(⇑$x) => `(($x).length)
local macro_rules | `(↥$x) => `(some (.ref $x))
local macro_rules | `(~~~$x) => `(some (.int $x))
local macro_rules | `($x∘$y) => `(($x).getD $y 0)
set_option hygiene true
local macro_rules | `(∅) => `(by trivial)
local macro_rules | `(#v[$x]) => `(by simpa using $x)
abbrev Nz:=PySem.Value->PySem.Shared->Prop
abbrev Ny:=List (PySem.Addr×PySem.Obj)
abbrev Nw:=PySem.Str->Option PySem.Value
abbrev Nv:=Option PySem.Value
abbrev Nu:=Option Int
abbrev Nt:=List PySem.Expr
abbrev Nr:=List PySem.Env
abbrev Nq:=List (Int×Int)
local macro_rules | `(tactic| and_intros) => `(tactic| first | exact .inl rfl | exact .inr rfl | assumption)
local macro_rules | `(⋯) => `(by lia)
local macro_rules | `(nofun) => `(by decide)
abbrev vz:=@List.getElem?_eq_getElem
abbrev vy:=@List.getD_eq_getElem?_getD
abbrev vx:=@List.getElem?_eq_some_iff
abbrev vv:=@List.getElem?_map
abbrev vt:=@List.length_map
abbrev vq:=@List.mem_cons_self
abbrev vp:=@List.mem_cons_of_mem
abbrev vo:=@List.mem_singleton
abbrev vn:=@List.length_append
abbrev vm:=@List.mem_of_getElem?
abbrev vj:=@List.map_append
abbrev vi:=@List.length_take
abbrev vh:=@List.mem_append
abbrev vg:=@Option.map_eq_some_iff
abbrev vf:=@Int.emod_lt_of_pos
abbrev ve:=@Int.emod_nonneg
abbrev vd:=@if_pos
abbrev vc:=@if_neg
abbrev vb:=@Nat.le_refl
abbrev va:=@Nat.zero_le
abbrev vA:=@Int.le_refl
abbrev vB:=@List.getElem?_append_left
abbrev vC:=@List.getElem?_append_right
abbrev vD:=@Nat.lt_of_le_of_lt
abbrev vE:=@Nat.ne_of_lt
abbrev vF:=@Bool.false_ne_true
abbrev vG:=@decide_eq_true
abbrev vH:=@decide_eq_false
abbrev vI:=@PySem.Heap.lt_size
abbrev vJ:=@PySem.Heap.get?_push_of_some
abbrev vK:=@List.mem_map
abbrev vL:=@Option.some.inj
abbrev vO:=@Nat.ne_of_gt
abbrev vP:=@List.mem_filter
abbrev vQ:=@List.length_cons
abbrev vS:=@List.length_singleton
abbrev vT:=@List.getElem?_eq_none
abbrev vV:=@List.pairwise_cons
abbrev vW:=@Nat.le_trans
abbrev vY:=@Nat.le_of_lt
abbrev vZ:=@Nat.lt_trans
abbrev v4:=@List.mem_range
abbrev v5:=@List.take_length
abbrev v7:=@List.map_map
abbrev v8:=@List.foldl_cons
abbrev v9:=@List.filter_cons
abbrev uz:=@List.map_cons
abbrev uy:=@List.sum_cons
abbrev uw:=@Int.zero_add
abbrev uq:=@Nat.sub_self
abbrev um:=@List.nodup_cons
abbrev ug:=@PySem.wpAny_bind
abbrev uf:=@PySem.wpAny_pure
abbrev ud:=@absurd
def uc:1<=PySem.sizeLine:=by decide
def ub:2<=PySem.sizeLine:=by decide
def ua:3<=PySem.sizeLine:=by decide
def uA:4<=PySem.sizeLine:=by decide
abbrev cG := PySem.W.Frag
abbrev L0:=List (List (Int×Int))
abbrev L1:=List (List Int)
abbrev L3:=List (Nat×Int)
abbrev L4:=List (PySem.Str×Int)
abbrev L5:=List Int
abbrev L6:=List Nat
abbrev L7:=List PySem.Addr
abbrev L8:=List PySem.Str
abbrev L9:=List PySem.Value
abbrev q4:=@PySem.F.plainAttrs_list
abbrev q5:=@PySem.F.slot_list_append
abbrev q7:=@PySem.F.type_list_append
abbrev Az:=@PySem.F.plainAttrs_dict
namespace L2
open PySem PySem.Spec PyProof.Rows
noncomputable abbrev Key:=Sum Int Str
noncomputable def gv:Key->Value->Bool
 | .inl k,v=>Value.isInt k v
 | .inr x,v=>Value.isStrOf x v
noncomputable def ue(w:World):Key->Int
 | .inl k=>hashInt k
 | .inr x=>hashStr w x
def Jn:∀{k:Key} {v:Value},gv k v=true->(∃i t,k=Sum.inl i/\v=Value.int i t)\/(∃x t,k=Sum.inr x/\v=Value.str x t)
 | .inl i,v,h=>by
  let⟨t,e⟩:=Value.isInt_shape (k:=i) (v:=v) h;rwa[.inl #[i,t,rfl,e]]
 | .inr x,v,h=>by
  let⟨t,e⟩:=Value.isStrOf_shape (x:=x) (v:=v) h;rwa[.inr #[x,t,rfl,e]]
def Xr(i:Int)(t:Tok):gv (.inl i) (.int i t)=true:=by simp[gv,Value.isInt]
def Xs(x:Str)(t:Tok):gv (.inr x) (.str x t)=true:=by simp[gv,Value.isStrOf]
def Oc(a b:Int):decide ((Sum.inl a:Key)=Sum.inl b)=(a==b):=by
 lia
def Of(a b:Str):decide ((Sum.inr a:Key)=Sum.inr b)=decide (a=b):=by
 lia
def Od(a:Int)(b:Str):decide ((Sum.inl a:Key)=Sum.inr b)=false:=vH (λq=>nomatch q)
def Oe(a:Str)(b:Int):decide ((Sum.inr a:Key)=Sum.inl b)=false:=vH (λq=>nomatch q)
noncomputable def cv(prog:Program)(w:World):PySem.KeyKind prog w Key where
 is:=gv
 hash:=ue w
 inj:=λv a b ha hb=>by
  rcases Jn ha with⟨i,t,rfl,rfl⟩ | ⟨x,t,rfl,rfl⟩
  .rcases Jn hb with⟨j,u,rfl,e⟩ | ⟨y,u,rfl,e⟩
   .injection e with e1 _;rw[e1]
   .exact nomatch e
  .rcases Jn hb with⟨j,u,rfl,e⟩ | ⟨y,u,rfl,e⟩
   .exact nomatch e
   .injection e with e1 _;rw[e1]
 byValue:=λk v h=>by
  rcases Jn h with⟨i,t,rfl,rfl⟩ | ⟨x,t,rfl,rfl⟩<;>rfl
 pyHash:=λhv h=>by
  rcases Jn hv with⟨i,t,rfl,rfl⟩ | ⟨x,t,rfl,rfl⟩
  .exact wpAny_pyHash_int h
  .exact wpAny_pyHash_str h
 eqBool:=λhu hv h=>by
  rcases Jn hu with⟨i,t,rfl,rfl⟩ | ⟨x,t,rfl,rfl⟩
  .rcases Jn hv with⟨j,u,rfl,rfl⟩ | ⟨y,u,rfl,rfl⟩
   .rw[Oc]at h;rwa[wpAny_eqBool_int h]
   .rw[Od]at h;rwa[SeqAt.EqAt.int_str i t y u _ _ _ _ h]
  .rcases Jn hv with⟨j,u,rfl,rfl⟩ | ⟨y,u,rfl,rfl⟩
   .rw[Oe]at h;rwa[SeqAt.EqAt.str_int x t j u _ _ _ _ h]
   .rw[Of]at h;rwa[wpAny_eqBool_str h]
 «strs»:=λk x t v h=>by
  rcases Jn h with⟨i,u,rfl,e⟩ | ⟨y,u,rfl,e⟩
  .exact nomatch e
  .injection e with e1 _;subst e1;cases v<;>rfl
def Gq(prog:Program)(w:World)(i:Int)(t:Tok):(cv prog w).is (.inl i) (.int i t)=true:=Xr i t
def Gr(prog:Program)(w:World)(x:Str)(t:Tok):(cv prog w).is (.inr x) (.str x t)=true:=Xs x t
inductive V where
 | dj | bl (b:Bool) | int (i:Int) | str (x:Str) | me (b:Array UInt8) | tM (b:UInt64) | ref (a:Addr) | ty (n:String)
 deriving DecidableEq
abbrev N5:=Option V
abbrev N4:=List V
noncomputable def RelV:V->Value->Prop
 | .dj,u=>u=Value.none
 | .bl b,u=>u=Value.bool b
 | .int i,u=>∃t,u=Value.int i t
 | .str x,u=>∃t,u=Value.str x t
 | .me b,u=>∃t,u=Value.bytes b t
 | .tM b,u=>∃t,u=Value.float b t
 | .ref a,u=>u=Value.ref a
 | .ty n,u=>u=Value.type n
noncomputable abbrev Vals:N4->L9->Prop:=Paired RelV
def Vals.length(r:Vals xs us):⇑xs=⇑us:=Paired.length r
theorem Vals.get:∀{xs:N4} {us:L9} {i:Nat} {x:V},Vals xs us->xs[i]?⊂x->∃u,us[i]?⊂u/\RelV x u
 | _,_,_,_,.nil,e=>by simp at e
 | _,_,0,_,.cons r _,e=>by simp at e;subst e;rwa[_,rfl,r]
 | _,_,i+1,x,.cons _ t,e=>by
  let⟨u,a,b⟩:=Vals.get (i:=i) (x:=x) t #v[e];rwa[u,#v[a],b]
theorem Vals.set(r:RelV x u):∀{xs:N4} {us:L9} (i:Nat),Vals xs us->Vals (xs.set i x) (us.set i u)
 | _,_,_,.nil=>.nil
 | _,_,0,.cons _ t=>.cons r t
 | _,_,i+1,.cons q t=>.cons q (Vals.set r i t)
def Vals.append:∀{xs ys:N4} {us a:L9},Vals xs us->Vals ys a->Vals (xs++ys) (us++a):=by
 intro xs ys us a h s
 induction h with
 | nil=>rwa[s]
 | cons r t ih=>rwa[.cons r ih]
theorem Vals.take:∀{xs:N4} {us:L9} (n:Nat),Vals xs us->Vals (xs.take n) (us.take n)
 | _,_,0,_=>.nil
 | _,_,_+1,.nil=>.nil
 | _,_,n+1,.cons r t=>.cons r (Vals.take n t)
theorem Vals.drop:∀{xs:N4} {us:L9} (n:Nat),Vals xs us->Vals (xs.drop n) (us.drop n)
 | _,_,0,r=>r
 | _,_,_+1,.nil=>.nil
 | _,_,n+1,.cons _ t=>Vals.drop n t
noncomputable def gg:N5->Option Value->Prop
 | some v,some u=>RelV v u
 | none,none=>True
 | _,_=>False
noncomputable def KV{κ:Type}:List (κ×V)->List (κ×Value)->Prop:=Paired λ(p:κ×V) (q:κ×Value)=>p.1=q.1/\RelV p.2 q.2
noncomputable def kV:Key->V
 | .inl i=>.int i
 | .inr x=>.str x
inductive HO where
 | lst (xs:N4)
 | tup (xs:N4)
 | dK (kvs:List (Key×V)) | dT (kvs:List (List Key×V))
 | set (S:Int->Bool) (n:Nat)
 | ins (C dx:Addr) (fs:List (Str×V))
 | own (x:Addr)
 | xd (fs:List (Str×V))
 | met (f x:Addr)
 | uF (lo hi:Int)
 | iy (o:Obj) (u:HO)
 | pO (ps:Array Value)
 | ext (φ:Heap->Prop)
noncomputable abbrev Hp:=Addr->Option HO
noncomputable def upd(H:Hp)(a:Addr)(o:HO):Hp:=λb=>if b=a then some o else H b
def jy{H:Hp}:upd H a o a⊂o:=by unfold upd;rw[vd rfl]
def jh{H:Hp}(h:b≠a):upd H a o b=H b:=by unfold upd;rw[vc h]
def Mz{H:Hp}{a:Addr}{o u:HO}:upd (upd H a o) a u=upd H a u:=by
 funext b;unfold upd;split<;>rfl
def JC{H:Hp}(h:H a⊂o)(h':H b⊂u)(d:o≠u):a≠b:=by
 intro e;subst e;rw[h]at h';rwa[d (vL h')]
def je{H:Hp}(h:H a⊂o)(h':H b=none):a≠b:=by
 lia
section
variable(P:Program)(w:World)
noncomputable def cD(H:Hp)(h:Heap)(a:Addr):HO->Prop
 | .lst xs=>⇑xs<=sizeLine/\∃(its:L9) (n:Nat),Vals xs its/\h.get? a=some {cls:=.type "list",data:=.seq its.toArray n}
 | .tup xs=>⇑xs<=sizeLine/\∃its:L9,Vals xs its/\IsTup h a its.toArray
 | .dK kvs=>⇑kvs<=sizeLine/\(a==sysModules)=false/\∃vs,KV kvs vs/\h.DictOf (cv P w) a vs
 | .dT kvs=>⇑kvs<=sizeLine/\(a==sysModules)=false/\∃xs:List (List Key×Addr×Value),
   Paired (λ(p:List Key×V) (q:List Key×Addr×Value)=>p.1=q.1/\H q.2.1⊂(.tup (p.1.map kV))/\RelV p.2 q.2.2) kvs xs/\
   ∃o es ep,h.get? a⊂o/\o.ExactDict/\o.data = .dict es ep/\es.toList=xs.map (entryOfKey (tupleKind (cv P w)))/\(xs.map (·.1)).Nodup
 | .set S n=>h.SetOf (intKind P w) a S n
 | .ins C dx fs=>H dx⊂.own a/\⇑fs<=1000/\dx≠a/\h.get? a⊂(PySem.W.instObj C dx)/\
   ∃mA,h.Ns1 dx mA/\(∀f,gg (fs.lookup f) (mA f))/\PySem.Within mA (fs.map (·.1))
 | .own _=>∃o,h.get? a⊂o
 | .xd fs=>∃mA,h.Ns1 a mA/\∀f,gg (fs.lookup f) (mA f)
 | .uF lo hi=>∃t u v,h.get? a=some {cls:=.type "range",data:=.fields [.int lo t,.int hi u,.int 1 v].toArray}
 | .iy o u=>h.get? a⊂o/\cD H h a u
 | .pO ps=>h.get? a=some {cls:=.none,data:=.fields ps}
 | .met f x=>h.get? a⊂(PySem.W.methodObj (.ref f) (.ref x))
 | .ext φ=>φ h/\(∃o,h.get? a⊂o)/\∀h1 h2:Heap,φ h1->(∀o,h1.get? a⊂o->h2.get? a⊂o)->φ h2
def fA(H:Hp)(h:Heap):Prop:=∀a o,H a⊂o->cD P w H h a o
end
section
variable{P:Program}{w:World}{H H':Hp}{h h':Heap}{a:Addr}{o:HO}
def cD.lt(x:cD P w H h a o):a<h.objs.size:=by
 cases o with
 | lst xs=>let⟨q,q,q,q,e⟩:=x;rwa[vI e]
 | tup xs=>let⟨q,q,q,p⟩:=x;rwa[p.lt]
 | dK kvs=>let⟨q,q,q,q,o,q,q,e,q⟩:=x;rwa[vI e]
 | dT kvs=>let⟨q,q,q,q,o,q,q,e,q⟩:=x;rwa[vI e]
 | set S n=>let⟨o,q,q,q,e,q⟩:=x;rwa[vI e]
 | ins C dx fs=>let⟨q,q,q,e,q⟩:=x;rwa[vI e]
 | own y=>let⟨q,e⟩:=x;rwa[vI e]
 | xd fs=>let⟨q,⟨q,q,q,e,q⟩,q⟩:=x;rwa[vI e]
 | uF lo hi=>let⟨q,q,q,e⟩:=x;rwa[vI e]
 | iy ob u=>let⟨e,q⟩:=x;rwa[vI e]
 | pO ps=>rwa[vI (show h.get? a⊂_ from x)]
 | met f y=>rwa[vI (show h.get? a⊂_ from x)]
 | ext φ=>let⟨q,⟨q,e⟩,q⟩:=x;rwa[vI e]
def Paired.uo{c d:Type}{F G:c->d->Prop}:∀{l₁:List c} {l₂:List d},Paired F l₁ l₂->(∀a b,F a b->G a b)->Paired G l₁ l₂:=by
 intro l₁ l₂ h f
 induction h with
 | nil=>rwa[.nil]
 | cons r t ih=>rwa[.cons (f _ _ r) ih]
def cD.iu(x:cD P w H h a o)(k:∀b u,(b=a\/H b⊂.own a)->h.get? b⊂u->h'.get? b⊂u)
  (D:∀b,H b⊂.own a->H' b⊂.own a) (E:∀b xs,H b⊂.tup xs->H' b⊂.tup xs):cD P w H' h' a o:=by
 induction o with
 | lst xs=>let⟨z,l,n,r,e⟩:=x;rwa[z,l,n,r,k _ _ (.inl rfl) e]
 | tup xs=>let⟨z,l,r,g,e,c⟩:=x;rwa[z,l,r,g,k _ _ (.inl rfl) e,c]
 | dK kvs=>let⟨z,y,G,r,g,j,i,e,c⟩:=x;rwa[z,y,G,r,g,j,i,k _ _ (.inl rfl) e,c]
 | dT kvs=>
  let⟨z,y,xs,r,g,j,i,e,c⟩:=x;rwa[z,y,xs,Paired.uo r λp q z=>#[z.1,E _ _ z.2.1,z.2.2],g,j,i,k _ _ (.inl rfl) e,c]
 | set S n=>let⟨g,j,i,t,e,c⟩:=x;rwa[g,j,i,t,k _ _ (.inl rfl) e,c]
 | ins C dx fs=>
  let⟨d,z,F,e,m,⟨s,j,i,B,c⟩,r⟩:=x;rwa[D _ d,z,F,k _ _ (.inl rfl) e,m,#[s,j,i,k _ _ (.inr d) B,c],r]
 | own y=>let⟨g,e⟩:=x;rwa[g,k _ _ (.inl rfl) e]
 | xd fs=>let⟨m,⟨s,j,i,e,c⟩,r⟩:=x;rwa[m,#[s,j,i,k _ _ (.inl rfl) e,c],r]
 | uF lo hi=>let⟨t,u,v,e⟩:=x;rwa[t,u,v,k _ _ (.inl rfl) e]
 | iy g u ih=>let⟨e,q⟩:=x;rwa[k _ _ (.inl rfl) e,ih q]
 | pO ps=>
  have e:h.get? a=some {cls:=.none,data:=.fields ps}:=x;show h'.get? a=some {cls:=.none,data:=.fields ps};rwa[k a _ (.inl rfl) e]
 | met f y=>
  have e:h.get? a⊂(PySem.W.methodObj (.ref f) (.ref y)):=x;show h'.get? a⊂(PySem.W.methodObj (.ref f) (.ref y));rwa[k a _ (.inl rfl) e]
 | ext φ=>let⟨p,⟨o,e⟩,A⟩:=x;rwa[A _ _ p λo q=>k _ _ (.inl rfl) q,#[o,k _ _ (.inl rfl) e],A]
def fA.lt(x:fA P w H h)(e:H a⊂o):a<h.objs.size:=(x a o e).lt
def fA.fresh(x:fA P w H h)(e:h.objs.size<=a):H a=none:=by
 cases q:H a with
 | none=>rfl
 | some u=>rwa[ud (Nat.lt_of_lt_of_le (x.lt q) e) (Nat.lt_irrefl _)]
def fA.kept(x:fA P w H h)(k:∀b u,h.get? b⊂u->h'.get? b⊂u):fA P w H h':=λa o e=>
 (x a o e).iu (λb u j q=>k b u q) (λj q=>q) λj j q=>q
def fA.laid(x:fA P w H h)(k:∀b u,h.get? b⊂u->h'.get? b⊂u)(i:h.objs.size<=a)(d:cD P w (upd H a o) h' a o):fA P w (upd H a o) h':=λb u e=>by
 have g:=x.fresh i;by_cases f:b=a
 .subst f;rw[jy]at e;cases e;rwa[d]
 .rw[jh f]at e;rwa[(x b u e).iu (λc v Z q=>k c v q) (λc q=>by rw[jh (je q g)];rwa[q]) λc j q=>by rw[jh (je q g)];rwa[q]]
end
def Rd(H:Hp)(a:Addr)(u:HO):Prop:=H a⊂u\/∃o,H a⊂.iy o u
def Rd.ok{H:Hp}(r:Rd H a u)(x:fA P w H h):cD P w H h a u:=by
 rcases r with r | ⟨o,r⟩
 .exact x a u r
 .let⟨_,q⟩:=x a _ r;rwa[q]
noncomputable def tE:Option HO->Prop
 | some (.lst _)=>True
 | some (.dK _)=>True
 | some (.dT _)=>True
 | some (.set _ _)=>True
 | some (.ins _ _ _)=>True
 | some (.ext _)=>True
 | _=>False
section
variable{P:Program}{w:World}{H:Hp}{h h':Heap}{x e:Addr}{o':HO}
def fA.write(s:fA P w H h)(g:tE (H x))(o:e=x\/H e⊂.own x)(k:∀b u,b≠e->h.get? b⊂u->h'.get? b⊂u)(l:∃u,h'.get? e⊂u)
  (m:cD P w (upd H x o') h' x o'):fA P w (upd H x o') h':=λb u q=>by
 have d:∀c y,H c⊂.own y->c≠x:=λc y r z=>by subst z;rw[r]at g;rwa[g]
 have f:∀c i,H c⊂.tup i->c≠x:=λc i r z=>by subst z;rw[r]at g;rwa[g]
 by_cases j:b=x
 .subst j;rw[jy]at q;cases q;rwa[m]
 .rw[jh j]at q;by_cases a:b=e
  .have n:H b⊂(.own x):=by
    rcases o with z | z
    .exact ud (a.trans z) j
    .rw[a];rwa[z]
   rw[q]at n;cases n;let⟨v,p⟩:=l;rwa[v,by rw[a];rwa[p]]
  .refine(s b u q).iu (λc v t r=>k c v ?_ r) (λc r=>by rw[jh (d c b r)];rwa[r]) λc i r=>by rw[jh (f c i r)];exact r
   grind
end
structure Un(fs ex:L7)(H H':Hp)(h h':Heap):Prop where
 keep:∀b o,h.get? b⊂o->H b=none->b∉fs->b∉ex->h'.get? b⊂o
 slot:∀b o,h.get? b⊂o->H b=none->b∈fs->b∉ex->∃sl,h'.get? b=some {o with slots:=sl}
 free:∀b o,h.get? b⊂o->H b=none->b∉ex->H' b=none
 there:∀b o,h.get? b⊂o->b∉ex->∃o',h'.get? b⊂o'
 dU:∀b xs,H b⊂.tup xs->H' b⊂.tup xs
 g5:∀b o u,H b⊂.iy o u->H' b⊂.iy o u
 iY:∀b ps,H b⊂.pO ps->∃more,H' b⊂(.pO (ps++more))
section
variable{fs fs' ex ex':L7}{H H1 H2:Hp}{h h1 h2 h':Heap}{a x e:Addr}{o:HO}
def Un.any(u:Un fs ex H H1 h h1)(q:h.get? b⊂ob)(n:H b=none)(c:b∉ex):∃d,h1.get? b=some {ob with slots:=d}:=by
 by_cases a:b∈fs
 .exact u.slot b ob q n a c
 .exact#[ob.slots,u.keep b ob q n a c]
def Un.kept(k:∀b u,h.get? b⊂u->h'.get? b⊂u):Un fs ex H H h h':=
 #[λb a q j j j=>k b a q,λb a q j j j=>#[a.slots,k b a q],λj j j n j=>n,λb a q j=>#[a,k b a q],λj j q=>q,λj j j q=>q,λj c q=>#[#[],by rw[q];simp]]
def Un.refl:Un fs ex H H h h:=Un.kept λj j q=>q
def Un.laid(k:∀b u,h.get? b⊂u->h'.get? b⊂u)(d:h.objs.size<=a)(c:H a=none):Un fs ex H (upd H a o) h h' where
 keep:=λb u q j j j=>k b u q
 slot:=λb u q j j j=>#[u.slots,k b u q]
 free:=λb u q n j=>by rw[jh (vE (Nat.lt_of_lt_of_le (vI q) d))];rwa[n]
 there:=λb u q j=>#[u,k b u q]
 dU:=λb e q=>by rw[jh (je q c)];rwa[q]
 g5:=λb u e q=>by rw[jh (je q c)];rwa[q]
 iY:=λb f q=>#[#[],by rw[jh (je q c),q];simp]
def Un.write(c:tE (H x))(j:e=x\/H e⊂.own x)(k:∀b u,b≠e->h.get? b⊂u->h'.get? b⊂u)(d:∃u,h'.get? e⊂u):Un fs ex H (upd H x o) h h':=by
 have i:∀b,H b=none->b≠x:=λb n z=>by subst z;rw[n]at c;rwa[c]
 have g:∀b,H b=none->b≠e:=λb n z=>by
  subst z;rcases j with r | r
  .exact i b n r
  .rw[n]at r;cases r
 have f:∀b u,H b⊂u->¬tE (some u)->b≠x:=λb u q l z=>by subst z;rw[q]at c;rwa[l c]
 refine#[λb u q n Z Z=>k b u (g b n) q,λb u q n Z Z=>#[u.slots,k b u (g b n) q],λb u q n Z=>by rw[jh (i b n)];rwa[n],λb u q Z=>?_,
  λb m q=>by rw[jh (f b _ q λz=>z)];rwa[q],λb u m q=>by rw[jh (f b _ q λz=>z)];rwa[q],λb p q=>#[#[],by rw[jh (f b _ q λz=>z),q];simp]]
 by_cases a:b=e
 .subst a;rwa[d]
 .exact#[u,k b u a q]
end
noncomputable def Ay(h:Heap)(H:Hp):L7:=(List.range h.objs.size).filter λa=>(H a).isSome
noncomputable def lP(h:Heap)(H:Hp):Heap:=PySem.W.hideAll h (Ay h H)
def Hc(h:Heap)(H:Hp):(lP h H).objs.size=h.objs.size:=PySem.W.hideAll_size _ _
def IH{H:Hp}(e:h.get? b⊂o)(n:H b=none):(lP h H).get? b⊂o:=
 PySem.W.hideAll_get _ e λa=>by
  have q:(H b).isSome=true:=(vP.mp a).2;rw[n]at q;simp at q
def ML{H:Hp}(e:(lP h H).get? b⊂o):h.get? b⊂o/\H b=none:=by
 have a:h.get? b⊂o:=PySem.W.of_hideAll (Ay h H) e;erw[a,?_];cases q:H b with
 | none=>rfl
 | some x=>
  have c:b∈Ay h H:=vP.mpr #[v4.mpr (vI a),by simp[q]];have z:(lP h H).get? b=none:=PySem.W.hideAll_none (Ay h H) c;rw[z]at e;cases e
structure Mod(K:cG)(mg:Nw)(base:Heap):Prop where
 sf:K.In base
 glob:base.Ns mainGlobals mg
 blt:∃mb,base.Ns builtinsNs mb/\∀x:Str,x≠"__name__"->mb x=bootBuiltins x
 nolimit:base.NoLimit
structure Cx where
 prog:Program
 w:World
 K:cG
 mg:Str->Option Value
 base:Heap
 A:Around
 N:L8
 s₀:Shared
 H₀:Hp
 env:Env
 outer:List Env
 stack:List Env
 ex:L7
 fn:Str->Bool
 calm:Bool
 pn:List (Addr×Obj)
 xe:Nz
noncomputable def fB(l:Nr):L7:=l.filterMap (·.frame)
noncomputable abbrev Cx.fs(X:Cx):L7:=fB X.outer
def tJ(sc:Scope)(x:Str):Prop:=sc.names.lookup x⊂.local\/sc.names.lookup x⊂.cell\/sc.names.lookup x⊂.free
def Loc(sc:Scope)(x:Str):Prop:=sc.names.lookup x⊂.local\/sc.names.lookup x⊂.cell
def Look(env:Env)(h:Heap)(m:Nw)(x:Str)(u:Value):Prop:=
 (env.kindOf x⊂.local/\m x⊂u)\/((env.kindOf x⊂.cell\/env.kindOf x⊂.free)/\∃c,env.cells.lookup x⊂c/\h.IsCell c (some u))
structure Cx.Ok(X:Cx):Prop where
 mod:Mod X.K X.mg X.base
 kind:X.env.scope.kind = .function
 glob:X.env.globals=mainGlobals
 blt:X.env.builtins=builtinsNs
 above:X.s₀.heap.objs.size<=X.env.locals
 inj:∀x y c,X.env.cells.lookup x⊂c->X.env.cells.lookup y⊂c->x=y
 has:∀x,(X.env.kindOf x⊂.cell\/X.env.kindOf x⊂.free)->∃c,X.env.cells.lookup x⊂c
 r6:∀x c,X.fn x=true->X.env.cells.lookup x⊂c->X.s₀.heap.objs.size<=c
 hd:X.calm=true->X.A.handled=none
 frames:X.A.frames⊂X.stack
 oY:X.stack=X.outer\/(X.stack=X.env::X.outer/\X.env.frame⊂X.env.locals)
 Aa:∀b∈X.ex,b≠X.env.locals/\∀x c,X.env.cells.lookup x⊂c->c≠b
 bs:∀b o,X.base.get? b⊂o->X.s₀.heap.get? b⊂o/\X.H₀ b=none
 ox:X.base.objs.size<=X.s₀.heap.objs.size
 mS:∀b o,X.base.get? b⊂o->b∉X.ex
 nE:∀b∈X.ex,b∉X.fs
 gO:X.s₀.heap.FunFrames X.base X.outer
 pA:∀b∈X.fs,X.H₀ b=none
structure Inv(X:Cx)(pins:Ny)(σ:List N5)(H:Hp)(s:Shared):Prop where
 ok:X.Ok
 os:s.os=X.s₀.os
 bare:AllBare s.gens
 base:Un X.fs X.ex X.H₀ H X.s₀.heap s.heap
 loc:∃m,s.heap.Ns X.env.locals m/\∀(i:Nat) (x:Str) (v:V),X.N[i]?⊂x->σ[i]?⊂(some v)->tJ X.env.scope x->∃u,RelV v u/\Look X.env s.heap m x u
 cell:∀x c,X.env.cells.lookup x⊂c->∃v,s.heap.IsCell c v
 free:H X.env.locals=none
 d0:∀x c,X.env.cells.lookup x⊂c->H c=none
 pin:∀p∈X.pn++pins,s.heap.get? p.1⊂p.2/\H p.1=none/\p.1≠X.env.locals/\p.1∉X.fs/\∀v,p.2.data≠.cell v
 cK:fA X.prog X.w H s.heap
 len:⇑σ=X.N.length
section
variable{X:Cx}{pins:Ny}{σ:List N5}{H H':Hp}{s:Shared}{h':Heap}
def Cx.Ok.Cn(c:X.Ok)(e:X.base.get? b⊂o):b∉X.fs:=λa=>by
 have:=(c.gO.mem a).1;rw[e]at this;cases this
def Inv.bs(I:Inv X pins σ H s):∀b o,X.base.get? b⊂o->s.heap.get? b⊂o/\H b=none:=λb o e=>
 #[I.base.keep b o (I.ok.bs b o e).1 (I.ok.bs b o e).2 (I.ok.Cn e) (I.ok.mS b o e),I.base.free b o (I.ok.bs b o e).1 (I.ok.bs b o e).2 (I.ok.mS b o e)]
def Inv.bk(I:Inv X pins σ H s):∀b o,X.base.get? b⊂o->s.heap.get? b⊂o:=λb o e=>(I.bs b o e).1
def Inv.mod(I:Inv X pins σ H s):Mod X.K X.mg X.base:=I.ok.mod
def Inv.jk(I:Inv X pins σ H s):X.K.In s.heap:=I.ok.mod.sf.keeps I.bk
def Inv.lt(I:Inv X pins σ H s):X.env.locals<s⁻¹:=let ⟨_,hn,_⟩:=I.loc;hn.lt
def Inv.sz(I:Inv X pins σ H s):X.s₀.heap.objs.size<=s⁻¹:=vW I.ok.above (vY I.lt)
def Inv.Co(I:Inv X pins σ H s)(h:s⁻¹<=a):a∉X.fs:=λb=>by
 let⟨q,o,c,q⟩:=I.ok.gO.mem b;rwa[ud (Nat.lt_of_lt_of_le (vI c) (vW I.sz h)) (Nat.lt_irrefl _)]
def Inv.tL(I:Inv X pins σ H s):∀x c,X.env.cells.lookup x⊂c->c≠X.env.locals:=λx c e z=>by
 let⟨v,o,h,g⟩:=I.cell x c e;let⟨m,⟨i,f,d,b,a,q⟩,q⟩:=I.loc
 lia
def Inv.gO(I:Inv X pins σ H s):s.heap.FunFrames X.base X.outer:=by
 have a:∀(l:Nr),(∀b∈fB l,b∈X.fs)->X.s₀.heap.FunFrames X.base l->s.heap.FunFrames X.base l:=by
  intro l
  induction l with
  | nil=>intro q q;trivial
  | cons env r ih=>
   intro g j;let⟨i,⟨L,o,f,k,m,h⟩,n⟩:=j;have c:L∈X.fs:=g L (by unfold fB;rw[filterMap_cons,f];rwa[vq]);let⟨p,e⟩:=I.base.slot L o m (I.ok.pA L c) c λz=>I.ok.nE L z c
   rwa[i,#[L,_,f,k,e,h],ih (λb d=>g b (by unfold fB;rw[filterMap_cons,f];rwa[vp _ d])) n]
 rwa[a X.outer (λq d=>d) I.ok.gO]
def Inv.stack(I:Inv X pins σ H s):s.heap.FunFrames X.base X.stack:=by
 rcases I.ok.oY with e | ⟨e,a⟩
 .rw[e];rwa[I.gO]
 .rw[e];let⟨m,b,q⟩:=I.loc;erw[.cons (by rw[I.ok.kind];decide) a b ?_ I.gO];rwa[Heap.get?_none_of_le (vW I.ok.ox I.ok.above)]
def Inv.iX(I:Inv X pins σ H s):∀b∈fB X.stack,b∈X.env.locals::X.fs:=λb a=>by
 rcases I.ok.oY with e | ⟨e,c⟩
 .rw[e]at a;rwa[vp _ a]
 .rw[e]at a;unfold fB at a;rw[filterMap_cons,c]at a;rwa[a]
def Inv.iB(I:Inv X pins σ H s):∀b∈fB X.stack,H b=none:=λb a=>by
 rcases mem_cons.mp (I.iX b a)with e | a
 .rw[e];rwa[I.free]
 .let⟨_,o,c,_⟩:=I.ok.gO.mem a;rwa[I.base.free b o c (I.ok.pA b a) λz=>I.ok.nE b z a]
def Inv.step{g':Array GenState}{t':Nat}{d':Drawn}{ch:L7}(I:Inv X pins σ H s)
  (h:∀b∈ch,(b∈X.ex\/X.s₀.heap.objs.size<=b)/\b≠X.env.locals/\(∀x c,X.env.cells.lookup x⊂c->c≠b)/\∀p∈X.pn++pins,p.1≠b)
  (j:∀b o,b≠X.env.locals->b∉X.fs->b∉ch->s.heap.get? b⊂o->H b=none->h'.get? b⊂o)
  (A:∀b o,b≠X.env.locals->b∈X.fs->b∉ch->s.heap.get? b⊂o->H b=none->∃N,h'.get? b=some {o with slots:=N}) (f:∀b o,b∉ch->s.heap.get? b⊂o->H b=none->H' b=none)
  (C:∀b o,b∉ch->s.heap.get? b⊂o->∃o',h'.get? b⊂o')
  (K:∀b xs,H b⊂.tup xs->H' b⊂.tup xs) (F:∀b o u,H b⊂.iy o u->H' b⊂.iy o u) (J:∀b ps,H b⊂.pO ps->∃more,H' b⊂(.pO (ps++more)))
  (ns:∀m,s.heap.Ns X.env.locals m->h'.Ns X.env.locals m) (M:fA X.prog X.w H' h') (U:AllBare g') :
  Inv X pins σ H' {s with heap:=h',gens:=g',drawn:=d',toks:=t'}:=by
 have G:∀b o,X.s₀.heap.get? b⊂o->b≠X.env.locals:=λb o e=>vE (Nat.lt_of_lt_of_le (vI e) I.ok.above)
 have y:∀b o,X.s₀.heap.get? b⊂o->b∉X.ex->b∉ch:=λb o e a B=>by
  rcases(h b B).1 with z | z
  .exact a z
  .exact ud (Nat.lt_of_lt_of_le (vI e) z) (Nat.lt_irrefl _)
 have g:∀x c,X.env.cells.lookup x⊂c->∀v,s.heap.IsCell c v->h'.IsCell c v:=λx c e v ⟨o,D,L⟩=>by
  have t:c∉ch:=λz=>(h c z).2.2.1 x c e rfl
  by_cases P:c∈X.fs
  .let⟨N,q⟩:=A c o (I.tL x c e) P t D (I.d0 x c e);rwa[_,q,L]
  .exact#[o,j c o (I.tL x c e) P t D (I.d0 x c e),L]
 erw[I.ok,I.os,U,#[λb o e n B a=>?_,λb o e n B a=>?_,λb o e n a=>?_,λb o e a=>?_,λb xs e=>K b xs (I.base.dU b xs e),λb o xs e=>F b o xs (I.base.g5 b o xs e),λb ps e=>?_],?_,λx c e=>?_,?_,λx c e=>?_,λp Q=>?_,M,I.len]
 .exact j b o (G b o e) B (y b o e a) (I.base.keep b o e n B a) (I.base.free b o e n a)
 .let⟨N,w⟩:=I.base.slot b o e n B a;let⟨O,E⟩:=A b _ (G b o e) B (y b o e a) w (I.base.free b o e n a);rwa[O,E]
 .let⟨o',w⟩:=I.base.there b o e a;rwa[f b o' (y b o e a) w (I.base.free b o e n a)]
 .let⟨o',w⟩:=I.base.there b o e a;rwa[C b o' (y b o e a) w]
 .let⟨Z,w⟩:=I.base.iY b ps e;let⟨m2,E⟩:=J b _ w;rwa[Z++m2,by rw[E,Array.append_assoc]]
 .let⟨m,Y,W⟩:=I.loc;erw[m,ns m Y,λi x v w E T=>?_];let⟨u,r,l⟩:=W i x v w E T;erw[u,r,?_];rcases l with l | ⟨k,c,e,z⟩
  .exact .inl l
  .exact .inr #[k,c,e,g x c e _ z]
 .let⟨v,z⟩:=I.cell x c e;rwa[v,g x c e v z]
 .let⟨m,⟨o,_,_,D,_⟩,_⟩:=I.loc;rwa[f _ o (λz=>(h _ z).2.1 rfl) D I.free]
 .let⟨v,o,D,L⟩:=I.cell x c e;rwa[f c o (λz=>(h c z).2.2.1 x c e rfl) D (I.d0 x c e)]
 .let⟨e,n,R,S,d⟩:=I.pin p Q;have t:p.1∉ch:=λz=>(h p.1 z).2.2.2 p Q rfl
  rwa[j p.1 p.2 R S t e n,f p.1 p.2 t e n,R,S,d]
def Inv.un{t':Nat}(I:Inv X pins σ H s)(u:Un X.fs [] H H' s.heap h')(g:fA X.prog X.w H' h'):Inv X pins σ H' {s with heap:=h',toks:=t'}:=by
 let⟨m,⟨o,p,l,h,r⟩,q⟩:=id I.loc;let⟨v,i⟩:=u.any h I.free (by simp);exact I.step (g':=s.gens) (d':=s.drawn) (ch:=[]) (λq z=>nomatch z) (λb o q f q e n=>u.keep b o e n f (by simp)) (λb o q f q e n=>u.slot b o e n f (by simp)) (λb o q e n=>u.free b o e n (by simp)) (λb o q e=>u.there b o e (by simp)) u.dU u.g5 u.iY (λq j=>by
  let⟨t,d,c,a,k⟩:=j;rw[h]at a;cases a;rwa[_,d,c,i,k]) g I.bare
def Inv.call{g':Array GenState}{t':Nat}{d':Drawn}{ch:L7}(I:Inv X pins σ H s)(u:Un (fB X.stack) ch H H' s.heap h')(j:fA X.prog X.w H' h')(q:AllBare g')
  (d:∀b∈ch,(b∈X.ex\/X.s₀.heap.objs.size<=b)/\b≠X.env.locals/\(∀x c,X.env.cells.lookup x⊂c->c≠b)/\∀p∈X.pn++pins,p.1≠b) :
  Inv X pins σ H' {s with heap:=h',gens:=g',drawn:=d',toks:=t'}:=by
 let⟨m,⟨o,y,w,k,r⟩,Z⟩:=id I.loc;let⟨C,i⟩:=u.any k I.free λz=>(d _ z).2.1 rfl
 exact I.step (ch:=ch) d (λb o i l a e n=>u.keep b o e n (λz=>(mem_cons.mp (I.iX b z)).elim i l) a) (λb o Z Z a e n=>u.any e n a) (λb o a e n=>u.free b o e n a) (λb o a e=>u.there b o e a) u.dU u.g5 u.iY (λA t=>by
  let⟨B,h,g,f,v⟩:=t;rw[k]at f;cases f;rwa[_,h,g,i,v]) j q
def Inv.turned{t':Nat}{it:Addr}(I:Inv X pins σ H s)(k:∀b o,b≠it->s.heap.get? b⊂o->h'.get? b⊂o)(y:H it=none)(f:it≠X.env.locals)
  (i:it∈X.ex\/X.s₀.heap.objs.size<=it) (j:∀x c,X.env.cells.lookup x⊂c->c≠it) (l:∀p∈X.pn++pins,p.1≠it):Inv X pins σ H {s with heap:=h',toks:=t'}:=by
 have d:∀b u,H b⊂u->b≠it:=λb u e z=>by rw[z,y]at e;cases e
 refine I.step (g':=s.gens) (d':=s.drawn) (ch:=[it]) (λb t=>?_) (λb o Z Z a e Z=>k b o (λz=>a (by simp[z])) e) (λb o Z Z a e Z=>#[o.slots,k b o (λz=>a (by simp[z])) e]) (λZ Z Z Z n=>n)
  (λb o a e=>#[o,k b o (λz=>a (by simp[z])) e]) (λZ Z e=>e) (λZ Z Z e=>e) (λb B e=>#[#[],by rw[e];simp]) (λm w=>?_) (λb u e=>?_) I.bare
 .have e:b=it:=by simpa using t
  subst e;rwa[i,f,j,l]
 .let⟨o,h,g,A,r⟩:=w;rwa[o,h,g,k _ o (Ne.symm f) A,r]
 .refine(I.cK b u e).iu (λc v a q=>k c v ?_ q) (λZ q=>q) λZ Z q=>q
  rcases a with z | z
  .rw[z];rwa[d b u e]
  .exact d c _ z
def Inv.tok(I:Inv X pins σ H s)(t:Nat):Inv X pins σ H {s with toks:=t}:=I.un (h':=s.heap) (t':=t) Un.refl I.cK
def Inv.kept(I:Inv X pins σ H s)(k:∀b u,s.heap.get? b⊂u->h'.get? b⊂u):Inv X pins σ H {s with heap:=h',toks:=t'}:=I.un (Un.kept k) (I.cK.kept k)
def Inv.laid(I:Inv X pins σ H s)(k:∀b u,s.heap.get? b⊂u->h'.get? b⊂u)(c:s⁻¹<=a)(d:cD X.prog X.w (upd H a o) h' a o) :
  Inv X pins σ (upd H a o) {s with heap:=h',toks:=t'}:=I.un (Un.laid k c (I.cK.fresh c)) (I.cK.laid k c d)
def Inv.write(I:Inv X pins σ H s)(f:tE (H x))(d:e=x\/H e⊂.own x)(k:∀b u,b≠e->s.heap.get? b⊂u->h'.get? b⊂u)(a:∃u,h'.get? e⊂u)
  (c:cD X.prog X.w (upd H x o) h' x o):Inv X pins σ (upd H x o) {s with heap:=h',toks:=t'}:=I.un (Un.write f d k a) (I.cK.write f d k a c)
def Inv.weak(I:Inv X pins σ H s)(d:S'.length=⇑σ)(w:∀(i:Nat) v,S'[i]?⊂(some v)->σ[i]?⊂(some v)):Inv X pins S' H s:=
 #[I.ok,I.os,I.bare,I.base,let ⟨m,hn,hl'⟩:=I.loc;#[m,hn,λi x v a b c=>hl' i x v a (w i v b) c],I.cell,I.free,I.d0,I.pin,I.cK,d.trans I.len]
def Inv.pins_of(I:Inv X pins σ H s)(h:∀p∈pins',s.heap.get? p.1⊂p.2/\H p.1=none/\p.1≠X.env.locals/\p.1∉X.fs/\∀v,p.2.data≠.cell v):Inv X pins' σ H s:=
 #[I.ok,I.os,I.bare,I.base,I.loc,I.cell,I.free,I.d0,λp a=>(vh.mp a).elim (λz=>I.pin p (mem_append_left _ z)) (h p),I.cK,I.len]
def W2{N:L8}(e:N.Nodup){i j:Nat}{x:Str}(a:N[i]?⊂x)(b:N[j]?⊂x):i=j:=by
 let⟨f,c⟩:=vx.mp a;let⟨g,d⟩:=vx.mp b;rwa[(List.getElem_inj e).mp (c.trans d.symm)]
def XH{M:Model}{A:Around}{E:Nz}{i:Nat}{x:Str}{v:V}{u:Value}{Q:Unit->Shared->Prop}(I:Inv X pins σ H s)(hN:X.N.Nodup)(hi:X.N[i]?⊂x)(t:Loc X.env.scope x)(r:RelV v u)
  (h:∀s',Inv X pins (σ.set i (some v)) H s'->(∃a,Heap.SameBut a s.heap s'.heap/\(a=X.env.locals\/X.env.cells.lookup x⊂a))->Q () s') (hf:X.fn x=true\/X.env.scope.names.lookup x⊂.local:=by and_intros):wpAny M A (storeName X.env x u) Q E s:=by
 let⟨m,hn,hl⟩:=id I.loc;have P:(X.env.scope.kind == .class||(X.env.scope.kind == .module&&X.env.locals != X.env.globals))=false:=by rw[I.ok.kind];rfl
 have C:i<⇑σ:=by rw[I.len];rwa[(vx.mp hi).1]
 have F:=I.tL;have l:∀{a:Addr} {L:Heap},(∃o,s.heap.get? a⊂o/\H a=none)->Heap.SameBut a s.heap L->fA X.prog X.w H L:=λ{a L} ha f b ob e=>by
  let⟨_,_,Z⟩:=ha;erw[(I.cK b ob e).iu (λc W w q=>(f.2 c ?_).trans q) (λ_ q=>q) λ_ _ q=>q]
  lia
 rcases t with D | D
 .refine wpAny_storeName_local D hn (λL a0 f=>?_) P;let⟨oL,_,_,a1,_⟩:=id hn;refine h _ #[I.ok,I.os,I.bare,#[λb o e n G t=>?_,λb o e n G t=>?_,I.base.free,λb o e t=>?_,I.base.dU,I.base.g5,I.base.iY],#[_,a0,λj y v' g B Y=>?_],λy c e=>?_,I.free,I.d0,λp hp=>?_,l #[oL,a1,I.free] f,#v[I.len]] #[_,f,.inl rfl]
  .exact(f.2 b (vE (Nat.lt_of_lt_of_le (vI e) I.ok.above))).trans (I.base.keep b o e n G t)
  .let⟨sl,g⟩:=I.base.slot b o e n G t;rwa[sl,(f.2 b (vE (Nat.lt_of_lt_of_le (vI e) I.ok.above))).trans g]
  .let⟨o',g⟩:=I.base.there b o e t;rwa[o',(f.2 b (vE (Nat.lt_of_lt_of_le (vI e) I.ok.above))).trans g]
  .by_cases K:j=i
   .subst K;rw[hi]at g;cases g;rw[List.getElem?_set_self C]at B;cases B;rwa[u,r,.inl #[D,by simp]]
   .rw[List.getElem?_set_ne (Ne.symm K)]at B;let⟨u',r',q⟩:=hl j y v' g B Y;erw[u',r',?_];rcases q with⟨k,e⟩ | ⟨k,c,e,z⟩
    .refine .inl #[k,?_];have:y≠x:=λe=>K (W2 hN g (e▸hi))
     simp[this,e]
    .exact .inr #[k,c,e,z.sameBut f (F y c e)]
  .let⟨W,z⟩:=I.cell y c e;rwa[W,z.sameBut f (F y c e)]
  .let⟨e,n,U,nf,d⟩:=I.pin p hp;rwa[(f.2 p.1 U).trans e,n,U,nf,d]
 .have J:X.fn x=true:=by
   rcases hf with z | z
   .exact z
   .rw[z]at D;cases D
  let⟨c,w⟩:=I.ok.has x (.inl D);let⟨W,z⟩:=I.cell x c w;erw[wpAny_storeName_cell I.ok.kind D w z (λL N f=>?_)];let⟨oc,R,S⟩:=id z;erw[h {s with heap:=L} #[I.ok,I.os,I.bare,#[λb o e n G t=>?_,λb o e n G t=>?_,I.base.free,λb o e t=>?_,I.base.dU,I.base.g5,I.base.iY],#[m,hn.sameBut f (Ne.symm (F x c w)),λj y v' g B Y=>?_],λy T e=>?_,I.free,I.d0,λp hp=>?_,l #[oc,R,I.d0 x c w] f,#v[I.len]] #[c,f,.inr w]]
  .exact(f.2 b (vE (Nat.lt_of_lt_of_le (vI e) (I.ok.r6 x c J w)))).trans (I.base.keep b o e n G t)
  .let⟨sl,g⟩:=I.base.slot b o e n G t;rwa[sl,(f.2 b (vE (Nat.lt_of_lt_of_le (vI e) (I.ok.r6 x c J w)))).trans g]
  .let⟨o',g⟩:=I.base.there b o e t;rwa[o',(f.2 b (vE (Nat.lt_of_lt_of_le (vI e) (I.ok.r6 x c J w)))).trans g]
  .by_cases K:j=i
   .subst K;rw[hi]at g;cases g;rw[List.getElem?_set_self C]at B;cases B;rwa[u,r,.inr #[.inl D,c,w,N]]
   .rw[List.getElem?_set_ne (Ne.symm K)]at B;let⟨u',r',q⟩:=hl j y v' g B Y;erw[u',r',?_];rcases q with q | ⟨k,T,e,z'⟩
    .exact .inl q
    .refine .inr #[k,T,e,z'.sameBut f ?_];rintro rfl;rwa[K (W2 hN g (I.ok.inj _ _ _ e w▸hi))]
  .by_cases O:T=c
   .subst O;rwa[_,N]
   .let⟨w2,z2⟩:=I.cell y T e;rwa[w2,z2.sameBut f O]
  .let⟨e,n,U,nf,d⟩:=I.pin p hp;erw[(f.2 p.1 ?_).trans e,n,U,nf,d];intro q;rw[q,R]at e;have q':oc=p.2:=vL e;rwa[d W (by rw[<-q'];rwa[S])]
def Ku{E:Nz}{Q:Unit->Shared->Prop}(I:Inv X pins σ H s)(b:X.N.Nodup)(hi:X.N[i]?⊂x)(d:Loc X.env.scope x)(r:RelV v u)
  (h:∀s',Inv X pins (σ.set i (some v)) H s'->Q () s') (c:X.fn x=true\/X.env.scope.names.lookup x⊂.local:=by and_intros):wpAny M A (storeName X.env x u) Q E s:=
 XH I b hi d r (λs' a q=>h s' a) c
def Inv.pY(I:Inv X pins σ H s)(g:s'.os=s.os)(u:Un (fB X.stack) ch H H' s.heap s'.heap)(d:fA X.prog X.w H' s'.heap)(f:AllBare s'.gens)
  (a:∀b∈ch,(b∈X.ex\/X.s₀.heap.objs.size<=b)/\b≠X.env.locals/\(∀x c,X.env.cells.lookup x⊂c->c≠b)/\∀p∈X.pn++pins,p.1≠b):Inv X pins σ H' s':=by
 let⟨i,g',d',t',h⟩:=s';have e:h=s.os:=g;subst e;rwa[I.call (g':=g') (t':=t') (d':=d') u d f a]
end
noncomputable abbrev XK:=Value->Option Addr->Hp->Prop
noncomputable abbrev St:=List N5
noncomputable abbrev VK:=V->Hp->Prop
noncomputable abbrev TE:=St->Hp->VK->Prop
noncomputable abbrev TT:=St->Hp->(Bool->Hp->Prop)->Prop
noncomputable abbrev TA:=St->Hp->(N4->Hp->Prop)->Prop
structure Ends where
 nx:St->Hp->Prop
 rt:VK
 bk:St->Hp->Prop:=λ_ _=>False
 ct:St->Hp->Prop:=λ_ _=>False
noncomputable abbrev TS:=Ends->St->Hp->Prop
def EP(X:Cx)(pins:Ny)(σ:St)(Q:VK)(u:Value)(s':Shared):Prop:=∃v H',Inv X pins σ H' s'/\RelV v u/\Q v H'
def TP(X:Cx)(pins:Ny)(σ:St)(Q:Bool->Hp->Prop)(b:Bool)(s':Shared):Prop:=∃H',Inv X pins σ H' s'/\Q b H'
def AP(X:Cx)(pins:Ny)(σ:St)(Q:N4->Hp->Prop)(us:L9)(s':Shared):Prop:=∃vs H',Inv X pins σ H' s'/\Vals vs us/\Q vs H'
def SP(X:Cx)(pins:Ny)(D:Ends)(f:Flow)(s':Shared):Prop:=
 match f with
 | .next=>∃S' H',Inv X pins S' H' s'/\D.nx S' H'
 | .brk=>∃S' H',Inv X pins S' H' s'/\D.bk S' H'
 | .cont=>∃S' H',Inv X pins S' H' s'/\D.ct S' H'
 | .ret u=>∃v S' H',Inv X pins S' H' s'/\RelV v u/\D.rt v H'
def PE(X:Cx)(e:Expr)(t:TE):Prop:=
 ∀(pins:Ny) (s:Shared) (σ:St) (H:Hp) (Q:VK),Inv X pins σ H s->t σ H Q->wpAny (model X.prog X.w) X.A (eval e X.env) (EP X pins σ Q) X.xe s
def PT(X:Cx)(e:Expr)(t:TT):Prop:=
 ∀(pins:Ny) (s:Shared) (σ:St) (H:Hp) (Q:Bool->Hp->Prop),Inv X pins σ H s->t σ H Q->wpAny (model X.prog X.w) X.A (isTrue e X.env (eval e X.env)) (TP X pins σ Q) X.xe s
def PW(X:Cx)(e:Expr)(t:TT):Prop:=
 ∀(whole:Sem Value) (pins:Ny) (s:Shared) (σ:St) (H:Hp) (Q:Bool->Hp->Prop),Inv X pins σ H s->t σ H Q->wpAny (model X.prog X.w) X.A (isTrue e X.env whole) (TP X pins σ Q) X.xe s
def PW.pt(h:PW X e t):PT X e t:=h _
def PA(X:Cx)(es:Nt)(t:TA):Prop:=
 ∀(pos:Pos) (pins:Ny) (s:Shared) (σ:St) (H:Hp) (Q:N4->Hp->Prop),Inv X pins σ H s->t σ H Q->wpAny (model X.prog X.w) X.A (spliced (backTo pos (starEach es X.env))) (AP X pins σ Q) X.xe s
def PS(X:Cx)(st:Stmt)(t:TS):Prop:=
 ∀(pins:Ny) (s:Shared) (σ:St) (H:Hp) (D:Ends),Inv X pins σ H s->t D σ H->wpAny (model X.prog X.w) X.A (exec st X.env) (SP X pins D) X.xe s
def lM(X:Cx)(st:List Stmt)(t:TS):Prop:=
 ∀(pins:Ny) (s:Shared) (σ:St) (H:Hp) (D:Ends),Inv X pins σ H s->t D σ H->wpAny (model X.prog X.w) X.A (execs st X.env) (SP X pins D) X.xe s
def cM{c:Type}{t:Sem c}{Q b:c->Shared->Prop}{M:Model}{A:Around}{E:Nz}{s:Shared}(h:wpAny M A t Q E s)(d:∀a s,Q a s->b a s):wpAny M A t b E s:=wpAny_mono h d λq q x=>x
section
variable{X:Cx}
def ft(i:Nat):TE:=λσ H Q=>∃v,σ[i]?⊂(some v)/\Q v H
def tC(v:V):TE:=λq H Q=>Q v H
def Nd(n:X.N[i]?⊂x)(t:tJ X.env.scope x)(j:(x==("__debug__" : Str))=false:=by decide)(g:(x==("__classdict__" : Str))=false:=by decide):PE X (.Name x pos) (ft i):=by
 intro f s w H Q I h;let⟨v,e,h⟩:=h;let⟨m,q,o⟩:=I.loc;let⟨u,r,l⟩:=o i x v n e t;have b:EP X f w Q u s:=#[v,H,I,r,h]
 rcases l with⟨d,p⟩ | ⟨d,c,k,a⟩
 .exact wpAny_Name (wpAny_loadName_local I.ok.kind d q p b) j
 .rcases d with d | d
  .exact wpAny_Name (wpAny_loadName_cell I.ok.kind d k a b) j
  .exact wpAny_Name (wpAny_loadName_free I.ok.kind d k a b g) j
def jd{i j pos}:PE X (.Constant (.int i) j pos) (tC (.int i)):=λq q q H q I h=>wpAny_Constant_int #[.int i,H,I.tok _,#[_,rfl],h]
def Y8{b j pos}:PE X (.Constant (.bool b) j pos) (tC (.bl b)):=λq q q H q I h=>Constant_bool #[.bl b,H,I,rfl,h]
def BA{j pos}:PE X (.Constant .none j pos) (tC .dj):=λq q q H q I h=>Constant_none #[.dj,H,I,rfl,h]
def jG{x j pos}:PE X (.Constant (.str x) j pos) (tC (.str x)):=λq q q H q I h=>Calls.Constant_str #[.str x,H,I.tok _,#[_,rfl],h]
def Gl(X:Cx)(x:Str):Prop:=X.env.kindOf x⊂.globalImplicit
def k7{E:Nz}{d:St}{H:Hp}{Q:Nz}(I:Inv X pins d H s)(b:Gl X x)(c:X.mg x⊂u)(h:Q u s)
  (a:(x==("__debug__" : Str))=false:=by decide):wpAny (model X.prog X.w) X.A (eval (.Name x pos) X.env) Q E s:=
 Calls.Name_function_global I.ok.kind b (Calls.loadGlobal_global (by rw[I.ok.glob];rwa[I.mod.glob.keeps I.bk]) c h) a
def Zs{E:Nz}{i:St}{H:Hp}{Q:Nz}(I:Inv X pins i H s)(d:Gl X x)(e:X.mg x=none)(g:bootBuiltins x⊂u)(h:Q u s)
  (f:x≠"__name__":=by decide) (c:(x==("__debug__" : Str))=false:=by decide):wpAny (model X.prog X.w) X.A (eval (.Name x pos) X.env) Q E s:=by
 let⟨j,a,b⟩:=I.mod.blt;rwa[Calls.Name_function_global I.ok.kind d (Calls.loadGlobal_builtin (by rw[I.ok.glob];rwa[I.mod.glob.keeps I.bk]) e (by rw[I.ok.blt];rwa[a.keeps I.bk]) ((b x f).trans g) h) c]
def qG(b:Gl X x)(c:X.mg x⊂u)(r:RelV v u)(a:(x==("__debug__" : Str))=false:=by decide):PE X (.Name x pos) (tC v):=
 λq q q H q I h=>k7 I b c #[v,H,I,r,h] a
def MS(b:Gl X x)(c:X.mg x=none)(e:bootBuiltins x⊂u)(r:RelV v u)(d:x≠"__name__":=by decide)(a:(x==("__debug__" : Str))=false:=by decide):PE X (.Name x pos) (tC v):=
 λq q q H q I h=>Zs I b c e #[v,H,I,r,h] d a
variable{a b:Expr}{ta tb:TE}{pos:Pos}
def PC(X:Cx)(op:CmpOp)(a b:Expr)(t:TE):Prop:=
 ∀(pins:Ny) (s:Shared) (σ:St) (H:Hp) (Q:VK),Inv X pins σ H s->t σ H Q->
  wpAny (model X.prog X.w) X.A (eval a X.env) (λv s₁=>wpAny (model X.prog X.w) X.A (eval b X.env) (λu s₂=>wpAny (model X.prog X.w) X.A (compareOp op v u) (EP X pins σ Q) X.xe s₂) X.xe s₁) X.xe s
def tB(t:TE):TT:=λσ H Q=>t σ H λx H1=>∃c,x = .bl c/\Q c H1
def Np{op:CmpOp}{t:TE}(h:PC X op a b t)(f:behindInMarks op b=false:=by first | exact nobehind _ nofun nofun | rfl):PT X (.Compare a [op] [b] pos) (tB t):=by
 intro e s n H Q I k;erw[wpAny_isTrue_Compare1 (cM (h e s n H _ I k) λv o f=>cM f λu p j=>cM j λc r ⟨x,g,i,m,l⟩=>?_) f];let⟨d,rfl,q⟩:=l;cases m;rwa[wpAny_truthy_bool #[g,i,q]]
def kx{e:Expr}{t:TE}(h:PE X e t)(g:∀a,isTrue e X.env a=(do let v <-a;standAt e.pos;holding [v] (truthy v)):=by intro Z;rfl):PT X e (tB t):=by
 intro b s l H Q I i;erw[isTrue_plain (cM (h b s l H _ I i) λv m z_=>?_) (g _)];obtain⟨x,c,f,k,j⟩:=z_;let⟨d,rfl,q⟩:=j;cases k;rwa[wpAny_truthy_bool #[c,f,q]]
variable{tA tB':TT}{rest:Nt}
def uK(t u:TT):TT:=λσ H Q=>t σ H λc H1=>if c=true then u σ H1 Q else Q false H1
def FD(t u:TT):TT:=λσ H Q=>t σ H λc H1=>if c=true then Q true H1 else u σ H1 Q
def uT(t:TT):TT:=λσ H Q=>t σ H λc H1=>Q (!c) H1
def QB(d:PT X a tA):PW X (.BoolOp .And [a] pos) tA:=by
 intro i b s f H Q I h;erw[isTrue_and (cM (d b s f H Q I h) λc g e=>?_)];cases c with
 | true=>rwa[isTrue_and_nil e]
 | false=>rwa[e]
def xa(d:PT X a tA):PW X (.BoolOp .Or [a] pos) tA:=by
 intro i b s f H Q I h;erw[isTrue_or (cM (d b s f H Q I h) λc g e=>?_)];cases c with
 | false=>rwa[isTrue_or_nil e]
 | true=>rwa[e]
def Q1(j:PT X a tA)(k:PW X (.BoolOp .And (b::rest) pos) tB'):PW X (.BoolOp .And (a::b::rest) pos) (uK tA tB'):=by
 intro m d s i H Q I h;erw[isTrue_and (cM (j d s i H _ I h) λc l z_=>?_)];obtain⟨e,f,g⟩:=z_;cases c with
 | true=>rwa[k m d l i e Q f g]
 | false=>rwa[e,f,g]
def tU(j:PT X a tA)(k:PW X (.BoolOp .Or (b::rest) pos) tB'):PW X (.BoolOp .Or (a::b::rest) pos) (FD tA tB'):=by
 intro m d s i H Q I h;erw[isTrue_or (cM (j d s i H _ I h) λc l z_=>?_)];obtain⟨e,f,g⟩:=z_;cases c with
 | true=>rwa[e,f,g]
 | false=>rwa[k m d l i e Q f g]
def ku(e:PT X a tA):PT X (.UnaryOp .Not a pos) (uT tA):=by
 intro b s f H Q I h;rwa[isTrue_not (e b s f H (λc d=>Q (!c) d) I h)]
def rq(ta tb:TE):TE:=λσ H Q=>ta σ H λx H1=>∃c,x = .bl c/\if c=true then tb σ H1 Q else Q (.bl false) H1
def BC{op}(h:PE X a t):PE X (.BoolOp op [a] pos) t:=λb s d H Q I c=>BoolOp_one (h b s d H Q I c)
def By(j:PE X a ta)(k:PE X (.BoolOp .And (b::rest) pos) tb):PE X (.BoolOp .And (a::b::rest) pos) (rq ta tb):=by
 intro d s i H Q I h;erw[BoolOp_and (cM (j d s i H _ I h) λv m z_=>?_)];obtain⟨x,f,g,l,e⟩:=z_;let⟨c,rfl,e⟩:=e;cases l;erw[wpAny_truthy_bool ?_];cases c with
 | true=>rwa[k d m i f Q g e]
 | false=>rwa[.bl false,f,g,rfl,e]
def FA(t:TT)(ta tb:TE):TE:=λσ H Q=>t σ H λc H1=>if c=true then ta σ H1 Q else tb σ H1 Q
def W7{c:Expr}(n:PT X c tA)(l:PE X a ta)(m:PE X b tb):PE X (.IfExp c a b pos) (FA tA ta tb):=by
 intro e s f H Q I h;erw[wpAny_IfExp (cM (n e s f H _ I h) λd k z_=>?_)];obtain⟨g,i,j⟩:=z_;cases d with
 | true=>rwa[l e k f g Q i j]
 | false=>rwa[m e k f g Q i j]
end
def cm(K:cG)(H:Hp)(a:Addr)(xs:N4):Prop:=
 Rd H a (.lst xs)\/
  ∃(o:Obj) (its:Array Value) (n:Nat),K.lookup a⊂o/\o.cls = .type "list"/\o.dict=none/\o.data = .seq its n/\its.size<=sizeLine/\Vals xs its.toList
def cL(K:cG)(H:Hp)(a:Addr)(xs:N4):Prop:=
 Rd H a (.tup xs)\/
  ∃(o:Obj) (its:Array Value) (n:Nat),K.lookup a⊂o/\o.cls = .type "tuple"/\o.data = .seq its n/\its.size<=sizeLine/\Vals xs its.toList
noncomputable def AI:Value->N5
 | .none=>some .dj
 | .bool b=>some (.bl b)
 | .int i _=>~~~i
 | .str x _=>some (.str x)
 | .bytes b _=>some (.me b)
 | .float b _=>some (.tM b)
 | .ref a=>↥a
 | .type n=>some (.ty n)
 | _=>none
def RelV.abs(r:RelV x u):AI u⊂x:=by
 cases x with
 | dj=>cases r;rfl
 | bl _=>cases r;rfl
 | int _=>let⟨t,rfl⟩:=r;rfl
 | str _=>let⟨t,rfl⟩:=r;rfl
 | me _=>let⟨t,rfl⟩:=r;rfl
 | tM _=>let⟨t,rfl⟩:=r;rfl
 | ref _=>cases r;rfl
 | ty _=>cases r;rfl
def RelV.inj(r:RelV x u)(q:RelV y u):x=y:=vL (r.abs.symm.trans q.abs)
def Vals.inj:∀{xs ys:N4} {us:L9},Vals xs us->Vals ys us->xs=ys:=by
 intro xs ys us h
 induction h generalizing ys with
 | nil=>intro k;cases k;rfl
 | cons r t ih=>
  intro k;cases k with
  | cons r' t'=>rw[r.inj r',ih t']
section
variable{X:Cx}{pins:Ny}{σ:St}{H:Hp}{s:Shared}{a:Addr}{xs ys:N4}
def cm.of{K:cG}(h:H a⊂.lst xs):cm K H a xs:=.inl (.inl h)
def cL.of{K:cG}(h:H a⊂.tup xs):cL K H a xs:=.inl (.inl h)
def Inv.list(I:Inv X pins σ H s)(h:cm X.K H a xs):∃b:L9,Vals xs b/\PlainL s.heap a b.toArray/\⇑xs<=sizeLine:=by
 rcases h with h | ⟨o,b,n,f,c,d,g,i,r⟩
 .let⟨z,b,n,r,e⟩:=h.ok I.cK;rwa[b,r,#[_,n,e,rfl,rfl,rfl],z]
 .refine#[b.toList,r,#[o,n,I.jk a o f,c,d,#v[g]],?_];have e:=⇑r
  simp_all
def Inv.tuple(I:Inv X pins σ H s)(h:cL X.K H a xs):∃b:L9,Vals xs b/\IsTup s.heap a b.toArray/\⇑xs<=sizeLine:=by
 rcases h with h | ⟨o,b,n,d,c,f,g,r⟩
 .let⟨z,b,r,p⟩:=h.ok I.cK;rwa[b,r,p,z]
 .refine#[b.toList,r,#[o,I.jk a o d,c,n,#v[f]],?_];have e:=⇑r
  simp_all
def Inv.fK(I:Inv X pins σ H s)(h:cm X.K H a xs)(h':cm X.K H a ys):xs=ys:=by
 let⟨c,r,⟨o,n,e,q,q,d⟩,q⟩:=I.list h;let⟨b,i,⟨k,j,g,q,q,f⟩,q⟩:=I.list h';rw[e]at g;cases g;rw[d]at f;injection f with d1 _;have:c=b:=by simpa using congrArg Array.toList d1
 subst this;rwa[r.inj i]
def Inv.nN(I:Inv X pins σ H s)(h:cL X.K H a xs)(h':cL X.K H a ys):xs=ys:=by
 let⟨c,r,⟨o,e,q,n,d⟩,q⟩:=I.tuple h;let⟨b,i,⟨k,g,q,j,f⟩,q⟩:=I.tuple h';rw[e]at g;cases g;rw[d]at f;injection f with d1 _;have:c=b:=by simpa using congrArg Array.toList d1
 subst this;rwa[r.inj i]
end
noncomputable abbrev Cx.hY(X:Cx)(E:Nz):Cx:={X with xe:=E}
noncomputable abbrev Cx.kb(X:Cx):Cx:=X.hY λq q=>False
def Cx.Ok.hY{X:Cx}(a:X.Ok)(E:Nz):(X.hY E).Ok:=
 #[a.mod,a.kind,a.glob,a.blt,a.above,a.inj,a.has,a.r6,a.hd,a.frames,a.oY,a.Aa,a.bs,a.ox,a.mS,a.nE,a.gO,a.pA]
def Cx.Ok.dN{X:Cx}{E:Nz}(a:(X.hY E).Ok):X.Ok:=
 #[a.mod,a.kind,a.glob,a.blt,a.above,a.inj,a.has,a.r6,a.hd,a.frames,a.oY,a.Aa,a.bs,a.ox,a.mS,a.nE,a.gO,a.pA]
section
variable{X:Cx}{pins:Ny}{σ:St}{H:Hp}{s:Shared}{E:Nz}
def Inv.hY(I:Inv X pins σ H s)(E:Nz):Inv (X.hY E) pins σ H s:=#[I.ok.hY E,I.os,I.bare,I.base,I.loc,I.cell,I.free,I.d0,I.pin,I.cK,I.len]
def Inv.dN(I:Inv (X.hY E) pins σ H s):Inv X pins σ H s:=#[I.ok.dN,I.os,I.bare,I.base,I.loc,I.cell,I.free,I.d0,I.pin,I.cK,I.len]
def SP.dN(h:SP (X.hY E) pins D f s'):SP X pins D f s':=by
 cases f with
 | next=>let⟨a,b,I,q⟩:=h;rwa[a,b,I.dN,q]
 | brk=>let⟨a,b,I,q⟩:=h;rwa[a,b,I.dN,q]
 | cont=>let⟨a,b,I,q⟩:=h;rwa[a,b,I.dN,q]
 | ret u=>let⟨v,a,b,I,r,q⟩:=h;rwa[v,a,b,I.dN,r,q]
def lM.kb{st:List Stmt}{t:TS}(h:lM X.kb st t):lM X st t:=λa s c H D I b=>
 wpAny_mono (h a s c H D (I.hY _) b) (λj j q=>q.dN) λj j z=>False.elim z
end
section
variable{X:Cx}{st:Stmt}{rest:List Stmt}{t u:TS}{e:Expr}{te:TE}{pos:Pos}
def rC:TS:=λD σ H=>D.nx σ H
def uW(t u:TS):TS:=λD σ H=>t {D with nx:=u D} σ H
def jw:lM X [] rC:=λq q a H q I h=>wpAny_execs_nil #[a,H,I,h]
def jb(e:PS X st t)(g:lM X rest u):lM X (st::rest) (uW t u):=by
 intro a s j H D I h;erw[wpAny_execs_cons (cM (e a s j H {D with nx:=u D} I h) λf i q=>?_)];cases f with
 | next=>
  let⟨b,c,d,q⟩:=q;rwa[g a i b c D d q]
 | ret v=>rwa[q]
 | brk=>rwa[q]
 | cont=>rwa[q]
def jg(b:PS X st t):lM X [st] t:=by
 intro a s c H D I h;erw[wpAny_execs_cons (cM (b a s c H D I h) λf d q=>?_)];cases f with
 | next=>rwa[wpAny_execs_nil q]
 | ret v=>rwa[q]
 | brk=>rwa[q]
 | cont=>rwa[q]
def Inv.quiet{a:St}{H:Hp}(I:Inv X pins a H s):interactive X.env=false:=by simp[interactive,I.ok.kind]
def rA(te:TE):TS:=λD σ H=>te σ H λq H1=>D.nx σ H1
def jW(f:PE X e te)(g:swapsWith e none pos.line X.env=pure false:=by rfl):PS X (.Expr e pos) (rA te):=by
 intro a s b H D I h;erw[wpAny_Expr_any (cM (f a s b H _ I h) λv k z_=>?_) I.quiet g];let⟨x,c,d,j,i⟩:=z_;rwa[b,c,d,i]
def uV(te:TE):TS:=λD σ H=>te σ H D.rt
def jz(f:PE X e te):PS X (.Return (some e) pos) (uV te):=by
 intro a s b H D I h;erw[wpAny_Return_some (cM (f a s b H _ I h) λv j z_=>?_)];let⟨x,c,d,i,g⟩:=z_;rwa[x,b,c,d,i,g]
def sF(c:TT)(t u:TS):TS:=λD σ H=>c σ H λb H1=>if b=true then t D σ H1 else u D σ H1
def jO{c:Expr}{a b:List Stmt}{l:TT}(o:PT X c l)(m:lM X a t)(n:lM X b u):PS X (.If c a b pos) (sF l t u):=by
 intro e s f H D I h;erw[wpAny_If (cM (o e s f H _ I h) λd k z_=>?_)];obtain⟨g,i,j⟩:=z_;cases d with
 | true=>rwa[m e k f g D i j]
 | false=>rwa[n e k f g D i j]
def sG:TS:=λq q q=>False
def yv:PS X st sG:=λq q q q q q h=>h.elim
end
noncomputable abbrev TG:=V->St->Hp->(St->Hp->Prop)->Prop
noncomputable abbrev sS:=N4->St->Hp->(St->Hp->Prop)->Prop
def PG(X:Cx)(target:Expr)(t:TG):Prop:=
 ∀(pins:Ny) (s:Shared) (σ:St) (H:Hp) (v:V) (u:Value) (Q:St->Hp->Prop),Inv X pins σ H s->RelV v u->t v σ H Q->
  wpAny (model X.prog X.w) X.A (assign target X.env u) (λq s'=>∃S' H',Inv X pins S' H' s'/\Q S' H') X.xe s
def vU(X:Cx)(ts:Nt)(t:sS):Prop:=
 ∀(pins:Ny) (s:Shared) (σ:St) (H:Hp) (vs:N4) (us:L9) (Q:St->Hp->Prop),Inv X pins σ H s->Vals vs us->t vs σ H Q->
  wpAny (model X.prog X.w) X.A (assignInOrder ((assignEach ts X.env).map (·.2)) us) (λq s'=>∃S' H',Inv X pins S' H' s'/\Q S' H') X.xe s
noncomputable abbrev rW:=V->V->V->Hp->(Hp->Prop)->Prop
def rV(X:Cx)(t:rW):Prop:=
 ∀(pins:Ny) (s:Shared) (σ:St) (H:Hp) (o i v:V) (ov iv u:Value) (Q:Hp->Prop),Inv X pins σ H s->RelV o ov->RelV i iv->RelV v u->t o i v H Q->
  wpAny (model X.prog X.w) X.A (setItem ov iv u) (λq s'=>∃H',Inv X pins σ H' s'/\Q H') X.xe s
noncomputable abbrev wh:=V->V->Hp->VK->Prop
def CC(X:Cx)(op:Operator)(t:wh):Prop:=
 ∀(pins:Ny) (s:Shared) (σ:St) (H:Hp) (x y:V) (v u:Value) (Q:VK),Inv X pins σ H s->RelV x v->RelV y u->t x y H Q->
  wpAny (model X.prog X.w) X.A (inplaceOp op v u) (EP X pins σ Q) X.xe s
section
variable{X:Cx}{pos:Pos}
def cC(i:Nat):TG:=λv σ H Q=>Q (σ.set i (some v)) H
def jr(c:X.N.Nodup)(hi:X.N[i]?⊂x)(e:Loc X.env.scope x)(d:X.fn x=true\/X.env.scope.names.lookup x⊂.local:=by and_intros):PG X (.Name x pos) (cC i):=by
 intro a s g H v u Q I r h;rwa[wpAny_assign_Name (Ku I c hi e r (λf b=>#[_,H,b,h]) d)]
def cY(i:Nat)(c:X.N.Nodup)(hi:X.N[i]?⊂x:=by rwa[rfl])(e:Loc X.env.scope x:=by rwa[.inl rfl])(d:X.fn x=true\/X.env.scope.names.lookup x⊂.local:=by and_intros):PG X (.Name x pos) (cC i):=jr (i:=i) c hi e d
def nG:sS:=λvs σ H Q=>vs=[]/\Q σ H
def ec(t:TG)(u:sS):sS:=λvs σ H Q=>∃v r,vs=v::r/\t v σ H λS' H'=>u r S' H' Q
def Je:vU X [] nG:=by
 intro a s b H d c Q I r h;let⟨e,h⟩:=h;subst e;cases r;rwa[assignInOrder_nil #[b,H,I,h]]
def jA{e:Expr}{es:Nt}{t:TG}{u:sS}(g:PG X e t)(i:vU X es u)
  (j:(assignEach (e::es) X.env).map (·.2)=assign e X.env::(assignEach es X.env).map (·.2):=by rfl):vU X (e::es) (ec t u):=by
 intro a s m H p n Q I r h;let⟨v,o,f,h⟩:=h;subst f;cases r with
 | cons r rr=>
  rw[j];erw[assignInOrder_cons (cM (g a s m H _ _ _ I r h) λq l z_=>?_)];obtain⟨b,c,d,k⟩:=z_;rwa[i a l b c _ _ Q d rr k]
def nH(K:cG)(n:Nat)(t:sS):TG:=λv σ H Q=>∃a xs,v = .ref a/\cL K H a xs/\⇑xs=n/\t xs σ H Q
def JA(p:X.calm=true)(h:vU X es t)
  (w:⇑(assignEach es X.env)=n:=by rfl) (d:(assignEach es X.env).findIdx? (·.1)=none:=by rfl):PG X (.Tuple es k pos) (nH X.K n t):=by
 intro c s i H v u Q I r f;let⟨a,B,l,x,q,f⟩:=f;subst l;cases r;let⟨A,g,y,C⟩:=I.tuple x;erw[assign_Tuple_tuple (I.ok.hd p) y (by simp[w,<-q,⇑g]) d λm z=>?_]
 have j:Inv X c i H {s with heap:=m}:=I.kept (t':=s.toks) λb o e=>z b o (vE (vI e)) e
 rwa[h c _ i H B _ Q j #v[g] f]
def tO(to ti:TE)(t:rW):TG:=λv σ H Q=>to σ H λo H1=>ti σ H1 λi H2=>t o i v H2 λH3=>Q σ H3
def Yz{o i:Expr}{e d:TE}{t:rW}(p:PE X o e)(hi:PE X i d)(q:rV X t)
  (n:∀v,assign (.Subscript o i pos) X.env v=(do
   let ov <-holding [v] (eval o X.env)
   let b <-holding [v,ov] (eval i X.env)
   standAt pos
   holding [v,ov,b] (setItem ov b v)
   release [v,ov,b] []):=by intro Z;rfl):PG X (.Subscript o i pos) (tO e d t):=by
 intro a s c H v u Q I r h;rw[n];erw[ug (wpAny_holding (cM (p a s c H _ I h) λov D z_=>?_))];obtain⟨x,f,k,B,w⟩:=z_;erw[ug (wpAny_holding (cM (hi a D c f _ k w) λb E z_=>?_))];obtain⟨y,g,l,C,z⟩:=z_;erw[ug (wpAny_standAt (ug (wpAny_holding (cM (q a E c g x y v ov b u _ l B C r z) λZ F z_=>?_))))];obtain⟨j,m,A⟩:=z_;rwa[wpAny_release #[c,j,m,A]]
def oN(te:TE)(g:TG):TS:=λD σ H=>te σ H λx H1=>g x σ H1 D.nx
def Zx{b e:Expr}{c:TE}{g:TG}(k:PE X e c)(l:PG X b g)(m:swapsWithSole [b] e pos.line X.env=pure false:=by rfl)(hw:swappedStores [b] e X.env=pure none:=by rfl)
  (j:(assignEach [b] X.env).map (·.2)=[assign b X.env]:=by rfl):PS X (.Assign [b] e pos) (oN c g):=by
 intro a s d H D I h;erw[wpAny_Assign_stores (cM (k a s d H _ I h) λv p z_=>?_) m hw];obtain⟨x,f,i,o,n⟩:=z_;rw[j];rwa[cM (l a p d f x v _ i o n) λZ r q=>q]
def jo{i:Nat}{x:Str}{e:Expr}{c:TE}{a:Pos}(j:X.N.Nodup)(hi:X.N[i]?⊂x)(n:Loc X.env.scope x)(k:PE X e c)(m:swapsWith e (some (.Name x a)) pos.line X.env=pure false:=by rfl)(l:X.fn x=true\/X.env.scope.names.lookup x⊂.local:=by and_intros) :
  PS X (.Assign [.Name x a] e pos) (oN c (cC i)):=by
 intro b s q H D I h;erw[wpAny_Assign_Name (cM (k b s q H _ I h) λv r z_=>?_) m];obtain⟨y,d,f,p,o⟩:=z_;rwa[Ku f j hi n p (λt g=>#[_,d,g,o]) l]
def cI(i:Nat){x:Str}{e:Expr}{c:TE}{a:Pos}(j:X.N.Nodup)(k:PE X e c)(hi:X.N[i]?⊂x:=by rwa[rfl])(n:Loc X.env.scope x:=by rwa[.inl rfl])(m:swapsWith e (some (.Name x a)) pos.line X.env=pure false:=by rfl)(l:X.fn x=true\/X.env.scope.names.lookup x⊂.local:=by and_intros) : PS X (.Assign [.Name x a] e pos) (oN c (cC i)):=jo (i:=i) j hi n k m l
def uL(i:Nat)(te:TE)(ti:wh):TS:=λD σ H=>∃x,σ[i]?⊂(some x)/\te σ H λy H1=>ti x y H1 λz H2=>D.nx (σ.set i (some z)) H2
def Nl{i:Nat}{x:Str}{e:Expr}{q:TE}{op:Operator}{t:wh}{f:Pos}(K:X.N.Nodup)(hi:X.N[i]?⊂x)(n:Loc X.env.scope x)(M:PE X e q)(R:CC X op t)(N:X.fn x=true\/X.env.scope.names.lookup x⊂.local:=by and_intros) :
  PS X (.AugAssign (.Name x f) op e pos) (uL i q t):=by
 intro a s A H D I h;let⟨v,J,h⟩:=h;let⟨m,Q,O⟩:=I.loc;have o:tJ X.env.scope x:=by rcases n with k | k;rwa[.inl k];rwa[.inr (.inl k)]
 let⟨u,r,l⟩:=O i x v hi J o;erw[wpAny_AugAssign_Name ?_];have p:wpAny (model X.prog X.w) X.A (eval e X.env) (λw g=>wpAny (model X.prog X.w) X.A (inplaceOp op u w) (λr j=>wpAny (model X.prog X.w) X.A (storeName X.env x r) (λ_=>SP X a D .next) X.xe j) X.xe g) X.xe s:=by
  erw[cM (M a s A H _ I h) λw Y z_=>?_];obtain⟨y,B,E,U,S⟩:=z_
  erw[cM (R a Y A B v y u w _ E r U S) λz Z z_=>?_];obtain⟨zv,C,F,W,T⟩:=z_
  rwa[Ku F K hi n W (λs3 G=>#[_,C,G,T]) N]
 rcases l with⟨b,P⟩ | ⟨b,c,L,d⟩
 .exact wpAny_loadName_local I.ok.kind b Q P p
 .rcases b with b | b
  .exact wpAny_loadName_cell I.ok.kind b L d p
  .rcases n with k | k
   .have:X.env.scope.names.lookup x⊂.free:=b;rw[k]at this;cases this
   .have:X.env.scope.names.lookup x⊂.free:=b;rw[k]at this;cases this
noncomputable def CJ(f:Int->Int->Int):wh:=λx y H Q=>∃i j,x = .int i/\y = .int j/\Q (.int (f i j)) H
def Oa:CC X .Add (CJ λi j=>i+j):=by
 intro a s g H x y v u Q I d e h;let⟨i,j,b,c,q⟩:=h;subst b;subst c;let⟨t,rfl⟩:=d;let⟨f,rfl⟩:=e;rwa[iadd_int #[.int _,H,I.tok _,#[_,rfl],q]]
def sL(c:TT)(tb:TS):TS:=λD σ H=>∃W:Nat->St->Hp->Prop,(∃m,W m σ H)/\∀m σ H,W m σ H->
 c σ H λb H1=>if b=true then∃N:St->Hp->Prop,(∀S' H',N S' H'->∃m',m'<m/\W m' S' H')/\tb {D with nx:=N,ct:=N,bk:=D.nx} σ H1 else D.nx σ H1
def DL{c:Expr}{g:List Stmt}{C:TT}{B:TS}(A:PassesOwn (model X.prog X.w) X.A X.env X.xe)(G:PT X c C)(F:lM X g B):PS X (.While c g [] pos) (sL C B):=by
 intro a s Q H D I h;let⟨W,⟨J,O⟩,j⟩:=h;erw[wpAny_While (codeAny_whileLoop (λn K=>∃k u,Inv X a k u K/\W n k u) ?_ J #[Q,H,I,O])];rintro n L ⟨e,w,E,P⟩;erw[wpAny_passesOwn A (cM (G a L e w _ E (j n e w P)) λb M z_=>?_)];obtain⟨x,y,l⟩:=z_;cases b with
 | true=>
  let⟨N,z,l⟩:=l;rw[vd rfl];erw[wpAny_passesOwn A (cM (F a M e x _ y l) λf R m=>?_)];cases f with
  | next=>
   let⟨d,i,o,r⟩:=m;let⟨q,p,t⟩:=z d i r;rwa[q,p,d,i,o,t]
  | cont=>
   let⟨d,i,o,r⟩:=m;let⟨q,p,t⟩:=z d i r;rwa[q,p,d,i,o,t]
  | brk=>rwa[m]
  | ret v=>rwa[m]
 | false=>
  rw[vc vF];rwa[wpAny_execs_nil #[e,x,y,l]]
end
structure It where
 go:Nat->Hp->Prop
 lV:Nat->Hp->V->Hp->Prop
 stop:Nat->Hp->Prop
def fZ(X:Cx)(pins:Ny)(H:Hp)(b:Addr):Prop:=
 H b=none/\b≠X.env.locals/\b∉X.fs/\(b∈X.ex\/X.s₀.heap.objs.size<=b)/\(∀x c,X.env.cells.lookup x⊂c->c≠b)/\∀p∈X.pn++pins,p.1≠b
def Inv.gz{g:St}{H H':Hp}(I:Inv X pins g H s)(a:s⁻¹<=b)(d:H' b=none):fZ X pins H' b:=by
 erw[d,vO (Nat.lt_of_lt_of_le I.lt a),I.Co a,.inr (vW I.sz a),λx c e z=>?_,λp f z=>?_]
 .let⟨v,q⟩:=I.cell x c e;rwa[ud (Nat.lt_of_lt_of_le q.lt (by rw[z];rwa[a])) (Nat.lt_irrefl _)]
 .exact ud (Nat.lt_of_lt_of_le (vI (I.pin p f).1) (by rw[z];rwa[a])) (Nat.lt_irrefl _)
structure Turn(P:Program)(w:World)(K:cG)(tg:Expr)(J:It)(fp:L7)(it:Addr)(tn:Nat->Heap->Prop):Prop where
 mem:it∈fp
 obj:∀i h,tn i h->∀b∈fp,∃o,h.get? b⊂o/\∀v,o.data≠.cell v
 keep:∀i h h',tn i h->(∀b∈fp,∀o,h.get? b⊂o->h'.get? b⊂o)->tn i h'
 item:∀(X:Cx),X.prog=P->X.w=w->X.K=K->X.calm=true->∀(i:Nat) (pins:Ny) (s:Shared) (σ:St) (H:Hp) (E:Nz),Inv X pins σ H s->(∀b∈fp,fZ X pins H b)->tn i s.heap->J.go i H->
  wpAny (model P w) X.A (pyNext (.ref it)) (λr s1=>∃u,r⊂u/\
   wpAny (model P w) X.A (letOwnedTupleGo tg (.ref it) u) (λ_ s2=>∃x H',Inv X pins σ H' s2/\RelV x u/\J.lV i H x H'/\tn (i+1) s2.heap/\∀b∈fp,H' b=none) E s1) E s
 done:∀(X:Cx),X.prog=P->X.w=w->X.K=K->X.calm=true->∀(i:Nat) (pins:Ny) (s:Shared) (σ:St) (H:Hp) (E:Nz),Inv X pins σ H s->(∀b∈fp,fZ X pins H b)->tn i s.heap->J.stop i H->
  wpAny (model P w) X.A (pyNext (.ref it)) (λr s1=>r=none/\Inv X pins σ H s1) E s
 self:∀(A:Around) (i:Nat) (s:Shared) (Q:Nz) (E:Nz),tn i s.heap->Q (.ref it) s->wpAny (model P w) A (pyIter (.ref it)) Q E s
noncomputable abbrev TI:=St->Hp->(It->Hp->Prop)->Prop
def AF(X:Cx)(pins:Ny)(σ:St)(tg:Expr)(R:It->Hp->Prop)(itv:Value)(s2:Shared):Prop:=
 ∃(it:Addr) (fp:L7) (tn:Nat->Heap->Prop) (J:It) (H':Hp),itv = .ref it/\Inv X pins σ H' s2/\Turn X.prog X.w X.K tg J fp it tn/\tn 0 s2.heap/\(∀b∈fp,fZ X pins H' b)/\R J H'
def PI(X:Cx)(tg iter:Expr)(wi:TI):Prop:=
 ∀(pins:Ny) (s:Shared) (σ:St) (H:Hp) (R:It->Hp->Prop),Inv X pins σ H s->wi σ H R->
  wpAny (model X.prog X.w) X.A (eval iter X.env) (λv s1=>wpAny (model X.prog X.w) X.A (pyIter v) (AF X pins σ tg R) X.xe s1) X.xe s
def tX{E:Nz}{Q:Unit->Shared->Prop}(e:s.heap.get? it⊂o)(b:o.cls = .type n)(c:o.data = .fields vs)
    (d:["enumerate","zip","dict_itemiterator","dict_reverseitemiterator","odict_iterator","itertools.zip_longest","itertools.pairwise"].contains n=false) (a:Q () s):wpAny M A (letOwnedTupleGo tg (.ref it) u) Q E s:=by
  unfold letOwnedTupleGo;cases tg<;>first
    | rwa[uf a]
    | (cases u<;>first
        | rwa[uf a]
        | (refine ug (wpAny_load e ?_)
           rw[b,c];show wpAny M A (if(["enumerate","zip","dict_itemiterator","dict_reverseitemiterator","odict_iterator","itertools.zip_longest","itertools.pairwise"].contains n&&vs[0]?==some (rawInt _))=true then _ else _) Q E s;rw[vc (by intro h;rw[d,Bool.false_and]at h;cases h)];rwa[uf a]))
def n6(K:cG)(a:Addr):It:=
 #[λi H=>∃xs x,cm K H a xs/\xs[i]?⊂x,λi H x H'=>H'=H/\∀xs,cm K H a xs->xs[i]?⊂x,λi H=>∃xs,cm K H a xs/\⇑xs<=i]
def og(K:cG)(a:Addr):It:=
 #[λi H=>∃xs x,cL K H a xs/\xs[i]?⊂x,λi H x H'=>H'=H/\∀xs,cL K H a xs->xs[i]?⊂x,λi H=>∃xs,cL K H a xs/\⇑xs<=i]
def nQ(lo:Int)(n:Nat):It:=#[λi q=>i<n,λi H x H'=>H'=H/\x = .int (lo+i),λi q=>n<=i]
def XI{P:Program}{w:World}{K:cG}{tg:Expr}(a it:Addr):Turn P w K tg (n6 K a) [it] it (λi h=>h.IsListIter it a i) where
 mem:=by simp
 obj:=λi h f b j=>by
  have e:b=it:=by simpa using j
  subst e;let⟨o,e,c,d⟩:=f;rwa[o,e,λv z=>by rw[d]at z;cases z]
 keep:=λi h m f k=>f.at λo e=>k it (by simp) o e
 item:=by
  intro X D G C N i g s O H E I n f F;subst D G C;let⟨xs,x,q,J⟩:=F;let⟨L,M,p,W⟩:=I.list q;let⟨u,T,Y⟩:=M.get J;let⟨r,t,S,y,A,B⟩:=n it (by simp);erw[wpAny_pyNext_list_item f p.isList (x:=u) #v[T] λm l Z=>?_]
  have Q:Inv X g O H {s with heap:=m}:=I.turned (t':=s.toks) (λb o j e=>(Z.2 b j).trans e) r t y A B;let⟨o,e,c,d⟩:=id l;rwa[u,rfl,tX (s:={s with heap:=m}) e c d nofun #[x,H,Q,Y,#[rfl,λys U=>by rw[I.fK U q];rwa[J]],l,λb j=>(n b j).1]]
 done:=by
  intro X D G C N i g s O H E I n f F;subst D G C;let⟨xs,q,J⟩:=F;let⟨L,M,p,W⟩:=I.list q;let⟨r,t,S,y,A,B⟩:=n it (by simp);have hl:=⇑M;rwa[wpAny_pyNext_list_end (I.ok.hd N) f p.isList (by simp;lia) λm R=>#[rfl,I.turned (t':=s.toks) (λb o j e=>R b o j e) r t y A B]]
 self:=λ_ _ _ _ _ f h=>wpAny_pyIter_listiter f h
def xv{P:Program}{w:World}{K:cG}{tg:Expr}(a it:Addr):Turn P w K tg (og K a) [it] it (λi h=>h.IsTupleIter it a i) where
 mem:=by simp
 obj:=λi h f b j=>by
  have e:b=it:=by simpa using j
  subst e;let⟨o,e,c,d⟩:=f;rwa[o,e,λv z=>by rw[d]at z;cases z]
 keep:=λi h n f k=>f.at λo e=>k it (by simp) o e
 item:=by
  intro X F J D N i g s O H E I q f G;subst F J D;let⟨xs,x,r,L⟩:=G;let⟨l,M,p,W⟩:=I.tuple r;let⟨u,T,Y⟩:=M.get L;let⟨t,y,S,A,B,C⟩:=q it (by simp);erw[wpAny_pyNext_tuple_item f (show s.heap.IsTuple a l.toArray from p) (x:=u) #v[T] λn m Z=>?_]
  have Q:Inv X g O H {s with heap:=n}:=I.turned (t':=s.toks) (λb o j e=>(Z.2 b j).trans e) t y A B C;let⟨o,e,c,d⟩:=id m;rwa[u,rfl,tX (s:={s with heap:=n}) e c d nofun #[x,H,Q,Y,#[rfl,λys U=>by rw[I.nN U r];rwa[L]],m,λb j=>(q b j).1]]
 done:=by
  intro X F J D N i g s O H E I q f G;subst F J D;let⟨xs,r,L⟩:=G;let⟨l,M,p,W⟩:=I.tuple r;let⟨t,y,S,A,B,C⟩:=q it (by simp);have hl:=⇑M;rwa[wpAny_pyNext_tuple_end (I.ok.hd N) f (show s.heap.IsTuple a l.toArray from p) (by simp;lia) λn R=>#[rfl,I.turned (t':=s.toks) (λb o j e=>R b o j e) t y A B C]]
 self:=λ_ _ _ _ _ f h=>wpAny_pyIter_tupleiter f h
def GH{P:Program}{w:World}{K:cG}{M:Expr}(it:Addr)(lo:Int)(n:Nat):Turn P w K M (nQ lo n) [it] it (λi h=>IsRangeIter h it (lo+(i:Nat)*1) ((n:Int)-(i:Nat)) 1) where
 mem:=by simp
 obj:=λi h c b d=>by
  simp_all
 keep:=λi h g c k=>k it (by simp) _ c
 item:=by
  intro X x A u y i a s C H E I j c z;subst x A u;let⟨l,m,G,p,q,r⟩:=j it (by simp);have W:=Walks.range (prog:=X.prog) (w:=X.w) (I.ok.hd y) it lo 1 n;erw[W.item i s _ _ z c λv g B J f L=>?_]
  let⟨t,rfl⟩:=J;have D:Inv X a C H {s with heap:=g,toks:=B}:=I.turned (λb o d e=>L b o #v[d] e) l m p q r;erw[_,rfl,tX (s:={s with heap:=g,toks:=B}) (n:="range_iterator") f rfl rfl nofun #[.int (lo+i),H,D,#[t,?_],#[rfl,rfl],f,λb d=>(j b d).1]];rw[Int.mul_one]
 done:=by
  intro X x A u y i a s C H E I j c z;subst x A u;let⟨l,m,G,p,q,r⟩:=j it (by simp);rwa[wpAny_pyNext_range_end (I.ok.hd y) c (by have:n<=i:=z;lia) λg F=>#[rfl,I.turned (t':=s.toks) (λb o d e=>F b o d e) l m p q r]]
 self:=λZ Z Z Z Z c h=>wpAny_pyIter_rangeiter c h
section
variable{X:Cx}{tg:Expr}
def rg(K:cG)(tl:TE):TI:=λσ H R=>tl σ H λx H1=>∃a,x = .ref a/\(∃xs,cm K H1 a xs)/\R (n6 K a) H1
def tR(K:cG)(tl:TE):TI:=λσ H R=>tl σ H λx H1=>∃a,x = .ref a/\(∃xs,cL K H1 a xs)/\R (og K a) H1
def j4{l:Expr}{g:TE}(k:PE X l g):PI X tg l (rg X.K g):=by
 intro c s u H R I h;erw[cM (k c s u H _ I h) λv f z_=>?_];obtain⟨x,i,d,t,r⟩:=z_
 let⟨a,e,⟨z,m⟩,q⟩:=r;subst e;cases t;let⟨n,y,p,w⟩:=d.list m;erw[wpAny_pyIter_list p.isList ?_];erw[f⁻¹,[f⁻¹],_,_,i,rfl,d.kept (t':=f.toks) λb o e=>vJ _ e,XI a _,#[_,Heap.get?_push_size _ rfl,rfl,rfl],λb j=>?_,q];have e:b=f⁻¹:=by simpa using j
 subst e;rwa[d.gz (vb _) (d.cK.fresh (vb _))]
def we{l:Expr}{i:TE}(m:PE X l i):PI X tg l (tR X.K i):=by
 intro c s u H R I h;erw[cM (m c s u H _ I h) λv d z_=>?_];obtain⟨x,j,f,t,r⟩:=z_
 let⟨a,e,⟨z,n⟩,q⟩:=r;subst e;cases t;let⟨g,y,p,w⟩:=f.tuple n;erw[wpAny_pyIter_tuple (show d.heap.IsTuple a g.toArray from p) ?_];erw[d⁻¹,[d⁻¹],_,_,j,rfl,f.kept (t':=d.toks) λb o e=>vJ _ e,xv a _,#[_,Heap.get?_push_size _ rfl,rfl,rfl],λb k=>?_,q];have e:b=d⁻¹:=by simpa using k
 subst e;rwa[f.gz (vb _) (f.cK.fresh (vb _))]
def Dd{a:Ny}{f:St}{H:Hp}{s:Shared}{R:It->Hp->Prop}{E:Nz}{lo hi:Int}{t u v:Tok}{d:Nat}(I:Inv X a f H s)(i : -(2^62)<=lo)(j:lo<2^62)(k : -(2^62)<=hi)(l:hi<2^62)
  (q:R (nQ lo (hi-lo).toNat) H):wpAny (model X.prog X.w) X.A (pyIter (.ref s⁻¹)) (AF X a f tg R) E {s with heap:=s.heap.push {cls:=.type "range",data:=.fields [.int lo t,.int hi u,.int 1 v].toArray},toks:=d}:=by
 erw[wpAny_pyIter_range (IsRange.new ..) (small_one i j k l) ?_];have c:Inv X a f H {s with heap:=s.heap.push {cls:=.type "range",data:=.fields [.int lo t,.int hi u,.int 1 v].toArray},toks:=d}:=I.kept λb o e=>vJ _ e
 refine#[(s.heap.push {cls:=.type "range",data:=.fields [.int lo t,.int hi u,.int 1 v].toArray}).objs.size,[(s.heap.push {cls:=.type "range",data:=.fields [.int lo t,.int hi u,.int 1 v].toArray}).objs.size],_,_,H,rfl,
  c.kept (t':=d) λb o e=>vJ _ e,GH _ lo (hi-lo).toNat,?_,λb m=>?_,q]
 .have g:lo+((0:Nat):Int)*1=lo:=by simp
  have h:(((hi-lo).toNat:Nat):Int)-((0:Nat):Int)=Builtin.Range.rangeSize lo hi 1:=by rw[rangeSize_one];split<;>lia
  show IsRangeIter _ _ (lo+((0:Nat):Int)*1) ((((hi-lo).toNat:Nat):Int)-((0:Nat):Int)) 1;rw[g,h];rwa[Heap.get?_push_size _ rfl]
 .have e:b=(s.heap.push {cls:=.type "range",data:=.fields [.int lo t,.int hi u,.int 1 v].toArray}).objs.size:=by simpa using m
  subst e;rwa[c.gz (vb _) (c.cK.fresh (vb _))]
def rh(ta:TA):TI:=λσ H R=>ta σ H λvs H1=>∃j:Int,vs=[.int j]/\-(2^62)<=j/\j<2^62/\R (nQ 0 j.toNat) H1
def ri(ta:TA):TI:=λσ H R=>ta σ H λvs H1=>∃i j:Int,vs=[.int i,.int j]/\(-(2^62)<=i/\i<2^62/\-(2^62)<=j/\j<2^62)/\R (nQ i (j-i).toNat) H1
def qj{a:Expr}{f:TA}{p c:Pos}(k:Gl X "range")(l:X.mg "range"= none)(i:PA X [a] f)(m:starEach [a] X.env=[(false,eval a X.env)]:=by rfl):PI X tg (.Call (.Name "range" p) [a] [] c) (rh f):=by
 intro b s u H R I h;erw[Call_ (Zs I k l boot_range (PyProof.Rows.callWith_type1 (cM (i c b s u H _ I h) λx w z_=>?_) m rfl))];obtain⟨y,v,g,o,d⟩:=z_;let⟨j,e,d,n,q⟩:=d;subst e;cases o with
 | cons r rr=>
  cases rr;let⟨t,rfl⟩:=r;rwa[call_range_1 (Dd g ⋯ ⋯ d n #v[q])]
def HU{a b:Expr}{k:TA}{p f:Pos}(n:Gl X "range")(o:X.mg "range"= none)(m:PA X [a,b] k)(u:starEach [a,b] X.env=[(false,eval a X.env),(false,eval b X.env)]:=by rfl)(c:starEach [b] X.env=[(false,eval b X.env)]:=by rfl) :
  PI X tg (.Call (.Name "range" p) [a,b] [] f) (ri k):=by
 intro d s z H R I h;erw[Call_ (Zs I n o boot_range (PyProof.Rows.callWith_type1 (cM (m f d s z H _ I h) λD B ⟨E,A,l,y,g⟩=>?_) (by rw[u,c]) (by rw[c];rfl)))];let⟨i,j,e,⟨g,v,w,x⟩,q⟩:=g;subst e;cases y with
 | cons r rr=>
  cases rr with
  | cons r' rr=>
   cases rr;let⟨t,rfl⟩:=r;let⟨C,rfl⟩:=r';rwa[call_range_2 (Dd l g v w x q)]
def uQ(wi:TI)(g:TG)(tb:TS):TS:=λD σ H=>wi σ H λJ H1=>∃W:Nat->Nat->St->Hp->Prop,(∃m,W 0 m σ H1)/\∀i m σ H,W i m σ H->
 (J.stop i H/\D.nx σ H)\/(J.go i H/\∃N:St->Hp->Prop,(∀S' H',N S' H'->∃m',m'<m/\W (i+1) m' S' H')/\∀x H',J.lV i H x H'->g x σ H' λσ2 H2=>tb {D with nx:=N,ct:=N,bk:=D.nx} σ2 H2)
noncomputable def iJ(fp:L7)(h:Heap):Ny:=fp.filterMap λb=>(h.get? b).map λo=>(b,o)
def yI(a:b∈fp)(e:h.get? b⊂o):(b,o)∈iJ fp h:=mem_filterMap.mpr #[b,a,by rw[e];rfl]
def HQ(d:p∈iJ fp h):p.1∈fp/\h.get? p.1⊂p.2:=by
 let⟨b,c,e⟩:=mem_filterMap.mp d;cases q:h.get? b with
 | none=>rw[q]at e;cases e
 | some o=>
  rw[q]at e;have a:(b,o)=p:=vL e;subst a;rwa[c,q]
def Inv.pinned{f:St}{H:Hp}(I:Inv X pins f H s)(j:∀b∈fp,fZ X pins H b)(k:∀b∈fp,∃o,s.heap.get? b⊂o/\∀v,o.data≠.cell v):Inv X (pins++iJ fp s.heap) f H s:=
 I.pins_of λp l=>(vh.mp l).elim (λz=>I.pin p (mem_append_right _ z)) λz=>by
  let⟨c,e⟩:=HQ z;let⟨g,h,i,q⟩:=j p.1 c;let⟨o,a,d⟩:=k p.1 c;rw[e]at a;cases a;rwa[e,g,h,i,d]
def Inv.iZ{a:St}{H:Hp}(I:Inv X (pins++pl) a H s):Inv X pins a H s:=I.pins_of λp b=>I.pin p (mem_append_right _ (mem_append_left _ b))
def j9{q:Expr}{A:List Stmt}{wi:TI}{g:TG}{tb:TS}{Y:Pos}(G:PassesOwn (model X.prog X.w) X.A X.env X.xe)(hc:X.calm=true)(hi:PI X tg q wi)(hg:PG X tg g)(p:lM X A tb)
  (hs:∀x,foldedSetIterable q X.env x=pure x:=by intro _;rfl):PS X (.For tg q A [] Y) (uQ wi g tb):=by
 intro a s σ H D I h;erw[wpAny_For (cM (hi a s σ H _ I h) λv s1 h1=>cM h1 λa2 s2 h2=>?_) hs];let⟨it,E,tn,J,H2,e,I2,T,a0,f2,W,⟨m0,w0⟩,P⟩:=h2;subst e;have t:∀{z:Hp},(∀b∈E,z b=none)->∀b∈E,fZ X a z b:=λhn b p=>#[hn b p,(f2 b p).2]
 erw[codeAny_forLoop_any (λn s'=>∃i w z,Inv X a w z s'/\tn i s'.heap/\(∀b∈E,z b=none)/\W i n w z) ?_ m0 #[0,σ,H2,I2,a0,λb p=>(f2 b p).1,w0]];rintro n s3 ⟨i,y,Q,I3,L,F,w3⟩;rcases P i n y Q w3 with⟨O,qn⟩ | ⟨go,N,hN,M⟩
 .refine wpAny_passesOwn G (cM (T.done X rfl rfl rfl hc i a s3 y Q X.xe I3 (t F) L O) λr s4 ⟨U,I4⟩=>?_);subst U;rwa[wpAny_execs_nil #[y,Q,I4,qn]]
 .refine wpAny_passesOwn G (cM (T.item X rfl rfl rfl hc i a s3 y Q X.xe I3 (t F) L go) λr s4 ⟨u,U,h4⟩=>?_);subst U;erw[wpAny_passesOwn G (cM h4 λ_ s5 z_=>?_)];obtain⟨x,H5,I5,r5,y5,C,S⟩:=z_;have R:=I5.pinned (t S) (T.obj _ _ C);erw[wpAny_passesOwn G (cM (hg _ s5 y H5 x u _ R r5 (M x H5 y5)) λ_ s6 z_=>?_)];obtain⟨a1,H6,I6,q6⟩:=z_;erw[wpAny_passesOwn G (cM (p _ s6 a1 H6 _ I6 q6) λf Z B=>?_)];have l:∀{c:St} {j:Hp},Inv X (a++iJ E s5.heap) c j Z->N c j->∃m,m<n/\∃i w z,Inv X a w z Z/\tn i Z.heap/\(∀b∈E,z b=none)/\W i m w z:=λ{c j} k K=>by
   let⟨m',hm,w7⟩:=hN c j K;erw[m',hm,i+1,c,j,k.iZ,T.keep _ _ _ C λb p o e=>(k.pin (b,o) (mem_append_right _ (mem_append_right _ (yI p e)))).1,λb p=>?_,w7];let⟨o,e,d⟩:=T.obj _ _ C b p;rwa[(k.pin (b,o) (mem_append_right _ (mem_append_right _ (yI p e)))).2.1]
  cases f with
  | next=>let⟨c,j,k,K⟩:=B;rwa[l k K]
  | cont=>let⟨c,j,k,K⟩:=B;rwa[l k K]
  | brk=>let⟨c,j,k,B⟩:=B;rwa[c,j,k.iZ,B]
  | ret v=>let⟨x7,c,j,k,r7,B⟩:=B;rwa[x7,c,j,k.iZ,r7,B]
end
def JH{K:cG}{a:Addr}{xs:N4}{g:TG}{j:TS}{D:Ends}{b:St}{H:Hp}(c:Nat->St->Hp->Prop)(k:c 0 b H)(o:∀i b H,i<=⇑xs->c i b H->cm K H a xs)
  (r:∀i x b H,xs[i]?⊂x->c i b H->g x b H λd H2=>j {D with nx:=c (i+1),ct:=c (i+1),bk:=D.nx} d H2) (l:∀b H,c ⇑xs b H->D.nx b H) :
  ∃W:Nat->Nat->St->Hp->Prop,(∃m,W 0 m b H)/\∀i m b H,W i m b H->
   ((n6 K a).stop i H/\D.nx b H)\/((n6 K a).go i H/\∃N:St->Hp->Prop,(∀S' H',N S' H'->∃h,h<m/\W (i+1) h S' H')/\∀x H',(n6 K a).lV i H x H'->g x b H' λd H2=>j {D with nx:=N,ct:=N,bk:=D.nx} d H2):=by
 erw[λi m b H=>m=⇑xs-i/\i<=⇑xs/\c i b H,#[⇑xs,by simp,va _,k],?_];rintro i m b H ⟨rfl,n,p⟩;have q:=o i b H n p;by_cases f:i<⇑xs
 .refine .inr #[#[xs,xs[i],q,by simp[f]],c (i+1),λS' H' s=>#[⇑xs-(i+1),⋯,rfl,f,s],λx H' y=>?_];let⟨e,y⟩:=y;subst e;rwa[r i x b _ (y xs q) p]
 .have e:i=⇑xs:=⋯
  subst e;rwa[.inl #[#[xs,q,vb _],l b H p]]
def Ea{K:cG}{a:Addr}{xs:N4}{g:TG}{j:TS}{D:Ends}{b:St}{H:Hp}(c:Nat->St->Hp->Prop)(k:c 0 b H)(o:∀i b H,i<=⇑xs->c i b H->cL K H a xs)
  (r:∀i x b H,xs[i]?⊂x->c i b H->g x b H λd H2=>j {D with nx:=c (i+1),ct:=c (i+1),bk:=D.nx} d H2) (l:∀b H,c ⇑xs b H->D.nx b H) :
  ∃W:Nat->Nat->St->Hp->Prop,(∃m,W 0 m b H)/\∀i m b H,W i m b H->
   ((og K a).stop i H/\D.nx b H)\/((og K a).go i H/\∃N:St->Hp->Prop,(∀S' H',N S' H'->∃h,h<m/\W (i+1) h S' H')/\∀x H',(og K a).lV i H x H'->g x b H' λd H2=>j {D with nx:=N,ct:=N,bk:=D.nx} d H2):=by
 erw[λi m b H=>m=⇑xs-i/\i<=⇑xs/\c i b H,#[⇑xs,by simp,va _,k],?_];rintro i m b H ⟨rfl,n,p⟩;have q:=o i b H n p;by_cases f:i<⇑xs
 .refine .inr #[#[xs,xs[i],q,by simp[f]],c (i+1),λS' H' s=>#[⇑xs-(i+1),⋯,rfl,f,s],λx H' y=>?_];let⟨e,y⟩:=y;subst e;rwa[r i x b _ (y xs q) p]
 .have e:i=⇑xs:=⋯
  subst e;rwa[.inl #[#[xs,q,vb _],l b H p]]
def Qp{lo:Int}{n:Nat}{g:TG}{h:TS}{D:Ends}{a:St}{H:Hp}(b:Nat->St->Hp->Prop)(j:b 0 a H)
  (l:∀i a H,i<n->b i a H->g (.int (lo+i)) a H λd H2=>h {D with nx:=b (i+1),ct:=b (i+1),bk:=D.nx} d H2) (k:∀a H,b n a H->D.nx a H) :
  ∃W:Nat->Nat->St->Hp->Prop,(∃m,W 0 m a H)/\∀i m a H,W i m a H->
   ((nQ lo n).stop i H/\D.nx a H)\/((nQ lo n).go i H/\∃N:St->Hp->Prop,(∀S' H',N S' H'->∃f,f<m/\W (i+1) f S' H')/\∀x H',(nQ lo n).lV i H x H'->g x a H' λd H2=>h {D with nx:=N,ct:=N,bk:=D.nx} d H2):=by
 erw[λi m a H=>m=n-i/\i<=n/\b i a H,#[n,by simp,va _,j],?_];rintro i m a H ⟨rfl,q,p⟩;by_cases c:i<n
 .refine .inr #[c,b (i+1),λS' H' o=>#[n-(i+1),⋯,rfl,c,o],λx H' y=>?_];let⟨e,y⟩:=y;subst e y;rwa[l i a _ c p]
 .have e:i=n:=⋯
  subst e;rwa[.inl #[vb _,k a H p]]
noncomputable abbrev R2:=V->V->Hp->VK->Prop
def gr(X:Cx)(f:Value->Value->Sem Value)(r:R2):Prop:=
 ∀(pins:Ny) (s:Shared) (σ:St) (H:Hp) (x y:V) (v u:Value) (Q:VK),Inv X pins σ H s->RelV x v->RelV y u->r x y H Q->
  wpAny (model X.prog X.w) X.A (f v u) (EP X pins σ Q) X.xe s
def AH(X:Cx)(f:Value->Sem Value)(r:V->Hp->VK->Prop):Prop:=
 ∀(pins:Ny) (s:Shared) (σ:St) (H:Hp) (x:V) (v:Value) (Q:VK),Inv X pins σ H s->RelV x v->r x H Q->
  wpAny (model X.prog X.w) X.A (f v) (EP X pins σ Q) X.xe s
def dE(X:Cx)(f:Value)(r:N4->Hp->VK->Prop):Prop:=
 ∀(pins:Ny) (s:Shared) (σ:St) (H:Hp) (xs:N4) (us:L9) (Q:VK),Inv X pins σ H s->Vals xs us->r xs H Q->
  wpAny (model X.prog X.w) X.A (call f us) (EP X pins σ Q) X.xe s
def AG(X:Cx)(r:V->Hp->(Bool->Hp->Prop)->Prop):Prop:=
 ∀(pins:Ny) (s:Shared) (σ:St) (H:Hp) (x:V) (v:Value) (Q:Bool->Hp->Prop),Inv X pins σ H s->RelV x v->r x H Q->
  wpAny (model X.prog X.w) X.A (truthy v) (TP X pins σ Q) X.xe s
def uU(r:R2)(ta tb:TE):TE:=λσ H Q=>ta σ H λx H1=>tb σ H1 λy H2=>r x y H2 Q
def FF(r:V->Hp->VK->Prop)(ta:TE):TE:=λσ H Q=>ta σ H λx H1=>r x H1 Q
def rI(C:Int->Int->Prop)(g:Int->Int->V):R2:=λx y H Q=>∃i j,x = .int i/\y = .int j/\C i j/\Q (g i j) H
def pL(g:Int->Int->V):R2:=λx y H Q=>∃i j,x = .int i/\y = .int j/\Q (g i j) H
noncomputable def rU(g:Int->V):V->Hp->VK->Prop:=λx H Q=>∃i,x = .int i/\Q (g i) H
section
variable{X:Cx}{a b c:Expr}{ta tb tc:TE}{pos:Pos}
def rZ(k:PE X a ta)(l:PE X b tb){c:St}{H:Hp}{R:V->V->Hp->Prop}(I:Inv X pins c H s)
  (h:ta c H λx H1=>tb c H1 λy H2=>R x y H2) {Q:Nz} {f:Value->Value->Sem Value}
  (m:∀v u g x y H2,Inv X pins c H2 g->RelV x v->RelV y u->R x y H2->wpAny (model X.prog X.w) X.A (f v u) Q X.xe g) :
  wpAny (model X.prog X.w) X.A (eval a X.env) (λv d=>wpAny (model X.prog X.w) X.A (eval b X.env) (λu e=>wpAny (model X.prog X.w) X.A (f v u) Q X.xe e) X.xe d) X.xe s:=by
 erw[cM (k pins s c H _ I h) λv r z_=>?_];obtain⟨x,H1,i,p,n⟩:=z_
 erw[cM (l pins r c H1 _ i n) λu g z_=>?_];obtain⟨y,H2,j,q,o⟩:=z_
 rwa[m v u g x y H2 j p q o]
def ju(i:gr X (binaryOp op) r)(f:PE X a ta)(g:PE X b tb):PE X (.BinOp a op b pos) (uU r ta tb):=by
 intro c s m H Q I h;rwa[wpAny_BinOp (rZ f g I h λv u l x y d e j k q=>i c l m d x y v u Q e j k q)]
def zH{r:V->Hp->VK->Prop}(g:AH X (unaryOp op) r)(f:PE X a ta):PE X (.UnaryOp op a pos) (FF r ta):=by
 intro b s c H Q I h;erw[UnaryOp_ (cM (f b s c H _ I h) λv k z_=>?_)];let⟨x,d,e,j,i⟩:=z_;rwa[g b k c d x v Q e j i]
def Aw{f:Value->Value->Sem Value}{C:Int->Int->Prop}{g:Int->Int->Int}
  (a:∀(i j:Int) (t u:Tok) (s:Shared) (Q:Nz) (E:Nz),C i j->Q (.int (g i j) s.toks) {s with toks:=s.toks+1}->wpAny (model X.prog X.w) X.A (f (.int i t) (.int j u)) Q E s) :
  gr X f (rI C λi j=>.int (g i j)):=by
 intro b s l H x y v u Q I d e h;let⟨i,j,rfl,rfl,c,q⟩:=h;let⟨t,rfl⟩:=d;let⟨k,rfl⟩:=e;rwa[a i j t k s _ _ c #[.int (g i j),H,I.tok _,#[_,rfl],q]]
def uB{f:Value->Value->Sem Value}{g:Int->Int->Int}
  (a:∀(i j:Int) (t u:Tok) (s:Shared) (Q:Nz) (E:Nz),Q (.int (g i j) s.toks) {s with toks:=s.toks+1}->wpAny (model X.prog X.w) X.A (f (.int i t) (.int j u)) Q E s) :
  gr X f (pL λi j=>.int (g i j)):=by
 intro b s k H x y v u Q I c d h;let⟨i,j,rfl,rfl,q⟩:=h;let⟨t,rfl⟩:=c;let⟨e,rfl⟩:=d;rwa[a i j t e s _ _ #[.int (g i j),H,I.tok _,#[_,rfl],q]]
def pH{f:Value->Value->Sem Value}{g:Int->Int->Bool}
  (a:∀(i j:Int) (t u:Tok) (s:Shared) (Q:Nz) (E:Nz),Q (.bool (g i j)) s->wpAny (model X.prog X.w) X.A (f (.int i t) (.int j u)) Q E s) :
  gr X f (pL λi j=>.bl (g i j)):=by
 intro b s k H x y v u Q I c d h;let⟨i,j,rfl,rfl,q⟩:=h;let⟨t,rfl⟩:=c;let⟨e,rfl⟩:=d;rwa[a i j t e s _ _ #[.bl (g i j),H,I,rfl,q]]
def nY(i j:Int):Prop:=0<=j/\j<=1000000/\i.natAbs<2^64
def jP:gr X (binaryOp .Add) (pL λi j=>.int (i+j)):=uB λZ Z Z Z Z Z Z q=>add_int q
def Qu:gr X (binaryOp .Sub) (pL λi j=>.int (i-j)):=uB λZ Z Z Z Z Z Z q=>sub_int q
def j7:gr X (binaryOp .Mod) (rI (λZ j=>0<j) λi j=>.int (i%j)):=Aw λi j Z Z Z Z Z a q=>by
 have b:(0:Int)<j:=a;rwa[mod_int' ⋯ (by rw[Int.fmod_eq_emod_of_nonneg i ⋯];rwa[q])]
def Yy:gr X (binaryOp .Pow) (rI nY λi j=>.int (i^j.toNat)):=Aw λZ Z Z Z Z Z Z a q=>pow_int_small a.1 a.2.1 a.2.2 q
def O2{f:Value->Sem Value}{g:Int->Int}
  (a:∀(i:Int) (t:Tok) (s:Shared) (Q:Nz) (E:Nz),Q (.int (g i) s.toks) {s with toks:=s.toks+1}->wpAny (model X.prog X.w) X.A (f (.int i t)) Q E s) :
  AH X f (rU λi=>.int (g i)):=by
 intro b s d H x v Q I c h;let⟨i,rfl,q⟩:=h;let⟨t,rfl⟩:=c;rwa[a i t s _ _ #[.int (g i),H,I.tok _,#[_,rfl],q]]
def Qd:AH X (unaryOp .USub) (rU λi=>.int (-i)):=O2 λj j j j j q=>neg_int q
end
noncomputable def uI:V->V->Bool
 | .dj,.dj=>true | .dj,.int _=>true | .int _,.dj=>true | .dj,.bl _=>true | .bl _,.dj=>true | .dj,.str _=>true | .str _,.dj=>true
 | .int _,.int _=>true | .bl _,.bl _=>true | .str _,.str _=>true | .me _,.me _=>true
 | .int _,.str _=>true | .str _,.int _=>true | .bl _,.str _=>true | .str _,.bl _=>true
 | _,_=>false
def Cs:R2:=λx y H Q=>uI x y=true/\Q (.bl (decide (x=y))) H
def Fy:R2:=λx y H Q=>uI x y=true/\Q (.bl (!decide (x=y))) H
def DR:decide (V.int i=V.int j)=(i==j):=by
 rw[Bool.eq_iff_iff];simp
def ED:decide (V.bl i=V.bl j)=(i==j):=by
 rw[Bool.eq_iff_iff];simp
def DS:decide (V.str i=V.str j)=(i==j):=by
 rw[Bool.eq_iff_iff];simp
def DQ:decide (V.me i=V.me j)=(i.toList==j.toList):=by
 rw[Bool.eq_iff_iff];cases i;cases j;simp
section
variable{X:Cx}{a b c:Expr}{ta tb tc:TE}{pos:Pos}
def Jf{a:St}{H:Hp}(I:Inv X pins a H s)(q:Q (.bl k) H)(e:k=k'):EP X pins a Q (.bool k') s:=by
 subst e;rwa[.bl k,H,I,rfl,q]
def j5:gr X (compareOp .Eq) Cs:=by
 intro e s f H x y v u Q I d a h;let⟨c,q⟩:=h;cases x with
 | dj=>
  cases d;cases y with
  | dj=>cases a;rwa[PySem.EqNone.eq_none_none (Jf I q (by simp))]
  | bl j=>cases a;rwa[PySem.EqNone.eq_none_bool (Jf I q (by simp))]
  | int j=>let⟨b,rfl⟩:=a;rwa[PySem.EqNone.eq_none_int (Jf I q (by simp))]
  | str j=>let⟨b,rfl⟩:=a;rwa[PySem.EqNone.eq_none_str (Jf I q (by simp))]
  | _=>rwa[ud (show false=true from c) vF]
 | bl i=>
  cases d;cases y with
  | dj=>cases a;rwa[PySem.EqNone.eq_bool_none (Jf I q (by simp))]
  | bl j=>cases a;rwa[eq_bool (Jf I q ED)]
  | str j=>let⟨b,rfl⟩:=a;rwa[PySem.EqMixed.eq_bool_str (Jf I q (by simp))]
  | _=>rwa[ud (show false=true from c) vF]
 | int i=>
  let⟨t,rfl⟩:=d;cases y with
  | dj=>cases a;rwa[PySem.EqNone.eq_int_none (Jf I q (by simp))]
  | int j=>let⟨b,rfl⟩:=a;rwa[eq_int (Jf I q DR)]
  | str j=>let⟨b,rfl⟩:=a;rwa[PySem.EqMixed.eq_int_str (Jf I q (by simp))]
  | _=>rwa[ud (show false=true from c) vF]
 | str i=>
  let⟨t,rfl⟩:=d;cases y with
  | dj=>cases a;rwa[PySem.EqNone.eq_str_none (Jf I q (by simp))]
  | bl j=>cases a;rwa[PySem.EqMixed.eq_str_bool (Jf I q (by simp))]
  | int j=>let⟨b,rfl⟩:=a;rwa[PySem.EqMixed.eq_str_int (Jf I q (by simp))]
  | str j=>let⟨b,rfl⟩:=a;rwa[eq_str (Jf I q DS)]
  | _=>rwa[ud (show false=true from c) vF]
 | me i=>
  let⟨t,rfl⟩:=d;cases y with
  | me j=>let⟨b,rfl⟩:=a;rwa[PySem.W.eq_bytes (Jf I q DQ)]
  | _=>rwa[ud (show false=true from c) vF]
 | _=>cases y<;>rwa[ud (show false=true from c) vF]
def Oz:gr X (compareOp .NotEq) Fy:=by
 intro e s f H x y v u Q I d a h;let⟨c,q⟩:=h;cases x with
 | dj=>
  cases d;cases y with
  | dj=>cases a;rwa[PySem.EqNone.ne_none_none (Jf I q (by simp))]
  | bl j=>cases a;rwa[PySem.EqNone.ne_none_bool (Jf I q (by simp))]
  | int j=>let⟨b,rfl⟩:=a;rwa[PySem.EqNone.ne_none_int (Jf I q (by simp))]
  | str j=>let⟨b,rfl⟩:=a;rwa[PySem.EqNone.ne_none_str (Jf I q (by simp))]
  | _=>rwa[ud (show false=true from c) vF]
 | bl i=>
  cases d;cases y with
  | dj=>cases a;rwa[PySem.EqNone.ne_bool_none (Jf I q (by simp))]
  | bl j=>cases a;rwa[ne_bool (Jf I q (congrArg not ED))]
  | str j=>let⟨b,rfl⟩:=a;rwa[PySem.EqMixed.ne_bool_str (Jf I q (by simp))]
  | _=>rwa[ud (show false=true from c) vF]
 | int i=>
  let⟨t,rfl⟩:=d;cases y with
  | dj=>cases a;rwa[PySem.EqNone.ne_int_none (Jf I q (by simp))]
  | int j=>let⟨b,rfl⟩:=a;rwa[ne_int (Jf I q (congrArg not DR))]
  | str j=>let⟨b,rfl⟩:=a;rwa[PySem.EqMixed.ne_int_str (Jf I q (by simp))]
  | _=>rwa[ud (show false=true from c) vF]
 | str i=>
  let⟨t,rfl⟩:=d;cases y with
  | dj=>cases a;rwa[PySem.EqNone.ne_str_none (Jf I q (by simp))]
  | bl j=>cases a;rwa[PySem.EqMixed.ne_str_bool (Jf I q (by simp))]
  | int j=>let⟨b,rfl⟩:=a;rwa[PySem.EqMixed.ne_str_int (Jf I q (by simp))]
  | str j=>let⟨b,rfl⟩:=a;rwa[ne_str (Jf I q (congrArg not DS))]
  | _=>rwa[ud (show false=true from c) vF]
 | me i=>
  let⟨t,rfl⟩:=d;cases y with
  | me j=>let⟨b,rfl⟩:=a;rwa[PySem.W.ne_bytes (Jf I q (congrArg not DQ))]
  | _=>rwa[ud (show false=true from c) vF]
 | _=>cases y<;>rwa[ud (show false=true from c) vF]
def y6:gr X (compareOp .Lt) (pL λi j=>.bl (decide (i<j))):=pH λZ Z Z Z Z Z Z q=>lt_int q
def wK:gr X (compareOp .LtE) (pL λi j=>.bl (decide (i<=j))):=pH λZ Z Z Z Z Z Z q=>le_int q
def Y7:gr X (compareOp .Gt) (pL λi j=>.bl (decide (j<i))):=pH λZ Z Z Z Z Z Z q=>gt_int q
def Fq:gr X (compareOp .GtE) (pL λi j=>.bl (decide (j<=i))):=pH λZ Z Z Z Z Z Z q=>ge_int q
def MQ:gr X (compareOp .IsNot) (λx y H Q=>y = .dj/\Q (.bl (!decide (x = .dj))) H):=by
 intro a s d H x y v u Q I b c h;let⟨rfl,q⟩:=h;cases c;erw[isnot_none_gen (Jf I q ?_)];cases x<;>first
  | (cases b;rfl)
  | (let⟨t,rfl⟩:=b;rfl)
def ck(b:Expr)(h:op≠.In:=by decide)(d:op≠.NotIn:=by decide):behindInMarks op b=false:=by
 have a:(op==CmpOp.In)=false:=⋯
 have c:(op==CmpOp.NotIn)=false:=⋯
 cases b<;>simp[behindInMarks,a,c]
def Eu(j:gr X (compareOp op) r)(f:PE X a ta)(g:PE X b tb)(i:behindInMarks op b=false):PE X (.Compare a [op] [b] pos) (uU r ta tb):=by
 intro c s n H Q I h;rwa[wpAny_Compare1 (rZ f g I h λv u m x y d e k l q=>j c m n d x y v u Q e k l q) i]
def oV(t:TE):TT:=λσ H Q=>t σ H λx H'=>∃k,x = .bl k/\Q k H'
def jt(t:gr X (compareOp op) r)(o:PE X a ta)(p:PE X b tb)(q:behindInMarks op b=false):PT X (.Compare a [op] [b] pos) (oV (uU r ta tb)):=by
 intro d s f H Q I h;refine wpAny_isTrue_Compare1 (cM (o d s f H _ I h) λv F ⟨x,g,l,C,w⟩=>cM (p d F f g _ l w) λu G ⟨y,i,m,D,A⟩=>
  cM (t d G f i x y v u _ m C D A) λc J ⟨z,j,n,E,k,e,B⟩=>?_) q
 subst e;cases E;rwa[wpAny_truthy_bool #[j,n,B]]
def oP(r r':R2)(ta tb tc:TE):TE:=λσ H Q=>ta σ H λx H1=>tb σ H1 λy H2=>r x y H2 λz H3=>∃k,z = .bl k/\
 (if k=true then tc σ H3 λw' H4=>r' y w' H4 Q else Q (.bl false) H3)
def W9(L:gr X (compareOp op) r)(i:gr X (compareOp op') r')(F:PE X a ta)(G:PE X b tb)(J:PE X c tc)
  (K:lastMarks [op,op'] [b,c]=false:=by with_unfolding_all rfl):PT X (.Compare a [op,op'] [b,c] pos) (oV (oP r r' ta tb tc)):=by
 intro f s g H Q I h;refine isTrue_chain (cM (F f s g H _ I h) λv Y ⟨x,o,w,S,N⟩=>test_link (cM (G f Y g o _ w N) λu Z ⟨y,p,A,n,O⟩=>
  cM (L f Z g p x y v u _ A S n O) λd s3 ⟨z,j,l,T,k,e,m⟩=>?_)) K
 subst e;cases T;erw[wpAny_truthy_bool ?_];cases k with
 | false=>
  let⟨k',D,M⟩:=m;cases D;rwa[ite_ff #[j,l,M]]
 | true=>
  erw[ite_tt (test_last (cM (J f s3 g j _ l m) λw' s4 z_=>?_))];let⟨z',q,B,U,P⟩:=z_;erw[cM (i f s4 g q y z' u w' _ B n U P) λd' s5 z_=>?_];obtain⟨z2,t,C,W,k2,E,R⟩:=z_;subst E;cases W;rwa[wpAny_truthy_bool #[t,C,R]]
def pq(K:cG)(x:V)(H:Hp)(k:Bool):Prop:=
 match x with
 | .dj=>k=false
 | .bl b=>k=b
 | .int i=>k=(i != 0)
 | .str y=>⇑y<=sizeLine/\k=((⇑y:Int) != 0)
 | .me y=>y.size<=sizeLine/\k=((y.size:Int) != 0)
 | .ref p=>(∃xs,cm K H p xs/\k = !xs.isEmpty)\/(∃xs,cL K H p xs/\k = !xs.isEmpty)\/∃kvs,H p⊂.dK kvs/\k = !kvs.isEmpty
 | _=>False
def GL{κ:Type}{kvs:List (κ×V)}{vs:List (κ×Value)}(r:KV kvs vs):(!vs.isEmpty) = !kvs.isEmpty:=by
 cases r<;>rfl
def WV{xs:N4}{a:L9}(r:Vals xs a):(!a.toArray.isEmpty) = !xs.isEmpty:=by
 cases r<;>simp
def g7:(sizeLine:Nat)<2^63:=by rw[sizeLine_eq];decide
def NM:AG X (λx H Q=>∃k,pq X.K x H k/\Q k H):=by
 intro w s D H x v Q I g h;let⟨k,e,q⟩:=h;have B:=g7;have C:sizeLine=16777216:=sizeLine_eq;cases x with
 | dj=>
  cases g;have a:k=false:=e;subst a;rwa[truthy_none #[H,I,q]]
 | bl b=>
  cases g;have a:k=b:=e;subst a;rwa[wpAny_truthy_bool #[H,I,q]]
 | int i=>
  let⟨t,rfl⟩:=g;have a:k=(i != 0):=e;subst a;rwa[PySem.P.truthy_int #[H,I,q]]
 | str y=>
  let⟨t,rfl⟩:=g;obtain⟨A,a⟩:⇑y<=sizeLine/\k=((⇑y:Int) != 0):=e;subst a;rwa[PySem.P.truthy_str ⋯ #[H,I.tok _,q]]
 | me y=>
  let⟨t,rfl⟩:=g;obtain⟨A,a⟩:y.size<=sizeLine/\k=((y.size:Int) != 0):=e;subst a;rwa[PySem.W.truthy_bytes ⋯ #[H,I.tok _,q]]
 | ref p=>
  cases g;have a:(∃f,cm X.K H p f/\k = !f.isEmpty)\/(∃f,cL X.K H p f/\k = !f.isEmpty)\/∃c,H p⊂.dK c/\k = !c.isEmpty:=e;rcases a with⟨f,j,a⟩ | ⟨f,j,a⟩ | ⟨c,j,a⟩
  .subst a;let⟨n,r,o,u⟩:=I.list j;have d:=⇑r;rwa[wpAny_truthy_list o.isList (by simp only[size_toArray];lia) #[H,I.tok _,by rw[WV r];rwa[q]]]
  .subst a;let⟨n,r,o,u⟩:=I.tuple j;have d:=⇑r;rwa[truthy_tuple o (by simp only[size_toArray];lia) #[H,I.tok _,by rw[WV r];rwa[q]]]
  .subst a;obtain⟨u,z,l,r,m⟩:⇑c<=sizeLine/\(p==sysModules)=false/\∃l,KV c l/\s.heap.DictOf (cv X.prog X.w) p l:=I.cK p _ j;have d:⇑c=⇑l:=Paired.length r;rwa[wpAny_truthy_dict z m ⋯ #[H,I.tok _,by rw[GL r];rwa[q]]]
 | _=>rwa[(show False from e).elim]
def Jv(f:PE X a ta)(g:∀b,isTrue a X.env b=(do let v <-b;standAt a.pos;holding [v] (truthy v))) :
  PT X a (λσ H Q=>ta σ H λx H'=>∃k,pq X.K x H' k/\Q k H'):=by
 intro c s σ H Q I h;erw[isTrue_plain (cM (f c s σ H _ I h) λv l z_=>?_) (g _)];let⟨x,d,e,j,i⟩:=z_;rwa[NM c l σ d x v Q e j i]
def yJ:gr X (binaryOp .Add) (λx y H Q=>∃i j,x = .str i/\y = .str j/\⇑i+⇑j<=sizeLine/\Q (.str (i++j)) H):=by
 intro a s g H x y v u Q I c d h;let⟨i,j,rfl,rfl,b,q⟩:=h;let⟨t,rfl⟩:=c;let⟨e,rfl⟩:=d;rwa[add_str (λe f=>#[.str (i++j),H,I.tok _,#[_,rfl],q]) b]
def vals1(r:Vals [x] us):∃u,us=[u]/\RelV x u:=by
 cases r with
 | cons r1 r2=>cases r2;rwa[_,rfl,r1]
def vals2(r:Vals [x,y] us):∃u a,us=[u,a]/\RelV x u/\RelV y a:=by
 cases r with
 | cons r1 r2=>
  cases r2 with
  | cons r3 r4=>cases r4;rwa[_,_,rfl,r1,r3]
def WE:dE X (.builtin "abs") (λxs H Q=>∃i,xs=[.int i]/\Q (.int (if i<0 then -i else i)) H):=by
 intro a s d H xs c Q I r h;let⟨i,rfl,q⟩:=h;let⟨u,rfl,t,rfl⟩:=vals1 r;rwa[call_abs_int λu b=>#[.int (if i<0 then -i else i),H,I.tok _,#[_,rfl],q]]
def G3(c:X.calm=true):dE X (.builtin "max") (λxs H Q=>∃i j,xs=[.int i,.int j]/\Q (.int (if j>i then j else i)) H):=by
 intro b s m H xs g Q I r h;let⟨i,j,rfl,q⟩:=h;let⟨u,l,rfl,⟨t,rfl⟩,⟨e,rfl⟩⟩:=vals2 r;erw[max_two_ints (I.ok.hd c) λd f k=>#[_,H,I.kept k,?_,q]]
 by_cases a:j>i
 .rw[vd a,vd a];rwa[_,rfl]
 .rw[vc a,vc a];rwa[_,rfl]
def YR(c:X.calm=true):dE X (.builtin "min") (λxs H Q=>∃i j,xs=[.int i,.int j]/\Q (.int (if j<i then j else i)) H):=by
 intro b s m H xs g Q I r h;let⟨i,j,rfl,q⟩:=h;let⟨u,l,rfl,⟨t,rfl⟩,⟨e,rfl⟩⟩:=vals2 r;erw[min_two_ints (I.ok.hd c) λd f k=>#[_,H,I.kept k,?_,q]]
 by_cases a:j<i
 .rw[vd a,vd a];rwa[_,rfl]
 .rw[vc a,vc a];rwa[_,rfl]
def tx(K:cG)(x:V)(H:Hp)(n:Nat):Prop:=
 match x with
 | .str y=>⇑y<=sizeLine/\n=⇑y
 | .me y=>y.size<=sizeLine/\n=y.size
 | .ref p=>(∃xs,cm K H p xs/\n=⇑xs)\/∃xs,cL K H p xs/\n=⇑xs
 | _=>False
def jU:dE X (.builtin "len") (λxs H Q=>∃x n,xs=[x]/\tx X.K x H n/\Q (.int n) H):=by
 intro j s w H xs v Q I r h;let⟨x,n,rfl,e,q⟩:=h;let⟨u,rfl,i⟩:=vals1 r;have m:=g7;have o:sizeLine=16777216:=sizeLine_eq;cases x with
 | str y=>
  let⟨t,rfl⟩:=i;obtain⟨k,b⟩:⇑y<=sizeLine/\n=⇑y:=e;subst b;rwa[len_str ⋯ #[.int _,H,I.tok _,#[_,rfl],q]]
 | me y=>
  let⟨t,rfl⟩:=i;obtain⟨k,b⟩:y.size<=sizeLine/\n=y.size:=e;subst b;rwa[PySem.W.len_bytes ⋯ #[.int _,H,I.tok _,#[_,rfl],q]]
 | ref p=>
  cases i;have b:(∃xs,cm X.K H p xs/\n=⇑xs)\/∃xs,cL X.K H p xs/\n=⇑xs:=e;rcases b with⟨xs,c,b⟩ | ⟨xs,c,b⟩
  .subst b;let⟨d,g,f,l⟩:=I.list c;have a:=⇑g;rwa[Calls.call_len_list f.isList (by simp only[size_toArray];lia) #[.int ⇑xs,H,I.tok _,#[_,by simp only[size_toArray];rw[a]],q]]
  .subst b;let⟨d,g,f,l⟩:=I.tuple c;have a:=⇑g;rwa[len_tuple f (by simp only[size_toArray];lia) #[.int ⇑xs,H,I.tok _,#[_,by simp only[size_toArray];rw[a]],q]]
 | _=>rwa[(show False from e).elim]
end
structure mQ(h:Heap)(x dx C:Addr)(mA:Nw):Prop where
 obj:h.get? x⊂(PySem.W.instObj C dx)
 ns:h.Ns1 dx mA
 ne:dx≠x
def Hj{h:Heap}{c:Addr}{f:Nw}(n:h.Ns1 c f):∃g,h.get? c⊂g/\∀name,PySem.W.lookIn name g⊂(f name):=by
 let⟨o,d,r,m,j,k,Z,l⟩:=n;erw[o,m,λname=>?_];have e:=l name;unfold nsFind findBy at e;rw[<-Array.find?_toList]at e;unfold PySem.W.lookIn;rw[j];dsimp only;split
 .rename_i y q;rw[q]at e;rwa[congrArg some e]
 .rename_i q;rw[q]at e;have a:d.toList.any (·.refKey)=false:=by
   rw[List.any_eq_false];intro y p;let⟨z,t,b⟩:=k y (Array.mem_toList_iff.mp p);simp[DictEntry.refKey,b]
  have i:¬d.toList.any (·.refKey)=true:=by rw[a];rwa[vF]
  rw[vc i];rwa[congrArg some e]
def mQ.look{b:Nw}(I:mQ h x dx C b):∃a,PySem.W.InstAt h x (PySem.W.instObj C dx) C (some a)/\∀name,PySem.W.lookIn name a⊂(b name):=
 let ⟨a,ho,hl⟩:=Hj I.ns
 #[a,#[I.obj,rfl,rfl,ho],hl]
section
variable{prog:Program}{w:World}{A:Around}{E:Nz}{s:Shared}{K:cG}{x dx C f:Addr}{mA:Nw}{name:Str}{v:Value}
def LW{Q:Nz}(X:K.In s.heap)(I:mQ s.heap x dx C mA)(c:PySem.W.plainGet K C name=true)(d:PySem.W.hasDictIn K C=true)
  (b:PySem.W.findIn K (.ref C) name⊂none) (f:mA name⊂v) (a:PySem.W.handedIn v=true) (h:Q v {s with toks:=s.toks+1}) :
  wpAny (model prog w) A (getAttr (.ref x) name expr) Q E s:=by
 let⟨g,J,e⟩:=I.look;rwa[PySem.W.get_value X J (PySem.W.plainGet_of c).1 (PySem.W.findObj_own d b rfl (by rw[e,f])) a h]
def IG{Q:Value×L9->Shared->Prop}(X:K.In s.heap)(I:mQ s.heap x dx C mA)(a:PySem.W.plainGet K C name=true)
  (b:PySem.W.findIn K (.ref C) name⊂(↥f)) (d:PySem.W.isFn K (.ref f)=true) (e:mA name=none) (h:Q (.ref f,[.ref x]) s) :
  wpAny (model prog w) A (getMethod (.ref x) name pl) Q E s:=by
 let⟨g,J,c⟩:=I.look;rwa[PySem.W.method_fn X J (PySem.W.plainGet_of a).1 (PySem.W.plainGet_of a).2 b (beq_iff_eq.mp d) (by show(PySem.W.lookIn name g).map (·.isSome)⊂false;rw[c,e];rfl) h]
def Mr{Q:Unit->Shared->Prop}(X:K.In s.heap)(I:mQ s.heap x dx C mA)
  (o:PySem.W.findIn K (.ref C) "__setattr__"= some (some (.builtin "object.__setattr__"))) (n:PySem.W.plainOver K C=true) (p:PySem.W.takerIn K C name⊂none) (m:PySem.W.hasDictIn K C=true)
  (hw:PySem.Within mA ns) (hsz:⇑ns<=sizeLine)
  (h:∀h',mQ h' x dx C (λy=>if y=name then some v else mA y)->Heap.SameBut dx s.heap h'->Q () {s with heap:=h',toks:=s.toks+2}) :
  wpAny (model prog w) A (setAttr (.ref x) name v) Q E s:=by
 let⟨B,J,u⟩:=I.look;erw[PySem.W.set_plain X J o (PySem.W.osa_open (s:={s with toks:=s.toks+1}) (r:=none) X J n p λb=>?_)];let⟨t,l,f⟩:=PySem.W.any_some m;have q:s.heap.get? x=some #[.ref C,some dx,.plain,#[]]:=I.obj;erw[ug (uf (ug (ug (wpAny_loadPart q (ug (PySem.W.Looks.here (s:={s with toks:=s.toks+1}) (PySem.W.looks_clsIn X l) ?_))))))];rw[f];erw[uf (a:=some dx) (ug (uf (ug ?_)))];erw[wpAny_nsSet1 (s:={s with toks:=s.toks+1}) I.ns λh' c d=>?_]
 let⟨z,k,j,i,g,e⟩:=c.count (PySem.Within.cons name v hw);erw[ug (wpAny_lookBehind i (by rw[g];rwa[pastItsLine_dict (vW e (by rw[vQ];lia))]) ?_)];rwa[uf (h _ #[(d.2 _ (Ne.symm I.ne)).trans I.obj,c,I.ne] d)]
def IS{R:Result->Shared->Prop}(X:K.In s.heap)(c:PySem.W.makesIn K C=true)
  (hi:PySem.W.findIn K (.ref C) "__init__"= some (↥f)) (b:PySem.W.typeIn K (.ref f)⊂(.type "function"))
  (h:codeAny (model prog w) (A.under (.builtin "type.__call__" #[.ref C::vs,kw])) (.call (.ref f) #[.ref (s⁻¹+1)::vs,kw]) (PySem.W.InitBack (s⁻¹+1) R)
   {s with heap:=(s.heap.push PySem.W.emptyDict).push (PySem.W.instObj C s⁻¹)}) :
  codeAny (model prog w) A (.call (.ref C) #[vs,kw]) R s:=by
 let⟨e,g,d,t,i⟩:=s;rwa[PySem.W.make_core (PySem.W.makes_of X c) (PySem.W.looks_findIn X hi) (λa=>PySem.W.bind_fn X a b) (.inl rfl) h]
end
noncomputable def cE(f:Str)(v:V):List (Str×V)->List (Str×V)
 | []=>[(f,v)]
 | (g,x)::r=>if g=f then(g,v)::r else(g,x)::cE f v r
theorem ZT(f g:Str)(v:V):∀fs:List (Str×V),(cE f v fs).lookup g=if g=f then some v else fs.lookup g
 | []=>by
  show List.lookup g [(f,v)]=_;by_cases h:g=f
  .have a:(g==f)=true:=beq_iff_eq.mpr h;simp only[List.lookup,a,if_pos h]
  .have a:(g==f)=false:=beq_eq_false_iff_ne.mpr h;simp only[List.lookup,a,if_neg h]
 | (k,x)::r=>by
  have c:=ZT f g v r;rw[show cE f v ((k,x)::r)=(if k=f then(k,v)::r else(k,x)::cE f v r)from rfl];by_cases b:k=f
  .rw[vd b];by_cases h:g=k
   .have a:(g==k)=true:=beq_iff_eq.mpr h;simp only[List.lookup,a,if_pos (h.trans b)]
   .have a:(g==k)=false:=beq_eq_false_iff_ne.mpr h;simp only[List.lookup,a,if_neg (λe:g=f=>h (e.trans b.symm))]
  .rw[vc b];by_cases h:g=k
   .have a:(g==k)=true:=beq_iff_eq.mpr h;simp only[List.lookup,a,if_neg (λe:g=f=>b (h.symm.trans e))]
   .have a:(g==k)=false:=beq_eq_false_iff_ne.mpr h;simp only[List.lookup,a];rwa[c]
theorem K8(f:Str)(v:V):∀fs:List (Str×V),f∈(cE f v fs).map (·.1)/\∀g,g∈fs.map (·.1)->g∈(cE f v fs).map (·.1)
 | []=>#[by simp[cE],λg h=>by simp at h]
 | (k,x)::r=>by
  let⟨a,b⟩:=K8 f v r;rw[show cE f v ((k,x)::r)=(if k=f then(k,v)::r else(k,x)::cE f v r)from rfl]
  grind
theorem wI(f:Str)(v:V):∀fs:List (Str×V),⇑(cE f v fs)<=⇑fs+1
 | []=>by simp[cE]
 | (k,x)::r=>by
  have b:=wI f v r;rw[show cE f v ((k,x)::r)=(if k=f then(k,v)::r else(k,x)::cE f v r)from rfl];by_cases a:k=f
  .rw[vd a,vQ,vQ];lia
  .rw[vc a,vQ,vQ];lia
def gg.some_of(r:gg (some v) o):∃u,o⊂u/\RelV v u:=by
 cases o with
 | none=>rwa[(show False from r).elim]
 | some u=>rwa[u,rfl,r]
def gg.none_of(r:gg none o):o=none:=by
 cases o with
 | none=>rfl
 | some u=>rwa[(show False from r).elim]
def G8(r:RelV v u):PySem.W.handedIn u=true:=by
 cases v with
 | dj=>cases(show u=Value.none from r);rfl
 | bl b=>cases(show u=Value.bool b from r);rfl
 | int i=>let⟨t,e⟩:=(show∃t,u=Value.int i t from r);cases e;rfl
 | str x=>let⟨t,e⟩:=(show∃t,u=Value.str x t from r);cases e;rfl
 | me b=>let⟨t,e⟩:=(show∃t,u=Value.bytes b t from r);cases e;rfl
 | tM b=>let⟨t,e⟩:=(show∃t,u=Value.float b t from r);cases e;rfl
 | ref a=>cases(show u=Value.ref a from r);rfl
 | ty n=>cases(show u=Value.type n from r);rfl
section
variable{P:Program}{w:World}{H H':Hp}{h h':Heap}{a C dx:Addr}{fs fs':List (Str×V)}
def A7(b:fA P w H h)(e:H a⊂.ins C dx fs):∃mA,mQ h a dx C mA/\(∀f,gg (fs.lookup f) (mA f))/\PySem.Within mA (fs.map (·.1))/\⇑fs<=1000/\H dx⊂(.own a):=by
 let⟨d,z,c,g,mA,n,r,q⟩:=(show cD P w H h a (.ins C dx fs)from b a _ e)
 rwa[mA,#[g,n,c],r,q,z,d]
end
structure mJ(K:cG)(C:Addr):Prop where
 pg:PySem.W.plainGet K C Str.empty=true
 hd:PySem.W.hasDictIn K C=true
 po:PySem.W.plainOver K C=true
 sa:PySem.W.findIn K (.ref C) "__setattr__"= some (some (.builtin "object.__setattr__"))
def mJ.get{K:cG}{C:Addr}(c:mJ K C)(f:Str):PySem.W.plainGet K C f=true:=c.pg
def dg(K:cG)(C:Addr)(f:Str):Prop:=PySem.W.findIn K (.ref C) f⊂none
def dg.u6{K:cG}{C:Addr}{f:Str}(n:dg K C f):PySem.W.takerIn K C f⊂none:=by
 unfold PySem.W.takerIn;rw[show PySem.W.findIn K (.ref C) f⊂none from n];rfl
structure Meth(K:cG)(C:Addr)(m:Str)(f:Addr):Prop where
 at_:PySem.W.findIn K (.ref C) m⊂(↥f)
 fn:PySem.W.isFn K (.ref f)=true
 kp:PySem.W.keepIn K (.ref f)=true
section
variable{X:Cx}{pins:Ny}{σ:St}{H:Hp}{s:Shared}{a C dx:Addr}{fs:List (Str×V)}{f:Str}{v:V}{A:Around}{E:Nz}
def WS{Q:Nz}(I:Inv X pins σ H s)(e:H a⊂.ins C dx fs)(c:mJ X.K C)(n:dg X.K C f)(l:fs.lookup f⊂v)
  (h:∀u s',Inv X pins σ H s'->RelV v u->Q u s'):wpAny (model X.prog X.w) A (getAttr (.ref a) f b) Q E s:=by
 let⟨i,O,r,q,q,q⟩:=A7 I.cK e;let⟨u,g,d⟩:=gg.some_of (v:=v) (o:=i f) (by rw[<-l];rwa[r f]);rwa[LW I.jk O (c.get f) c.hd n g (G8 d) (h u _ (I.tok _) d)]
def kj{Q:Value×L9->Shared->Prop}(I:Inv X pins σ H s)(e:H a⊂.ins C dx fs)(c:mJ X.K C)(k:Meth X.K C m g)(l:fs.lookup m=none)
  (h:Q (.ref g,[.ref a]) s):wpAny (model X.prog X.w) A (getMethod (.ref a) m pl) Q E s:=by
 let⟨d,O,r,q,q,q⟩:=A7 I.cK e;have b:d m=none:=gg.none_of (by rw[<-l];rwa[r m]);rwa[IG I.jk O (c.get m) k.at_ k.fn b h]
def xr{Q:Unit->Shared->Prop}(I:Inv X pins σ H s)(e:H a⊂.ins C dx fs)(c:mJ X.K C)(n:dg X.K C f)(D:⇑fs<1000)(w:RelV y u)
  (h:∀s',Inv X pins σ (upd H a (.ins C dx (cE f y fs))) s'->Q () s'):wpAny (model X.prog X.w) A (setAttr (.ref a) f u) Q E s:=by
 let⟨j,O,r,k,Z,i⟩:=A7 I.cK e;have v:⇑(fs.map (·.1))<=sizeLine:=by rw[vt,sizeLine_eq];lia
 erw[Mr I.jk O c.sa c.po n.u6 c.hd k v λl d B=>h _ ?_]
 have p:∃o,l.get? dx⊂o:=let ⟨o,_,_,e',_⟩:=d.ns;#[o,e'];erw[I.write (x:=a) (e:=dx) (by rw[e];rwa[True.intro]) (.inr i) (λb q m z=>(B.2 b m).trans z) p ?_];erw[by rw[jh O.ne];rwa[i],?_,O.ne,d.obj,_,d.ns,λg=>?_,λg t=>?_]
 .have:=wI f y fs;lia
 .show gg ((cE f y fs).lookup g) (if g=f then some u else j g);rw[ZT];by_cases q:g=f
  .rw[vd q,vd q];rwa[w]
  simp_all
 .by_cases q:g=f
  .rw[q];rwa[(K8 f y fs).1]
  .refine(K8 f y fs).2 g (k g λz=>t ?_);show(if g=f then some u else j g)=none;rw[vc q];rwa[z]
def Inv.made(I:Inv X pins σ H s):Inv X pins σ (upd (upd H s⁻¹ (.own (s⁻¹+1))) (s⁻¹+1) (.ins C s⁻¹ []))
  {s with heap:=(s.heap.push PySem.W.emptyDict).push (PySem.W.instObj C s⁻¹)}:=by
 have c:(s.heap.push PySem.W.emptyDict).get? s⁻¹⊂PySem.W.emptyDict:=Heap.get?_push_size s.heap rfl;have g:((s.heap.push PySem.W.emptyDict).push (PySem.W.instObj C s⁻¹)).get? (s⁻¹+1)⊂(PySem.W.instObj C s⁻¹):=by
  have:=Heap.get?_push_size (s.heap.push PySem.W.emptyDict) (o:=PySem.W.instObj C s⁻¹) rfl
  rwa [Heap.size_push]at this
 have h:(s.heap.push PySem.W.emptyDict).Ns s⁻¹ (λZ=>none):=#[PySem.W.emptyDict,#[],_,c,rfl,(λe i=>ud i (by simp)),λZ=>rfl]
 have f:=I.laid (a:=s⁻¹) (o:=.own (s⁻¹+1)) (h':=s.heap.push PySem.W.emptyDict) (t':=s.toks) (λb u q=>vJ _ q) (vb _) #[_,c];erw[f.laid (a:=s⁻¹+1) (o:=.ins C s⁻¹ []) (t':=s.toks) (λb u q=>vJ _ q) (Nat.le_of_eq (Heap.size_push _ _)) ?_];have d:s⁻¹≠s⁻¹+1:=vE (Nat.lt_succ_self _);erw[by rw[jh d,jy],va _,d,g,λZ=>none,(Heap.Ns1.of_empty h).at λo q=>vJ _ q,λZ=>True.intro,λy j=>ud rfl j]
def Lo{f:Str}{s:Shared}{Q:Nz}(b:attributeBase e f env (eval e env)=eval e env)
  (h:wpAny (model prog w) A (eval e env) (λo a=>wpAny (model prog w) A (getAttr o f true) Q E a) E s):wpAny (model prog w) A (eval (.Attribute e f pos) env) Q E s:=
 Attribute_any_ h (by rw[arm_eval_Attribute,b])
end
def uP(K:cG)(ta:TE)(f:Str):TE:=λσ H Q=>ta σ H λx H1=>∃a C dx fs v,x = .ref a/\H1 a⊂.ins C dx fs/\mJ K C/\dg K C f/\fs.lookup f⊂v/\Q v H1
def uH(K:cG)(ta tv:TE)(f:Str):TS:=λD σ H=>tv σ H λy H1=>ta σ H1 λx H2=>∃a C dx fs,x = .ref a/\H2 a⊂.ins C dx fs/\mJ K C/\dg K C f/\⇑fs<1000/\
 D.nx σ (upd H2 a (.ins C dx (cE f y fs)))
def tm(X:Cx)(op:Operator)(rd:V->V->Hp->VK->Prop):Prop:=
 ∀(pins:Ny) (s:Shared) (σ:St) (H:Hp) (x y:V) (u v:Value) (Q:VK),Inv X pins σ H s->RelV x u->RelV y v->rd x y H Q->wpAny (model X.prog X.w) X.A (inplaceOp op u v) (EP X pins σ Q) X.xe s
def pN(K:cG)(ta tv:TE)(rd:V->V->Hp->VK->Prop)(f:Str):TS:=λD σ H=>ta σ H λx H1=>∃a C dx fs v,x = .ref a/\H1 a⊂.ins C dx fs/\mJ K C/\dg K C f/\fs.lookup f⊂v/\
 tv σ H1 λy H2=>rd v y H2 λz H3=>∃dx' fs',H3 a⊂.ins C dx' fs'/\⇑fs'<1000/\D.nx σ (upd H3 a (.ins C dx' (cE f z fs')))
section
variable{X:Cx}{o e value:Expr}{f:Str}{pos pos' tpos:Pos}{ta tv:TE}
def Jh(o:PE X e ta)(m:attributeBase e f X.env (eval e X.env)=eval e X.env):PE X (.Attribute e f pos) (uP X.K ta f):=by
 intro b s t H Q I h;erw[Lo m (cM (o b s t H _ I h) λu z z_=>?_)];obtain⟨x,d,g,r,a,C,w,y,v,k,j,c,n,l,q⟩:=z_;subst k;obtain rfl:u=Value.ref a:=r;rwa[WS g j c n l λB A i p=>#[v,d,i,p,q]]
def ya(p:PE X o ta)(t:PE X value tv)(r:swapsWith value (some (.Attribute o f pos')) pos.line X.env=pure false):PS X (.Assign [.Attribute o f pos'] value pos) (uH X.K ta tv f):=by
 intro b s d H D I h;erw[plainObj_wpAny_Assign_Attribute (cM (t b s d H _ I h) λu A z_=>?_) r];let⟨y,e,g,z,q⟩:=z_;erw[cM (p b A d e _ g q) λov G z_=>?_];obtain⟨x,B,i,w,a,C,E,F,m,k,c,n,l,v⟩:=z_;subst m;obtain rfl:ov=Value.ref a:=w;rwa[xr i k c n l z λJ j=>#[d,_,j,v]]
def HX{op:Operator}{i:V->V->Hp->VK->Prop}(G:PE X o ta)(J:PE X value tv)(g:tm X op i):PS X (.AugAssign (.Attribute o f tpos) op value pos) (pN X.K ta tv i f):=by
 intro b s d H D I h;erw[wpAny_AugAssign_AttributeAny (cM (G b s d H _ I h) λov Z z_=>?_)];obtain⟨x,j,m,O,a,C,W,Y,v,E,B,c,n,l,q⟩:=z_;subst E;obtain rfl:ov=Value.ref a:=O;erw[WS m B c n l λu R p N=>cM (J b R d j _ p q) λT S ⟨y,k,r,P,L⟩=>cM (g b S d k v y u T _ r N P L) λw4 s4 ⟨z,U,t,Q,A,F,e,K,M⟩=>?_]
 rwa[xr t e c n K Q λs5 w=>#[d,_,w,M]]
noncomputable def Cq:V->V->Hp->VK->Prop:=λx y H Q=>∃i j,x = .int i/\y = .int j/\Q (.int (i+j)) H
def N9:tm X .Add Cq:=by
 rintro a s e H x y u v Q I c d ⟨i,j,rfl,rfl,q⟩;let⟨t,rfl⟩:=(show∃t,u=Value.int i t from c)
 let⟨b,rfl⟩:=(show∃b,v=Value.int j b from d)
 rwa[PyProof.Rows.iadd_int #[.int (i+j),H,I.tok _,#[_,rfl],q]]
end
structure dF(k:Nat)(A:Around):Prop where
 hd:A.handled=none
 dp:A.depth+3*k+5<recursionLimit
 un:A.units+16*k+200<cLine
def dF.mono(r:dF k A)(h:j<=k):dF j A:=#[r.hd,by have:=r.dp;lia,by have:=r.un;lia]
def dF.deeper(r:dF (k+1) A)(env:Env):dF k (A.deeper env):=
 #[r.hd,by have:=r.dp;show A.depth+1+3*k+5<_;lia,by have:=r.un;show A.units+3+16*k+200<_;lia]
def GN{A:Around}{C:Addr}{us:L9}{a:List (Str×Value)}:(A.under (.builtin "type.__call__" #[.ref C::us,a])).depth=A.depth+1:=by
 first | rfl | simp[Around.under,Code.weight,Code.isCreation,Code.isGuard,Code.isCaller,Code.frames,Code.isFrame,guardIds]
def GO{A:Around}{C:Addr}{us:L9}{a:List (Str×Value)}:(A.under (.builtin "type.__call__" #[.ref C::us,a])).units=A.units+1:=by
 first | rfl | simp[Around.under,Code.cUnits,Code.frames,Code.isFrame]
def dF.make(r:dF (k+1) A)(C:Addr)(us:L9)(a:List (Str×Value)):dF k (A.under (.builtin "type.__call__" #[.ref C::us,a])):=
 #[r.hd,by have:=r.dp;rw[GN];lia,by have:=r.un;rw[GO];lia]
def dF.depth(r:dF k A):A.depth<recursionLimit:=by have:=r.dp;lia
def dF.units(r:dF k A):A.units+64<cLine:=by have:=r.un;lia
def sI:TA:=λq H Q=>Q [] H
def rx(ta:TE)(tr:TA):TA:=λσ H Q=>ta σ H λx H1=>tr σ H1 λxs H2=>Q (x::xs) H2
section
variable{X:Cx}{e:Expr}{es:Nt}{te:TE}{t:TA}{pos:Pos}
def jc:PA X [] sI:=λq q q q H Q I h=>Calls.spliced_nil #[[],H,I,.nil,h]
def ja(j:PE X e te)(k:PA X es t)(l:starEach (e::es) X.env=(false,eval e X.env)::starEach es X.env:=by rfl):PA X (e::es) (rx te t):=by
 intro b a s c H Q I h;rw[l];show wpAny _ _ (spliced ((false,eval e X.env)::backTo b (starEach es X.env))) _ _ s;erw[Calls.spliced_cons (cM (j a s c H _ I h) λu q z_=>?_)];obtain⟨x,d,g,o,m⟩:=z_;erw[cM (k b a q c d _ g m) λw v z_=>?_];let⟨r,f,i,p,n⟩:=z_;rwa[x::r,f,i,.cons o p,n]
def uZ(t:TA):TE:=λσ H Q=>t σ H λxs H1=>⇑xs<=sizeLine/\∀p,H1 p=none->Q (.ref p) (upd H1 p (.tup xs))
def uS(t:TA):TE:=λσ H Q=>t σ H λxs H1=>⇑xs<=sizeLine/\∀p,H1 p=none->Q (.ref p) (upd H1 p (.lst xs))
def jH{x1}(h:PA X es t):PE X (.Tuple es x1 pos) (uZ t):=by
 intro a s l H Q I i;erw[wpAny_Tuple_spliced (cM (h pos a s l H _ I i) λj c ⟨k,d,f,r,z,q⟩=>#[by rw[<-⇑r];rwa[z],?_])];have g:d c⁻¹=none:=f.cK.fresh (vb _);erw[.ref c⁻¹,upd d c⁻¹ (.tup k),f.laid (t':=c.toks) (λb u e=>vJ _ e) (vb _) ?_,rfl,q _ g];rwa[z,j,r,#[_,Heap.get?_push_size _ rfl,rfl,_,rfl]]
def jK(h:PA X es t):PE X (.List es pos) (uS t):=by
 intro a s l H Q I i;erw[wpAny_List_spliced (cM (h pos a s l H _ I i) λj c ⟨k,d,f,r,z,q⟩=>#[by rw[<-⇑r];rwa[z],?_])];have g:d c⁻¹=none:=f.cK.fresh (vb _);erw[.ref c⁻¹,upd d c⁻¹ (.lst k),f.laid (t':=c.toks) (λb u e=>vJ _ e) (vb _) ?_,rfl,q _ g];rwa[z,j,0,r,Heap.get?_push_size _ rfl]
end
noncomputable abbrev Sp:=N4->Hp->VK->XK->Prop
noncomputable abbrev nP:=List Env->Hp->Shared->XK->Value->Shared->Prop
structure mL(P:Program)(w:World)(K:cG)(mg:Nw)(base:Heap)(A:Around)(outer:Nr)(s:Shared)(H:Hp):Prop where
 frames:A.frames⊂outer
 mod:Mod K mg base
 bs:∀b o,base.get? b⊂o->s.heap.get? b⊂o/\H b=none
 ox:base.objs.size<=s⁻¹
 gO:s.heap.FunFrames base outer
 pA:∀b∈fB outer,H b=none
 cK:fA P w H s.heap
 bare:AllBare s.gens
def CE(outer:Nr)(P:Program)(w:World)(H:Hp)(s:Shared)(Q:VK)(u:Value)(s':Shared):Prop:=
 ∃v H',s'.os=s.os/\AllBare s'.gens/\Un (fB outer) [] H H' s.heap s'.heap/\fA P w H' s'.heap/\RelV v u/\Q v H'
def CR(CX:nP)(outer:Nr)(P:Program)(w:World)(H:Hp)(s:Shared)(Q:VK)(E:XK)(r:Result)(s':Shared):Prop:=
 match r with
 | .ok (.ret u)=>CE outer P w H s Q u s'
 | .ok _=>False
 | .error e=>CX outer H s E e s'
structure eB(P:Program)(w:World)(K:cG)(mg:Nw)(base:Heap)(CX:nP)(k:Nat)(f:Addr)(fd:FuncData)(ps:L8)(sp:Sp):Prop where
 len:∀vs H Q E,sp vs H Q E->⇑vs=⇑ps
 run:∀(A:Around) (outer:Nr) (s:Shared) (H:Hp) (args:Args) (us:L9) (vs:N4) (Q:VK) (E:XK),dF k A->mL P w K mg base A outer s H->BindsTo s fd args (ps.zip us)->Vals vs us->sp vs H Q E->
  codeAny (model P w) A (.call (.ref f) args) (CR CX outer P w H s Q E) s
def eB.mono{P:Program}{w:World}{K:cG}{e:Nw}{a:Heap}{CX:nP}{j k:Nat}{f:Addr}{d:FuncData}{ps:L8}{sp:Sp}(F:eB P w K e a CX j f d ps sp)(h:j<=k) :
  eB P w K e a CX k f d ps sp:=#[F.len,λA b s H c i l Q E g=>F.run A b s H c i l Q E (g.mono h)]
def mL.make{P:Program}{w:World}{K:cG}{c:Nw}{b:Heap}{A:Around}{a:Nr}{s:Shared}{H:Hp}(e:mL P w K c b A a s H)(C:Addr)(us:L9)(d:List (Str×Value)) :
  mL P w K c b (A.under (.builtin "type.__call__" #[.ref C::us,d])) a s H:=#[by first | exact e.frames | (simpa [Around.under,Code.envs,Code.isFrame,pushEnvs]using e.frames),e.mod,e.bs,e.ox,e.gO,e.pA,e.cK,e.bare]
section
variable{X:Cx}{pins:Ny}{σ:St}{H:Hp}{s s':Shared}
def Inv.r8(I:Inv X pins σ H s):mL X.prog X.w X.K X.mg X.base X.A X.stack s H:=
 #[I.ok.frames,I.ok.mod,I.bs,vW I.ok.ox I.sz,I.stack,I.iB,I.cK,I.bare]
def Inv.after(I:Inv X pins σ H s)(h:CE X.stack X.prog X.w H s Q u s'):EP X pins σ Q u s':=by
 let⟨v,f,j,a,k,c,r,q⟩:=h;let⟨i,g,d,t,e⟩:=s';obtain rfl:e=s.os:=j;rwa[v,f,I.call (h':=i) (g':=g) (d':=d) (t':=t) (ch:=[]) k c a (λb z=>ud z (by simp)),r,q]
end
def oO(sp:Sp)(dvs:N4)(E:XK)(t:TA):TE:=λσ H Q=>t σ H λvs H1=>sp (vs++dvs) H1 Q E
def oU(C:Addr)(m:Str)(sp:Sp)(dvs:N4)(E:XK)(ta:TE)(t:TA):TE:=λσ H Q=>ta σ H λx H1=>∃a dx fs,x = .ref a/\H1 a⊂.ins C dx fs/\fs.lookup m=none/\
 t σ H1 λvs H2=>sp (x::(vs++dvs)) H2 Q E
def rB(C:Addr)(sp:Sp)(dvs:N4)(E:XK)(t:TA):TE:=λσ H Q=>t σ H λvs H1=>∀x dx,H1 x=none->H1 dx=none->dx≠x->
 sp (.ref x::(vs++dvs)) (upd (upd H1 dx (.own x)) x (.ins C dx [])) (λv H2=>v = .dj/\Q (.ref x) H2) E
def Binds(K:cG)(fd:FuncData)(ps:L8)(ds:L9):Prop:=
 ∀(s:Shared) (us:L9),K.In s.heap->⇑(us++ds)=⇑ps->BindsTo s fd #[us,[]] (ps.zip (us++ds))
def Binds.all{K:cG}{a:FuncData}{ps:L8}(h:∀us:L9,⇑us=⇑ps->bindArgs a #[us,[]]=pure (ps.zip us)):Binds K a ps []:=λs us q b=>by
 rw[append_nil]at b|-;rwa[.of_eq (h us b)]
def Passes(CX:nP)(X:Cx)(E:XK):Prop:=∀(pins:Ny) (σ:St) (H:Hp) (s:Shared) (e:Value) (s':Shared),Inv X pins σ H s->CX X.stack H s E e s'->X.xe e s'
section
variable{X:Cx}{CX:nP}{k:Nat}{f C:Addr}{fd:FuncData}{ps:L8}{sp:Sp}{dvs:N4}{ds:L9}{E:XK}{x m:Str}{p pos apos:Pos}{e o:Expr}{es:Nt}{ta:TE}{t:TA}
def BK{b:St}{H:Hp}(F:eB X.prog X.w X.K X.mg X.base CX k f fd ps sp)(j:dF k X.A)(d:Binds X.K fd ps ds)(g:Vals dvs ds)(l:Passes CX X E)
  (I:Inv X pins b H s) (r:Vals vs us) (h:sp (vs++dvs) H Q E):wpAny (model X.prog X.w) X.A (call (.ref f) us) (EP X pins b Q) X.xe s:=by
 have c:Vals (vs++dvs) (us++ds):=r.append g;have i:⇑(us++ds)=⇑ps:=by rw[<-⇑c];rwa[F.len _ _ _ _ h]
 erw[wpAny_call (codeAny_mono (F.run X.A X.stack s H #[us,[]] (us++ds) (vs++dvs) Q E j I.r8 (d s us I.jk i) c h) λr m a=>?_)];cases r with
 | error e=>rwa[l pins b H s e m I a]
 | ok fl=>
  cases fl with
  | ret u=>rwa[I.after a]
  | next=>rwa[False.elim a]
  | brk=>rwa[False.elim a]
  | cont=>rwa[False.elim a]
def Kj(F:eB X.prog X.w X.K X.mg X.base CX k f fd ps sp)(u:dF k X.A)(m:Gl X x)(o:X.mg x=↥f)(n:PySem.W.keepIn X.K (.ref f)=true)(i:Binds X.K fd ps ds)(j:Vals dvs ds)(v:Passes CX X E)
  (g:PA X (e::es) t) (b:(x==("__debug__" : Str))=false:=by decide) (l:starEach (e::es) X.env=(false,eval e X.env)::starEach es X.env:=by rfl) (c:(backTo pos (starEach es X.env)).any (·.1)=false:=by rfl) :
  PE X (.Call (.Name x p) (e::es) [] pos) (oO sp dvs E t):=by
 intro a s w H Q I h;erw[wpAny_Call_Name_kw (k7 I m o ?_ b)];erw[PySem.W.callWith_K (h₀:=X.base) I.ok.mod.sf n (cM (g pos a s w H _ I h) λB z z_=>?_) l c];let⟨C,y,d,r,q⟩:=z_;erw[d.jk,?_];rwa[BK F u i j v d r q]
def yL(G:PE X o ta)(c:mJ X.K C)(n:Meth X.K C m f)(F:eB X.prog X.w X.K X.mg X.base CX k f fd ps sp)(J:dF k X.A)(B:Binds X.K fd ps ds)(D:Vals dvs ds)(L:Passes CX X E)(z:PA X (e::es) t)
  (g:starEach (e::es) X.env=(false,eval e X.env)::starEach es X.env:=by rfl) (d:(backTo pos (starEach es X.env)).any (·.1)=false:=by rfl)
  (K:eval (.Call (.Attribute o m apos) (e::es) [] pos) X.env=(do
   let ov <-eval o X.env
   standAt apos.atName
   let (f,first) <-holding [ov] (getMethod ov m pl)
   callWith pos f first (backTo pos (starEach (e::es) X.env)) (backToKw pos (keywordEach [] X.env))):=by rfl) :
  PE X (.Call (.Attribute o m apos) (e::es) [] pos) (oU C m sp dvs E ta t):=by
 intro b s p H Q I h;erw[PySem.W.methodCall_KW (pl:=pl) (cM (G b s p H _ I h) λu O z_=>?_) K];obtain⟨x,v,i,N,a,R,S,y,w,l,q⟩:=z_;subst y;obtain rfl:u=Value.ref a:=N;erw[kj i w c n l ?_];erw[PySem.W.callWith_K (first:=[.ref a]) (h₀:=X.base) I.ok.mod.sf n.kp (cM (z pos b O p v _ i q) λus T z_=>?_) g d];let⟨vs,P,j,r,M⟩:=z_;erw[j.jk,?_];rwa[BK (us:=.ref a::us) (vs:=.ref a::vs) F J B D L j (.cons rfl r) M]
def zF{pl:Sem Bool}(p:PE X o ta)(c:mJ X.K C)(e:Meth X.K C m f)(F:eB X.prog X.w X.K X.mg X.base CX k f fd ps sp)(r:dF k X.A)(j:Binds X.K fd ps ds)(n:Vals dvs ds)(v:Passes CX X E)
  (t:eval (.Call (.Attribute o m apos) [] [] pos) X.env=(do
   let ov <-eval o X.env
   standAt apos.atName
   let (f,first) <-holding [ov] (getMethod ov m pl)
   callWith pos f first (backTo pos (starEach [] X.env)) (backToKw pos (keywordEach [] X.env))):=by rfl) :
  PE X (.Call (.Attribute o m apos) [] [] pos) (oU C m sp dvs E ta sI):=by
 intro b s y H Q I h;erw[PySem.W.methodCall_KW (pl:=pl) (cM (p b s y H _ I h) λu G z_=>?_) t];obtain⟨x,z,d,w,a,B,D,i,g,l,q⟩:=z_;subst i;obtain rfl:u=Value.ref a:=w;erw[kj d g c e l ?_];rwa[PySem.W.callWith_K0 (first:=[.ref a]) d.jk e.kp (BK (us:=[.ref a]) (vs:=[.ref a]) F r j n v d (.cons rfl .nil) q)]
structure Mk(K:cG)(C f:Addr):Prop where
 makes:PySem.W.makesIn K C=true
 init:PySem.W.findIn K (.ref C) "__init__"= some (↥f)
 fn:PySem.W.isFn K (.ref f)=true
 kp:PySem.W.keepIn K (.ref C)=true
def LM{c:St}{H:Hp}(M:Mk X.K C f)(F:eB X.prog X.w X.K X.mg X.base CX k f fd ps sp)(p:dF (k+1) X.A)(m:Binds X.K fd ps ds)(n:Vals dvs ds)
  (q:Passes CX X E) (I:Inv X pins c H s) (r:Vals vs us)
  (h:∀x dx,H x=none->H dx=none->dx≠x->sp (.ref x::(vs++dvs)) (upd (upd H dx (.own x)) x (.ins C dx [])) (λv H2=>v = .dj/\Q (.ref x) H2) E) :
  wpAny (model X.prog X.w) X.A (call (.ref C) us) (EP X pins c Q) X.xe s:=by
 have d:=h (s⁻¹+1) s⁻¹ (I.cK.fresh (Nat.le_succ _)) (I.cK.fresh (vb _)) (vE (Nat.lt_succ_self _));have b:=Inv.made (C:=C) I;have g:Vals (V.ref (s⁻¹+1)::(vs++dvs)) (Value.ref (s⁻¹+1)::(us++ds)):=.cons rfl (r.append n);have o:⇑(Value.ref (s⁻¹+1)::us++ds)=⇑ps:=by
  have e:=⇑g;rw[F.len _ _ _ _ d]at e;rwa[e.symm]
 refine wpAny_call (IS (f:=f) I.jk M.makes M.init (beq_iff_eq.mp M.fn) (codeAny_mono (F.run _ X.stack _ _ #[Value.ref (s⁻¹+1)::us,[]] (Value.ref (s⁻¹+1)::(us++ds)) _ _ E (p.make C us [])
  (b.r8.make C us []) (m _ (Value.ref (s⁻¹+1)::us) b.jk o) g d) λr y a=>?_))
 cases r with
 | error e=>rwa[q pins c _ _ e y b a]
 | ok fl=>
  cases fl with
  | ret u=>
   let⟨v,i,j,w,l,t⟩:=b.after a;subst l;rwa[w,#[V.ref (s⁻¹+1),i,j,rfl,t]]
  | next=>rwa[False.elim a]
  | brk=>rwa[False.elim a]
  | cont=>rwa[False.elim a]
def Bj(M:Mk X.K C f)(F:eB X.prog X.w X.K X.mg X.base CX k f fd ps sp)(o:dF (k+1) X.A)(m:Gl X x)(n:X.mg x=↥C)(i:Binds X.K fd ps ds)(j:Vals dvs ds)(u:Passes CX X E)
  (g:PA X (e::es) t) (b:(x==("__debug__" : Str))=false:=by decide) (l:starEach (e::es) X.env=(false,eval e X.env)::starEach es X.env:=by rfl) (c:(backTo pos (starEach es X.env)).any (·.1)=false:=by rfl) :
  PE X (.Call (.Name x p) (e::es) [] pos) (rB C sp dvs E t):=by
 intro a s v H Q I h;erw[wpAny_Call_Name_kw (k7 I m n ?_ b)];erw[PySem.W.callWith_K (h₀:=X.base) I.ok.mod.sf M.kp (cM (g pos a s v H _ I h) λz y z_=>?_) l c];let⟨B,w,d,r,q⟩:=z_;erw[d.jk,?_];rwa[LM M F o i j u d r q]
end
structure cn(N P:L8)(sc:Scope):Prop where
 kind:sc.kind = .function
 co:sc.isCoroutine=false
 gen:sc.isGenerator=false
 nd:N.Nodup
 pre:N.take ⇑P=P
 par:∀x∈P,sc.names.lookup x⊂.local\/sc.names.lookup x⊂.cell
 sk:∀y∈sc.names,y.2≠.free
theorem xZ{b:Str->Option NameKind}:∀{a:List (Str×Value)} {m:Nw},(∀v,(x,v)∉a)->bindL b a m x=m x
 | [],_,_=>rfl
 | (n,v)::r,m,h=>by
  unfold bindL;rw[xZ λw c=>h w (vp _ c)];split
  .have:x≠n:=by rintro rfl;exact h v vq
   simp[this]
  .rfl
theorem xW{b:Str->Option NameKind}:∀{a:List (Str×Value)} {m:Nw},(∀v,(x,v)∉a)->bindC b a m x=m x
 | [],_,_=>rfl
 | (n,v)::r,m,h=>by
  unfold bindC;rw[xW λw c=>h w (vp _ c)];split
  .rfl
  .have:x≠n:=by rintro rfl;exact h v vq
   simp[this]
theorem xY{a:Str->Option NameKind}:∀{P:L8} {vs:L9} {i:Nat} {m:Nw},P.Nodup->P[i]?⊂x->vs[i]?⊂v->a x⊂.local->
  bindL a (P.zip vs) m x⊂v
 | [],_,_,_,_,h,_,_=>by simp at h
 | _::_,[],_,_,_,_,h,_=>by simp at h
 | p::P,w::vs,0,m,nd,h1,h2,hk=>by
  simp at h1 h2;subst h1;subst h2;show bindL a ((p,w)::P.zip vs) m p=_;unfold bindL;rw[xZ λv b=>(um.mp nd).1 (of_mem_zip b).1,vd hk];simp
 | p::P,w::vs,i+1,m,nd,h1,h2,hk=>by
  show bindL a ((p,w)::P.zip vs) m x=_;unfold bindL;rwa[xY (i:=i) (um.mp nd).2 #v[h1] #v[h2] hk]
theorem xV{a:Str->Option NameKind}:∀{P:L8} {vs:L9} {i:Nat} {m:Nw},P.Nodup->P[i]?⊂x->vs[i]?⊂v->a x≠some .local->
  bindC a (P.zip vs) m x⊂v
 | [],_,_,_,_,h,_,_=>by simp at h
 | _::_,[],_,_,_,_,h,_=>by simp at h
 | p::P,w::vs,0,m,nd,h1,h2,hk=>by
  simp at h1 h2;subst h1;subst h2;show bindC a ((p,w)::P.zip vs) m p=_;unfold bindC;rw[xW λv b=>(um.mp nd).1 (of_mem_zip b).1,vc hk];simp
 | p::P,w::vs,i+1,m,nd,h1,h2,hk=>by
  show bindC a ((p,w)::P.zip vs) m x=_;unfold bindC;rwa[xV (i:=i) (um.mp nd).2 #v[h1] #v[h2] hk]
noncomputable def start(N:L8)(vs:N4):St:=vs.map some++List.replicate (⇑N-⇑vs) none
noncomputable def dG(CX:nP)(P:Program)(w:World)(K:cG)(mg:Nw)(base:Heap)(N:L8)(qual:Str)(scope:Scope)(f:Addr)(cd:Value)(A:Around)(outer:Nr)(s:Shared)(H:Hp)(E:XK):Cx where
 prog:=P
 w:=w
 K:=K
 mg:=mg
 base:=base
 A:=A.deeper (envOfC qual scope s⁻¹ f cd)
 N:=N
 s₀:=s
 H₀:=H
 env:=envOfC qual scope s⁻¹ f cd
 outer:=outer
 stack:=envOfC qual scope s⁻¹ f cd::outer
 ex:=[]
 calm:=true
 fn:=λq=>true
 pn:=[]
 xe:=λe s'=>wpAny (model P w) (A.deeper (envOfC qual scope s⁻¹ f cd)) (leaving (envOfC qual scope s⁻¹ f cd) e) (λq s''=>CX outer H s E e s'') (λe' s''=>CX outer H s E e' s'') s'
def CU{a:Scope}{n:Nat}{x:Str}(h:a.names.lookup x⊂.cell):∃c,(cellsFrom n a.names []).lookup x⊂c:=by
 have q:=PySem.W.cellsFrom_some a.names n [] (.inl h);rwa[Option.isSome_iff_exists.mp q]
def Xo{CX:nP}{P:Program}{w:World}{K:cG}{J:Nw}{m:Heap}{N ps:L8}{j:Str}{d:Scope}{f:Addr}{F:Value}{A:Around}{g:Nr}{s O:Shared}{H:Hp}{E:XK}{us:L9}{vs:N4}
  (S:cn N ps d) (R:A.handled=none) (o:mL P w K J m A g s H) (X:⇑vs=⇑ps) (r:Vals vs us)
  (x:InCallC s s⁻¹ (bindL (envOfC j d s⁻¹ f F).kindOf (ps.zip us) λZ=>none) (cellsFrom (s⁻¹+1) d.names []) (bindC (envOfC j d s⁻¹ f F).kindOf (ps.zip us) λZ=>none) O) :
  Inv (dG CX P w K J m N j d f F A g s H E) [] (start N vs) H O:=by
 have T:⇑ps<=⇑N:=by have:=congrArg List.length S.pre;rw[vi]at this;lia
 let⟨G,Y,rfl,L⟩:=x.done;have B:∀b:Addr,b∉(dG CX P w K J m N j d f F A g s H E).ex:=λb z=>ud (show b∈([]:L7)from z) (by simp)
 refine#[#[o.mod,S.kind,rfl,rfl,vb _,λy z c G l=>?_,λy t=>?_,λy c Z h=>?_,λZ=>R,Around.frames_deeper o.frames,.inr #[rfl,rfl],λb z=>ud z (B b),o.bs,o.ox,λb Z Z=>B b,λb z=>ud z (B b),o.gO,o.pA],
  rfl,o.bare,Un.kept L,#[_,x.toInCall.ns,λi y v G l W=>?_],λy c h=>#[_,x.cell y c h],o.cK.fresh (vb _),λy c h=>?_,λp C=>ud (show p∈([]:Ny)from C) (by simp),o.cK.kept L,?_]
 .exact name_of_addr x.apart (PySem.mem_of_lookup G) (PySem.mem_of_lookup l)
 .have t:d.names.lookup y⊂.cell\/d.names.lookup y⊂.free:=t;rcases t with t | t
  .exact CU t
  .exact ud rfl (S.sk _ (PySem.mem_of_lookup t))
 .exact vY (x.above y c (PySem.mem_of_lookup h))
 .have I:i<⇑vs:=by
   unfold start at l;by_cases I:i<⇑vs
   .exact I
   .rw[vC #v[I]]at l;rw[List.getElem?_replicate]at l;split at l<;>cases l
  have Q:vs[i]?⊂v:=by
   unfold start at l;rw[vB #v[I],vv]at l;cases e:vs[i]? with
   | none=>rw[e]at l;cases l
   | some a=>rw[e]at l;cases l;rfl
  let⟨u,M,U⟩:=r.get Q;have C:ps[i]?⊂y:=by
   rw[<-S.pre,List.getElem?_take_of_lt ⋯];rwa[G]
  have D:ps.Nodup:=by rw[<-S.pre];rwa[S.nd.sublist (take_sublist _ _)]
  erw[u,U,?_];rcases S.par y (vm C)with k | k
  .exact .inl #[k,xY D C M k]
  .let⟨c,e⟩:=CU (n:=s⁻¹+1) k;erw[.inr #[.inl k,c,e,?_]];have q:=x.cell y c e;rw[xV D C M (by show d.names.lookup y≠_;rw[k];decide)]at q;rwa[q]
 .exact o.cK.fresh (vY (x.above y c (PySem.mem_of_lookup h)))
 .unfold start;show _=⇑N
  simp_all
def Ov{CX:nP}{P:Program}{w:World}{K:cG}{G:Nw}{g:Heap}{k:Nat}{f:Addr}{name c:Str}{i:Arguments}{j:List Stmt}{a:Scope}{Z kV B pm d Y oc:Value}{an od:Option Addr}
  {R:Array (Nv)} {N ps:L8} {sp:Sp} (lk:K.lookup f=some #[oc,od,.func (PySem.W.fnOf name c i j a Z kV B pm an d Y),R]) (L:PySem.W.codeIn K d c=true) (S:cn N ps a)
  (len:∀vs H Q E,sp vs H Q E->⇑vs=⇑ps)
  (m:∀(A:Around) (outer:Nr) (s:Shared) (H:Hp) (vs:N4) (Q:VK) (E:XK),dF k (A.deeper (envOfC c a s⁻¹ f d))->sp vs H Q E->
   ∃t,lM (dG CX P w K G g N c a f d A outer s H E) j t/\t {nx:=λ_ H'=>Q .dj H',rt:=Q} (start N vs) H) :
  eB P w K G g CX (k+1) f (PySem.W.fnOf name c i j a Z kV B pm an d Y) ps sp:=by
 erw[len,λA outer s H X us vs Q E M C hb r F=>?_];have hl:=len _ _ _ _ F;have W:K.In s.heap:=C.mod.sf.keeps λb o e=>(C.bs b o e).1
 have O:s.heap.NoLimit:=C.mod.nolimit.keeps λb o e=>(C.bs b o e).1
 have p:∀y∈ps.zip us,a.names.lookup y.1⊂.local\/(a.names.lookup y.1⊂.cell/\((cellsFrom (s⁻¹+1) a.names []).lookup y.1).isSome=true):=λ⟨n,v⟩ hy=>by
  rcases S.par n (of_mem_zip hy).1 with q | q
  .exact .inl q
  .exact .inr #[q,PySem.W.cellsFrom_some _ _ _ (.inl q)]
 erw[codeAny_call_function M.depth (W _ _ lk) rfl S.co S.gen rfl (PySem.W.codeRec_of W L) (hb _ _ _ _ ?_)];erw[wpAny_newFunctionEnv_cells S.kind p λa0 he s1 x=>?_]
 subst he;erw[O.keeps x.toInCall.keep,codeAny_func ?_];let⟨t,ht,hq⟩:=m A outer s H vs Q E (M.deeper _) F;have I:Inv (dG CX P w K G g N c a f d A outer s H E) [] (start N vs) H s1:=Xo S M.hd C hl r x;erw[wpAny_mono (ht [] s1 (start N vs) H _ I hq) (λfl U z=>?_) λe U z=>z]
 have D:∀{l:St} {H':Hp} {v:V} {u:Value},Inv (dG CX P w K G g N c a f d A outer s H E) [] l H' U->RelV v u->Q v H'->CE outer P w H s Q u U:=
  λ{l H' v u} J T q=>#[v,H',J.os,J.bare,J.base,J.cK,T,q]
 cases fl with
 | ret u=>
  let⟨v,l,H',J,T,q⟩:=z;rwa[D J T q]
 | next=>
  let⟨l,H',J,q⟩:=z;rwa[D (v:=V.dj) (u:=Value.none) J rfl q]
 | brk=>
  let⟨_,_,_,q⟩:=z;rwa[False.elim q]
 | cont=>
  let⟨_,_,_,q⟩:=z;rwa[False.elim q]
section
variable{X:Cx}{x:Str}{p pos:Pos}{e:Expr}{es:Nt}{t:TA}{id T:String}{r:N4->Hp->VK->Prop}
def CA(r:N4->Hp->VK->Prop)(t:TA):TE:=λσ H Q=>t σ H λvs H1=>r vs H1 Q
def jD(j:dE X (.builtin id) r)(l:Gl X x)(m:X.mg x=none)(o:bootBuiltins x⊂.builtin id)(i:PA X (e::es) t)(n:x≠"__name__":=by decide)(b:(x==("__debug__" : Str))=false:=by decide)
  (k:starEach (e::es) X.env=(false,eval e X.env)::starEach es X.env:=by rfl) (c:(backTo pos (starEach es X.env)).any (·.1)=false:=by rfl):PE X (.Call (.Name x p) (e::es) [] pos) (CA r t):=by
 intro a s d H Q I h;erw[wpAny_Call_Name_kw (Zs I l m o ?_ n b)];erw[PyProof.Rows.callWith_builtin1 (cM (i pos a s d H _ I h) λw v z_=>?_) k c];let⟨y,f,g,u,q⟩:=z_;rwa[j a v d f y w Q g u q]
def j6(j:dE X (.type T) r)(l:Gl X x)(m:X.mg x=none)(o:bootBuiltins x⊂.type T)(i:PA X (e::es) t)(n:x≠"__name__":=by decide)(b:(x==("__debug__" : Str))=false:=by decide)
  (k:starEach (e::es) X.env=(false,eval e X.env)::starEach es X.env:=by rfl) (c:(backTo pos (starEach es X.env)).any (·.1)=false:=by rfl):PE X (.Call (.Name x p) (e::es) [] pos) (CA r t):=by
 intro a s d H Q I h;erw[wpAny_Call_Name_kw (Zs I l m o ?_ n b)];erw[PyProof.Rows.callWith_type1 (cM (i pos a s d H _ I h) λw v z_=>?_) k c];let⟨y,f,g,u,q⟩:=z_;rwa[j a v d f y w Q g u q]
end
end L2
namespace HT
open PySem PyProof.Rows
section
variable{prog:Program}{w:World}{A:Around}{E:Nz}{s:Shared}
def Lp{t b:Addr}{vs a:L9}{Q:Nz}(z:IsTup s.heap t vs.toArray)(y:IsTup s.heap b a.toArray)(q:vs≠[])
  (v:a=[]->Q (.ref t) s) (x:a≠[]->Q (.ref s⁻¹) {s with heap:=s.heap.push {cls:=.type "tuple",data:=.seq (vs++a).toArray}})
  (hsz:⇑vs+⇑a<=sizeLine):wpAny (model prog w) A (binaryOp .Add (.ref t) (.ref b)) Q E s:=by
 let⟨⟨cls,m,data,u⟩,i,o,n,p⟩:=id z;let⟨⟨l,d,k,h⟩,c,f,r,g⟩:=id y;simp only at o p f g;subst o p f g;have e:vs.toArray++a.toArray=(vs++a).toArray:=by simp
 by_cases j:a=[]
 .exact concat_meets #[_,i,rfl] #[_,c,rfl] noFill_tuple_add seq_tuple_add PySem.F.slot_tuple_add PySem.F.entry_tuple_add (PySem.F.args_tuple_add_2 _ _)
   (tuple_addW1 t b vs.toArray a.toArray n r m d u h #v[q] (by simp[j])) #[i,c,v j]
 .refine concat_meets #[_,i,rfl] #[_,c,rfl] noFill_tuple_add seq_tuple_add PySem.F.slot_tuple_add PySem.F.entry_tuple_add (PySem.F.args_tuple_add_2 _ _)
   (tuple_addW2 t b vs.toArray a.toArray n r m d u h #v[q] #v[j] (by simp_all)) #[i,c,?_]
  rw[e];rwa[x j]
noncomputable def dO(n d:Nat):Option Int->Nat
 | none=>d
 | some v=>if v<0 then(v+(n:Int)).toNat else min v.toNat n
def NH(n d:Nat)(b:d<=n)(o:Nu):dO n d o<=n:=by
 cases o with
 | none=>rwa[b]
 | some v=>
  show(if v<0 then(v+(n:Int)).toNat else min v.toNat n)<=n;by_cases a:v<0
  .rw[vd a];lia
  .rw[vc a];rwa[Nat.min_le_right _ _]
def DO(v:Int)(n d:Nat):(if v<0 then max (v+(n:Int)) 0 else min v (n:Int))=((dO n d (some v):Nat):Int):=by
 show(if v<0 then max (v+(n:Int)) 0 else min v (n:Int))=(((if v<0 then(v+(n:Int)).toNat else min v.toNat n):Nat):Int)
 by_cases a:v<0
 .simp only[if_pos a];lia
 .simp only[if_neg a];lia
def Gx(lo hi:Nu)(n:Nat):Builtin.Slice.sliceAdjust lo hi 1 (n:Int)=(((dO n 0 lo:Nat):Int),((dO n n hi:Nat):Int)):=by
 have a:¬((1:Int)<0):=⋯
 unfold Builtin.Slice.sliceAdjust;simp only[a,if_false];erw[Prod.ext ?_ ?_]
 .cases lo with
  | none=>rfl
  | some v=>rwa[DO v n 0]
 .cases hi with
  | none=>rfl
  | some v=>rwa[DO v n n]
def GC(i j:Nat):Builtin.Slice.slicePlaces (i:Int) (j:Int) 1=j-i:=by
 unfold Builtin.Slice.slicePlaces;have a:(1:Int)>0:=⋯
 simp only[a,if_true,Int.ediv_one];split<;>lia
def iN{Q:Option Int->Shared->Prop}(p:IsPart v o)(h:Q o s):wpAny (model prog w) A (Builtin.Slice.slicePartIndex v) Q E s:=by
 cases p with
 | none=>rwa[slicePart_none h]
 | int i t=>rwa[slicePart_int h]
def wv{e:Addr}{c d:Value}{lo hi:Nu}{n:Nat}{Q:Int×Int×Nat->Shared->Prop}(g:s.heap.IsSliceOf e c d .none)(pl:IsPart c lo)(i:IsPart d hi)
  (h:Q (((dO n 0 lo:Nat):Int),1,dO n n hi-dO n 0 lo) s):wpAny (model prog w) A (Builtin.Slice.sliceApplied (.ref e) (pure (n:Int))) Q E s:=by
 let⟨j,b,f,a⟩:=id g;unfold Builtin.Slice.sliceApplied Builtin.Slice.sliceFields;erw[ug (ug (wpAny_field b a (x:=c) rfl (ug (wpAny_field b a (x:=d) rfl (ug (wpAny_field b a (x:=.none) rfl (uf ?_)))))))];erw[ug (slicePart_none ?_)];show wpAny _ _ (if((1:Int)==0)=true then _ else _) _ _ s;rw[vc nofun];erw[ug (iN pl (ug (iN i (ug (uf ?_)))))];show wpAny _ _ (match Builtin.Slice.sliceAdjust lo hi 1 (n:Int)with | (lo,hi)=>pure (lo,(1:Int),Builtin.Slice.slicePlaces lo hi 1)) _ _ s;rw[Gx lo hi n];show wpAny _ _ (pure (((dO n 0 lo:Nat):Int),(1:Int),Builtin.Slice.slicePlaces ((dO n 0 lo:Nat):Int) ((dO n n hi:Nat):Int) 1)) _ _ s;rw[GC];rwa[uf h]
def IZ(xs:Array Value)(i k:Nat):((List.range k).filterMap λ(m:Nat)=>xs[((i:Int)+(m:Int)*1).toNat]?).toArray=((xs.toList.drop i).take k).toArray:=by
 have e:(λ(m:Nat)=>xs[((i:Int)+(m:Int)*1).toNat]?)=λm=>xs[i+m]?:=by
  funext m;have:((i:Int)+(m:Int)*1).toNat=i+m:=⋯
  rw[this]
 rw[e];have:=pick_run xs i k;rw[List.filterMap_map]at this;have a:(Function.comp (λx=>xs[x]?) λx=>i+x)=λm=>xs[i+m]?:=rfl
 rw[a]at this;rw[this]
def kY{t g:Addr}{items:Array Value}{j k:Value}{lo hi:Nu}{Q:Nz}(b:IsTup s.heap t items)(i:s.heap.IsSliceOf g j k .none)(pl:IsPart j lo)(o:IsPart k hi)
  (hw:¬(dO items.size 0 lo=0/\dO items.size items.size hi=items.size))
  (h:Q (.ref s⁻¹) {s with heap:=s.heap.push {cls:=.type "tuple",data:=.seq ((items.toList.drop (dO items.size 0 lo)).take (dO items.size items.size hi-dO items.size 0 lo)).toArray}})
  (hsz:items.size<=sizeLine):wpAny (model prog w) A (getItem (.ref t) (.ref g)) Q E s:=by
 have a:sizeOk (.seq ((items.toList.drop (dO items.size 0 lo)).take (dO items.size items.size hi-dO items.size 0 lo)).toArray):=by
  show((items.toList.drop (dO items.size 0 lo)).take (dO items.size items.size hi-dO items.size 0 lo)).toArray.size<=sizeLine;rw[size_toArray,vi,List.length_drop,Array.length_toList];lia
 have p:dO items.size items.size hi<=items.size:=NH _ _ (vb _) hi;let⟨n,f,d,l⟩:=id i;have c:s.TypeIs (.ref g) "slice":=#[n,f,d]
 unfold getItem
 try with_reducible erw[wpAny_holding ?_]
 first | refine ug (uf ?_) | skip
 erw[ug (wpAny_sequenceKey b.typeIs nofun ?_)];refine ug (wpAny_callSpecial?_slot (name:=Str.ofString "__getitem__") b.typeIs PyProof.Rows.slot_tuple_getitem
  (wpAny_call_entry PyProof.Rows.slot_tuple_getitem b.typeIs entry_tuple_getitem ?_ (args_tuple_getitem _ _)))
 show wpAny _ _ (Builtin.Tuple.tupleItemsOf (.ref t) >>= _) _ _ s;erw[ug (tupleItemsOf_ b ?_)];erw[ug (wpAny_typeOf c ?_)];rw[vd nofun];erw[ug (wv i pl o ?_)];have e:¬((((dO items.size 0 lo:Nat):Int)==0&&(1:Int)==1&&(dO items.size items.size hi-dO items.size 0 lo)==items.size)=true):=by
  intro q;rw[Bool.and_eq_true,Bool.and_eq_true]at q;have r:((dO items.size 0 lo:Nat):Int)=0:=eq_of_beq q.1.1;have u:dO items.size items.size hi-dO items.size 0 lo=items.size:=eq_of_beq q.2;rwa[hw #[⋯,⋯]]
 show wpAny _ _ (if(((dO items.size 0 lo:Nat):Int)==0&&(1:Int)==1&&(dO items.size items.size hi-dO items.size 0 lo)==items.size)=true then _ else _) _ _ s;rw[vc e,IZ]
 first
  | rwa[ug (m:=Builtin.Tuple.tupleExact _) (wpAny_newObj_type (uf #[_,rfl,uf h]) a)]
  | rwa[ug (m:=Builtin.Tuple.tupleExact _) (wpAny_newObj_type (ug (uf (uf #[_,rfl,uf h]))) a)]
  | rwa[ug (ug (m:=Builtin.Tuple.tupleExact _) (wpAny_newObj_type (uf (uf #[_,rfl,uf h])) a))]
  | rwa[ug (ug (m:=Builtin.Tuple.tupleExact _) (wpAny_newObj_type (uf #[_,rfl,uf h]) a))]
end
end HT
namespace L2
open PySem PySem.Spec PyProof.Rows
noncomputable abbrev TO:=St->Hp->(Option Int->Hp->Prop)->Prop
def PO(X:Cx)(e:Option Expr)(t:TO):Prop:=
 ∀(pins:Ny) (s:Shared) (σ:St) (H:Hp) (Q:Option Int->Hp->Prop),Inv X pins σ H s->t σ H Q->
  wpAny (model X.prog X.w) X.A (evalPart e X.env) (λu s'=>∃o H',Inv X pins σ H' s'/\IsPart u o/\Q o H') X.xe s
def ni:TO:=λq H Q=>Q none H
def rD(t:TE):TO:=λσ H Q=>t σ H λx H1=>∃i,x = .int i/\Q (some i) H1
def intsAre_of:∀{us:L9},Vals (ns.map V.int) us->IntsAre us ns:=by
 induction ns with
 | nil=>intro us r;rw[map_nil]at r;cases r;rwa[.nil]
 | cons n ns ih=>
  intro us r;rw[uz]at r;cases r with
  | cons r1 r2=>
   let⟨t,e⟩:=r1;subst e;rwa[.cons n t (ih r2)]
section
variable{X:Cx}{e:Expr}{te:TE}{lo hi:Option Expr}{tl th:TO}{pos p2:Pos}
def ZU:PO X none ni:=by
 intro a s b H Q I h;rw[evalPart_none];rwa[uf #[none,H,I,.none,h]]
def zn(h:PE X e te):PO X (some e) (rD te):=by
 intro a s j H Q I d;rw[evalPart_some];erw[cM (h a s j H _ I d) λu k z_=>?_];obtain⟨x,b,c,g,f⟩:=z_
 let⟨i,rfl,q⟩:=f;let⟨t,rfl⟩:=g;rwa[some i,b,c,.int i t,q]
def v3(X:Cx)(r:V->Option Int->Option Int->Hp->VK->Prop):Prop:=
 ∀(pins:Ny) (s:Shared) (σ:St) (H:Hp) (x:V) (v vl vu:Value) (lo hi:Nu) (sl:Addr) (Q:VK),Inv X pins σ H s->RelV x v->s.heap.IsSliceOf sl vl vu .none->IsPart vl lo->IsPart vu hi->r x lo hi H Q->
  ∃T id,typeLookup (.type T) "__getitem__"= pure (some (.builtin id))/\s.TypeIs v T/\wpAny (model X.prog X.w) X.A (getItem v (.ref sl)) (EP X pins σ Q) X.xe s
def FE(r:V->Option Int->Option Int->Hp->VK->Prop)(te:TE)(tl th:TO):TE:=λσ H Q=>te σ H λx H1=>tl σ H1 λl H2=>th σ H2 λu H3=>r x l u H3 Q
def zG{r:V->Option Int->Option Int->Hp->VK->Prop}(A:v3 X r)(w:PE X e te)(z:PO X lo tl)(C:PO X hi th):PE X (.Subscript e (.Slice lo hi none p2) pos) (FE r te tl th):=by
 intro a s d H Q I h;erw[Subscript_ (cM (w a s d H _ I h) λv L z_=>?_)];obtain⟨x,j,m,K,F⟩:=z_;erw[wpAny_Slice (cM (z a L d j _ m F) λf M z_=>?_)];let⟨l,k,n,D,G⟩:=z_;erw[cM (C a M d k _ n G) λg c z_=>?_];obtain⟨u,i,o,E,J⟩:=z_;rw[evalPart_none];erw[uf ?_];have p:Inv X a d i {c with heap:=c.heap.push {cls:=.type "slice",data:=.fields [f,g,.none].toArray}}:=o.kept (t':=c.toks) λb O q=>vJ _ q
 let⟨T,N,t,B,y⟩:=A a {c with heap:=c.heap.push {cls:=.type "slice",data:=.fields [f,g,.none].toArray}} d i x v f g l u c⁻¹ Q p K (Heap.IsSliceOf.new ..) D E J;show wpAny (model X.prog X.w) X.A (subscriptTail e (.Slice lo hi none p2) v (.ref c⁻¹)) (EP X a d Q) X.xe {c with heap:=c.heap.push {cls:=.type "slice",data:=.fields [f,g,.none].toArray}};rwa[tail_any (ops:=[.ref c⁻¹,v]) B t y (by with_unfolding_all rfl)]
noncomputable def g4(xs:N4)(lo hi:Nu):N4:=(xs.drop (HT.dO ⇑xs 0 lo)).take (HT.dO ⇑xs ⇑xs hi-HT.dO ⇑xs 0 lo)
def ZQ(xs:N4)(lo hi:Nu):⇑(g4 xs lo hi)<=⇑xs:=by
 unfold g4;rw[vi,List.length_drop];lia
noncomputable def Cz(K:cG):V->Option Int->Option Int->Hp->VK->Prop:=λx lo hi H Q=>∃a xs,x = .ref a/\cL K H a xs/\
 ¬(HT.dO ⇑xs 0 lo=0/\HT.dO ⇑xs ⇑xs hi=⇑xs)/\∀p,H p=none->Q (.ref p) (upd H p (.tup (g4 xs lo hi)))
def Fe:v3 X (Cz X.K):=by
 intro k s B H x v z A e f y Q I u l p t h;let⟨a,d,rfl,n,m,q⟩:=h;cases u;let⟨g,r,i,j⟩:=I.tuple n;have c:g.toArray.size=⇑d:=by rw[size_toArray];rwa[r.length.symm]
 erw["tuple",_,PyProof.Rows.slot_tuple_getitem.lookup,i.typeIs,?_];erw[HT.kY i l p t (by rw[c];rwa[m]) ?_ (by rw[c];rwa[j])];rw[c];erw[.ref s⁻¹,_,I.laid (t':=s.toks) (o:=.tup (g4 d e f)) (λb w q=>vJ _ q) (vb _) ?_,rfl,q _ (I.cK.fresh (vb _))];rwa[vW (ZQ d e f) j,_,(r.drop (HT.dO ⇑d 0 e)).take (HT.dO ⇑d ⇑d f-HT.dO ⇑d 0 e),IsTup.new _ _]
def uC(K:cG):R2:=λx y H Q=>∃a b xs ys,x = .ref a/\y = .ref b/\cL K H a xs/\cL K H b ys/\xs≠[]/\⇑xs+⇑ys<=sizeLine/\
 (ys=[]->Q (.ref a) H)/\(ys≠[]->∀p,H p=none->Q (.ref p) (upd H p (.tup (xs++ys))))
def Vals.lQ{xs:N4}{us:L9}(r:Vals xs us):us=[]↔xs=[]:=by
 cases r with
 | nil=>simp
 | cons _ _=>simp
def MP:gr X (binaryOp .Add) (uC X.K):=by
 intro f s E H x y v u Q I t A h;let⟨a,b,B,C,rfl,rfl,g,i,j,k,p,r⟩:=h;cases t;cases A;let⟨l,d,m,Z⟩:=I.tuple g;let⟨e,c,n,Z⟩:=I.tuple i;erw[HT.Lp m n (λz=>j (d.lQ.mp z)) (λz=>#[.ref a,H,I,rfl,p (c.lQ.mp z)]) (λz=>?_) (by rw[<-⇑d,<-⇑c];rwa[k])];erw[.ref s⁻¹,_,I.laid (t':=s.toks) (o:=.tup (B++C)) (λb D q=>vJ _ q) (vb _) ?_,rfl,r (λw=>z (c.lQ.mpr w)) _ (I.cK.fresh (vb _))];rwa[by simp_all,_,d.append c,IsTup.new _ _]
end
noncomputable def my(n:Nat)(i:Int):Option Nat:=if 0<=i then(if i<n then some i.toNat else none)else if -(n:Int)<=i then some (i+n).toNat else none
noncomputable def fi{α:Type}(xs:List α)(i:Int):Option α:=(my ⇑xs i).bind λj=>xs[j]?
def Ed(h:my n i⊂j):seqIndex? i n⊂j/\j<n/\-(n:Int)<=i/\i<n:=by
 unfold my at h;by_cases b:0<=i
 .rw[vd b]at h;by_cases a:i<n
  .rw[vd a]at h;have e:i.toNat=j:=vL h;rwa[by rw[seqIndex_of b a,e],⋯,⋯,a]
  .rw[vc a]at h;cases h
 .rw[vc b]at h;by_cases a : -(n:Int)<=i
  .rw[vd a]at h;have e:(i+n).toNat=j:=vL h;rwa[by rw[seqIndex_neg ⋯ a,e],⋯,a,⋯]
  .rw[vc a]at h;cases h
def XV{a:Type}{xs:List a}{i:Int}{v:a}(h:fi xs i⊂v):∃j,seqIndex? i ⇑xs⊂j/\xs[j]?⊂v/\j<⇑xs/\-(⇑xs:Int)<=i/\i<⇑xs:=by
 unfold fi at h;cases e:my ⇑xs i with
 | none=>rw[e]at h;cases h
 | some j=>
  rw[e]at h;let⟨b,c,d,f⟩:=Ed e;rwa[j,b,h,c,d,f]
def jV{a:Type}{xs:List a}{j:Nat}{v:a}(h:xs[j]?⊂v):fi xs (j:Int)⊂v:=by
 have b:j<⇑xs:=(vx.mp h).1;have e:my ⇑xs (j:Int)⊂j:=by
  unfold my
  simp_all
 unfold fi;rw[e];rwa[h]
def CO{a:Type}(xs:List a)(v:a):fi (xs++[v]) (-1)⊂v:=by
 have b:⇑(xs++[v])=⇑xs+1:=by simp
 have e:my ⇑(xs++[v]) (-1)=some ⇑xs:=by
  unfold my;rw[b,vc nofun,vd ⋯];congr 1;lia
 unfold fi
 simp_all
def pk(b:Expr):Prop:=∀o i,subscripted b false o i=operate [o,i] (getItem o i)
def rP(X:Cx)(r:R2):Prop:=
 ∀(value slice:Expr) (pins:Ny) (s:Shared) (σ:St) (H:Hp) (x y:V) (v u:Value) (Q:VK),Inv X pins σ H s->RelV x v->RelV y u->r x y H Q->
  subscripted slice false v u=operate [v,u] (getItem v u)->wpAny (model X.prog X.w) X.A (subscriptTail value slice v u) (EP X pins σ Q) X.xe s
def tD(X:Cx)(id:String)(r:V->N4->Hp->VK->Prop):Prop:=
 ∀(pins:Ny) (s:Shared) (σ:St) (H:Hp) (x:V) (xs:N4) (v:Value) (us:L9) (Q:VK),Inv X pins σ H s->RelV x v->Vals xs us->r x xs H Q->
  wpAny (model X.prog X.w) X.A (call (.builtin id) (v::us)) (EP X pins σ Q) X.xe s
section
variable{X:Cx}{a b:Expr}{ta tb:TE}{pos:Pos}
def ji(i:rP X r)(f:PE X a ta)(g:PE X b tb)(j:pk b:=by rwa[λZ Z=>rfl]):PE X (.Subscript a b pos) (uU r ta tb):=by
 intro c s n H Q I h;rwa[Subscript_ (rZ f g I h λv u m x y d e k l q=>i a b c m n d x y v u Q e k l q (j _ _))]
def oI(K:cG):R2:=λx y H Q=>∃p xs i v,x = .ref p/\y = .int i/\cm K H p xs/\fi xs i⊂v/\Q v H
def pM(K:cG):R2:=λx y H Q=>∃p xs i v,x = .ref p/\y = .int i/\cL K H p xs/\fi xs i⊂v/\Q v H
def Cu:R2:=λx y H Q=>∃z i c,x = .str z/\y = .int i/\⇑z<=sizeLine/\fi z.cps.toList i⊂c/\Q (.str ⟨#[c]⟩) H
def jv:rP X (oI X.K):=by
 intro l k a s A H x y v u Q I J K h o;let⟨p,P,i,z,rfl,rfl,G,E,q⟩:=h;cases J;let⟨t,rfl⟩:=K;let⟨e,r,f,O⟩:=I.list G;let⟨j,c,B,M,C,D⟩:=XV E;let⟨w,m,g⟩:=r.get B;have F:=⇑r;have N:=g7;have b:EP X a A Q w s:=#[z,H,I,g,q]
 by_cases n:0<=i
 .have d:i.toNat=j:=by
   rw[seqIndex_of n D]at c;rwa[vL c]
  rwa[item_listR f.isList n ⋯ (by rw[d];simpa using m) b o]
 .have d:(i+(e.toArray.size:Int)).toNat=j:=by
   rw[seqIndex_neg ⋯ C]at c;rw[size_toArray,<-F];rwa[vL c]
  exact subscriptTail_builtinR (x:=w) f.isList.typeIs slot_list_getitem.lookup
   (wpAny_getItem_list_neg (Q:=λr L=>r=w/\EP X a A Q r L) f.isList ⋯ (by rw[size_toArray]<;>lia) ⋯ (by rw[d];simpa using m) #[rfl,b]) o
def jp:rP X (pM X.K):=by
 intro e d a s g H x y v u Q I B C h o;let⟨p,N,i,z,rfl,rfl,n,m,q⟩:=h;cases B;let⟨t,rfl⟩:=C;let⟨A,r,f,M⟩:=I.tuple n;let⟨j,E,l,F,G,J⟩:=XV m;let⟨w,k,c⟩:=r.get l;have K:=⇑r;have L:=g7;have b:EP X a g Q w s:=#[z,H,I,c,q]
 exact subscriptTail_builtinR (x:=w) f.typeIs slot_tuple_getitem.lookup
  (getItem_tuple (j:=j) (Q:=λr D=>r=w/\EP X a g Q r D) f ⋯ ⋯ (by simp_all) #v[k] #[rfl,b]) o
def Ah:rP X Cu:=by
 intro b a e s E H x y v u Q I r w h p;let⟨z,i,c,rfl,rfl,C,n,q⟩:=h;let⟨t,rfl⟩:=r;let⟨D,rfl⟩:=w;let⟨j,d,k,A,l,m⟩:=XV n;have o:⇑z.cps.toList=⇑z:=by simp[Str.length]
 rw[o]at d l m;have B:=g7;exact tail_any (typeIs_str s z t) slot_str_getitem.lookup (getItem_str (c:=c) (by
  have f:decide (i < -(2^63:Int))=false:=vH ⋯;have g:decide (i>=2^63)=false:=vH ⋯;rw[f,g,Bool.or_false]) (by rw[d];simpa using k) #[.str ⟨#[c]⟩,H,I.tok _,#[_,rfl],q]) p
def GP(a:L9)(n j:Nat)(u:Value):Obj.mapSeq (·.setIfInBounds j u) {cls:=.type "list",data:=.seq a.toArray n}={cls:=.type "list",data:=.seq (a.set j u).toArray n}:=by
 simp[Obj.mapSeq]
def Inv.lst{b:St}{H:Hp}(I:Inv X pins b H s)(h:H p⊂.lst xs) :
  ∃(a:L9) (n:Nat),Vals xs a/\s.heap.get? p=some {cls:=.type "list",data:=.seq a.toArray n}/\⇑xs<=sizeLine:=by
 let⟨z,a,n,r,e⟩:=I.cK p _ h;rwa[a,n,r,e,z]
def Inv.sj{a:Ny}{i:St}{H:Hp}{s:Shared}{p:Addr}{xs ys:N4}{c its':L9}{n d:Nat}{f:Obj->Obj}(I:Inv X a i H s)(h:H p⊂.lst xs)
  (k:s.heap.get? p=some {cls:=.type "list",data:=.seq c.toArray n}) (g:f {cls:=.type "list",data:=.seq c.toArray n}={cls:=.type "list",data:=.seq its'.toArray d}) (r:Vals ys its') (hz:⇑ys<=sizeLine) (t:Nat) :
  Inv X a i (upd H p (.lst ys)) {s with heap:=s.heap.update p f,toks:=t}:=by
 have e:(s.heap.update p f).get? p=some {cls:=.type "list",data:=.seq its'.toArray d}:=by
  rw[Heap.get?_update_self f k (by rw[g]<;>rfl),g]
 erw[I.write (x:=p) (e:=p) (by rw[h];trivial) (.inl rfl) (λb u j q=>(Heap.get?_update_other _ _ (Ne.symm j)).trans q) #[_,e] ?_];rwa[hz,its',d,r,e]
noncomputable def uE:V->V->V->Hp->(Hp->Prop)->Prop:=λo i v H Q=>∃p xs k j,o = .ref p/\i = .int k/\H p⊂.lst xs/\my ⇑xs k⊂j/\Q (upd H p (.lst (xs.set j v)))
def set_list:rV X uE:=by
 intro b s E H o i v ov J u Q I B A C h;let⟨p,D,k,j,rfl,rfl,l,x,q⟩:=h;cases B;let⟨t,rfl⟩:=A;let⟨a,n,r,e,z⟩:=I.lst l;let⟨c,F,m,w⟩:=Ed x;have y:=⇑r;have G:=g7;have f:Inv X b E (upd H p (.lst (D.set j v))) {s with heap:=s.heap.update p (Obj.mapSeq (·.setIfInBounds j u))}:=
  I.sj l e (GP a n j u) (r.set C j) (by rw[length_set];rwa[z]) s.toks
 by_cases g:0<=k
 .have d:k.toNat=j:=by
   rw[seqIndex_of g w]at c;rwa[vL c]
  rwa[PySem.W.ki_setAt e g ⋯ (by simp_all) (by rw[d];rwa[_,f,q])]
 .have d:(k+(a.toArray.size:Int)).toNat=j:=by
   rw[seqIndex_neg ⋯ m]at c;rw[size_toArray,<-y];rwa[vL c]
  rwa[PySem.W.ki_setBack e ⋯ (by simp_all) ⋯ (by rw[d];rwa[_,f,q])]
def FQ(lo hi:Nu)(n:Nat):(sliceBounds lo hi none n).1=((HT.dO n 0 lo:Nat):Int)/\(sliceBounds lo hi none n).2.1=((HT.dO n n hi:Nat):Int)/\(sliceBounds lo hi none n).2.2=1:=by
 erw[?_,?_,rfl]
 .cases lo with
  | none=>simp[sliceBounds,HT.dO]
  | some i=>
   simp only[sliceBounds,HT.dO,Option.getD_none,show(1:Int)>0 by decide,if_true];by_cases h:i<0
   .simp only[h,if_true]<;>lia
   .simp only[h,if_false]<;>lia
 .cases hi with
  | none=>simp[sliceBounds,HT.dO]
  | some i=>
   simp only[sliceBounds,HT.dO,Option.getD_none,show(1:Int)>0 by decide,if_true];by_cases h:i<0
   .simp only[h,if_true]<;>lia
   .simp only[h,if_false]<;>lia
def xL(a:L9)(lo hi:Nu):slicePick a.toArray lo hi none=((a.drop (HT.dO ⇑a 0 lo)).take (HT.dO ⇑a ⇑a hi-HT.dO ⇑a 0 lo)).toArray:=by
 let⟨b,c,d⟩:=FQ lo hi a.toArray.size;unfold slicePick;rw[b,c,d];simp only[sliceRange_one,pick_run,size_toArray]<;>rfl
noncomputable def Cy(K:cG):V->Option Int->Option Int->Hp->VK->Prop:=λx lo hi H Q=>∃a xs,x = .ref a/\cm K H a xs/\∀p,H p=none->Q (.ref p) (upd H p (.lst (g4 xs lo hi)))
def Wt:v3 X (Cy X.K):=by
 intro i s A H x v y z e f w Q I t j n p h;let⟨a,c,rfl,k,q⟩:=h;cases t;let⟨m,r,g,l⟩:=I.list k;have d:=⇑r;erw["list",_,slot_list_getitem.lookup,g.isList.typeIs,?_];erw[wpAny_getItem_list_slice g.isList j n p .none (by simp) ?_ (by simp_all)];rw[xL,<-d];erw[.ref s⁻¹,_,I.laid (t':=s.toks) (o:=.lst (g4 c e f)) (λb u q=>vJ _ q) (vb _) ?_,rfl,q _ (I.cK.fresh (vb _))];rwa[vW (ZQ c e f) l,_,0,(r.drop (HT.dO ⇑c 0 e)).take (HT.dO ⇑c ⇑c f-HT.dO ⇑c 0 e),Heap.get?_push_size _ rfl]
noncomputable def fj:V->Bool
 | .dj=>true
 | .bl _=>true
 | .int _=>true
 | .str _=>true
 | _=>false
noncomputable def mZ:V->V->Bool
 | .dj,.dj=>true
 | .bl a,.bl b=>a==b
 | .bl a,.int b=>(if a then 1 else 0)==b
 | .int a,.bl b=>a==(if b then 1 else 0)
 | .int a,.int b=>a==b
 | .str a,.str b=>a==b
 | _,_=>false
def NZ(f:RelV y u)(c:RelV x v)(g:fj y=true)(e:fj x=true):SeqAt.EqAt A s u v (mZ y x):=by
 cases y with
 | dj=>
  cases f;cases x with
  | dj=>cases c;rwa[SeqAt.EqAt.same _]
  | bl b=>cases c;rwa[SeqAt.EqAt.none_bool b]
  | int b=>let⟨t,rfl⟩:=c;rwa[SeqAt.EqAt.none_int b t]
  | str b=>let⟨t,rfl⟩:=c;rwa[SeqAt.EqAt.none_str b t]
  | _=>rwa[ud (show false=true from e) vF]
 | bl a=>
  cases f;cases x with
  | dj=>cases c;rwa[SeqAt.EqAt.bool_none a]
  | bl b=>cases c;rwa[SeqAt.EqAt.bool_bool a b]
  | int b=>let⟨t,rfl⟩:=c;rwa[SeqAt.EqAt.bool_int a b t]
  | str b=>let⟨t,rfl⟩:=c;rwa[SeqAt.EqAt.bool_str a b t]
  | _=>rwa[ud (show false=true from e) vF]
 | int a=>
  let⟨d,rfl⟩:=f;cases x with
  | dj=>cases c;rwa[SeqAt.EqAt.int_none a d]
  | bl b=>cases c;rwa[SeqAt.EqAt.int_bool a d b]
  | int b=>let⟨t,rfl⟩:=c;rwa[SeqAt.EqAt.int_int a d b t]
  | str b=>let⟨t,rfl⟩:=c;rwa[SeqAt.EqAt.int_str a d b t]
  | _=>rwa[ud (show false=true from e) vF]
 | str a=>
  let⟨d,rfl⟩:=f;cases x with
  | dj=>cases c;rwa[SeqAt.EqAt.str_none a d]
  | bl b=>cases c;rwa[SeqAt.EqAt.str_bool a d b]
  | int b=>let⟨t,rfl⟩:=c;rwa[SeqAt.EqAt.str_int a d b t]
  | str b=>let⟨t,rfl⟩:=c;rwa[SeqAt.EqAt.str_str a d b t]
  | _=>rwa[ud (show false=true from e) vF]
 | _=>rwa[ud (show false=true from g) vF]
noncomputable def mG(x:V)(u:Value):Bool:=match u with
 | .none=>mZ .dj x
 | .bool b=>mZ (.bl b) x
 | .int i _=>mZ (.int i) x
 | .str z _=>mZ (.str z) x
 | _=>false
def Af(r:RelV y u)(f:fj y=true):mG x u=mZ y x:=by
 cases y with
 | dj=>cases r;rfl
 | bl b=>cases r;rfl
 | int i=>let⟨t,rfl⟩:=r;rfl
 | str z=>let⟨t,rfl⟩:=r;rfl
 | _=>rwa[ud (show false=true from f) vF]
theorem kJ:∀{xs:N4} {us:L9},Vals xs us->xs.all fj=true->us.any (mG x)=xs.any λy=>mZ y x
 | _,_,.nil,_=>rfl
 | y::xs,u::us,.cons r t,f=>by
  rw[all_cons,Bool.and_eq_true]at f;rw[any_cons,any_cons,Af r f.1,kJ t f.2]
theorem yq(c:RelV x v)(b:fj x=true):∀{xs:N4} {us:L9},Vals xs us->xs.all fj=true->∀u∈us,SeqAt.EqAt A s u v (mG x u)
 | _,_,.nil,_=>λu a=>by cases a
 | y::xs,u::us,.cons r t,f=>λd a=>by
  rw[all_cons,Bool.and_eq_true]at f;rcases mem_cons.mp a with rfl | a
  .rw[Af r f.1];rwa[NZ r c f.1 b]
  .exact yq c b t f.2 d a
noncomputable def oC(x:V)(xs:N4):Bool:=xs.any λy=>mZ y x
def Ct(K:cG)(neg:Bool):R2:=λx y H Q=>∃p xs,y = .ref p/\(cm K H p xs\/cL K H p xs)/\fj x=true/\xs.all fj=true/\Q (.bl (if neg then !oC x xs else oC x xs)) H
def wc:gr X (compareOp .In) (Ct X.K false):=by
 intro g s m H x y v u Q I i k h;let⟨p,l,rfl,b,f,c,q⟩:=h;cases k;rcases b with b | b
 .let⟨a,r,e,j⟩:=I.list b;erw[SeqAt.in_listAt (mG x) e.isList (λw d=>yq i f r c w #v[d]) #[.bl _,H,I,rfl,?_]];rw[show a.toArray.any (mG x)=a.any (mG x) by simp,kJ r c];rwa[q]
 .let⟨a,r,e,j⟩:=I.tuple b;erw[SeqAt.in_tupleAt (mG x) e (λw d=>yq i f r c w #v[d]) #[.bl _,H,I,rfl,?_]];rw[show a.toArray.any (mG x)=a.any (mG x) by simp,kJ r c];rwa[q]
def Gg:gr X (compareOp .NotIn) (Ct X.K true):=by
 intro g s m H x y v u Q I i k h;let⟨p,l,rfl,b,f,c,q⟩:=h;cases k;rcases b with b | b
 .let⟨a,r,e,j⟩:=I.list b;erw[SeqAt.notIn_listAt (mG x) e.isList (λw d=>yq i f r c w #v[d]) #[.bl _,H,I,rfl,?_]];rw[show a.toArray.any (mG x)=a.any (mG x) by simp,kJ r c];rwa[q]
 .let⟨a,r,e,j⟩:=I.tuple b;erw[SeqAt.notIn_tupleAt (mG x) e (λw d=>yq i f r c w #v[d]) #[.bl _,H,I,rfl,?_]];rw[show a.toArray.any (mG x)=a.any (mG x) by simp,kJ r c];rwa[q]
def Ql:dE X (.type "list") (λxs H Q=>∃p ys,xs=[.ref p]/\(cm X.K H p ys\/cL X.K H p ys)/\∀l,H l=none->Q (.ref l) (upd H l (.lst ys))):=by
 intro t s B H xs C Q I r h;let⟨p,ys,rfl,j,q⟩:=h;let⟨u,rfl,A⟩:=vals1 r;cases A;have g:∀(a:L9),Vals ys a->⇑ys<=sizeLine->∀(c:Heap) (d:Nat),(∀b z,s.heap.get? b⊂z->c.get? b⊂z)->
   c.get? s⁻¹=some {cls:=.type "list",dict:=none,data:=.seq a.toArray d,slots:=#[]}->EP X t B Q (.ref s⁻¹) {s with heap:=c}:=λa f k c d m e=>
  #[.ref s⁻¹,_,I.laid (t':=s.toks) m (vb _) (show cD X.prog X.w _ c _ (.lst ys)from#[k,a,d,f,e]),rfl,q _ (I.cK.fresh (vb _))]
 rcases j with j | j
 .let⟨a,f,y,k⟩:=I.list j;have i:=⇑f;let⟨o,x,v,n,w⟩:=y.isList;rwa[call_list_seq p (.inl rfl) x v w (λc d m e=>g a f k c d m e) (by simp_all)]
 .let⟨a,f,y,k⟩:=I.tuple j;have i:=⇑f;let⟨o,x,v,n,w⟩:=y;rwa[call_list_seq p (.inr rfl) x v w (λc d m e=>g a f k c d m e) (by simp_all)]
def JW:dE X (.type "tuple") (λxs H Q=>∃p ys,xs=[.ref p]/\((cm X.K H p ys/\∀l,H l=none->Q (.ref l) (upd H l (.tup ys)))\/(cL X.K H p ys/\Q (.ref p) H))):=by
 intro a s n H xs x Q I r h;let⟨p,ys,rfl,h⟩:=h;let⟨u,rfl,w⟩:=vals1 r;cases w;rcases h with⟨f,q⟩ | ⟨f,q⟩
 .let⟨c,i,g,m⟩:=I.list f;have k:=⇑i;erw[call_tuple_list g.isList (λd v=>?_) (by simp_all)];have j:Inv X a n H {s with heap:=d}:=I.kept (t':=s.toks) v;have t:Inv X a n (upd H d.objs.size (.tup ys)) {s with heap:=d.push {cls:=.type "tuple",data:=.seq c.toArray}}:=
   j.laid (t':=s.toks) (λb o e=>vJ _ e) (vb _) (show cD X.prog X.w _ _ _ (.tup ys)from#[m,c,i,IsTup.new _ _])
  rwa[.ref d.objs.size,_,t,rfl,q _ (j.cK.fresh (vb _))]
 .let⟨c,i,g,m⟩:=I.tuple f;rwa[call_tuple_same g #[.ref p,H,I,rfl,q]]
def vk(K:cG)(T:String)(x:V)(H:Hp):Prop:=match x with
 | .str _=>T = "str"
 | .int _=>T = "int"
 | .ref p=>(T = "list"/\∃xs,cm K H p xs)\/(T = "tuple"/\∃o,K.lookup p⊂o/\o.cls = .type "tuple"/\o.dict=none)\/
   (T = "dict"/\((∃kvs,H p⊂.dK kvs)\/∃kvs,H p⊂.dT kvs))\/(T = "set"/\∃S n,H p⊂.set S n)
 | _=>False
def E9{w:St}{H:Hp}(I:Inv X pins w H s)(r:RelV x v)(f:vk X.K T x H) :
  s.TypeIs v T/\∀a,v = .ref a->∃k,s.heap.get? a⊂k/\k.dict=none:=by
 cases x with
 | str z=>
  let⟨t,rfl⟩:=r;cases(show T = "str" from f);rwa[typeIs_str s z t,λZ e=>nomatch e]
 | int i=>
  let⟨t,rfl⟩:=r;cases(show T = "int" from f);rwa[typeIs_int s i t,λZ e=>nomatch e]
 | ref p=>
  cases r;rcases f with⟨rfl,y,q⟩ | ⟨rfl,o,b,m,h⟩ | ⟨rfl,b⟩ | ⟨rfl,S,n,b⟩
  .let⟨u,_,l,_⟩:=I.list q;erw[l.isList.typeIs,λa e=>?_];cases e;let⟨o,n,e,c,h,Z⟩:=l;rwa[o,e,h]
  .refine#[#[o,I.jk p o b,m],λa e=>?_];cases e;rwa[o,I.jk _ o b,h]
  .have z:∃o,s.heap.get? p⊂o/\o.ExactDict:=by
    rcases b with⟨j,b⟩ | ⟨j,b⟩
    .let⟨_,_,_,_,o,_,_,e,d,_⟩:=I.cK p _ b;rwa[o,e,d]
    .let⟨_,_,_,_,o,_,_,e,d,_⟩:=I.cK p _ b;rwa[o,e,d]
   let⟨o,e,d⟩:=z;erw[#[o,e,d.1],λa g=>?_];cases g;rwa[o,e,d.2.1]
  .let⟨o,_,_,_,e,d,_⟩:=I.cK p _ b;erw[#[o,e,d.1],λa g=>?_];cases g;rwa[o,e,d.2.1]
 | _=>rwa[False.elim f]
def uM(K:cG)(T:String)(r:V->N4->Hp->VK->Prop)(to:TE):TE:=λσ H Q=>to σ H λx H1=>vk K T x H1/\r x [] H1 Q
def Fz(K:cG)(T:String)(r:V->N4->Hp->VK->Prop)(to:TE)(t:TA):TE:=λσ H Q=>to σ H λx H1=>vk K T x H1/\t σ H1 λxs H2=>r x xs H2 Q
variable{o e:Expr}{es:Nt}{to:TE}{t:TA}{name:Str}{apos cpos:Pos}{T id:String}{r:V->N4->Hp->VK->Prop}
def Am(p:PlainAttrs T)(d:Slot T name id)(e:typeOf (.builtin id)=pure (.type "method_descriptor"))(m:tD X id r)(n:PE X o to)
  (b:attributeBase o name X.env (eval o X.env)=eval o X.env:=by rfl) (c:(apos.endLine==cpos.line)=true:=by rfl):PE X (.Call (.Attribute o name apos) [] [] cpos) (uM X.K T r to):=by
 intro a s i H Q I h;erw[wpAny_Call_method0_late b c (cM (n a s i H _ I h) λv t z_=>?_)];obtain⟨x,j,f,g,u,q⟩:=z_;let⟨k,l⟩:=E9 f g u;rwa[T,id,p,d,e,k,l,Calls.callWith_builtin rfl (PySem.evalArgs_none (m a t i j x [] v [] Q f g .nil q))]
def J2(C:PlainAttrs T)(g:Slot T name id)(i:typeOf (.builtin id)=pure (.type "method_descriptor"))(z:tD X id r)(A:PE X o to)(y:PA X (e::es) t)
  (c:attributeBase o name X.env (eval o X.env)=eval o X.env:=by rfl)
  (f:((backTo cpos (starEach (e::es) X.env)).all (λx=>!x.1)&&(backToKw cpos (keywordEach [] X.env)).all (λx=>x.1.isSome)
   && decide (⇑(e::es)+⇑([]:List Keyword)+(if([]:List Keyword).isEmpty then 0 else 1)<30))=true:=by rfl)
  (d:(apos.endLine==cpos.line)=true:=by rfl) (B:starEach (e::es) X.env=(false,eval e X.env)::starEach es X.env:=by rfl) (b:(backTo cpos (starEach es X.env)).any (·.1)=false:=by rfl) :
  PE X (.Call (.Attribute o name apos) (e::es) [] cpos) (Fz X.K T r to t):=by
 intro a s j H Q I h;erw[wpAny_Call_method_late c f d rfl (cM (A a s j H _ I h) λv G z_=>?_)];obtain⟨x,n,k,m,K,D⟩:=z_;let⟨u,w⟩:=E9 k m K;erw[T,id,C,g,i,u,w,?_];have l:=y cpos a G j n _ k D;rw[B]at l|-;erw[Calls.callWith_builtin (by show(false||(backTo cpos (starEach es X.env)).any (·.1))=false;rw[b]<;>rfl) (Calls.evalArgs_plain ?_)];erw[cM l λL J z_=>?_];let⟨M,p,q,F,E⟩:=z_;rwa[z a J j p x M v L Q q m F E]
end
def vR(X:Cx)(id:String)(r:V->N4->Hp->VK->Prop):Prop:=
 ∀(pins:Ny) (s:Shared) (σ:St) (H:Hp) (x:V) (xs:N4) (v:Value) (us:L9) (Q:VK),Inv X pins σ H s->RelV x v->Vals xs us->r x xs H Q->
  wpAny (model X.prog X.w) X.A (call (.builtin id) (v::us)) (EP X pins σ Q) X.xe s
def Vals.one:∀{x:V} {us:L9},Vals [x] us->∃u,us=[u]/\RelV x u:=by
 intro x us h;cases h with
 | cons r t=>
  cases t;rwa[_,rfl,r]
def Vals.zero:∀{us:L9},Vals [] us->us=[]
 | _,.nil=>rfl
def Vals.dropLast{xs:N4}{us:L9}(h:Vals xs us):Vals xs.dropLast us.dropLast:=by
 induction h with
 | nil=>rwa[.nil]
 | cons r t ih=>
  cases t with
  | nil=>rwa[.nil]
  | cons q t'=>rwa[.cons r ih]
theorem Vals.rep(h:Vals xs us):∀k:Nat,Vals (List.replicate k xs).flatten (List.replicate k us).flatten
 | 0=>.nil
 | k+1=>by
  rw[replicate_succ,replicate_succ,flatten_cons,flatten_cons];rwa[Vals.append h (Vals.rep h k)]
def O5{a:Type}(l:List a):l.eraseIdx (⇑l-1)=l.dropLast:=by
 simp_all
theorem Xn(a:L9):∀(k:Nat) (acc:L9),
  List.foldl (λc d=>c++d) acc.toArray (List.replicate k a.toArray)=(acc++(List.replicate k a).flatten).toArray
 | 0,acc=>by simp
 | k+1,acc=>by
  have e:acc.toArray++a.toArray=(acc++a).toArray:=by simp
  have b:(acc++a)++(List.replicate k a).flatten=acc++(List.replicate (k+1) a).flatten:=by
   rw[replicate_succ,flatten_cons,List.append_assoc]
  rw[<-b,<-Xn a k (acc++a),<-e,replicate_succ,v8]
section
variable{X:Cx}{pins:Ny}{σ:St}{H:Hp}{s:Shared}{l b:Addr}{xs ys zs:N4}
def Inv.pC{a its':L9}{n:Nat}{f:Array Value->Array Value}{t':Nat}(I:Inv X pins σ H s)(b:H l⊂.lst xs)
  (e:s.heap.get? l=some {cls:=.type "list",data:=.seq a.toArray n}) (d:f a.toArray=its'.toArray) (h:Vals ys its') (hz:⇑ys<=sizeLine) :
  Inv X pins σ (upd H l (.lst ys)) {s with heap:=s.heap.update l (Obj.mapSeq f),toks:=t'}:=by
 have q:=PySem.IsL.update e f;rw[d]at q;erw[I.write (x:=l) (e:=l) (by rw[b];rwa[trivial]) (.inl rfl) (λi u c g=>(Heap.get?_update_other s.heap (Obj.mapSeq f) (Ne.symm c)).trans g) #[_,q] ?_];rwa[hz,its',_,h,q]
def Inv.uk(I:Inv X pins σ H s)(a:Vals ys its)(hz:⇑ys<=sizeLine) :
  Inv X pins σ (upd H s⁻¹ (.lst ys)) {s with heap:=s.heap.push {cls:=.type "list",data:=.seq its.toArray},toks:=t'}:=
 I.laid (λj j q=>vJ _ q) (vb _) #[hz,its,0,a,Heap.get?_push_size _ rfl]
def Inv.fresh(I:Inv X pins σ H s):H s⁻¹=none:=I.cK.fresh (vb _)
def Inv.j1(I:Inv X pins σ H s)(b:H l⊂.lst xs):⇑xs<=sizeLine/\∃(a:L9) (n:Nat),Vals xs a/\⇑xs=⇑a/\s.heap.get? l=some {cls:=.type "list",data:=.seq a.toArray n}:=by
 let⟨z,a,n,r,e⟩:=I.cK l _ b;rwa[z,a,n,r,⇑r,e]
def mz(h:n<=sizeLine):Builtin.List.listTooLong n=false:=by
 unfold Builtin.List.listTooLong;rwa[vH ⋯]
end
section
variable{X:Cx}
noncomputable def pJ:V->N4->Hp->VK->Prop:=λx vs H Q=>∃l xs y,x = .ref l/\vs=[y]/\H l⊂.lst xs/\⇑xs<sizeLine/\Q .dj (upd H l (.lst (xs++[y])))
def jM:vR X "list.append" pJ:=by
 intro c s p H x m v k Q I g f h;let⟨l,o,y,rfl,rfl,b,j,q⟩:=h;cases g;let⟨u,rfl,d⟩:=f.one;let⟨z,a,n,r,i,e⟩:=I.j1 b;erw[call_meets F.slot_list_append #[_,e,rfl] F.entry_list_append (F.args_list_append_2 _ _) (PySem.list_append l a.toArray n u (by rw[size_toArray];lia)) #[e,?_]];erw[.dj,_,I.pC (its':=a++[u]) b e (by simp) (r.append (.cons d .nil)) ?_,rfl,q];rw[vn,vS];lia
noncomputable def pK:V->N4->Hp->VK->Prop:=λx vs H Q=>∃l b xs zs,x = .ref l/\vs=[.ref b]/\H l⊂.lst xs/\H b⊂.lst zs/\⇑xs+⇑zs<=sizeLine/\Q .dj (upd H l (.lst (xs++zs)))
def HJ:vR X "list.extend" pK:=by
 intro i s J H x C v B Q I w t h;let⟨l,b,D,G,rfl,rfl,g,hB,A,q⟩:=h;cases w;let⟨u,rfl,p⟩:=t.one;cases p;let⟨z,c,n,r,y,e⟩:=I.j1 g;let⟨E,a,m,o,k,j⟩:=I.j1 hB;have f:c.toArray.size+a.toArray.size<=sizeLine:=by simp_all
 have d:¬(!c.toArray.isEmpty&&Builtin.List.listTooLong (c.toArray.size+a.toArray.size))=true:=by
  rw[mz f,Bool.and_false];rwa[vF]
 refine call_meets F.slot_list_extend #[_,e,rfl] F.entry_list_extend (F.args_list_extend_2 _ _)
  (AutoSeq1.list_extend_list_list_0 l c.toArray n b a.toArray m d (by rw[size_toArray];lia) ⋯) #[e,j,?_]
 erw[.dj,_,I.pC (its':=c++a) g e (by simp) (r.append o) ?_,rfl,q];rw[vn];lia
noncomputable def Cv:V->N4->Hp->VK->Prop:=λx vs H Q=>∃l xs y,x = .ref l/\vs=[]/\H l⊂.lst xs/\xs[⇑xs-1]?⊂y/\Q y (upd H l (.lst xs.dropLast))
def Ol:vR X "list.pop" Cv:=by
 intro f s A H x t v p Q I k j h;let⟨l,w,y,rfl,rfl,d,g,q⟩:=h;cases k;have b:=j.zero;subst b;let⟨z,a,n,r,m,e⟩:=I.j1 d;let⟨u,o,i⟩:=r.get g;have c:a.toArray[a.toArray.size-1]?⊂u:=by
  simp_all
 erw[call_meets F.slot_list_pop #[_,e,rfl] F.entry_list_pop (F.args_list_pop_1 _) (MeetsSeq.list_pop_last l a.toArray n u c (by rw[size_toArray];lia)) #[e,?_]];erw[y,_,I.pC (its':=a.dropLast) d e ?_ r.dropLast ?_,i,q]
 .simp_all
 .rw[List.length_dropLast];lia
noncomputable def sq:V->N4->Hp->VK->Prop:=λx vs H Q=>∃l xs,x = .ref l/\vs=[]/\H l⊂.lst xs/\Q .dj (upd H l (.lst []))
def DC:vR X "list.clear" sq:=by
 intro d s o H x k v j Q I g f h;let⟨l,m,rfl,rfl,c,q⟩:=h;cases g;have a:=f.zero;subst a;let⟨z,b,n,r,i,e⟩:=I.j1 c;erw[call_meets F.slot_list_clear #[_,e,rfl] F.entry_list_clear (F.args_list_clear_1 _) (AutoSeq1.list_clear_list_0 l b.toArray n (by rw[size_toArray];lia)) #[e,?_]];rwa[.dj,_,I.pC (its':=[]) (ys:=[]) c e rfl .nil (va _),rfl,q]
def Cr:R2:=λx y H Q=>∃l b xs zs,x = .ref l/\y = .ref b/\H l⊂.lst xs/\H b⊂.lst zs/\⇑xs+⇑zs<=sizeLine/\∀p,H p=none->Q (.ref p) (upd H p (.lst (xs++zs)))
def yK:gr X (binaryOp .Add) Cr:=by
 intro d s D H x y v u Q I m o h;let⟨l,b,A,C,rfl,rfl,i,hB,t,q⟩:=h;cases m;cases o;let⟨z,c,n,r,p,e⟩:=I.j1 i;let⟨B,a,w,k,j,f⟩:=I.j1 hB;erw[PySem.P.add_list e f ?_ (by simp_all)];have g:c.toArray++a.toArray=(c++a).toArray:=by simp
 rw[g];rwa[.ref _,_,I.uk (t':=s.toks) (r.append k) (by rw[vn];lia),rfl,q _ I.fresh]
def Cw:R2:=λx y H Q=>∃l k xs,x = .ref l/\y = .int k/\H l⊂.lst xs/\-(2^63)<=k/\k<2^63/\⇑xs*k.toNat<=sizeLine/\
 ∀p,H p=none->Q (.ref p) (upd H p (.lst (List.replicate k.toNat xs).flatten))
def Mc{a:Type}(xs:List a)(k:Nat):(List.replicate k xs).flatten.length=k*⇑xs:=by
 simp_all
def Nb:gr X (binaryOp .Mult) Cw:=by
 intro p s M H x y v u Q I E G h;let⟨l,k,L,rfl,rfl,C,A,B,D,q⟩:=h;cases E;let⟨t,rfl⟩:=G;let⟨z,b,n,r,K,e⟩:=I.j1 C;have g:b.toArray.size*k.toNat<=sizeLine:=by simp_all
 have d:¬b.toArray.size*k.toNat>(2^63-1)/8:=by
  have:(sizeLine:Nat)<=(2^63-1)/8:=by decide
  lia
 have f:¬(!Builtin.List.listFitsIndex k)=true:=by
  rw[fitsIndex_both A B];rwa[vF]
 have c:¬Builtin.List.listTooLong (b.toArray.size*k.toNat)=true:=by
  rw[mz g];rwa[vF]
 have i:List.foldl (λj o=>j++o) #[] (List.replicate (if b.toArray.isEmpty=true then 0 else k.toNat) b.toArray)=(List.replicate k.toNat b).flatten.toArray:=by
  have w:∀m:Nat,List.foldl (λj o=>j++o) #[] (List.replicate m b.toArray)=(List.replicate m b).flatten.toArray:=λm=>by
   have:=Xn b m []
   simp_all
  rw[w];cases b with
  | nil=>simp
  | cons a r'=>rw[vc (by simp)]
 refine wpAny_binaryOp_repeat_ref (T:="list") (U:="int") nofun #[_,e,rfl] (λJ=>typeIs_int J k t) noFill_list_mul F.fills_int_mul F.slot_int_rmul repeat_list F.slot_int_index.lookup
  (call_meets F.slot_int_rmul (typeIs_int s k t) F.entry_int_rmul (F.args_int_rmul_2 _ _) (int___rmul___int_list k t l b.toArray n)
   #[e,rfl,#[_,e,rfl],call_meets F.slot_list_mul #[_,e,rfl] F.entry_list_mul (F.args_list_mul_2 _ _) (AutoListH.list___mul___list_int_3 l b.toArray n k t f d c) #[e,?_]])
 rw[i];rwa[.ref _,_,I.uk (t':=s.toks) (r.rep k.toNat) (by rw[Mc,Nat.mul_comm];rwa[D]),rfl,q _ I.fresh]
end
end L2
namespace Att
open PySem PySem.W PySem.Calls PyProof.Rows
def wN:∀(c:L5) (vs:L9),WellAll P h vs (c.map WData.int)->IntsAre vs c:=by
 intro c
 induction c with
 | nil=>
  intro vs w;rw[map_nil]at w;cases w;rwa[.nil]
 | cons n c ih=>
  intro vs w;rw[uz]at w;cases w with
  | cons a b=>
   cases a;rwa[.cons _ _ (ih _ b)]
def Ht{l:OpenLaw}{n:Nat}(q:l.most⊂n){P:Params}{h:Heap}{args:List WData}{e:L9}
  (b:l.row.toRowW.claim.pre args=true) (j:WellAll P h e args) :
  ∃a vs c,e=[Value.ref a]/\args=[WData.list (c.map WData.int)]/\h.get? a=some {cls:=.type "list",data:=.seq vs.toArray}/\IntsAre vs c/\⇑c<=n:=by
 have i:WShape.hasAll [] args [.list .int]=true:=(pre_splitW b).1;have k:l.pre.holds [] {args:=args}=true:=(pre_splitW b).2;let⟨d,r,rfl,m,o⟩:=hasAllW_cons i;obtain rfl:=hasAllW_nil o;let⟨t,rfl,p⟩:=hasW_list m;let⟨c,rfl⟩:=items_int p;have f:⇑c<=n:=by
  unfold OpenLaw.pre at k;have g:(WTm.not (.lt (.lit (.int (n:Int))) (.len (.arg 0)))).holds [] {args:=[.list (c.map .int)]}=true:=by
   have g:=(holds_andW k).1;rw[q]at g;rwa[g]
  have s:=condW_of g (w_not (w_lt w_lit (w_len_list (w_arg rfl))))
  simp_all
 cases j with
 | cons w1 w2=>
  cases w2;cases w1 with
  | list ho hall=>rwa[_,_,c,rfl,rfl,ho,wN c _ hall,f]
def HW(l:OpenLaw)(args:List WData):l.row.toRowW.claim.post args (.bool true) args=true:=
 postW_of (r:=l.row.toRowW) (X:=(true==true))
  (show WShape.has [] (.bool true) .bool=true by first | rfl | decide | simp[WShape.has,WShape.arms,WShape.armsAll])
  (show(WTm.eq .res (.lit (.bool true))).value [] {args:=args,res:=some (.bool true),after:=args}⊂(.bool (true==true))from w_eq_bool (w_res rfl) w_lit) rfl
end Att
namespace L2
open PySem PySem.Spec PyProof.Rows
theorem XM:∀{vs:L9} {a:L5},IntsAre vs a->Vals (a.map V.int) vs
 | _,_,.nil=>.nil
 | _,_,.cons n t h=>.cons #[t,rfl] (XM h)
def rT(H:Hp):Prop:=∀b,H b=none\/∃o xs,H b⊂(.iy o (.lst xs))
def IL{P:Program}{w:World}{K:cG}{G T:Nw}{CX:nP}{k:Nat}{fa a:Addr}{X:FuncData}{x:Str}{sp:Sp}{c:Shared}{vs:L9}{I:L5}
  (W:K.In c.heap) (B:c.heap.Ns mainGlobals G) (g:c.heap.Ns builtinsNs T) (R:∀x:Str,x≠"__name__"->T x=bootBuiltins x) (y:c.heap.NoLimit) (hg:c.gens = #[])
  (O:c.heap.get? a=some {cls:=.type "list",data:=.seq vs.toArray}) (hi:IntsAre vs I) (hl:⇑I<=sizeLine) (hr:dF k callerA)
  (F:∀base:Heap,K.In base->base.Ns mainGlobals G->eB P w K G base CX k fa X [x] sp) (l:∀(s:Shared) (u:Value),BindsTo s X #[[u],[]] [(x,u)])
  (S:∀H:Hp,rT H->cm K H a (I.map V.int)->sp [.ref a] H (λv _=>v = .bl true) λ_ _ _=>False)
  (N:∀H e s',CX [] H c (λ_ _ _=>False) e s'->False) :
  codeAny (model P w) callerA (.call (.ref fa) #[[.ref a],[]]) (λr s'=>r = .ok (.ret (.bool true))/\OldK c.heap s'.heap/\s'.os=c.os/\AllBare s'.gens) c:=by
 have rv:=XM hi;have Z:=⇑hi;have j:∀H:Hp,rT H->cm K H a (I.map V.int)->fA P w H c.heap->(∀b,H b≠none->b=a)->(H a≠none->K.lookup a=none)->
   codeAny (model P w) callerA (.call (.ref fa) #[[.ref a],[]]) (λr s'=>r = .ok (.ret (.bool true))/\OldK c.heap s'.heap/\s'.os=c.os/\AllBare s'.gens) c:=by
  intro H Y hS C hA hK;have f:∀{b:Addr} {o:Obj},c.heap.get? b⊂o->H b=none->(lP c.heap H).get? b⊂o:=λe n=>IH e n
  have U:∀{b:Addr} {o:Obj} {M:Array DictEntry} {L:Nat},c.heap.get? b⊂o->o.data = .dict M L->H b=none:=λ{b o M L} e d=>by
   grind
  have i:∀{b:Addr} {m:Nw},c.heap.Ns b m->(lP c.heap H).Ns b m:=λ{b m} ⟨o,M,L,e,d,r⟩=>#[o,M,L,f e (U e d),d,r]
  have t:K.In (lP c.heap H):=λb o e=>f (W b o e) (by
   grind)
  have hM:Mod K G (lP c.heap H):=#[t,i B,#[T,i g,R],let ⟨mc,h1,h2⟩:=y;#[mc,i h1,h2]]
  have e0:mL P w K G (lP c.heap H) callerA [] c H:=#[rfl,hM,λb o e=>ML e,Nat.le_of_eq (Hc _ _),trivial,λb g=>ud (show b∈([]:L7)from g) (by simp),C,.of_eq hg]
  erw[codeAny_mono ((F _ t (i B)).run callerA [] c H #[[.ref a],[]] [.ref a] [.ref a] _ _ hr e0 (l c (.ref a)) (.cons rfl .nil) (S H Y hS)) λr s' h=>?_]
  cases r with
  | error e=>rwa[(N H e s' h).elim]
  | ok fl=>
   cases fl with
   | next=>rwa[False.elim h]
   | brk=>rwa[False.elim h]
   | cont=>rwa[False.elim h]
   | ret u=>
    let⟨v,H',os,p,un,D,r',q⟩:=h;have q':v = .bl true:=q;subst q';obtain rfl:u=Value.bool true:=r';erw[rfl,OldK.of_keep λb o e=>?_,os,p];cases q:H b with
    | none=>rwa[un.keep b o e q (by intro z;rwa[ud (show b∈([]:L7)from z) (by simp)]) (by simp)]
    | some u=>
     rcases Y b with z | ⟨ob,xs,z⟩
     .rw[q]at z;cases z
     .have z2:=un.g5 b ob _ z;let⟨e1,_⟩:=C b _ z;let⟨e2,_⟩:=D b _ z2
      lia
 cases hk:K.lookup a with
 | some o=>
  have e:=W a o hk;rw[O]at e;cases e;erw[j (λ_=>none) (λ_=>.inl rfl) (.inr #[_,vs.toArray,_,hk,rfl,rfl,rfl,by simp_all,#v[rv]]) (λb u z=>by have J:(none:Option HO)⊂u:=z;cases J) (λb z=>ud rfl z) λz=>ud rfl z]
 | none=>
  erw[j (λb=>if b=a then some (.iy {cls:=.type "list",data:=.seq vs.toArray} (.lst (I.map V.int)))else none) (λb=>?_) (.inl (.inr #[{cls:=.type "list",data:=.seq vs.toArray},vd rfl])) (λb u z=>?_) (λb z=>?_) λ_=>hk]
  .by_cases g:b=a
   .exact .inr #[_,_,vd g]
   .exact .inl (vc g)
  .by_cases g:b=a
   .have J:=(vd g).symm.trans z;cases J;subst g;rwa[O,by simp_all,vs,_,rv,O]
   .have J:=(vc g).symm.trans z;cases J
  .by_cases g:b=a
   .exact g
   .exact ud (vc g) z
noncomputable abbrev KOf{K:cG}{h:Heap}(_:K.In h):cG:=K
noncomputable def inClass(s:Stmt)(j:Nat):Stmt:=match s with
 | .ClassDef _ _ _ body _ _ _ _ _ _ _=>body.getD j (.Pass #[0,0,0,0])
 | _=>.Pass #[0,0,0,0]
noncomputable def eC(s:Stmt):Arguments:=match s with
 | .FunctionDef _ a _ _ _ _ _ _ _ _=>a
 | _=>{posonlyargs:=[],args:=[],vararg:=none,kwonlyargs:=[],kw_defaults:=[],kwarg:=none,defaults:=[]}
noncomputable def dM(s:Stmt):List Stmt:=match s with
 | .FunctionDef _ _ b _ _ _ _ _ _ _=>b
 | _=>[]
noncomputable def cf(s:Stmt):Scope:=match s with
 | .FunctionDef _ _ _ _ _ _ sc _ _ _=>sc
 | _=>{kind:=.function,names:=[],isGenerator:=false,isCoroutine:=false}
noncomputable abbrev pQ:nP:=λq q q q q q=>False
noncomputable abbrev E0:XK:=λq q q=>False
def dn:Passes pQ X E0:=λq q q q q q q h=>h.elim
structure fF(K:cG)(x qual:Str)(st:Stmt)(f:Addr)(fd:FuncData):Prop where
 ex:∃(oc:Value) (od:Option Addr) (kV doc pm:Value) (an:Option Addr) (cdv ct:Value) (O1:Array (Nv)),
  fd=PySem.W.fnOf x qual (eC st) (dM st) (cf st) .none kV doc pm an cdv ct/\K.lookup f=some #[oc,od,.func fd,O1]/\PySem.W.codeIn K cdv qual=true
 kp:PySem.W.keepIn K (.ref f)=true
section
variable{P:Program}{w:World}{K:cG}{mg:Nw}{base:Heap}
def fF.ok{x a:Str}{st:Stmt}{f:Addr}{g:FuncData}{N ps:L8}{k:Nat}{sp:Sp}(F:fF K x a st f g)(S:cn N ps (cf st))(len:∀vs H Q E,sp vs H Q E->⇑vs=⇑ps)
  (c:∀(b:Value) (A:Around) (outer:Nr) (s:Shared) (H:Hp) (vs:N4) (Q:VK) (E:XK),dF k (A.deeper (envOfC a (cf st) s⁻¹ f b))->sp vs H Q E->
   ∃t,lM (dG pQ P w K mg base N a (cf st) f b A outer s H E).kb (dM st) t/\t {nx:=λZ H'=>Q .dj H',rt:=Q} (start N vs) H):eB P w K mg base pQ (k+1) f g ps sp:=by
 let⟨p,r,kV,i,u,n,b,o,m,rfl,l,d⟩:=F.ex;erw[Ov l d S len λA outer s H vs Q E j e=>?_]
 let⟨t,h,q⟩:=c b A outer s H vs Q E j e;rwa[t,h.kb,q]
def fF.binds{x a:Str}{st:Stmt}{f:Addr}{g:FuncData}{ps:L8}(F:fF K x a st f g)
  (h:∀(kV c e:Value) (an:Option Addr) (b d:Value) (us:L9),⇑us=⇑ps->bindArgs (PySem.W.fnOf x a (eC st) (dM st) (cf st) .none kV c e an b d) #[us,[]]=pure (ps.zip us)):Binds K g ps []:=by
 let⟨l,m,kV,c,e,an,b,d,j,rfl,k,i⟩:=F.ex;rwa[.all (h kV c e an b d)]
def jL{x a:Str}{st:Stmt}{f:Addr}{i:Value}{j an:Option Addr}{e:Array (Nv)}{kV d h b g:Value}(l:K.lookup f=some #[i,j,.func (PySem.W.fnOf x a (eC st) (dM st) (cf st) .none kV d h an b g),e])
  (c:PySem.W.codeIn K b a=true) (k:PySem.W.keepIn K (.ref f)=true):fF K x a st f (PySem.W.fnOf x a (eC st) (dM st) (cf st) .none kV d h an b g):=#[#[i,j,kV,d,h,an,b,g,e,rfl,l,c],k]
end
def Jx(a:dF k A):A.units+1<cLine:=vD (Nat.add_le_add_left (by decide:1<=64) _) a.units
section
variable{X:Cx}
def pv(i:Nat)(b:X.N[i]?⊂x:=by rfl)(d:tJ X.env.scope x:=by first | exact Or.inl rfl | exact Or.inr (Or.inl rfl) | rwa[Or.inr (Or.inr rfl)])(c:(x==("__debug__" : Str))=false:=by decide)
  (a:(x==("__classdict__" : Str))=false:=by decide):PE X (.Name x pos) (ft i):=Nd b d c a
end
def gQ{A B:Prop}(h:B):if false=true then A else B:=by
 rw[vc vF];rwa[h]
def dR{A B:Prop}(h:A):if true=true then A else B:=by
 rw[vd rfl];rwa[h]
def cj(H H':Hp):Prop:=∀b o,H b⊂o->H' b⊂o
def cj.refl(H:Hp):cj H H:=λq q h=>h
def cj.trans{H d e:Hp}(a:cj H d)(b:cj d e):cj H e:=λc o h=>b c o (a c o h)
def cj.seq{K:cG}{H H':Hp}{a:Addr}{xs:N4}(e:cj H H')(h:cm K H a xs):cm K H' a xs:=by
 rcases h with(h | ⟨o,h⟩) | h
 .exact .inl (.inl (e _ _ h))
 .exact .inl (.inr #[o,e _ _ h])
 .exact .inr h
section
variable{κ:Type}[DecidableEq κ]
noncomputable def dt(kvs:List (κ×V))(k:κ):N5:=(kvs.find? λkv=>decide (kv.1=k)).map (·.2)
noncomputable def putK(kvs:List (κ×V))(k:κ)(v:V):List (κ×V):=
 if(kvs.any λkv=>decide (kv.1=k))=true then kvs.map (λkv=>if kv.1=k then(kv.1,v)else kv)else kvs++[(k,v)]
def Qf{p:κ×V}{r:List (κ×V)}{k:κ}(e:p.1=k):dt (p::r) k⊂p.2:=by simp[dt,List.find?_cons,e]
def Qe{p:κ×V}{r:List (κ×V)}{k:κ}(e:¬p.1=k):dt (p::r) k=dt r k:=by simp[dt,List.find?_cons,e]
theorem ZH(k:κ):∀kvs:List (κ×V),(kvs.any λkv=>decide (kv.1=k))=(dt kvs k).isSome
 | []=>rfl
 | p::r=>by
  rw[any_cons];by_cases e:p.1=k
  .simp only[Qf e,decide_eq_true e,Bool.true_or,Option.isSome_some]
  .rw[Qe e,vH e,Bool.false_or];rwa[ZH k r]
theorem Dr(k j:κ)(y:V):∀kvs:List (κ×V),dt (kvs.map λkv=>if kv.1=k then(kv.1,y)else kv) j=(dt kvs j).map λx=>if j=k then y else x
 | []=>rfl
 | p::r=>by
  have a:=Dr k j y r;rw[uz];by_cases h:p.1=k
  .rw[vd h];by_cases e:p.1=j
   .rw[Qf (p:=(p.1,y)) e,Qf e,Option.map_some,vd (e.symm.trans h)]
   .rw[Qe (p:=(p.1,y)) e,Qe e,a]
  .rw[vc h];by_cases e:p.1=j
   .rw[Qf (p:=p) e,Qf e,Option.map_some,vc (λz=>h (e.trans z))]
   .rw[Qe (p:=p) e,Qe e,a]
theorem XL(k j:κ)(y:V):∀kvs:List (κ×V),dt kvs k=none->dt (kvs++[(k,y)]) j=if j=k then some y else dt kvs j
 | [],_=>by
  by_cases e:k=j
  .rw[vd e.symm];rwa[Qf (p:=(k,y)) e]
  .rw[vc (λz=>e z.symm)];rwa[Qe (p:=(k,y)) e]
 | p::r,hn=>by
  rw[cons_append];have a:¬p.1=k:=λz=>by rw[Qf z]at hn;cases hn
  rw[Qe a]at hn;have b:=XL k j y r hn;by_cases e:p.1=j
  .rw[Qf e,Qf e,vc (λz=>a (e.trans z))]
  .rw[Qe e,Qe e,b]
def Ds(kvs:List (κ×V))(k j:κ)(y:V):dt (putK kvs k y) j=if j=k then some y else dt kvs j:=by
 unfold putK;by_cases a:(kvs.any λkv=>decide (kv.1=k))=true
 .rw[vd a,Dr];rw[ZH]at a;by_cases e:j=k
  .let⟨x,b⟩:=Option.isSome_iff_exists.mp a
   simp_all
  simp_all
 .rw[vc a];erw[XL k j y kvs ?_];rw[ZH]at a
  simp_all
def Yv(kvs:List (κ×V))(k:κ)(v:V):⇑(putK kvs k v)<=⇑kvs+1:=by
 unfold putK;split
 .rw[vt];lia
 .rw[vn,vQ,length_nil];lia
def gg.g6(r:gg o u):o.isSome=u.isSome:=by
 cases o with
 | none=>cases u with
  | none=>rfl
  | some _=>rwa[(show False from r).elim]
 | some _=>cases u with
  | none=>rwa[(show False from r).elim]
  | some _=>rfl
def KV.val{kvs:List (κ×V)}{vs:List (κ×Value)}(r:KV kvs vs)(k:κ):gg (dt kvs k) (valueAt vs k):=by
 unfold KV at r
 induction r with
 | nil=>rwa[True.intro]
 | @cons p q ps qs h t ih=>
  let⟨c,d⟩:=h;by_cases e:p.1=k
  .have a:q.1=k:=c.symm.trans e;have b:valueAt (q::qs) k⊂q.2:=by simp[valueAt,List.find?_cons,a]
   rw[Qf e,b];rwa[d]
  .have a:¬q.1=k:=λz=>e (c.trans z)
   have b:valueAt (q::qs) k=valueAt qs k:=by simp[valueAt,List.find?_cons,a]
   rw[Qe e,b];rwa[ih]
def KV.any(r:KV kvs vs)(k:κ):(kvs.any λkv=>decide (kv.1=k))=vs.any λkv=>decide (kv.1=k):=by
 unfold KV at r
 induction r with
 | nil=>rfl
 | cons h t ih=>simp_all
def KV.sC(r:KV kvs vs)(k:κ)(c:RelV y u) :
  KV (kvs.map λkv=>if kv.1=k then(kv.1,y)else kv) (vs.map λkv=>if kv.1=k then(kv.1,u)else kv):=by
 unfold KV at r|-
 induction r with
 | nil=>rwa[.nil]
 | @cons p q ps qs h t ih=>
  rw[uz,uz];erw[.cons ?_ ih];let⟨a,b⟩:=h;by_cases e:p.1=k
  .rw[vd e,vd (a.symm.trans e)];rwa[a,c]
  .rw[vc e,vc (λz=>e (a.trans z))];rwa[a,b]
def KV.put(r:KV kvs vs)(k:κ)(a:RelV y u):KV (putK kvs k y) (stored vs k u):=by
 unfold putK stored;rw[r.any k];by_cases e:(vs.any λkv=>decide (kv.1=k))=true
 .rw[vd e,vd e];rwa[r.sC k a]
 .rw[vc e,vc e];rwa[Paired.snoc r #[rfl,a]]
def KV.keys{kvs:List (κ×V)}{vs:List (κ×Value)}(r:KV kvs vs):kvs.map (·.1)=vs.map (·.1):=by
 unfold KV at r
 induction r with
 | nil=>rfl
 | cons h t ih=>simp_all
def KV.length(r:KV kvs vs):⇑kvs=⇑vs:=Paired.length r
end
def Xq(r:RelV (kV k) u):(cv P w).is k u=true:=by
 cases k with
 | inl i=>let⟨t,e⟩:=(show∃t,u=Value.int i t from r);subst e;rwa[Gq P w i t]
 | inr x=>let⟨t,e⟩:=(show∃t,u=Value.str x t from r);subst e;rwa[Gr P w x t]
theorem Xp:∀{ks:List Key} {us:L9},Vals (ks.map kV) us->ItemsAre (cv P w) ks us
 | [],_,r=>by rw[map_nil]at r;cases r;rwa[.nil]
 | k::ks,_,r=>by
  rw[uz]at r;cases r with
  | cons h t=>rwa[.cons (Xq h) (Xp t)]
noncomputable abbrev KT(H:Hp):List (List Key×V)->List (List Key×Addr×Value)->Prop:=Paired λp q=>p.1=q.1/\H q.2.1⊂(.tup (p.1.map kV))/\RelV p.2 q.2.2
def KT.val{H:Hp}{kvs:List (List Key×V)}{xs:List (List Key×Addr×Value)}(r:KT H kvs xs)(k:List Key):gg (dt kvs k) ((atKey xs k).map (·.2)):=by
 induction r with
 | nil=>rwa[True.intro]
 | @cons p q ps qs h t ih=>
  let⟨c,j,d⟩:=h;by_cases e:p.1=k
  .have a:q.1=k:=c.symm.trans e;have b:atKey (q::qs) k⊂q.2:=by simp[atKey,List.find?_cons,a]
   rw[Qf e,b];rwa[d]
  .have a:¬q.1=k:=λz=>e (c.trans z)
   have b:atKey (q::qs) k=atKey qs k:=by simp[atKey,List.find?_cons,a]
   rw[Qe e,b];rwa[ih]
def KT.sC{H:Hp}(r:KT H kvs xs)(k:List Key)(d:RelV y u) :
  KT H (kvs.map λkv=>if kv.1=k then(kv.1,y)else kv) (xs.map (putAt k u)):=by
 induction r with
 | nil=>rwa[.nil]
 | @cons p q ps qs h t ih=>
  rw[uz,uz];erw[.cons ?_ ih];let⟨a,b,c⟩:=h;unfold putAt;by_cases e:p.1=k
  .rw[vd e,vd (a.symm.trans e)];rwa[a,b,d]
  .rw[vc e,vc (λz=>e (a.trans z))];rwa[a,b,c]
def KT.put{H:Hp}(r:KT H kvs xs)(k:List Key)(c:H b⊂(.tup (k.map kV)))(a:RelV y u) :
  KT H (putK kvs k y) (storedH xs k b u):=by
 have e:(kvs.any λkv=>decide (kv.1=k))=(atKey xs k).isSome:=by
  rw[ZH,(r.val k).g6,Option.isSome_map]
 unfold putK storedH;rw[e];by_cases q:(atKey xs k).isSome=true
 .rw[vd q,vd q];rwa[r.sC k a]
 .rw[vc q,vc q];rwa[Paired.snoc r #[rfl,c,a]]
def KT.keeps{H H':Hp}(r:KT H kvs xs)(a:∀b ys,H b⊂.tup ys->H' b⊂.tup ys):KT H' kvs xs:=
 Paired.uo r λq q z=>#[z.1,a _ _ z.2.1,z.2.2]
section
variable{P:Program}{w:World}{H:Hp}{h:Heap}{a:Addr}
def Fs(b:fA P w H h)(e:Rd H a u):cD P w H h a u:=e.ok b
def tT(b:fA P w H h)(e:Rd H a (.dK kvs)):⇑kvs<=sizeLine/\(a==sysModules)=false/\∃vs,KV kvs vs/\h.DictOf (cv P w) a vs:=
 show cD P w H h a (.dK kvs)from Fs b e
def WL(b:fA P w H h)(e:H a⊂.dK kvs):⇑kvs<=sizeLine/\(a==sysModules)=false/\∃vs,KV kvs vs/\h.DictOf (cv P w) a vs:=tT b (.inl e)
def WX(g:fA P w H h)(e:H a⊂(.tup (ks.map kV))):(tupleKind (cv P w)).is h ks a:=by
 let⟨q,b,r,o,c,d,n,f⟩:=(show cD P w H h a (.tup (ks.map kV))from g a _ e)
 rwa[o,b.toArray,n,c,d,f,#v[Xp r]]
def As(d:fA P w H h)(e:Rd H a (.dT kvs)):⇑kvs<=sizeLine/\(a==sysModules)=false/\
  ∃xs,KT H kvs xs/\h.DictOfH (tupleKind (cv P w)) a xs:=by
 let⟨z,y,xs,r,o,g,f,i,j,k,n,s⟩:=(show cD P w H h a (.dT kvs)from Fs d e)
 erw[z,y,xs,r,o,g,f,i,j,k,n,λx b=>?_,s];have c:∀{l:List (List Key×V)} {m:List (List Key×Addr×Value)},KT H l m->∀x∈m,(tupleKind (cv P w)).is h x.1 x.2.1:=by
  intro l m q
  induction q with
  | nil=>intro x b;rwa[nomatch b]
  | @cons p q ps qs hq t ih=>
   intro x b;rcases mem_cons.mp b with e | b
   .subst e;rwa[WX d (by rw[<-hq.1];rwa[hq.2.1])]
   .exact ih x b
 rwa[c r x b]
def Ot(b:fA P w H h)(e:H a⊂.dT kvs):⇑kvs<=sizeLine/\(a==sysModules)=false/\
  ∃xs,KT H kvs xs/\h.DictOfH (tupleKind (cv P w)) a xs:=As b (.inl e)
end
def du(H:Hp)(a:Addr)(y:V)(r:N5):Prop:=
 (∃kvs k,Rd H a (.dK kvs)/\y=kV k/\r=dt kvs k)\/∃kvs k b,Rd H a (.dT kvs)/\y = .ref b/\H b⊂(.tup (k.map kV))/\r=dt kvs k
def gw(H:Hp)(a:Addr)(y v:V)(H':Hp):Prop:=
 (∃kvs k,H a⊂.dK kvs/\y=kV k/\⇑kvs<sizeLine/\H'=upd H a (.dK (putK kvs k v)))\/
 ∃kvs k b,H a⊂.dT kvs/\y = .ref b/\H b⊂(.tup (k.map kV))/\⇑kvs<sizeLine/\H'=upd H a (.dT (putK kvs k v))
def du.k{H:Hp}{a:Addr}{kvs:List (Key×V)}{k:Key}(e:H a⊂.dK kvs):du H a (kV k) (dt kvs k):=.inl #[kvs,k,.inl e,rfl,rfl]
def gw.k{H:Hp}{a:Addr}{kvs:List (Key×V)}{k:Key}{v:V}(e:H a⊂.dK kvs)(b:⇑kvs<sizeLine):gw H a (kV k) v (upd H a (.dK (putK kvs k v))):=.inl #[kvs,k,e,rfl,b,rfl]
section
variable{X:Cx}{pins:Ny}{σ:St}{H:Hp}{s:Shared}{a:Addr}{y v:V}{u r:Value}{o:N5}{A:Around}{E:Nz}
def Inv.big(I:Inv X pins σ H s):sysModules<s⁻¹:=by
 have h:mainGlobals<s⁻¹:=(I.mod.glob.keeps I.bk).lt;rwa[vZ nofun h]
def Xg{Q:Nz}(B:A.units+1<cLine)(I:Inv X pins σ H s)(g:du H a y (some v))(r:RelV y u)(h:∀f s',Inv X pins σ H s'->RelV v f->Q f s') :
  wpAny (model X.prog X.w) A (getItem (.ref a) u) Q E s:=by
 rcases g with⟨q,k,e,j,l⟩ | ⟨q,k,b,e,j,t,l⟩
 .subst j;let⟨z,w,C,c,i⟩:=tT I.cK e;let⟨f,n,d⟩:=gg.some_of (v:=v) (o:=valueAt C k) (by rw[l];rwa[c.val k]);rwa[wpAny_getItem_of (Xq r) i.mapOf n (h f _ (I.tok _) d)]
 .subst j;cases(show u=Value.ref b from r);let⟨z,w,D,c,i⟩:=As I.cK e;let⟨f,n,d⟩:=gg.some_of (v:=v) (o:=(atKey D k).map (·.2)) (by rw[l];rwa[c.val k]);let⟨p,x,m⟩:=vg.mp n;erw[wpAny_getItem_heap (tupleKind_room_in1 B) (WX I.cK t) i x ?_];rw[m];rwa[h f _ (I.tok _) d]
def OG{Q:Nz}(p:A.units+1<cLine)(I:Inv X pins σ H s)(g:du H a y o)(m:RelV y u)(h:∀s',Inv X pins σ H s'->Q (.bool o.isSome) s') :
  wpAny (model X.prog X.w) A (compareOp .In u (.ref a)) Q E s:=by
 rcases g with⟨j,k,e,f,l⟩ | ⟨j,k,b,e,f,n,l⟩
 .subst f;let⟨z,i,r,c,d⟩:=tT I.cK e;erw[wpAny_in_of (Xq m) i d.mapOf ?_];rw[<-(c.val k).g6,<-l];rwa[h _ (I.tok _)]
 .subst f;cases(show u=Value.ref b from m);let⟨z,i,t,c,d⟩:=As I.cK e;erw[wpAny_in_heap (tupleKind_room_in1 p) (WX I.cK n) i d ?_];have q:=(c.val k).g6;rw[Option.isSome_map]at q;rw[<-q,<-l];rwa[h _ (I.tok _)]
def YT(I:Inv X pins σ H s)(h:tE (H a))(g:Heap.SameBut a s.heap h')(f:∃q,h'.get? a⊂q)(c:cD X.prog X.w (upd H a ob) h' a ob) :
  Inv X pins σ (upd H a ob) {s with heap:=h',toks:=t'}:=
 I.write (x:=a) (e:=a) h (.inl rfl) (λb q d z=>(g.2 b d).trans z) f c
def K1{H':Hp}(z:⇑kvs<=sizeLine)(c:(a==sysModules)=false)(b:KV kvs vs)(dd:h'.DictOf (cv P w) a vs) :
  cD P w H' h' a (.dK kvs):=#[z,c,vs,b,dd]
def G5{H':Hp}{Q:Unit->Shared->Prop}(R:A.units+1<cLine)(I:Inv X pins σ H s)(g:gw H a y v H')(G:RelV y u)(F:RelV v r)(h:∀s',Inv X pins σ H' s'->Q () s') :
  wpAny (model X.prog X.w) A (setItem (.ref a) u r) Q E s:=by
 rcases g with⟨d,k,e,o,l,n⟩ | ⟨d,k,b,e,o,B,l,n⟩
 .subst o n;let⟨z,p,S,f,m⟩:=WL I.cK e;have x:⇑S<=sizeLine:=by rw[<-⇑f];exact z
  have t:⇑(putK d k v)<=sizeLine:=by have:=Yv d k v;lia
  erw[wpAny_setItem_pairs (hsz:=x) (Xq G) m λD i w=>h _ ?_]
  have P:∃q,D.get? a⊂q:=let ⟨q,_,_,j,_⟩:=i;#[q,j];rwa[YT I (by rw[e];rwa[True.intro]) w P (K1 t p (f.put k F) i)]
 .subst o n;cases(show u=Value.ref b from G);let⟨z,p,T,f,m⟩:=Ot I.cK e;have x:⇑T<=sizeLine:=by rw[<-Paired.length f];exact z
  have t:⇑(putK d k v)<=sizeLine:=by have:=Yv d k v;lia
  erw[wpAny_setItem_heap (hsz:=x) (tupleKind_room_in1 R) (WX I.cK B) m λD i w=>h _ ?_]
  let⟨q,K,J,j,L,M,N,Z,O⟩:=i;erw[YT I (by rw[e];rwa[True.intro]) w #[q,j] #[t,p,_,(f.put k B F).keeps λc U C=>?_,q,K,J,j,L,M,N,O]];rw[jh (JC C e (λz=>nomatch z))];rwa[C]
end
def tF(i:Expr):Prop:=∀ov iv,subscripted i false ov iv=operate [ov,iv] (getItem ov iv)
def Mw{prog:Program}{w:World}{A:Around}{E:Nz}{s:Shared}{env:Env}{b a:Expr}{l:Pos}{T q:String}{Q:Nz}
  (n:typeLookup (.type T) "__getitem__"= pure (some (.builtin q))) (p:tF a)
  (h:wpAny (model prog w) A (eval b env) (λo e=>wpAny (model prog w) A (eval a env) (λi c=>c.TypeIs o T/\wpAny (model prog w) A (getItem o i) Q E c) E e) E s) :
  wpAny (model prog w) A (eval (.Subscript b a l) env) Q E s:=by
 erw[Subscript_ (wpAny_mono h (λo e j=>wpAny_mono j (λi c d=>?_) λZ Z x=>x) λZ Z x=>x)];let⟨m,d⟩:=d;unfold subscriptTail;erw[ug ?_];rw[getitemInPython_of_ne m.not_modules];erw[ug (wpAny_specialOf m n ?_)];have g:wpAny (model prog w) A (subscripted a false o i) (λr f=>wpAny (model prog w) A (letTemporaryGo b o r >>= λZ=>pure r) Q E f) E c:=by
  rw[p o i];rwa[wpAny_operating (wpAny_mono d (λr f k=>ug (wpAny_letTemporaryGo (uf k))) λZ Z x=>x)]
 first
  | rwa[uf (ug g)]
  | rwa[ug (uf (ug g))]
  | rwa[ug g]
def wG{f:St}{H:Hp}(I:Inv X pins f H s)(g:du H a y o):s.TypeIs (.ref a) "dict":=by
 rcases g with⟨d,k,e,_,_⟩ | ⟨d,k,b,e,_,_,_⟩
 .let⟨_,_,h,_,c⟩:=tT I.cK e;rwa[c.typeIs]
 .let⟨_,_,i,_,c⟩:=As I.cK e;rwa[c.typeIs]
def ry(td ty:TE):TE:=λσ H Q=>td σ H λx H1=>ty σ H1 λy H2=>∃a v,x = .ref a/\du H2 a y (some v)/\Q v H2
def uO(ty td:TE):TE:=λσ H Q=>ty σ H λy H1=>td σ H1 λx H2=>∃a o,x = .ref a/\du H2 a y o/\Q (.bl o.isSome) H2
def rp(td ty tv:TE):TS:=λD σ H=>tv σ H λv H1=>td σ H1 λx H2=>ty σ H2 λy H3=>∃a H4,x = .ref a/\gw H3 a y v H4/\D.nx σ H4
section
variable{X:Cx}{o i e value:Expr}{pos pos' tpos:Pos}{td ty tv:TE}
def JM(q:X.A.units+1<cLine)(n:PE X o td)(hi:PE X i ty)(p:tF i:=by rwa[λZ Z=>rfl]):PE X (.Subscript o i pos) (ry td ty):=by
 intro b s e H Q I h;erw[Mw PySem.F.slot_dict_getitem.lookup p (cM (n b s e H _ I h) λu A z_=>?_)];let⟨x,f,k,w,r⟩:=z_;erw[cM (hi b A e f _ k r) λB C z_=>?_];obtain⟨y,j,d,z,a,v,m,g,t⟩:=z_;subst m;obtain rfl:u=Value.ref a:=w;rwa[wG d g,Xg q d g z λE D l c=>#[v,j,l,c,t]]
def Nc(n:X.A.units+1<cLine)(hi:PE X i ty)(m:PE X o td):PC X .In i o (uO ty td):=by
 intro b s c H Q I h;erw[cM (hi b s c H _ I h) λw v z_=>?_];let⟨y,d,f,t,p⟩:=z_;erw[cM (m b v c d _ f p) λu z z_=>?_];obtain⟨x,e,j,r,a,ov,l,g,q⟩:=z_
 subst l;obtain rfl:u=Value.ref a:=r;rwa[OG n j g t λA k=>#[.bl ov.isSome,e,k,rfl,q]]
def zV(t:X.A.units+1<cLine)(p:PE X o td)(hi:PE X i ty)(w:PE X value tv)(q:swapsWith value (some (.Subscript o i pos')) pos.line X.env=pure false) :
  PS X (.Assign [.Subscript o i pos'] value pos) (rp td ty tv):=by
 intro b s c H D I h;erw[wpAny_Assign_Subscript (cM (w b s c H _ I h) λr G z_=>?_) q];let⟨v,d,j,C,z⟩:=z_;erw[cM (p b G c d _ j z) λu J z1_=>?_];let⟨x,e,k,E,A⟩:=z1_;erw[cM (hi b J c e _ k A) λL M z_=>?_];obtain⟨y,K,l,F,a,f,n,g,B⟩:=z_;subst n;obtain rfl:u=Value.ref a:=E;rwa[G5 t l g F C λN m=>#[c,f,m,B]]
end
def CZ{H:Hp}(h:Heap)(a:sysModules<h.objs.size):cD P w H (h.push {cls:=.type "dict",data:=.dict #[]}) h.objs.size (.dK []):=
 #[va _,beq_eq_false_iff_ne.mpr (Ne.symm (vE a)),[],.nil,Heap.DictOf.new h]
def oR:TE:=λq H Q=>∀p,H p=none->Q (.ref p) (upd H p (.dK []))
section
variable{X:Cx}{pos:Pos}
def yt:PE X (.Dict [] [] pos) oR:=λb s c H Q I h=>
 wpAny_Dict_empty #[.ref s⁻¹,_,I.laid (a:=s⁻¹) (o:=.dK []) (t':=s.toks) (λj j q=>vJ _ q) (vb _) (CZ s.heap I.big),rfl,h _ (I.cK.fresh (vb _))]
end
noncomputable def gK:List (TE×TE)->St->Hp->(List (V×V)->Hp->Prop)->Prop
 | [],_,H,Q=>Q [] H
 | (tk,tv)::r,σ,H,Q=>tk σ H λx H1=>tv σ H1 λy H2=>gK r σ H2 λps H3=>Q ((x,y)::ps) H3
noncomputable abbrev VV:List (V×V)->List (Value×Value)->Prop:=Paired λp q=>RelV p.1 q.1/\RelV p.2 q.2
def vX(X:Cx)(pos:Pos)(keys:List (Option Expr))(values:Nt)(trs:List (TE×TE)):Prop:=
 ∀(pins:Ny) (s:Shared) (σ:St) (H:Hp) (Q:List (V×V)->Hp->Prop),Inv X pins σ H s->gK trs σ H Q->
  wpAny (model X.prog X.w) X.A (evalPairs (pairTrees keys values X.env pos)) (λvs s'=>∃ps H',Inv X pins σ H' s'/\VV ps vs/\Q ps H') X.xe s
def MZ{X:Cx}{a:Pos}:vX X a [] [] []:=λb s c H Q I h=>pairTrees_nil_walk #[[],H,I,.nil,h]
def I9{X:Cx}{b:Pos}{k v:Expr}{ks:List (Option Expr)}{vs:Nt}{f g:TE}{c:List (TE×TE)}(p:PE X k f)(r:PE X v g)(q:vX X b ks vs c) :
  vX X b (some k::ks) (v::vs) ((f,g)::c):=λa s e H Q I h=>
 pairTrees_cons_walk (cM (p a s e H _ I h) λu D ⟨x,i,m,B,w⟩=>cM (r a D e i _ m w) λG E ⟨y,j,n,C,z⟩=>
  cM (q a E e j _ n z) λJ F ⟨t,l,o,d,A⟩=>#[(x,y)::t,l,o,.cons #[B,C] d,A])
noncomputable def cR(kvs more:List (Key×V)):List (Key×V):=more.foldl (λacc kv=>putK acc kv.1 kv.2) kvs
def KV.merge:∀{more:List (Key×V)} {a:List (Key×Value)} {kvs:List (Key×V)} {vs:List (Key×Value)},KV more a->KV kvs vs->KV (cR kvs more) (merged vs a):=by
 intro more a kvs vs r;unfold KV at r
 induction r generalizing kvs vs with
 | nil=>intro q;rwa[q]
 | @cons p q ps qs h t ih=>
  intro b;have e:KV (putK kvs p.1 p.2) (stored vs q.1 q.2):=by
   have:=b.put p.1 h.2;rw[<-h.1];rwa[this]
  rwa[ih e]
theorem Qx:∀(more kvs:List (Key×V)),⇑(cR kvs more)<=⇑kvs+⇑more
 | [],kvs=>by show ⇑kvs<=⇑kvs+0;lia
 | p::r,kvs=>by
  have a:=Qx r (putK kvs p.1 p.2);have b:=Yv kvs p.1 p.2;show(cR (putK kvs p.1 p.2) r).length<=_;rw[vQ];lia
theorem WH{P:Program}{w:World}:∀{kvs:List (Key×V)} {e:List (Value×Value)},VV (kvs.map λkv=>(kV kv.1,kv.2)) e->∃d,Carries (cv P w) e d/\KV kvs d
 | [],_,r=>by rw[map_nil]at r;cases r;rwa[[],True.intro,.nil]
 | p::kvs,_,r=>by
  rw[uz]at r;cases r with
  | @cons a b as bs h t=>
   let⟨d,c,q⟩:=WH (P:=P) (w:=w) t;let⟨g,f⟩:=b;rwa[(p.1,f)::d,#[Xq h.1,rfl,c],.cons #[rfl,h.2] q]
def rz(trs:List (TE×TE)):TE:=λσ H Q=>∀p,H p=none->gK trs σ (upd H p (.dK [])) λps H2=>H2 p⊂(.dK [])/\∃kvs:List (Key×V),ps=kvs.map (λkv=>(kV kv.1,kv.2))/\⇑kvs<=15/\Q (.ref p) (upd H2 p (.dK (cR [] kvs)))
def MT{X:Cx}{k:Pos}{b:List (Option Expr)}{d:Nt}{l:List (TE×TE)}(h:vX X k b d l)(g:b.all (·.isSome)=true)(B:⇑b=⇑d)(v:b≠[])
  (m:⇑b<=15):PE X (.Dict b d k) (rz l):=by
 intro j s M H Q I q;have C:=I.cK.fresh (vb s⁻¹);have r:=I.laid (a:=s⁻¹) (o:=.dK []) (h':=s.heap.push {cls:=.type "dict",data:=.dict #[]}) (t':=s.toks) (λZ Z q=>vJ _ q) (vb _) (CZ s.heap I.big);erw[wpAny_Dict_walk (knd:=cv X.prog X.w) g B v m (cM (h j _ M _ _ r (q _ C)) λT S z_=>?_)];obtain⟨R,N,p,n,e,i,u,O,F⟩:=z_;subst u;let⟨K,c,J⟩:=WH (P:=X.prog) (w:=X.w) n;let⟨z,y,L,G,t⟩:=WL p.cK e;cases G;erw[K,c,t,λh' f D=>#[.ref s⁻¹,_,?_,rfl,F]];have E:⇑(cR [] i)<=sizeLine:=by
  have x:=Qx i [];rw[length_nil]at x;rw[sizeLine_eq];lia
 have A:∃q,h'.get? s⁻¹⊂q:=let ⟨q,_,_,hq,_⟩:=f;#[q,hq];rwa[YT p (by rw[e];rwa[True.intro]) D A (K1 E y (J.merge .nil) f)]
structure M1(X:Cx)(o:Expr)(m:Str)(apos:Pos)(e:Expr)(cpos:Pos):Prop where
 base:attributeBase o m X.env (eval o X.env)=eval o X.env
 AV:((backTo cpos (starEach [e] X.env)).all (λx=>!x.1)&&(backToKw cpos (keywordEach [] X.env)).all (λx=>x.1.isSome)
  && decide (⇑([e]:Nt)+⇑([]:List Keyword)+(if([]:List Keyword).isEmpty then 0 else 1)<30))=true
 line:(apos.endLine==cpos.line)=true
 trees:backTo cpos (starEach [e] X.env)=[(false,eval e X.env)]
section
variable{κ:Type}[DecidableEq κ]
def Lb{kvs:List (κ×V)}{k:κ}(h:dt kvs k=none):¬k∈kvs.map (·.1):=by
 intro m;let⟨p,a,e⟩:=vK.mp m;have q:(kvs.any λkv=>decide (kv.1=k))=true:=any_eq_true.mpr #[p,a,vG e];rw[ZH,h]at q;rwa[ud q (by simp)]
def MA{kvs:List (κ×V)}{k:κ}{v:V}(h:dt kvs k⊂v):k∈kvs.map (·.1):=by
 have q:(kvs.any λkv=>decide (kv.1=k))=true:=by
  rw[ZH,h]
  all_goals rfl
 simp_all
end
def nC{R:Result->Shared->Prop}(I:Nat->Shared->Prop)
  (u:∀n s,I n s->wpAny (model prog w) A (pyNext it) (λr b=>match r with
   | none=>R (.ok .next) b
   | some v=>wpAny (model prog w) A (letOwnedTupleGo target it v) (λZ g=>wpAny (model prog w) A (assign target env v) (λZ i=>
     wpAny (model prog w) A (forIn ifs true λc r=>if r=true then do let t <-isTrue c env (eval c env);pure (ForInStep.yield t)else pure (ForInStep.yield r)) (λt d=>
      if t=true then wpAny (model prog w) A (eval elt env) (λx j=>
       wpAny (model prog w) A (call (.builtin "list.append") [acc,x]) (λZ k=>∃m,m<n/\I m k) (λZ Z=>False) j) (λZ Z=>False) d
      else∃m,m<n/\I m d) (λZ Z=>False) i) (λZ Z=>False) g) (λZ Z=>False) b) (λZ Z=>False) s)
  (n:Nat) (h:I n s) :
  codeAny (model prog w) A (.compLoop (.ListComp elt [#[target,iter,ifs,0]] scope pos) 0 it acc env) R s:=by
 erw[codeAny_loop rfl I (λn s y=>?_) n h];show wpAny _ A ((compTurn (.ListComp elt [#[target,iter,ifs,0]] scope pos) 0 it acc env).onRaise (λx=>do noteFrame x env;theTreesLotGoes x)) _ _ s;erw[wpAny_noted ?_];rw[compTurn_list];erw[ug (wpAny_standAt (ug (wpAny_mono (u n s y) (λr b e=>?_) λZ Z a=>a.elim)))];cases r with
 | none=>rwa[uf e]
 | some v=>
  erw[ug (wpAny_mono e (λZ g l=>?_) λZ Z a=>a.elim)];erw[ug (wpAny_mono l (λZ i o=>ug (wpAny_mono o (λt d f=>?_) λZ Z a=>a.elim)) λZ Z a=>a.elim)];cases t with
  | false=>rwa[uf #[rfl,f]]
  | true=>
   rwa[ug (ug (wpAny_mono f (λx j p=>ug (wpAny_mono p (λZ k q=>uf (uf #[rfl,q])) λZ Z a=>a.elim)) λZ Z a=>a.elim))]
def PF(X:Cx)(ifs:Nt)(t:TT):Prop:=
 ∀(pins:Ny) (s:Shared) (σ:St) (H:Hp) (Q:Bool->Hp->Prop),Inv X pins σ H s->t σ H Q->
  wpAny (model X.prog X.w) X.A (forIn ifs true λc r=>if r=true then do let ok <-isTrue c X.env (eval c X.env);pure (ForInStep.yield ok)else pure (ForInStep.yield r)) (TP X pins σ Q) X.xe s
def u4:TT:=λq H Q=>Q true H
def JZ:PF X [] u4:=λq q q H q I h=>wpAny_tests_nil #[H,I,h]
def BD(b:PT X c t):PF X [c] t:=λa s d H Q I h=>wpAny_tests_one (b a s d H Q I h)
noncomputable def dI(env:Env):List (Str×NameKind)->List (Str×Addr)->List (Str×Addr)
 | [],acc=>acc
 | (n,k)::r,acc=>dI env r (if k == .free then(n,(env.cells.lookup n).getD 0)::acc else acc)
def kQ(h:∀y∈scope.names,y.2 = .free->∃c,env.cells.lookup y.1⊂c):closureFor scope env=pure (dI env scope.names []):=by
 have l:∀(names:List (Str×NameKind)) (b:List (Str×Addr)),(∀y∈names,y.2 = .free->∃c,env.cells.lookup y.1⊂c)->
   (forIn (m:=Sem) names b λx r=>(match x with | (name,kind)=>if(kind == .free)=true then do let a <-cellOf env name;pure (ForInStep.yield ((name,a)::r))else pure (ForInStep.yield r)))=pure (dI env names b):=by
  intro names
  induction names with
  | nil=>intro b q;rfl
  | cons y r ih=>
   let⟨n,k⟩:=y;intro b d;rw[List.forIn_cons];cases hk:(k==NameKind.free)with
   | true=>
    have e:k = .free:=by simpa using hk
    let⟨c,i⟩:=d (n,k) vq e;have j:cellOf env n=pure c:=by unfold cellOf;rw[i]
    simp only[hk,if_true,j,pure_bind,dI,i,Option.getD_some];rwa[ih _ λy f=>d y (vp _ f)]
   | false=>
    simp only[hk,Bool.false_eq_true,if_false,pure_bind,dI];rwa[ih _ λy f=>d y (vp _ f)]
 have g:=l scope.names [] h;unfold closureFor;simp only[g,pure_bind]
theorem Xf:∀(names:List (Str×NameKind)) (acc:List (Str×Addr)),(∀y∈names,y.2 = .free->∃c,env.cells.lookup y.1⊂c)->(∀x c,acc.lookup x⊂c->env.cells.lookup x⊂c)->
  ∀x c,(dI env names acc).lookup x⊂c->env.cells.lookup x⊂c
 | [],_,_,ha,x,c,h=>ha x c h
 | (n,k)::r,acc,hh,ha,x,c,h=>by
  erw[Xf r _ (λy d=>hh y (vp _ d)) (λx c e=>?_) x c h];cases hk:(k==NameKind.free)with
  | false=>rw[hk]at e;rwa[ha x c e]
  | true=>
   rw[hk]at e;have a:k = .free:=by simpa using hk
   let⟨f,b⟩:=hh (n,k) vq a;simp only[if_true,b,Option.getD_some]at e;rw[lookup_cons]at e;cases hx:(x==n)with
   | true=>
    rw[hx]at e;have:x=n:=by simpa using hx
    rw[this,b];rwa[e]
   | false=>rw[hx]at e;rwa[ha x c e]
theorem Xe:∀(names:List (Str×NameKind)) (acc:List (Str×Addr)) (x:Str),(∃c,acc.lookup x⊂c)->∃c,(dI env names acc).lookup x⊂c
 | [],_,_,h=>h
 | (n,k)::r,acc,x,h=>by
  erw[Xe r _ x ?_];cases hk:(k==NameKind.free)with
  | false=>rwa[h]
  | true=>
   simp only[if_true];rw[lookup_cons];cases hx:(x==n)with
   | true=>rwa[_,rfl]
   | false=>rwa[h]
theorem KS:∀(names:List (Str×NameKind)) (acc:List (Str×Addr)) (x:Str),(x,NameKind.free)∈names->∃c,(dI env names acc).lookup x⊂c
 | [],_,_,h=>by simp at h
 | (n,k)::r,acc,x,h=>by
  rcases mem_cons.mp h with e | h
  .cases e;erw[Xe r _ _ ?_];simp
  .exact KS r _ x h
theorem Zt{env:Env}:∀{names:List (Str×NameKind)} {x:Str} {k:NameKind},(names.map λ(n,k)=>if(k==NameKind.free&&env.scope.kind == .function&&env.kindOf n==some .cell)then(n,NameKind.cell)else(n,k)).lookup x⊂k->
  ∃b,(x,b)∈names/\names.lookup x⊂b/\(b=k\/(b = .free/\k = .cell))
 | [],_,_,h=>by simp at h
 | (n,k₀)::r,x,k,h=>by
  have i:=@Zt env r x k;rw[uz]at h;dsimp only at h;cases hx:x==n with
  | true=>
   have e:x=n:=by simpa using hx
   subst e;erw[k₀,vq,by simp,?_];by_cases a:(k₀==NameKind.free&&env.scope.kind == .function&&env.kindOf x==some .cell)=true
   .rw[vd a]at h;simp only[lookup_cons,beq_self_eq_true]at h;simp only[Bool.and_eq_true,beq_iff_eq]at a;rwa[.inr #[a.1.1,(vL h).symm]]
   .rw[vc a]at h;simp only[lookup_cons,beq_self_eq_true]at h;rwa[.inl (vL h)]
  | false=>
   have c:(r.map λ(n,k)=>if(k==NameKind.free&&env.scope.kind == .function&&env.kindOf n==some .cell)then(n,NameKind.cell)else(n,k)).lookup x⊂k:=by
    by_cases a:(k₀==NameKind.free&&env.scope.kind == .function&&env.kindOf n==some .cell)=true
    .rw[vd a]at h;simpa only[lookup_cons,hx]using h
    .rw[vc a]at h;simpa only[lookup_cons,hx]using h
   let⟨b,d,f,g⟩:=i c;rwa[b,vp _ d,by simpa only[lookup_cons,hx]using f,g]
theorem KR:∀(names:List (Str×NameKind)) (n:Nat) (acc:List (Str×Addr)) (x:Str) (c:Addr),(cellsFrom n names acc).lookup x⊂c->n<=c\/acc.lookup x⊂c
 | [],_,_,_,_,h=>.inr h
 | (y,k)::r,n,acc,x,c,h=>by
  unfold cellsFrom at h;split at h
  .rcases KR r (n+1) _ x c h with q | q
   .exact .inl ⋯
   .rw[lookup_cons]at q;cases hx:x==y with
    | true=>rw[hx]at q;cases q;rwa[.inl (vb _)]
    | false=>rw[hx]at q;rwa[.inr q]
  .exact KR r n acc x c h
theorem BQ:∀(names:List (Str×NameKind)) (n:Nat) (acc:List (Str×Addr)),(∀x c,acc.lookup x⊂c->c<n)->(∀x y c,acc.lookup x⊂c->acc.lookup y⊂c->x=y)->
  ∀x y c,(cellsFrom n names acc).lookup x⊂c->(cellsFrom n names acc).lookup y⊂c->x=y
 | [],_,_,_,hi,x,y,c,h1,h2=>hi x y c h1 h2
 | (z,k)::r,n,acc,hb,hi,x,y,c,h1,h2=>by
  unfold cellsFrom at h1 h2;split at h1
  .rename_i hk;rw[vd hk]at h2;refine BQ r (n+1) _ (λx c e=>?_) (λx y c b a=>?_) x y c h1 h2
   .rw[lookup_cons]at e;cases hx:x==z with
    | true=>rw[hx]at e;cases e;rwa[Nat.lt_succ_self _]
    | false=>rw[hx]at e;rwa[Nat.lt_succ_of_lt (hb x c e)]
   .rw[lookup_cons]at b a;cases hx:x==z with
    | true=>
     rw[hx]at b;cases b;cases hy:y==z with
     | true=>rw[beq_iff_eq.mp hx,beq_iff_eq.mp hy]
     | false=>rw[hy]at a;rwa[ud (hb y n a) (Nat.lt_irrefl _)]
    | false=>
     rw[hx]at b;cases hy:y==z with
     | true=>rw[hy]at a;cases a;rwa[ud (hb x n b) (Nat.lt_irrefl _)]
     | false=>rw[hy]at a;rwa[hi x y c b a]
  .rename_i hk;rw[vc hk]at h2;rwa[BQ r n acc hb hi x y c h1 h2]
theorem X7:∀(names:List (Str×NameKind)) (n:Nat) (acc:List (Str×Addr)) (x:Str),(∃c,acc.lookup x⊂c)->∃c,(cellsFrom n names acc).lookup x⊂c
 | [],_,_,_,h=>h
 | (y,k)::r,n,acc,x,h=>by
  unfold cellsFrom;split
  .refine X7 r (n+1) _ x ?_;rw[lookup_cons];cases hx:x==y with
   | true=>rwa[_,rfl]
   | false=>rwa[h]
  .exact X7 r n acc x h
theorem BP:∀(names:List (Str×NameKind)) (n:Nat) (acc:List (Str×Addr)) (x:Str),(x,NameKind.cell)∈names->∃c,(cellsFrom n names acc).lookup x⊂c
 | [],_,_,_,h=>by simp at h
 | (y,k)::r,n,acc,x,h=>by
  unfold cellsFrom;rcases mem_cons.mp h with e | h
  .cases e;simp only[beq_self_eq_true,if_true];rwa[X7 r _ _ _ (by simp)]
  .split
   .exact BP r _ _ x h
   .exact BP r _ _ x h
theorem BS:∀(names:List (Str×NameKind)) (n:Nat) (acc:List (Str×Addr)) (x:Str),(x,NameKind.cell)∉names->(cellsFrom n names acc).lookup x=acc.lookup x
 | [],_,_,_,_=>rfl
 | (y,k)::r,n,acc,x,h=>by
  have a:(x,NameKind.cell)∉r:=λq=>h (vp _ q)
  unfold cellsFrom;split
  .rename_i hk;rw[BS r _ _ x a,lookup_cons];cases hx:x==y with
   | true=>rw[beq_iff_eq.mp hx,beq_iff_eq.mp hk]at h;rwa[ud vq h]
   | false=>rfl
  .exact BS r n acc x a
theorem BR:∀(names:List (Str×NameKind)) (a n:Nat) (acc:List (Str×Addr)) (x:Str) (c:Addr),a<=n->((x,NameKind.cell)∈names\/∀c,acc.lookup x⊂c->a<=c)->(cellsFrom n names acc).lookup x⊂c->a<=c
 | [],_,_,_,_,c,_,h,e=>h.elim (λz=>by simp at z) λz=>z c e
 | (y,k)::r,a,n,acc,x,c,hn,h,e=>by
  unfold cellsFrom at e;split at e
  .refine BR r a (n+1) _ x c ⋯ ?_ e;rcases h with h | h
   .rcases mem_cons.mp h with q | q
    .cases q;rwa[.inr λc q=>by rw[lookup_cons,beq_self_eq_true]at q;cases q;rwa[hn]]
    .exact .inl q
   .refine .inr λc q=>?_
    rw[lookup_cons]at q;cases hx:x==y with
    | true=>rw[hx]at q;cases q;rwa[hn]
    | false=>rw[hx]at q;rwa[h c q]
  .rename_i hk;erw[BR r a n acc x c hn ?_ e];rcases h with h | h
   .rcases mem_cons.mp h with q | q
    .cases q;rwa[ud rfl hk]
    .exact .inl q
   .exact .inr h
theorem WI:∀(names:List (Str×NameKind)) (h:Heap) (acc:List (Str×Addr)) (x:Str) (c:Addr),(cellsFrom h.objs.size names acc).lookup x⊂c->acc.lookup x⊂c\/(pushCells h names).IsCell c none
 | [],_,_,_,_,e=>.inl e
 | (y,k)::r,h,acc,x,c,e=>by
  unfold cellsFrom at e;unfold pushCells;split
  .rename_i hk;rw[vd hk]at e;rw[<-Heap.size_push h {cls:=.type "cell",data:=.cell none}]at e;rcases WI r _ _ x c e with q | q
   .rw[lookup_cons]at q;cases hx:x==y with
    | true=>
     rw[hx]at q;cases q;rwa[.inr #[_,pushCells_keeps _ _ _ _ (Heap.get?_push_size _ rfl),rfl]]
    | false=>rw[hx]at q;rwa[.inl q]
   .exact .inr q
  .rename_i hk;rw[vc hk]at e;rwa[WI r h acc x c e]
def AU{E:Nz}{Q:Env->Shared->Prop}
  (h:Q (newEnv scope s⁻¹ globals (cellsFrom (s⁻¹+1) scope.names cl) qual none .none (some env) builtinsNs) {s with heap:=pushCells (s.heap.push {cls:=.type "dict",data:=.dict #[]}) scope.names}) :
  wpAny M A (newFunctionEnv scope globals cl [] qual none .none (some env)) Q E s:=by
 simp only[newFunctionEnv,Option.isSome_some,if_true];erw[ug (wpAny_alloc ?_)];erw[ug (wpAny_layCells _ (λc a b=>by cases hkc:a==NameKind.cell<;>simp[hkc]) _ _ _ _ ?_)];rw[show({s with heap:=s.heap.push {cls:=.type "dict",data:=.dict #[]}}:Shared).heap.objs.size=s⁻¹+1 from Heap.size_push ..];rw[List.forIn_nil];rwa[ug (uf (uf h))]
noncomputable def ny(X:Cx)(scope:Scope)(ow:L8)(ci:L6)(C:Addr)(s₀:Shared)(H₀:Hp)(ex:L7)(pn:Ny):Cx:=
 {X with N:=ow++ci.map λj=>X.N.getD j "",s₀:=s₀,H₀:=H₀,env:=compEnvC scope (cellsFrom (C+1) scope.names (dI X.env scope.names [])) C X.env,outer:=X.stack,stack:=X.stack,ex:=ex,fn:=λx=>scope.names.lookup x==some .cell,pn:=pn,xe:=λq q=>False}
structure cq(X:Cx)(scope:Scope)(ow:L8)(ci:L6):Prop where
 kind:scope.kind = .function
 cell:∀y∈scope.names,y.2 = .cell->scope.names.lookup y.1⊂.cell
 names:∀y∈scope.names,y.2 = .local->scope.names.lookup y.1⊂.local
 free:∀y∈scope.names,y.2 = .free->X.env.kindOf y.1⊂.cell\/X.env.kindOf y.1⊂.free
 ix:∀j∈ci,j<X.N.length/\scope.names.lookup (X.N.getD j "")⊂.free
noncomputable def oA(dQ:Scope)(N:L8)(scope:Scope)(ci:L6):Bool:=
 scope.kind == .function&&scope.names.all (λy=>y.2 != .cell||scope.names.lookup y.1==some .cell)&&scope.names.all (λy=>y.2 != .local||scope.names.lookup y.1==some .local) &&
 scope.names.all (λy=>y.2 != .free||dQ.names.lookup y.1==some .cell||dQ.names.lookup y.1==some .free)&&ci.all (λj=>decide (j<⇑N)&&scope.names.lookup (N.getD j "")==some .free)
def cq.of(a:Scope)(N:L8)(c:X.env.scope=a)(d:X.N=N)(h:oA a N scope ci=true):cq X scope ow ci:=by
 subst c d;unfold oA at h;simp only[Bool.and_eq_true,all_eq_true,Bool.or_eq_true,bne_iff_ne,ne_eq,beq_iff_eq,decide_eq_true_eq]at h;let⟨⟨⟨⟨f,g⟩,i⟩,k⟩,l⟩:=h;erw[f,λy b e=>(g y b).resolve_left λz=>z e,λy b e=>?_,λy b e=>?_,λj m=>l j m]
 .rcases i y b with z | z
  .exact ud e z
  .exact z
 .rcases k y b with(z | z) | z
  .exact ud e z
  .exact .inl z
  .exact .inr z
def j2{a:Hp}(N:L8)(e:X.N=N)(h:(ow++ci.map λj=>N.getD j "").Nodup):(ny X scope ow ci C s₀ a ex pn).N.Nodup:=by
 subst e;rwa[h]
noncomputable def oy(σ:St)(j:Nat):N5:=match σ[j]? with | some o=>o | none=>none
noncomputable def dH(n:Nat)(ci:L6)(σ:St):St:=List.replicate n none++ci.map (oy σ)
def oQ(wi:TI)(n:Nat)(ci:L6)(g:TG)(tf:TT)(te:TE):TE:=λσ H Q=>wi σ H λJ H1=>∃W:Nat->Nat->N4->Hp->Prop,(∃m,W 0 m [] H1)/\∀i m ys H,W i m ys H->
 (J.stop i H/\⇑ys<=sizeLine/\∀p,H p=none->Q (.ref p) (upd H p (.lst ys)))\/
 (J.go i H/\∃N:N4->Hp->Prop,(∀ys' H',N ys' H'->∃m',m'<m/\W (i+1) m' ys' H')/\∀x H',J.lV i H x H'->g x (dH n ci σ) H' λσ2 H2=>tf σ2 H2 λb H3=>
  if b=true then te σ2 H3 λv H4=>⇑ys<sizeLine/\N (ys++[v]) H4 else N ys H3)
section
variable{X:Cx}{pins:Ny}{σ:St}{H:Hp}{s:Shared}{elt iter tg:Expr}{ifs:Nt}{scope:Scope}{pos:Pos}{ow:L8}{ci:L6}{g:TG}{tf:TT}{te:TE}
def cq.cells(S:cq X scope ow ci)(b:X.Ok):∀y∈scope.names,y.2 = .free->∃c,X.env.cells.lookup y.1⊂c:=λy a e=>b.has y.1 (S.free y a e)
def cq.sub(S:cq X scope ow ci)(a:X.Ok):∀x c,(dI X.env scope.names []).lookup x⊂c->X.env.cells.lookup x⊂c:=
 Xf scope.names [] (S.cells a) λq q e=>by simp at e
def cq.AQ(S:cq X scope ow ci)(a:X.Ok)(h:(cellsFrom (C+1) scope.names (dI X.env scope.names [])).lookup x⊂c):C+1<=c\/X.env.cells.lookup x⊂c:=
 (KR _ _ _ _ _ h).imp id (S.sub a x c)
def NT(S:cq X scope ow ci)(I:Inv X pins σ H s)(f:s⁻¹<=C)
  (a:∀b∈ex,b<s⁻¹/\fZ X pins H b):(ny X scope ow ci C s H ex pn).Ok where
 mod:=I.ok.mod
 kind:=S.kind
 glob:=I.ok.glob
 blt:=I.ok.blt
 above:=f
 inj:=BQ scope.names (C+1) _ (λx c e=>by
   let⟨v,q⟩:=I.cell x c (S.sub I.ok x c e);rwa[Nat.lt_succ_of_le (vY (Nat.lt_of_lt_of_le q.lt f))]) λx y c i j=>I.ok.inj x y c (S.sub I.ok x c i) (S.sub I.ok y c j)
 has:=λx h=>by
  have n:∃k,(relabel scope X.env).names.lookup x⊂k/\(k = .cell\/k = .free):=by
   rcases h with h | h
   .exact#[_,h,.inl rfl]
   .exact#[_,h,.inr rfl]
  let⟨k,t,r⟩:=n;let⟨m,l,Z,e⟩:=Zt (env:=X.env) t;have g:m = .cell\/m = .free:=by
   rcases e with e | ⟨e,Z⟩
   .subst e;rwa[r]
   .exact .inr e
  rcases g with g | g
  .subst g;rwa[BP scope.names _ _ x l]
  .subst g;rwa[X7 scope.names _ _ x (KS scope.names [] x l)]
 r6:=λx c h e=>vW (vW f (Nat.le_succ _)) (BR scope.names (C+1) (C+1) _ x c (vb _) (.inl (PySem.mem_of_lookup (beq_iff_eq.mp h))) e)
 hd:=I.ok.hd
 frames:=I.ok.frames
 oY:=.inl rfl
 Aa:=λb d=>#[vE (Nat.lt_of_lt_of_le (a b d).1 f),λx c e=>(S.AQ I.ok e).elim (λq z=>Nat.lt_irrefl _ (Nat.lt_of_lt_of_le (z▸(a b d).1) (vW f (vW (Nat.le_succ _) q)))) λq=>(a b d).2.2.2.2.2.1 x c q]
 bs:=I.bs
 ox:=vW I.ok.ox I.sz
 mS:=λb o e d=>by
  let⟨Z,Z,Z,p,Z⟩:=(a b d).2;rcases p with z | z
  .exact I.ok.mS b o e z
  .exact ud (Nat.lt_of_lt_of_le (vI e) (vW I.ok.ox z)) (Nat.lt_irrefl _)
 nE:=λb d z=>by
  let⟨Z,i,j,Z⟩:=(a b d).2;rcases mem_cons.mp (I.iX b z)with e | e
  .exact i e
  .exact j e
 gO:=I.stack
 pA:=I.iB
def G1(S:cq X scope ow ci)(I:Inv X pins σ H s){h:Nw}(B:s⁻¹<=C)
  (D:∀b∈ex,b<s⁻¹/\fZ X pins H b) (W:h₁.Ns C h) (k:∀b o,s.heap.get? b⊂o->h₁.get? b⊂o)
  (A:∀x c,(cellsFrom (C+1) scope.names (dI X.env scope.names [])).lookup x⊂c->(dI X.env scope.names []).lookup x⊂c\/h₁.IsCell c none) :
  Inv (ny X scope ow ci C s H ex (X.pn++pins)) [] (dH ⇑ow ci σ) H {s with heap:=h₁,toks:=t₁}:=by
 have ok:=NT (pn:=X.pn++pins) S I B D;erw[ok,rfl,I.bare,Un.kept k,#[h,W,λi x v O f P=>?_],λx c e=>?_,I.cK.fresh B,λx c e=>(S.AQ I.ok e).elim (λq=>I.cK.fresh (vW B (vW (Nat.le_succ _) q))) (I.d0 x c),λp Y=>?_,I.cK.kept k,?_]
 .have l:(ow++ci.map λj=>X.N.getD j "")[i]?⊂x:=O;unfold dH at f;by_cases F:i<⇑ow
  .rw[vB #v[F],List.getElem?_replicate,vd F]at f;cases f
  .rw[vC #v[F],vv,length_replicate]at f;rw[vC ⋯,vv]at l;cases hj:ci[i-⇑ow]? with
   | none=>rw[hj]at f;cases f
   | some j=>
    rw[hj]at l f;let⟨U,E⟩:=S.ix j (vm hj);have w:X.N.getD j ""= x:=vL l;have Q:X.N[j]?⊂x:=by
     rw[<-w,vy,vz U];rfl
    have R:σ[j]?⊂(some v):=by
     have a:oy σ j⊂v:=vL f;unfold oy at a;cases q:σ[j]? with
     | none=>rw[q]at a;cases a
     | some o=>rw[q]at a;rw[show o⊂v from a]
    rw[w]at E;have g:(x,NameKind.free)∈scope.names:=PySem.mem_of_lookup E;have L:=S.free _ g rfl;let⟨m,_,G⟩:=I.loc;have K:tJ X.env.scope x:=by
     rcases L with q | q
     .exact .inr (.inl q)
     .exact .inr (.inr q)
    let⟨u,r,Z⟩:=G j x v Q R K;erw[u,r,.inr #[?_,?_]]
    .rcases P with q | q | q
     .let⟨k',_,h2,h3⟩:=Zt (env:=X.env) q
      lia
     .exact .inl q
     .exact .inr q
    .rcases Z with⟨q,_⟩ | ⟨_,c,T,t⟩
     .have M:X.env.kindOf x⊂.local:=q;rcases L with z | z<;>(rw[z]at M;cases M)
     .let⟨N,y⟩:=KS (env:=X.env) scope.names [] x g;have e:=S.sub I.ok x N y;rw[T]at e;cases e;erw[c,?_,t.keeps k];show(cellsFrom (C+1) scope.names (dI X.env scope.names [])).lookup x⊂c;rw[BS scope.names _ _ x λz=>?_]
      .exact y
      .have:=S.cell _ z rfl;rw[E]at this;cases this
 .rcases A x c e with q | q
  .let⟨v,q⟩:=I.cell x c (S.sub I.ok x c q);rwa[v,q.keeps k]
  .exact#[_,q]
 .have J:p∈X.pn++pins:=by
   rcases vh.mp Y with z | z
   .exact z
   .cases z
  let⟨e,n,ne,nf,d⟩:=I.pin p J;erw[k _ _ e,n,vE (Nat.lt_of_lt_of_le (vI e) B),λz=>?_,d];rcases mem_cons.mp (I.iX p.1 z)with q | q
  .exact ne q
  .exact nf q
 .show(dH ⇑ow ci σ).length=(ow++ci.map λj=>X.N.getD j "").length;simp[dH]
def Inv.forget{S':St}(I:Inv X pins S' H s)(n:Nat)(ci:L6)(a:St)(c:⇑(dH n ci a)=X.N.length)(h:∀i v,n<=i->(dH n ci a)[i]?⊂(some v)->S'[i]?⊂(some v)):Inv X pins (dH n ci a) H s:=
 I.weak (by rw[c,I.len]) λi v e=>by
  by_cases b:n<=i
  .exact h i v b e
  .unfold dH at e;rw[vB #v[b],List.getElem?_replicate,vd ⋯]at e;cases e
def g0(n:Nat)(g:TG):Prop:=∀x σ H (Q:St->Hp->Prop),g x σ H Q->g x σ H λσ2 H2=>(∀(i:Nat) v,n<=i->σ[i]?⊂(some v)->σ2[i]?⊂(some v))/\Q σ2 H2
def J3(h:i<n):g0 n (cC i):=λx b H Q q=>#[λj v a e=>by rw[List.getElem?_set_ne ⋯];rwa[e],q]
def YW{K:cG}{n i j:Nat}(hi:i<n)(p:j<n):g0 n (nH K 2 (ec (cC i) (ec (cC j) nG))):=λx t H Q q=>by
 let⟨a,o,b,c,d,v,r,f,m,l,g,h,q⟩:=q;erw[a,o,b,c,d,v,r,f,m,l,g,h,λk u s e=>?_,q];rw[List.getElem?_set_ne ⋯,List.getElem?_set_ne ⋯];rwa[e]
def WJ{E:Nz}{tn:Nat->Heap->Prop}{RR:Value->Addr->Result->Shared->Prop}(hc:X.calm=true)(S:cq X scope ow ci)(hk:g0 ⇑ow g)
  (a:∀C F y ex pn,PG (ny X scope ow ci C F y ex pn) tg g/\PF (ny X scope ow ci C F y ex pn) ifs tf/\PE (ny X scope ow ci C F y ex pn) elt te)
  (I:Inv X pins σ H s) (T:Turn X.prog X.w X.K tg J fp it tn) (st:tn 0 s.heap) (hf:∀b∈fp,fZ X pins H b) (Z:N4->Hp->Prop)
  (W:Nat->Nat->N4->Hp->Prop) (w0:∃m,W 0 m [] H)
  (aN:∀i m ys H,W i m ys H->(J.stop i H/\⇑ys<=sizeLine/\Z ys H)\/
   (J.go i H/\∃N:N4->Hp->Prop,(∀aO H',N aO H'->∃m',m'<m/\W (i+1) m' aO H')/\∀x H',J.lV i H x H'->g x (dH ⇑ow ci σ) H' λaP H2=>tf aP H2 λb H3=>
    if b=true then te aP H3 λv H4=>⇑ys<sizeLine/\N (ys++[v]) H4 else N ys H3))
  (aW:∀D C s' H' m ys,Inv X pins σ (upd H' D (.lst ys)) s'->H' D=none->Z ys H'->s'.heap.Ns C m->s⁻¹<=C->C≠D->H' C=none->RR (.ref D) C (.ok .next) s') :
  wpAny (model X.prog X.w) X.A (newList []) (λacc aL=>wpAny (model X.prog X.w) X.A (newFunctionEnv scope X.env.globals (dI X.env scope.names []) [] X.env.qual none .none (some X.env)) (λa6 aM=>
   codeAny (model X.prog X.w) X.A (.compStart (.ListComp elt [#[tg,iter,ifs,0]] scope pos) 0 (.ref it) acc {a6 with scope:=relabel scope X.env}) (RR acc a6.locals) aM) E aL) E s:=by
 erw[wpAny_newObj_type (AU ?_)];dsimp only;generalize O:({s with heap:=s.heap.push {cls:=.type "list",dict:=none,data:=.seq ([]:L9).toArray}}:Shared)=s3;have e3:s3.heap=s.heap.push {cls:=.type "list",dict:=none,data:=.seq ([]:L9).toArray}:=by rw[<-O]
 rw[<-e3];generalize ad:pushCells (s3.heap.push {cls:=.type "dict",data:=.dict #[]}) scope.names=h₁;have k3:∀b o,s.heap.get? b⊂o->s3.heap.get? b⊂o:=λb o e=>by rw[e3];rwa[vJ _ e]
 have hsz:s3⁻¹=s⁻¹+1:=by rw[e3,Heap.size_push]
 have I3:Inv X pins σ H s3:=by rw[<-O];rwa[I.kept (t':=s.toks) λb o e=>vJ _ e]
 have b2:s3.heap.get? s⁻¹=some {cls:=.type "list",dict:=none,data:=.seq ([]:L9).toArray}:=by rw[e3];rwa[Heap.get?_push_size _ rfl]
 generalize ac:s⁻¹=D at *;generalize l:s3⁻¹=C at *;have A:D<C:=⋯
 have aq:H D=none:=I.cK.fresh (Nat.le_of_eq ac);have aX:fZ X pins H D:=I.gz (Nat.le_of_eq ac) aq;have ae:∀(b:Addr) o,s.heap.get? b⊂o->b<D:=λb o e=>by rw[<-ac];rwa[vI e]
 have bb:∀(b:Addr) o,s3.heap.get? b⊂o->b<C:=λb o e=>by rw[<-l];rwa[vI e]
 have a8:∀b∈fp,b<D:=λb a=>by
  let⟨o,e,_⟩:=T.obj 0 _ st b a;rwa[ae b o e]
 have G:∀b∈D::fp,b<s3⁻¹/\fZ X pins H b:=λb a=>by
  rw[l];rcases mem_cons.mp a with rfl | a
  .exact#[A,aX]
  .exact#[vZ (a8 b a) A,hf b a]
 have kk:∀b o,s3.heap.get? b⊂o->h₁.get? b⊂o:=λb o e=>by rw[<-ad];rwa[pushCells_keeps _ _ b o (vJ _ e)]
 have M:h₁.Ns C λ_=>none:=by rw[<-ad,<-l];rwa[(Heap.Ns.new s3.heap (.type "dict")).keeps (pushCells_keeps _ _)]
 have ax:∀x c,(cellsFrom (C+1) scope.names (dI X.env scope.names [])).lookup x⊂c->(dI X.env scope.names []).lookup x⊂c\/h₁.IsCell c none:=λx c e=>by
  rw[<-ad];erw[WI scope.names _ _ x c ?_];rw[Heap.size_push,l];rwa[e]
 let⟨hg,au,he⟩:=a C s3 H (D::fp) (X.pn++pins);generalize w:ny X scope ow ci C s3 H (D::fp) (X.pn++pins)=Y at hg au he;have f:Y.prog=X.prog:=by rw[<-w];rfl
 have Yw:Y.w=X.w:=by rw[<-w];rfl
 have YK:Y.K=X.K:=by rw[<-w];rfl
 have YA:Y.A=X.A:=by rw[<-w];rfl
 have Yc:Y.calm=true:=by rw[<-w];rwa[hc]
 have h:Y.env=compEnvC scope (cellsFrom (C+1) scope.names (dI X.env scope.names [])) C X.env:=by rw[<-w];rfl
 have aa:Y.xe=λ_ _=>False:=by rw[<-w];rfl
 have am:Y.fs=fB X.stack:=by rw[<-w];rfl
 have al:Y.ex=D::fp:=by rw[<-w];rfl
 have aU:Y.pn=X.pn++pins:=by rw[<-w];rfl
 have Ys:Y.s₀=s3:=by rw[<-w];rfl
 have YH:Y.H₀=H:=by rw[<-w];rfl
 have YN:⇑(dH ⇑ow ci σ)=Y.N.length:=by rw[<-w];show(dH ⇑ow ci σ).length=(ow++ci.map λj=>X.N.getD j "").length;simp[dH]
 have af:∀b∈D::fp,b≠Y.env.locals/\b∉Y.fs/\b∈Y.ex/\(∀x c,Y.env.cells.lookup x⊂c->c≠b)/\∀p∈Y.pn,p.1≠b:=λb a=>by
  let⟨h0,h1,h2,h3,h4,h5⟩:=(G b a).2;erw[by rw[h];rwa[vE (l▸(G b a).1)],λz=>?_,by rw[al];rwa[a],λx c e=>?_,by rw[aU];rwa[h5]]
  .rw[am]at z;rcases mem_cons.mp (I.iX b z)with q | q
   .exact h1 q
   .exact h2 q
  .rw[h]at e;rcases S.AQ I.ok e with q | q
   .exact λz=>Nat.lt_irrefl _ (Nat.lt_of_lt_of_le (l▸(G b a).1) (vW (Nat.le_succ _) (z▸q)))
   .exact h4 x c q
 have aD:D∉fp:=λz=>Nat.lt_irrefl _ (a8 D z)
 have aB:∀s4:Shared,Inv Y [] (dH ⇑ow ci σ) H s4->tn 0 s4.heap->s4.heap.PlainList D #[]->
   codeAny (model X.prog X.w) X.A (.compLoop (.ListComp elt [#[tg,iter,ifs,0]] scope pos) 0 (.ref it) (.ref D) (compEnvC scope (cellsFrom (C+1) scope.names (dI X.env scope.names [])) C X.env)) (RR (.ref D) C) s4:=by
  intro s4 J4 Q ag;let⟨m0,w0⟩:=w0;refine nC (λn s'=>∃i ys k H',Inv Y [] (dH ⇑ow ci σ) H' s'/\tn i s'.heap/\(∀b∈fp,H' b=none)/\H' D=none/\s'.heap.PlainList D k/\Vals ys k.toList/\W i n ys H') ?_ m0
   #[0,[],#[],H,J4,Q,λb a=>(hf b a).1,aq,ag,.nil,w0]
  rintro n s5 ⟨i,ys,k,U,J5,aI,ao,t,⟨aF,b7⟩,R,w5⟩;have vl:⇑ys=k.size:=by have:=⇑R;simpa using this
  have lz:∀{H':Hp} {s':Shared} {ai:St},Inv Y [] ai H' s'->H' D=none->∀{o:Obj},s'.heap.get? D⊂o->(∀v,o.data≠.cell v)->Inv Y [(D,o)] ai H' s':=λ{H' s' ai} K hD o e d=>
   K.pins_of λp hp=>by
    have ep:p=(D,o):=by simpa using hp
    subst ep;let⟨a1,a2,_⟩:=af D vq;rwa[e,hD,a1,a2,d]
  have P5:=lz J5 t b7 (λv z=>by cases z);have ab:∀{H':Hp},(∀b∈fp,H' b=none)->∀{o:Obj},∀b∈fp,fZ Y [(D,o)] H' b:=λ{H'} hn {o} b a=>by
   let⟨a1,a2,a3,a4,a5⟩:=af b (vp _ a);erw[hn b a,a1,a2,.inl a3,a4,λp hp=>?_];rcases vh.mp hp with q | q
   .exact a5 p q
   .have ep:p=(D,o):=by simpa using q
    subst ep;rwa[λz=>aD (by have z':D=b:=z;rw[z'];rwa[a])]
  rcases aN i n ys U w5 with⟨aK,aA,z5⟩ | ⟨go,NN,ar,aJ⟩
  .have d:=T.done Y f Yw YK Yc i [(D,_)] s5 _ U (λ_ _=>False) P5 (ab ao) aI aK;rw[YA]at d;erw[cM d λr s6 z_=>?_];obtain⟨hr,J6⟩:=z_
   subst hr;have D6:=(J6.pin (D,_) (mem_append_right _ vq)).1;let⟨mC,av,_⟩:=J6.loc;rw[h]at av;have aw:s6.heap.Ns C mC:=av;have b1:U C=none:=by have:=J6.free;rw[h]at this;rwa[this]
   erw[aW D C s6 U mC ys ?_ t z5 aw (vY A) (vO A) b1];have B:=J6.base;rw[am,al,YH,Ys]at B;have aC:∀b o,s.heap.get? b⊂o->b≠D/\b≠C:=λb o e=>#[vE (ae b o e),vE (vZ (ae b o e) A)]
   have P:∀b o,s.heap.get? b⊂o->b∉fp->b∉D::fp:=λb o e a z=>by
    rcases mem_cons.mp z with q | q
    .exact(aC b o e).1 q
    .exact a q
   have uN:Un (fB X.stack) fp H (upd U D (.lst ys)) s.heap s6.heap:=by
    erw[λb o e n a hx=>B.keep b o (k3 b o e) n a (P b o e hx),λb o e n a hx=>B.slot b o (k3 b o e) n a (P b o e hx),λb o e n hx=>?_,λb o e hx=>B.there b o (k3 b o e) (P b o e hx),λb xs q=>?_,λb o u q=>?_,λb ps q=>?_]
    .rw[jh (aC b o e).1];rwa[B.free b o (k3 b o e) n (P b o e hx)]
    .rw[jh (je (B.dU b xs q) t)];rwa[B.dU b xs q]
    .rw[jh (je (B.g5 b o u q) t)];rwa[B.g5 b o u q]
    .let⟨mo,q'⟩:=B.iY b ps q;rwa[mo,by rw[jh (je q' t)];rwa[q']]
   have ay:fA X.prog X.w U s6.heap:=by rw[<-f,<-Yw];rwa[J6.cK]
   have az:fA X.prog X.w (upd U D (.lst ys)) s6.heap:=λb u e=>by
    by_cases as:b=D
    .subst as;rw[jy]at e;cases e;rwa[aA,k.toList,_,R,#v[D6]]
    .rw[jh as]at e;rwa[(ay b u e).iu (λc v _ q=>q) (λc q=>by rw[jh (je q t)];rwa[q]) λc xs q=>by rw[jh (je q t)];rwa[q]]
   erw[I.pY (by rw[J6.os,Ys,<-O]) uN az J6.bare λb a=>?_]
   let⟨h0,h1,h2,h3,h4,h5⟩:=hf b a;rwa[h3,h1,h4,h5]
  .have d:=T.item Y f Yw YK Yc i [(D,_)] s5 _ U (λ_ _=>False) P5 (ab ao) aI go;rw[YA]at d;erw[cM d λr s6 z_=>?_];obtain⟨u,hr,h6⟩:=z_
   subst hr;erw[cM h6 λ_ s7 z_=>?_];obtain⟨x,H7,J7,r7,y7,ah,aY⟩:=z_
   have aR:=J7.pinned (ab aY) (T.obj _ _ ah);have h8:=hg _ s7 _ H7 x u _ aR r7 (hk _ _ _ _ (aJ x H7 y7));rw[f,Yw,YA,h,aa]at h8;erw[cM h8 λ_ s8 z_=>?_];obtain⟨aj,H8,J8,b5,q8⟩:=z_
   have h9:=au _ s8 aj H8 _ J8 q8;rw[f,Yw,YA,h,aa]at h9;erw[cM h9 λb s9 z_=>?_];obtain⟨H9,J9,q9⟩:=z_
   have a0:∀{H':Hp} {s':Shared},Inv Y ([(D,({cls:=.type "list",data:=.seq k aF}:Obj))]++iJ fp s7.heap) aj H' s'->Inv Y [] (dH ⇑ow ci σ) H' s'/\tn (i+1) s'.heap/\(∀b∈fp,H' b=none)/\H' D=none/\s'.heap.get? D=some {cls:=.type "list",data:=.seq k aF}:=λ{H' s'} K=>by
    have pD:=K.pin (D,_) (mem_append_right _ (mem_append_left _ vq));erw[(K.pins_of (pins':=[]) (by simp)).forget _ _ _ YN (λj v hj e=>b5 j v hj e),T.keep _ _ _ ah λb a o e=>(K.pin (b,o) (mem_append_right _ (mem_append_right _ (yI a e)))).1,λb a=>?_,pD.2.1,pD.1];let⟨o,e,_⟩:=T.obj _ _ ah b a;rwa[(K.pin (b,o) (mem_append_right _ (mem_append_right _ (yI a e)))).2.1]
   cases b with
   | false=>
    rw[vc vF]at q9|-;let⟨m',hm,w9⟩:=ar _ _ q9;let⟨K9,b9,aZ,b3,e9⟩:=a0 J9;rwa[m',hm,i+1,ys,k,H9,K9,b9,aZ,b3,#[_,e9],R,w9]
   | true=>
    rw[vd rfl]at q9|-;have ap:=he _ s9 aj H9 _ J9 q9;rw[f,Yw,YA,h,aa]at ap;erw[cM ap λz aG z_=>?_];obtain⟨v,ak,aQ,b8,b4,b6⟩:=z_
    let⟨m',hm,ba⟩:=ar _ _ b6;let⟨aS,aH,an,a7,aV⟩:=a0 aQ;erw[wpAny_list_append_plain (hsz:=by rw[<-vl];rwa[vY b4]) #[_,aV] λb0 aE a9=>?_]
    let⟨a1,a2,a3,a4,a5⟩:=af D vq;have aT:Inv Y [] (dH ⇑ow ci σ) ak {aG with heap:=b0}:=aS.turned (t':=aG.toks) (λb o a e=>(a9.2 b a).trans e) a7 a1 (.inl a3) a4 (λp hp=>a5 p #v[hp]);erw[m',hm,i+1,ys++[v],k.push z,ak,aT,T.keep _ _ _ aH λb a o e=>(a9.2 b (λq=>aD (q▸a))).trans e,an,a7,aE,?_,ba];rw[Array.toList_push];rwa[R.append (.cons b8 .nil)]
 have J4:Inv Y [] (dH ⇑ow ci σ) H {s3 with heap:=h₁}:=by
  rw[<-w];rwa[G1 (t₁:=s3.toks) S I3 (Nat.le_of_eq l) G M kk ax]
 have Q:tn 0 h₁:=T.keep _ _ _ st λb _ o e=>kk b o (k3 b o e)
 have ag:h₁.PlainList D #[]:=#[_,kk _ _ b2]
 have L:=aB _ J4 Q ag;subst O;rwa[codeAny_compStart_list L (T.self _ 0 _ _ _ Q L)]
variable{wi:TI}
def JL(P:X.calm=true)(S:cq X scope ow ci)(R:g0 ⇑ow g)(hi:PI X tg iter wi)
  (n:∀C c a ex pn,PG (ny X scope ow ci C c a ex pn) tg g/\PF (ny X scope ow ci C c a ex pn) ifs tf/\PE (ny X scope ow ci C c a ex pn) elt te)
  (Y:∀x,foldedSetIterable iter X.env x=pure x:=by intro Z;rfl):PE X (.ListComp elt [#[tg,iter,ifs,0]] scope pos) (oQ wi ⇑ow ci g tf te):=by
 intro d s u H Q I h;rw[eval_ListComp];erw[wpAny_comprehension_free (use:=none) rfl Y (kQ (S.cells I.ok)) S.kind S.names (cM (hi d s u H _ I h) λv s1 L=>cM L λZ s2 M=>?_)];let⟨it,fp,tn,J,H2,e,t,T,r,A,W,w0,f⟩:=M;subst e;erw[WJ (RR:=λj C=>compPost (model X.prog X.w) X.A X.xe none (EP X d u Q) j C) P S R n t T r A (λi H=>∀p,H p=none->Q (.ref p) (upd H p (.lst i))) W w0 f λD C s' H' m i K O z U N l k=>?_]
 erw[m,U,λh' q=>#[.ref D,upd H' D (.lst i),?_,rfl,z D O]];let⟨w,y,B,E,F,G⟩:=t.gz (H':=upd H' D (.lst i)) N (by rw[jh l];rwa[k]);rwa[K.turned (t':=s'.toks) (λb o n e=>(q.2 b n).trans e) w y E F G]
def YY(hc:X.calm=true)(S:cq X scope ow ci)(hk:g0 ⇑ow g)(hN:X.N.Nodup)(A:X.N[i]?⊂x)(hx:Loc X.env.scope x)(hi:PI X tg iter wi)
  (t:∀C f c ex pn,PG (ny X scope ow ci C f c ex pn) tg g/\PF (ny X scope ow ci C f c ex pn) ifs tf/\PE (ny X scope ow ci C f c ex pn) elt te)
  (y:swapsWith (.ListComp elt [#[tg,iter,ifs,0]] scope pos) (some (.Name x px)) spos.line X.env=pure true:=by rfl)
  (hf:X.fn x=true\/X.env.scope.names.lookup x⊂.local:=by and_intros)
  (hs:∀x,foldedSetIterable iter X.env x=pure x:=by intro _;rfl):PS X (.Assign [.Name x px] (.ListComp elt [#[tg,iter,ifs,0]] scope pos) spos) (oN (oQ wi ⇑ow ci g tf te) (cC i)):=by
 intro d s M H D I h;rw[exec_Assign_Name_used _ _ _ _ y];erw[ug (wpAny_standAt (ug ?_))];show wpAny _ X.A (do let _ <-comprehension (.ListComp elt [#[tg,iter,ifs,0]] scope pos) scope X.env _ (newList []) false (eval iter X.env) (some (assign (.Name x px) X.env))) _ _ s;refine ug (wpAny_mono (wpAny_comprehension_free (use:=some (assign (.Name x px) X.env)) (Q:=λ_ j=>SP X d D .next j) rfl hs (kQ (S.cells I.ok)) S.kind S.names
  (cM (hi d s M H _ I h) λv s1 h1=>cM h1 λa0 s2 h2=>?_)) (λ_ j hq=>uf (uf hq)) λ_ _ e=>e)
 let⟨it,fp,tn,J,H2,e,F,T,B,R,W,w0,k⟩:=h2;subst e;refine WJ (RR:=λl C=>compPost (model X.prog X.w) X.A X.xe (some (assign (.Name x px) X.env)) (λ_ j=>SP X d D .next j) l C) hc S hk t F T B R
  (λE H=>∀p,H p=none->cC i (.ref p) M (upd H p (.lst E)) D.nx) W w0 k λP C j H' m E K hD z hn hC r n=>?_
 let⟨O,G,U,Y,L,Z⟩:=F.gz (H':=upd H' P (.lst E)) hC (by rw[jh r];rwa[n]);show wpAny _ X.A (assign (.Name x px) X.env (.ref P)) _ _ j;erw[wpAny_assign_Name (XH K hN A hx (v:=.ref P) rfl (λs3 N z_=>?_) hf)];let⟨a,w,ha⟩:=z_;erw[m,hn.sameBut w ?_,λh' u=>?_]
 .rcases ha with q | q
  .rw[q];rwa[G]
  .exact λz=>L x a q z.symm
 .exact#[_,_,N.turned (t':=s3.toks) (λb o t e=>(u.2 b t).trans e) O G Y L Z,z P hD]
def yH{lo:Int}{n k:Nat}{ci:L6}{g:TG}{q:TT}{o:TE}{r:St}{H:Hp}{Z:Addr->N4->Hp->Prop}(c:Nat->N4->Hp->Prop)(s:c 0 [] H)
  (u:∀i ys H,i<n->c i ys H->g (.int (lo+i)) (dH k ci r) H λa H2=>q a H2 λb h=>if b=true then o a h λv j=>⇑ys<sizeLine/\c (i+1) (ys++[v]) j else c (i+1) ys h)
  (t:∀ys H,c n ys H->⇑ys<=sizeLine/\∀p,H p=none->Z p ys H) :
  ∃W:Nat->Nat->N4->Hp->Prop,(∃m,W 0 m [] H)/\∀i m ys H,W i m ys H->
   ((nQ lo n).stop i H/\⇑ys<=sizeLine/\∀p,H p=none->Z p ys H)\/
   ((nQ lo n).go i H/\∃N:N4->Hp->Prop,(∀f H',N f H'->∃l,l<m/\W (i+1) l f H')/\∀x H',(nQ lo n).lV i H x H'->g x (dH k ci r) H' λa H2=>q a H2 λb h=>
    if b=true then o a h λv j=>⇑ys<sizeLine/\N (ys++[v]) j else N ys h):=by
 erw[λi m ys H=>m=n-i/\i<=n/\c i ys H,#[n,by simp,va _,s],?_];rintro i m ys H ⟨rfl,z,p⟩;by_cases d:i<n
 .refine .inr #[d,c (i+1),λf H' w=>#[n-(i+1),⋯,rfl,d,w],λx H' y=>?_];let⟨e,y⟩:=y;subst e y;rwa[u i ys _ d p]
 .have e:i=n:=⋯
  subst e;rwa[.inl #[vb _,t ys H p]]
def Jw{K:cG}{a:Addr}{xs:N4}{k:Nat}{ci:L6}{g:TG}{r:TT}{o:TE}{s:St}{H:Hp}{Z:Addr->N4->Hp->Prop}(d:Nat->N4->Hp->Prop)(t:d 0 [] H)(z:∀i ys H,i<=⇑xs->d i ys H->cm K H a xs)
  (A:∀i x ys H,xs[i]?⊂x->d i ys H->g x (dH k ci s) H λc H2=>r c H2 λb h=>if b=true then o c h λv l=>⇑ys<sizeLine/\d (i+1) (ys++[v]) l else d (i+1) ys h)
  (u:∀ys H,d ⇑xs ys H->⇑ys<=sizeLine/\∀p,H p=none->Z p ys H) :
  ∃W:Nat->Nat->N4->Hp->Prop,(∃m,W 0 m [] H)/\∀i m ys H,W i m ys H->
   ((n6 K a).stop i H/\⇑ys<=sizeLine/\∀p,H p=none->Z p ys H)\/
   ((n6 K a).go i H/\∃N:N4->Hp->Prop,(∀f H',N f H'->∃n,n<m/\W (i+1) n f H')/\∀x H',(n6 K a).lV i H x H'->g x (dH k ci s) H' λc H2=>r c H2 λb h=>
    if b=true then o c h λv l=>⇑ys<sizeLine/\N (ys++[v]) l else N ys h):=by
 erw[λi m ys H=>m=⇑xs-i/\i<=⇑xs/\d i ys H,#[⇑xs,by simp,va _,t],?_];rintro i m ys H ⟨rfl,w,p⟩;have q:=z i ys H w p;by_cases j:i<⇑xs
 .refine .inr #[#[xs,xs[i],q,by simp[j]],d (i+1),λf H' B=>#[⇑xs-(i+1),⋯,rfl,j,B],λx H' y=>?_];let⟨e,y⟩:=y;subst e;rwa[A i x ys _ (y xs q) p]
 .have e:i=⇑xs:=⋯
  subst e;rwa[.inl #[#[xs,q,vb _],u ys H p]]
end
def Ez:(10:Nat)^250<2^831:=by decide +kernel
def CT(a : -10^250<=x)(b:x<=10^250):Builtin.Int.intBits x<=1048576:=by
 erw[vW (PySem.intBits_le_iff.mpr ?_:Builtin.Int.intBits x<=831) nofun];have:x.natAbs<=10^250:=⋯
 rwa[vD this Ez]
def uu(a : -10^250<=x)(b:x<=10^250)(c : -10^250<=y)(d:y<=10^250):IntMulOk x y:=.of_bits (CT a b) (CT c d)
section
variable{X:Cx}
def zm:gr X (binaryOp .Mult) (rI IntMulOk λi j=>.int (i*j)):=Aw λZ Z Z Z Z Z Z a q=>mul_int q a
def pP(_ j:Int):Prop:=0<j/\j<=10^250
def tK(a:0<j)(b:j<=10^250):pP i j:=#[a,b]
def Jc:gr X (binaryOp .FloorDiv) (rI pP λi j=>.int (i/j)):=Aw λi j Z Z Z Z Z a q=>by
 have b:(0:Int)<j:=a.1;have c:j<=10^250:=a.2;erw[floordiv_int ⋯ ?_ (.inl (PyProof.noPylong_of_log2 ?_))]
 .rw[Int.fdiv_eq_ediv_of_nonneg _ ⋯];rwa[q]
 .have e:j.natAbs<=10^250:=⋯
  have g:j.natAbs.log2<831:=(Nat.log2_lt ⋯).mpr (vD e Ez);lia
def HA{E:Nz}{Q:Nz}(y:A.handled=none)(d:s.heap.IsList l (intItems xs))
  (h:∀h' tk t',(∀b o,s.heap.get? b⊂o->h'.get? b⊂o)->Q (.int (preSum (numAt xs) xs.size) t') {s with heap:=h',toks:=tk}) :
  wpAny (model prog w) A (call (.builtin "sum") [.ref l]) Q E s:=by
 let⟨o,m,B,n,C⟩:=id d;have f:l≠s⁻¹:=vE (vI m);have g:(intItems xs).size=xs.size:=by simp[intItems]
 have W:=(Walks.list (prog:=prog) (w:=w) (A:=A.in1) y s⁻¹ l f (intItems xs)).toS;rw[g]at W;erw[call_sum_walkAnyS (wpAny_pyIter_list d ?_)];erw[s⁻¹,_,_,_,_,_,_,numAt xs,rfl,W,#[#[_,Heap.get?_push_size _ rfl,rfl,rfl],d.at λo e=>vJ _ e],λb a=>?_,λi v x=>intItems_at x,λz t' c=>?_]
 .rcases mem_cons.mp a with rfl | a
  .simp_all
  .obtain rfl:=vo.mp a;rwa[vI (vJ _ m)]
 .let⟨h',u,p,k,j⟩:=z;have q:u=s.gens:=c.gens;have r:p=s.drawn:=c.drawn;have t:j=s.os:=c.os;subst q r t;rwa[h h' k t' λb o e=>c.heap b o (λa=>ud (vI e) ((vo.mp a)▸Nat.lt_irrefl _)) (vJ _ e)]
def KQ(g:X.calm=true):dE X (.builtin "sum") (λxs H Q=>∃(p:Addr) (b:L5),xs=[.ref p]/\cm X.K H p (b.map V.int)/\Q (.int b.sum) H):=by
 intro f s z H xs x Q I r h;let⟨p,b,rfl,j,q⟩:=h;let⟨u,rfl,n⟩:=vals1 r;cases n;let⟨a,m,l,t⟩:=I.list j;have d:IntsAre a b:=intsAre_of m;let⟨y,k⟩:=d.allInts.items;have c:numsOf a.toArray.toList=b:=by rw[show a.toArray.toList=a from rfl,d.numsOf]
 have e:=l.isList;rw[k]at e c;rw[nums_intItems]at c;erw[HA (I.ok.hd g) e λo w v i=>?_]
 rw[preSum_eq,take_of_length_le (by simp),c];rwa[.int b.sum,H,I.kept i,#[_,rfl],q]
end
end L2
namespace Att
open PySem PySem.W PySem.Calls PyProof.Rows
theorem wE:∀(a:L5) (x:Int),x∈a->Builtin.Int.intBits x<=WData.weightAll (a.map WData.int)
 | [],_,h=>by cases h
 | n::r,x,h=>by
  show _<=WData.weight (.int n)+1+WData.weightAll (r.map WData.int);rcases mem_cons.mp h with e | h
  .subst e;have e:Builtin.Int.intBits x=WData.weight (.int x):=by
    unfold Builtin.Int.intBits WData.weight;rfl
   lia
  .have:=wE r x h;lia
def XX{l:OpenLaw}{n:Nat}{q:Program}{c:L8}{XP:(Nw)->Heap->Prop}{D:World->Heap->Prop}{d:DefRec}
  (Q:l.most⊂n) (y:d.params.defaults=[])
  (k:∀(w:World) (e b:Shared) (mg B:Nw) (fa:Addr) (o:Obj) (C u h:Value) (a:Addr) (vs:L9) (g:L5),
   Ground q c [] XP w e mg B b.heap->D w b.heap->
   b.heap.get? fa⊂o->o.data = .func (docDef d.name d.params d.body d.scope C u h)->b.heap.CodeRec u d.name->mg d.name=↥fa->
   b.heap.get? a=some {cls:=.type "list",data:=.seq vs.toArray}->IntsAre vs g->⇑g<=n->(∀x∈g,Builtin.Int.intBits x<=1048576)->b.gens = #[]->
   codeAny (model l.prog w) callerA (.call (.ref fa) #[[.ref a],[]]) (λr s'=>r = .ok (.ret (.bool true))/\OldK b.heap s'.heap/\s'.os=b.os/\AllBare s'.gens) b) :
  WalkO q c XP D l.row.toRowW d [] (λf vs=>PySem.call f vs):=by
 intro w e b mg B G Y fa o C u h I kV R M v F z N E H X t m T A O;obtain rfl:I = .none:=Dflts.none F y;obtain rfl:kV = .none:=Dflts.noKw F;let⟨a,vs,g,rfl,rfl,s,j,p⟩:=Ht Q t A;have i:∀x∈g,Builtin.Int.intBits x<=1048576:=by
  have U:(WData.list (g.map WData.int)).weight<=2^20:=(layableW_iff.mp (layW_cons m).1).2.2;intro x W;rwa[vW (wE g x W) U]
 erw[enter_call (codeAny_mono (k w e b mg B fa o C u h a vs g G Y R (fd_plain M) v z s j p i N) λr s' S=>?_)];let⟨rfl,J,K,L⟩:=S;rwa[.inl #[.bool true,.bool true,[],rfl,λZ=>rfl,.bool true,HW l _,λZ=>#[List.Pairwise.nil,λZ P=>(nomatch P)]],J,K,L]
end Att
namespace L2
open PySem PySem.Spec PyProof.Rows
def Le{l:PySem.W.OpenLaw}{n k:Nat}{q:Program}{i:L8}{XP:(Nw)->Heap->Prop}{D:World->Heap->Prop}{d:DefRec}{K:Params->cG}{CX:nP}{sp:cG->Sp}{x:Str}
  (T:l.most⊂n) (z:n<=sizeLine) (t:d.params.defaults=[]) (U:dF k callerA)
  (O:∀(w:World) (h:Heap),D w h->(K w.params).In h)
  (F:∀(w:World) (mg:Nw) (fa:Addr) (h:Heap),(K w.params).In h->h.Ns mainGlobals mg->mg d.name=↥fa->
   ∃fd:FuncData,(∀(s:Shared) (u:Value),BindsTo s fd #[[u],[]] [(x,u)])/\
    ∀base:Heap,(K w.params).In base->base.Ns mainGlobals mg->eB l.prog w (K w.params) mg base CX k fa fd [x] (sp (K w.params)))
  (B:∀(K:cG) (H:Hp) (a:Addr) (m:L5),⇑m<=n->(∀x∈m,Builtin.Int.intBits x<=1048576)->rT H->cm K H a (m.map V.int)->sp K [.ref a] H (λv _=>v = .bl true) λ_ _ _=>False)
  (r:∀(H:Hp) (s:Shared) (e:Value) (s':Shared),CX [] H s (λ_ _ _=>False) e s'->False) :
  PySem.W.WalkO q i XP D l.row.toRowW d [] (λf vs=>PySem.call f vs):=by
 erw[Att.XX T t λw I p mg mb fa o pm W J a vs m G Y Z X R y j g b c S=>?_]
 have C:=O w _ Y;let⟨fd,P,L⟩:=F w mg fa _ C G.T.g y;rwa[IL C G.T.g G.T.b G.T.builtins G.T.nolimit S j g (vW b z) U L P (λH M N=>B _ H a m b c M N) λH e s'=>r H p e s']
def SP.nx{R:St->Hp->Prop}(a:∀S' H',R S' H'->D.nx S' H')(h:SP X pins {D with nx:=R} f s):SP X pins D f s:=by
 cases f with
 | next=>let⟨S',H',I,q⟩:=h;rwa[S',H',I,a _ _ q]
 | brk=>rwa[h]
 | cont=>rwa[h]
 | ret u=>rwa[h]
def CB(c:TT)(t u:TS):TS:=λD σ H=>∃R:St->Hp->Prop,(∀S' H',R S' H'->D.nx S' H')/\sF c t u {D with nx:=R} σ H
def qP(j:PT X c tc)(g:lM X a t)(i:lM X b u):PS X (.If c a b pos) (CB tc t u):=by
 intro d s k H D I h;let⟨R,e,h⟩:=h;rwa[cM (jO j g i d s k H _ I h) λf l q=>q.nx e]
open PySem
def Jk:bootBuiltins "len"= some (.builtin "len"):=by decide +kernel
def X0:bootBuiltins "max"= some (.builtin "max"):=by decide +kernel
def X1:bootBuiltins "min"= some (.builtin "min"):=by decide +kernel
def Bw:bootBuiltins "sum"= some (.builtin "sum"):=by decide +kernel
def Qw:bootBuiltins "isinstance"= some (.builtin "isinstance"):=by decide +kernel
def Bv:bootBuiltins "abs"= some (.builtin "abs"):=by decide +kernel
def Xa:bootBuiltins "sorted"= some (.builtin "sorted"):=by decide +kernel
def ZP:bootBuiltins "list"= some (.type "list"):=by decide +kernel
def Zj:bootBuiltins "tuple"= some (.type "tuple"):=by decide +kernel
def kK:bootBuiltins "dict"= some (.type "dict"):=by decide +kernel
def XZ:bootBuiltins "enumerate"= some (.type "enumerate"):=by decide +kernel
def NU:bootBuiltins "zip"= some (.type "zip"):=by decide +kernel
def FT:bootBuiltins "reversed"= some (.type "reversed"):=by decide +kernel
section
variable{X:Cx}{tg:Expr}
def Fd:v3 X (λx lo hi H Q=>∃z,x = .str z/\⇑z<=sizeLine/\Q (.str (Txt.slice z lo hi)) H):=by
 intro b s n H x v p r lo hi o Q I m c g e h;let⟨z,rfl,d,q⟩:=h;let⟨t,rfl⟩:=m;erw["str",_,F.slot_str_getitem.lookup,typeIs_str _ _ _,?_];have a:∀(lo hi:Nu),Q (.str (Txt.slice z lo hi)) H->∀f k,EP X b n Q (.str (Txt.slice z lo hi) f) {s with toks:=k}:=λlo hi q f k=>#[.str _,H,I.tok _,#[_,rfl],q]
 cases g with
 | none=>
  cases e with
  | none=>rwa[wpAny_getItem_str_slice (l:=none) (u:=none) (st:=none) c rfl (post_val_or_str #[vW (Txt.slice_le z _ _) d,a _ _ q])]
  | int j uj=>rwa[wpAny_getItem_str_slice (l:=none) (u:=some (j,uj)) (st:=none) c rfl (post_val_or_str #[vW (Txt.slice_le z _ _) d,a _ _ q])]
 | int i ui=>
  cases e with
  | none=>rwa[wpAny_getItem_str_slice (l:=some (i,ui)) (u:=none) (st:=none) c rfl (post_val_or_str #[vW (Txt.slice_le z _ _) d,a _ _ q])]
  | int j uj=>rwa[wpAny_getItem_str_slice (l:=some (i,ui)) (u:=some (j,uj)) (st:=none) c rfl (post_val_or_str #[vW (Txt.slice_le z _ _) d,a _ _ q])]
def rd_str{R:Str->Prop}(h:R z):∃a,V.str z = .str a/\R a:=#[z,rfl,h]
end
section
variable{X:Cx}{K:cG}
def Yu(e:X.K=K):rP X (oI K):=by subst e;rwa[jv]
def Wi(e:X.K=K):rP X (pM K):=by subst e;rwa[jp]
def Xd(e:X.K=K):dE X (.builtin "len") (λxs H Q=>∃x n,xs=[x]/\tx K x H n/\Q (.int n) H):=by subst e;rwa[jU]
def kr(e:X.K=K):gr X (compareOp .In) (Ct K false):=by subst e;rwa[wc]
end
mutual
inductive DV(H:Hp):V->PyData->Prop
 | dj:DV H .dj .none
 | bl (b:Bool):DV H (.bl b) (.bool b)
 | int (i:Int):DV H (.int i) (.int i)
 | str (x:Str):DV H (.str x) (.str x)
 | lst {a:Addr} {xs:N4} {ds:List PyData}:H a⊂.lst xs->ig H xs ds->DV H (.ref a) (.list ds)
 | tup {a:Addr} {xs:N4} {ds:List PyData}:H a⊂.tup xs->ig H xs ds->DV H (.ref a) (.tuple ds)
inductive ig(H:Hp):N4->List PyData->Prop
 | nil:ig H [] []
 | cons {x:V} {d:PyData} {xs:N4} {ds:List PyData}:DV H x d->ig H xs ds->ig H (x::xs) (d::ds)
end
mutual
theorem DV.mono{H H':Hp}(k:cj H H'):∀{v:V} {d:PyData},DV H v d->DV H' v d
 | _,_,.dj=>.dj
 | _,_,.bl b=>.bl b
 | _,_,.int i=>.int i
 | _,_,.str x=>.str x
 | _,_,.lst e r=>.lst (k _ _ e) (ig.mono k r)
 | _,_,.tup e r=>.tup (k _ _ e) (ig.mono k r)
theorem ig.mono{H H':Hp}(k:cj H H'):∀{vs:N4} {ds:List PyData},ig H vs ds->ig H' vs ds
 | _,_,.nil=>.nil
 | _,_,.cons a r=>.cons (DV.mono k a) (ig.mono k r)
end
section
variable{X:Cx}
mutual
theorem Zn{p:St}{H:Hp}(I:Inv X pins p H s):∀{v:V} {d:PyData} {u:Value},DV H v d->RelV v u->∃as,Reads s.heap u d as
 | _,_,_,.dj,r=>#[_,by cases r;rwa[Reads.none]]
 | _,_,_,.bl b,r=>#[_,by cases r;rwa[Reads.bool b]]
 | _,_,_,.int i,r=>by let⟨t,rfl⟩:=r;rwa[_,Reads.int i t]
 | _,_,_,.str x,r=>by let⟨t,rfl⟩:=r;rwa[_,Reads.str x t]
 | _,_,_,.lst e q,r=>by
  cases r;let⟨Z,a,c,g,k⟩:=I.cK _ _ e;let⟨as,f⟩:=K2 I q g;rwa[_,reads_list_at k rfl rfl #v[f]]
 | _,_,_,.tup e q,r=>by
  cases r;let⟨a,g,m,Z⟩:=I.tuple (cL.of e);let⟨o,l,h,n,j⟩:=m;let⟨as,f⟩:=K2 I q g;rwa[_,reads_tuple_at l h j #v[f]]
theorem K2{d:St}{H:Hp}(I:Inv X pins d H s):∀{vs:N4} {ds:List PyData} {us:L9},ig H vs ds->Vals vs us->∃as,ReadsAll s.heap us ds as
 | _,_,_,.nil,r=>by cases r;rwa[_,ReadsAll.nil]
 | _,_,_,.cons a q,r=>by
  cases r with
  | cons r1 r2=>
   let⟨as,b⟩:=Zn I a r1;let⟨e,c⟩:=K2 I q r2;rwa[_,ReadsAll.cons b c]
end
def Ak(f:X.A.units+64<cLine):gr X (compareOp .Eq) (λx y H Q=>∃d e,DV H x d/\DV H y e/\SeqAt.shaped d=true/\SeqAt.shaped e=true/\Q (.bl (PyData.eqv d e)) H):=by
 intro a s p H x y v u Q I j k h;let⟨d,e,b,c,l,m,q⟩:=h;let⟨n,g⟩:=Zn I b j;let⟨o,i⟩:=Zn I c k;rwa[eq_dataH g i l m f #[.bl _,H,I,rfl,q]]
def wd(f:X.A.units+64<cLine):gr X (compareOp .NotEq) (λx y H Q=>∃d e,DV H x d/\DV H y e/\SeqAt.shaped d=true/\SeqAt.shaped e=true/\Q (.bl (!PyData.eqv d e)) H):=by
 intro a s p H x y v u Q I j k h;let⟨d,e,b,c,l,m,q⟩:=h;let⟨n,g⟩:=Zn I b j;let⟨o,i⟩:=Zn I c k;rwa[ne_dataH g i l m f #[.bl _,H,I,rfl,q]]
def Lc{us:L9}:∀{a:L5},IntsAre us a->Vals (a.map V.int) us:=by
 induction us with
 | nil=>intro a r;cases r;rwa[.nil]
 | cons u us ih=>
  intro a r;cases r with
  | cons n t r=>rwa[.cons #[t,rfl] (ih r)]
def KP(w:X.calm=true):dE X (.builtin "max") (λxs H Q=>∃(p:Addr) (c:L5),xs=[.ref p]/\cm X.K H p (c.map V.int)/\0<⇑c/\∀m∈c,(∀a∈c,a<=m)->Q (.int m) H):=by
 intro n s L H xs K Q I r h;let⟨p,c,rfl,A,d,q⟩:=h;let⟨u,rfl,E⟩:=vals1 r;cases E;let⟨B,D,C,Z⟩:=I.list A;have k:=intsAre_of D;have l:=C.isList;let⟨xs,e⟩:=k.allInts.items;have b:c=xs.toList.map (·.1):=by rw[<-k.numsOf,<-nums_intItems,<-e]
 have f:0<xs.size:=by
  have g:=d;rw[b,vt,Array.length_toList]at g;rwa[g]
 rw[e]at l;erw[max_intList (I.ok.hd w) l f λv G F z y=>?_]
 let⟨t,rfl⟩:=intItems_at z;let⟨J,o⟩:=argBest_gt (numAt xs) (xs.size-1);erw[.int _,H,I.kept (t':=F) y,#[_,rfl],q _ ?_ λa i=>?_]
 .rw[b,numAt_eq];rwa[getD_mem (by rw[vt,Array.length_toList];lia)]
 .rw[b]at i;let⟨j,x,rfl⟩:=mem_getD i;rw[vt,Array.length_toList]at x;rw[<-numAt_eq];rwa[o j ⋯]
end
section
variable{σ:St}{H:Hp}{Q:VK}
def rd_dget(h:td σ H λx H1=>ty σ H1 λy H2=>∃a v,x = .ref a/\du H2 a y (some v)/\Q v H2):ry td ty σ H Q:=h
def Mg{a:List (TE×TE)}(h:∀p,H p=none->gK a σ (upd H p (.dK [])) λps H2=>H2 p⊂(.dK [])/\∃kvs:List (Key×V),ps=kvs.map (λkv=>(kV kv.1,kv.2))/\⇑kvs<=15/\Q (.ref p) (upd H2 p (.dK (cR [] kvs)))):rz a σ H Q:=h
def rd_prN{R:List (V×V)->Hp->Prop}(h:R [] H):gK [] σ H R:=h
def rd_prC{a b:TE}{r:List (TE×TE)}{R:List (V×V)->Hp->Prop}(h:a σ H λx H1=>b σ H1 λy H2=>gK r σ H2 λps c=>R ((x,y)::ps) c):gK ((a,b)::r) σ H R:=h
end
def rX(K:cG)(a:Addr)(D:List (Str×PyProof.Rows.KTD.Dat)):Prop:=PyProof.Rows.KTD.tabLook (PyProof.Rows.KTD.datLooks λb=>K.lookup b) (λb=>K.lookup b) a D=true
section
variable{X:Cx}
def Na:gr X (compareOp .In) (λx y H Q=>∃a k D,x = .str k/\y = .ref a/\rX X.K a D/\Q (.bl (PyProof.Rows.KTD.inKeys k D)) H):=by
 intro b s f H x y v u Q I c d h;let⟨a,k,D,rfl,rfl,T,q⟩:=h;let⟨t,rfl⟩:=c;cases d;rwa[PyProof.Rows.KTD.in_text (h₀:=s.heap) #[PySem.W.kt_text_in I.jk T,λj j e=>e] #[.bl _,H,I.tok _,rfl,q]]
end
def yg{K:cG}{a:Addr}{xs:N4}{k:Nat}{ci:L6}{g:TG}{r:TT}{o:TE}{s:St}{H:Hp}{Z:Addr->N4->Hp->Prop}(d:Nat->N4->Hp->Prop)(t:d 0 [] H)(z:∀i ys H,i<=⇑xs->d i ys H->cL K H a xs)
  (A:∀i x ys H,xs[i]?⊂x->d i ys H->g x (dH k ci s) H λc H2=>r c H2 λb h=>if b=true then o c h λv l=>⇑ys<sizeLine/\d (i+1) (ys++[v]) l else d (i+1) ys h)
  (u:∀ys H,d ⇑xs ys H->⇑ys<=sizeLine/\∀p,H p=none->Z p ys H) :
  ∃W:Nat->Nat->N4->Hp->Prop,(∃m,W 0 m [] H)/\∀i m ys H,W i m ys H->
   ((og K a).stop i H/\⇑ys<=sizeLine/\∀p,H p=none->Z p ys H)\/
   ((og K a).go i H/\∃N:N4->Hp->Prop,(∀f H',N f H'->∃n,n<m/\W (i+1) n f H')/\∀x H',(og K a).lV i H x H'->g x (dH k ci s) H' λc H2=>r c H2 λb h=>
    if b=true then o c h λv l=>⇑ys<sizeLine/\N (ys++[v]) l else N ys h):=by
 erw[λi m ys H=>m=⇑xs-i/\i<=⇑xs/\d i ys H,#[⇑xs,by simp,va _,t],?_];rintro i m ys H ⟨rfl,w,p⟩;have q:=z i ys H w p;by_cases j:i<⇑xs
 .refine .inr #[#[xs,xs[i],q,by simp[j]],d (i+1),λf H' B=>#[⇑xs-(i+1),⋯,rfl,j,B],λx H' y=>?_];let⟨e,y⟩:=y;subst e;rwa[A i x ys _ (y xs q) p]
 .have e:i=⇑xs:=⋯
  subst e;rwa[.inl #[#[xs,q,vb _],u ys H p]]
def rd_iTup{K:cG}{b:TE}{c:St}{H:Hp}{R:It->Hp->Prop}(h:b c H λx H1=>∃a,x = .ref a/\(∃xs,cL K H1 a xs)/\R (og K a) H1):tR K b c H R:=h
def JN{K:cG}{i j:Nat}{a:Addr}{x y:V}{b:St}{H:Hp}{R:St->Hp->Prop}(e:cL K H a [x,y])(h:cC i x b H λS' H'=>cC j y S' H' R):nH K 2 (ec (cC i) (ec (cC j) nG)) (.ref a) b H R:=
 #[a,[x,y],rfl,e,rfl,x,[y],rfl,y,[],rfl,rfl,h]
def rd_sub{a:St}{H:Hp}{R:St->Hp->Prop}(h:to a H λo H1=>ti a H1 λi H2=>t o i v H2 λb=>R a b):tO to ti t v a H R:=h
def rd_dnew{a:St}{H:Hp}(h:∀p,H p=none->Q (.ref p) (upd H p (.dK []))):oR a H Q:=h
def rd_dput{b:St}{H:Hp}(h:tv b H λv H1=>td b H1 λx H2=>ty b H2 λy d=>∃a c,x = .ref a/\gw d a y v c/\D.nx b c):rp td ty tv D b H:=h
def rd_bm0{K:cG}{T:String}{r:V->N4->Hp->VK->Prop}{a:TE}{b:St}{H:Hp}{Q:VK}(h:a b H λx H1=>vk K T x H1/\r x [] H1 Q):uM K T r a b H Q:=h
section
variable{X:Cx}{pins:Ny}{σ:St}{H:Hp}{s:Shared}{h':Heap}
def Inv.gZ{t':Nat}{ch:L7}(I:Inv X pins σ H s)(f:∀b∈ch,fZ X pins H b)(k:∀b o,b∉ch->s.heap.get? b⊂o->h'.get? b⊂o):Inv X pins σ H {s with heap:=h',toks:=t'}:=by
 have d:∀b u,H b⊂u->b∉ch:=λb u e z=>by rw[(f b z).1]at e;cases e
 refine I.step (g':=s.gens) (d':=s.drawn) (ch:=ch) (λb t=>?_) (λb o Z Z a e Z=>k b o a e) (λb o Z Z a e Z=>#[o.slots,k b o a e]) (λZ Z Z Z n=>n)
  (λb o a e=>#[o,k b o a e]) (λZ Z e=>e) (λZ Z Z e=>e) (λb y e=>#[#[],by rw[e];simp]) (λm w=>?_) (λb u e=>?_) I.bare
 .let⟨_,i,_,j,l,p⟩:=f b t;rwa[j,i,l,p]
 .let⟨o,h,g,x,r⟩:=w;rwa[o,h,g,k _ o (λz=>(f _ z).2.1 rfl) x,r]
 .refine(I.cK b u e).iu (λc v a q=>k c v ?_ q) (λZ q=>q) λZ Z q=>q
  rcases a with z | z
  .rw[z];rwa[d b u e]
  .exact d c _ z
def Inv.pair{t':Nat}{ch:L7}{x y:V}{u v:Value}(I:Inv X pins σ H s)(c:∀b∈ch,fZ X pins H b)(h:∀b∈ch,b<s⁻¹)(i:RelV x u)(j:RelV y v)
  (g:h'.get? s⁻¹=some {cls:=.type "tuple",data:=.seq [u,v].toArray}) (k:∀b o,b∉ch->s.heap.get? b⊂o->h'.get? b⊂o) :
  Inv X pins σ (upd H s⁻¹ (.tup [x,y])) {s with heap:=h',toks:=t'}/\∀b∈ch,fZ X pins (upd H s⁻¹ (.tup [x,y])) b:=by
 have f:∀b∈ch,fZ X pins (upd H s⁻¹ (.tup [x,y])) b:=λb a=>#[(jh (vE (h b a))).trans (c b a).1,(c b a).2]
 have d:Inv X pins σ (upd H s⁻¹ (.tup [x,y])) {s with heap:=s.heap.push {cls:=.type "tuple",data:=.seq [u,v].toArray},toks:=t'}:=
  I.laid (t':=t') (λb o e=>vJ _ e) (vb _) (show cD X.prog X.w _ _ _ (.tup [x,y])from#[(by show 2<=sizeLine;decide),[u,v],.cons i (.cons j .nil),IsTup.new _ _])
 erw[d.gZ (h':=h') (t':=t') f λb o a e=>?_,f];rcases Heap.get?_push_cases e with⟨rfl,rfl⟩ | e
 .exact g
 .exact k b o a e
end
def sN(K:cG)(a:Addr):It:=
 #[λi H=>∃xs x,cm K H a xs/\xs[i]?⊂x,λi H x H'=>∃T v,x = .ref T/\H T=none/\H'=upd H T (.tup [.int i,v])/\∀xs,cm K H a xs->xs[i]?⊂v,λi H=>∃xs,cm K H a xs/\⇑xs<=i]
def HC{P:Program}{w:World}{K:cG}{n:Nt}{k:Nat}{O:Pos}(a e it:Addr)(t:e≠it) :
  Turn P w K (.Tuple n k O) (sN K a) [e,it] e (λi h=>(∃f,IsEnum h e it ((i:Nat):Int) f)/\h.IsListIter it a i) where
 mem:=by simp
 obj:=λi h j b g=>by
  rcases(by simpa using g:b=e\/b=it)with rfl | rfl
  .let⟨f,l⟩:=j.1;rwa[_,l,λv z=>by cases z]
  .let⟨o,e,c,d⟩:=j.2;rwa[o,e,λv z=>by rw[d]at z;cases z]
 keep:=λi h h' j k=>#[let ⟨f,l⟩:=j.1;#[f,k e (by simp) _ l],j.2.at λo q=>k it (by simp) o q]
 item:=by
  intro X D L C S i A s σ H E I G j J;subst D L C;let⟨xs,x,B,M⟩:=J;let⟨N,Q,p,hz⟩:=I.list B;let⟨u,hu,ru⟩:=Q.get M;let⟨⟨f,l⟩,m⟩:=j;have le:e<s⁻¹:=vI l;have li:it<s⁻¹:=by let⟨o,q,_⟩:=id m;rwa[vI q]
  erw[wpAny_pyNext_enum_item l m p.isList (x:=u) #v[hu] t λh' ho r hT a0 hk=>?_]
  let⟨U,R⟩:=I.pair (t':=s.toks+1) (ch:=[e,it]) (x:=.int i) (y:=x) G (λb g=>by rcases(by simpa using g:b=e\/b=it)with rfl | rfl<;>assumption) #[s.toks,rfl] ru hT
   (λb o g q=>hk b o (λz=>g (by simp[z])) (λz=>g (by simp[z])) q)
  erw[_,rfl,wpAny_letOwnedTupleGo_enum ho λZ F T=>?_];have W:=U.gZ (h':=Z) (t':=s.toks+1) (ch:=[e,it]) R λb o g q=>(T.2 b λz=>g (by simp[z])).trans q
  exact#[.ref s⁻¹,_,W,rfl,#[_,x,rfl,I.cK.fresh (vb _),rfl,λys hy=>by rw[I.fK hy B];rwa[M]],
   #[#[u,#v[F]],r.at λo q=>(T.2 it t.symm).trans q],λb g=>(R b g).1]
 done:=by
  intro X D L C S i A s σ H E I G j J;subst D L C;let⟨xs,B,M⟩:=J;let⟨N,Q,p,hz⟩:=I.list B;let⟨⟨f,l⟩,m⟩:=j;have hl:=⇑Q;rwa[wpAny_pyNext_enum_end (I.ok.hd S) l m p.isList (by simp;lia) λh' Y=>#[rfl,I.gZ (t':=s.toks) (ch:=[e,it]) G λb o g q=>Y b o (λz=>g (by simp[z])) q]]
 self:=λ_ _ _ _ _ j h=>let ⟨_,l⟩:=j.1;wpAny_pyIter_enum l h
def rf(K:cG)(ta:TA):TI:=λσ H R=>ta σ H λvs H1=>∃a xs,vs=[.ref a]/\cm K H1 a xs/\R (sN K a) H1
def Wm{X:Cx}{a:Expr}{n:TA}{f:Nt}{k:Nat}{p i j:Pos}(v:Gl X "enumerate")(x:X.mg "enumerate"= none)(r:PA X [a] n)(z:starEach [a] X.env=[(false,eval a X.env)]:=by rfl) :
  PI X (.Tuple f k j) (.Call (.Name "enumerate" p) [a] [] i) (rf X.K n):=by
 intro g s F H R I h;erw[Call_ (Zs I v x XZ (PyProof.Rows.callWith_type1 (cM (r i g s F H _ I h) λL e z_=>?_) z rfl))];obtain⟨M,o,d,D,C⟩:=z_;let⟨b,N,rfl,y,q⟩:=C;let⟨u,rfl,E⟩:=vals1 D;cases E;let⟨B,K,p,J⟩:=d.list y;erw[call_enumerate_list p.isList λG m l A w=>?_]
 erw[wpAny_pyIter_enum m ?_];erw[e⁻¹+1,[e⁻¹+1,e⁻¹],_,_,o,rfl,d.kept (t':=e.toks) w,HC b _ _ (Nat.succ_ne_self _),#[#[_,#v[m]],l],λc t=>?_,q];rcases(by simpa using t:c=e⁻¹+1\/c=e⁻¹)with rfl | rfl
 .exact d.gz (Nat.le_succ _) (d.cK.fresh (Nat.le_succ _))
 .exact d.gz (vb _) (d.cK.fresh (vb _))
def kU{K:cG}{a:Addr}{xs:N4}{g:TG}{l:TS}{D:Ends}{c:St}{H:Hp}(d:Nat->St->Hp->Prop)(n:d 0 c H)(u:∀i c H,i<=⇑xs->d i c H->cm K H a xs)
  (w:∀i v c H T H',xs[i]?⊂v->d i c H->cj H H'->H' T⊂(.tup [.int i,v])->g (.ref T) c H' λf H2=>l {D with nx:=d (i+1),ct:=d (i+1),bk:=D.nx} f H2) (s:∀c H,d ⇑xs c H->D.nx c H) :
  ∃W:Nat->Nat->St->Hp->Prop,(∃m,W 0 m c H)/\∀i m c H,W i m c H->
   ((sN K a).stop i H/\D.nx c H)\/((sN K a).go i H/\∃N:St->Hp->Prop,(∀S' H',N S' H'->∃k,k<m/\W (i+1) k S' H')/\∀x H',(sN K a).lV i H x H'->g x c H' λf H2=>l {D with nx:=N,ct:=N,bk:=D.nx} f H2):=by
 erw[λi m c H=>m=⇑xs-i/\i<=⇑xs/\d i c H,#[⇑xs,by simp,va _,n],?_];rintro i m c H ⟨rfl,t,p⟩;have q:=u i c H t p;by_cases j:i<⇑xs
 .refine .inr #[#[xs,xs[i],q,by simp[j]],d (i+1),λS' H' z=>#[⇑xs-(i+1),⋯,rfl,j,z],λx H' y=>?_];let⟨T,v,rfl,r,e,y⟩:=y;rwa[w i v c H T H' (y xs q) p (λb o h=>by rw[e,jh (je h r)];rwa[h]) (by rw[e];rwa[jy])]
 .have e:i=⇑xs:=⋯
  subst e;rwa[.inl #[#[xs,q,vb _],s c H p]]
def rd_iEnum{K:cG}{b:TA}{c:St}{H:Hp}{R:It->Hp->Prop}(h:b c H λvs H1=>∃a xs,vs=[.ref a]/\cm K H1 a xs/\R (sN K a) H1):rf K b c H R:=h
def ph(K:cG)(a b:Addr):It:=
 #[λi H=>∃xs x ys y,cm K H a xs/\xs[i]?⊂x/\cm K H b ys/\ys[i]?⊂y,
  λi H x H'=>∃T u v,x = .ref T/\H T=none/\H'=upd H T (.tup [u,v])/\(∀xs,cm K H a xs->xs[i]?⊂u)/\∀ys,cm K H b ys->ys[i]?⊂v,
  λi H=>∃xs ys,cm K H a xs/\cm K H b ys/\(⇑xs<=i\/⇑ys<=i)]
def Qt{h:Heap}{a b:Addr}{o u:Obj}(c:h.get? a⊂o)(d:h.get? b⊂u)(f:o.cls≠u.cls):a≠b:=λe=>by
 lia
def La{P:Program}{w:World}{K:cG}{T:Nt}{k:Nat}{aa:Pos}(t A z TI TO l m:Addr)
  (D:∀t A,t≠z->t≠TO->t≠l->t≠m->A≠z->A≠TO->A≠l->A≠m->ZipApart z TI TO l m t A) :
  Turn P w K (.Tuple T k aa) (ph K t A) [z,TI,TO,l,m] z (λi h=>IsZip h z TI TO .none/\IsPair h TI (.ref l) (.ref m)/\(∃a b,IsPair h TO a b)/\h.IsListIter l t i/\h.IsListIter m A i) where
 mem:=by simp
 obj:=λi h M b j=>by
  let⟨n,g,⟨a,c,f⟩,J,L⟩:=M;rcases(by simpa using j:b=z\/b=TI\/b=TO\/b=l\/b=m)with rfl | rfl | rfl | rfl | rfl
  .exact#[_,n,λv z=>by cases z]
  .exact#[_,g,λv z=>by cases z]
  .exact#[_,f,λv z=>by cases z]
  .let⟨o,e,c,d⟩:=J;rwa[o,e,λv z=>by rw[d]at z;cases z]
  .let⟨o,e,c,d⟩:=L;rwa[o,e,λv z=>by rw[d]at z;cases z]
 keep:=λi h h' M k=>by
  let⟨n,g,⟨a,c,f⟩,J,L⟩:=M;rwa[k z (by simp) _ n,k TI (by simp) _ g,#[a,c,k TO (by simp) _ f],J.at λo q=>k l (by simp) o q,L.at λo q=>k m (by simp) o q]
 item:=by
  intro X hP hw hK hc i W s σ H E I hf M hg;subst hP hw hK;let⟨xs,x,ys,y,hq,hx,hr,hy⟩:=hg;let⟨a8,rv,p,_⟩:=I.list hq;let⟨a9,N,U,_⟩:=I.list hr;let⟨u,hu,ru⟩:=rv.get hx;let⟨v,hv,ab⟩:=N.get hy;let⟨n,g,⟨a,c,f⟩,J,L⟩:=M;let⟨o1,n1,F,B,_⟩:=id p;let⟨o2,n2,G,C,_⟩:=id U;let⟨o3,O,R,_⟩:=id J;let⟨o4,Q,S,_⟩:=id L;have r:=D t A (Qt F n (by rw[B];show Value.type "list"≠Value.type "zip";decide)) (Qt F f (by rw[B];show Value.type "list"≠Value.type "tuple";decide)) (Qt F O (by rw[B,R];decide)) (Qt F Q (by rw[B,S];decide))
   (Qt G n (by rw[C];show Value.type "list"≠Value.type "zip";decide)) (Qt G f (by rw[C];show Value.type "list"≠Value.type "tuple";decide)) (Qt G O (by rw[C,R];decide)) (Qt G Q (by rw[C,S];decide))
  have lt:∀b∈[z,TI,TO,l,m],b<s⁻¹:=λb j=>by
   rcases(by simpa using j:b=z\/b=TI\/b=TO\/b=l\/b=m)with rfl | rfl | rfl | rfl | rfl
   .exact vI n
   .exact vI g
   .exact vI f
   .exact vI O
   .exact vI Q
  erw[wpAny_pyNext_zip_item r n g f J L p.isList U.isList (x:=u) (y:=v) #v[hu] #v[hv] λh' a1 a2 a3 a4 a5 a6 Z=>?_]
  let⟨I1,f1⟩:=I.pair (t':=s.toks) (ch:=[z,TI,TO,l,m]) (x:=x) (y:=y) hf lt ru ab a5
   (λb o j q=>Z b o (λe=>j (by simp[e])) (λe=>j (by simp[e])) (λe=>j (by simp[e])) (λe=>j (by simp[e])) q)
  erw[_,rfl,wpAny_letOwnedTupleGo_zip a1 λh3 a7 Y=>?_];have I2:=I1.gZ (h':=h3) (t':=s.toks) (ch:=[z,TI,TO,l,m]) f1 λb o j q=>(Y.2 b λe=>j (by simp[e])).trans q
  exact#[.ref s⁻¹,_,I2,rfl,#[_,x,y,rfl,I.cK.fresh (vb _),rfl,(λys hy=>by rw[I.fK hy hq];rwa[hx]),λys a0=>by rw[I.fK a0 hr];rwa[hy]],
   #[a7,(Y.2 TI r.TIz).trans (Z TI _ r.TIz r.TITO r.TIi1 r.TIi2 g),#[_,_,(Y.2 TO r.TOz).trans a2],a3.at λo q=>(Y.2 l r.i1z).trans q,a4.at λo q=>(Y.2 m r.i2z).trans q],λb j=>(f1 b j).1]
 done:=by
  intro X hP hw hK hc i W s σ H E I hf M hg;subst hP hw hK;let⟨xs,ys,hq,hr,hl⟩:=hg;let⟨a8,rv,p,_⟩:=I.list hq;let⟨a9,N,U,_⟩:=I.list hr;let⟨n,g,⟨a,c,f⟩,J,L⟩:=M;let⟨o1,n1,F,B,_⟩:=id p;let⟨o2,n2,G,C,_⟩:=id U;let⟨o3,O,R,_⟩:=id J;let⟨o4,Q,S,_⟩:=id L;have r:=D t A (Qt F n (by rw[B];show Value.type "list"≠Value.type "zip";decide)) (Qt F f (by rw[B];show Value.type "list"≠Value.type "tuple";decide)) (Qt F O (by rw[B,R];decide)) (Qt F Q (by rw[B,S];decide))
   (Qt G n (by rw[C];show Value.type "list"≠Value.type "zip";decide)) (Qt G f (by rw[C];show Value.type "list"≠Value.type "tuple";decide)) (Qt G O (by rw[C,R];decide)) (Qt G Q (by rw[C,S];decide))
  have ac:=⇑rv;have ad:=⇑N;erw[wpAny_pyNext_zip_end (I.ok.hd hc) r n g f J L p.isList U.isList ?_ λh' Z=>#[rfl,I.gZ (t':=s.toks) (ch:=[z,TI,TO,l,m]) hf λb o j q=>Z b o (λe=>j (by simp[e])) (λe=>j (by simp[e])) (λe=>j (by simp[e])) (λe=>j (by simp[e])) q]]
  simp_all
 self:=λ_ _ _ _ _ M h=>wpAny_pyIter_zip M.1 h
def Z9{n i j:Nat}(h:i≠j):n+i≠n+j:=λe=>h (Nat.add_left_cancel e)
def tS(K:cG)(ta:TA):TI:=λσ H R=>ta σ H λvs H1=>∃a b xs ys,vs=[.ref a,.ref b]/\cm K H1 a xs/\cm K H1 b ys/\R (ph K a b) H1
def BE{X:Cx}{a b:Expr}{w:TA}{f:Nt}{k:Nat}{p n o:Pos}(O:Gl X "zip")(Q:X.mg "zip"= none)(M:PA X [a,b] w)(U:starEach [a,b] X.env=[(false,eval a X.env),(false,eval b X.env)]:=by rfl)(l:starEach [b] X.env=[(false,eval b X.env)]:=by rfl) :
  PI X (.Tuple f k o) (.Call (.Name "zip" p) [a,b] [] n) (tS X.K w):=by
 intro m s σ H R I h;erw[Call_ (Zs I O Q NU (PyProof.Rows.callWith_type1 (cM (M n m s σ H _ I h) λus d ⟨vs,x,e,r1,q1⟩=>?_) (by rw[U,l]) (by rw[l];rfl)))];let⟨u,v,xs,ys,rfl,S,T,q⟩:=q1;cases r1 with
 | cons r rr=>
  cases rr with
  | cons r' rr=>
   cases rr;cases r;cases r';let⟨Y,rv,p,hz⟩:=e.list S;let⟨Z,a0,p',W⟩:=e.list T;erw[call_zip_2 p.isList p'.isList λh' t y z A B a6 P=>?_]
   erw[wpAny_pyIter_zip t ?_];refine#[d⁻¹+4,[d⁻¹+4,d⁻¹+2,d⁻¹+3,d⁻¹,d⁻¹+1],_,_,x,rfl,e.kept (t':=d.toks) P,
    La u v _ _ _ _ _ (λu v C D E F G J K L=>#[Z9 nofun,Z9 nofun,Z9 (i:=0) nofun,Z9 nofun,Z9 nofun,Z9 (j:=0) nofun,Z9 nofun,Z9 (j:=0) nofun,Z9 nofun,Z9 (i:=0) nofun,C,D,E,F,G,J,K,L]),#[t,y,#[_,_,z],A,B],λc N=>?_,q]
   have g:d⁻¹<=c:=by
    rcases(by simpa using N:c=d⁻¹+4\/c=d⁻¹+2\/c=d⁻¹+3\/c=d⁻¹\/c=d⁻¹+1)with rfl | rfl | rfl | rfl | rfl<;>lia
   rwa[e.gz g (e.cK.fresh g)]
def LV{K:cG}{a b:Addr}{xs ys:N4}{g:TG}{r:TS}{D:Ends}{c:St}{H:Hp}(d:Nat->St->Hp->Prop)(l:⇑xs=⇑ys)(s:d 0 c H)(A:∀i c H,i<=⇑xs->d i c H->cm K H a xs/\cm K H b ys)
  (B:∀i u v c H T H',xs[i]?⊂u->ys[i]?⊂v->d i c H->cj H H'->H' T⊂(.tup [u,v])->g (.ref T) c H' λf H2=>r {D with nx:=d (i+1),ct:=d (i+1),bk:=D.nx} f H2) (w:∀c H,d ⇑xs c H->D.nx c H) :
  ∃W:Nat->Nat->St->Hp->Prop,(∃m,W 0 m c H)/\∀i m c H,W i m c H->
   ((ph K a b).stop i H/\D.nx c H)\/((ph K a b).go i H/\∃N:St->Hp->Prop,(∀S' H',N S' H'->∃n,n<m/\W (i+1) n S' H')/\∀x H',(ph K a b).lV i H x H'->g x c H' λf H2=>r {D with nx:=N,ct:=N,bk:=D.nx} f H2):=by
 erw[λi m c H=>m=⇑xs-i/\i<=⇑xs/\d i c H,#[⇑xs,by simp,va _,s],?_];rintro i m c H ⟨rfl,z,p⟩;let⟨q,k⟩:=A i c H z p;by_cases j:i<⇑xs
 .refine .inr #[#[xs,xs[i],ys,ys[i],q,by simp[j],k,by simp],d (i+1),λS' H' C=>#[⇑xs-(i+1),⋯,rfl,j,C],λx H' y=>?_];let⟨T,u,v,rfl,t,e,y,E⟩:=y;rwa[B i u v c H T H' (y xs q) (E ys k) p (λb o h=>by rw[e,jh (je h t)];rwa[h]) (by rw[e];rwa[jy])]
 .have e:i=⇑xs:=⋯
  subst e;rwa[.inl #[#[xs,ys,q,k,.inl (vb _)],w c H p]]
def rd_iZip{K:cG}{c:TA}{d:St}{H:Hp}{R:It->Hp->Prop}(h:c d H λvs H1=>∃a b xs ys,vs=[.ref a,.ref b]/\cm K H1 a xs/\cm K H1 b ys/\R (ph K a b) H1):tS K c d H R:=h
def Xi:entryFor table "dict.update.loop"= some Builtin.«dict.update.loop»:=entryFor_of_tree (by kernel_rfl)
def yu:plainId "dict.update.loop"= true:=by decide +kernel
def HI:typeLookup (.type "list") "keys"= pure none:=by rw[typeLookup_type,builtinLookup_eq_fast];kernel_rfl
section
variable{prog:Program}{w:World}{A:Around}{E:Nz}{s:Shared}
def oG{Q:Option Value->Shared->Prop}(p:s.heap.get? a⊂o)(m:o.cls = .type "list")(f:o.data = .seq xs k)(n:o.dict=none)(t:A.handled=none)
  (h:∀h' tk,(∀b o,s.heap.get? b⊂o->h'.get? b⊂o)->Q none {s with heap:=h',toks:=tk}):wpAny (model prog w) A (getAttr? (.ref a) "keys") Q E s:=by
 let⟨c,r,q,x⟩:=o;simp only at m f n;subst m f n;let⟨u,g,d,tk,v⟩:=s;have l:∀j,(#[u,g,d,j,v]:Shared).TypeIs (.ref a) "list":=λZ=>#[_,p,rfl]
 have y:=sub_AttributeError;have z:=F.slot_list_getattribute.lookup;have B:=F.slot_list_getattribute.bind (.ref a);have C:=am_list_getattr_none;unfold getAttr? getAttrBy? getAttrBy
 repeat (any_goals (first | assumption | exact l _ | ((with_reducible show wpAny _ _ (call (Value.builtin "list.__getattribute__") _ _) _ _ _);erw[call_meets F.slot_list_getattribute (l _) am_entry_list_getattribute (F.args_list_getattribute_2 _ _) (meets_getattribute_miss_list a xs k x "keys" _ HI (by decide +kernel) (by decide +kernel)) #[p,t,λh' j e i=>?_]]) | wp_step))
 let⟨G,H,D⟩:=i.there;show wpAny _ _ (getattributeRaised _ _ _ _ _ _ _) _ _ _;unfold getattributeRaised
 repeat (any_goals (first | assumption | wp_step))
 rwa[h _ _ i.keeps]
variable{K:Type}[DecidableEq K]{knd:KeyKind prog w K}
noncomputable def tN(acc:List (K×Value))(ps:List (K×Value)):List (K×Value):=ps.foldl (λacc kv=>stored acc kv.1 kv.2) acc
def GG(acc:List (K×Value))(k:K)(v:Value):⇑(stored acc k v)<=⇑acc+1:=by
 unfold stored;split
 .rw[vt];rwa[Nat.le_succ _]
 .rw[vn];rwa[vb _]
theorem AS{R:Result->Shared->Prop}{d it l:Addr}{items:L9}{res:Value}(M:A.handled=none)(g:d≠it)(p:d≠l)(q:it≠l) :
  ∀(ps:List (K×Value)) (i:Nat) (acc:List (K×Value)) (s:Shared),s.heap.IsListIter it l i->s.heap.IsList l items.toArray->(⇑items=i+⇑ps)->
   (∀j kv,ps[j]?⊂kv->∃a key,items[i+j]?=↥a/\IsTup s.heap a [key,kv.2].toArray/\knd.is kv.1 key=true/\a≠d/\a≠it)->s.heap.DictOf knd d acc->⇑acc+⇑ps<=sizeLine->
   (∀h' tk,(∀b o,b≠d->b≠it->s.heap.get? b⊂o->h'.get? b⊂o)->h'.DictOf knd d (tN acc ps)->R (.ok (.ret res)) {s with heap:=h',toks:=tk})->
   codeAny (model prog w) A (.builtin "dict.update.loop" #[[.ref d,.ref it,rawInt i,res],[]]) R s
 | [],i,acc,s,hit,hl,hn,hp,hd,hz,hR=>by
  erw[codeAny_builtin Xi ?_];rw[Around.under_plainId yu _];show wpAny _ A.in1 (pyNext (.ref it) >>= _) _ _ s;erw[ug (wpAny_pyNext_list_end (A:=A.in1) M hit hl (by simp;simp at hn;lia) λh' L=>?_)];show wpAny _ A.in1 (Builtin.Dict.addKeywords d [] >>= _) _ _ _;erw[ug (uf (uf (hR h' s.toks (λb o _ B e=>L b o B e) ?_)))];rwa[hd.extBut L g]
 | kv::ps,i,acc,s,hit,hl,hn,hp,hd,hz,hR=>by
  let⟨a,key,U,Z,Y,W,z⟩:=hp 0 kv rfl;erw[codeAny_builtin Xi ?_];rw[Around.under_plainId yu _];show wpAny _ A.in1 (pyNext (.ref it) >>= _) _ _ s;erw[ug (wpAny_pyNext_list_item (A:=A.in1) hit hl (x:=.ref a) #v[U] λv r J=>?_)];let⟨ot,P,oc,n,od⟩:=Z;have m:v.get? a⊂ot:=(J.2 a z).trans P;show wpAny _ A.in1 (holding [Value.ref a] _ >>= _) _ _ _;erw[ug (wpAny_holding ?_)];erw[ug (wpAny_tryCatch ?_)];unfold Builtin.Dict.pairItems;erw[ug (wpAny_typeOf (T:="tuple") #[_,m,oc] ?_)];show wpAny _ A.in1 (if((Value.type "tuple"== Value.type "list")||(Value.type "tuple"== Value.type "tuple"))=true then _ else _) _ _ _;rw[vd nofun];erw[ug (wpAny_seqItems m od ?_)];erw[uf ?_];show wpAny _ A.in1 (holding [key,kv.2] (dictSet d key kv.2)) _ _ _;have C:v.DictOf knd d acc:=hd.extBut (λb o B e=>(J.2 b B).trans e) g;erw[wpAny_holding (wpAny_dictSet_pairs (s:={s with heap:=v}) Y C (λQ D u=>?_) (by simp at hz;lia))];show wpAny _ A.in1 (again _) _ _ _;erw[uf #[plainId_quiet yu _,?_]];have H:∀b o,b≠d->b≠it->s.heap.get? b⊂o->Q.get? b⊂o:=λb o c f e=>(u.2 b c).trans ((J.2 b f).trans e)
  have sl:=GG acc kv.1 kv.2;erw[AS M g p q ps (i+1) (stored acc kv.1 kv.2) _ (r.at λo e=>(u.2 it g.symm).trans e) (hl.at λo e=>H l o p.symm q.symm e) (by simp at hn;lia) (λj I X=>?_) D (by simp at hz;lia) λS tk k3 E=>?_]
  .let⟨N,t,y,G,F,h,k⟩:=hp (j+1) I #v[X];let⟨o',O,r'⟩:=G;rwa[N,t,by rw[<-y];congr 1;lia,#[o',H _ _ h k O,r'],F,h,k]
  .exact hR S tk (λb o c f e=>k3 b o c f (H b o c f e)) E
end
open PySem PySem.W PyProof.Rows
section
variable{n:Nat}{key:Nat->Int}{p:Array Nat}
noncomputable def Tw(n:Nat)(key:Nat->Int){α:Type}:KasT α->(α->Prop)->Prop
 | .ret a,Q=>Q a
 | .ask i j k,Q=>i<n/\j<n/\Tw n key (k (decide (key i<key j))) Q
theorem Tw.bind{b c:Type}{f:b->KasT c}{Q:c->Prop}:∀{t:KasT b},Tw n key t (λa=>Tw n key (f a) Q)->Tw n key (t.bind f) Q
 | .ret _,h=>h
 | .ask _ _ _,h=>#[h.1,h.2.1,Tw.bind h.2.2]
theorem Tw.mono{d:Type}{Q b:d->Prop}(c:∀a,Q a->b a):∀{t:KasT d},Tw n key t Q->Tw n key t b
 | .ret _,h=>c _ h
 | .ask _ _ _,h=>#[h.1,h.2.1,Tw.mono c h.2.2]
theorem Tw.run{d:Type}{b:Nat->Nat->(Bool->Shared->Prop)->Shared->Prop}{Q:d->Shared->Prop}(c:∀i j C,i<n->j<n->C (decide (key i<key j)) s->b i j C s) :
  ∀{t:KasT d},Tw n key t (λa=>Q a s)->t.kasWp b Q s
 | .ret _,h=>h
 | .ask i j k,h=>c i j _ h.1 h.2.1 (Tw.run c h.2.2)
def Tw.asks{a:Type}{k:Bool->KasT a}{Q:a->Prop}(hi:i<n)(e:j<n)(b:key i<key j->Tw n key (k true) Q)(d:¬key i<key j->Tw n key (k false) Q):Tw n key (.ask i j k) Q:=by
 erw[hi,e,?_];by_cases c:key i<key j
 .rw[vG c];rwa[b c]
 .rw[vH c];rwa[d c]
def Pk(n:Nat)(p:Array Nat):Prop:=p.toList.Perm (List.range n)
noncomputable def kv(key:Nat->Int)(p:Array Nat)(i:Nat):Int:=key (p∘i)
def Up(key:Nat->Int)(p:Array Nat)(k:Nat):Prop:=∀i j,i<=j->j<k->kv key p i<=kv key p j
def Dn(key:Nat->Int)(p:Array Nat)(k:Nat):Prop:=∀i j,i<=j->j<k->kv key p j<=kv key p i
def AB(key:Nat->Int)(p:Array Nat)(m q:Nat):Prop:=∀k,m-(q+1)<=k->k<m->kv key p k=kv key p (m-1)
def Pk.size(h:Pk n p):p.size=n:=by have:=h.length_eq;simpa using this
def Pk.lt(h:Pk n p)(a:0<n)(i:Nat):p∘i<n:=by
 rw[Array.getD_eq_getD_getElem?];cases e:p[i]? with
 | none=>rwa[a]
 | some x=>rwa[v4.mp (h.mem_iff.mp (Array.mem_toList_iff.mpr (Array.mem_of_getElem? e)))]
def Pk.of(h:Pk n p)(a:q.Perm p):Pk n q:=(Array.perm_iff_toList_perm.mp a).trans h
def tY(h:a[i]?=b[j]?):kv key a i=kv key b j:=by
 unfold kv;rw[Array.getD_eq_getD_getElem?,Array.getD_eq_getD_getElem?,h]
def B3(a:j<=p.size)(k:Nat):kv key (kas_rev p i j) k=if i<=k/\k<j then kv key p (i+j-1-k)else kv key p k:=by
 have h:=getElem?_mirror_all (xs:=p) (i:=i) a k;split
 .rename_i c;rw[vd c]at h;rwa[tY h]
 .rename_i c;rw[vc c]at h;rwa[tY h]
def Oi(b:src<p.size)(a:d<=src)(k:Nat):kv key (bubble p src d) k=if k=src-d then kv key p src else if src-d<k/\k<=src then kv key p (k-1)else kv key p k:=by
 have h:=getElem?_bubble (xs:=p) b d a k;split
 .rename_i c;rw[vd c]at h;rwa[tY h]
 .rename_i c;rw[vc c]at h;split
  .rename_i c';rw[vd c']at h;rwa[tY h]
  .rename_i c';rw[vc c']at h;rwa[tY h]
def Up.snoc(h:Up key p m)(d:1<=m)(f:¬kv key p m<kv key p (m-1)):Up key p (m+1):=λi j a g=>by
 by_cases e:j<m
 .exact h i j a e
 .have c:j=m:=⋯
  subst c;by_cases b:i=j
  .rw[b];rwa[vA _]
  .have:=h i (j-1) ⋯ ⋯;lia
def Dn.snoc(h:Dn key p m)(d:1<=m)(f:kv key p m<=kv key p (m-1)):Dn key p (m+1):=λi j a g=>by
 by_cases e:j<m
 .exact h i j a e
 .have c:j=m:=⋯
  subst c;by_cases b:i=j
  .rw[b];rwa[vA _]
  .have:=h i (j-1) ⋯ ⋯;lia
theorem Cg(a:Pk n p):∀f m,1<=m->m+f<=n->Up key p m->Tw n key (kas_asc p f m) λr=>m<=r/\r<=m+f/\Up key p r/\(r<m+f->kv key p r<kv key p (r-1))
 | 0,m,h1,hn,hu=>#[vb _,vb _,hu,λh=>ud h (Nat.lt_irrefl _)]
 | f+1,m,h1,hn,hu=>by
  erw[Tw.asks (a.lt ⋯ _) (a.lt ⋯ _) (λc=>?_) (λc=>?_)]<;>simp only[Bool.false_eq_true,if_true,if_false]
  .exact#[vb _,⋯,hu,λq=>c]
  .exact Tw.mono (λr h=>#[⋯,⋯,h.2.2.1,λb=>h.2.2.2 ⋯]) (Cg a f (m+1) ⋯ ⋯ (hu.snoc h1 c))
def Ek(b:m<=p.size)(a:AB key p m q)(k:Nat):kv key (kas_rev p (m-(q+1)) m) k=kv key p k:=by
 rw[B3 b];split
 .rename_i c;rw[a k c.1 c.2,a _ ⋯ ⋯]
 .rfl
theorem Ai:∀f (p:Array Nat) m q,Pk n p->1<=m->m+f<=n->q+1<=m->Dn key p m->AB key p m q->
  Tw n key (kas_desc f p m q) λr=>Pk n r.1/\m<=r.2.1/\r.2.1<=m+f/\Dn key r.1 r.2.1/\r.2.2+1<=r.2.1/\AB key r.1 r.2.1 r.2.2
 | 0,p,m,q,hp,h1,hn,hq,hd,he=>#[hp,vb _,vb _,hd,hq,he]
 | f+1,p,m,q,hp,h1,hn,hq,hd,he=>by
  have t:=hp.size;erw[Tw.asks (hp.lt ⋯ _) (hp.lt ⋯ _) (λc=>?_) (λc=>?_)]<;>simp only[Bool.false_eq_true,if_true,if_false]
  .have c:kv key p m<kv key p (m-1):=c;split
   .have g:=Ek (key:=key) (p:=p) (m:=m) (q:=q) ⋯ he;have d:Pk n (kas_rev p (m-(q+1)) m):=hp.of (mirror_perm _ _ _ _);refine Tw.mono (λr h=>#[h.1,⋯,⋯,h.2.2.2]) (Ai f _ (m+1) 0 d ⋯ ⋯ ⋯ (λi j b s=>?_) λk l o=>?_)
    .rw[g,g];rwa[hd.snoc h1 ⋯ i j b s]
    .rw[show k=m+1-1 by lia]
   .refine Tw.mono (λr h=>#[h.1,⋯,⋯,h.2.2.2]) (Ai f p (m+1) 0 hp ⋯ ⋯ ⋯ (hd.snoc h1 ⋯) λk l o=>?_);rw[show k=m+1-1 by lia]
  .have c:¬kv key p m<kv key p (m-1):=c;erw[Tw.asks (hp.lt ⋯ _) (hp.lt ⋯ _) (λa=>?_) (λa=>?_)]<;>simp only[Bool.false_eq_true,if_true,if_false]
   .exact#[hp,vb _,Nat.le_add_right m (f+1),hd,hq,he]
   .have a:¬kv key p (m-1)<kv key p m:=a;erw[Tw.mono (λr h=>#[h.1,⋯,⋯,h.2.2.2]) (Ai f p (m+1) (q+1) hp ⋯ ⋯ ⋯ (hd.snoc h1 ⋯) λk l o=>?_)];rw[Nat.add_sub_cancel];by_cases e:k=m
    .rw[e]
    .rw[he k ⋯ ⋯];lia
def Fi(c:Pk n p)(d:1<=m)(k:m<=n)(e:Dn key p m):Tw n key (kas_tail3 m n p) λr=>Pk n r.2/\1<=r.1/\r.1<=n/\Up key r.2 r.1:=by
 have l:=c.size;have a:Pk n (kas_rev p 0 m):=c.of (mirror_perm _ _ _ _);have b:=B3 (key:=key) (p:=p) (i:=0) (j:=m) ⋯;erw[Tw.bind (Tw.mono (λr h=>?_) (Cg a (n-m) m d ⋯ λi j f g=>?_))]
 .exact#[a,⋯,⋯,h.2.2.1]
 .rw[b,b,vd #[va _,⋯],vd #[va _,g]];rwa[e _ _ ⋯ ⋯]
def Fh(t:Pk n p)(u:m+1<=n)(o:Dn key p (m+1)):Tw n key (kas_descPart m n p) λr=>Pk n r.2/\1<=r.1/\r.1<=n/\Up key r.2 r.1:=by
 erw[Tw.bind (Tw.mono (λr h=>?_) (Ai (n-(m+1)) p (m+1) 0 t ⋯ ⋯ ⋯ o λk v w=>by rw[show k=m+1-1 by lia]))];let⟨a,b,c,d,e,g⟩:=h;have x:=a.size;split
 .have l:=Ek (key:=key) (p:=r.1) (m:=r.2.1) (q:=r.2.2) ⋯ g;rwa[Fi (a.of (mirror_perm _ _ _ _)) ⋯ ⋯ λi j f s=>by rw[l,l];rwa[d i j f s]]
 .exact Fi a ⋯ ⋯ d
def Mx(g:Pk n p)(t:1<=n):Tw n key (kas_count n p) λr=>Pk n r.2/\1<=r.1/\r.1<=n/\Up key r.2 r.1:=by
 have y:=g.size;erw[Tw.bind (Tw.mono (λr h=>?_) (Cg (key:=key) g (n-1) 1 ⋯ ⋯ λi j l m=>by rw[show i=j by lia];rwa[vA _]))];let⟨a,b,c,d⟩:=h;split
 .exact#[g,a,⋯,c]
 rename_i hne;have w:r<n:=by
  have:r≠n:=λe=>hne (by rw[e];simp)
  lia
 have d:=d ⋯;split
 .refine Tw.asks (g.lt ⋯ _) (g.lt ⋯ _) (λq=>?_) (λq=>?_)<;>simp only[Bool.false_eq_true,if_true,if_false]
  .exact#[g,a,⋯,c]
  .have q:¬kv key p 0<kv key p (r-1):=q;have v:=B3 (key:=key) (p:=p) (i:=0) (j:=r) ⋯;have f:∀i,i<r->kv key p i=kv key p (r-1):=λi u=>by
    have t:=c 0 i (va _) u;have x:=c i (r-1) ⋯ ⋯;lia
   have k:∀i,kv key (kas_rev p 0 r) i=kv key p i:=λi=>by
    rw[v];split
    .rename_i q';rw[f _ q'.2,f _ ⋯]
    .rfl
   erw[Fh (g.of (mirror_perm _ _ _ _)) ⋯ λi j l m=>?_]
   rw[k,k];by_cases e:j=r
   .by_cases o:i=r
    .rw[e,o];rwa[vA _]
    .rw[e,f i ⋯];lia
   .rw[f i ⋯,f j ⋯];rwa[vA _]
 .have s:r=1:=⋯
  subst s;erw[Fh g ⋯ λi j l m=>?_]
  rcases(by lia:(i=0/\j=0)\/(i=0/\j=1)\/(i=1/\j=1))with⟨rfl,rfl⟩ | ⟨rfl,rfl⟩ | ⟨rfl,rfl⟩
  .exact vA _
  .have:kv key p 1<kv key p (1-1):=d;rwa[Int.le_of_lt this]
  .exact vA _
theorem A9(e:Pk n p)(c:k<n)(g:Up key p k):∀f l r,l<=r->r<=k->r-l<=f->(∀i,i<l->kv key p i<=kv key p k)->(∀i,r<=i->i<k->kv key p k<kv key p i)->
  Tw n key (kas_place p k f l r) λm=>m<=k/\(∀i,i<m->kv key p i<=kv key p k)/\∀i,m<=i->i<k->kv key p k<kv key p i
 | 0,l,r,h1,h2,h3,a,b=>#[⋯,a,λi d=>b i ⋯]
 | f+1,l,r,h1,h2,h3,a,b=>by
  unfold kas_place;split
  .exact#[⋯,a,λi d=>b i ⋯]
  erw[Tw.asks (e.lt ⋯ _) (e.lt ⋯ _) (λq=>?_) (λq=>?_)]<;>simp only[Bool.false_eq_true,if_true,if_false]
  .have q:kv key p k<kv key p ((l+r)/2):=q;exact A9 e c g f l _ ⋯ ⋯ ⋯ a λi d h=>by
    have:=g ((l+r)/2) i d h;lia
  .have q:¬kv key p k<kv key p ((l+r)/2):=q;exact A9 e c g f _ r ⋯ h2 ⋯ (λi d=>by
    have:=g i ((l+r)/2) ⋯ ⋯;lia) b
theorem Ft:∀f (p:Array Nat) k,Pk n p->k+f<=n->Up key p k->Tw n key (kas_bin f p k) λq=>Pk n q/\Up key q (k+f)
 | 0,p,k,hp,hn,hu=>#[hp,hu]
 | f+1,p,k,hp,hn,hu=>by
  have t:=hp.size;erw[Tw.bind (Tw.mono (λl h=>?_) (A9 hp ⋯ hu k 0 k (va _) (vb _) ⋯ (λi o=>ud o (Nat.not_lt_zero _)) λi e m=>ud e ⋯))];let⟨a,b,c⟩:=h;have g:=Oi (key:=key) (p:=p) (src:=k) (d:=k-l) ⋯ ⋯;erw[Tw.mono (λq h=>#[h.1,by rw[show k+(f+1)=k+1+f by lia];rwa[h.2]]) (Ft f _ (k+1) (hp.of (bubble_perm _ _ _)) ⋯ λi j r s=>?_)];rw[g,g,show k-(k-l)=l by lia]
  repeat' split
  all_goals first
   | rwa[vA _]
   | (exfalso;lia)
   | rwa[Int.le_of_lt (c _ ⋯ ⋯)]
   | rwa[b _ ⋯]
   | rwa[hu _ _ ⋯ ⋯]
   | (have e:=b i ⋯;have m:=c (j-1) ⋯ ⋯;lia)
def NL(f:1<=n):Tw n key (kas_sort n) λq=>Pk n q/\Up key q n:=by
 have g:Pk n (List.toArray (List.range n)):=List.Perm.refl _;erw[Tw.bind (Tw.mono (λr h=>?_) (Mx (key:=key) g f))];let⟨a,b,c,d⟩:=h;split
 .refine Tw.mono (λq h=>#[h.1,?_]) (Ft (n-max r.1 1) r.2 (max r.1 1) a ⋯ (by rw[show max r.1 1=r.1 by lia];rwa[d]));have e:max r.1 1+(n-max r.1 1)=n:=⋯
  rw[e]at h;rwa[h.2]
 .have e:r.1=n:=⋯
  rwa[a,by rw[<-e];rwa[d]]
end
section
variable{prog:Program}{w:World}{A:Around}{E:Nz}{s:Shared}
def lZ(h:Heap)(as:L7)(key:Nat->Int):Prop:=∀i a,as[i]?⊂a->∃o t u n,h.get? a⊂o/\o.cls = .type "tuple"/\o.data = .seq [.int (key i) t,u].toArray n
def lZ.keep{key:Nat->Int}(x:lZ h as key)(k:∀a∈as,∀o,h.get? a⊂o->h'.get? a⊂o):lZ h' as key:=λi a e=>by
 let⟨o,t,u,n,q,r⟩:=x i a e;rwa[o,t,u,n,k a (vm e) _ q,r]
def OA{key:Nat->Int}(x:lZ s.heap as key)(d:∀i j,i<⇑as->j<⇑as->key i=key j->i=j){C:Bool->Shared->Prop}(hi:i<⇑as)(b:j<⇑as)
  (h:C (decide (key i<key j)) s):kas_ask prog w A (tuples' true) (as.map Value.ref) i j C s:=by
 unfold kas_ask;let⟨o,t,u,n,k,B,f⟩:=x i _ (vz hi);let⟨y,z,m,E,l,D,g⟩:=x j _ (vz b);have p:(as.map Value.ref).getD i Value.none = .ref as[i]:=by rw[vy,vv,vz hi];rfl
 have q:(as.map Value.ref).getD j Value.none = .ref as[j]:=by rw[vy,vv,vz b];rfl
 rw[p,q];erw[kat_lt k f l g ?_];show KatLex prog w A true _ C [(.int (key i) t,.int (key j) z),(u,m)] 0 s;erw[kat_cons (wpAny_eqBool_int ?_)];by_cases c:key i=key j
 .have v:=d i j hi b c;subst v;rw[beq_self_eq_true];have r:u=m:=by
   have e:o=y:=vL (k.symm.trans l);subst e;have e:=f.symm.trans g;injection e with e _;have:=congrArg (λa:Array Value=>a[1]?) e;simpa using this
  subst r;erw[kat_yes (kat_cons (SeqAt.EqAt.same _ _ _ _ _ ?_))];erw[kat_yes (kat_nil ?_)];rw[vH (Int.lt_irrefl _)]at h;rwa[h]
 .rw[beq_false_of_ne c];rwa[kat_no (oneLt_int h)]
theorem DT{key:Nat->Int}:∀{as:L7} (_:lZ h as key),∃fs,KatTups h (as.map Value.ref) fs/\⇑fs=⇑as/\∀v∈fs,∃n t,v=Value.int n t
 | [],_=>#[[],KatTups.nil,rfl,λv g=>nomatch g]
 | a::r,x=>by
  let⟨o,t,u,n,q,c,d⟩:=x 0 a rfl;let⟨fs,k,l,f⟩:=DT (key:=λi=>key (i+1)) (as:=r) λi b e=>x (i+1) b #v[e]
  erw[.int (key 0) t::fs,KatTups.cons q c d rfl k,by rw[vQ,l,vQ],λv g=>?_];rcases mem_cons.mp g with rfl | g
  .exact#[_,_,rfl]
  .exact f v g
def MB(vs:L9):(vs.toArray.zip vs.toArray).map (·.2)=vs.toArray:=by
 apply Array.toList_inj.mp;rw[Array.toList_map,Array.toList_zip];rwa[List.map_snd_zip (vb _)]
def Ia(vs:L9):(List.range ⇑vs).map (λi=>vs.getD i Value.none)=vs:=by
 erw[ext_getElem (by simp) λi b a=>?_]
 rw[getElem_map,getElem_range,vy,vz a];rfl
def LC:∀{l:L5},⇑l<2->l.Pairwise (·<=·)
 | [],_=>.nil
 | [_],_=>pairwise_singleton _ _
 | _::_::_,h=>ud h (by rw[vQ,vQ];lia)
def LP{key:Nat->Int}{P:PySem.Fin->Shared->Prop}(d:s.heap.get? a⊂(seqObj "list" (as.map Value.ref).toArray c0))(S:a∉as)(x:lZ s.heap as key)
  (U:∀i j,i<⇑as->j<⇑as->key i=key j->i=j) (O:⇑as<64)
  (D:∀(q:L6) (h':Heap) (c:Nat),q.Perm (List.range ⇑as)->(q.map key).Pairwise (·<=·)->(∀b o,b≠a->s.heap.get? b⊂o->h'.get? b⊂o)->
   h'.get? a⊂(seqObj "list" ((q.map λi=>as∘i).map Value.ref).toArray c)->P (.done (.ret .none)) {s with heap:=h'}) :
  wpAny (model prog w) A (Builtin.«list.sort» #[[.ref a],[]]) P E s:=by
 have a5:a<s⁻¹:=vI d;obtain⟨u,k⟩:∃u,(s.heap.update a (Obj.mapSeq λ_=>(#[]:Array Value))).get? a⊂(seqObj "list" #[] u):=#[_,get?_update_seq d λ_=>#[]]
 have X:=Heap.SameBut.update s.heap a (Obj.mapSeq λ_=>(#[]:Array Value));rw[list_sort_plain];erw[ug (listItems_at (s:=s) d rfl ?_)];erw[ug (listUpdate_at (s:=s) d rfl ?_ (by rw[size_toArray,vt,sizeLine_eq];lia) (va _))];erw[ug (seqEpoch_at (n:=u) k rfl ?_)];erw[ug (wpAny_newTuple ?_ (by show(as.map Value.ref).length<=_;rw[vt,sizeLine_eq];lia))];erw[ug (wpAny_newList ?_ (va (sizeLine)))];erw[wpAny_holding ?_];generalize Y:((s.heap.update a (Obj.mapSeq λ_=>(#[]:Array Value))).push (seqObj "tuple" (as.map Value.ref).toArray 0)).push (seqObj "list" #[] 0)=hX;have kX:∀b o,b≠a->s.heap.get? b⊂o->hX.get? b⊂o:=λb o y e=>by
  rw[<-Y];rwa[vJ _ (vJ _ ((X.2 b y).trans e))]
 have F:hX.get? a⊂(seqObj "list" #[] u):=by
  rw[<-Y];rwa[vJ _ (vJ _ k)]
 have xX:lZ hX as key:=x.keep λb y o e=>kX b o (λz=>S (z▸y)) e
 show wpAny (model prog w) A _ P E {s with heap:=hX};dsimp only;have K:(as.map Value.ref).toArray.size=⇑as:=by rw[size_toArray,vt]
 have H:∀q:L6,q.Perm (List.range ⇑as)->(List.map (λi=>(as.map Value.ref).getD i Value.none) q)=(q.map λi=>as∘i).map Value.ref:=λq M=>by
  rw[v7];erw[map_congr_left λi B=>?_]
  have hl:i<⇑as:=v4.mp (M.mem_iff.mp B);show(as.map Value.ref).getD i Value.none=Value.ref (as∘i);rw[vy,vy,vv,vz hl];rfl
 have g:∀(q:L6),q.Perm (List.range ⇑as)->(q.map key).Pairwise (·<=·)->∀r:Array Value,r=(List.map (λi=>(as.map Value.ref).getD i Value.none) q).toArray->
   P (.done (.ret .none)) {s with heap:=hX.update a (Obj.mapSeq λ_=>r)}:=λq M hs r ho=>by
  subst ho;have o2:=get?_update_seq F λ_=>(List.map (λi=>(as.map Value.ref).getD i Value.none) q).toArray
  have J:=Heap.SameBut.update hX a (Obj.mapSeq λ_=>(List.map (λi=>(as.map Value.ref).getD i Value.none) q).toArray);rw[H q M]at o2 J|-;rwa[D q _ _ M hs (λb o y e=>(J.2 b y).trans (kX b o y e)) o2]
 by_cases l:(as.map Value.ref).toArray.size<2
 .rw[vd l,vd l];erw[ug (uf ?_)];rw[StateT.run_pure];erw[ug (uf ?_)];dsimp only;erw[ug (seqEpoch_at (n:=u) F rfl ?_)];have eo:(arrOf (SortSt.mk' general' ((as.map Value.ref).toArray.zip (as.map Value.ref).toArray) #[] 7 none)).map (·.2)=(List.map (λi=>(as.map Value.ref).getD i Value.none) (List.range ⇑as)).toArray:=by
   have e:=Ia (as.map Value.ref);rw[vt]at e;rw[e];rwa[MB _]
  rw[eo];erw[ug (listUpdate_at (s:={s with heap:=hX}) F rfl ?_ (va _) (by rw[size_toArray,vt,length_range,sizeLine_eq];lia))];simp only[bne_self_eq_false,Bool.false_eq_true,if_false];erw[uf (g (List.range ⇑as) (List.Perm.refl _) ?_ _ rfl)];rw[K]at l;rwa[LC (by rw[vt,length_range];rwa[l])]
 .rw[vc l,vc l];rw[K]at l;let⟨fs,kt,kl,ki⟩:=DT xX;have a0:hX=({s with heap:=hX}:Shared).heap:=rfl;refine ug (kat_kind (s:={s with heap:=hX}) (T:=Value.type "int") kt ⋯ (λv hv=>?_) nofun ?_)
  .let⟨m,t,rfl⟩:=ki v hv;rwa[Looks.of_pure rfl]
  refine ug (wpAny_mono (kat_run (s:={s with heap:=hX}) (ks:=as.map Value.ref) (vs:=as.map Value.ref) (κ:=tuples' true) (Q:=λf I=>∃p:Array Nat,Pk ⇑as p/\Up key p ⇑as/\arrOf f=p.map (kas_item ((as.map Value.ref).toArray.zip (as.map Value.ref).toArray))/\failedOf f=none/\I={s with heap:=hX}) (G:=λp I=>Pk ⇑as p/\Up key p ⇑as/\I={s with heap:=hX})
   rfl (by rw[vt];lia) (by rw[vt];rwa[O]) (λp f I _ a2 a3 N=>#[p,N.1,N.2.1,a2,a3,N.2.2]) ?_) ?_ λ_ _ e=>e)
  .rw[vt];rwa[Tw.run (n:=⇑as) (key:=key) (λi j C B L hC=>OA xX U B L hC) (Tw.mono (λq h=>#[h.1,h.2,rfl]) (NL (key:=key) ⋯))]
  rintro⟨⟨⟩,f⟩ I ⟨p,Z,hu,R,hf,rfl⟩;dsimp only;rw[kat_snds rfl R];erw[ug (seqEpoch_at (n:=u) F rfl ?_)];have W:=Z.size;erw[ug (listUpdate_at (s:={s with heap:=hX}) F rfl ?_ (va _) (by rw[size_toArray,vt,Array.length_toList,W,sizeLine_eq];lia))];rw[hf];simp only[bne_self_eq_false,Bool.false_eq_true,if_false];erw[uf (g p.toList Z ?_ _ rfl)];erw[pairwise_map.mpr (pairwise_iff_getElem.mpr λi j B L a1=>?_)];rw[Array.length_toList]at B L;have:=hu i j ⋯ ⋯;unfold kv at this;rw[Array.getD_eq_getD_getElem?,Array.getD_eq_getD_getElem?,Array.getElem?_eq_getElem B,Array.getElem?_eq_getElem L]at this;rwa[this]
end
open PySem PySem.Spec PySem.W PyProof.Rows
section
variable{X:Cx}{pins:Ny}{σ:St}{H:Hp}{s:Shared}
def oi(X:Cx)(pins:Ny)(T:Addr):Prop:=X.s₀.heap.objs.size<=T/\T≠X.env.locals/\(∀x c,X.env.cells.lookup x⊂c->c≠T)/\∀p∈X.pn++pins,p.1≠T
def Inv.Cm(I:Inv X pins σ H s)(a:s⁻¹<=T):oi X pins T:=by
 let⟨q,b,q,q,c,d⟩:=I.gz (H':=λq=>none) a rfl;rwa[vW I.sz a,b,c,d]
def cD.obj(x:cD P w H h a o):∃u,h.get? a⊂u:=by
 cases o with
 | lst xs=>let⟨q,q,q,q,e⟩:=x;rwa[_,e]
 | tup xs=>let⟨q,q,q,u,e,q⟩:=x;rwa[u,e]
 | dK kvs=>let⟨q,q,q,q,u,q,q,e,q⟩:=x;rwa[u,e]
 | dT kvs=>let⟨q,q,q,q,u,q,q,e,q⟩:=x;rwa[u,e]
 | set S n=>let⟨u,q,q,q,e,q⟩:=x;rwa[u,e]
 | ins C dx fs=>let⟨q,q,q,e,q⟩:=x;rwa[_,e]
 | own y=>rwa[x]
 | xd fs=>let⟨q,⟨u,q,q,e,q⟩,q⟩:=x;rwa[u,e]
 | uF lo hi=>let⟨q,q,q,e⟩:=x;rwa[_,e]
 | iy u v=>rwa[_,x.1]
 | pO ps=>rwa[_,x]
 | met f y=>rwa[_,x]
 | ext φ=>rwa[x.2.1]
def Inv.m9{a:Heap}(I:Inv X pins σ H s)(c:∀b o,s.heap.get? b⊂o->a.get? b⊂o):H a.objs.size=none:=by
 cases e:H a.objs.size with
 | none=>rfl
 | some u=>
  let⟨v,q⟩:=(I.cK _ _ e).obj;rwa[ud (vI (c _ _ q)) (Nat.lt_irrefl _)]
def Inv.ux{a:Heap}(I:Inv X pins σ H s)(h:∀b o,s.heap.get? b⊂o->a.get? b⊂o):oi X pins a.objs.size:=by
 have f:∀b o,s.heap.get? b⊂o->b<a.objs.size:=λb o e=>vI (h b o e)
 let⟨m,⟨o,q,q,d,q⟩,q⟩:=I.loc;have g:=f _ _ d;erw[vY (vD I.ok.above g),vO g,λx c e=>?_,λp i=>vE (f _ _ (I.pin p i).1)];let⟨v,o,d,q⟩:=I.cell x c e;rwa[vE (f _ _ d)]
def Inv.rH(I:Inv X pins σ H s)(h:H T=none)(d:oi X pins T)(g:cD X.prog X.w (upd H T o) s.heap T o):Inv X pins σ (upd H T o) s:=by
 have a:∀b u,H b⊂u->b≠T:=λb u e z=>by rw[z,h]at e;cases e
 refine I.step (h':=s.heap) (H':=upd H T o) (g':=s.gens) (d':=s.drawn) (t':=s.toks) (ch:=[T]) (λb f=>?_) (λb o Z Z Z e Z=>e) (λb o Z Z Z e Z=>#[o.slots,e]) (λb u f Z n=>?_) (λb u Z e=>#[u,e])
  (λb k e=>(jh (a _ _ e)).trans e) (λb u v e=>(jh (a _ _ e)).trans e) (λb j e=>#[#[],by rw[jh (a _ _ e),e];simp]) (λm i=>i) (λb u e=>?_) I.bare
 .have e:b=T:=by simpa using f
  subst e;rwa[.inr d.1,d.2.1,d.2.2.1,d.2.2.2]
 .exact(jh λz=>f (by simp[z])).trans n
 .by_cases z:b=T
  .subst z;rw[jy]at e;cases e;rwa[g]
  .rw[jh z]at e;rwa[(I.cK b u e).iu (λc v Z q=>q) (λc q=>(jh (a _ _ q)).trans q) λc l q=>(jh (a _ _ q)).trans q]
theorem Inv.mB:∀(e:List (Addr×HO)) {H:Hp},Inv X pins σ H s->(∀p∈e,H p.1=none/\oi X pins p.1/\∀H',cD X.prog X.w H' s.heap p.1 p.2)->(e.map (·.1)).Nodup->∃H',Inv X pins σ H' s/\cj H H'/\∀p∈e,H' p.1⊂p.2
 | [],H,I,_,_=>#[H,I,cj.refl _,λp d=>nomatch d]
 | w::r,H,I,h,nd=>by
  let⟨a,b,c⟩:=h w vq;rw[uz,um]at nd;have g:=I.rH a b (c _);let⟨H',i,f,m⟩:=Inv.mB r g (λp d=>by
   let⟨j,k,l⟩:=h p (vp _ d);rwa[(jh λz:p.1=w.1=>nd.1 (by rw[<-z];rwa[vK.mpr #[p,d,rfl]])).trans j,k,l]) nd.2
  have n:cj H (upd H w.1 w.2):=λb u q=>(jh (je q a)).trans q
  erw[H',i,n.trans f,λp d=>?_];rcases mem_cons.mp d with rfl | d
  .exact f _ _ jy
  .exact m p d
end
section
variable{X:Cx}
theorem rJ:∀as:L7,Vals (as.map V.ref) (as.map Value.ref)
 | []=>.nil
 | _::r=>.cons rfl (rJ r)
def KV.get{κ:Type}:∀{kvs:List (κ×V)} {vs:List (κ×Value)} {i:Nat} {p:κ×V},KV kvs vs->kvs[i]?⊂p->∃q,vs[i]?⊂q/\p.1=q.1/\RelV p.2 q.2:=by
 intro kvs vs i p h e
 induction h generalizing i with
 | nil=>simp at e
 | cons r t ih=>cases i with
  | zero=>simp at e;subst e;rwa[_,rfl,r]
  | succ i=>rwa[ih #v[e]]
def HL:tD X "dict.update" (λx vs H Q=>∃d o kvs more,x = .ref d/\vs=[.ref o]/\H d⊂.dK kvs/\H o⊂.dK more/\d≠o/\⇑kvs+⇑more<=sizeLine/\Q .dj (upd H d (.dK (cR kvs more)))):=by
 intro l s G H x vs v D Q I B A h;let⟨d,o,kvs,more,rfl,rfl,k,p,g,y,q⟩:=h;cases B;let⟨u,rfl,z⟩:=vals1 A;cases z;let⟨E,e,i,m,b⟩:=WL I.cK k;let⟨F,f,j,n,c⟩:=WL I.cK p;erw[call_meetsIn PySem.F.slot_dict_update b.typeIs PySem.F.entry_dict_update (PySem.F.args_dict_update_2 _ _) (meets_dict_update (cv X.prog X.w) d o g f) #[i,j,b,c,by rw[<-⇑m,<-⇑n];rwa[y],λr a Z w=>?_]];have t:∃q,r.get? d⊂q:=let ⟨q,_,_,hq,_⟩:=a;#[q,hq];have C:=Qx more kvs;rwa[.dj,_,YT (t':=s.toks) I (by rw[k];rwa[True.intro]) w t (K1 ⋯ e (n.merge m) a),rfl,q]
noncomputable def mY(v d:Addr):HO:=.ext λh=>h.get? v=some {cls:=.type "dict_items",data:=.fields #[.ref d]}
def Ip:tD X "dict.items" (λx vs H Q=>∃d kvs,x = .ref d/\vs=[]/\H d⊂.dK kvs/\∀v,H v=none->Q (.ref v) (upd H v (mY v d))):=by
 intro i s y H x vs v t Q I m l h;let⟨d,kvs,rfl,rfl,j,q⟩:=h;cases m;have f:=l.zero;subst f;let⟨w,c,g,r,a⟩:=WL I.cK j;erw[call_meetsIn PySem.F.slot_dict_items a.typeIs PySem.F.entry_dict_items (PySem.F.args_dict_items_1 (.ref d)) (meets_dict_items (cv X.prog X.w) d c) #[#[g,a],?_]];have e:(s.heap.push {cls:=.type "dict_items",data:=.fields #[.ref d]}).get? s⁻¹=some {cls:=.type "dict_items",data:=.fields #[.ref d]}:=Heap.get?_push_size _ rfl;rwa[.ref s⁻¹,_,I.laid (t':=s.toks) (o:=mY s⁻¹ d) (λb u q=>vJ _ q) (vb _) (show cD X.prog X.w _ _ _ (mY s⁻¹ d)from#[e,#[_,e],λn p q k=>k _ q]),rfl,q _ (I.cK.fresh (vb _))]
noncomputable def lD(p:Int×Int):Key×V:=(Sum.inl p.1,.int p.2)
def X6(hc:X.calm=true):dE X (.builtin "sorted") (λxs H Q=>∃(v d:Addr) (kvs:Nq),xs=[.ref v]/\H v⊂(mY v d)/\H d⊂(.dK (kvs.map lD))/\⇑kvs<64/\
  ∀(l:Addr) (as:L7) (ms:Nq) (H':Hp),cj H H'->H l=none->H' l⊂(.lst (as.map V.ref))->(∀a∈as,H a=none)->ms.Perm kvs->(ms.map (·.1)).Pairwise (·<=·)->⇑as=⇑ms->(∀(i:Nat) (a:Addr) (p:Int×Int),as[i]?⊂a->ms[i]?⊂p->H' a⊂(.tup [.int p.1,.int p.2]))->Q (.ref l) H'):=by
 intro y s σ H xs us Q I r h;let⟨v,d,kvs,rfl,ev,ed,Z,q⟩:=h;let⟨u,rfl,ru⟩:=vals1 r;cases ru;let⟨z1,a4,N,r1,G⟩:=WL I.cK ed;have hv:s.heap.get? v=some {cls:=.type "dict_items",data:=.fields #[.ref d]}:=(I.cK v _ ev).1;let⟨ep,da⟩:=G.dictAt;have lv:=⇑r1;rw[vt]at lv;have nd:(kvs.map (·.1)).Nodup:=by
  have R:(N.map (·.1)).Nodup:=let ⟨_,_,_,_,_,_,_,_,hn⟩:=G;hn;rw[<-r1.keys,v7]at R;erw[pairwise_map.mpr ((pairwise_map.mp R).imp λ{a b} h e=>h ?_)];show(Sum.inl a.1:Key)=Sum.inl b.1;rw[e]
 erw[Calls.call_function_entry kind_sorted plain_sorted entry_sorted (args_sorted1 (.ref v)) ?_];unfold Builtin.«sorted»;erw[ug (m:=checkCount "sorted" 1 1 1) (uf ?_)];erw[ug (kdx_collect (knd:=cv X.prog X.w) (kvs:=N) (ep:=ep) (A:=X.A.in1) (I.ok.hd hc) #[_,hv,rfl,rfl] da (by rw[<-lv,sizeLine_eq];lia) λg tk as P C J=>?_)];rw[<-lv]at C;erw[ug (wpAny_newList ?_ (by rw[vt,C,sizeLine_eq];lia))];have K:(g.push (seqObj "list" (as.map Value.ref).toArray 0)).get? g.objs.size⊂(seqObj "list" (as.map Value.ref).toArray 0):=Heap.get?_push_size _ rfl;have D:g.objs.size∉as:=λz=>Nat.lt_irrefl _ (J.there z)
 have E:∀i p,kvs[i]?⊂p->(λi=>(kvs.getD i (0,0)).1) i=p.1/\(λi=>(kvs.getD i (0,0)).2) i=p.2:=λi p e=>by
  dsimp only;rw[vy,e];rwa[rfl,rfl]
 have xQ:∀i a,as[i]?⊂a->∃t u,(g.push (seqObj "list" (as.map Value.ref).toArray 0)).get? a=some {cls:=.type "tuple",data:=.seq [.int ((λi=>(kvs.getD i (0,0)).1) i) t,.int ((λi=>(kvs.getD i (0,0)).2) i) u].toArray}:=λi a e=>by
  let⟨ky,k,x,O,w,e3⟩:=J.pairs i a e;have f:i<⇑kvs:=by rw[<-C];rwa[(vx.mp e).1]
  let⟨w',e4,a3⟩:=KV.get r1 (i:=i) (p:=lD kvs[i]) (by rw[vv,vz f];rfl);rw[O]at e4;cases e4;let⟨ek,S,ex⟩:=a3;have T:k=Sum.inl kvs[i].1:=ek.symm;subst T;have U:x = .int kvs[i].2 S:=ex;subst U;let⟨W,Y⟩:=E i _ (vz f);rw[show(λi=>(kvs.getD i (0,0)).1) i=kvs[i].1 from W,show(λi=>(kvs.getD i (0,0)).2) i=kvs[i].2 from Y];rcases Jn (show gv (Sum.inl kvs[i].1) ky=true from w)with⟨n,t,q1,q2⟩ | ⟨n,t,q1,q2⟩
  .cases q1;subst q2;rwa[t,S,vJ _ e3]
  .cases q1
 have xP:lZ (g.push (seqObj "list" (as.map Value.ref).toArray 0)) as (λi=>(kvs.getD i (0,0)).1):=λi a e=>by
  let⟨t,u,z⟩:=xQ i a e;rwa[_,t,_,_,z,rfl,rfl]
 have a0:∀i j,i<⇑as->j<⇑as->(λi=>(kvs.getD i (0,0)).1) i=(λi=>(kvs.getD i (0,0)).1) j->i=j:=λi j f B e=>by
  rw[C]at f B;let⟨W,_⟩:=E i _ (vz f);let⟨Y,_⟩:=E j _ (vz B);rw[W,Y]at e;rcases Nat.lt_trichotomy i j with z | z | z
  .exact ud e (by have:=pairwise_iff_getElem.mp nd i j (by rw[vt];rwa[f]) (by rw[vt];rwa[B]) z;simpa using this)
  .exact z
  .exact ud e.symm (by have:=pairwise_iff_getElem.mp nd j i (by rw[vt];rwa[B]) (by rw[vt];rwa[f]) z;simpa using this)
 erw[ug (wpAny_holding (wpAny_call_entry slot_list_sort #[_,K,rfl] entry_list_sort (LP (s:={s with heap:=g.push (seqObj "list" (as.map Value.ref).toArray 0),toks:=tk}) K D xP a0 (by rw[C];rwa[Z]) λM F c hq hs kk o2=>#[_,rfl,?_]) (args_list_sort _)))];erw[uf #[_,rfl,?_]];have a1:∀b o,s.heap.get? b⊂o->b<g.objs.size:=λb o e=>vI (P b o e)
 have k2:∀b o,s.heap.get? b⊂o->F.get? b⊂o:=λb o e=>kk b o (vE (a1 b o e)) (vJ _ (P b o e))
 have I2:Inv X y σ H {s with heap:=F,toks:=tk}:=I.kept (t':=tk) k2;have hB:H g.objs.size=none:=I.m9 P;have nB:=I.ux P;have ha:∀a∈as,H a=none/\oi X y a:=λa h=>#[I.cK.fresh (vY (J.above a h)),I.Cm (vY (J.above a h))]
 have L:∀i∈M,i<⇑as:=λi f=>v4.mp (hq.mem_iff.mp f)
 have a2:(((g.objs.size,HO.lst ((M.map λi=>as∘i).map V.ref))::(List.range ⇑as).map λi=>(as∘i,HO.tup [.int (kvs.getD i (0,0)).1,.int (kvs.getD i (0,0)).2])).map (·.1)).Nodup:=by
  rw[uz,um,v7];have w:(List.range ⇑as).map (Function.comp (λx=>x.1) λi=>(as∘i,HO.tup [.int (kvs.getD i (0,0)).1,.int (kvs.getD i (0,0)).2]))=as:=ext_getElem (by simp) λi g F=>by
   rw[getElem_map,getElem_range];show as∘i=_;rw[vy,vz F];rfl
  rw[w];rwa[D,J.rise.imp λh=>vE h]
 let⟨H',I3,s3,k3⟩:=I2.mB ((g.objs.size,HO.lst ((M.map λi=>as∘i).map V.ref))::(List.range ⇑as).map λi=>(as∘i,HO.tup [.int (kvs.getD i (0,0)).1,.int (kvs.getD i (0,0)).2])) (λp hp=>by
  rcases mem_cons.mp hp with rfl | hp
  .refine#[hB,nB,λH'=>#[?_,_,c,rJ _,o2]];rw[vt,vt,hq.length_eq,length_range,C,sizeLine_eq];lia
  .let⟨i,f,rfl⟩:=vK.mp hp;have f:=v4.mp f;have e:as[i]?⊂(as∘i):=by rw[vy,vz f];rfl
   let⟨t1,S,eo⟩:=xQ i _ e;have hm:=vm e;let⟨R,n2⟩:=ha _ hm;rwa[R,n2,λH'=>#[(by show 2<=sizeLine;decide),[_,_],.cons #[t1,rfl] (.cons #[S,rfl] .nil),#[_,kk _ _ (λz=>D (z▸hm)) eo,rfl,_,rfl]]]) a2
 .refine#[.ref g.objs.size,H',I3,rfl,q g.objs.size (M.map λi=>as∘i) (M.map λi=>kvs.getD i (0,0)) H' s3 hB (k3 _ vq) (λa h=>?_) ?_ ?_ (by rw[vt,vt]) λi a p O w=>?_]
  .let⟨i,f,rfl⟩:=vK.mp h;have e:as[i]?⊂(as∘i):=by rw[vy,vz (L i f)];rfl
   rwa[(ha _ (vm e)).1]
  .have e:=hq.map λi=>kvs.getD i (0,0)
   rw[C]at e;have w:(List.range ⇑kvs).map (λi=>kvs.getD i (0,0))=kvs:=ext_getElem (by simp) λi g F=>by
    rw[getElem_map,getElem_range,vy,vz F];rfl
   rw[w]at e;rwa[e]
  .rw[v7];rwa[hs]
  .rw[vv]at O w;let⟨j,B,rfl⟩:=vg.mp O;rw[B]at w;cases w;rwa[k3 _ (vp _ (vK.mpr #[j,v4.mpr (L j (vm B)),rfl]))]
end
theorem Y1:∀{as:L7} {us:L9},Vals (as.map V.ref) us->us=as.map Value.ref
 | [],_,r=>by cases r;rfl
 | a::as,_,r=>by
  cases r with
  | cons r1 r2=>rw[Y1 r2,show _=Value.ref a from r1];rfl
theorem DE:∀{as:L7} {kvs:Nq},⇑as=⇑kvs->(∀(i:Nat) (a:Addr) (q:Int×Int),as[i]?⊂a->kvs[i]?⊂q->∃t u,IsTup h a [.int q.1 t,.int q.2 u].toArray)->
  ∃ps:List (Key×Value),KV (kvs.map lD) ps/\⇑ps=⇑kvs/\∀(j:Nat) (kv:Key×Value),ps[j]?⊂kv->∃a key,as[j]?⊂a/\IsTup h a [key,kv.2].toArray/\gv kv.1 key=true
 | [],[],_,_=>#[[],.nil,rfl,λj kv e=>by simp at e]
 | [],_::_,l,_=>by simp at l
 | _::_,[],l,_=>by simp at l
 | a::as,q::kvs,l,f=>by
  let⟨ps,o,p,r⟩:=DE (as:=as) (kvs:=kvs) #v[l] λi a q m n=>f (i+1) a q #v[m] #v[n]
  let⟨t,u,e⟩:=f 0 a q rfl rfl;erw[(Sum.inl q.1,.int q.2 u)::ps,.cons #[rfl,u,rfl] o,by rw[vQ,p,vQ],λj kv c=>?_];cases j with
  | zero=>simp at c;subst c;rwa[a,_,rfl,e,Xr _ _]
  | succ j=>let⟨b,s,d,g,k⟩:=r j kv #v[c];rwa[b,s,#v[d],g,k]
section
variable{X:Cx}
def GJ(G:X.calm=true):dE X (.type "dict") (λxs H Q=>∃(p:Addr) (as:L7) (kvs:Nq),xs=[.ref p]/\H p⊂(.lst (as.map V.ref))/\⇑as=⇑kvs/\
  (∀(i:Nat) (a:Addr) (q:Int×Int),as[i]?⊂a->kvs[i]?⊂q->H a⊂(.tup [.int q.1,.int q.2]))/\∀d,H d=none->Q (.ref d) (upd H d (.dK (cR [] (kvs.map lD))))):=by
 intro M s σ H xs us Q I r h;let⟨p,as,kvs,rfl,Z,B,ht,q⟩:=h;let⟨u,rfl,ru⟩:=vals1 r;cases ru;let⟨z,D,n,rv,lv,e⟩:=I.j1 Z;have W:=Y1 rv;subst W;rw[vt]at z;have J:p<s⁻¹:=vI e;let⟨ps,kp,N,pt⟩:=DE (h:=s.heap) B λi a q S U=>by
  let⟨_,D,r',t'⟩:=I.cK a _ (ht i a q S U);cases r' with
  | cons ra rr=>
   cases rr with
   | cons rb rr=>
    cases rr;let⟨t1,rfl⟩:=ra;let⟨t2,rfl⟩:=rb;rwa[t1,t2,t']
 erw[callType_codes (Q₁:=λt g=>t = .ref s⁻¹/\g={s with heap:=s.heap.push {cls:=.type "dict",data:=.dict #[]}}) PySem.F.kt_called_dict (PySem.F.kt_typeCall_dict_1 (.ref p)) PySem.F.entry_dict_init (kt_code_dict_new (.ref p) #[rfl,rfl]) ?_];rintro t g ⟨rfl,rfl⟩;have c:(s.heap.push {cls:=.type "dict",data:=.dict #[]}).DictOf (cv X.prog X.w) s⁻¹ []:=Heap.DictOf.new s.heap;have v:∀b o,s.heap.get? b⊂o->(s.heap.push {cls:=.type "dict",data:=.dict #[]}).get? b⊂o:=λb o e=>vJ _ e
 generalize s.heap.push {cls:=.type "dict",data:=.dict #[]}=h0 at c v;erw[c.typeIs (s:={s with heap:=h0}),PySem.F.args_dict_init_2 _ _,?_];unfold Builtin.«dict.__init__»;erw[ug ?_];unfold Builtin.Dict.selfAndRest;erw[ug (wpAny_notOrdered_dict (c.typeIs (s:={s with heap:=h0})) ?_)];show wpAny (model X.prog X.w) _ (pure (s⁻¹,[Value.ref p])) _ _ _;erw[uf ?_];show wpAny (model X.prog X.w) _ (Builtin.Dict.updateFrom "dict.__init__" s⁻¹ (.ref p) [] .none) _ _ _;unfold Builtin.Dict.updateFrom;erw[ug (wpAny_typeOf (T:="list") #[_,v _ _ e,rfl] ?_)];rw[vd nofun];erw[ug (oG (s:={s with heap:=h0}) (v _ _ e) rfl rfl rfl (I.ok.hd G) λm tk K=>?_)];rw[vd (show(none:Nv).isNone=true from rfl)];have f:∀b o,s.heap.get? b⊂o->m.get? b⊂o:=λb o e=>K b o (v b o e)
 have k:m.DictOf (cv X.prog X.w) s⁻¹ []:=c.keep K;have w:s⁻¹<m.objs.size:=by let⟨_,_,_,hg,_⟩:=k;rwa[vI hg]
 have lp:p<m.objs.size:=vZ J w;erw[ug (wpAny_rule ?_)];erw[ug (wpAny_pyIter_list (l:=p) (items:=(as.map Value.ref).toArray) #[_,f _ _ e,rfl,n,rfl] ?_)];erw[uf #[plainId_quiet yu _,?_]];refine AS (knd:=cv X.prog X.w) (A:=X.A.in1) (d:=s⁻¹) (it:=m.objs.size) (l:=p) (items:=as.map Value.ref) (res:=.none) (I.ok.hd G) (vE w) (vO J) (vO lp) ps 0 [] _
  #[_,Heap.get?_push_size _ rfl,rfl,rfl] #[_,vJ _ (f _ _ e),rfl,n,rfl] (by rw[vt,B,N,Nat.zero_add]) (λj kv Y=>?_) (k.push _) (by rw[length_nil,N,<-B,Nat.zero_add];rwa[z]) λh2 E k2 x=>?_
 .let⟨a,ky,O,⟨o,F,P⟩,R⟩:=pt j kv Y;have L:a<s⁻¹:=vI F;rwa[a,ky,by rw[Nat.zero_add,vv,O];rfl,#[o,vJ _ (f _ _ F),P],R,vE L,vE (vZ L w)]
 .refine#[rfl,.ref s⁻¹,upd H s⁻¹ (.dK (cR [] (kvs.map lD))),I.laid (t':=E) (λb o y=>k2 b o (vE (vI y)) (vE (vZ (vI y) w)) (vJ _ (f _ _ y))) (vb _) ?_,rfl,q _ (I.cK.fresh (vb _))];have hm:=Qx (kvs.map lD) [];rw[length_nil,vt]at hm;have C:(s⁻¹==sysModules)=false:=by
   rw[beq_eq_false_iff_ne];rwa[vO I.big]
  rwa[K1 ⋯ C (kp.merge .nil) x]
end
theorem kS{H:Hp}:∀(ks:L5),ig H (ks.map V.int) (ks.map PyData.int)
 | []=>.nil
 | k::r=>.cons (.int k) (kS r)
def LA(ks:L5):PyData.eqv (.list (ks.map PyData.int)) (.list [])=decide (ks=[]):=by
 cases ks<;>simp[PyData.eqv,PyData.eqvAll]
def Oq(R:X.A.units+64<cLine):gr X (compareOp .In) (λx y H Q=>∃(a l:Addr) (as:L7) (hs:L1),x = .ref a/\y = .ref l/\H a⊂(.lst [])/\H l⊂(.lst (as.map V.ref))/\⇑as=⇑hs/\
  (∀(i:Nat) (b:Addr) (ks:L5),as[i]?⊂b->hs[i]?⊂ks->H b⊂(.lst (ks.map V.int)))/\Q (.bl (hs.any λks=>decide (ks=[]))) H):=by
 intro n s T H x y v u Q I K L h;let⟨a,l,as,hs,rfl,rfl,p,A,P,C,q⟩:=h;cases K;cases L;let⟨E,r,F,S⟩:=I.list (cm.of A);have t:=Y1 r;subst t;let⟨M,G⟩:=Zn I (DV.lst p .nil) (show RelV (.ref a) (.ref a)from rfl)
 classical
 have o:∀(i:Nat) (b:Addr) (ks:L5),as[i]?⊂b->hs[i]?⊂ks->∃c,Reads s.heap (.ref b) (.list (ks.map PyData.int)) c:=λi b ks d f=>Zn I (DV.lst (C i b ks d f) (kS ks)) (show RelV (.ref b) (.ref b)from rfl)
 have m:∀(i:Nat) (b:Addr) (ks:L5),as[i]?⊂b->hs[i]?⊂ks->decide (∃c,Reads s.heap (.ref b) (.list []) c)=decide (ks=[]):=λi b ks d f=>by
  let⟨c,k⟩:=o i b ks d f;rw[decide_eq_decide];constructor
  .rintro⟨N,J⟩;have e:=SeqAt.Reads.unique _ _ _ _ _ (show PyData.canLay0 (.list [])=true from rfl) J k
   simp_all
  .rintro rfl;rwa[c,k]
 erw[SeqAt.in_listAt (λw=>decide (∃c,Reads s.heap w (.list []) c)) F.isList (λw j=>?_) #[.bl _,H,I,rfl,?_]]
 .let⟨i,g,e⟩:=mem_iff_getElem.mp (show w∈as.map Value.ref by simpa using j);rw[getElem_map]at e;rw[vt]at g;subst e;have d:as[i]?⊂as[i]:=vz g;have f:hs[i]?⊂hs[i]:=vz ⋯;let⟨c,k⟩:=o i _ _ d f;have z:=SeqAt.eqAt_reads _ _ X.A.in1 s _ _ _ _ k G (by show PyData.canLayAll0 _=true;rwa[ke_canLayAll0 _]) rfl (by
   show X.A.in1.units+min (PyData.depthAll _+1) (0+1)<cLine;have O:X.A.in1.units=X.A.units+1:=rfl;lia)
  rw[LA,<-m i _ _ d f]at z;rwa[z]
 .have e:(as.map Value.ref).toArray.any (λw=>decide (∃c,Reads s.heap w (.list []) c))=hs.any λks=>decide (ks=[]):=by
   rw[List.any_toArray,List.any_map,Bool.eq_iff_iff,any_eq_true,any_eq_true];constructor
   .rintro⟨b,B,j⟩;let⟨i,g,rfl⟩:=mem_iff_getElem.mp B;rwa[hs[i],getElem_mem _,by rw[<-m i _ _ (vz g) (vz ⋯)];rwa[j]]
   .rintro⟨ks,D,j⟩;let⟨i,g,rfl⟩:=mem_iff_getElem.mp D;erw[as[i],getElem_mem _,?_];show decide _=true;rw[m i _ _ (vz ⋯) (vz g)];rwa[j]
  rw[e];rwa[q]
def sQ(K:cG)(a:Addr)(n:Nat):It:=
 #[λi H=>∃xs x,cm K H a xs/\i<n/\xs[n-1-i]?⊂x,λi H x H'=>H'=H/\∀xs,cm K H a xs->xs[n-1-i]?⊂x,λi q=>i=n]
def K3{P:Program}{w:World}{K:cG}{tg:Expr}(a it:Addr)(n:Nat):Turn P w K tg (sQ K a n) [it] it (λi h=>h.IsRevIter it a ((n:Int)-1-(i:Nat))) where
 mem:=by simp
 obj:=λi h f b j=>by
  have e:b=it:=by simpa using j
  subst e;let⟨o,e,c,d⟩:=f;rwa[o,e,λv z=>by rw[d]at z;cases z]
 keep:=λi h q f k=>f.at λo e=>k it (by simp) o e
 item:=by
  intro X F G D J i g s N H E I r f m;subst F G D;let⟨xs,x,L,U,M⟩:=m;let⟨Z,rv,p,hz⟩:=I.list L;let⟨u,W,ru⟩:=rv.get M;let⟨t,y,T,A,B,C⟩:=r it (by simp);have e:((n:Int)-1-(i:Nat))=((n-1-i:Nat):Int):=⋯
  rw[e]at f;erw[wpAny_pyNext_rev_item f p.isList (x:=u) #v[W] λq l sb=>?_]
  have O:Inv X g N H {s with heap:=q}:=I.turned (t':=s.toks) (λb o j e=>(sb.2 b j).trans e) t y A B C;have Q:(((n-1-i:Nat):Int)-1)=((n:Int)-1-((i+1:Nat):Int)):=⋯
  rw[Q]at l;let⟨o,S,c,d⟩:=id l;rwa[u,rfl,tX (s:={s with heap:=q}) S c d nofun #[x,H,O,ru,#[rfl,λys Y=>by rw[I.fK Y L];rwa[M]],l,λb j=>(r b j).1]]
 done:=by
  intro X F G D J i g s N H E I r f m;subst F G D;have m:i=n:=m;subst m;let⟨t,y,T,A,B,C⟩:=r it (by simp);rw[show((i:Int)-1-(i:Nat)) = -1 by lia]at f;rwa[wpAny_pyNext_rev_end (I.ok.hd J) f λq R=>#[rfl,I.turned (t':=s.toks) (λb o j e=>R b o j e) t y A B C]]
 self:=λ_ _ _ _ _ f h=>wpAny_pyIter_revIter f h
def tQ(K:cG)(ta:TA):TI:=λσ H R=>ta σ H λvs H1=>∃a xs,vs=[.ref a]/\cm K H1 a xs/\R (sQ K a ⇑xs) H1
def Nf{X:Cx}{E a:Expr}{l:TA}{p j:Pos}(v:Gl X "reversed")(x:X.mg "reversed"= none)(r:PA X [a] l)(z:starEach [a] X.env=[(false,eval a X.env)]:=by rfl) :
  PI X E (.Call (.Name "reversed" p) [a] [] j) (tQ X.K l):=by
 intro i s F H R I h;erw[Call_ (Zs I v x FT (PyProof.Rows.callWith_type1 (cM (r j i s F H _ I h) λJ d z_=>?_) z rfl))];obtain⟨K,n,k,B,A⟩:=z_;let⟨b,m,rfl,y,q⟩:=A;let⟨u,rfl,C⟩:=vals1 B;cases C;let⟨g,D,p,G⟩:=k.list y;have w:=⇑D;erw[call_reversed_list p.isList ?_];have f:(d.heap.push (revObj b ((g.toArray.size:Int)-1))).IsRevIter d⁻¹ b ((⇑m:Int)-1-((0:Nat):Int)):=#[_,Heap.get?_push_size _ rfl,rfl,by rw[w];simp[revObj]]
 erw[wpAny_pyIter_revIter (s:={d with heap:=d.heap.push (revObj b ((g.toArray.size:Int)-1))}) f ?_];erw[d⁻¹,[d⁻¹],_,_,n,rfl,k.kept (t':=d.toks) λb o e=>vJ _ e,K3 b _ ⇑m,f,λc t=>?_,q];have e:c=d⁻¹:=by simpa using t
 subst e;rwa[k.gz (vb _) (k.cK.fresh (vb _))]
def LU{K:cG}{a:Addr}{xs:N4}{g:TG}{j:TS}{D:Ends}{b:St}{H:Hp}(c:Nat->St->Hp->Prop)(k:c 0 b H)(o:∀i b H,i<=⇑xs->c i b H->cm K H a xs)
  (r:∀i x b H,i<⇑xs->xs[⇑xs-1-i]?⊂x->c i b H->g x b H λf H2=>j {D with nx:=c (i+1),ct:=c (i+1),bk:=D.nx} f H2) (l:∀b H,c ⇑xs b H->D.nx b H) :
  ∃W:Nat->Nat->St->Hp->Prop,(∃m,W 0 m b H)/\∀i m b H,W i m b H->
   ((sQ K a ⇑xs).stop i H/\D.nx b H)\/((sQ K a ⇑xs).go i H/\∃N:St->Hp->Prop,(∀S' H',N S' H'->∃h,h<m/\W (i+1) h S' H')/\∀x H',(sQ K a ⇑xs).lV i H x H'->g x b H' λf H2=>j {D with nx:=N,ct:=N,bk:=D.nx} f H2):=by
 erw[λi m b H=>m=⇑xs-i/\i<=⇑xs/\c i b H,#[⇑xs,by simp,va _,k],?_];rintro i m b H ⟨rfl,n,p⟩;have q:=o i b H n p;by_cases d:i<⇑xs
 .refine .inr #[#[xs,xs[⇑xs-1-i],q,d,vz ⋯],c (i+1),λS' H' s=>#[⇑xs-(i+1),⋯,rfl,d,s],λx H' y=>?_];let⟨e,y⟩:=y;subst e;rwa[r i x b _ d (y xs q) p]
 .have e:i=⇑xs:=⋯
  subst e;rwa[.inl #[rfl,l b H p]]
def rd_iRev{K:cG}{b:TA}{c:St}{H:Hp}{R:It->Hp->Prop}(h:b c H λvs H1=>∃a xs,vs=[.ref a]/\cm K H1 a xs/\R (sQ K a ⇑xs) H1):tQ K b c H R:=h
section
variable{X:Cx}
def uX(K:cG)(ta:TE):TT:=λσ H Q=>ta σ H λx H'=>∃k,pq K x H' k/\Q k H'
def NA{a:Expr}{c:TE}(d:PE X a c)(e:∀b,isTrue a X.env b=(do let v <-b;standAt a.pos;holding [v] (truthy v))):PT X a (uX X.K c):=Jv d e
end
def rd_tru{K:cG}{a:TE}{b:St}{H:Hp}{Q:Bool->Hp->Prop}(h:a b H λx H'=>∃k,pq K x H' k/\Q k H'):uX K a b H Q:=h
def CV{K:cG}{a b:Addr}{xs zs:N4}{k:Nat}{ci:L6}{g:TG}{z:TT}{w:TE}{A:St}{H:Hp}{Z:Addr->N4->Hp->Prop}(d:Nat->N4->Hp->Prop)(s:⇑xs=⇑zs)(B:d 0 [] H)(F:∀i ys H,i<=⇑xs->d i ys H->cm K H a xs/\cm K H b zs)
  (G:∀i u v ys H T H',xs[i]?⊂u->zs[i]?⊂v->d i ys H->cj H H'->H' T⊂(.tup [u,v])->g (.ref T) (dH k ci A) H' λc H2=>z c H2 λb j=>if b=true then w c j λv n=>⇑ys<sizeLine/\d (i+1) (ys++[v]) n else d (i+1) ys j)
  (D:∀ys H,d ⇑xs ys H->⇑ys<=sizeLine/\∀p,H p=none->Z p ys H) :
  ∃W:Nat->Nat->N4->Hp->Prop,(∃m,W 0 m [] H)/\∀i m ys H,W i m ys H->
   ((ph K a b).stop i H/\⇑ys<=sizeLine/\∀p,H p=none->Z p ys H)\/
   ((ph K a b).go i H/\∃N:N4->Hp->Prop,(∀f H',N f H'->∃t,t<m/\W (i+1) t f H')/\∀x H',(ph K a b).lV i H x H'->g x (dH k ci A) H' λc H2=>z c H2 λb j=>
    if b=true then w c j λv n=>⇑ys<sizeLine/\N (ys++[v]) n else N ys j):=by
 erw[λi m ys H=>m=⇑xs-i/\i<=⇑xs/\d i ys H,#[⇑xs,by simp,va _,B],?_];rintro i m ys H ⟨rfl,E,p⟩;let⟨q,r⟩:=F i ys H E p;by_cases l:i<⇑xs
 .refine .inr #[#[xs,xs[i],zs,zs[i],q,by simp[l],r,by simp],d (i+1),λf H' I=>#[⇑xs-(i+1),⋯,rfl,l,I],λx H' y=>?_];let⟨T,u,v,rfl,C,e,y,J⟩:=y;rwa[G i u v ys H T H' (y xs q) (J zs r) p (λb o h=>by rw[e,jh (je h C)];rwa[h]) (by rw[e];rwa[jy])]
 .have e:i=⇑xs:=⋯
  subst e;rwa[.inl #[#[xs,zs,q,r,.inl (vb _)],D ys H p]]
section
variable{X:Cx}{e:Expr}{te:TE}
def rF(K:cG)(te:TE)(ts:TO):TE:=λσ H Q=>te σ H λx H1=>ts σ H1 λst H2=>st⊂(-1)/\∃a xs,x = .ref a/\cm K H2 a xs/\∀p,H2 p=none->Q (.ref p) (upd H2 p (.lst xs.reverse))
def Ld{xs:N4}{us:L9}(h:Vals xs us):Vals xs.reverse us.reverse:=by
 induction h with
 | nil=>rwa[.nil]
 | cons r _ ih=>rw[reverse_cons,reverse_cons];rwa[ih.append (.cons r .nil)]
def E6{st:Expr}{p:TO}{n j:Pos}(A:PE X e te)(B:PO X (some st) p):PE X (.Subscript e (.Slice none none (some st) n) j) (rF X.K te p):=by
 intro c s f H Q I h;erw[Subscript_ (cM (A c s f H _ I h) λv L z_=>?_)];obtain⟨x,t,w,K,J⟩:=z_;erw[wpAny_Slice ?_];rw[evalPart_none];erw[uf ?_];erw[uf ?_];erw[cM (B c L f t _ w J) λk d z_=>?_];obtain⟨N,u,y,G,i,a,M,z,C,q⟩:=z_
 subst i z;cases K;have g:Inv X c f u {d with heap:=d.heap.push {cls:=.type "slice",data:=.fields [.none,.none,k].toArray}}:=y.kept (t':=d.toks) λb F q=>vJ _ q
 let⟨E,r,m,D⟩:=g.list C;have l:=⇑r;show wpAny (model X.prog X.w) X.A (subscriptTail e (.Slice none none (some st) n) (.ref a) (.ref d⁻¹)) (EP X c f Q) X.xe {d with heap:=d.heap.push {cls:=.type "slice",data:=.fields [.none,.none,k].toArray}};erw[tail_any (ops:=[.ref a,.ref d⁻¹]) m.isList.typeIs slot_list_getitem.lookup ?_ (by with_unfolding_all rfl)];erw[wpAny_getItem_list_slice m.isList (Heap.IsSliceOf.new ..) .none .none G nofun ?_ (by simp_all)];rw[PySem.W.krv_pick];erw[.ref (d.heap.push {cls:=.type "slice",data:=.fields [.none,.none,k].toArray}).objs.size,_,g.laid (t':=d.toks) (o:=.lst M.reverse) (λb F q=>vJ _ q) (vb _) ?_,rfl,q _ (g.cK.fresh (vb _))];rwa[by rw[length_reverse];rwa[D],_,0,Ld r,Heap.get?_push_size _ rfl]
end
def rd_revS{K:cG}{c:TE}{d:TO}{b:St}{H:Hp}{Q:VK}(h:c b H λx H1=>d b H1 λst H2=>st⊂(-1)/\∃a xs,x = .ref a/\cm K H2 a xs/\∀p,H2 p=none->Q (.ref p) (upd H2 p (.lst xs.reverse))):rF K c d b H Q:=h
def NC{K:cG}{i j k:Nat}{a:Addr}{x y z:V}{b:St}{H:Hp}{R:St->Hp->Prop}(e:cL K H a [x,y,z])(h:cC i x b H λS' H'=>cC j y S' H' λS' H'=>cC k z S' H' R):nH K 3 (ec (cC i) (ec (cC j) (ec (cC k) nG))) (.ref a) b H R:=
 #[a,[x,y,z],rfl,e,rfl,x,[y,z],rfl,y,[z],rfl,z,[],rfl,rfl,h]
def BJ{K:cG}{i j k l:Nat}{a:Addr}{x y z w:V}{b:St}{H:Hp}{R:St->Hp->Prop}(e:cL K H a [x,y,z,w])(h:cC i x b H λS' H'=>cC j y S' H' λS' H'=>cC k z S' H' λS' H'=>cC l w S' H' R):nH K 4 (ec (cC i) (ec (cC j) (ec (cC k) (ec (cC l) nG)))) (.ref a) b H R:=
 #[a,[x,y,z,w],rfl,e,rfl,x,[y,z,w],rfl,y,[z,w],rfl,z,[w],rfl,w,[],rfl,rfl,h]
def rL(lo:Int)(n:Nat):It:=#[λi q=>i<n,λi H x H'=>H'=H/\x = .int (lo-i),λi q=>n<=i]
def Gn{P:Program}{w:World}{K:cG}{M:Expr}(it:Addr)(lo:Int)(n:Nat):Turn P w K M (rL lo n) [it] it (λi h=>IsRangeIter h it (lo+(i:Nat)*(-1)) ((n:Int)-(i:Nat)) (-1)) where
 mem:=by simp
 obj:=λi h c b d=>by
  have e:b=it:=by simpa using d
  simp_all
 keep:=λi h g c k=>k it (by simp) _ c
 item:=by
  intro X x A u y i a s C H E I j c z;subst x A u;let⟨l,m,G,p,q,r⟩:=j it (by simp);have W:=Walks.range (prog:=X.prog) (w:=X.w) (I.ok.hd y) it lo (-1) n;erw[W.item i s _ _ z c λv g B J f L=>?_]
  let⟨t,rfl⟩:=J;have D:Inv X a C H {s with heap:=g,toks:=B}:=I.turned (λb o d e=>L b o #v[d] e) l m p q r;erw[_,rfl,tX (s:={s with heap:=g,toks:=B}) (n:="range_iterator") f rfl rfl nofun #[.int (lo-i),H,D,#[t,?_],#[rfl,rfl],f,λb d=>(j b d).1]];rw[show lo+(i:Int)*(-1)=lo-i by lia]
 done:=by
  intro X x A u y i a s C H E I j c z;subst x A u;let⟨l,m,G,p,q,r⟩:=j it (by simp);rwa[wpAny_pyNext_range_end (I.ok.hd y) c (by have:n<=i:=z;lia) λg F=>#[rfl,I.turned (t':=s.toks) (λb o d e=>F b o d e) l m p q r]]
 self:=λZ Z Z Z Z c h=>wpAny_pyIter_rangeiter c h
section
variable{X:Cx}{tg:Expr}
def Y9(a b:Int):Builtin.Range.rangeSize a b (-1)=if b<a then a-b else 0:=by
 unfold Builtin.Range.rangeSize;simp only[show¬((-1:Int)>0) by decide,if_false,show(- -1:Int)=1 by decide,Int.ediv_one];split<;>lia
def Hx(c : -(2^61)<=a)(d:a<2^61)(e : -(2^61)<=b)(h:b<2^61):Builtin.Range.small a b (-1)=true:=by
 have f:∀x:Int,-(2^62)<=x->x<2^62->Builtin.Range.rangeFitsLong x=true:=λx c d=>by
  unfold Builtin.Range.rangeFitsLong;simp;lia
 unfold Builtin.Range.small;rw[Y9];have g : -(2^62)<=(if b<a then a-b else 0)/\(if b<a then a-b else 0)<2^62:=by split<;>lia
 rw[f a ⋯ ⋯,f b ⋯ ⋯,f (-1) nofun nofun,f _ g.1 g.2,vc (show¬((-1:Int)>0) by decide),f (b+(-1+1)) ⋯ ⋯];simp
def Ib{a:Ny}{f:St}{H:Hp}{s:Shared}{R:It->Hp->Prop}{E:Nz}{lo hi:Int}{t u v:Tok}{d:Nat}(I:Inv X a f H s)(i : -(2^61)<=lo)(j:lo<2^61)(k : -(2^61)<=hi)(l:hi<2^61)
  (q:R (rL lo (lo-hi).toNat) H):wpAny (model X.prog X.w) X.A (pyIter (.ref s⁻¹)) (AF X a f tg R) E {s with heap:=s.heap.push {cls:=.type "range",data:=.fields [.int lo t,.int hi u,.int (-1) v].toArray},toks:=d}:=by
 erw[wpAny_pyIter_range (IsRange.new ..) (Hx i j k l) ?_];have c:Inv X a f H {s with heap:=s.heap.push {cls:=.type "range",data:=.fields [.int lo t,.int hi u,.int (-1) v].toArray},toks:=d}:=I.kept λb o e=>vJ _ e
 refine#[(s.heap.push {cls:=.type "range",data:=.fields [.int lo t,.int hi u,.int (-1) v].toArray}).objs.size,[(s.heap.push {cls:=.type "range",data:=.fields [.int lo t,.int hi u,.int (-1) v].toArray}).objs.size],_,_,H,rfl,
  c.kept (t':=d) λb o e=>vJ _ e,Gn _ lo (lo-hi).toNat,?_,λb m=>?_,q]
 .have g:lo+((0:Nat):Int)*(-1)=lo:=by simp
  have h:(((lo-hi).toNat:Nat):Int)-((0:Nat):Int)=Builtin.Range.rangeSize lo hi (-1):=by rw[Y9];split<;>lia
  show IsRangeIter _ _ (lo+((0:Nat):Int)*(-1)) ((((lo-hi).toNat:Nat):Int)-((0:Nat):Int)) (-1);rw[g,h];rwa[Heap.get?_push_size _ rfl]
 .have e:b=(s.heap.push {cls:=.type "range",data:=.fields [.int lo t,.int hi u,.int (-1) v].toArray}).objs.size:=by simpa using m
  subst e;rwa[c.gz (vb _) (c.cK.fresh (vb _))]
def rj(ta:TA):TI:=λσ H R=>ta σ H λvs H1=>∃i j:Int,vs=[.int i,.int j,.int (-1)]/\(-(2^61)<=i/\i<2^61/\-(2^61)<=j/\j<2^61)/\R (rL i (i-j).toNat) H1
def HV(m:Gl X "range")(n:X.mg "range"= none)(l:PA X [a,b,c] ta)(o:starEach [a,b,c] X.env=(false,eval a X.env)::starEach [b,c] X.env:=by rfl)(f:(backTo pos (starEach [b,c] X.env)).any (·.1)=false:=by rfl) :
  PI X tg (.Call (.Name "range" p) [a,b,c] [] pos) (rj ta):=by
 intro d s z H R I h;erw[Call_ (Zs I m n boot_range (PyProof.Rows.callWith_type1 (cM (l pos d s z H _ I h) λD B z_=>?_) o f))];obtain⟨E,A,k,x,g⟩:=z_;let⟨i,j,e,⟨g,u,v,w⟩,q⟩:=g;subst e;cases x with
 | cons r rr=>
  cases rr with
  | cons r' rr=>
   cases rr with
   | cons r'' rr=>
    cases rr;let⟨t,rfl⟩:=r;let⟨C,rfl⟩:=r';let⟨y,rfl⟩:=r'';rwa[call_range_3 nofun (Ib k g u v w q) (.inl (PyProof.noPylong_small ⋯))]
end
def rd_rngD{a:St}{H:Hp}{R:It->Hp->Prop}(h:ta a H λvs H1=>∃i j:Int,vs=[.int i,.int j,.int (-1)]/\(-(2^61)<=i/\i<2^61/\-(2^61)<=j/\j<2^61)/\R (rL i (i-j).toNat) H1):rj ta a H R:=h
def IF{lo:Int}{n:Nat}{g:TG}{h:TS}{D:Ends}{a:St}{H:Hp}(b:Nat->St->Hp->Prop)(j:b 0 a H)(l:∀i a H,i<n->b i a H->g (.int (lo-i)) a H λd H2=>h {D with nx:=b (i+1),ct:=b (i+1),bk:=D.nx} d H2)(k:∀a H,b n a H->D.nx a H) :
  ∃W:Nat->Nat->St->Hp->Prop,(∃m,W 0 m a H)/\∀i m a H,W i m a H->
   ((rL lo n).stop i H/\D.nx a H)\/((rL lo n).go i H/\∃N:St->Hp->Prop,(∀S' H',N S' H'->∃f,f<m/\W (i+1) f S' H')/\∀x H',(rL lo n).lV i H x H'->g x a H' λd H2=>h {D with nx:=N,ct:=N,bk:=D.nx} d H2):=by
 erw[λi m a H=>m=n-i/\i<=n/\b i a H,#[n,by simp,va _,j],?_];rintro i m a H ⟨rfl,q,p⟩;by_cases c:i<n
 .refine .inr #[c,b (i+1),λS' H' o=>#[n-(i+1),⋯,rfl,c,o],λx H' y=>?_];let⟨e,y⟩:=y;subst e y;rwa[l i a _ c p]
 .have e:i=n:=⋯
  subst e;rwa[.inl #[vb _,k a H p]]
section
variable{X:Cx}
def HK:tD X "list.index" (λx vs H Q=>∃(p:Addr) (xs:N4) (y z:V) (j:Nat),x = .ref p/\vs=[y]/\cm X.K H p xs/\fj y=true/\xs.all fj=true/\xs[j]?⊂z/\mZ z y=true/\(∀(m:Nat) (c:V),m<j->xs[m]?⊂c->mZ c y=false)/\Q (.int j) H):=by
 intro E s σ H x vs v us Q I Z Y h;let⟨p,xs,y,z,j,rfl,rfl,U,N,d,f,M,k,q⟩:=h;cases Z;let⟨u,rfl,W⟩:=vals1 Y;let⟨a,r,G,hz⟩:=I.list U;have lx:=⇑r;have jl:=(vx.mp f).1;let⟨w',S,t⟩:=r.get f;have O:fj z=true:=all_eq_true.mp d z (vm f);let⟨⟨K,L,A,sl⟩,R,B,n,C⟩:=id G.isList;simp only at B C;subst B C;have g:j<a.toArray.size:=by rw[size_toArray];lia
 have J:sizeLine<2^62:=by decide
 have o:(j:Int)<2^63-1:=⋯
 erw[call_meets F.slot_list_index G.isList.typeIs F.entry_list_index (F.args_list_index_2 _ _) (SeqAt.list_indexAt p a.toArray n L sl u (mG y) j g o ?_ ?_) #[R,λy' l=>yq W N r d y' #v[l],#[.int j,H,I.tok _,#[_,rfl],q]]]
 .have e:a.toArray[j]=w':=by
   have:=vx.mp S;let⟨h,e⟩:=this;simpa using e
  rw[e,Af t O];rwa[M]
 .intro m D i;have P:m<⇑a:=by rw[size_toArray]at D;exact D
  obtain⟨c,b⟩:∃c,xs[m]?⊂c:=#[_,vz ⋯]
  let⟨w2,T,w⟩:=r.get b;have e:a.toArray[m]=w2:=by
   simp_all
  rw[e,Af w (all_eq_true.mp d c (vm b))];rwa[k m c i b]
end
noncomputable abbrev Ck(r:R2)(x:V)(Q:VK):VK:=λy H2=>r x y H2 Q
noncomputable abbrev OV(r:R2)(tb:TE)(σ:St)(Q:VK):VK:=λx H1=>tb σ H1 (Ck r x Q)
noncomputable abbrev OY(r:V->Hp->VK->Prop)(Q:VK):VK:=λx H1=>r x H1 Q
noncomputable abbrev Cj(x:V)(R:N4->Hp->Prop):N4->Hp->Prop:=λxs H2=>R (x::xs) H2
noncomputable abbrev OO(tr:TA)(σ:St)(R:N4->Hp->Prop):VK:=λx H1=>tr σ H1 (Cj x R)
noncomputable abbrev OK(g:TG)(σ:St)(R:St->Hp->Prop):VK:=λx H1=>g x σ H1 R
noncomputable abbrev OS(t u:TS)(D:Ends)(σ:St):Bool->Hp->Prop:=λb H1=>if b=true then t D σ H1 else u D σ H1
noncomputable abbrev Fw(R:Bool->Hp->Prop):VK:=λx H'=>∃k,x = .bl k/\R k H'
noncomputable abbrev OU(R:Bool->Hp->Prop):Bool->Hp->Prop:=λc H1=>R (!c) H1
noncomputable abbrev OJ(u:TT)(σ:St)(R:Bool->Hp->Prop):Bool->Hp->Prop:=λc H1=>if c=true then u σ H1 R else R false H1
noncomputable abbrev OW(u:TT)(σ:St)(R:Bool->Hp->Prop):Bool->Hp->Prop:=λc H1=>if c=true then R true H1 else u σ H1 R
noncomputable abbrev OM(sp:Sp)(dvs:N4)(Q:VK)(E:XK):N4->Hp->Prop:=λvs H1=>sp (vs++dvs) H1 Q E
noncomputable abbrev ON(r:N4->Hp->VK->Prop)(Q:VK):N4->Hp->Prop:=λvs H1=>r vs H1 Q
noncomputable abbrev OP(R:St->Hp->Prop)(σ:St):VK:=λq H1=>R σ H1
noncomputable abbrev OR(ta tb:TE)(σ:St)(Q:VK):Bool->Hp->Prop:=λc H1=>if c=true then ta σ H1 Q else tb σ H1 Q
noncomputable abbrev Ci(r:V->N4->Hp->VK->Prop)(x:V)(Q:VK):N4->Hp->Prop:=λxs H2=>r x xs H2 Q
noncomputable abbrev OL(K:cG)(T:String)(r:V->N4->Hp->VK->Prop)(t:TA)(σ:St)(Q:VK):VK:=λx H1=>vk K T x H1/\t σ H1 (Ci r x Q)
noncomputable abbrev OT(Q:VK):N4->Hp->Prop:=λxs H1=>⇑xs<=sizeLine/\∀p,H1 p=none->Q (.ref p) (upd H1 p (.lst xs))
noncomputable abbrev OX(Q:VK):N4->Hp->Prop:=λxs H1=>⇑xs<=sizeLine/\∀p,H1 p=none->Q (.ref p) (upd H1 p (.tup xs))
noncomputable abbrev OQ(K:cG)(f:Str)(Q:VK):VK:=λx H1=>∃a C dx fs v,x = .ref a/\H1 a⊂.ins C dx fs/\mJ K C/\dg K C f/\fs.lookup f⊂v/\Q v H1
section
variable{σ:St}{H:Hp}{D:Ends}{Q:VK}{ta tb te:TE}
def rd_seq(h:t {D with nx:=u D} σ H):uW t u D σ H:=h
def rd_asg(h:te σ H (OK g σ D.nx)):oN te g D σ H:=h
def rd_v0{r:St}(h:Q v H):ft 0 (some v::r) H Q:=#[v,rfl,h]
def rd_n0{r:St}{R:St->Hp->Prop}(h:R (some v::r) H):cC 0 v (a0::r) H R:=h
def rd_v1{r:St}(h:Q v H):ft 1 (a0::some v::r) H Q:=#[v,rfl,h]
def rd_n1{r:St}{R:St->Hp->Prop}(h:R (a0::some v::r) H):cC 1 v (a0::a1::r) H R:=h
def rd_v2{r:St}(h:Q v H):ft 2 (a0::a1::some v::r) H Q:=#[v,rfl,h]
def rd_n2{r:St}{R:St->Hp->Prop}(h:R (a0::a1::some v::r) H):cC 2 v (a0::a1::a2::r) H R:=h
def rd_v3{r:St}(h:Q v H):ft 3 (a0::a1::a2::some v::r) H Q:=#[v,rfl,h]
def rd_n3{r:St}{R:St->Hp->Prop}(h:R (a0::a1::a2::some v::r) H):cC 3 v (a0::a1::a2::a3::r) H R:=h
def rd_v4{r:St}(h:Q v H):ft 4 (a0::a1::a2::a3::some v::r) H Q:=#[v,rfl,h]
def rd_n4{r:St}{R:St->Hp->Prop}(h:R (a0::a1::a2::a3::some v::r) H):cC 4 v (a0::a1::a2::a3::a4::r) H R:=h
def rd_v5{r:St}(h:Q v H):ft 5 (a0::a1::a2::a3::a4::some v::r) H Q:=#[v,rfl,h]
def rd_n5{r:St}{R:St->Hp->Prop}(h:R (a0::a1::a2::a3::a4::some v::r) H):cC 5 v (a0::a1::a2::a3::a4::a5::r) H R:=h
def rd_v6{r:St}(h:Q v H):ft 6 (a0::a1::a2::a3::a4::a5::some v::r) H Q:=#[v,rfl,h]
def rd_n6{r:St}{R:St->Hp->Prop}(h:R (a0::a1::a2::a3::a4::a5::some v::r) H):cC 6 v (a0::a1::a2::a3::a4::a5::a6::r) H R:=h
def rd_v7{r:St}(h:Q v H):ft 7 (a0::a1::a2::a3::a4::a5::a6::some v::r) H Q:=#[v,rfl,h]
def rd_n7{r:St}{R:St->Hp->Prop}(h:R (a0::a1::a2::a3::a4::a5::a6::some v::r) H):cC 7 v (a0::a1::a2::a3::a4::a5::a6::a7::r) H R:=h
def rd_v8{r:St}(h:Q v H):ft 8 (a0::a1::a2::a3::a4::a5::a6::a7::some v::r) H Q:=#[v,rfl,h]
def rd_n8{r:St}{R:St->Hp->Prop}(h:R (a0::a1::a2::a3::a4::a5::a6::a7::some v::r) H):cC 8 v (a0::a1::a2::a3::a4::a5::a6::a7::a8::r) H R:=h
def rd_v9{r:St}(h:Q v H):ft 9 (a0::a1::a2::a3::a4::a5::a6::a7::a8::some v::r) H Q:=#[v,rfl,h]
def rd_n9{r:St}{R:St->Hp->Prop}(h:R (a0::a1::a2::a3::a4::a5::a6::a7::a8::some v::r) H):cC 9 v (a0::a1::a2::a3::a4::a5::a6::a7::a8::a9::r) H R:=h
def rd_v10{r:St}(h:Q v H):ft 10 (a0::a1::a2::a3::a4::a5::a6::a7::a8::a9::some v::r) H Q:=#[v,rfl,h]
def rd_n10{r:St}{R:St->Hp->Prop}(h:R (a0::a1::a2::a3::a4::a5::a6::a7::a8::a9::some v::r) H):cC 10 v (a0::a1::a2::a3::a4::a5::a6::a7::a8::a9::a10::r) H R:=h
def rd_v11{r:St}(h:Q v H):ft 11 (a0::a1::a2::a3::a4::a5::a6::a7::a8::a9::a10::some v::r) H Q:=#[v,rfl,h]
def rd_n11{r:St}{R:St->Hp->Prop}(h:R (a0::a1::a2::a3::a4::a5::a6::a7::a8::a9::a10::some v::r) H):cC 11 v (a0::a1::a2::a3::a4::a5::a6::a7::a8::a9::a10::a11::r) H R:=h
def rd_v12{r:St}(h:Q v H):ft 12 (a0::a1::a2::a3::a4::a5::a6::a7::a8::a9::a10::a11::some v::r) H Q:=#[v,rfl,h]
def rd_n12{r:St}{R:St->Hp->Prop}(h:R (a0::a1::a2::a3::a4::a5::a6::a7::a8::a9::a10::a11::some v::r) H):cC 12 v (a0::a1::a2::a3::a4::a5::a6::a7::a8::a9::a10::a11::a12::r) H R:=h
def rd_v13{r:St}(h:Q v H):ft 13 (a0::a1::a2::a3::a4::a5::a6::a7::a8::a9::a10::a11::a12::some v::r) H Q:=#[v,rfl,h]
def rd_n13{r:St}{R:St->Hp->Prop}(h:R (a0::a1::a2::a3::a4::a5::a6::a7::a8::a9::a10::a11::a12::some v::r) H):cC 13 v (a0::a1::a2::a3::a4::a5::a6::a7::a8::a9::a10::a11::a12::a13::r) H R:=h
def rd_v14{r:St}(h:Q v H):ft 14 (a0::a1::a2::a3::a4::a5::a6::a7::a8::a9::a10::a11::a12::a13::some v::r) H Q:=#[v,rfl,h]
def rd_n14{r:St}{R:St->Hp->Prop}(h:R (a0::a1::a2::a3::a4::a5::a6::a7::a8::a9::a10::a11::a12::a13::some v::r) H):cC 14 v (a0::a1::a2::a3::a4::a5::a6::a7::a8::a9::a10::a11::a12::a13::a14::r) H R:=h
def rd_v15{r:St}(h:Q v H):ft 15 (a0::a1::a2::a3::a4::a5::a6::a7::a8::a9::a10::a11::a12::a13::a14::some v::r) H Q:=#[v,rfl,h]
def rd_n15{r:St}{R:St->Hp->Prop}(h:R (a0::a1::a2::a3::a4::a5::a6::a7::a8::a9::a10::a11::a12::a13::a14::some v::r) H):cC 15 v (a0::a1::a2::a3::a4::a5::a6::a7::a8::a9::a10::a11::a12::a13::a14::a15::r) H R:=h
def rd_v16{r:St}(h:Q v H):ft 16 (a0::a1::a2::a3::a4::a5::a6::a7::a8::a9::a10::a11::a12::a13::a14::a15::some v::r) H Q:=#[v,rfl,h]
def rd_n16{r:St}{R:St->Hp->Prop}(h:R (a0::a1::a2::a3::a4::a5::a6::a7::a8::a9::a10::a11::a12::a13::a14::a15::some v::r) H):cC 16 v (a0::a1::a2::a3::a4::a5::a6::a7::a8::a9::a10::a11::a12::a13::a14::a15::a16::r) H R:=h
def rd_const(h:Q v H):tC v σ H Q:=h
def rd_op(h:ta σ H (OV r tb σ Q)):uU r ta tb σ H Q:=h
def rd_un{r:V->Hp->VK->Prop}(h:ta σ H (OY r Q)):FF r ta σ H Q:=h
def rd_i0{g:Int->Int->V}(h:Q (g i j) H):pL g (.int i) (.int j) H Q:=#[i,j,rfl,rfl,h]
def OI{C:Int->Int->Prop}{g:Int->Int->V}(c:C i j)(h:Q (g i j) H):rI C g (.int i) (.int j) H Q:=#[i,j,rfl,rfl,c,h]
def rd_u{g:Int->V}(h:Q (g i) H):rU g (.int i) H Q:=#[i,rfl,h]
def rd_eqI(h:Q (.bl (decide (i=j))) H):Cs (.int i) (.int j) H Q:=by
 erw[rfl,?_];rw[show decide (V.int i=V.int j)=decide (i=j) by simp];rwa[h]
def rd_neI(h:Q (.bl (!decide (i=j))) H):Fy (.int i) (.int j) H Q:=by
 erw[rfl,?_];rw[show decide (V.int i=V.int j)=decide (i=j) by simp];rwa[h]
def rd_eqS(h:Q (.bl (decide (i=j))) H):Cs (.str i) (.str j) H Q:=by
 erw[rfl,?_];rw[show decide (V.str i=V.str j)=decide (i=j) by simp];rwa[h]
def rd_if(h:c σ H (OS t u D σ)):sF c t u D σ H:=h
def rd_test{R:Bool->Hp->Prop}(h:te σ H (Fw R)):oV te σ H R:=h
def rd_tB{R:Bool->Hp->Prop}(h:te σ H (Fw R)):tB te σ H R:=h
def rd_blP{R:Bool->Prop}(h:R k):∃a,V.bl k = .bl a/\R a:=#[k,rfl,h]
def rd_not{R:Bool->Hp->Prop}(h:t σ H (OU R)):uT t σ H R:=h
def rd_and{R:Bool->Hp->Prop}(h:t σ H (OJ u σ R)):uK t u σ H R:=h
def rd_or{R:Bool->Hp->Prop}(h:t σ H (OW u σ R)):FD t u σ H R:=h
def rd_andV(h:ta σ H λx H1=>∃c,x = .bl c/\if c=true then tb σ H1 Q else Q (.bl false) H1):rq ta tb σ H Q:=h
def rd_ifE(h:t σ H (OR ta tb σ Q)):FA t ta tb σ H Q:=h
def rd_ret(h:te σ H D.rt):uV te D σ H:=h
def rd_next(h:D.nx σ H):rC D σ H:=h
def rd_drop(h:te σ H (OP D.nx σ)):rA te D σ H:=h
def rd_cb{r:N4->Hp->VK->Prop}(h:t σ H (ON r Q)):CA r t σ H Q:=h
def rd_call{sp:Sp}(h:t σ H (OM sp dvs Q E)):oO sp dvs E t σ H Q:=h
def rd_fld{K:cG}{f:Str}(h:ta σ H (OQ K f Q)):uP K ta f σ H Q:=h
def rd_sfld{K:cG}{f:Str}(h:tb σ H λy H1=>ta σ H1 λx H2=>∃a C dx fs,x = .ref a/\H2 a⊂.ins C dx fs/\mJ K C/\dg K C f/\⇑fs<1000/\D.nx σ (upd H2 a (.ins C dx (cE f y fs)))):uH K ta tb f D σ H:=h
def rd_meth{sp:Sp}(h:ta σ H λx H1=>∃a dx fs,x = .ref a/\H1 a⊂.ins C dx fs/\fs.lookup m=none/\t σ H1 λvs H2=>sp (x::(vs++dvs)) H2 Q E):oU C m sp dvs E ta t σ H Q:=h
def rd_make{sp:Sp}(h:t σ H λvs H1=>∀x dx,H1 x=none->H1 dx=none->dx≠x->sp (.ref x::(vs++dvs)) (upd (upd H1 dx (.own x)) x (.ins C dx [])) (λv H2=>v = .dj/\Q (.ref x) H2) E):rB C sp dvs E t σ H Q:=h
def rd_dIn(h:ta σ H λy H1=>tb σ H1 λx H2=>∃a o,x = .ref a/\du H2 a y o/\Q (.bl o.isSome) H2):uO ta tb σ H Q:=h
def rd_nil{R:N4->Hp->Prop}(h:R [] H):sI σ H R:=h
def rd_cons{R:N4->Hp->Prop}(h:ta σ H (OO tr σ R)):rx ta tr σ H R:=h
def rd_lst(h:t σ H (OT Q)):uS t σ H Q:=h
def rd_tup(h:t σ H (OX Q)):uZ t σ H Q:=h
def rd_chain(h:ta σ H λx H1=>tb σ H1 λy H2=>r x y H2 λz a=>∃k,z = .bl k/\(if k=true then tc σ a λc b=>r' y c b Q else Q (.bl false) a)):oP r r' ta tb tc σ H Q:=h
def rd_bm{K:cG}{T:String}{r:V->N4->Hp->VK->Prop}{t:TA}(h:te σ H (OL K T r t σ Q)):Fz K T r te t σ H Q:=h
def rd_sl{r:V->Option Int->Option Int->Hp->VK->Prop}(h:te σ H λx H1=>tl σ H1 λl H2=>th σ H2 λu a=>r x l u a Q):FE r te tl th σ H Q:=h
def rd_nopart{R:Option Int->Hp->Prop}(h:R none H):ni σ H R:=h
def rd_part{R:Option Int->Hp->Prop}(h:te σ H λx H1=>∃i,x = .int i/\R (some i) H1):rD te σ H R:=h
def rd_int{R:Int->Prop}(h:R i):∃a,V.int i = .int a/\R a:=#[i,rfl,h]
def cH{p A B:Prop}[Decidable p](a:p->A)(b:¬p->B):if decide p=true then A else B:=by
 by_cases h:p
 .rw[vd (vG h)];rwa[a h]
 .rw[vc #v[h]];rwa[b h]
def mu{p A B:Prop}[Decidable p](a:¬p->A)(b:p->B):if(!decide p)=true then A else B:=by
 by_cases h:p
 .rw[vc #v[h]];rwa[b h]
 .rw[vd #v[h]];rwa[a h]
def rd_rng1{a:TA}{R:It->Hp->Prop}(h:a σ H λvs H1=>∃j:Int,vs=[.int j]/\-(2^62)<=j/\j<2^62/\R (nQ 0 j.toNat) H1):rh a σ H R:=h
def rd_rng2{a:TA}{R:It->Hp->Prop}(h:a σ H λvs H1=>∃i j:Int,vs=[.int i,.int j]/\(-(2^62)<=i/\i<2^62/\-(2^62)<=j/\j<2^62)/\R (nQ i (j-i).toNat) H1):ri a σ H R:=h
def rd_iList{K:cG}{R:It->Hp->Prop}(h:te σ H λx H1=>∃a,x = .ref a/\(∃xs,cm K H1 a xs)/\R (n6 K a) H1):rg K te σ H R:=h
def rd_p18(h:Q (.int (10^18)) H):rI nY (λi j=>.int (i^j.toNat)) (.int 10) (.int 18) H Q:=#[10,18,rfl,rfl,#[by decide,by decide,by decide],h]
def rd_p30(h:Q (.int (10^30)) H):rI nY (λi j=>.int (i^j.toNat)) (.int 10) (.int 30) H Q:=#[10,30,rfl,rfl,#[by decide,by decide,by decide],h]
def rd_p60(h:Q (.int (10^60)) H):rI nY (λi j=>.int (i^j.toNat)) (.int 10) (.int 60) H Q:=#[10,60,rfl,rfl,#[by decide,by decide,by decide],h]
def rd_aug(h:ft i σ H λx H0=>te σ H0 λy H1=>ti x y H1 λz H2=>cC i z σ H2 D.nx):uL i te ti D σ H:=h
def rd_ipI{f:Int->Int->Int}(h:Q (.int (f i j)) H):CJ f (.int i) (.int j) H Q:=#[i,j,rfl,rfl,h]
def rd_for{c:TS} (h:wi σ H λJ H1=>∃W:Nat->Nat->St->Hp->Prop,(∃m,W 0 m σ H1)/\∀i m σ H,W i m σ H->
 (J.stop i H/\D.nx σ H)\/(J.go i H/\∃N:St->Hp->Prop,(∀S' H',N S' H'->∃b,b<m/\W (i+1) b S' H')/\∀x H',J.lV i H x H'->g x σ H' λa H2=>c {D with nx:=N,ct:=N,bk:=D.nx} a H2)):uQ wi g c D σ H:=h
def rd_comp (h:wi σ H λJ H1=>∃W:Nat->Nat->N4->Hp->Prop,(∃m,W 0 m [] H1)/\∀i m ys H,W i m ys H->
 (J.stop i H/\⇑ys<=sizeLine/\∀p,H p=none->Q (.ref p) (upd H p (.lst ys)))\/
 (J.go i H/\∃N:N4->Hp->Prop,(∀a H',N a H'->∃e,e<m/\W (i+1) e a H')/\∀x H',J.lV i H x H'->g x (dH n ci σ) H' λc H2=>tf c H2 λb d=>
  if b=true then te c d λv f=>⇑ys<sizeLine/\N (ys++[v]) f else N ys d)):oQ wi n ci g tf te σ H Q:=h
def rd_yes{R:Bool->Hp->Prop}(h:R true H):u4 σ H R:=h
def Js{n:Nat}{ci:L6}{g:TG}{x:V}{S':St}{R:St->Hp->Prop}(e:dH n ci σ=S')(h:g x S' H R):g x (dH n ci σ) H R:=by rw[e];rwa[h]
def jB{t:TS}{S':St}(e:σ=S')(h:t D S' H):t D σ H:=by subst e;rwa[h]
def Wr{H H':Hp}(h:H p=none)(e:upd H p o=H'):cj H H':=λb u q=>by rw[<-e,jh (je q h)];rwa[q]
def qV{H H':Hp}(e:upd H p o=H'):H' p⊂o:=by rw[<-e];rwa[jy]
end
def cz{K:cG}{p:Addr}{xs:N4}{i:Int}{v:V}{H:Hp}{Q:VK}(h:cm K H p xs)(e:fi xs i⊂v)(q:Q v H):oI K (.ref p) (.int i) H Q:=#[p,xs,i,v,rfl,rfl,h,e,q]
def eQ{K:cG}{p:Addr}{xs:N4}{i:Int}{v:V}{H:Hp}{Q:VK}(h:cL K H p xs)(e:fi xs i⊂v)(q:Q v H):pM K (.ref p) (.int i) H Q:=#[p,xs,i,v,rfl,rfl,h,e,q]
def cx{K:cG}{p:Addr}{xs:N4}{i:Int}{v:V}{H:Hp}{Q:VK}(h:H p⊂.tup xs)(q:Q v H)(e:fi xs i⊂v:=by rfl):pM K (.ref p) (.int i) H Q:=#[p,xs,i,v,rfl,rfl,cL.of h,e,q]
end L2
local macro_rules | `(tactic| walk_at "side") => `(tactic| first | with_reducible assumption | exact L2.tK (by lia) (by lia) | exact L2.uu (by lia) (by lia) (by lia) (by lia) | exact L2.mulOkC (by first | assumption | exact L2.bits_ediv (by assumption) _) (by lia) (by lia) | lia)
local macro_rules | `(tactic| walk_at $s:str) => do
 let ws:=s.getString.splitOn " "
 if ws.head?==some "f" then
  let vs:=if ws.length==3 then["p"++ws.getD 1 "","hp"++ws.getD 1 "","H"++ws.getD 1 "","s"++ws.getD 1 "",ws.getD 2 ""++ws.getD 1 ""]else ws.drop 1
  let i:=λ(k:Nat)=>Lean.mkIdent (Lean.Name.mkSimple (vs.getD k ""))
  return <-`(tactic| (intro $(i 0):ident $(i 1):ident;generalize eH:L2.upd _ $(i 0) _ = $(i 2):ident;have $(i 3):ident:=L2.Wr $(i 1) eH;have $(i 4):ident:=L2.qV eH;clear eH))
 if s.getString != "g" then Lean.Macro.throwUnsupported
 let as <-("rd_seq rd_asg rd_op rd_const rd_i0 rd_cons rd_nil rd_call rd_ret rd_if rd_test rd_tB rd_blP rd_not rd_next rd_v0 rd_v1 rd_v2 rd_v3 rd_v4 rd_v5 rd_v6 rd_v7 rd_v8 rd_v9 rd_v10 rd_v11 rd_v12 rd_v13 rd_v14 rd_v15 rd_v16 rd_un rd_u rd_and rd_or rd_andV rd_ifE rd_drop rd_cb rd_lst rd_tup rd_chain rd_bm rd_sl rd_nopart rd_part rd_eqI rd_neI rd_eqS rd_str rd_int rd_rng1 rd_rng2 rd_iList rd_ipI rd_aug rd_for rd_comp rd_yes rd_dget rd_prC rd_prN rd_iTup rd_sub rd_iEnum rd_iZip rd_dnew rd_dput rd_bm0 rd_iRev rd_tru rd_revS rd_rngD rd_fld rd_sfld rd_meth rd_make rd_dIn rd_n0 rd_n1 rd_n2 rd_n3 rd_n4 rd_n5 rd_n6 rd_n7 rd_n8 rd_n9 rd_n10 rd_n11 rd_n12 rd_n13 rd_n14 rd_n15 rd_n16 rd_p18 rd_p30 rd_p60".splitOn " ").toArray.mapM λn=>`(Lean.Parser.Tactic.tacticSeq| refine $(Lean.mkIdent (Lean.Name.mkStr2 "L2" n)) ?_)
 `(tactic| repeat first | with_reducible (first $[| $as]*) | (with_reducible refine L2.OI ?c ?_; (case c => ((try dsimp only); walk_at "side"))))
local macro_rules | `(tactic| exists $e) => `(tactic| (walk_at "g"; refine $e))
local macro_rules | `(tactic| ac_nf) => `(tactic| walk_at "g")
local macro_rules | `(tactic| sleep $n) => `(tactic| walk_at $(Lean.Syntax.mkStrLit s!"f {n.getNat} t"))
local macro_rules | `(tactic| trivial) => `(tactic| decide +kernel)
namespace Rp
noncomputable def ramp(s g b j:Int):Int:=s+(g-s)*j/b
end Rp
namespace Pr
open PySem L2
noncomputable def cell(ns:L5)(k:Int):Int:=ns∘k.toNat
inductive eN(K:cG)(vs:N4)(H:Hp)(Q:VK)(xk:XK):Prop
 | mk (a) (ns:L5) (k):vs=[.ref a,.int k]->cm K H a (ns.map V.int)->⇑ns<=63->0<=k->Q (.int (cell ns k)) H->eN K vs H Q xk
def Ln{a:L5}{k:Int}(d:0<=k)(h:k<(⇑a:Int)):fi (a.map V.int) k⊂(.int (cell a k)):=by
 have c:k=((k.toNat:Nat):Int):=⋯
 have b:k.toNat<⇑a:=⋯
 have q:fi (a.map V.int) ((k.toNat:Nat):Int)⊂(.int a[k.toNat]):=jV (by rw[vv,vz b]<;>rfl);rw[<-c]at q;rw[q];unfold cell;rw[vy,vz b];rfl
inductive hJ(K:cG)(vs:N4)(H:Hp)(Q:VK)(xk:XK):Prop
 | mk (a) (ns:L5):vs=[.ref a]->cm K H a (ns.map V.int)->⇑ns<=63->(∀x∈ns,Builtin.Int.intBits x<=1048576)->(∀H',Q (.bl true) H')->hJ K vs H Q xk
def B4(s g b j:Int):Prop:=-10^61<=s/\s<=10^61/\-10^61<=g/\g<=10^61/\0<b/\b<=10^61/\-10^61<=j/\j<=10^61
def DZ:Sp:=λvs H Q q=>∃s g b j:Int,vs=[.int s,.int g,.int b,.int j]/\B4 s g b j/\Q (.int (Rp.ramp s g b j)) H
end Pr
namespace Ws
open PySem PySem.NumText L2
noncomputable def lets:Str:="abcdefghijklmnopqrstuvwxyz"
noncomputable def among(x z:Str):Bool:=decide (∀c∈x.cps.toList,c∈z.cps.toList)
noncomputable def gn(x:Str):Bool:=decide (1<=⇑x/\⇑x<=8)&&among x lets
open PySem L2
end Ws
namespace Rm
open PySem PySem.NumText PyProof.Rows L2
def Lx{x:Str}{lo hi:Nu}:⇑(Txt.slice x lo hi)<=⇑x:=Txt.slice_le x lo hi
def IT:c∈Ws.lets.cps.toList↔97<=c/\c<=122:=by
 rw[show Ws.lets.cps.toList=List.range' 97 26 by trivial,List.mem_range'_1];lia
def E2{i:Int}(a:0<=i)(b:i<26):fi (Str.ofString "abcdefghijklmnopqrstuvwxyz").cps.toList i⊂(97+i.toNat):=by
 have h:∀k:Nat,k<26->fi (Str.ofString "abcdefghijklmnopqrstuvwxyz").cps.toList (k:Int)⊂(97+(k:Int).toNat):=by trivial
 have e:=h i.toNat ⋯;rw[Int.toNat_of_nonneg a]at e;rwa[e]
open PySem L2
def none_of{H H':Hp}(s:cj H H')(h:H' p=none):H p=none:=by
 cases e:H p with
 | none=>rfl
 | some u=>rw[s _ _ e]at h;cases h
inductive Fm where
 | hold (n:Int) | ring (x:Str) (n:Int) | rise (x:Str) (h n:Int) | row (ps:L8) | side (ps:L8) | again (k:Int) (x:Str)
abbrev N2:=List (Str×Fm)
noncomputable def cw(H:Hp)(a:Addr):Fm->Prop
 | .hold n=>H a⊂(.tup [.str "hold",.int n])
 | .ring x n=>H a⊂(.tup [.str "ring",.str x,.int n])
 | .rise x h n=>H a⊂(.tup [.str "raise",.str x,.int h,.int n])
 | .row ps=>∃b,H a⊂(.tup [.str "row",.ref b])/\H b⊂(.tup (ps.map V.str))
 | .side ps=>∃b,H a⊂(.tup [.str "side",.ref b])/\H b⊂(.tup (ps.map V.str))
 | .again k x=>H a⊂(.tup [.str "again",.int k,.str x])
def dh(H:Hp)(a:Addr)(p:Str×Fm):Prop:=∃b,H a⊂(.tup [.str p.1,.ref b])/\cw H b p.2
def fI(H:Hp)(a:Addr)(p:Str×Int):Prop:=H a⊂(.tup [.str p.1,.int p.2])
def cp{α:Type}(R:Addr->α->Prop)(as:L7)(xs:List α):Prop:=⇑as=⇑xs/\∀(i:Nat) (a:Addr) (x:α),as[i]?⊂a->xs[i]?⊂x->R a x
def cp.nil{b:Type}{R:Addr->b->Prop}:cp R [] []:=#[rfl,λi a x h=>by simp at h]
def cp.mono{b:Type}{R S:Addr->b->Prop}{as:L7}{xs:List b}(h:cp R as xs)(k:∀a x,R a x->S a x):cp S as xs:=#[h.1,λi a x c d=>k a x (h.2 i a x c d)]
def cp.snoc{f:Type}{R:Addr->f->Prop}{as:L7}{xs:List f}{a:Addr}{x:f}(h:cp R as xs)(k:R a x):cp R (as++[a]) (xs++[x]):=by
 have j:=h.1;erw[by simp[j],λi b y c d=>?_];by_cases g:i<⇑as
 .rw[vB g]at c;rw[vB ⋯]at d;rwa[h.2 i b y c d]
 .rw[vC ⋯]at c;rw[vC ⋯]at d;have e:i-⇑as=0:=by
   have:=(vx.mp c).1;simp at this;lia
  rw[e]at c;rw[show i-⇑xs=0 by lia]at d;simp at c d;subst c d;rwa[k]
def cp.get{b:Type}{R:Addr->b->Prop}{as:L7}{xs:List b}{i:Nat}{x:b}(h:cp R as xs)(d:xs[i]?⊂x):∃a,as[i]?⊂a/\R a x:=by
 have e:=(vx.mp d).1;have f:=h.1;have c:as[i]?⊂as[i]:=vz ⋯;rwa[_,c,h.2 i _ _ c d]
section
variable{m:Rr}{f:Fm}{ks:L5}{g:Int}
def getD_snoc{a:Type}{l:List a}{x d:a}{j:Nat}(h:j<⇑l):(l++[x]).getD j d=l.getD j d:=by
 rw[vy,vy,vB h]
def getD_last{a:Type}{l:List a}{x d:a}:(l++[x]).getD ⇑l d=x:=by
 rw[vy,vC (vb _),uq];rfl
end
def getD_in{a:L8}{n:Nat}(h:n<⇑a):a.getD n ⟨#[]⟩∈a:=by
 simp_all
def ZM{as:L7}{i:Int}{a:Addr}(b:0<=i)(h:as[i.toNat]?⊂a):fi (as.map V.ref) i=↥a:=by
 have e:fi (as.map V.ref) ((i.toNat:Nat):Int)=↥a:=jV (by simp_all);rw[Int.toNat_of_nonneg b]at e;rwa[e]
open PySem PySem.Spec PyProof.Rows L2
noncomputable def vN(j:Nat):V:=.int j
theorem wa:∀{ks:L5} {lo hi:Int},ks.Pairwise (· < ·)->(∀k∈ks,lo<=k/\k<hi)->⇑ks<=(hi-lo).toNat
 | [],_,_,_,_=>va _
 | k::r,lo,hi,h,b=>by
  have c:=wa (ks:=r) (lo:=k+1) (hi:=hi) (vV.mp h).2 λx a=>#[(vV.mp h).1 x a,(b x (vp _ a)).2]
  have d:=b k vq;rw[vQ];lia
def sY{H:Hp}(h:H a⊂(.lst [])):DV H (.ref a) (.list []):=.lst h .nil
def nK:SeqAt.shaped (.list [])=true:=PySem.W.ke_shaped_ints []
theorem Ec(n:Int):∀hs:L5,oC (.int n) (hs.map V.int)=decide (n∈hs)
 | []=>rfl
 | h::r=>by
  have a:=Ec n r;unfold oC at a|-;rw[uz,any_cons,a];have e:mZ (.int h) (.int n)=decide (h=n):=by
   show decide _=_;simp
  grind
def FH(n:Int)(a:L5):(if false=true then !oC (.int n) (a.map V.int)else oC (.int n) (a.map V.int))=decide (n∈a):=by rw[vc nofun,Ec]
theorem pZ:∀hs:L5,(hs.map V.int).all fj=true
 | []=>rfl
 | h::r=>by rw[uz,all_cons,pZ r];rfl
def take_snoc{a:Type}{l:List a}{i:Nat}{x:a}(h:l[i]?⊂x):l.take (i+1)=l.take i++[x]:=by
 rw[List.take_add_one,h];rfl
def tV{is:L6}{i:Nat}{x:V}(h:(is.map vN)[i]?⊂x):∃j,is[i]?⊂j/\x = .int j/\j∈is:=by
 rw[vv]at h;let⟨j,a,rfl⟩:=vg.mp h;rwa[j,a,rfl,vm a]
def Hy{ms c:L5}(e:ms.Perm c)(f:c.Nodup)(d:ms.Pairwise (·<=·)):ms.Pairwise (· < ·):=
 (List.Pairwise.and d (e.nodup_iff.mpr f)).imp λ{a b} h=>by have g:=h.1;have i:a≠b:=h.2;lia
def dV(n:Nat)(d:PyData):Prop:=d.canLay0=true/\d.depth<=n
def dV.int:dV 0 (.int i):=#[rfl,vb _]
def dV.str(h:PyData.strOk x=true):dV 0 (.str x):=#[h,vb _]
def dV.mono(h:dV n d)(a:n<=k):dV k d:=#[h.1,vW h.2 a]
theorem Kr:∀{ds:List PyData},(∀d∈ds,dV n d)->PyData.canLayAll0 ds=true/\PyData.depthAll ds<=n
 | [],_=>#[rfl,va _]
 | d::r,h=>by
  have a:=h d vq;have b:=Kr (ds:=r) λx c=>h x (vp _ c)
  constructor
  .show(d.canLay0&&PyData.canLayAll0 r)=true;rw[a.1,b.1];rfl
  .show max d.depth (PyData.depthAll r)<=n;rwa[Nat.max_le.mpr #[a.2,b.2]]
def dV.lst(h:∀d∈ds,dV n d):dV (n+1) (.list ds):=#[(Kr h).1,Nat.succ_le_succ (Kr h).2]
def dV.tup(h:∀d∈ds,dV n d):dV (n+1) (.tuple ds):=#[(Kr h).1,Nat.succ_le_succ (Kr h).2]
def dV.ok(h:dV n d)(a:n<=64):SeqAt.shaped d=true:=by
 unfold SeqAt.shaped;rw[h.1,Bool.true_and];rwa[vG (vW h.2 a)]
def Mv(h:Ws.gn x=true):PyData.strOk x=true:=by
 unfold Ws.gn Ws.among at h;rw[Bool.and_eq_true]at h;have a:=of_decide_eq_true h.2;unfold PyData.strOk;rw[Array.all_eq_true_iff_forall_mem];intro c b;have:=IT.mp (a c #v[b]);rwa[vG ⋯]
theorem QY{H:Hp}:∀(xs:L8),ig H (xs.map V.str) (xs.map PyData.str)
 | []=>.nil
 | x::r=>.cons (.str x) (QY r)
def cp.tail{c:Type}{R:Addr->c->Prop}{a:Addr}{x:c}{as:L7}{xs:List c}(h:cp R (a::as) (x::xs)):R a x/\cp R as xs:=
 #[h.2 0 a x rfl rfl,Nat.succ.inj h.1,λi b y d e=>h.2 (i+1) b y #v[d] #v[e]]
noncomputable def AD:Fm->Prop
 | .hold n=>0<=n/\n<=10^18
 | .ring x n=>Ws.gn x=true/\0<=n/\n<=10^18
 | .rise x h n=>Ws.gn x=true/\0<=h/\h<=10^18/\0<=n/\n<=10^18
 | .row ps=>⇑ps<=8/\∀x∈ps,Ws.gn x=true
 | .side ps=>⇑ps<=8/\∀x∈ps,Ws.gn x=true
 | .again k x=>0<=k/\k<=10^18/\Ws.gn x=true
structure tj(ls:L4)(ps:N2):Prop where
 l8:⇑ls<=8
 ln:∀p∈ls,Ws.gn p.1=true/\0<=p.2/\p.2<=10^18
 nI:⇑ps<=61
 pn:∀p∈ps,Ws.gn p.1=true/\AD p.2
def Di{n:Nat}{xs:L8}(h:∀x∈xs,Ws.gn x=true):∀d∈xs.map PyData.str,dV n d:=λd a=>by
 let⟨x,b,rfl⟩:=vK.mp a;rwa[(dV.str (Mv (h x b))).mono (va _)]
structure cN(H:Hp)(b pl pp:Addr)(las pas:L7)(ls:L4)(ps:N2):Prop where
 t:H b⊂(.tup [.ref pl,.ref pp])
 l:H pl⊂(.lst (las.map V.ref))
 la:cp (fI H) las ls
 p:H pp⊂(.lst (pas.map V.ref))
 pa:cp (dh H) pas ps
def cw.same{H H':Hp}(s:cj H H')(h:cw H a f):cw H' a f:=by
 cases f with
 | row ps=>let⟨b,c,d⟩:=h;rwa[b,s _ _ c,s _ _ d]
 | side ps=>let⟨b,c,d⟩:=h;rwa[b,s _ _ c,s _ _ d]
 | hold n=>rwa[s _ _ h]
 | ring x n=>rwa[s _ _ h]
 | rise x g n=>rwa[s _ _ h]
 | again x n=>rwa[s _ _ h]
def dh.same{H H':Hp}(s:cj H H')(h:dh H a p):dh H' a p:=by
 let⟨b,c,d⟩:=h;rwa[b,s _ _ c,cw.same s d]
def cN.same{H H':Hp}(B:cN H b pl pp las pas ls ps)(s:cj H H'):cN H' b pl pp las pas ls ps:=
 #[s _ _ B.t,s _ _ B.l,B.la.mono λa x h=>s _ _ h,s _ _ B.p,B.pa.mono λa x h=>dh.same s h]
def getD_inj{a:L8}(d:a.Nodup){i j:Nat}(hi:i<⇑a)(b:j<⇑a)(h:a.getD i ⟨#[]⟩=a.getD j ⟨#[]⟩):i=j:=by
 rw[vy,vy,vz hi,vz b]at h;have c:a[i]=a[j]:=h;rcases Nat.lt_trichotomy i j with q | q | q
 .exact ud c (pairwise_iff_getElem.mp d i j hi b q)
 .exact q
 .exact ud c.symm (pairwise_iff_getElem.mp d j i b hi q)
open PyProof.Rows.KTD (inKeys Dat)
def iH:fi (x::xs) 0⊂x:=jV (j:=0) rfl
def fC{A B:Prop}(e:b=false)(h:B):if b=true then A else B:=by rw[e];rwa[h]
def lF{A B:Prop}(e:b=true)(h:A):if b=true then A else B:=by rw[e];rwa[h]
def cp.cO{e:Type}{R:Addr->e->Prop}{as:L7}{xs:List e}{i:Nat}{v:V}(h:cp R as xs)(c:(as.map V.ref)[i]?⊂v):∃a x,v = .ref a/\xs[i]?⊂x/\R a x:=by
 rw[vv]at c;let⟨a,b,rfl⟩:=vg.mp c;have f:=(vx.mp b).1;have g:=h.1;have d:xs[i]?⊂xs[i]:=vz ⋯;rwa[a,_,rfl,d,h.2 i a _ b d]
theorem YX:∀{n:Nat} {hs:L5},hs.Nodup->(∀k∈hs,0<=k/\k<(n:Int))->⇑hs<=n
 | 0,hs,_,h=>by
  cases hs with
  | nil=>rwa[vb _]
  | cons k r=>have:=h k vq;lia
 | n+1,hs,nd,h=>by
  by_cases e:(n:Int)∈hs
  .have i:=YX (n:=n) (nd.erase (n:Int)) λk a=>by
    have b:=h k (List.mem_of_mem_erase a);have c:k≠(n:Int):=λz=>nd.not_mem_erase (z▸a)
    lia
   simp_all
  .have i:=YX (n:=n) nd λk a=>by
    have b:=h k a;have c:k≠(n:Int):=λz=>e (z▸a)
    lia
   lia
noncomputable def Fm.ns:Fm->L8
 | .row ps=>ps
 | .side ps=>ps
 | .again _ x=>[x]
 | _=>[]
noncomputable def gA(xs:L8):List (Key×V):=xs.zipIdx.map λp=>(Sum.inr p.1,.int (p.2:Nat))
def HP(xs:L8)(x:Str):gA (xs++[x])=gA xs++[(Sum.inr x,.int (⇑xs:Nat))]:=by
 unfold gA;rw[List.zipIdx_append,vj];simp
def Iw(xs:L8):⇑(gA xs)=⇑xs:=by simp[gA]
def XB(xs:L8):(gA xs).map (·.1)=xs.map Sum.inr:=by
 unfold gA;rw[v7];have e:∀(k:Nat) (xs:L8),(xs.zipIdx k).map (Function.comp (λx=>x.1) λp:Str×Nat=>((Sum.inr p.1:Key),V.int (p.2:Nat)))=xs.map Sum.inr:=λk xs=>by
  induction xs generalizing k with
  | nil=>rfl
  | cons x r ih=>simp_all
 rwa[e 0 xs]
def MK{xs:L8}{j:Nat}{x:Str}(h:xs[j]?⊂x):(gA xs)[j]?⊂(Sum.inr x,.int (j:Nat)):=by
 unfold gA
 simp_all
theorem xw:∀{kvs:List (Key×V)} {j:Nat} {k:Key} {v:V},(kvs.map (·.1)).Nodup->kvs[j]?⊂(k,v)->dt kvs k⊂v
 | [],j,k,v,_,h=>by simp at h
 | p::r,0,k,v,_,h=>by
  simp at h;subst h;unfold dt;simp
 | p::r,j+1,k,v,nd,h=>by
  rw[uz,um]at nd;have a:r[j]?⊂(k,v):=by simpa using h
  have c:p.1≠k:=λe=>nd.1 (e▸vK.mpr #[(k,v),vm a,rfl])
  have b:=xw nd.2 a;unfold dt at b|-;rw[List.find?_cons,vH c];rwa[b]
def Yx{xs:L8}(a:xs.Nodup){j:Nat}{x:Str}(h:xs[j]?⊂x):dt (gA xs) (Sum.inr x)⊂(.int (j:Nat)):=
 xw (by rw[XB];rwa[pairwise_map.mpr (a.imp λh e=>h (Sum.inr.inj e))]) (MK h)
def yw{kvs:List (Key×V)}{k:Key}{v:V}(h:k∉kvs.map (·.1)):putK kvs k v=kvs++[(k,v)]:=by
 unfold putK
 simp_all
noncomputable def cF:L8->Str->Nat
 | [],_=>0
 | y::r,x=>if y=x then 0 else cF r x+1
theorem jZ:∀{xs:L8} {j:Nat} {x:Str},xs.Nodup->xs[j]?⊂x->cF xs x=j
 | [],j,x,_,h=>by simp at h
 | y::r,0,x,_,h=>by
  simp at h;subst h;rwa[vd rfl]
 | y::r,j+1,x,nd,h=>by
  rw[um]at nd;have a:r[j]?⊂x:=by simpa using h
  have b:y≠x:=λe=>nd.1 (e▸vm a)
  show(if y=x then 0 else cF r x+1)=j+1;rw[vc b,jZ nd.2 a]
noncomputable def cb{α:Type}(ps:List (Str×α)):L8:=ps.map (·.1)
noncomputable def cX(ps:N2)(f:Fm):L6:=f.ns.map (cF (cb ps))
structure eI(ls:L4)(ps:N2):Prop where
 ln:(cb ls).Nodup
 l8:⇑ls<=8
 pn:(cb ps).Nodup
 nI:⇑ps<=61
 f:∀(i:Nat) (p:Str×Fm),ps[i]?⊂p->(∀x∈p.2.ns,∃j,j<i/\(cb ps)[j]?⊂x)/\⇑p.2.ns<=8
 r:∀(i:Nat) (y x:Str) (h n:Int),ps[i]?⊂(y,.rise x h n)->∃j:Nat,(cb ls)[j]?⊂x
def eI.c9(W:eI ls ps)(h:ps[i]?⊂p)(a:j∈cX ps p.2):j<i:=by
 let⟨x,c,rfl⟩:=vK.mp a;let⟨k,b,e⟩:=(W.f i p h).1 x c;rw[jZ W.pn e];rwa[b]
inductive df(vs:N4)(H:Hp)(Q:VK)(xk:XK):Prop
 | mk (l) (as:L7) (xs:L8):vs=[.ref l]->H l⊂(.lst (as.map V.ref))->⇑as=⇑xs->(∀(i:Nat) (a:Addr) (x:Str),as[i]?⊂a->xs[i]?⊂x->∃r,H a⊂(.tup [.str x,r]))->xs.Nodup->⇑xs<=100->(∀(d:Addr) (H':Hp),cj H H'->H d=none->H' d⊂(.dK (gA xs))->Q (.ref d) H')->df vs H Q xk
def fV(H:Hp)(as:L7)(M:L1):Prop:=cp (λa ks=>H a⊂(.lst (ks.map V.int))) as M
def cp.m6{c:Type}{R S:Addr->c->Prop}{as:L7}{xs:List c}(h:cp R as xs)(k:∀a∈as,∀x,R a x->S a x):cp S as xs:=#[h.1,λi a x b d=>k a (vm b) x (h.2 i a x b d)]
inductive fR(vs:N4)(H:Hp)(Q:VK)(xk:XK):Prop
 | mk (b pl pp las pas ls) (ps:N2):vs=[.ref b]->cN H b pl pp las pas ls ps->eI ls ps->(∀(l:Addr) (as:L7) (H':Hp),cj H H'->H l=none->H' l⊂(.lst (as.map V.ref))->(∀a∈as,H a=none)->fV H' as (ps.map λp=>(cX ps p.2).map λj:Nat=>(j:Int))->Q (.ref l) H')->fR vs H Q xk
def tG(H:Hp)(bs:L7)(e:Nq):Prop:=cp (λb q=>H b⊂(.tup [.int q.1,.int q.2])) bs e
def mK(H:Hp)(as:L7)(E:L0):Prop:=cp (λa e=>∃bs,H a⊂(.lst (bs.map V.ref))/\tG H bs e) as E
def cQ(E:L0)(is:L6)(k v:Int):Prop:=∃pre j post,is=pre++j::post/\(k,v)∈E.getD j []/\∀j'∈post,∀v',(k,v')∉E.getD j' []
def hZ(ls:L4)(ps:N2)(E:L0)(f:Fm)(k v:Int):Prop:=cQ E (cX ps f) k v\/∃x n,f = .rise x v n/\k=(cF (cb ls) x:Nat)
def di(ls:L4)(ps:N2)(E:L0):Prop:=∀(i:Nat) (p:Str×Fm) (e:Nq),ps[i]?⊂p->E[i]?⊂e->(e.map (·.1)).Pairwise (· < ·)/\∀k v,(k,v)∈e↔hZ ls ps E p.2 k v
inductive iA(vs:N4)(H:Hp)(Q:VK)(xk:XK):Prop
 | mk (b pl pp las pas ls) (ps:N2):vs=[.ref b]->cN H b pl pp las pas ls ps->eI ls ps->(∀(l:Addr) (as:L7) (E:L0) (H':Hp),cj H H'->H l=none->H' l⊂(.lst (as.map V.ref))->(∀a∈as,H a=none)->⇑E=⇑ps->mK H' as E->di ls ps E->Q (.ref l) H')->iA vs H Q xk
def dZ(ls:L4)(ps:N2)(M:L1):Prop:=∀(i:Nat) (p:Str×Fm) (ks:L5),ps[i]?⊂p->M[i]?⊂ks->ks.Pairwise (· < ·)/\∀k,k∈ks↔(∃j∈cX ps p.2,k∈M.getD j [])\/∃x h n,p.2 = .rise x h n/\k=(cF (cb ls) x:Nat)
inductive iT(vs:N4)(H:Hp)(Q:VK)(xk:XK):Prop
 | mk (b pl pp las pas ls) (ps:N2):vs=[.ref b]->cN H b pl pp las pas ls ps->eI ls ps->(∀(l:Addr) (as:L7) (M:L1) (H':Hp),cj H H'->H l=none->H' l⊂(.lst (as.map V.ref))->(∀a∈as,H a=none)->⇑M=⇑ps->fV H' as M->dZ ls ps M->Q (.ref l) H')->iT vs H Q xk
theorem Aj:∀{a b:L5},a.Pairwise (· < ·)->b.Pairwise (· < ·)->(∀k,k∈a↔k∈b)->a=b
 | [],[],_,_,_=>rfl
 | [],y::s,_,_,h=>ud ((h y).mpr vq) (by simp)
 | x::r,[],_,_,h=>ud ((h x).mp vq) (by simp)
 | x::r,y::s,ha,hb,h=>by
  rw[vV]at ha hb;have e:x=y:=by
   rcases mem_cons.mp ((h x).mp vq)with q | q
   .exact q
   .rcases mem_cons.mp ((h y).mpr vq)with d | d
    .exact d.symm
    .have f:=hb.1 x q;have g:=ha.1 y d;lia
  subst e;congr 1;erw[Aj ha.2 hb.2 λk=>#[λc=>?_,λc=>?_]]
  .rcases mem_cons.mp ((h k).mp (vp _ c))with q | q
   .have:=ha.1 k c;lia
   .exact q
  .rcases mem_cons.mp ((h k).mpr (vp _ c))with q | q
   .have:=hb.1 k c;lia
   .exact q
def getD_map{E:L0}(j:Nat):(E.map λe=>e.map (·.1)).getD j []=(E.getD j []).map (·.1):=by
 rw[vy,vy,vv];cases E[j]?<;>rfl
def Bg{k:Int}{e:Nq}:k∈e.map (·.1)↔∃v,(k,v)∈e:=by
 simp_all
theorem Wj:∀{is:L6},(∃v,cQ E is k v)↔∃j∈is,∃v,(k,v)∈E.getD j []
 | []=>#[λ⟨v,b,j,a,e,_⟩=>by cases b<;>simp at e,λ⟨j,h,_⟩=>by simp at h]
 | i::r=>by
  have p:=Wj (E:=E) (k:=k) (is:=r);constructor
  .rintro⟨v,b,j,a,e,c,m⟩;rwa[j,by rw[e];simp,v,c]
  .rintro⟨j,d,v,n⟩;by_cases q:∃j∈r,∃v,(k,v)∈E.getD j []
   .let⟨l,b,g,a,e,c,m⟩:=p.mpr q;rwa[l,i::b,g,a,by rw[e];rfl,c,m]
   .rcases mem_cons.mp d with rfl | d
    .exact#[v,[],j,r,rfl,n,λg o l f=>q #[g,o,l,f]]
    .exact ud #[j,d,v,n] q
def EL{ls:L4}{ps:N2}{E:L0}(s:⇑E=⇑ps)(h:di ls ps E):dZ ls ps (E.map λe=>e.map (·.1)):=λi p t q d=>by
 rw[vv]at d;let⟨e,o,rfl⟩:=vg.mp d;let⟨a,b⟩:=h i p e q o;erw[a,λk=>?_];rw[Bg];constructor
 .rintro⟨v,r⟩;rcases(b k v).mp r with z | ⟨x,n,f,g⟩
  .let⟨j,l,m,c⟩:=Wj.mp #[v,z];rwa[.inl #[j,l,by rw[getD_map];rwa[Bg.mpr #[m,c]]]]
  .exact .inr #[x,v,n,f,g]
 .rintro(⟨j,l,d⟩ | ⟨x,h,n,f,g⟩)
  .rw[getD_map]at d;let⟨m,c⟩:=Bg.mp d;let⟨v,z⟩:=Wj.mpr #[j,l,m,c];rwa[v,(b k v).mpr (.inl z)]
  .exact#[h,(b k h).mpr (.inr #[x,n,f,g])]
def Ee(h:x∈xs):cF xs x<⇑xs:=by
 induction xs with
 | nil=>rwa[nomatch h]
 | cons y r ih=>
  show(if y=x then 0 else cF r x+1)<⇑r+1;split
  .lia
  .rename_i hne;rcases mem_cons.mp h with e | e
   .exact ud e.symm hne
   .have:=ih e;lia
def kT(W:eI ls ps)(s:⇑E<=⇑ps)(h:di ls ps E):∀(i:Nat),∀q∈E.getD i [],0<=q.1/\q.1<(⇑ls:Int):=by
 intro i
 induction i using Nat.strongRecOn with
 | ind i ih=>
  intro q a;rw[vy]at a;cases e:E[i]? with
  | none=>rw[e]at a;rwa[nomatch a]
  | some ev=>
   rw[e]at a;have r:=(vx.mp e).1;have f:ps[i]?⊂ps[i]:=vz ⋯;let⟨Z,b⟩:=h i _ ev f e;rcases(b q.1 q.2).mp a with⟨m,j,k,c,d,_⟩ | ⟨x,n,c,d⟩
   .exact ih j (W.c9 f (by rw[c];simp)) _ d
   .have g:ps[i]?⊂(ps[i].1,.rise x q.2 n):=by rw[f,<-c]
    let⟨j,l⟩:=W.r i _ _ _ _ g;have o:=Ee (vm l);have p:⇑(cb ls)=⇑ls:=vt _;rw[d];lia
def C2{ls:L4}{ps:N2}(W:eI ls ps){E:L0}(f:⇑E<=⇑ps)(h:di ls ps E){i:Nat}{e:Nq}(c:E[i]?⊂e):⇑e<=8:=by
 have hi:=(vx.mp c).1;have a:=(h i _ e (vz ⋯) c).1;have b:=kT W f h i;rw[vy,c]at b;have z:=wa (ks:=e.map (·.1)) (lo:=0) (hi:=⇑ls) a λk d=>by
  let⟨q,g,rfl⟩:=vK.mp d;rwa[b q g]
 rw[vt]at z;have:=W.l8;lia
noncomputable def iL(kvs:Nq)(k v:Int):Nq:=if k∈kvs.map (·.1)then kvs.map (λq=>if q.1=k then(q.1,v)else q)else kvs++[(k,v)]
noncomputable def fL(kvs more:Nq):Nq:=more.foldl (λacc q=>iL acc q.1 q.2) kvs
def Kp(kvs:Nq)(k v:Int):putK (kvs.map lD) (Sum.inl k) (.int v)=(iL kvs k v).map lD:=by
 have e:(((kvs.map lD).any λkv=>decide (kv.1=(Sum.inl k:Key)))=true)↔k∈kvs.map (·.1):=by
  rw[List.any_map,any_eq_true];constructor
  .rintro⟨q,a,h⟩;have b:(Sum.inl q.1:Key)=Sum.inl k:=of_decide_eq_true h;rwa[vK.mpr #[q,a,Sum.inl.inj b]]
  .intro h;let⟨q,a,rfl⟩:=vK.mp h;rwa[q,a,vG rfl]
 unfold putK iL;by_cases c:k∈kvs.map (·.1)
 .rw[vd (e.mpr c),vd c,v7,v7];refine map_congr_left λq j=>?_
  show(if(Sum.inl q.1:Key)=Sum.inl k then _ else _)=lD (if q.1=k then(q.1,v)else q);by_cases z:q.1=k
  .rw[vd z,vd (by rw[z])];rfl
  .rw[vc z,vc (λw=>z (Sum.inl.inj w))]
 .rw[vc (λw=>c (e.mp w)),vc c,vj];rfl
theorem km:∀(more kvs:Nq),cR (kvs.map lD) (more.map lD)=(fL kvs more).map lD
 | [],kvs=>rfl
 | q::r,kvs=>by
  show cR (putK (kvs.map lD) (Sum.inl q.1) (.int q.2)) (r.map lD)=(fL (iL kvs q.1 q.2) r).map lD;rw[Kp,km r]
def HY(kvs:Nq)(k v:Int)(d:(kvs.map (·.1)).Nodup):((iL kvs k v).map (·.1)).Nodup:=by
 unfold iL;split
 .rw[v7];have e:kvs.map (Function.comp (λx=>x.1) λq=>if q.1=k then(q.1,v)else q)=kvs.map (·.1):=map_congr_left λq j=>by
   show(if q.1=k then(q.1,v)else q).1=q.1;split<;>rfl
  rw[e];rwa[d]
 .rename_i c;rw[vj,nodup_append];rwa[d,pairwise_singleton _ _,λa f b g e=>c (by rw[show k=b from(vo.mp g).symm,<-e];rwa[f])]
def IU:(a,b)∈iL kvs k v↔(a=k/\b=v)\/(a≠k/\(a,b)∈kvs):=by
 unfold iL;split
 .rename_i c;rw[vK];constructor
  .rintro⟨q,d,e⟩;by_cases z:q.1=k
   .rw[vd z]at e;cases e;rwa[.inl #[z,rfl]]
   .rw[vc z]at e;subst e;rwa[.inr #[z,d]]
  .rintro(⟨rfl,rfl⟩ | ⟨f,g⟩)
   .let⟨q,d,e⟩:=vK.mp c;rwa[q,d,by rw[vd e,e]]
   .exact#[(a,b),g,by rw[vc f]]
 .rename_i c;rw[vh];constructor
  .rintro(h | h)
   .exact .inr #[λe=>c (e▸vK.mpr #[(a,b),h,rfl]),h]
   .cases vo.mp h;rwa[.inl #[rfl,rfl]]
  .rintro(⟨rfl,rfl⟩ | ⟨_,h⟩)
   .exact .inr (vo.mpr rfl)
   .exact .inl h
theorem Xv:∀{more kvs:Nq},(kvs.map (·.1)).Nodup->(more.map (·.1)).Nodup->((fL kvs more).map (·.1)).Nodup/\∀k v,(k,v)∈fL kvs more↔(k,v)∈more\/((∀c,(k,c)∉more)/\(k,v)∈kvs)
 | [],kvs,nd,_=>#[nd,λk v=>#[λh=>.inr #[(λZ h=>nomatch h),h],λh=>h.elim (λh=>nomatch h) (·.2)]]
 | q::r,kvs,nd,nm=>by
  rw[uz,um]at nm;let⟨a,b⟩:=Xv (more:=r) (kvs:=iL kvs q.1 q.2) (HY _ _ _ nd) nm.2;erw[a,λk v=>(b k v).trans ?_];rw[IU];have i:∀c,(q.1,c)∉r:=λc h=>nm.1 (vK.mpr #[_,h,rfl])
  constructor
  .rintro(h | ⟨f,⟨rfl,rfl⟩ | ⟨g,j⟩⟩)
   .exact .inl (vp _ h)
   .exact .inl vq
   .refine .inr #[λc d=>?_,j];rcases mem_cons.mp d with e | e
    .exact g (by rw[<-e])
    .exact f c e
  .rintro(h | ⟨f,g⟩)
   .rcases mem_cons.mp h with e | e
    .refine .inr #[λc d=>?_,.inl #[by rw[<-e],by rw[<-e]]];rw[<-e]at i;rwa[i c d]
    .exact .inl e
   .refine .inr #[λc d=>f c (vp _ d),.inr #[λe=>?_,g]];rwa[f q.2 (by rw[e];rwa[vq])]
def GQ(b:(ms.map (·.1)).Nodup):fL [] ms=ms:=by
 have e:∀(r a:Nq),((a++r).map (·.1)).Nodup->fL a r=a++r:=by
  intro r
  induction r with
  | nil=>intro a j;rwa[(append_nil _).symm]
  | cons q r ih=>
   intro a b;have c:q.1∉a.map (·.1):=λh=>by
    rw[vj,nodup_append]at b;rwa[b.2.2 q.1 h q.1 (by simp) rfl]
   show fL (iL a q.1 q.2) r=_;unfold iL;rw[vc c,ih (a++[(q.1,q.2)]) (by rw[List.append_assoc];rwa[b]),List.append_assoc];rfl
 rwa[e ms [] b]
def Hd:cQ E (is++[j]) k v↔(k,v)∈E.getD j []\/((∀g,(k,g)∉E.getD j [])/\cQ E is k v):=by
 constructor
 .rintro⟨c,i,a,e,l,f⟩;rcases List.eq_nil_or_concat a with rfl | ⟨b,x,rfl⟩
  .simp_all
  .have o:is++[j]=(c++i::b)++[x]:=by rw[e];simp
   have n:=List.append_inj' o rfl;have p:j=x:=by simpa using n.2
   subst p;rwa[.inr #[f j (by simp),c,i,b,n.1,l,λm d=>f m (by simp[d])]]
 .rintro(h | ⟨l,c,i,a,e,f,q⟩)
  .exact#[is,j,[],rfl,h,(λZ h=>nomatch h)]
  .refine#[c,i,a++[j],by rw[e];simp,f,λm d g=>?_];rcases vh.mp d with z | z
   .exact q m z g
   .rw[vo.mp z];rwa[l g]
def yp(h:∀j∈is,E.getD j []=E'.getD j []):cQ E is k v->cQ E' is k v:=by
 rintro⟨c,j,b,e,f,g⟩;erw[c,j,b,e,by rw[<-h j (by rw[e];simp)];rwa[f],λd a=>?_];rw[<-h d (by rw[e];simp[a])];rwa[g d a]
def di.snoc{ls:L4}{ps:N2}(W:eI ls ps){E:L0}{p:Str×Fm}{e:Nq}(h:di ls ps E)(u:ps[⇑E]?⊂p)(o:(e.map (·.1)).Pairwise (· < ·))
  (r:∀k v,(k,v)∈e↔hZ ls ps E p.2 k v):di ls ps (E++[e]):=λi q f g c=>by
 have t:i<=⇑E:=by
  have:=(vx.mp c).1;rw[vn]at this;rwa[Nat.le_of_lt_succ this]
 have ext:∀j∈cX ps q.2,E.getD j []=(E++[e]).getD j []:=λj l=>(getD_snoc (by have:=W.c9 g l;lia)).symm
 have d:∀k v,hZ ls ps E q.2 k v↔hZ ls ps (E++[e]) q.2 k v:=λk v=>by
  unfold hZ;rwa[λh=>h.imp (yp ext) id,λh=>h.imp (yp λj l=>(ext j l).symm) id]
 by_cases s:i<⇑E
 .rw[vB s]at c;let⟨a,b⟩:=h i q f g c;rwa[a,λk v=>(b k v).trans (d k v)]
 .have n:i=⇑E:=⋯
  subst n;rw[vC (vb _),uq]at c;have m:e=f:=by simpa using c
  subst m;rw[u]at g;cases g;rwa[o,λk v=>(r k v).trans (d k v)]
def Dw{H:Hp}(h:cw H a f)(d:∀x v n,f≠.rise x v n):∃k xs,H a⊂(.tup (.str k::xs))/\decide (k=("raise" : Str))=false:=by
 cases f with
 | hold n=>rwa[_,_,h,by trivial]
 | ring x n=>rwa[_,_,h,by trivial]
 | rise x v n=>rwa[ud rfl (d x v n)]
 | row ps=>let⟨b,c,q⟩:=h;rwa[_,_,c,by trivial]
 | side ps=>let⟨b,c,q⟩:=h;rwa[_,_,c,by trivial]
 | again k x=>rwa[_,_,h,by trivial]
noncomputable def sh(ls:L4):Fm->List (Int×Int)
 | .rise x h _=>[((cF (cb ls) x:Nat),h)]
 | _=>[]
def Ma(a:∀x v n,f≠.rise x v n):sh ls f=[]:=by
 cases f with
 | rise x v n=>rwa[ud rfl (a x v n)]
 | _=>rfl
def Bh:(k,v)∈sh ls f↔∃x n,f = .rise x v n/\k=(cF (cb ls) x:Nat):=by
 cases f with
 | rise x h n=>
  constructor
  .intro a;cases vo.mp a;rwa[x,n,rfl,rfl]
  .rintro⟨c,b,e,rfl⟩;injection e with e1 e2 e3;subst e1 e2;rwa[vo.mpr rfl]
 | _=>rwa[(λh=>nomatch h),λ⟨_,_,e,_⟩=>nomatch e]
def Og(f:Fm):cX ps f=[]\/sh ls f=[]:=by
 cases f with
 | rise x h n=>rwa[.inl rfl]
 | _=>rwa[.inr rfl]
def Oh(f:Fm):((sh ls f).map (·.1)).Nodup:=by
 cases f with
 | rise x h n=>rwa[pairwise_singleton _ _]
 | _=>rwa[.nil]
inductive ff(vs:N4)(H:Hp)(Q:VK)(xk:XK):Prop
 | mk (r l ll) (as las:L7) (M:L1):vs=[.int r,.ref l,.ref ll]->H l⊂(.lst (as.map V.ref))->fV H as M->(∀ks∈M,ks≠[])->⇑M<=8->H ll⊂(.lst (las.map V.ref))->(∀k:Int,⇑(M.filter λks=>decide (k∈ks))<=1)->(∀H',cj H H'->Q .dj H')->ff vs H Q xk
noncomputable def iC:Fm->L5->Int->Prop
 | .hold n,_,g=>g=n
 | .ring _ n,_,g=>g=n
 | .rise _ _ n,_,g=>g=n
 | .row _,gs,g=>g=gs.sum
 | .side _,gs,g=>g∈gs/\∀x∈gs,x<=g
 | .again k _,gs,g=>∃y,gs.head?⊂y/\g=k*y
noncomputable def iD:Fm->L5->Prop
 | .side _,gs=>gs≠[]
 | .again k _,gs=>∃y r,gs=y::r/\0<=k/\k<=10^18/\0<=y/\y<=10^60
 | _,_=>True
inductive fv(vs:N4)(H:Hp)(Q:VK)(xk:XK):Prop
 | mk (a l f) (gs:L5):vs=[.ref a,.ref l]->cw H a f->H l⊂(.lst (gs.map V.int))->iD f gs->(∀g,iC f gs g->Q (.int g) H)->fv vs H Q xk
structure oX(ls:L4)(ps:N2)(gs:L5)(hs:L1):Prop where
 w:eI ls ps
 gl:⇑gs=⇑ps
 gb:∀i,i<⇑ps->0<=gs∘i/\gs∘i<=10^60
 mv:∀M:L1,⇑M=⇑ps->dZ ls ps M->∀i,i<⇑ps->M.getD i []=hs.getD i []
 ln:∀(i:Nat) (p:Str×Fm),ps[i]?⊂p->iD p.2 ((cX ps p.2).map λj=>gs∘j)/\∀g,iC p.2 ((cX ps p.2).map λj=>gs∘j) g->g=gs∘i
 sd:∀(i:Nat) (p:Str×Fm) (qs:L8),ps[i]?⊂p->p.2 = .side qs->(∀j∈cX ps p.2,hs.getD j []≠[])/\∀k:Int,⇑(((cX ps p.2).map λj=>hs.getD j []).filter λks=>decide (k∈ks))<=1
inductive gH(vs:N4)(H:Hp)(Q:VK)(xk:XK):Prop
 | mk (b pl pp las pas ls ps) (gs:L5) (hs):vs=[.ref b]->cN H b pl pp las pas ls ps->oX ls ps gs hs->(∀(l:Addr) (H':Hp),cj H H'->H l=none->H' l⊂(.lst (gs.map V.int))->Q (.ref l) H')->gH vs H Q xk
def any_empty{M:L1}(h:∀ks∈M,ks≠[]):(M.any λks=>decide (ks=[]))=false:=by
 rw[List.any_eq_false];intro ks a;simpa using h ks a
def LX{gs:L5}{i:Nat}(h:i<⇑gs):gs.take (i+1)=gs.take i++[gs∘i]:=by
 simp_all
def Cd{gs:L5}{i j:Nat}(hi:i<=⇑gs)(a:j<i):fi ((gs.take i).map V.int) (j:Int)⊂(.int (gs∘j)):=by
 erw[jV ?_];rw[vv,List.getElem?_take,vd a,vy,vz ⋯];rfl
theorem Ba:∀{a b:Nq},(a.map (·.1)).Pairwise (· < ·)->(b.map (·.1)).Pairwise (· < ·)->(∀k v,(k,v)∈a↔(k,v)∈b)->a=b
 | [],[],_,_,_=>rfl
 | [],y::s,_,_,h=>ud ((h y.1 y.2).mpr vq) (by simp)
 | x::r,[],_,_,h=>ud ((h x.1 x.2).mp vq) (by simp)
 | x::r,y::s,ha,hb,h=>by
  rw[uz,vV]at ha hb;have g:∀q∈r,x.1<q.1:=λq d=>ha.1 _ (vK.mpr #[q,d,rfl])
  have i:∀q∈s,y.1<q.1:=λq d=>hb.1 _ (vK.mpr #[q,d,rfl])
  have e:x=y:=by
   rcases mem_cons.mp ((h x.1 x.2).mp vq)with q | q
   .exact q
   .rcases mem_cons.mp ((h y.1 y.2).mpr vq)with f | f
    .exact f.symm
    .have j:=i _ q;have l:=g _ f;simp only at j l;lia
  subst e;rw[Ba ha.2 hb.2 λk v=>?_];constructor
  .intro c;rcases mem_cons.mp ((h k v).mp (vp _ c))with q | q
   .have:=g _ c;rw[<-q]at this;simp only at this;lia
   .exact q
  .intro c;rcases mem_cons.mp ((h k v).mpr (vp _ c))with q | q
   .have:=i _ c;rw[<-q]at this;simp only at this;lia
   .exact q
def MG(W:eI ls ps)(m:⇑M=⇑ps)(h:dZ ls ps M):∀(i:Nat),∀k∈M.getD i [],0<=k/\k<(⇑ls:Int):=by
 intro i
 induction i using Nat.strongRecOn with
 | ind i ih=>
  intro k a;rw[vy]at a;cases e:M[i]? with
  | none=>rw[e]at a;rwa[nomatch a]
  | some ks=>
   rw[e]at a;have l:=(vx.mp e).1;have d:ps[i]?⊂ps[i]:=vz ⋯;let⟨q,b⟩:=h i _ ks d e;rcases(b k).mp a with⟨j,c,f⟩ | ⟨x,v,n,g,rfl⟩
   .exact ih j (W.c9 d c) k f
   .let⟨j,c⟩:=W.r i (ps[i]).1 x v n (by rw[d,<-g]);rw[jZ W.ln c];have:=(vx.mp c).1;unfold cb at this
    simp_all
def En{ls:L4}{ps:N2}(W:eI ls ps){M:L1}(d:⇑M=⇑ps)(h:dZ ls ps M){i:Nat}{ks:L5}(c:M[i]?⊂ks):⇑ks<=8:=by
 have hi:=(vx.mp c).1;have a:=(h i _ ks (vz ⋯) c).1;have b:=MG W d h i;rw[vy,c]at b;have z:=wa (ks:=ks) (lo:=0) (hi:=⇑ls) a b;have:=W.l8;lia
def cw.keep{H H':Hp}(k:∀c xs,H c⊂.tup xs->H' c⊂.tup xs)(h:cw H a f):cw H' a f:=by
 cases f with
 | row ps=>let⟨c,b,d⟩:=h;rwa[c,k _ _ b,k _ _ d]
 | side ps=>let⟨c,b,d⟩:=h;rwa[c,k _ _ b,k _ _ d]
 | hold n=>rwa[k _ _ h]
 | ring x n=>rwa[k _ _ h]
 | rise x g n=>rwa[k _ _ h]
 | again x n=>rwa[k _ _ h]
def dh.keep{H H':Hp}(k:∀c xs,H c⊂.tup xs->H' c⊂.tup xs)(h:dh H a p):dh H' a p:=by
 let⟨b,d,e⟩:=h;rwa[b,k _ _ d,cw.keep k e]
def cp.set{f:Type}{R:Addr->f->Prop}{as:L7}{xs:List f}(h:cp R as xs){k:Nat}{a:Addr}{x:f}(g:R a x):cp R (as.set k a) (xs.set k x):=by
 erw[by rw[length_set,length_set];rwa[h.1],λi b y c d=>?_];rw[List.getElem?_set]at c d;by_cases e:k=i
 .rw[vd e]at c d;split at c
  .split at d
   .cases c;cases d;rwa[g]
   .cases d
  .cases c
 .rw[vc e]at c d;rwa[h.2 i b y c d]
def HD(a:0<=i)(h:xs[i.toNat]?⊂c):fi xs i⊂c:=by
 have q:∀k:Nat,xs[k]?⊂c->fi xs (k:Int)⊂c:=λk d=>by
  let⟨b,rfl⟩:=vx.mp d;unfold fi my;simp[b]
 have:=q i.toNat h;rw[Int.toNat_of_nonneg a]at this;rwa[this]
def FJ{n:Nat}{k:Int}(a:0<=k)(c:k<n):my n k⊂k.toNat:=by
 have b:∀j:Nat,j<n->my n (j:Int)⊂j:=λj h=>by
  unfold my;simp[h]
 have q:=b k.toNat ⋯;rw[Int.toNat_of_nonneg a]at q;rwa[q]
noncomputable abbrev Pc:=Nat×Int×Int
noncomputable abbrev nR:=Nat×Int×Int×Option Int
noncomputable def cU(gs:L5):L6->Int->List Pc
 | [],_=>[]
 | j::r,b=>(j,1,b)::cU gs r (b+gs∘j)
noncomputable def dq(gs:L5)(f:Fm)(is:L6):List Pc:=
 match f with
 | .again k _=>match is with
  | []=>[]
  | j::_=>(j,1,0)::(if 1<k then[(j,k-1,gs∘j)]else[])
 | .row _=>cU gs is 0
 | _=>is.map λj=>(j,1,0)
def h7(H:Hp)(as:L7)(qs:List Pc):Prop:=cp (λa q=>H a⊂(.tup [.int (q.1:Nat),.int q.2.1,.int q.2.2])) as qs
def om(H:Hp)(as:L7)(qss:List (List Pc)):Prop:=cp (λa qs=>∃bs,H a⊂(.lst (bs.map V.ref))/\h7 H bs qs) as qss
inductive fw(vs:N4)(H:Hp)(Q:VK)(xk:XK):Prop
 | mk (a l s f) (is:L6) (gs:L5):vs=[.ref a,.ref l,.ref s]->cw H a f->(H l⊂(.lst ((is.map λj:Nat=>(j:Int)).map V.int)))->H s⊂(.lst (gs.map V.int))->⇑is<=8->(∀j∈is,j<⇑gs)->(∀k x,f = .again k x->is≠[])->(∀(p:Addr) (as:L7) (H':Hp),cj H H'->H p=none->H' p⊂(.lst (as.map V.ref))->h7 H' as (dq gs f is)->Q (.ref p) H')->fw vs H Q xk
inductive fx(vs:N4)(H:Hp)(Q:VK)(xk:XK):Prop
 | mk (b pl pp s las pas ls) (ps:N2) (gs:L5):vs=[.ref b,.ref s]->cN H b pl pp las pas ls ps->eI ls ps->H s⊂(.lst (gs.map V.int))->⇑gs=⇑ps->(∀(l:Addr) (as:L7) (H':Hp),cj H H'->H l=none->H' l⊂(.lst (as.map V.ref))->om H' as (ps.map λp=>dq gs p.2 (cX ps p.2))->(∀a∈as,H a=none)->Q (.ref l) H')->fx vs H Q xk
noncomputable def ov(gs:L5)(t:Int)(q:Pc):Int:=if q.2.1<(t-q.2.2)/gs∘q.1 then q.2.1 else(t-q.2.2)/gs∘q.1
noncomputable def dS(gs:L5)(t:Int)(q:Pc):Option nR:=
 if q.2.2<=t then some (q.1,q.2.2,ov gs t q,if ov gs t q<q.2.1 then some (t-q.2.2-ov gs t q*gs∘q.1)else none)else none
noncomputable def fu(gs:L5)(t:Int)(qs:List Pc):List nR:=qs.filterMap (dS gs t)
noncomputable def pI:Option Int->V
 | none=>.dj
 | some r=>.int r
def oj(H:Hp)(as:L7)(ys:List nR):Prop:=cp (λa y=>H a⊂(.tup [.int (y.1:Nat),.int y.2.1,.int y.2.2.1,pI y.2.2.2])) as ys
def nu(gs:L5)(q:Pc):Prop:=q.1<⇑gs/\1<=gs∘q.1/\gs∘q.1<=10^60/\1<=q.2.1/\q.2.1<=10^18/\0<=q.2.2/\q.2.2<=10^62
inductive eZ(vs:N4)(H:Hp)(Q:VK)(xk:XK):Prop
 | mk (l s t) (bs:L7) (qs:List Pc) (gs:L5):vs=[.ref l,.ref s,.int t]->H l⊂(.lst (bs.map V.ref))->h7 H bs qs->H s⊂(.lst (gs.map V.int))->⇑qs<=8->(∀q∈qs,nu gs q)->0<=t->t<=10^62->(∀(p:Addr) (as:L7) (H':Hp),cj H H'->H p=none->H' p⊂(.lst (as.map V.ref))->oj H' as (fu gs t qs)->Q (.ref p) H')->eZ vs H Q xk
def fG(H:Hp)(as:L7)(xs:L3):Prop:=cp (λa x=>H a⊂(.tup [.int (x.1:Nat),.int x.2])) as xs
noncomputable def eO(gs:L5)(y:nR):L3:=(if 0<y.2.2.1 then[(y.1,gs∘y.1)]else[])++(match y.2.2.2 with | some r=>[(y.1,r)] | none=>[])
noncomputable def dA(gs:L5)(t:Int)(qs:List Pc):L3:=(fu gs t qs).flatMap (eO gs)
inductive hV(vs:N4)(H:Hp)(Q:VK)(xk:XK):Prop
 | mk (l s t) (bs:L7) (qs:List Pc) (gs:L5):vs=[.ref l,.ref s,.int t]->H l⊂(.lst (bs.map V.ref))->h7 H bs qs->H s⊂(.lst (gs.map V.int))->⇑qs<=8->(∀q∈qs,nu gs q)->0<=t->t<=10^62->(∀(p:Addr) (as:L7) (H':Hp),cj H H'->H p=none->H' p⊂(.lst (as.map V.ref))->fG H' as (dA gs t qs)->Q (.ref p) H')->hV vs H Q xk
noncomputable def fe(pc:Nat->List Pc)(gs:L5):Nat->Nat->Int->L3
 | 0,i,t=>[(i,t)]
 | n+1,i,t=>if gs∘i<=t\/pc i=[]then[(i,t)]else(dA gs t (pc i)).flatMap λx=>fe pc gs n x.1 x.2
noncomputable def eK(pc:Nat->List Pc)(gs:L5):Nat->Nat->Int->Nat
 | 0,_,_=>1
 | n+1,i,t=>if gs∘i<=t\/pc i=[]then 1 else 1+((dA gs t (pc i)).map λx=>eK pc gs n x.1 x.2).sum
noncomputable def cP(ps:N2)(gs:L5)(i:Nat):List Pc:=match ps[i]? with | some p=>dq gs p.2 (cX ps p.2) | none=>[]
section
variable{gs:L5}{t:Int}
def Xu(h:q∈cU gs is b):q.1∈is/\q.2.1=1:=by
 induction is generalizing b with
 | nil=>rwa[nomatch h]
 | cons j r ih=>
  rcases mem_cons.mp h with rfl | h
  .exact#[vq,rfl]
  .let⟨a,b⟩:=ih h;rwa[vp _ a,b]
def Hi(is:L6)(b:Int):⇑(cU gs is b)=⇑is:=by
 induction is generalizing b with
 | nil=>rfl
 | cons j r ih=>rw[cU,vQ,vQ,ih]
def wL(d:∀j∈is,0<=gs∘j/\gs∘j<=10^60)(h:q∈cU gs is b):b<=q.2.2/\q.2.2<=b+10^60*⇑is:=by
 induction is generalizing b with
 | nil=>rwa[nomatch h]
 | cons j r ih=>
  have g:=d j vq;rw[vQ];rcases mem_cons.mp h with rfl | h
  .have:(0:Int)<=10^60*((⇑r+1:Nat):Int):=Int.mul_nonneg nofun ⋯;rwa[vA _,by show b<=_;lia]
  .let⟨a,c⟩:=ih (λk e=>d k (vp _ e)) h;erw[⋯,?_];rw[show((⇑r+1:Nat):Int)=(⇑r:Int)+1 by lia,Int.mul_add];lia
def Kc(h:q∈dq gs f is):q.1∈is:=by
 unfold dq at h;split at h
 .split at h
  .exact nomatch h
  .rcases mem_cons.mp h with rfl | h
   .exact vq
   .split at h
    .rw[vo.mp h];rwa[vq]
    .exact nomatch h
 .exact(Xu h).1
 .let⟨j,a,rfl⟩:=vK.mp h;rwa[a]
def Dz(a:⇑is<=8):⇑(dq gs f is)<=8:=by
 unfold dq;split
 .split
  .exact va _
  .split<;>simp
 .rw[Hi];rwa[a]
 simp_all
def Ke(h:y∈fu gs t qs):∃q∈qs,dS gs t q⊂y:=mem_filterMap.mp h
def El(a:List Pc):⇑(fu gs t a)<=⇑a:=List.length_filterMap_le _ _
def Kl(h:dS gs t q⊂y):y.1=q.1:=by
 unfold dS at h;split at h
 .cases h;rfl
 .cases h
def Wk(h:x∈dA gs t qs):∃q∈qs,x.1=q.1:=by
 let⟨y,c,a⟩:=mem_flatMap.mp h;let⟨q,b,e⟩:=Ke c;erw[q,b,?_];rw[<-Kl e];unfold eO at a;rcases vh.mp a with z | z
 .split at z
  .rw[vo.mp z]
  .exact nomatch z
 .split at z
  .rw[vo.mp z]
  .exact nomatch z
def IP(y:nR):⇑(eO gs y)<=2:=by
 unfold eO;rw[vn];have a:⇑(if 0<y.2.2.1 then[(y.1,gs∘y.1)]else[])<=1:=by split<;>simp
 have b:⇑(match y.2.2.2 with | some r=>[(y.1,r)] | none=>[]:L3)<=1:=by split<;>simp
 lia
def MC(a:List Pc):⇑(dA gs t a)<=2*⇑a:=by
 have h:∀b:List nR,⇑(b.flatMap (eO gs))<=2*⇑b:=λb=>by
  induction b with
  | nil=>rwa[va _]
  | cons y r ih=>
   rw[flatMap_cons,vn,vQ];have:=IP (gs:=gs) y;lia
 have:=h (fu gs t a);have:=El (gs:=gs) (t:=t) a;unfold dA;lia
end
section
variable{ls:L4}{ps:N2}{gs:L5}
def Al(W:eI ls ps)(h:q∈cP ps gs i):q.1<i:=by
 unfold cP at h;split at h
 .rename_i p hp;rwa[W.c9 hp (Kc h)]
 .exact nomatch h
def Qv(W:eI ls ps)(h:x∈dA gs t (cP ps gs i)):x.1<i:=by
 let⟨q,a,e⟩:=Wk h;rw[e];rwa[Al W a]
theorem JX{a c:Type}{f g:a->List c}:∀{l:List a},(∀x∈l,f x=g x)->l.flatMap f=l.flatMap g
 | [],_=>rfl
 | x::r,h=>by rw[flatMap_cons,flatMap_cons,h x vq,JX λy b=>h y (vp _ b)]
theorem xc(W:eI ls ps):∀{n m i:Nat} {t:Int},i<n->i<m->fe (cP ps gs) gs n i t=fe (cP ps gs) gs m i t
 | 0,_,_,_,h,_=>ud h (Nat.not_lt_zero _)
 | _,0,_,_,_,h=>ud h (Nat.not_lt_zero _)
 | n+1,m+1,i,t,h1,h2=>by
  unfold fe;split
  .rfl
  .exact JX λx a=>by
    have:=Qv W a;rwa[xc W ⋯ ⋯]
theorem W0(W:eI ls ps):∀{n m i:Nat} {t:Int},i<n->i<m->eK (cP ps gs) gs n i t=eK (cP ps gs) gs m i t
 | 0,_,_,_,h,_=>ud h (Nat.not_lt_zero _)
 | _,0,_,_,_,h=>ud h (Nat.not_lt_zero _)
 | n+1,m+1,i,t,h1,h2=>by
  unfold eK;split
  .rfl
  .congr 2;exact map_congr_left λx a=>by
    have:=Qv W a;rwa[W0 W ⋯ ⋯]
noncomputable def reach(ps:N2)(gs:L5)(i:Nat)(t:Int):L3:=fe (cP ps gs) gs (i+1) i t
noncomputable def nodes(ps:N2)(gs:L5)(i:Nat)(t:Int):Nat:=eK (cP ps gs) gs (i+1) i t
def Jg(h:gs∘i<=t\/cP ps gs i=[]):reach ps gs i t=[(i,t)]:=by
 unfold reach fe;rw[vd h]
def JI(W:eI ls ps)(h:¬(gs∘i<=t\/cP ps gs i=[])):reach ps gs i t=(dA gs t (cP ps gs i)).flatMap λx=>reach ps gs x.1 x.2:=by
 unfold reach;rw[fe,vc h];exact JX λx a=>by
  have:=Qv W a;rwa[xc W ⋯ ⋯]
def ko(h:gs∘i<=t\/cP ps gs i=[]):nodes ps gs i t=1:=by
 unfold nodes eK;rw[vd h]
def W1(W:eI ls ps)(h:¬(gs∘i<=t\/cP ps gs i=[])):nodes ps gs i t=1+((dA gs t (cP ps gs i)).map λx=>nodes ps gs x.1 x.2).sum:=by
 unfold nodes;rw[eK,vc h];congr 2;exact map_congr_left λx a=>by
  have:=Qv W a;rwa[W0 W ⋯ ⋯]
def Xz(i:Nat)(t:Int):1<=nodes ps gs i t:=by
 unfold nodes eK;split<;>lia
end
section
variable{gs:L5}{t:Int}
noncomputable def wq(gs:L5)(t:Int)(q:Pc):L3:=match dS gs t q with | some y=>eO gs y | none=>[]
def ZZ:dA gs t []=[]:=rfl
def qK(q:Pc)(a:List Pc):dA gs t (q::a)=wq gs t q++dA gs t a:=by
 unfold dA fu wq;rw[filterMap_cons];cases dS gs t q with
 | none=>rfl
 | some y=>rfl
def D7(h:t<q.2.2):wq gs t q=[]:=by
 unfold wq dS;rw[vc ⋯]
def xz(d:1<=gs∘j)(h:b<=t):wq gs t (j,1,b)=if gs∘j<=t-b then[(j,gs∘j)]else[(j,t-b)]:=by
 have c:wq gs t (j,1,b)=eO gs (j,b,ov gs t (j,1,b),if ov gs t (j,1,b)<1 then some (t-b-ov gs t (j,1,b)*gs∘j)else none):=by
  unfold wq dS;rw[vd (show b<=t from h)]
 rw[c];generalize a:gs∘j=g at d|-;have e:ov gs t (j,1,b)=if g<=t-b then 1 else 0:=by
  show(if(1:Int)<(t-b)/gs∘j then(1:Int)else(t-b)/gs∘j)=_;rw[a];by_cases z:g<=t-b
  .rw[vd z];have:1<=(t-b)/g:=by
    rw[Int.le_ediv_iff_mul_le ⋯];lia
   split<;>lia
  .rw[vc z];have:(t-b)/g=0:=Int.ediv_eq_zero_of_lt ⋯ ⋯;rw[this];rfl
 by_cases z:g<=t-b
 .rw[vd z]at e;rw[vd z,e];unfold eO
  simp_all
 .rw[vc z]at e;rw[vc z,e];unfold eO;simp
def Bb(h:q.2.2<=t):wq gs t q=(if 0<ov gs t q then[(q.1,gs∘q.1)]else[])++(if ov gs t q<q.2.1 then[(q.1,t-q.2.2-ov gs t q*gs∘q.1)]else[]):=by
 unfold wq dS;rw[vd h];show eO gs _=_;unfold eO;congr 1;show(match(if ov gs t q<q.2.1 then some (t-q.2.2-ov gs t q*gs∘q.1)else none)with | some r=>[(q.1,r)] | none=>[])=_;split<;>rename_i e<;>split at e
 .cases e;rw[vd (by assumption)]
 .cases e
 .cases e
 .rw[vc (by assumption)]
theorem Kv:∀{qs:List Pc},(∀q∈qs,t<q.2.2)->dA gs t qs=[]
 | [],_=>rfl
 | q::r,h=>by rw[qK,D7 (h q vq),Kv λq a=>h q (vp _ a)];rfl
def xg(a:∀j∈is,0<=gs∘j/\gs∘j<=10^60)(h:t<b):dA gs t (cU gs is b)=[]:=
 Kv λq c=>by have:=(wL a c).1;lia
def Kn(a:∀k∈j::r,1<=gs∘k/\gs∘k<=10^60)(h:b<=t):dA gs t (cU gs (j::r) b)=if gs∘j<=t-b then(j,gs∘j)::dA gs t (cU gs r (b+gs∘j))else[(j,t-b)]:=by
 have g:=a j vq;rw[cU,qK,xz g.1 h];split
 .rfl
 .rw[xg (λk c=>by have:=a k (vp _ c);lia) ⋯];rfl
theorem Fg{a:Type}{f g:a->Nat}:∀{l:List a},(∀x∈l,f x<=g x)->(l.map f).sum<=(l.map g).sum
 | [],_=>vb _
 | x::r,h=>by
  rw[uz,uz,uy,uy];have:=h x vq;have:=Fg (l:=r) λy b=>h y (vp _ b)
  lia
theorem DX{N:Nat×Int->Nat}:∀{is:L6} {b:Int},(∀k∈is,1<=gs∘k/\gs∘k<=10^60)->(∀k∈is,N (k,gs∘k)=1)->(∀k∈is,∀r,0<=r->N (k,r)<=B)->((dA gs t (cU gs is b)).map N).sum<=⇑is+B
 | [],b,_,_,_=>va _
 | j::r,b,hg,h1,h2=>by
  by_cases h:b<=t
  .rw[Kn hg h];split
   .rw[uz,uy,h1 j vq,vQ];have:=DX (N:=N) (B:=B) (is:=r) (b:=b+gs∘j) (λk a=>hg k (vp _ a)) (λk a=>h1 k (vp _ a)) λk a=>h2 k (vp _ a)
    lia
   .have:=h2 j vq (t-b) ⋯;simp;lia
  .rw[xg (λk a=>by have:=hg k a;lia) ⋯];rwa[va _]
def Ks{is:L6}(a:∀k∈is,1<=gs∘k)(c:0<=t):dA gs t (is.map λj=>(j,1,0))=is.map λj=>if gs∘j<=t then(j,gs∘j)else(j,t):=by
 induction is with
 | nil=>rfl
 | cons j r ih=>
  rw[uz,qK,xz (a j vq) c,ih λk b=>a k (vp _ b),uz,Int.sub_zero];split<;>rfl
def GZ{N:Nat×Int->Nat}(l:1<=gs∘j)(f:0<=t)(b:N (j,gs∘j)=1)(d:∀r,0<=r->N (j,r)<=B) :
  ((dA gs t ((j,1,0)::(if 1<k then[(j,k-1,gs∘j)]else[]))).map N).sum<=2+B:=by
 rw[qK,xz l f,Int.sub_zero,vj,sum_append];by_cases z:gs∘j<=t
 .rw[vd z];have a:((dA gs t (if 1<k then[(j,k-1,gs∘j)]else[])).map N).sum<=1+B:=by
   split
   .rw[qK,ZZ,append_nil,Bb (show gs∘j<=t from z),vj,sum_append];have g:(((if 0<ov gs t (j,k-1,gs∘j)then[(j,gs∘j)]else[]):L3).map N).sum<=1:=by
     split
     .simp;rw[<-vy,b];rwa[vb _]
     .simp
    have h:(((if ov gs t (j,k-1,gs∘j)<k-1 then[(j,t-gs∘j-ov gs t (j,k-1,gs∘j)*gs∘j)]else[]):L3).map N).sum<=B:=by
     split
     .have m:ov gs t (j,k-1,gs∘j)=(t-gs∘j)/gs∘j:=by
       show(if k-1<(t-gs∘j)/gs∘j then k-1 else(t-gs∘j)/gs∘j)=_;rename_i c;have i:(if k-1<(t-gs∘j)/gs∘j then k-1 else(t-gs∘j)/gs∘j)<k-1:=c;split at i
       .lia
       .rename_i z;rw[vc z]
      have:=d (t-gs∘j-ov gs t (j,k-1,gs∘j)*gs∘j) (by
       rw[m];have:=Int.ediv_mul_le (t-gs∘j) (show gs∘j≠0 by lia);lia)
      simp;rwa[this]
     .simp
    have o:((if 0<ov gs t (j,k-1,gs∘j)then[((j,k-1,gs∘j):Pc).1].map λa=>(a,gs∘a)else[]):L3)=if 0<ov gs t (j,k-1,gs∘j)then[(j,gs∘j)]else[]:=rfl
    rwa[Nat.add_le_add g h]
   .exact va _
  have:(([(j,gs∘j)]:L3).map N).sum=1:=by
   simp;rw[<-vy,b]
  lia
 .rw[vc z];have e:dA gs t (if 1<k then[(j,k-1,gs∘j)]else[])=[]:=by
   split
   .exact Kv λq n=>by rw[vo.mp n];show t<gs∘j;lia
   .rfl
  rw[e];have:=d t f;simp;lia
end
def len_sub{a b:L5}(c:a.Nodup)(f:∀x∈a,x∈b):⇑a<=⇑b:=by
 induction a generalizing b with
 | nil=>rwa[va _]
 | cons x r ih=>
  rw[um]at c;have g:=f x vq;have:=ih (b:=b.erase x) c.2 λy h=>by
   have d:y≠x:=λe=>c.1 (e▸h)
   rwa[(List.mem_erase_of_ne d).mpr (f y (vp _ h))]
  rw[List.length_erase_of_mem g]at this;have:0<⇑b:=List.length_pos_of_mem g;rw[vQ];lia
section
variable{ls:L4}{ps:N2}{gs:L5}{hs:L1}
def wH(S:oX ls ps gs hs)(a:⇑hs=⇑ps)(hi:i<⇑ps):hs[i]?⊂(hs.getD i []):=by
 simp_all
def Om(S:oX ls ps gs hs)(e:⇑hs=⇑ps)(M:dZ ls ps hs){i:Nat}{p:Str×Fm}(c:ps[i]?⊂p){j:Nat}(d:j∈cX ps p.2):⇑(hs.getD j [])<=⇑(hs.getD i []):=by
 have f:=(vx.mp c).1;have l:=S.w.c9 c d;let⟨q,b⟩:=M i p _ c (wH S e f);let⟨a,q⟩:=M j _ _ (vz (show j<⇑ps by lia)) (wH S e ⋯);rwa[len_sub (a.imp λh=>⋯) λk g=>(b k).mpr (.inl #[j,d,g])]
def LO(S:oX ls ps gs hs)(v:⇑hs=⇑ps)(M:dZ ls ps hs){i:Nat}{p:Str×Fm}{x:L8}(f:ps[i]?⊂p)(e:p.2 = .side x):((cX ps p.2).map λj=>⇑(hs.getD j [])).sum<=⇑(hs.getD i []):=by
 have A:=(vx.mp f).1;let⟨Z,t⟩:=S.sd i p x f e;let⟨Z,b⟩:=M i p _ f (wH S v A);have C:=λj=>S.w.c9 (j:=j) f
 have D:∀d:L6,(∀j∈d,j<⇑ps)->(∀k:Int,⇑((d.map λj=>hs.getD j []).filter λs=>decide (k∈s))<=1)->(d.flatMap λj=>hs.getD j []).Nodup:=λd=>by
  induction d with
  | nil=>rwa[λZ Z=>.nil]
  | cons j r ih=>
   intro l u;rw[flatMap_cons];have E:(hs.getD j []).Nodup:=by
    let⟨a,Z⟩:=M j _ _ (vz (l j vq)) (wH S v (l j vq));rwa[a.imp λh=>⋯]
   erw[nodup_append.mpr #[E,ih (λk c=>l k (vp _ c)) λk=>?_,λa y b z g=>?_]]
   .have:=u k;rw[uz,v9]at this;split at this
    .rw[vQ]at this;lia
    .exact this
   .subst g;let⟨B,o,q⟩:=mem_flatMap.mp z;have:=u a;rw[uz,v9,vd (vG y),vQ]at this;have F:0<⇑((r.map λj=>hs.getD j []).filter λs=>decide (a∈s)):=List.length_pos_of_mem (vP.mpr #[vK.mpr #[B,o,rfl],vG q]);lia
 have n:=D (cX ps p.2) (λj m=>by have:=C j m;lia) t;have w:=len_sub (b:=hs.getD i []) n λk c=>by
  let⟨j,m,c⟩:=mem_flatMap.mp c;rwa[(b k).mpr (.inl #[j,m,c])]
 rw[List.length_flatMap]at w;rwa[w]
theorem D1{a:Type}{f:a->Nat}:∀{l:List a},(l.map λx=>c*f x).sum=c*(l.map f).sum
 | []=>rfl
 | x::r=>by rw[uz,uz,uy,uy,D1,Nat.mul_add]
def Ir(S:oX ls ps gs hs)(z:⇑hs=⇑ps)(M:dZ ls ps hs)(F:∀i,i<⇑ps->1<=gs∘i):∀i t,i<⇑ps->0<=t->nodes ps gs i t<=9*(i+1)*max 1 ⇑(hs.getD i []):=by
 intro i
 induction i using Nat.strongRecOn with
 | ind i ih=>
  intro t G y;have W:=S.w;have B:1<=max 1 ⇑(hs.getD i []):=Nat.le_max_left _ _;by_cases a:gs∘i<=t\/cP ps gs i=[]
  .rw[ko a];have:1*1<=9*(i+1)*max 1 ⇑(hs.getD i []):=Nat.mul_le_mul ⋯ B;lia
  rw[W1 W a];obtain⟨p,o⟩:∃p,ps[i]?⊂p:=#[_,vz G]
  have c:cP ps gs i=dq gs p.2 (cX ps p.2):=by unfold cP;rw[o]
  have q:=λj=>W.c9 (j:=j) o
  have h:∀k∈cX ps p.2,1<=gs∘k/\gs∘k<=10^60:=λk m=>by
   have:=q k m;rwa[F k ⋯,(S.gb k ⋯).2]
  have H:⇑(cX ps p.2)<=8:=by unfold cX;rw[vt];rwa[(W.f i p o).2]
  have b:∀k∈cX ps p.2,nodes ps gs k (gs∘k)=1:=λk Z=>ko (.inl (vA _))
  have hB:∀k∈cX ps p.2,∀r,0<=r->nodes ps gs k r<=9*i*max 1 ⇑(hs.getD i []):=λk m r w=>by
   have l:=q k m;have:=ih k l r ⋯ w;have s:=Om S z M o m;erw[vW this (Nat.mul_le_mul ⋯ ?_)];rwa[Nat.max_le.mpr #[Nat.le_max_left _ _,vW s (Nat.le_max_right _ _)]]
  have f:∀X:Nat,X<=8+9*i*max 1 ⇑(hs.getD i [])->1+X<=9*(i+1)*max 1 ⇑(hs.getD i []):=λX J=>by
   rw[Nat.mul_add,Nat.add_mul];have:9*1*1<=9*1*max 1 ⇑(hs.getD i []):=Nat.mul_le_mul (vb _) B;lia
  rw[c];cases e:p.2 with
  | again k x=>
   have d:cX ps p.2=[cF (cb ps) x]:=by rw[e];rfl
   rw[e]at d;rw[d];have g:cF (cb ps) x∈cX ps p.2:=by rw[e,d];rwa[vq]
   erw[f _ (vW (GZ (N:=λx=>nodes ps gs x.1 x.2) (h _ g).1 y (b _ g) (hB _ g)) ⋯)]
  | row xs=>
   rw[e]at h b hB H;rwa[f _ (vW (DX (N:=λx=>nodes ps gs x.1 x.2) h b hB) ⋯)]
  | side xs=>
   have E:=LO S z M o e;let⟨D,Z⟩:=S.sd i p xs o e;rw[show dq gs (.side xs) (cX ps (.side xs))=(cX ps (.side xs)).map λj=>(j,1,0)from rfl];rw[e]at h b E D q;rw[Ks (λk m=>(h k m).1) y,v7];have A:((cX ps (.side xs)).map (Function.comp (λx=>nodes ps gs x.1 x.2) λj=>if gs∘j<=t then(j,gs∘j)else(j,t))).sum<=((cX ps (.side xs)).map λj=>9*i*⇑(hs.getD j [])).sum:=by
    erw[Fg λj u=>?_]
    have l:=q j u;have I:1<=⇑(hs.getD j []):=length_pos_iff.mpr (D j u);have C:∀r,0<=r->nodes ps gs j r<=9*i*⇑(hs.getD j []):=λr w=>by
     have:=ih j l r ⋯ w;rw[Nat.max_eq_right I]at this;rwa[vW this (Nat.mul_le_mul ⋯ (vb _))]
    show nodes ps gs (if gs∘j<=t then(j,gs∘j)else(j,t)).1 (if gs∘j<=t then(j,gs∘j)else(j,t)).2<=_;split
    .exact C _ (by have:=h j u;lia)
    .exact C _ y
   rw[D1]at A;erw[f _ (vW A (vW (Nat.mul_le_mul (vb (9*i)) (vW E (Nat.le_max_right 1 _))) (Nat.le_add_left _ _)))]
  | hold n=>
   rwa[ud (.inr (by rw[c,e];rfl)) a]
  | ring x n=>
   rwa[ud (.inr (by rw[c,e];rfl)) a]
  | rise x v n=>
   rwa[ud (.inr (by rw[c,e];rfl)) a]
end
structure Sn(ls:L4)(ps:N2)(gs:L5)(hs:L1):Prop where
 s:oX ls ps gs hs
 hl:⇑hs=⇑ps
 m:dZ ls ps hs
 g1:∀i,i<⇑ps->1<=gs∘i
 ne:1<=⇑ps
 Au:∀q∈ls,0<=q.2/\q.2<=10^18
 Cp:∀(i:Nat) (y x:Str) (v n:Int),ps[i]?⊂(y,.rise x v n)->0<=v/\v<=10^18/\1<=n/\n<=10^18
 CF:∀(i:Nat) (y x:Str) (k:Int),ps[i]?⊂(y,.again k x)->1<=k/\k<=10^18
section
variable{ls:L4}{ps:N2}{gs:L5}{hs:L1}
def Sn.g(N:Sn ls ps gs hs)(hi:i<⇑ps):1<=gs∘i/\gs∘i<=10^60:=#[N.g1 i hi,(N.s.gb i hi).2]
def Sn.Cd(N:Sn ls ps gs hs){i:Nat}(hi:i<⇑ps):gs[i]?⊂(gs∘i):=by
 rw[vy,vz (by rw[N.s.gl];rwa[hi])];rfl
def Sn.i8(N:Sn ls ps gs hs){i:Nat}{p:Str×Fm}(a:ps[i]?⊂p):⇑(cX ps p.2)<=8:=by
 unfold cX;rw[vt];rwa[(N.s.w.f i p a).2]
def Sn.nJ(N:Sn ls ps gs hs){i:Nat}{q:Pc}(h:q∈cP ps gs i):nu gs q:=by
 have u:=Al N.s.w h;have n:=h;unfold cP at h;split at h
 case h_2=>rwa[nomatch h]
 rename_i p hp;have o:=(vx.mp hp).1;have g:=N.g (show q.1<⇑ps by lia);have t:=N.i8 hp;have a:∀k∈cX ps p.2,0<=gs∘k/\gs∘k<=10^60:=λk d=>by
  have:=N.s.w.c9 hp d;have:=N.g (show k<⇑ps by lia);lia
 erw[by rw[N.s.gl];lia,g.1,g.2,?_];unfold dq at h;split at h
 .rename_i k x e;have f:=N.CF i p.1 x k (by rw[hp,<-e]);split at h
  .exact nomatch h
  .rename_i j r ein;have c:=a j (by rw[ein];rwa[vq]);rcases mem_cons.mp h with rfl | h
   .exact#[(by show(1:Int)<=1;decide),(by show(1:Int)<=10^18;decide),(by show(0:Int)<=0;decide),(by show(0:Int)<=10^62;decide)]
   .split at h
    .rw[vo.mp h];refine#[?_,?_,c.1,?_]
     .show 1<=k-1;lia
     .show k-1<=_;lia
     .show gs∘j<=_;lia
    .exact nomatch h
 .let⟨b,l⟩:=wL a h;have m:=(Xu h).2;erw[⋯,⋯,b,?_];have:(10:Int)^60*(⇑(cX ps p.2):Int)<=10^60*8:=Int.mul_le_mul_of_nonneg_left ⋯ nofun;lia
 .let⟨j,s,rfl⟩:=vK.mp h;rwa[(by show(1:Int)<=1;decide),(by show(1:Int)<=10^18;decide),(by show(0:Int)<=0;decide),(by show(0:Int)<=10^62;decide)]
def EX(c:nu gs q)(h:q.2.2<=t):0<=ov gs t q/\ov gs t q<=q.2.1/\ov gs t q*gs∘q.1<=t-q.2.2/\0<=ov gs t q*gs∘q.1:=by
 let⟨j,e,j,f,j,j⟩:=c;have d:0<=(t-q.2.2)/gs∘q.1:=Int.ediv_nonneg ⋯ ⋯;have b:=Int.ediv_mul_le (t-q.2.2) (show gs∘q.1≠0 by lia);have a:0<=ov gs t q/\ov gs t q<=q.2.1/\ov gs t q<=(t-q.2.2)/gs∘q.1:=by
  unfold ov;split<;>lia
 erw[a.1,a.2.1,?_,Int.mul_nonneg a.1 ⋯];rwa[Int.le_trans (Int.mul_le_mul_of_nonneg_right a.2.2 ⋯) b]
def kE(j:∀q∈qs,nu gs q)(h:x∈dA gs t qs):0<=x.2:=by
 let⟨y,i,d⟩:=mem_flatMap.mp h;let⟨q,g,e⟩:=Ke i;have o:=j q g;by_cases c:q.2.2<=t
 case neg=>unfold dS at e;rw[vc c]at e;cases e
 have b:=EX o c;unfold dS at e;rw[vd c]at e;have f:=vL e;subst f;unfold eO at d;rcases vh.mp d with z | z
 .have z:x∈(if 0<ov gs t q then[(q.1,gs∘q.1)]else[]):=z;split at z
  .rw[vo.mp z];rwa[Int.le_trans nofun o.2.1]
  .exact nomatch z
 .split at z
  .rename_i r a;rw[vo.mp z];have a:(if ov gs t q<q.2.1 then some (t-q.2.2-ov gs t q*gs∘q.1)else none)⊂r:=a;split at a
   .cases a;show 0<=t-q.2.2-ov gs t q*gs∘q.1;lia
   .cases a
  .exact nomatch z
def Sn.nodes(N:Sn ls ps gs hs)(a:∀i,i<⇑ps->⇑(hs.getD i [])<=8)(hi:i<⇑ps)(b:0<=t):Rm.nodes ps gs i t<=5000:=by
 have:=Ir N.s N.hl N.m N.g1 i t hi b;have c:=N.s.w.nI;have d:=a i hi;have:9*(i+1)*max 1 ⇑(hs.getD i [])<=9*61*8:=Nat.mul_le_mul ⋯ ⋯;lia
end
noncomputable def gh(ls:L4)(ps:N2)(gs:L5)(E:L0)(h:L5)(x:Nat×Int):L5:=
 if gs∘x.1<=x.2 then(E.getD x.1 []).foldl (λh q=>h.set q.1.toNat q.2) h
 else match ps[x.1]? with
  | some (_,.rise y v n)=>h.set (cF (cb ls) y) (Rp.ramp (h∘(cF (cb ls) y)) v n x.2)
  | _=>h
noncomputable def cS(ls:L4)(ps:N2)(gs:L5)(E:L0)(t:Int):L5:=(reach ps gs (⇑ps-1) t).foldl (gh ls ps gs E) (ls.map (·.2))
noncomputable def cZ(ps:N2)(x:Nat×Int):L8:=match ps[x.1]? with
 | some (_,.ring y _)=>if x.2=0 then[y]else[]
 | _=>[]
noncomputable def dD(ps:N2)(gs:L5)(t:Int):L8:=(reach ps gs (⇑ps-1) t).flatMap (cZ ps)
def cp.app{d:Type}{R:Addr->d->Prop}{as bs:L7}{xs ys:List d}(h:cp R as xs)(k:cp R bs ys):cp R (as++bs) (xs++ys):=by
 have f:=h.1;erw[by rw[vn,vn,h.1,k.1],λi a x b c=>?_];by_cases e:i<⇑as
 .rw[vB e]at b;rw[vB ⋯]at c;rwa[h.2 i a x b c]
 .rw[vC ⋯]at b;rw[vC ⋯]at c;rwa[k.2 _ a x b (by rw[f];rwa[c])]
def cp.cons{b:Type}{R:Addr->b->Prop}{a:Addr}{as:L7}{x:b}{xs:List b}(h:R a x)(k:cp R as xs):cp R (a::as) (x::xs):=cp.app (as:=[a]) (xs:=[x]) (cp.snoc (as:=[]) (xs:=[]) .nil h) k
theorem cp.rev{b:Type}{R:Addr->b->Prop}:∀{as:L7} {xs:List b},cp R as xs->cp R as.reverse xs.reverse
 | [],[],_=>.nil
 | [],_::_,h=>ud h.1 (by simp)
 | _::_,[],h=>ud h.1 (by simp)
 | a::as,x::xs,h=>by
  rw[reverse_cons,reverse_cons];rwa[cp.app (cp.rev (cp.tail h).2) (cp.snoc (as:=[]) (xs:=[]) .nil (cp.tail h).1)]
def cp.last{e:Type}{R:Addr->e->Prop}{as:L7}{xs:List e}{x:e}(h:cp R as (xs++[x])):∃c a,as=c++[a]/\cp R c xs/\R a x:=by
 rcases List.eq_nil_or_concat as with rfl | ⟨c,a,rfl⟩
 .have:=h.1;simp at this
 .rw[List.concat_eq_append]at h|-;have g:=h.1;rw[vn,vn]at g;have d:⇑c=⇑xs:=by simpa using g
  erw[c,a,rfl,#[d,λi b y f j=>?_],?_]
  .have k:=(vx.mp f).1;rwa[h.2 i b y (by rw[vB k];rwa[f]) (by rw[vB ⋯];rwa[j])]
  .exact h.2 ⇑c a x (by simp) (by rw[d];simp)
def DN{gs:L5}{n:Nat}(h:1<=n)(e:⇑gs=n):fi (gs.map V.int) (-1)⊂(.int (gs∘(n-1))):=by
 have i:my n (-1)⊂(n-1):=by
  unfold my;simp;lia
 unfold fi;rw[vt,e,i];show(gs.map V.int)[n-1]?=_;rw[vv,vy,vz ⋯];rfl
section
variable{ls:L4}{ps:N2}{gs:L5}{hs:L1}
def Km(W:eI ls ps):∀{i:Nat} {t:Int} {x:Nat×Int},i<⇑ps->x∈reach ps gs i t->x.1<⇑ps:=by
 intro i
 induction i using Nat.strongRecOn with
 | ind i ih=>
  intro t x b a;by_cases h:gs∘i<=t\/cP ps gs i=[]
  .rw[Jg h]at a;rw[vo.mp a];rwa[b]
  .rw[JI W h]at a;let⟨y,c,a⟩:=mem_flatMap.mp a;have:=Qv W c;rwa[ih y.1 this ⋯ a]
def Ig(N:Sn ls ps gs hs):∀{i:Nat} {t:Int} {x:Nat×Int},i<⇑ps->0<=t->x∈reach ps gs i t->0<=x.2:=by
 intro i
 induction i using Nat.strongRecOn with
 | ind i ih=>
  intro t x d e a;by_cases h:gs∘i<=t\/cP ps gs i=[]
  .rw[Jg h]at a
   simp_all
  .rw[JI N.s.w h]at a;let⟨y,b,a⟩:=mem_flatMap.mp a;have:=Qv N.s.w b;rwa[ih y.1 this ⋯ (kE (λq c=>N.nJ c) b) a]
def NY(N:Sn ls ps gs hs)(m:⇑E=⇑ps)(k:di ls ps E):∀{i:Nat},i<⇑ps->∀q∈E.getD i [],0<=q.2/\q.2<=10^18:=by
 intro i
 induction i using Nat.strongRecOn with
 | ind i ih=>
  intro f q h;have d:E[i]?⊂(E.getD i []):=by simp_all
  obtain⟨p,a⟩:∃p,ps[i]?⊂p:=#[_,vz f]
  rcases((k i p _ a d).2 q.1 q.2).mp h with⟨l,j,b,e,c,_⟩ | ⟨x,n,e,_⟩
  .have g:j∈cX ps p.2:=by rw[e];simp
   have:=N.s.w.c9 a g;rwa[ih j this ⋯ _ c]
  .have:=N.Cp i p.1 x q.2 n (by rw[a,<-e]);lia
def Bm(i:0<=h/\h<=10^18)(l:0<=v/\v<=10^18)(k:1<=n)(d:0<=j)(e:j<=n):0<=Rp.ramp h v n j/\Rp.ramp h v n j<=10^18:=by
 unfold Rp.ramp;by_cases c:h<=v
 .have a:0<=(v-h)*j:=Int.mul_nonneg ⋯ d;have b:(v-h)*j<=(v-h)*n:=Int.mul_le_mul_of_nonneg_left e ⋯;have f:0<=(v-h)*j/n:=Int.ediv_nonneg a ⋯;have g:(v-h)*j/n<=v-h:=by
   have:=Int.ediv_le_ediv (show 0<n by lia) b;rw[Int.mul_ediv_cancel _ (show n≠0 by lia)]at this;rwa[this]
  lia
 .have a:(v-h)*j<=0:=Int.mul_nonpos_of_nonpos_of_nonneg ⋯ d;have b:(v-h)*n<=(v-h)*j:=Int.mul_le_mul_of_nonpos_left ⋯ e;have f:(v-h)*j/n<=0:=by
   have:=Int.ediv_le_ediv (show 0<n by lia) a
   simp_all
  have g:v-h<=(v-h)*j/n:=by
   have:=Int.ediv_le_ediv (show 0<n by lia) b;rw[Int.mul_ediv_cancel _ (show n≠0 by lia)]at this;rwa[this]
  lia
end
inductive Fn where
 | hold (n:Int) | ring (x:Str) (n:Int) | rise (x:Str) (h n:Int) | row (is:L6) | side (is:L6) | again (k:Int) (j:Nat)
noncomputable def Fn.js:Fn->L6
 | .row is=>is
 | .side is=>is
 | .again _ j=>[j]
 | _=>[]
def Ex(p:Addr)(H H':Hp):Prop:=∀c u,c≠p->H c⊂u->H' c⊂u
def Ex.refl(H:Hp):Ex p H H:=λq q q h=>h
def Ex.trans{d e f:Hp}(a:Ex p d e)(b:Ex p e f):Ex p d f:=λc u n h=>b c u n (a c u n h)
def Ex.of{H H':Hp}(s:cj H H'):Ex p H H':=λc u q h=>s c u h
noncomputable def gf(gs:L5):Fn->Int->Prop
 | .hold n,g=>g=n
 | .ring _ n,g=>g=n
 | .rise _ _ n,g=>g=n
 | .row is,g=>g=(is.map λj=>gs∘j).sum
 | .side is,g=>(∃j∈is,g=gs∘j)/\∀j∈is,gs∘j<=g
 | .again k j,g=>g=k*gs∘j
def lL(L:L8)(M:L1)(f:Fn)(ks:L5):Prop:=ks.Pairwise (· < ·)/\∀k,k∈ks↔(∃j∈f.js,k∈M.getD j [])\/∃(x:Str) (h n:Int) (i:Nat),f = .rise x h n/\L[i]?⊂x/\k=(i:Int)
def nX(M:L1)(is:L6):Prop:=(∀j∈is,M.getD j []≠[])/\is.Pairwise λa b=>∀k∈M.getD a [],¬k∈M.getD b []
noncomputable def eJ(L:L8)(M:L1)(n:Nat):Fn->Prop
 | .hold m=>1<=m/\m<=10^18
 | .ring x m=>1<=m/\m<=10^18/\Ws.gn x=true
 | .rise x h m=>(∃i:Nat,L[i]?⊂x)/\0<=h/\h<=10^18/\1<=m/\m<=10^18
 | .row is=>is≠[]/\⇑is<=8/\∀j∈is,j<n
 | .side is=>2<=⇑is/\⇑is<=8/\(∀j∈is,j<n)/\nX M is
 | .again k j=>1<=k/\k<=10^18/\j<n
def eJ.js(h:eJ L M n f):⇑f.js<=8/\∀j∈f.js,j<n:=by
 cases f with
 | row is=>rwa[h.2]
 | side is=>rwa[h.2.1,h.2.2.1]
 | again k j=>rwa[by show 1<=8;lia,λi a=>by rw[vo.mp a];rwa[h.2.2]]
 | hold n=>rwa[va _,λj h=>nomatch h]
 | ring x n=>rwa[va _,λj h=>nomatch h]
 | rise x v n=>rwa[va _,λj h=>nomatch h]
structure ez(L:L8)(fs:List Fn)(M:L1)(gs:L5):Prop where
 ml:⇑M=⇑fs
 gl:⇑gs=⇑fs
 f:∀(i:Nat) (f:Fn),fs[i]?⊂f->eJ L M i f/\lL L M f (M.getD i [])/\gf gs f (gs∘i)
 g:∀i,i<⇑fs->1<=gs∘i/\gs∘i<=10^60
noncomputable def cV(names:L8):Fn->Fm
 | .hold n=>.hold n
 | .ring x n=>.ring x n
 | .rise x h n=>.rise x h n
 | .row is=>.row (is.map λj=>names.getD j ⟨#[]⟩)
 | .side is=>.side (is.map λj=>names.getD j ⟨#[]⟩)
 | .again k j=>.again k (names.getD j ⟨#[]⟩)
def QZ{a:Type}{xs:List a}{x d:a}{j:Nat}(h:j<⇑xs):(xs++[x]).getD j d=xs.getD j d:=by
 rw[vy,vy,vB h]
def Zq{a:Type}{xs:List a}{x d:a}:(xs++[x]).getD ⇑xs d=x:=by
 rw[vy,vC (vb _),uq];rfl
def eJ.ext{L:L8}{M:L1}{ks:L5}{n:Nat}{f:Fn}(q:n<=⇑M)(h:eJ L M n f):eJ L (M++[ks]) n f:=by
 cases f with
 | side is=>
  let⟨a,b,c,d,e⟩:=h;have g:∀j∈is,(M++[ks]).getD j []=M.getD j []:=λj i=>QZ (by have:=c j i;lia)
  erw[a,b,c,λj i=>by rw[g j i];rwa[d j i],?_];exact(List.pairwise_iff_forall_sublist.mpr λ{x y} l=>by
   have o:x∈is:=l.subset vq;have p:y∈is:=l.subset (vp _ vq);rw[g x o,g y p];rwa[List.pairwise_iff_forall_sublist.mp e l])
 | hold m=>rwa[h]
 | ring x m=>rwa[h]
 | rise x v m=>rwa[h]
 | row is=>rwa[h]
 | again k j=>rwa[h]
def lL.ext{L:L8}{M:L1}{ks d:L5}{f:Fn}(c:∀j∈f.js,j<⇑M)(h:lL L M f d):lL L (M++[ks]) f d:=by
 erw[h.1,λk=>(h.2 k).trans ?_];have:(∃j∈f.js,k∈M.getD j [])↔∃j∈f.js,k∈(M++[ks]).getD j []:=by
  constructor
  .rintro⟨j,a,b⟩;rwa[j,a,by rw[QZ (c j a)];rwa[b]]
  .rintro⟨j,a,b⟩;rwa[j,a,by rw[QZ (c j a)]at b;rwa[b]]
 rw[this]
def gf.ext{gs:L5}{g' g:Int}{f:Fn}(n:∀j∈f.js,j<⇑gs)(h:gf gs f g):gf (gs++[g']) f g:=by
 have e:∀j∈f.js,(gs++[g']).getD j 0=gs∘j:=λj a=>QZ (n j a)
 cases f with
 | hold m=>rwa[h]
 | ring x m=>rwa[h]
 | rise x v m=>rwa[h]
 | row is=>
  show g=(is.map λj=>(gs++[g']).getD j 0).sum;have d:is.map (λj=>(gs++[g']).getD j 0)=is.map λj=>gs∘j:=map_congr_left e
  rw[d];rwa[h]
 | side is=>
  let⟨⟨j,a,i⟩,l⟩:=h;rwa[#[j,a,by rw[e j a];rwa[i]],λc b=>by rw[e c b];rwa[l c b]]
 | again k j=>
  show g=k*(gs++[g']).getD j 0;rw[e j vq];rwa[h]
def ez.AN(D:ez L fs M gs):∀i,i<⇑fs->∀k∈M.getD i [],0<=k/\k<(⇑L:Int):=by
 intro i
 induction i using Nat.strongRecOn with
 | ind i ih=>
  intro e k f;let⟨a,b,q⟩:=D.f i _ (vz e);rcases(b.2 k).mp f with⟨j,c,d⟩ | ⟨x,h,n,j,_,c,rfl⟩
  .have:=a.js.2 j c;rwa[ih j this ⋯ k d]
  .have:=(vx.mp c).1;lia
noncomputable def cg(names:L8)(fs:List Fn):N2:=(List.range ⇑fs).map λi=>(names.getD i ⟨#[]⟩,cV names (fs.getD i (.hold 0)))
section
variable{L:L8}{fs:List Fn}{M:L1}{gs:L5}{names:L8}{ls:L4}
def j3:⇑(cg names fs)=⇑fs:=by unfold cg;rw[vt,length_range]
def qg(h:fs[i]?⊂f):(cg names fs)[i]?⊂(names.getD i ⟨#[]⟩,cV names f):=by
 unfold cg;have a:=(vx.mp h).1;rw[vv,List.getElem?_range a];have e:fs.getD i (.hold 0)=f:=by rw[vy,h];rfl
 show some (names.getD i ⟨#[]⟩,cV names (fs.getD i (.hold 0)))=_;rw[e]
def Qo(h:(cg names fs)[i]?⊂p):∃f,fs[i]?⊂f/\p=(names.getD i ⟨#[]⟩,cV names f):=by
 have b:=(vx.mp h).1;rw[j3]at b;obtain⟨f,a⟩:∃f,fs[i]?⊂f:=#[_,vz b]
 rw[qg a]at h;rwa[f,a,(vL h).symm]
def Xh(c:⇑fs<=⇑names):cb (cg names fs)=names.take ⇑fs:=by
 unfold cb cg;rw[v7];erw[ext_getElem (by rw[vt,length_range,vi];lia) λi a b=>?_]
 rw[getElem_map,getElem_range,getElem_take];show names.getD i ⟨#[]⟩=_;rw[vy,vz];rfl
def Fp(b:⇑fs<=⇑names)(a:j<⇑fs):(cb (cg names fs))[j]?⊂(names.getD j ⟨#[]⟩):=by
 rw[Xh b,List.getElem?_take,vd a,vy,vz ⋯];rfl
def C0(a:⇑fs<=⇑names)(b:names.Nodup):(cb (cg names fs)).Nodup:=by
 rw[Xh a];rwa[b.sublist (take_sublist _ _)]
def zE(c:⇑fs<=⇑names)(d:names.Nodup)(b:∀j∈f.js,j<⇑fs):cX (cg names fs) (cV names f)=f.js:=by
 have e:∀a:L6,(∀j∈a,j<⇑fs)->(a.map λj=>names.getD j ⟨#[]⟩).map (cF (cb (cg names fs)))=a:=λa h=>by
  rw[v7]
  conv=>rhs;rw[<-map_id a]
  rwa[map_congr_left λj b=>jZ (C0 c d) (Fp c (h j b))]
 unfold cX;cases f with
 | row a=>rwa[e a b]
 | side a=>rwa[e a b]
 | again k j=>rwa[e [j] b]
 | hold n=>rfl
 | ring x n=>rfl
 | rise x v n=>rfl
def Dq(f:Fn):(cV names f).ns=f.js.map λj=>names.getD j ⟨#[]⟩:=by cases f<;>rfl
def ez.wf(D:ez (cb ls) fs M gs)(m:⇑fs<=⇑names)(t:names.Nodup)(l:(cb ls).Nodup)(s:⇑ls<=8)(d:⇑fs<=61):eI ls (cg names fs):=by
 erw[l,s,C0 m t,by rw[j3];rwa[d],λi p g=>?_,λi y x h n g=>?_]
 .let⟨f,c,rfl⟩:=Qo g;have u:=(vx.mp c).1;let⟨a,Z⟩:=D.f i f c;have q:=a.js;refine#[λx o=>?_,?_]
  .rw[Dq]at o;let⟨j,r,rfl⟩:=vK.mp o;have:=q.2 j r;rwa[j,this,Fp m ⋯]
  .rw[Dq,vt];rwa[q.1]
 .let⟨f,c,e⟩:=Qo g;let⟨a,Z⟩:=D.f i f c;have b:=(Prod.mk.inj e).2;cases f with
  | rise x' h' n'=>
   have:x=x':=by injection b
   subst this;rwa[a.1]
  | hold n=>cases b
  | ring x n=>cases b
  | row is=>cases b
  | side is=>cases b
  | again k j=>cases b
def ez.ur(D:ez (cb ls) fs M gs)(m:⇑fs<=⇑names)(s:names.Nodup)(b:(cb ls).Nodup):dZ ls (cg names fs) M:=by
 intro i p r o u;let⟨f,g,rfl⟩:=Qo o;have t:=(vx.mp g).1;let⟨c,d,Z⟩:=D.f i f g;have q:=c.js.2;have l:M.getD i []=r:=by simp_all
 rw[l]at d;erw[d.1,λk=>(d.2 k).trans ?_];rw[zE m s λj a=>by have:=q j a;lia];erw[λh=>h.imp id ?_,λh=>h.imp id ?_]
 .rintro⟨x,v,n,j,rfl,a,rfl⟩;rwa[x,v,n,rfl,by rw[jZ b a]]
 .rintro⟨x,v,n,e,rfl⟩;cases f with
  | rise x' h' n'=>
   have:x'=x:=by injection e
   subst this;let⟨j,a⟩:=c.1;rwa[x',h',n',j,rfl,a,by rw[jZ b a]]
  | hold n=>cases e
  | ring x n=>cases e
  | row is=>cases e
  | side is=>cases e
  | again k j=>cases e
def MH{M c:L1}(W:eI ls ps)(h:dZ ls ps M)(h':dZ ls ps c)(l:⇑M=⇑ps)(r:⇑c=⇑ps):∀i,i<⇑ps->c.getD i []=M.getD i []:=by
 intro i
 induction i using Nat.strongRecOn with
 | ind i ih=>
  intro q;have e:ps[i]?⊂ps[i]:=vz q;have p:M[i]?⊂(M.getD i []):=by simp_all
  have f:c[i]?⊂(c.getD i []):=by simp_all
  let⟨a,b⟩:=h i _ _ e p;let⟨n,o⟩:=h' i _ _ e f;erw[Aj n a λk=>(o k).trans (Iff.trans ?_ (b k).symm)]
  have m:(∃j∈cX ps (ps[i]).2,k∈c.getD j [])↔∃j∈cX ps (ps[i]).2,k∈M.getD j []:=by
   constructor
   .rintro⟨j,d,g⟩;have:=W.c9 e d;rwa[j,d,by rw[<-ih j this ⋯];rwa[g]]
   .rintro⟨j,d,g⟩;have:=W.c9 e d;rwa[j,d,by rw[ih j this ⋯];rwa[g]]
  rw[m]
def ez.sn(D:ez (cb ls) fs M gs)(C:⇑fs<=⇑names)(G:names.Nodup)(B:(cb ls).Nodup)(X:⇑ls<=8)(J:⇑fs<=61)(f1:1<=⇑fs)(Y:∀q∈ls,0<=q.2/\q.2<=10^18):Sn ls (cg names fs) gs M:=by
 have W:=D.wf C G B X J;have O:=D.ur C G B;have dl:⇑(cg names fs)=⇑fs:=j3;have ml:=D.ml;have gl:=D.gl;erw[#[W,⋯,λi w=>?_,λZ T K i w=>MH W O K ⋯ T i w,λi p t=>?_,λi p qs t e=>?_],⋯,O,λi w=>(D.g i ⋯).1,⋯,Y,λi y x v n t=>?_,λi y x k t=>?_]
 .have:=D.g i ⋯;lia
 .let⟨f,m,rfl⟩:=Qo t;have w:=(vx.mp m).1;let⟨d,Z,u⟩:=D.f i f m;have o:=d.js.2;rw[show cX (cg names fs) (names.getD i ⟨#[]⟩,cV names f).2=f.js from zE C G λj A=>by have:=o j A;lia];cases f with
  | hold n=>rwa[trivial,λg h=>Eq.trans h (Eq.symm u)]
  | ring x n=>rwa[trivial,λg h=>Eq.trans h (Eq.symm u)]
  | rise x v n=>rwa[trivial,λg h=>Eq.trans h (Eq.symm u)]
  | row is=>rwa[trivial,λg h=>Eq.trans h (Eq.symm u)]
  | side is=>
   erw[λz=>?_,λg h=>?_]
   .have p2:=d.1;have:⇑is=0:=by rw[<-vt (f:=λj=>gs∘j)];exact congrArg List.length z
    lia
   .let⟨Q,R⟩:=h;let⟨j,A,rfl⟩:=vK.mp Q;let⟨⟨E,s,e'⟩,U⟩:=u;have a1:=U j A;have a2:=R (gs∘E) (vK.mpr #[E,s,rfl]);lia
  | again k j=>
   have P:=D.g j (by have:=o j vq;lia);erw[#[gs∘j,[],rfl,Int.le_trans nofun d.1,d.2.1,⋯,P.2],λg h=>?_];let⟨y,S,rfl⟩:=h;cases S;rwa[Eq.symm u]
 .let⟨f,m,rfl⟩:=Qo t;have w:=(vx.mp m).1;let⟨d,Z,Z⟩:=D.f i f m;have o:=d.js.2;rw[show cX (cg names fs) (names.getD i ⟨#[]⟩,cV names f).2=f.js from zE C G λj A=>by have:=o j A;lia];cases f with
  | side is=>
   let⟨Z,Z,Z,H,I⟩:=d;erw[H,λk=>?_];have N:∀o:L6,o.Pairwise (λa b=>∀k∈M.getD a [],¬k∈M.getD b [])->⇑((o.map λj=>M.getD j []).filter λF=>decide (k∈F))<=1:=λo=>by
    induction o with
    | nil=>rwa[λZ=>va _]
    | cons j r ih=>
     intro h;rw[vV]at h;rw[uz,v9];split
     .rename_i c;have e:(r.map λj=>M.getD j []).filter (λF=>decide (k∈F))=[]:=by
       rw[List.filter_eq_nil_iff];intro F L;let⟨E,s,rfl⟩:=vK.mp L;have:=h.1 E s k (of_decide_eq_true c);simpa using this
      rw[e];rwa[vb _]
     .exact ih h.2
   rwa[N is I]
  | hold n=>cases e
  | ring x n=>cases e
  | rise x v n=>cases e
  | row is=>cases e
  | again k j=>cases e
 .let⟨f,m,e⟩:=Qo t;let⟨d,Z⟩:=D.f i f m;have l:=(Prod.mk.inj e).2;cases f with
  | rise x' K n'=>
   injection l with e3 e4 e5;subst e3 e4 e5;rwa[d.2]
  | hold n=>cases l
  | ring x n=>cases l
  | row is=>cases l
  | side is=>cases l
  | again k j=>cases l
 .let⟨f,m,e⟩:=Qo t;let⟨d,Z⟩:=D.f i f m;have l:=(Prod.mk.inj e).2;cases f with
  | again k' j=>
   injection l with e3 e4;subst e3;rwa[d.1,d.2.1]
  | rise x' K n'=>cases l
  | hold n=>cases l
  | ring x n=>cases l
  | row is=>cases l
  | side is=>cases l
end
end Rm
namespace L2
open PySem PySem.Spec PySem.W PyProof.Rows
def Oy(h:(cv P w).is k u=true):RelV (kV k) u:=by
 cases k with
 | inl i=>let⟨t,rfl⟩:=Value.isInt_shape (k:=i) h;rwa[t,rfl]
 | inr z=>let⟨t,rfl⟩:=Value.isStrOf_shape (x:=z) h;rwa[t,rfl]
theorem D3:∀{ys:N4} {us:L9},⇑us=⇑ys->(∀(j:Nat) (u:Value),us[j]?⊂u->∃y,ys[j]?⊂y/\RelV y u)->Vals ys us
 | [],[],_,_=>.nil
 | [],_::_,h,_=>by simp at h
 | _::_,[],h,_=>by simp at h
 | y::ys,u::us,h,q=>by
  let⟨b,e,r⟩:=q 0 u rfl;simp only[List.getElem?_cons_zero,Option.some.injEq]at e;subst e;rwa[.cons r (D3 #v[h] λj u a=>#v[q (j+1) u #v[a]])]
open PySem PySem.Spec PyProof.Rows
def GI{P:Nat->Value->Prop}:∀{xs:N4} {us:L9},⇑us=⇑xs->(∀(i:Nat) v,us[i]?⊂v->P i v)->(∀(i:Nat) (v:Value) (x:V),P i v->xs[i]?⊂x->RelV x v)->Vals xs us:=by
 intro xs
 induction xs generalizing P with
 | nil=>
  intro us h q q;rw[List.length_eq_zero_iff.mp h];rwa[.nil]
 | cons x r ih=>
  intro us h a b;cases us with
  | nil=>rwa[ud h (by simp)]
  | cons u us=>
   erw[.cons (b 0 u x (a 0 u rfl) rfl) (ih (P:=λi v=>P (i+1) v) #v[h] (λi v e=>a (i+1) v #v[e]) λi v y p e=>b (i+1) v y p #v[e])]
def FC(ta:TA):TE:=λσ H Q=>ta σ H λvs H1=>∃n:Nat,vs=[.int (n:Nat)]/\n<=10^6/\∀p,H1 p=none->Q (.ref p) (upd H1 p (.lst ((List.range n).map λu:Nat=>V.int (u:Nat))))
def OB{a:TA}{b:St}{H:Hp}{Q:VK}(h:a b H λvs H1=>∃n:Nat,vs=[.int (n:Nat)]/\n<=10^6/\∀p,H1 p=none->Q (.ref p) (upd H1 p (.lst ((List.range n).map λu:Nat=>V.int (u:Nat))))):FC a b H Q:=h
def GB{X:Cx}{a:Expr}{K:TA}{p C D c:Pos}(N:X.calm=true)(r:Gl X "list")(z:X.mg "list"= none)(w:Gl X "range")(A:X.mg "range"= none)(M:PA X [a] K)
  (g:starEach [.Call (.Name "range" C) [a] [] c] X.env=[(false,eval (.Call (.Name "range" C) [a] [] c) X.env)]:=by rfl)
  (R:starEach [a] X.env=[(false,eval a X.env)]:=by rfl) :
  PE X (.Call (.Name "list" p) [.Call (.Name "range" C) [a] [] c] [] D) (FC K):=by
 intro j s σ H Q I h;erw[wpAny_Call_Name_kw (Zs I r z ZP ?_)];erw[PyProof.Rows.callWith_type1 ?_ g rfl];rw[g];erw[Calls.spliced_cons ?_];erw[Call_ (Zs I w A boot_range (PyProof.Rows.callWith_type1 (cM (M c j s σ H _ I h) λus l z_=>?_) R rfl))];obtain⟨vs,H1,m,W,U⟩:=z_;let⟨n,rfl,hn,q⟩:=U;let⟨u,rfl,t,rfl⟩:=vals1 W;erw[call_range_1 ?_];erw[Calls.spliced_nil ?_];have T:Builtin.Range.rangeSize 0 (n:Int) 1=((n:Nat):Int):=by rw[rangeSize_one];split<;>lia
 have sl:(10^6:Nat)<=2^24:=by decide
 erw[call_list_range (n:=n) (m.ok.hd N) (IsRange.new ..) (small_one ⋯ ⋯ ⋯ ⋯) T ⋯ λE Y f L S e d=>?_]
 have B:∀b o,l.heap.get? b⊂o->E.get? b⊂o:=λb o e=>S b o (vJ _ e)
 have J:l⁻¹<=(l.heap.push {cls:=.type "range",data:=.fields [.int 0 l.toks,.int n t,.int 1 (l.toks+1)].toArray}).objs.size:=by simp_all
 have Z:Vals ((List.range n).map λu:Nat=>V.int (u:Nat)) f.toList:=by
  erw[GI (P:=λi v=>∃t,v=Value.int (0+(i:Int)*1) t) (by rw[Array.length_toList,d.1,vt,length_range]) (λi v e=>d.2 i v #v[e]) λi v x O F=>?_]
  rw[vv]at F;let⟨k,y,rfl⟩:=vg.mp F;let⟨t,rfl⟩:=O;have G:=(vx.mp y).1;rw[length_range]at G;rw[List.getElem?_range G]at y;cases y;rwa[t,by simp]
 have sz:(10^6:Nat)<=sizeLine:=by decide
 erw[.ref _,_,m.laid (t':=Y) B J (show cD X.prog X.w _ E _ (.lst ((List.range n).map λu:Nat=>V.int (u:Nat)))from#[by rw[vt,length_range];lia,f.toList,L,Z,#v[e]]),rfl,q _ (m.cK.fresh J)]
noncomputable abbrev NI:=Sum Key (List Key)
noncomputable abbrev NK:=List NI
section
variable(P:Program)(w:World)
inductive ip(h:Heap):NK->L9->Prop
 | nil:ip h [] []
 | key {k:Key} {v:Value} {ks:NK} {vs:L9}:gv k v=true->ip h ks vs->ip h (Sum.inl k::ks) (v::vs)
 | tup {kk:List Key} {b:Addr} {ks:NK} {vs:L9}:IsTupleKey (cv P w) h kk b->ip h ks vs->ip h (Sum.inr kk::ks) (.ref b::vs)
def pe(h:Heap)(ks:NK)(a:Addr):Prop:=∃o items n,h.get? a⊂o/\o.cls = .type "tuple"/\o.data = .seq items n/\ip P w h ks items.toList
end
section
variable{P:Program}{w:World}{h h':Heap}
def ip.inj:∀{x y:NK} {vs:L9},ip P w h x vs->ip P w h y vs->x=y
 | _,_,_,.nil,q=>by cases q;rfl
 | _,_,_,.key a r,q=>by
  cases q with
  | key b t=>rw[(cv P w).inj _ _ _ a b,r.inj t]
  | tup b t=>rwa[ud ((cv P w).byValue _ _ a) (by simp[carriedByValue])]
 | _,_,_,.tup a r,q=>by
  cases q with
  | key b t=>rwa[ud ((cv P w).byValue _ _ b) (by simp[carriedByValue])]
  | tup b t=>rw[a.inj b,r.inj t]
def ip.keeps{d:Addr}{o:Obj}{es ep}(ho:h.get? d⊂o)(hd:o.data = .dict es ep)(hs:Heap.SameBut d h h'):∀{x:NK} {vs:L9},ip P w h x vs->ip P w h' x vs
 | _,_,.nil=>.nil
 | _,_,.key a r=>.key a (r.keeps ho hd hs)
 | _,_,.tup a r=>.tup (a.keeps ho hd hs) (r.keeps ho hd hs)
noncomputable def r9(w:World)(P:Program):NI->Int
 | .inl k=>ue w k
 | .inr kk=>tupleKeyHash (cv P w) kk
noncomputable def nS:NI->Nat
 | .inl _=>1
 | .inr kk=>⇑kk+1
noncomputable def mF:NK->Nat
 | []=>1
 | x::r=>nS x+mF r
noncomputable def oB(w:World)(P:Program)(ks:NK):Int:=reduceHash (Builtin.Tuple.tupleHashOf (ks.map (r9 w P)))
def pe.typeIs{s:Shared}{ks:NK}{a:Addr}(x:pe P w s.heap ks a):s.TypeIs (.ref a) "tuple":=let ⟨o,_,_,ho,hc,_⟩:=x;#[o,ho,hc]
section
variable{A:Around}{E:Nz}{s:Shared}
def LY{x:NI}{ks:NK}{v:Value}{vs:L9}{Q:Int->Shared->Prop}(b:A.units<cLine)(i:ip P w s.heap (x::ks) (v::vs))(h:Q (r9 w P x) {s with toks:=s.toks+nS x}):wpAny (model P w) A (pyHash v) Q E s:=by
 cases i with
 | key a r=>rwa[(cv P w).pyHash a h]
 | tup a r=>rwa[wpAny_pyHash_tuple b a h]
theorem D9(x:NI):∀ks:NK,mF (ks++[x])=mF ks+nS x
 | []=>by show nS x+1=1+nS x;lia
 | y::r=>by show nS y+mF (r++[x])=nS y+mF r+nS x;rw[D9 x r];lia
def N7{ks:NK}{a:Addr}{Q:Int->Shared->Prop}(C:A.units+60<cLine)(u:pe P w s.heap ks a)(h:Q (oB w P ks) {s with toks:=s.toks+mF ks}):wpAny (model P w) A (pyHash (.ref a)) Q E s:=by
 have T:=u.typeIs;let⟨o,m,n,B,Z,v,z⟩:=u;have k:A.units<cLine:=⋯
 unfold pyHash
 first | unfold pyHashByItsType | skip
 first | refine ug (wpAny_cRoomFor_or (.inr k) ?_) | skip
 erw[ug (wpAny_specialOf T F.slot_tuple_hash.lookup ?_)];show wpAny _ _ (if(some (Value.builtin "tuple.__hash__")==some Value.none)=true then _ else _) Q E s;rw[vc (by rw[beq_builtin_none];rwa[vF])];erw[ug (wpAny_specialOf T F.slot_tuple_hash.lookup ?_)];show wpAny _ _ (callSpecialIfBoundUnlessNone? (.ref a) "__hash__" _ >>= _) Q E s;erw[ug (wpAny_callSpecialIfBoundUnlessNone?_slot T F.slot_tuple_hash (wpAny_call_entry F.slot_tuple_hash T F.entry_tuple_hash ?_ (F.args_tuple_hash_1 _)))];show wpAny _ _ (Builtin.Tuple.tupleItemsOf (.ref a) >>= _) _ _ s;erw[ug (wpAny_tupleItemsOf B v ?_)];erw[ug ?_];rw[<-Array.forIn_toList];erw[wpAny_forIn_list _ (λd (b:Array Int) q=>∃c left:NK,ks=c++left/\ip P w s.heap left d/\b.toList=c.map (r9 w P)/\q={s with toks:=s.toks+(mF c-1)}) _ ?_ ?_ _ _ #[[],ks,rfl,z,rfl,rfl]]
 .rintro x d b q ⟨c,left,rfl,g,j,rfl⟩;have p:∀y:NI,1<=nS y:=λy=>by cases y<;>simp[nS]
  have i:∀l:NK,1<=mF l:=λl=>by
   cases l with
   | nil=>rwa[vb _]
   | cons y r=>rwa[vW (p y) (Nat.le_add_right _ _)]
  cases left with
  | nil=>cases g
  | cons y ks'=>
   have e:ip P w s.heap ks' d:=by cases g with
    | key a r=>rwa[r]
    | tup a r=>rwa[r]
   have f:s.toks+(mF c-1)+nS y=s.toks+(mF (c++[y])-1):=by rw[D9];have:=i c;lia
   erw[ug (LY (s:={s with toks:=s.toks+(mF c-1)}) (by show A.units+1<cLine;lia) g ?_)]
   first
    | rwa[uf #[c++[y],ks',by simp,e,by simp[j],by rw[<-f]]]
    | rwa[ug (uf (uf #[c++[y],ks',by simp,e,by simp[j],by rw[<-f]]))]
 .rintro b q ⟨c,left,rfl,g,j,rfl⟩;cases g;rw[append_nil]at h;have i:1<=mF c:=by
   cases c with
   | nil=>rwa[vb _]
   | cons y r=>cases y<;>simp only[mF,nS]<;>lia
  have t:s.toks+(mF c-1)+1=s.toks+mF c:=⋯
  show wpAny _ _ (retInt (Builtin.Tuple.tupleHashOf b.toList)) _ _ _;rw[j];erw[wpAny_ret_mkInt ?_];show wpAny _ _ (if(decide (-(2:Int)^63<=Builtin.Tuple.tupleHashOf (c.map (r9 w P)))&&decide (Builtin.Tuple.tupleHashOf (c.map (r9 w P))<2^63))=true then _ else _) Q E _;unfold oB reduceHash at h;by_cases e:(decide (-(2:Int)^63<=Builtin.Tuple.tupleHashOf (c.map (r9 w P)))&&decide (Builtin.Tuple.tupleHashOf (c.map (r9 w P))<2^63))=true
  .rw[vd e];rw[vd e]at h;rwa[uf (by simpa [t]using h)]
  .rw[vc e];rw[vc e]at h;rwa[ug (wpAny_rule (uf (by simpa [t]using h)))]
def Ou{x y:NI}{ks ls:NK}{u v:Value}{us vs:L9}(p:A.units+1<cLine)(i:ip P w s.heap (x::ks) (u::us))(j:ip P w s.heap (y::ls) (v::vs)){Q:Bool->Shared->Prop}(h:Q (decide (x=y)) s):wpAny (model P w) A (eqBool u v) Q E s:=by
 have f:∀{m:List Key} {b:Addr},IsTupleKey (cv P w) s.heap m b->∃c,s.heap.IsTuple b c:=λ⟨o,c,n,g,k,l,_⟩=>#[c,o,g,k,n,l]
 cases i with
 | key a r=>
  cases j with
  | key b t=>
   erw[(cv P w).eqBool a b ?_]
   simp_all
  | tup b t=>
   let⟨c,e⟩:=f b;rw[vH (λz=>nomatch z)]at h;rcases Jn a with⟨i,t,rfl,rfl⟩ | ⟨x,t,rfl,rfl⟩
   .exact SeqAt.EqAt.int_tuple i t e ⋯ _ _ _ _ h
   .exact SeqAt.EqAt.str_tuple x t e ⋯ _ _ _ _ h
 | tup a r=>
  let⟨c,d⟩:=f a;cases j with
  | key b t=>
   rw[vH (λz=>nomatch z)]at h;rcases Jn b with⟨i,t,rfl,rfl⟩ | ⟨x,t,rfl,rfl⟩
   .exact SeqAt.EqAt.tuple_int i t d ⋯ _ _ _ _ h
   .exact SeqAt.EqAt.tuple_str x t d ⋯ _ _ _ _ h
  | tup b t=>
   erw[wpAny_eqBool_tuple ⋯ a b ?_]
   simp_all
theorem EI(c:A.units+1<cLine):∀{x y:NK} {us vs:L9},ip P w s.heap x us->ip P w s.heap y vs->∀(j:Nat) (h1:j<⇑us) (h2:j<⇑vs),∃(a:j<⇑x) (b:j<⇑y),∀(E:Nz) (Q:Bool->Shared->Prop),Q (decide (x[j]=y[j])) s->wpAny (model P w) A (eqBool us[j] vs[j]) Q E s
 | [],_,_,_,i,_,j,h1,_=>by cases i;rwa[ud h1 (Nat.not_lt_zero _)]
 | _::_,[],_,_,_,i,j,_,h2=>by cases i;rwa[ud h2 (Nat.not_lt_zero _)]
 | x::xs,y::ys,[],_,i,_,_,_,_=>nomatch i
 | x::xs,y::ys,_::_,[],_,i,_,_,_=>nomatch i
 | x::xs,y::ys,u::us,v::vs,i,k,0,_,_=>#[Nat.succ_pos _,Nat.succ_pos _,λE Q h=>Ou c i k h]
 | x::xs,y::ys,u::us,v::vs,i,k,j+1,h1,h2=>by
  have d:ip P w s.heap xs us:=by cases i with
   | key _ r=>rwa[r]
   | tup _ r=>rwa[r]
  have e:ip P w s.heap ys vs:=by cases k with
   | key _ r=>rwa[r]
   | tup _ r=>rwa[r]
  let⟨a,b,q⟩:=EI c d e j (Nat.lt_of_succ_lt_succ h1) (Nat.lt_of_succ_lt_succ h2);rwa[Nat.succ_lt_succ a,Nat.succ_lt_succ b,λE Q h=>q E Q h]
def ip.length:∀{x:NK} {vs:L9},ip P w h x vs->⇑x=⇑vs
 | _,_,.nil=>rfl
 | _,_,.key _ r=>by rw[vQ,vQ,⇑r]
 | _,_,.tup _ r=>by rw[vQ,vQ,⇑r]
def M4{c:Type}[DecidableEq c]{x y:List c}{e:Nat->Bool}(a:∀j (h1:j<⇑x) (h2:j<⇑y),e j=decide (x[j]=y[j])):((List.range (min ⇑x ⇑y)).all e&&⇑x==⇑y)=decide (x=y):=by
 by_cases z:x=y
 .subst z;rw[vG rfl,Bool.and_eq_true];erw[all_eq_true.mpr λj b=>?_,by simp];have b:=v4.mp b;rw[a j ⋯ ⋯];simp
 .rw[vH z];cases e':((List.range (min ⇑x ⇑y)).all e&&⇑x==⇑y)with
  | false=>rfl
  | true=>
   rw[Bool.and_eq_true]at e';let⟨h1,h2⟩:=e';have h2:⇑x=⇑y:=by simpa using h2
   erw[ud (ext_getElem h2 λj d f=>?_) z];have:=all_eq_true.mp h1 j (v4.mpr ⋯);rw[a j d f]at this;rwa[of_decide_eq_true this]
def OH{x y:NK}{a b:Addr}{Q:Bool->Shared->Prop}(hu:A.units+60<cLine)(T:pe P w s.heap x a)(U:pe P w s.heap y b)(h:Q (decide (x=y)) s):wpAny (model P w) A (eqBool (.ref a) (.ref b)) Q E s:=by
 by_cases B:a=b
 .subst B;let⟨o,c,n,R,_,H,I⟩:=T;let⟨o',a0,n',i,_,f,N⟩:=U;rw[R]at i;cases i;rw[H]at f;cases f;rw[I.inj N,vG rfl]at h;rwa[SeqAt.EqAt.same _ P w E Q h]
 .have X:=T.typeIs;have Y:=U.typeIs;let⟨⟨_,oa,_,sa⟩,c,n,R,Z,H,I⟩:=id T;let⟨⟨_,ob,_,sb⟩,d,m,i,C,f,p⟩:=id U;simp only at Z H C f;subst Z H C f;unfold eqBool;erw[wpAny_holding ?_];refine wpAny_ite_split (λz=>ud (by have:=eq_of_beq z;injection this) B) λ_=>?_
  have lx:⇑x=c.size:=I.length.trans Array.length_toList;have ly:⇑y=d.size:=p.length.trans Array.length_toList
  let e:Nat->Bool:=λj=>decide (x[j]?=y[j]?)
  have J:((List.range (min c.size d.size)).all e&&c.size==d.size)=decide (x=y):=by
   rw[<-lx,<-ly];erw[M4 λj K L=>?_]
   show decide (x[j]?=y[j]?)=_;rw[vz K,vz L];rwa[decide_eq_decide.mpr #[vL,congrArg _]]
  erw[ug (wpAny_richCompare_same_room (op:=.Eq) X Y F.slot_tuple_eq (wpAny_call_entry F.slot_tuple_eq X F.entry_tuple_eq ?_ (F.args_tuple_eq_2 _ _)) ⋯)];show wpAny _ _ (isInstance (.ref b) (.type "tuple") >>= _) _ _ s;erw[ug (wpAny_isInstance Y isSubtype_tuple_tuple ?_)];simp only[Bool.not_true,Bool.false_eq_true,if_false];erw[ug (wpAny_tupleItemsOf R rfl ?_)];erw[ug (wpAny_tupleItemsOf i rfl ?_)];erw[ug ?_];erw[wpAny_forIn_list _ (λl r W=>r.1=none/\W=s/\∃k,l=(List.zip c.toList d.toList).drop k/\∀j,j<k->e j=true) _ ?_ ?_ _ _ #[rfl,rfl,0,rfl,λj p=>ud p (Nat.not_lt_zero _)]]
  .rintro⟨u,v⟩ l r W ⟨S,rfl,k,G,O⟩;have D:k<⇑(List.zip c.toList d.toList):=by
    rcases Nat.lt_or_ge k ⇑(List.zip c.toList d.toList) with g | g
    .exact g
    .rw[List.drop_eq_nil_of_le g]at G;cases G
   rw[List.drop_eq_getElem_cons D]at G;injection G with hz1 hz2;rw[length_zip]at D;have l1:k<⇑c.toList:=⋯
   have l2:k<⇑d.toList:=⋯
   rw[List.getElem_zip]at hz1;injection hz1 with eu ev;let⟨K,L,q⟩:=EI (A:=A.in1) (by show A.units+1+1<cLine;lia) I p k l1 l2;have ek:e k=decide (x[k]=y[k]):=by
    show decide (x[k]?=y[k]?)=_;rw[vz K,vz L];rwa[decide_eq_decide.mpr #[vL,congrArg _]]
   rw[eu,ev];erw[ug (q _ _ ?_)];by_cases z:x[k]=y[k]
   .rw[vG z];simp only[Bool.not_true,Bool.false_eq_true,if_false];erw[uf #[rfl,rfl,k+1,hz2,λj p=>?_]];rcases Nat.lt_or_ge j k with g | g
    .exact O j g
    .have:j=k:=⋯
     subst this;rw[ek,vG z]
   .rw[vH z];simp only[Bool.not_false,if_true];have hf:decide (x=y)=false:=vH λg=>z (by subst g;rfl)
    rw[hf]at h;rwa[ug (uf (uf (uf #[_,rfl,(λe=>nomatch e),wpAny_truthy_bool h])))]
  .rintro⟨r1,r2⟩ W ⟨S,rfl,k,G,O⟩;simp only at S;subst S;have M:⇑(List.zip c.toList d.toList)<=k:=by
    simp_all
   rw[length_zip,Array.length_toList,Array.length_toList]at M;have t:(c.size==d.size)=decide (x=y):=by
    rw[<-J,all_eq_true.mpr λj p=>O j (by have:=v4.mp p;lia),Bool.true_and]
   erw[uf #[_,rfl,(λe=>nomatch e),wpAny_truthy_bool ?_]];rw[t];rwa[h]
def HZ{p:List Key}{b:Addr}{n:Nat}{Q:Bool->Shared->Prop}(i:IsTupleKey (cv P w) s.heap p b)(h:Q true s):wpAny (model P w) A (eqIsQuiet (n+1) (.ref b)) Q E s:=by
 have T:=i.typeIs;let⟨o,d,m,l,Z,j,k⟩:=i;unfold eqIsQuiet;erw[ug (wpAny_specialOf T F.slot_tuple_eq.lookup ?_)];show wpAny _ _ (isInstance (.ref b) (.type "tuple") >>= _) _ _ s;erw[ug (wpAny_isInstance T isSubtype_tuple_tuple ?_)];simp only[Bool.not_true,Bool.false_eq_true,if_false];erw[ug (wpAny_seqItems l j ?_)];erw[ug ?_];show wpAny _ _ (forIn d _ _) _ _ s;rw[<-Array.forIn_toList];erw[wpAny_forIn_list _ (λc r g=>r.1=none/\g=s/\∀v∈c,carriedByValue v=true) _ ?_ ?_ _ _ #[rfl,rfl,k.byValue]]
 .rintro v c r g ⟨e,rfl,a⟩;rw[eqIsQuiet_byValue _ (a v vq)];erw[ug (uf ?_)];simp only[Bool.not_true,Bool.false_eq_true,if_false];rwa[uf #[rfl,rfl,λu f=>a u (vp _ f)]]
 .rintro⟨q,t⟩ g ⟨e,rfl,_⟩;simp only at e;subst e;rwa[uf h]
def Md{ks:NK}{a:Addr}{Q:Bool->Shared->Prop}(f:pe P w s.heap ks a)(h:Q true s):wpAny (model P w) A (eqIsQuiet 8 (.ref a)) Q E s:=by
 have T:=f.typeIs;let⟨o,c,m,l,q,i,j⟩:=f;unfold eqIsQuiet;erw[ug (wpAny_specialOf T F.slot_tuple_eq.lookup ?_)];show wpAny _ _ (isInstance (.ref a) (.type "tuple") >>= _) _ _ s;erw[ug (wpAny_isInstance T isSubtype_tuple_tuple ?_)];simp only[Bool.not_true,Bool.false_eq_true,if_false];erw[ug (wpAny_seqItems l i ?_)];erw[ug ?_];show wpAny _ _ (forIn c _ _) _ _ s;rw[<-Array.forIn_toList];erw[wpAny_forIn_list _ (λb r e=>r.1=none/\e=s/\∃g:NK,ip P w s.heap g b) _ ?_ ?_ _ _ #[rfl,rfl,ks,j]]
 .rintro v b r e ⟨d,rfl,g,k⟩;cases k with
  | key z t=>
   rw[eqIsQuiet_byValue _ ((cv P w).byValue _ _ z)];erw[ug (uf ?_)];simp only[Bool.not_true,Bool.false_eq_true,if_false];rwa[uf #[rfl,rfl,_,t]]
  | tup z t=>
   erw[ug (HZ z ?_)];simp only[Bool.not_true,Bool.false_eq_true,if_false];rwa[uf #[rfl,rfl,_,t]]
 .rintro⟨n,p⟩ e ⟨d,rfl,_⟩;simp only at d;subst d;rwa[uf h]
end
noncomputable def fN(P:Program)(w:World):HeapKind P w NK where
 is:=pe P w
 hash:=oB w P
 draws:=mF
 room:=λA=>A.units+60<cLine
 inj:=λhx hy=>by
  let⟨o,its,n,ho,q,hd,hi⟩:=hx;let⟨o',its',n',ho',q,hd',hi'⟩:=hy;rw[ho]at ho';cases ho';rw[hd]at hd';cases hd';rwa[hi.inj hi']
 keeps:=λ{h h' k a d o es ep} x ho hd hs=>by
  let⟨o',its,n,ho',hc,hd',hi⟩:=x;have ne:a≠d:=λz=>by
   lia
  rwa[o',its,n,(hs.2 a ne).trans ho',hc,hd',hi.keeps ho hd hs]
 pyHash:=λhu hk h=>N7 hu hk h
 eqBool:=λhu hx hy h=>OH hu hx hy h
 quiet:=λhk h=>Md hk h
end
section
variable{prog:Program}{w:World}{K:Type}[DecidableEq K]{knd:HeapKind prog w K}{A:Around}{E:Nz}{s:Shared}
def Hu{d a:Addr}{xs:List (K×Addr×Value)}{k:K}{v:Value}{Q:Nz}(q:knd.room A)(b:knd.is s.heap k a)(G:s.heap.DictOfH knd d xs)(hz:⇑xs<=sizeLine)
  (C:∀p,atKey xs k⊂p->Q p.2 {s with toks:=s.toks+knd.draws k})
  (D:atKey xs k=none->∀h',h'.DictOfH knd d (xs++[(k,a,v)])->Heap.SameBut d s.heap h'->Q v {s with heap:=h',toks:=s.toks+knd.draws k}) :
  wpAny (model prog w) A (dictSetDefault d (.ref a) v) Q E s:=by
 let⟨o,B,u,g,F,c,l,h,m⟩:=G;have H:=size_of_entries l;unfold dictSetDefault
 try with_reducible erw[wpAny_holding ?_]
 erw[ug (knd.pyHash q b ?_)];erw[ug (wpAny_dictFind_heap (s:={s with toks:=s.toks+knd.draws k}) q b g c l h m (λt=>?_) λj p n=>?_)]
 .have i:k∉xs.map (·.1):=not_mem_keys_of_get t;refine ug (wpAny_rule (ug (wpAny_updateDictKeys (hz:=⋯) (s:={s with toks:=s.toks+knd.draws k}) g c (uf (D (atKey_none_of_get t) _ #[_,_,u+1,Heap.get?_update_self _ g (Obj.isFreed_of_dict (Obj.data_mapDictKeys c _)),F.mapDictKeys _,Obj.data_mapDictKeys c _,?_,λx f=>?_,?_] (Heap.SameBut.update ..))))))
  .simp[l,entryOfKey]
  .rcases vh.mp f with f | f
   .exact knd.keeps (h x f) g c (Heap.SameBut.update ..)
   .rw[vo.mp f];rwa[knd.keeps b g c (Heap.SameBut.update ..)]
  .rw[vj,nodup_append];erw[m,by simp,λx f y r z=>?_];simp only[map_cons,map_nil,mem_singleton]at r;rwa[i (r▸z▸f)]
 .refine ug (wpAny_dictEntries (s:={s with toks:=s.toks+knd.draws k}) g c ?_);have e:B[j]?⊂(entryOfKey knd (k,p)):=by rw[entry_at l j,n];rfl
  rw[e];rwa[ug (wpAny_rule (uf (C p (atKey_of_get m n))))]
def GF(d a:Addr)(i:(d==sysModules)=false)(v:Value) :
  MeetsIn prog w (Builtin.«dict.setdefault» #[[.ref d,.ref a,v],[]]) (λA R s=>knd.room A.in1/\∃k xs,knd.is s.heap k a/\s.heap.DictOfH knd d xs/\⇑xs<=sizeLine/\
   (∀p,atKey xs k⊂p->R (.ok (.ret p.2)) {s with toks:=s.toks+knd.draws k})/\
   (atKey xs k=none->∀h',h'.DictOfH knd d (xs++[(k,a,v)])->Heap.SameBut d s.heap h'->R (.ok (.ret v)) {s with heap:=h',toks:=s.toks+knd.draws k})):=
 .of_wp λA R s ⟨m,k,xs,b,f,n,g,h⟩=>by
  unfold Builtin.«dict.setdefault»;erw[ug ?_];unfold Builtin.Dict.keyAndDefault;erw[ug (wpAny_notOrdered_dict f.typeIs ?_)];show wpAny _ _ (pure (d,Value.ref a,some v)) _ _ s;erw[uf ?_];show wpAny _ _ (if(d==sysModules)=true then _ else(dictSetDefault d (.ref a) v >>= _)) _ _ s;rw[vc (by rw[i];rwa[vF])];rwa[ug (Hu m b f n (λp l=>uf #[p.2,rfl,g p l]) λj h' c e=>uf #[v,rfl,h j h' c e])]
def fJ(h:Heap)(d:Addr)(es:Array DictEntry)(ep:Nat):Prop:=∃o,h.get? d⊂o/\o.ExactDict/\o.data = .dict es ep
def fJ.typeIs{d:Addr}{es:Array DictEntry}{ep:Nat}(x:fJ s.heap d es ep):s.TypeIs (.ref d) "dict":=let ⟨o,ho,hc,_⟩:=x;#[o,ho,hc.1]
def LF{d:Addr}{es:Array DictEntry}{ep:Nat}{Q:Nz}(f:(d==sysModules)=false)(b:fJ s.heap d es ep)
  (e:Q (.ref s⁻¹) {s with heap:=s.heap.push {cls:=.type "dict_keyiterator",data:=.fields [.ref d,.int 0 0,.int es.size 0,.int ep 0].toArray}}) :
  wpAny (model prog w) A (pyIter (.ref d)) Q E s:=by
 have T:=b.typeIs;let⟨o,c,g,a⟩:=b;erw[wpAny_pyIter_slot T F.slot_dict_iter (wpAny_call_entry F.slot_dict_iter T F.entry_dict_iter ?_ (F.args_dict_iter_1 _))];unfold Builtin.«dict.__iter__»;erw[ug ?_];unfold Builtin.Dict.dictSlotNone;erw[ug (wpAny_notOrdered_dict T ?_)];show wpAny _ _ (pure (Value.ref d)) _ _ s;erw[uf ?_];show wpAny _ _ (Builtin.Dict.showsAll d >>= _) _ _ s;unfold Builtin.Dict.showsAll;rw[vc (by rw[f];rwa[vF])];erw[ug (uf ?_)];erw[ug (wpAny_dictEntries c a ?_)];erw[ug (wpAny_dictEpoch c a ?_)];erw[ug (wpAny_newObj_type (uf #[_,rfl,"dict_keyiterator",_,#[_,Heap.get?_push_size _ rfl,rfl],F.slot_dict_keyiterator_next.lookup,?_]))];simpa [rawInt]using e
def LD{it d:Addr}{i ep:Nat}{es:Array DictEntry}{e:DictEntry}{Q:Option Value->Shared->Prop}(a:s.heap.IsKeyIter it d i es.size ep)(n:fJ s.heap d es ep)(p:es[i]?⊂e)
  (k:∀h',h'.IsKeyIter it d (i+1) es.size ep->Heap.SameBut it s.heap h'->Q (some e.key) {s with heap:=h'}):wpAny (model prog w) A (pyNext (.ref it)) Q E s:=by
 let⟨o,j,l,h⟩:=id a;let⟨q,f,m,c⟩:=n;unfold pyNext;erw[ug (wpAny_attempt (wpAny_callSpecial?_slot (name:=Str.ofString "__next__") a.typeIs F.slot_dict_keyiterator_next (wpAny_call_entry F.slot_dict_keyiterator_next a.typeIs F.entry_dict_keyiterator_next ?_ (F.args_dict_keyiterator_next_1 _))))];erw[ug (uf ?_)];erw[ug ?_];erw[ug ?_]
 first | refine ug (wpAny_typeNameOfWhole_keyiter a.typeIs (uf ?_)) | erw[ug (wpAny_typeNameOf_keyiter a.typeIs (uf ?_))]
 erw[ug (wpAny_fieldsOf j h ?_)];have g:Builtin.Dict_items.ownsTuple "dict_keyiterator"= false:=by decide
 simp only[g,Bool.false_eq_true,if_false];show wpAny _ _ (if(Value.ref d==Value.none)=true then _ else _) _ _ s;rw[vc (show¬((Value.ref d==Value.none)=true)from vF)];erw[ug (uf (ug (wpAny_dictEntries f c ?_)))];rw[vc (by simp)];erw[ug (uf (ug (wpAny_dictEpoch f c ?_)))];rw[vc (by simp)];erw[uf ?_];simp only[show¬((i:Int)<0)from ⋯,if_false,Int.toNat_natCast,p];erw[ug ?_]
 first | refine ug (wpAny_typeNameOfWhole_keyiter a.typeIs (uf ?_)) | erw[ug (wpAny_typeNameOf_keyiter a.typeIs (uf ?_))]
 erw[ug (wpAny_isOneOf_keyiter a.typeIs ?_)];show wpAny _ _ (setField (.ref it) 1 (rawInt ((i:Int)+1)) >>= _) _ _ s;erw[ug (wpAny_setField j h (by simp) ?_)];have b:(s.heap.update it (Obj.mapFields (·.setIfInBounds 1 (rawInt ((i:Int)+1))))).IsKeyIter it d (i+1) es.size ep:=
  #[_,Heap.get?_update_self _ j (Obj.isFreed_of_fields (Obj.data_mapFields h _)),(Obj.cls_mapFields ..).trans l,by rw[Obj.data_mapFields h];simp[rawInt]]
 erw[ug (wpAny_holding ?_)];erw[ug (wpAny_isOneOf_keyiter (s:={s with heap:=s.heap.update it (Obj.mapFields (·.setIfInBounds 1 (rawInt ((i:Int)+1))))}) b.typeIs ?_)];show wpAny _ _ (pure e.key) _ _ _;rwa[uf (uf #[_,rfl,uf (k _ b (Heap.SameBut.update ..))])]
def Me{it d:Addr}{ep:Nat}{es:Array DictEntry}{Q:Option Value->Shared->Prop}(l:A.handled=none)(c:s.heap.IsKeyIter it d es.size es.size ep)(n:fJ s.heap d es ep)
  (j:∀h',Heap.ExtBut it s.heap h'->Q none {s with heap:=h'}):wpAny (model prog w) A (pyNext (.ref it)) Q E s:=by
 let⟨o,i,p,h⟩:=id c;let⟨q,f,k,e⟩:=n;unfold pyNext;erw[ug (wpAny_attempt (wpAny_callSpecial?_slot (name:=Str.ofString "__next__") c.typeIs F.slot_dict_keyiterator_next (wpAny_call_entry F.slot_dict_keyiterator_next c.typeIs F.entry_dict_keyiterator_next ?_ (F.args_dict_keyiterator_next_1 _))))];erw[ug (uf ?_)];erw[ug ?_];erw[ug ?_]
 first | refine ug (wpAny_typeNameOfWhole_keyiter c.typeIs (uf ?_)) | erw[ug (wpAny_typeNameOf_keyiter c.typeIs (uf ?_))]
 erw[ug (wpAny_fieldsOf i h ?_)];have g:Builtin.Dict_items.ownsTuple "dict_keyiterator"= false:=by decide
 simp only[g,Bool.false_eq_true,if_false];show wpAny _ _ (if(Value.ref d==Value.none)=true then _ else _) _ _ s;rw[vc (show¬((Value.ref d==Value.none)=true)from vF)];erw[ug (uf (ug (wpAny_dictEntries f e ?_)))];rw[vc (by simp)];erw[ug (uf (ug (wpAny_dictEpoch f e ?_)))];rw[vc (by simp)];erw[uf ?_];simp only[show¬((es.size:Int)<0)from ⋯,if_false,Int.toNat_natCast,Array.getElem?_eq_none (Nat.le_refl es.size)];erw[ug ?_]
 first | refine ug (wpAny_typeNameOfWhole_keyiter c.typeIs (uf ?_)) | erw[ug (wpAny_typeNameOf_keyiter c.typeIs (uf ?_))]
 show wpAny _ _ (setField (.ref it) 0 .none >>= _) _ _ s;erw[ug (wpAny_setField i h (by simp) ?_)];show wpAny _ _ (newExc (.type "StopIteration") [] >>= _) _ _ _;erw[ug ?_];simp only[newExc,newTuple];erw[ug (wpAny_newObj_type ?_ (by size_fits))];erw[ug (m:=firstArgMember _ _) (wpAny_of_eq (a:=Value.none) (by first | rfl | (simp only[firstArgMember];rfl)) ?_)];erw[wpAny_newObj_type ?_ (by size_fits)];simp only[raiseNew];erw[ug (wpAny_handled ?_)];rw[show A.in1.handled=none from l];erw[ug (uf (wpAny_throw ?_))];erw[ug (wpAny_isInstance (T:="StopIteration") (b:=true) #[_,Heap.get?_push_size _ rfl,rfl] isSubtype_stop ?_)];rwa[uf (j _ (((Heap.SameBut.update ..).extBut.push _).push _))]
def fJ.at'{h h':Heap}{d:Addr}{es:Array DictEntry}{ep:Nat}(x:fJ h d es ep)(e:∀o,h.get? d⊂o->h'.get? d⊂o):fJ h' d es ep:=let ⟨o,ho,r⟩:=x;#[o,e _ ho,r]
def fJ.lt{h:Heap}{d:Addr}{es:Array DictEntry}{ep:Nat}(x:fJ h d es ep):d<h.objs.size:=let ⟨_,ho,_⟩:=x;vI ho
def Ic(q:A.handled=none)(I d:Addr)(m:d≠I)(es:Array DictEntry)(ep:Nat) :
  Walks prog w A I [I,d] [I] es.size (λi v=>∃e,es[i]?⊂e/\v=e.key) (λi h=>h.IsKeyIter I d i es.size ep/\fJ h d es ep) where
 sub:=λb c=>by simp at c;simp[c]
 frame:=λZ Z Z a p=>#[a.1.at λo e=>p I (by simp) o e,a.2.at' λo e=>p d (by simp) o e]
 item:=λi s Q E n a f=>LD a.1 a.2 (Array.getElem?_eq_getElem n) λk g j=>
  f _ k s.toks #[_,Array.getElem?_eq_getElem n,rfl] #[g,a.2.at' λo e=>j.extBut d o m e] λb o c e=>j.extBut b o (λh=>c (by simp[h])) e
 done:=λs Q E a f=>Me q a.1 a.2 λk l=>f k s.toks λb o c e=>l b o (λh=>c (by simp[h])) e
 self:=λZ Z Z Z a f=>wpAny_pyIter_keyiter a.1 f
def Mf{d:Addr}{es:Array DictEntry}{ep:Nat}(lo:(d==sysModules)=false):KdlSrc prog w "dict" d d es.size (λi v=>∃e,es[i]?⊂e/\v=e.key) (λh=>fJ h d es ep) where
 type:=λq a=>a.typeIs
 there:=λq a=>#[a.lt,a.lt]
 keep:=λq q a f=>a.at' λo e=>f d (.inl rfl) o e
 notList:=by decide
 notTuple:=by decide
 hint:=λq q q q a b=>kdl_hint_dict a.typeIs b
 iter:=λq q c a=>#[_,_,(λq q b=>LF lo a b),Ic c _ d (vE a.lt) es ep,#[#[_,Heap.get?_push_size _ rfl,rfl,rfl],a.at' λo e=>vJ _ e]]
end
inductive rS(H:Hp):N4->NK->Prop
 | nil:rS H [] []
 | key {k:Key} {vs:N4} {ks:NK}:rS H vs ks->rS H (kV k::vs) (Sum.inl k::ks)
 | tup {b:Addr} {kk:List Key} {vs:N4} {ks:NK}:H b⊂(.tup (kk.map kV))->rS H vs ks->rS H (.ref b::vs) (Sum.inr kk::ks)
def rR(H:Hp)(b:Addr)(ks:NK):Prop:=∃vs,H b⊂.tup vs/\rS H vs ks
section
variable{P:Program}{w:World}{H:Hp}{h:Heap}
theorem BY(a:fA P w H h):∀{vs:N4} {ks:NK} {us:L9},rS H vs ks->Vals vs us->ip P w h ks us
 | _,_,_,.nil,r=>by cases r;rwa[.nil]
 | _,_,_,.key t,r=>by
  cases r with
  | cons r1 r2=>rwa[.key (Xq (P:=P) (w:=w) r1) (BY a t r2)]
 | _,_,_,.tup e t,r=>by
  cases r with
  | cons r1 r2=>
   cases r1;rwa[.tup (WX a e) (BY a t r2)]
def EZ{b:Addr}{ks:NK}(c:fA P w H h)(x:rR H b ks):pe P w h ks b:=by
 let⟨i,e,n⟩:=x;let⟨q,a,r,o,d,f,m,g⟩:=(show cD P w H h b (.tup i)from c b _ e)
 rwa[o,a.toArray,m,d,f,g,#v[BY c n r]]
end
noncomputable abbrev NE:=NK×Addr×V
noncomputable def mD(P:Program)(w:World)(a:Addr)(xs:List NE):HO:=.ext λh=>⇑xs<=sizeLine/\(a==sysModules)=false/\(xs.map (·.1)).Nodup/\∃ys:List (NK×Addr×Value),
 Paired (λ(p:NE) (q:NK×Addr×Value)=>p.1=q.1/\p.2.1=q.2.1/\RelV p.2.2 q.2.2) xs ys/\∃es ep,fJ h a es ep/\es.toList=ys.map (entryOfKey (fN P w))
section
variable{P:Program}{w:World}{H:Hp}{h:Heap}{a:Addr}{xs:List NE}
def EF(z:⇑xs<=sizeLine)(c:(a==sysModules)=false)(d:(xs.map (·.1)).Nodup){ys:List (NK×Addr×Value)}(r:Paired (λ(p:NE) (q:NK×Addr×Value)=>p.1=q.1/\p.2.1=q.2.1/\RelV p.2.2 q.2.2) xs ys)
  {es:Array DictEntry} {ep:Nat} (b:fJ h a es ep) (e:es.toList=ys.map (entryOfKey (fN P w))):cD P w H h a (mD P w a xs):=by
 erw[#[z,c,d,ys,r,es,ep,b,e],let ⟨o,ho,_⟩:=b;#[o,ho],?_];rintro f g ⟨z,c,d,ys,r,es,ep,b,e⟩ k;rwa[z,c,d,ys,r,es,ep,b.at' k,e]
def lY(xs:List NE)(ys:List (NK×Addr×Value)):Prop:=Paired (λ(p:NE) (q:NK×Addr×Value)=>p.1=q.1/\p.2.1=q.2.1/\RelV p.2.2 q.2.2) xs ys
theorem lY.keys:∀{xs:List NE} {ys:List (NK×Addr×Value)},lY xs ys->ys.map (·.1)=xs.map (·.1)
 | _,_,.nil=>rfl
 | _,_,.cons r t=>by rw[uz,uz,r.1,lY.keys t]
def lY.length{xs:List NE}{ys:List (NK×Addr×Value)}(r:lY xs ys):⇑xs=⇑ys:=by
 have:=congrArg List.length r.keys
 simp_all
theorem lY.snoc{k:NK}{b:Addr}{v:V}{u:Value}(a:RelV v u):∀{xs:List NE} {ys:List (NK×Addr×Value)},lY xs ys->lY (xs++[(k,b,v)]) (ys++[(k,b,u)])
 | _,_,.nil=>.cons #[rfl,rfl,a] .nil
 | _,_,.cons r t=>.cons r (lY.snoc a t)
theorem lY.all{F:NK->Addr->Prop}:∀{xs:List NE} {ys:List (NK×Addr×Value)},lY xs ys->(∀p∈xs,F p.1 p.2.1)->∀q∈ys,F q.1 q.2.1
 | _,_,.nil,_=>λq b=>nomatch b
 | _,_,.cons (a:=x) r t,h=>λq b=>by
  rcases mem_cons.mp b with rfl | b
  .have:=h _ vq;rw[r.1,r.2.1]at this;rwa[this]
  .exact lY.all t (λp c=>h p (vp _ c)) q b
theorem lY.sV{k:NK}:∀{xs:List NE} {ys:List (NK×Addr×Value)},lY xs ys->(∀p,xs.find? (λp=>decide (p.1=k))⊂p->∃u,atKey ys k⊂(p.2.1,u)/\RelV p.2.2 u)/\(xs.find? (λp=>decide (p.1=k))=none->atKey ys k=none)
 | _,_,.nil=>#[λp e=>by simp at e,λj=>rfl]
 | _,_,.cons (a:=x) (b:=y) (l₂:=m) r t=>by
  let⟨d,f⟩:=lY.sV (k:=k) t;by_cases e:x.1=k
  .have c:y.1=k:=r.1▸e;refine#[λp q=>?_,λq=>?_]
   .rw[List.find?_cons,vG e]at q;cases q;erw[y.2.2,?_,r.2.2];unfold atKey;rw[List.find?_cons,vG c,r.2.1];rfl
   simp_all
  .have c:¬y.1=k:=r.1▸e;have z:atKey (y::m) k=atKey m k:=by
    unfold atKey
    simp_all
   erw[λp q=>?_,λq=>?_]
   .rw[List.find?_cons,vH e]at q;rw[z];rwa[d p q]
   .rw[List.find?_cons,vH e]at q;rw[z];rwa[f q]
end
section
variable{X:Cx}
def oS(P:Program)(w:World):TE:=λq H Q=>∀p,H p=none->Q (.ref p) (upd H p (mD P w p []))
def IC{b:Pos}:PE X (.Dict [] [] b) (oS X.prog X.w):=λc s d H Q I h=>
 wpAny_Dict_empty #[.ref s⁻¹,_,I.laid (a:=s⁻¹) (o:=mD X.prog X.w s⁻¹ []) (t':=s.toks) (λj j q=>vJ _ q) (vb _)
  (EF (va _) (beq_eq_false_iff_ne.mpr (Ne.symm (vE I.big))) nodup_nil .nil (es:=#[]) (ep:=0) #[_,Heap.get?_push_size _ rfl,#[rfl,rfl,rfl],rfl] rfl),rfl,h _ (I.cK.fresh (vb _))]
def LG{P:Program}{w:World}{a:St}{H:Hp}{Q:VK}(h:∀p,H p=none->Q (.ref p) (upd H p (mD P w p []))):oS P w a H Q:=h
def Aq{b:Ny}{c:St}{H:Hp}{s:Shared}{a:Addr}{xs:List NE}(I:Inv X b c H s)(e:H a⊂(mD X.prog X.w a xs)):⇑xs<=sizeLine/\(a==sysModules)=false/\(xs.map (·.1)).Nodup/\∃ys,lY xs ys/\∃es ep,fJ s.heap a es ep/\es.toList=ys.map (entryOfKey (fN X.prog X.w)):=
 (show cD X.prog X.w H s.heap a (mD X.prog X.w a xs)from I.cK a _ e).1
def rG(P:Program)(w:World)(to:TE)(t:TA):TE:=λσ H Q=>to σ H λx H1=>∃a xs1,x = .ref a/\H1 a⊂(mD P w a xs1)/\t σ H1 λvs H2=>∃(xs:List NE) (b:Addr) (k:NK) (v:V),vs=[.ref b,v]/\H2 a⊂(mD P w a xs)/\(∀p∈xs,rR H2 p.2.1 p.1)/\rR H2 b k/\⇑xs<sizeLine/\
 (∀p,xs.find? (λp=>decide (p.1=k))⊂p->Q p.2.2 H2)/\(xs.find? (λp=>decide (p.1=k))=none->Q v (upd H2 a (mD P w a (xs++[(k,b,v)]))))
def MU{o e:Expr}{es:Nt}{to:TE}{t:TA}{f c:Pos}(hu:X.A.units+64<cLine)(ho:PE X o to)(ha:PA X (e::es) t)
  (i:attributeBase o "setdefault" X.env (eval o X.env)=eval o X.env:=by rfl)
  (y:((backTo c (starEach (e::es) X.env)).all (λx=>!x.1)&&(backToKw c (keywordEach [] X.env)).all (λx=>x.1.isSome)
   && decide (⇑(e::es)+⇑([]:List Keyword)+(if([]:List Keyword).isEmpty then 0 else 1)<30))=true:=by rfl)
  (l:(f.endLine==c.line)=true:=by rfl) (hs:starEach (e::es) X.env=(false,eval e X.env)::starEach es X.env:=by rfl) (d:(backTo c (starEach es X.env)).any (·.1)=false:=by rfl) :
  PE X (.Call (.Attribute o "setdefault" f) (e::es) [] c) (rG X.prog X.w to t):=by
 intro g s σ H Q I h;erw[wpAny_Call_method_late i y l rfl (cM (ho g s σ H _ I h) λv s1 z_=>?_)];obtain⟨x,H1,W,r1,a,a2,ex,e1,q1⟩:=z_;subst ex;cases r1;let⟨_,_,_,_,_,_,_,C,_⟩:=Aq W e1;erw["dict","dict.setdefault",Az,PySem.F.slot_dict_setdefault,PySem.F.type_dict_setdefault,C.typeIs,λb eb=>?_,?_]
 .cases eb;let⟨ob,h1,h2,_⟩:=C;rwa[ob,h1,h2.2.1]
 have hA:=ha c g s1 σ H1 _ W q1;rw[hs]at hA|-;erw[Calls.callWith_builtin (by show(false||(backTo c (starEach es X.env)).any (·.1))=false;rw[d]<;>rfl) (Calls.evalArgs_plain ?_)];erw[cM hA λus T z_=>?_];obtain⟨vs,H2,w,r2,U,b,k,v,ev,Y,E,nb,z,f1,f2⟩:=z_
 subst ev;cases r2 with
 | cons rb rr=>
  cases rb;let⟨u,rfl,ru⟩:=vals1 rr;let⟨z2,hd,hn,ys,r,J,ep,D,he⟩:=Aq w Y;have T2:=D.typeIs;let⟨o2,P,K,M⟩:=D;have dd:T.heap.DictOfH (fN X.prog X.w) a ys:=#[o2,J,ep,P,K,M,he,λq hq=>r.all (F:=λk b=>pe X.prog X.w T.heap k b) (λp n=>EZ w.cK (E p n)) q hq,by rw[r.keys];rwa[hn]]
  have ln:=⇑r;let⟨Z,g2⟩:=r.sV (k:=k);erw[call_meetsIn PySem.F.slot_dict_setdefault T2 PySem.F.entry_dict_setdefault (PySem.F.args_dict_setdefault_3 _ _ _) (GF (knd:=fN X.prog X.w) a b hd u) #[by show X.A.units+1+60<cLine;lia,k,ys,EZ w.cK nb,dd,⋯,λp n=>?_,λno h' G R=>?_]]
  .cases j:U.find? (λp=>decide (p.1=k))with
   | none=>rw[g2 j]at n;cases n
   | some p'=>
    let⟨u',m,S⟩:=Z p' j;rw[m]at n;cases n;rwa[p'.2.2,H2,w.tok _,S,f1 p' j]
  .have j:U.find? (λp=>decide (p.1=k))=none:=by
    cases j:U.find? (λp=>decide (p.1=k))with
    | none=>rfl
    | some p'=>
     let⟨u',m,_⟩:=Z p' j;rw[m]at no;cases no
   let⟨o3,a1,a0,B,L,N,O,_,A⟩:=G;rw[vj,r.keys]at A;erw[v,_,YT (t':=T.toks+_) w (by rw[Y];rwa[True.intro]) R #[_,B] (EF (by rw[vn,vS];lia) hd (by rw[vj];rwa[A]) (r.snoc ru) #[o3,B,L,N] O),ru,f2 j]
def Mh{P:Program}{w:World}{e:TE}{t:TA}{d:St}{H:Hp}{Q:VK} (h:e d H λx H1=>∃a c,x = .ref a/\H1 a⊂(mD P w a c)/\t d H1 λvs H2=>∃(xs:List NE) (b:Addr) (k:NK) (v:V),vs=[.ref b,v]/\H2 a⊂(mD P w a xs)/\(∀p∈xs,rR H2 p.2.1 p.1)/\rR H2 b k/\⇑xs<sizeLine/\
 (∀p,xs.find? (λp=>decide (p.1=k))⊂p->Q p.2.2 H2)/\(xs.find? (λp=>decide (p.1=k))=none->Q v (upd H2 a (mD P w a (xs++[(k,b,v)]))))):rG P w e t d H Q:=h
def G2:dE X (.builtin "len") (λxs H Q=>∃a ys,xs=[V.ref a]/\H a⊂(mD X.prog X.w a ys)/\Q (.int ⇑ys) H):=by
 intro f s E H xs B Q I r h;let⟨a,ys,rfl,i,q⟩:=h;let⟨u,rfl,w⟩:=vals1 r;cases w;let⟨z,l,A,C,v,j,x,c,n⟩:=Aq I i;have T:=c.typeIs;let⟨o,p,y,b⟩:=c;have t:j.size=⇑ys:=by rw[<-Array.length_toList,n,vt,⇑v]
 have D:=sizeLine_eq;erw[Calls.call_function_entry kind_len plain_len entry_len (args_len1 _) ?_];unfold Builtin.«len»;erw[ug (m:=oneArg "len" _) (uf ?_)];have d:wpAny (model X.prog X.w) X.A.in1 (callSpecial? (.ref a) (Str.ofString "__len__")) (λr g=>r⊂(.int ⇑ys s.toks)/\g={s with toks:=s.toks+1}) X.xe s:=by
  erw[wpAny_callSpecial?_slot (name:=Str.ofString "__len__") T F.slot_dict_len (wpAny_call_entry F.slot_dict_len T F.entry_dict_len ?_ (F.args_dict_len_1 _))];show wpAny _ _ (dictSize a >>= _) _ _ s;unfold dictSize;erw[ug (ug (wpAny_dictEntries p b (uf ?_)))];show wpAny _ _ (Builtin.Dict.pendingCount a >>= _) _ _ s;erw[ug (wpAny_pendingCount_other l ?_)];erw[wpAny_ret_mkInt ?_];rw[Nat.add_zero,t];rwa[rfl,rfl]
 erw[ug (wpAny_mono d (λr g k=>?_) λZ Z e=>e)];let⟨rfl,rfl⟩:=k;show wpAny _ _ _ _ _ {s with toks:=s.toks+1};erw[ug (wpAny_holding (uf ?_))];erw[ug (wpAny_letGo ?_)];show wpAny _ _ (if((⇑ys:Nat):Int)<0 then _ else _) _ _ _;rw[vc ⋯];show wpAny _ _ (if((⇑ys:Nat):Int)>=2^63 then _ else _) _ _ _;rw[vc ⋯];rwa[ug (wpAny_mkInt (uf #[_,rfl,.int ⇑ys,H,I.tok _,#[_,rfl],q]))]
def GK(D:X.calm=true):dE X (.type "list") (λxs H Q=>∃(a:Addr) (ys:List NE),xs=[.ref a]/\H a⊂(mD X.prog X.w a ys)/\∀l,H l=none->Q (.ref l) (upd H l (.lst (ys.map λq=>.ref q.2.1)))):=by
 intro w s R H xs P Q I r h;let⟨a,ys,rfl,B,q⟩:=h;let⟨u,rfl,J⟩:=vals1 r;cases J;let⟨z,E,N,g,k,es,ep,m,o⟩:=Aq I B;have G:es.size=⇑ys:=by rw[<-Array.length_toList,o,vt,⇑k]
 erw[kdl_call (Mf (es:=es) (ep:=ep) E) (I.ok.hd D) m ⋯ λC L b A F M c=>?_]
 have K:Vals (ys.map λq=>.ref q.2.1) b.toList:=D3 (by rw[Array.length_toList,vt,<-G];rwa[c.1]) λj u O=>by
  let⟨e,d,rfl⟩:=c.2 j u (by simp_all);rw[<-Array.getElem?_toList,o,vv]at d;let⟨y,n,rfl⟩:=vg.mp d;have v:j<⇑ys:=by rw[⇑k];rwa[(vx.mp n).1]
  have i:∀{xs:List NE} {g:List (NK×Addr×Value)} {j:Nat} {y:NK×Addr×Value} {x:NE},lY xs g->g[j]?⊂y->xs[j]?⊂x->x.2.1=y.2.1:=by
   intro xs g j y x p
   induction p generalizing j with
   | nil=>intro e;simp at e
   | cons r t ih=>
    cases j with
    | zero=>intro d f;simp at d f;subst d f;rwa[r.2.1]
    | succ j=>intro d f;rwa[ih #v[d] #v[f]]
  erw[.ref ys[j].2.1,by rw[vv,vz v];rfl,?_];rw[i k n (vz v)];rfl
 erw[.ref s⁻¹,_,I.laid (t':=L) F (vb _) (show cD X.prog X.w _ C _ (.lst (ys.map λq=>.ref q.2.1))from#[by rw[vt];rwa[z],b.toList,A,K,by simp_all]),rfl,q _ (I.cK.fresh (vb _))]
def BZ{K:cG}(e:X.K=K)(p:X.A.units+1<cLine):rP X (λx y H Q=>oI K x y H Q\/∃a v,x = .ref a/\du H a y (some v)/\Q v H):=by
 subst e;intro c b d s n H x y v u Q I l m h k;rcases h with h | ⟨a,t,rfl,g,q⟩
 .exact jv c b d s n H x y v u Q I l m h k
 .cases l;have T:=wG I g;unfold subscriptTail;erw[ug ?_];rw[getitemInPython_of_ne T.not_modules];erw[ug (wpAny_specialOf T PySem.F.slot_dict_getitem.lookup ?_)];have f:wpAny (model X.prog X.w) X.A (subscripted b false (.ref a) u) (λr i=>wpAny (model X.prog X.w) X.A (letTemporaryGo c (.ref a) r >>= λZ=>pure r) (EP X d n Q) X.xe i) X.xe s:=by
   rw[k];rwa[wpAny_operating (Xg p I g m λz w o j=>ug (wpAny_letTemporaryGo (uf #[t,H,o,j,q])))]
  first
   | rwa[uf (ug f)]
   | rwa[ug (uf (ug f))]
   | rwa[ug f]
end
theorem rk{P:Program}{w:World}:∀{ks:L5} {us:L9},⇑us=⇑ks->(∀(j:Nat) (u:Value) (k:Int),us[j]?⊂u->ks[j]?⊂k->(cv P w).is (Sum.inl k) u=true)->IntsAre us ks
 | [],[],_,_=>.nil
 | [],_::_,h,_=>by simp at h
 | _::_,[],h,_=>by simp at h
 | k::ks,u::us,h,q=>by
  let⟨t,rfl⟩:=Value.isInt_shape (k:=k) (q 0 u k rfl rfl);rwa[.cons k t (rk (P:=P) (w:=w) #v[h] λj u k b a=>q (j+1) u k #v[b] #v[a])]
def xE{X:Cx}(U:X.calm=true):dE X (.builtin "sorted") (λxs H Q=>∃(d:Addr) (kvs:List (Key×V)) (ks:L5),xs=[.ref d]/\H d⊂.dK kvs/\kvs.map (·.1)=ks.map Sum.inl/\⇑ks<64/\∀(l:Addr) (ms:L5),H l=none->ms.Perm ks->ms.Pairwise (·<=·)->Q (.ref l) (upd H l (.lst (ms.map V.int)))):=by
 intro J s σ H xs us Q I r h;let⟨d,kvs,ks,rfl,O,Z,R,q⟩:=h;let⟨u,rfl,ru⟩:=vals1 r;cases ru;let⟨z1,t,v,K,n⟩:=WL I.cK O;let⟨ep,p⟩:=n.dictAt;have F:⇑kvs=⇑ks:=by have:=congrArg List.length Z;rw[vt,vt]at this;rwa[this]
 have vl:=⇑K;erw[Calls.call_function_entry kind_sorted plain_sorted entry_sorted (args_sorted1 _) ?_];unfold Builtin.«sorted»;erw[ug (m:=checkCount "sorted" 1 1 _) (uf ?_)];erw[ug (kdu_collect (A:=X.A.in1) (kdl_dict (knd:=cv X.prog X.w) (kvs:=v) (ep:=ep) t) (I.ok.hd U) p ⋯ λi tk a c f=>?_)];have B:⇑a.toList=⇑ks:=by rw[Array.length_toList,f.1,<-vl,F]
 have S:IntsAre a.toList ks:=rk (P:=X.prog) (w:=X.w) B λj u k hu Y=>by
  let⟨k',x,e,a0⟩:=f.2 j u (by simp_all);have E:j<⇑kvs:=by rw[F];rwa[(vx.mp Y).1]
  let⟨y,C,N,_⟩:=K.get (vz E);rw[e]at C;cases C;have e4:(kvs.map (·.1))[j]?⊂k':=by rw[vv,vz E];rwa[congrArg some N]
  simp_all
 erw[ug (wpAny_newList ?_ (by rw[B,sizeLine_eq];lia))];have g:(i.push (seqObj "list" a.toList.toArray 0)).get? i.objs.size⊂(seqObj "list" a.toList.toArray 0):=Heap.get?_push_size _ rfl;erw[ug (wpAny_holding (wpAny_call_entry slot_list_sort #[_,g,rfl] entry_list_sort (list_sort_tree g S ⋯ λout ms L z M=>#[_,rfl,?_]) (args_list_sort _)))];erw[uf #[_,rfl,?_]];have ml:⇑ms=⇑ks:=z.length_eq;have D:=I.m9 c;have T:=I.ux c;have k2:∀b o,s.heap.get? b⊂o->(sortedHeap (i.push (seqObj "list" a.toList.toArray 0)) i.objs.size a.toList out).get? b⊂o:=λb o e=>by
  have G:=vI (c b o e);rw[sortedHeap_old (vE G) (by rw[size_push'];rwa[Nat.lt_succ_of_lt G])];rwa[vJ _ (c b o e)]
 let⟨e',W⟩:=sortedHeap_at (out:=out) g;erw[.ref i.objs.size,_,(I.kept (t':=tk) k2).rH D T (show cD X.prog X.w _ _ _ (.lst (ms.map V.int))from#[by simp_all,out.toList,_,Lc L,by rw[Array.toArray_toList];rwa[W]]),rfl,q _ ms D z M]
end L2
namespace Rm
open PySem PySem.Spec PyProof.Rows L2
inductive Gv where
 | oK (r:Bool) (vs:N4) | rise (x h n:V) | again (k x:V) | many (s:Bool) (xs:N4)
noncomputable def lU(H:Hp)(a:Addr):Gv->Prop
 | .oK r vs=>H a⊂(.tup (.str (if r then "ring" else "hold")::vs))
 | .rise x h n=>H a⊂(.tup [.str "raise",x,h,n])
 | .again k x=>H a⊂(.tup [.str "again",k,x])
 | .many s xs=>∃b,H a⊂(.tup [.str (if s then "side" else "row"),.ref b])/\H b⊂.tup xs
def lU.same{H H':Hp}{a:Addr}{g:Gv}(s:cj H H')(h:lU H a g):lU H' a g:=by
 cases g with
 | oK r vs=>rwa[s _ _ h]
 | rise x g n=>rwa[s _ _ h]
 | again k x=>rwa[s _ _ h]
 | many t xs=>let⟨b,c,d⟩:=h;rwa[b,s _ _ c,s _ _ d]
def lU.dU{H H':Hp}{a:Addr}{g:Gv}(s:∀b xs,H b⊂.tup xs->H' b⊂.tup xs)(h:lU H a g):lU H' a g:=by
 cases g with
 | oK r vs=>rwa[s _ _ h]
 | rise x g n=>rwa[s _ _ h]
 | again k x=>rwa[s _ _ h]
 | many t xs=>let⟨b,c,d⟩:=h;rwa[b,s _ _ c,s _ _ d]
def Itm(H:Hp)(l:Addr)(x y:V):Prop:=(∃xs i,H l⊂.lst xs/\x = .int i/\fi xs i⊂y)\/du H l x (some y)
def Ag{K:cG}{H:Hp}{l:Addr}{x y:V}{Q:VK}(h:Itm H l x y)(q:Q y H):oI K (.ref l) x H Q\/∃a v,V.ref l = .ref a/\du H a x (some v)/\Q v H:=by
 rcases h with⟨b,i,e,rfl,h⟩ | h
 .exact .inl #[l,b,i,y,rfl,rfl,cm.of e,h,q]
 .exact .inr #[l,y,rfl,h,q]
def Itm.same{H H':Hp}{l:Addr}{x y:V}(s:cj H H')(h:Itm H l x y):Itm H' l x y:=by
 rcases h with⟨g,i,e,rfl,h⟩ | h
 .exact .inl #[g,i,s _ _ e,rfl,h]
 .refine .inr ?_;rcases h with⟨a,k,e,c,d⟩ | ⟨a,k,b,e,c,d,f⟩
  .exact .inl #[a,k,e.imp (λe=>s _ _ e) λ⟨o,e⟩=>#[o,s _ _ e],c,d]
  .exact .inr #[a,k,b,e.imp (λe=>s _ _ e) λ⟨o,e⟩=>#[o,s _ _ e],c,s _ _ d,f]
noncomputable def mM(H:Hp)(l p:Addr):Gv->Gv->Prop
 | .oK r vs,g=>g = .oK r vs
 | .rise x h n,g=>∃y,Itm H l x y/\g = .rise y h n
 | .again k x,g=>∃y,Itm H p x y/\g = .again k y
 | .many s xs,g=>∃ys,⇑ys=⇑xs/\(∀(i:Nat) (x y:V),xs[i]?⊂x->ys[i]?⊂y->Itm H p x y)/\⇑xs<=8/\g = .many s ys
inductive fP(vs:N4)(H:Hp)(Q:VK)(xk:XK):Prop
 | mk (a l p g g'):vs=[.ref a,.ref l,.ref p]->lU H a g->mM H l p g g'->(∀(b:Addr) (H':Hp),cj H H'->lU H' b g'->Q (.ref b) H')->fP vs H Q xk
noncomputable def Gv.ns:Gv->N4
 | .again _ x=>[x]
 | .many _ xs=>xs
 | _=>[]
inductive fY(vs:N4)(H:Hp)(Q:VK)(xk:XK):Prop
 | mk (a) (g:Gv):vs=[.ref a]->lU H a g->(∀(b:Addr) (H':Hp),cj H H'->H' b⊂.tup g.ns->Q (.ref b) H')->fY vs H Q xk
noncomputable def gF:Fm->Gv
 | .hold n=>.oK false [.int n]
 | .ring x n=>.oK true [.str x,.int n]
 | .rise x h n=>.rise (.str x) (.int h) (.int n)
 | .row ps=>.many false (ps.map V.str)
 | .side ps=>.many true (ps.map V.str)
 | .again k x=>.again (.int k) (.str x)
def kW{H:Hp}{a:Addr}{f:Fm}:cw H a f↔lU H a (gF f):=by
 cases f<;>rwa[Iff.rfl]
inductive Dm where
 | hold (n:Int) | ring (x:Str) (n:Int) | rise (l:Nat) (h n:Int) | row (ps:L6) | side (ps:L6) | again (k:Int) (p:Nat)
 deriving DecidableEq
noncomputable def gD:Dm->Gv
 | .hold n=>.oK false [.int n]
 | .ring x n=>.oK true [.str x,.int n]
 | .rise l h n=>.rise (.int l) (.int h) (.int n)
 | .row ps=>.many false (ps.map vN)
 | .side ps=>.many true (ps.map vN)
 | .again k p=>.again (.int k) (.int p)
noncomputable def Dm.ns:Dm->L6
 | .row ps=>ps
 | .side ps=>ps
 | .again _ p=>[p]
 | _=>[]
def Ow(d:Dm):(gD d).ns=d.ns.map vN:=by cases d<;>rfl
noncomputable def iK(n:Nat):Key:=Sum.inl (n:Int)
noncomputable def kD:Dm->NK
 | .hold n=>[Sum.inl (Sum.inr "hold"),Sum.inl (Sum.inl n)]
 | .ring x n=>[Sum.inl (Sum.inr "ring"),Sum.inl (Sum.inr x),Sum.inl (Sum.inl n)]
 | .rise l h n=>[Sum.inl (Sum.inr "raise"),Sum.inl (iK l),Sum.inl (Sum.inl h),Sum.inl (Sum.inl n)]
 | .row ps=>[Sum.inl (Sum.inr "row"),Sum.inr (ps.map iK)]
 | .side ps=>[Sum.inl (Sum.inr "side"),Sum.inr (ps.map iK)]
 | .again k p=>[Sum.inl (Sum.inr "again"),Sum.inl (Sum.inl k),Sum.inl (iK p)]
theorem A4:∀{a b:L6},a.map iK=b.map iK->a=b
 | [],[],_=>rfl
 | [],_::_,h=>by simp at h
 | _::_,[],h=>by simp at h
 | x::a,y::b,h=>by
  rw[uz,uz]at h;injection h with h1 h2;have:(x:Int)=y:=Sum.inl.inj h1;rw[A4 h2,show x=y by lia]
def zN{x y:Str}{r s:NK}(h:(Sum.inl (Sum.inr x):NI)::r=Sum.inl (Sum.inr y)::s):x=y/\r=s:=by
 injection h with h1 h2;rwa[Sum.inr.inj (Sum.inl.inj h1),h2]
def Ob{d e:Dm}(h:kD d=kD e):d=e:=by
 cases d with
 | hold n=>
  cases e with
  | hold m=>
   have:=(zN h).2;injection this with h1;rw[Sum.inl.inj (Sum.inl.inj h1)]
  | _=>rwa[ud (zN h).1 ∅]
 | ring x n=>
  cases e with
  | ring y m=>
   have:=(zN h).2
   lia
  | _=>rwa[ud (zN h).1 ∅]
 | rise l v n=>
  cases e with
  | rise l' v' m=>
   have:=(zN h).2;injection this with h1 h2;injection h2 with h2 h3;injection h3 with h3;have e:(l:Int)=l':=Sum.inl.inj (Sum.inl.inj h1);rw[Sum.inl.inj (Sum.inl.inj h2),Sum.inl.inj (Sum.inl.inj h3),show l=l' by lia]
  | _=>rwa[ud (zN h).1 ∅]
 | row ps=>
  cases e with
  | row qs=>
   have:=(zN h).2;injection this with h1;rw[A4 (Sum.inr.inj h1)]
  | _=>rwa[ud (zN h).1 ∅]
 | side ps=>
  cases e with
  | side qs=>
   have:=(zN h).2;injection this with h1;rw[A4 (Sum.inr.inj h1)]
  | _=>rwa[ud (zN h).1 ∅]
 | again k p=>
  cases e with
  | again k' p'=>
   have:=(zN h).2;injection this with h1 h2;injection h2 with h2;have e:(p:Int)=p':=Sum.inl.inj (Sum.inl.inj h2);rw[Sum.inl.inj (Sum.inl.inj h1),show p=p' by lia]
  | _=>rwa[ud (zN h).1 ∅]
def D2(ps:L6):(ps.map iK).map kV=ps.map vN:=by rw[v7];rfl
def EM{H:Hp}{a:Addr}{d:Dm}(h:lU H a (gD d)):rR H a (kD d):=by
 cases d with
 | hold n=>rwa[_,h,.key (k:=Sum.inr "hold") (.key (k:=Sum.inl n) .nil)]
 | ring x n=>rwa[_,h,.key (k:=Sum.inr "ring") (.key (k:=Sum.inr x) (.key (k:=Sum.inl n) .nil))]
 | rise l v n=>rwa[_,h,.key (k:=Sum.inr "raise") (.key (k:=Sum.inl (l:Int)) (.key (k:=Sum.inl v) (.key (k:=Sum.inl n) .nil)))]
 | row ps=>let⟨b,c,e⟩:=h;rwa[_,c,.key (k:=Sum.inr "row") (.tup (by rw[D2];rwa[e]) .nil)]
 | side ps=>let⟨b,c,e⟩:=h;rwa[_,c,.key (k:=Sum.inr "side") (.tup (by rw[D2];rwa[e]) .nil)]
 | again k p=>rwa[_,h,.key (k:=Sum.inr "again") (.key (k:=Sum.inl k) (.key (k:=Sum.inl (p:Int)) .nil))]
noncomputable def mX(lx px:L8)(ns:L6):Fm->Dm
 | .hold n=>.hold n
 | .ring x n=>.ring x n
 | .rise x h n=>.rise (cF lx x) h n
 | .row qs=>.row (qs.map λx=>ns∘(cF px x))
 | .side qs=>.side (qs.map λx=>ns∘(cF px x))
 | .again k x=>.again k (ns∘(cF px x))
noncomputable def dC(lx px:L8)(st:List Dm×L6)(p:Str×Fm):List Dm×L6:=
 let d:=mX lx px st.2 p.2
 if d∈st.1 then(st.1,st.2++[st.1.idxOf d])else(st.1++[d],st.2++[⇑st.1])
noncomputable def cA(lx px:L8)(ps:N2):List Dm×L6:=ps.foldl (dC lx px) ([],[])
def qZ(lx px:L8)(ps:N2)(p:Str×Fm):cA lx px (ps++[p])=dC lx px (cA lx px ps) p:=by
 unfold cA;rw[foldl_append];rfl
structure AE(ks:List Dm)(ns:L6)(n:Nat):Prop where
 nd:ks.Nodup
 ln:⇑ns=n
 lk:⇑ks<=n
 lt:∀k∈ns,k<⇑ks
theorem wJ(lx px:L8):∀(n:Nat) (ps:N2),⇑ps=n->AE (cA lx px ps).1 (cA lx px ps).2 n
 | 0,ps,h=>by
  rw[List.length_eq_zero_iff.mp h];rwa[nodup_nil,rfl,vb _,λk h=>nomatch h]
 | n+1,ps,h=>by
  obtain⟨b,p,rfl⟩:∃b p,ps=b++[p]:=#[ps.dropLast,ps.getLast (λz=>by rw[z]at h;cases h),(List.dropLast_concat_getLast _).symm]
  rw[vn,vS]at h;let⟨d,f,e,c⟩:=wJ lx px n b ⋯;rw[qZ];generalize cA lx px b=st at d f e c;unfold dC;dsimp only;split
  .rename_i hd;erw[d,by simp_all,by show ⇑st.1<=n+1;lia,λk a=>?_];rcases vh.mp a with a | a
   .exact c k a
   .rw[vo.mp a];rwa[idxOf_lt_length_of_mem hd]
  .rename_i hd;erw[nodup_append.mpr #[d,by simp,λx g y i z=>hd (by simp_all)],by simp_all,by simp_all,λk a=>?_];show k<⇑(st.1++[_]);rw[vn,vS];rcases vh.mp a with a | a
   .have:=c k a;lia
   .rw[vo.mp a];lia
def ij(H:Hp)(xs:List NE)(ks:List Dm):Prop:=⇑xs=⇑ks/\∀(i:Nat) (d:Dm),ks[i]?⊂d->∃a,xs[i]?⊂(kD d,a,.int i)/\lU H a (gD d)
def ij.dU{H H':Hp}{xs:List NE}{ks:List Dm}(e:ij H xs ks)(s:∀b xs,H b⊂.tup xs->H' b⊂.tup xs):ij H' xs ks:=#[e.1,λi d h=>let ⟨a,h1,h2⟩:=e.2 i d h;#[a,h1,h2.dU s]]
def ij.nat{H:Hp}{xs:List NE}{ks:List Dm}(e:ij H xs ks):∀p∈xs,rR H p.2.1 p.1:=λp g=>by
 let⟨i,f,c⟩:=mem_iff_getElem.mp g;have l:=e.1;let⟨a,b,d⟩:=e.2 i _ (vz ⋯);rw[vz f,c]at b;cases b;rwa[EM d]
def ij.snoc{H:Hp}{xs:List NE}{ks:List Dm}(e:ij H xs ks){a:Addr}{d:Dm}(h:lU H a (gD d)):ij H (xs++[(kD d,a,.int (⇑ks:Nat))]) (ks++[d]):=by
 have l:=e.1;erw[by simp_all,λi f b=>?_];rcases Nat.lt_or_ge i ⇑ks with z | z
 .rw[vB z]at b;let⟨c,j,k⟩:=e.2 i f b;rwa[c,by rw[vB ⋯];rwa[j],k]
 .rw[vC z]at b;have g:i=⇑ks:=by
   have:=(vx.mp b).1;rw[vS]at this;lia
  subst g;rw[uq]at b;cases b;rwa[a,by rw[<-l,vC (vb _),uq];rfl,h]
def ij.found{H:Hp}{xs:List NE}{ks:List Dm}{d:Dm}(e:ij H xs ks)(r:ks.Nodup) :
  (∀p,xs.find? (λp=>decide (p.1=kD d))⊂p->d∈ks/\p.2.2 = .int (ks.idxOf d:Nat))/\(xs.find? (λp=>decide (p.1=kD d))=none->d∉ks):=by
 have l:=e.1;erw[λp j=>?_,λq o=>?_]
 .have k:=List.find?_some j;have m:=List.mem_of_find?_eq_some j;let⟨i,f,c⟩:=mem_iff_getElem.mp m;have g:i<⇑ks:=⋯
  let⟨a,b,n⟩:=e.2 i _ (vz g);rw[vz f,c]at b;cases b;have h:ks[i]=d:=Ob (of_decide_eq_true k);erw[h▸getElem_mem g,?_];show V.int _=V.int _;rw[<-h,r.idxOf_getElem i g]
 .let⟨i,f,c⟩:=mem_iff_getElem.mp o;let⟨a,b,n⟩:=e.2 i _ (vz f);have:=List.find?_eq_none.mp q _ (vm b);rw[c]at this;rwa[this (vG rfl)]
noncomputable def gC(xs:L8)(ns:L6):List (Key×V):=(xs.zip ns).map λq=>(Sum.inr q.1,vN q.2)
def XD{xs:L8}{a:L6}{x:Str}{n:Nat}(h:⇑xs=⇑a):gC (xs++[x]) (a++[n])=gC xs a++[(Sum.inr x,vN n)]:=by
 unfold gC;rw[List.zip_append h,vj];rfl
def Iy{xs:L8}{a:L6}(h:⇑xs=⇑a):⇑(gC xs a)=⇑xs:=by
 unfold gC
 simp_all
def XC{xs:L8}{a:L6}(h:⇑xs=⇑a):(gC xs a).map (·.1)=xs.map Sum.inr:=by
 unfold gC;rw[v7];show(xs.zip a).map (λq=>Sum.inr q.1)=_;rw[show(λq:Str×Nat=>(Sum.inr q.1:Key))=Function.comp Sum.inr Prod.fst from rfl,<-v7,List.map_fst_zip ⋯]
def lI(H:Hp)(as:L7)(ks:List Dm):Prop:=cp (λa d=>lU H a (gD d)) as ks
inductive lT(vs:N4)(H:Hp)(Q:VK)(xk:XK):Prop
 | mk (b pl pp las pas ls) (ps:N2):vs=[.ref b]->cN H b pl pp las pas ls ps->eI ls ps->1<=⇑ps->(∀(t f:Addr) (fas:L7) (H':Hp),cj H H'->H' t⊂(.tup [.ref f,vN ((cA (cb ls) (cb ps) ps).2.getD (⇑ps-1) 0)])->H' f⊂(.lst (fas.map V.ref))->lI H' fas (cA (cb ls) (cb ps) ps).1->Q (.ref t) H')->lT vs H Q xk
def DD{xs:L8}{a:L6}(h:⇑xs=⇑a)(b:xs.Nodup){j:Nat}{x:Str}(e:xs[j]?⊂x):dt (gC xs a) (Sum.inr x)⊂(vN (a∘j)):=by
 have c:=(vx.mp e).1;erw[xw (j:=j) (by rw[XC h];rwa[pairwise_map.mpr (b.imp λh e=>h (Sum.inr.inj e))]) ?_];unfold gC;rw[vv,List.getElem?_zip_eq_some.mpr (show xs[j]?⊂(x,a[j]).1/\a[j]?⊂(x,a[j]).2 from#[e,vz ⋯]),vy,vz ⋯];rfl
def EV{H:Hp}{d:Addr}{px:L8}{a:L6}{i:Nat}(hi:i<=⇑px)(h:⇑a=i)(c:px.Nodup)(e:H d⊂(.dK (gC (px.take i) a))){x:Str}{j:Nat}(f:j<i)(b:px[j]?⊂x):Itm H d (.str x) (vN (a∘(cF px x))):=by
 rw[jZ c b];erw[.inr ?_];have g:=du.k (k:=Sum.inr x) e;rw[DD (j:=j) (by rw[vi];lia) (List.Nodup.sublist (take_sublist _ _) c) (by rw[List.getElem?_take,vd f];rwa[b])]at g;rwa[g]
def IQ{H:Hp}{d l:Addr}{ls:L4}{ps:N2}{e:L6}{i:Nat}{p:Str×Fm}(W:eI ls ps)(o:ps[i]?⊂p)(t:⇑e=i)(C:H d⊂(.dK (gA (cb ls))))(r:H l⊂(.dK (gC ((cb ps).take i) e))) :
  mM H d l (gF p.2) (gD (mX (cb ls) (cb ps) e p.2)):=by
 have G:=(vx.mp o).1;have A:i<=⇑(cb ps):=by rw[cb,vt];lia
 let⟨q,B⟩:=W.f i p o;have b:∀(s:Bool) (a:L8),(∀x∈a,∃j,j<i/\(cb ps)[j]?⊂x)->⇑a<=8->mM H d l (.many s (a.map V.str)) (.many s ((a.map λx=>e∘(cF (cb ps) x)).map vN)):=λs a D F=>by
  erw[_,by rw[vt,vt,vt],λk x y u v=>?_,by simp_all,rfl];rw[vv]at u;let⟨z,w,rfl⟩:=vg.mp u;rw[vv,vv,w]at v;cases v;let⟨j,c,m⟩:=D z (vm w);rwa[EV A t W.pn r c m]
 let⟨E,f⟩:=p;cases f with
 | hold n=>rfl
 | ring x n=>rfl
 | rise x h n=>
  let⟨j,c⟩:=W.r i E x h n o;erw[vN j,.inr ?_,?_]
  .have g:=du.k (k:=Sum.inr x) C;rw[Yx W.ln c]at g;rwa[g]
  .show Gv.rise (.int (cF (cb ls) x:Nat)) _ _=_;rw[jZ W.ln c];rfl
 | row a=>rwa[b false a q B]
 | side a=>rwa[b true a q B]
 | again k x=>
  let⟨j,c,m⟩:=q x vq;rwa[_,EV A t W.pn r c m,rfl]
def EC{xs:N4}{n:Nat}{v:V}(h:1<=n)(e:⇑xs=n)(a:xs[n-1]?⊂v):fi xs (-1)⊂v:=by
 have:xs=xs.take (n-1)++[v]:=by
  rw[<-take_snoc a,show n-1+1=⇑xs by lia,v5]
 rw[this];rwa[CO _ _]
def lI.of{H:Hp}{xs:List NE}{ks:List Dm}(e:ij H xs ks):lI H (xs.map λq=>q.2.1) ks:=by
 erw[by rw[vt];rwa[e.1],λi a d h b=>?_];let⟨c,f,g⟩:=e.2 i d b
 simp_all
inductive Rc(ks:List Dm)(t:Nat):Nat->Prop
 | top:Rc ks t t
 | sub {y x:Nat}:Rc ks t y->x∈(ks.getD y (.hold 0)).ns->Rc ks t x
structure pS(ks:List Dm):Prop where
 lt:∀(i:Nat) (d:Dm),ks[i]?⊂d->∀j∈d.ns,j<i
 l8:∀d∈ks,⇑d.ns<=8
def pS.get{ks:List Dm}(D:pS ks){i j:Nat}(h:j∈(ks.getD i (.hold 0)).ns):j<i/\i<⇑ks:=by
 rw[vy]at h;cases e:ks[i]? with
 | none=>rw[e]at h;rwa[nomatch h]
 | some d=>rw[e]at h;rwa[D.lt i d e j h,(vx.mp e).1]
def Rc.le{ks:List Dm}{t x:Nat}(D:pS ks)(h:Rc ks t x):x<=t:=by
 induction h with
 | top=>rwa[vb _]
 | sub _ hm ih=>have:=(D.get hm).1;lia
def Fv(lx px:L8)(a:L6)(f:Fm):(mX lx px a f).ns=f.ns.map λx=>a∘(cF px x):=by cases f<;>rfl
theorem EJ{ls:L4}{ps:N2}(W:eI ls ps):∀n,n<=⇑ps->pS (cA (cb ls) (cb ps) (ps.take n)).1
 | 0,_=>#[λi d h=>by simp[cA]at h,λd h=>by simp[cA]at h]
 | n+1,hn=>by
  have g:ps[n]?⊂ps[n]:=vz hn;let⟨f,e⟩:=EJ W n ⋯;have M:=wJ (cb ls) (cb ps) n (ps.take n) (by rw[vi];lia);rw[take_snoc g,qZ];generalize cA (cb ls) (cb ps) (ps.take n)=st at f e M;let⟨q,p⟩:=W.f n _ g;unfold dC;dsimp only;split
  .exact#[f,e]
  .refine#[λi d h j b=>?_,λd a=>?_]
   .rcases Nat.lt_or_ge i ⇑st.1 with z | z
    .rw[vB z]at h;rwa[f i d h j b]
    .rw[vC z]at h;have l:i-⇑st.1=0:=by
      have:=(vx.mp h).1;rw[vS]at this;lia
     rw[l]at h;cases h;rw[Fv]at b;let⟨x,o,rfl⟩:=vK.mp b;let⟨k,c,m⟩:=q x o;rw[jZ W.pn m,vy,vz (by rw[M.ln];rwa[c])];have:=M.lt _ (getElem_mem (by rw[M.ln];rwa[c]):st.2[k]'(by rw[M.ln];rwa[c])∈st.2);show st.2[k]'_<i;lia
   .rcases vh.mp a with a | a
    .exact e d a
    .rw[vo.mp a,Fv,vt];rwa[p]
noncomputable def lR(S:L6)(x:Nat):L6:=if x∈S then S else S++[x]
noncomputable def lN(S xs:L6):L6:=xs.foldl lR S
def IV{S:L6}{x y:Nat}:y∈lR S x↔y∈S\/y=x:=by
 unfold lR;split
 .rename_i h;rwa[.inl,λz=>z.elim id λe=>e▸h]
 .simp
theorem Zw:∀{xs S:L6} {y:Nat},y∈lN S xs↔y∈S\/y∈xs
 | [],S,y=>by simp[lN]
 | x::xs,S,y=>by
  show y∈lN (lR S x) xs↔_;rw[Zw,IV,mem_cons,or_assoc]
def MI{S:L6}(c:S.Nodup)(x:Nat):(lR S x).Nodup:=by
 unfold lR;split
 .exact c
 .rename_i h;rwa[nodup_append.mpr #[c,by simp,λa d b e z=>h (by rw[<-vo.mp e,<-z];rwa[d])]]
def GY(S xs:L6)(x:Nat):lN S (xs++[x])=lR (lN S xs) x:=by
 unfold lN;rw[foldl_append];rfl
def KySet(kvs:List (Key×V))(S:L6):Prop:=kvs.map (·.1)=S.map iK/\S.Nodup
def BW{a b:Nat}(h:iK a=iK b):a=b:=by
 have:(a:Int)=b:=Sum.inl.inj h;lia
def KySet.mem{kvs:List (Key×V)}{S:L6}(h:KySet kvs S){x:Nat}:(dt kvs (iK x)).isSome=decide (x∈S):=by
 have e:iK x∈kvs.map (·.1)↔x∈S:=by
  rw[h.1];rwa[λz=>let ⟨y,hy,e⟩:=vK.mp z;(BW e)▸hy,λz=>vK.mpr #[x,z,rfl]]
 cases v:dt kvs (iK x)with
 | none=>rwa[(vH λz=>Lb v (e.mpr z)).symm]
 | some y=>rwa[(vG (e.mp (MA v))).symm]
def KySet.put{kvs:List (Key×V)}{S:L6}(h:KySet kvs S)(x:Nat)(v:V):KySet (putK kvs (iK x) v) (lR S x):=by
 erw[?_,MI h.2 x];have m:=h.mem (x:=x);unfold putK lR;rw[ZH,m];by_cases z:x∈S
 .rw[vG z,vd rfl,vd z,v7,<-h.1];refine map_congr_left λq j=>?_
  show(if q.1=iK x then(q.1,v)else q).1=q.1;split<;>rfl
 .rw[vH z,vc vF,vc z,vj,vj,h.1];rfl
def KySet.len{kvs:List (Key×V)}{S:L6}(h:KySet kvs S):⇑kvs=⇑S:=by
 have:=congrArg List.length h.1
 simp_all
theorem D0{d:Type}[DecidableEq d]:∀{l m:List d},l.Nodup->(∀x∈l,x∈m)->⇑l<=⇑m
 | [],m,_,_=>va _
 | a::l,m,nd,h=>by
  rw[um]at nd;have b:=h a vq;have:=D0 (l:=l) (m:=m.erase a) nd.2 λx c=>(List.mem_erase_of_ne (λz:x=a=>nd.1 (by rw[<-z];rwa[c]))).mpr (h x (vp _ c))
  rw[List.length_erase_of_mem b]at this;have:=List.length_pos_of_mem b;rw[vQ];lia
def Bi{S:L6}{n:Nat}(b:S.Nodup)(h:∀x∈S,x<n):⇑S<=n:=by
 have:=D0 (m:=List.range n) b λx a=>v4.mpr (h x a)
 simp_all
structure lH(ks:List Dm)(t i:Nat)(S:L6):Prop where
 rc:∀x∈S,Rc ks t x
 tp:t∈S
 cl:∀y∈S,t<y+i->∀j∈(ks.getD y (.hold 0)).ns,j∈S
def lH.all{ks:List Dm}{t:Nat}{S:L6}(c:lH ks t (t+1) S){x:Nat}:x∈S↔Rc ks t x:=by
 erw[c.rc x,λh=>?_]
 induction h with
 | top=>rwa[c.tp]
 | sub _ hm ih=>rwa[c.cl _ ih ⋯ _ hm]
def lH.yes{ks:List Dm}{t i y:Nat}{S:L6}(D:pS ks)(c:lH ks t i S)(d:y∈S)(e:y+i=t):lH ks t (i+1) (lN S (ks.getD y (.hold 0)).ns):=by
 erw[λx b=>?_,Zw.mpr (.inl c.tp),λz f k j a=>?_]
 .rcases Zw.mp b with h | h
  .exact c.rc x h
  .exact .sub (c.rc y d) h
 .rcases Zw.mp f with h | h
  .by_cases g:z=y
   .subst g;rwa[Zw.mpr (.inr a)]
   .exact Zw.mpr (.inl (c.cl z h ⋯ j a))
  .have:=(D.get h).1;lia
def lH.no{ks:List Dm}{t i y:Nat}{S:L6}(c:lH ks t i S)(d:y∉S)(e:y+i=t):lH ks t (i+1) S:=
 #[c.rc,c.tp,λz a f j b=>c.cl z a (by have:z≠y:=λe=>d (e▸a);lia) j b]
theorem Eo:∀{ms:L5},(∀m∈ms,0<=m)->∃a:L6,ms=a.map (λn:Nat=>(n:Int))
 | [],_=>#[[],rfl]
 | m::ms,h=>by
  let⟨a,e⟩:=Eo (ms:=ms) λx b=>h x (vp _ b)
  have:=h m vq;rwa[m.toNat::a,by rw[uz,<-e,show((m.toNat:Nat):Int)=m by lia]]
def Gj{ms:L5}{S:L6}(p:ms.Perm (S.map λn:Nat=>(n:Int)))(o:ms.Pairwise (·<=·))(i:S.Nodup):∃a:L6,ms.map V.int=a.map vN/\a.Pairwise (· < ·)/\∀x,x∈a↔x∈S:=by
 let⟨a,rfl⟩:=Eo (ms:=ms) λm g=>by
  let⟨n,q,rfl⟩:=vK.mp (p.mem_iff.mp g);rwa[Int.natCast_nonneg n]
 have c:∀x,x∈a↔x∈S:=λx=>by
  constructor
  .intro h;let⟨y,b,e⟩:=vK.mp (p.mem_iff.mp (vK.mpr #[x,h,rfl]));have:y=x:=⋯
   rwa[this▸b]
  .intro h;let⟨y,b,e⟩:=vK.mp (p.mem_iff.mpr (vK.mpr #[x,h,rfl]));have:y=x:=⋯
   rwa[this▸b]
 have d:(S.map λn:Nat=>(n:Int)).Nodup:=pairwise_map.mpr (i.imp λh e=>h ⋯);have f:=pairwise_map.mp (p.nodup_iff.mpr d);erw[a,by rw[v7];rfl,?_,c];rwa[((pairwise_map.mp o).and f).imp λ⟨j,k⟩=>⋯]
inductive lS(vs:N4)(H:Hp)(Q:VK)(xk:XK):Prop
 | mk (f) (fas:L7) (ks:List Dm) (t):vs=[.ref f,vN t]->H f⊂(.lst (fas.map V.ref))->lI H fas ks->pS ks->t<⇑ks->⇑ks<=61->(∀(l:Addr) (ms:L6) (H':Hp),cj H H'->H l=none->H' l⊂(.lst (ms.map vN))->ms.Pairwise (· < ·)->(∀x,x∈ms↔Rc ks t x)->Q (.ref l) H')->lS vs H Q xk
noncomputable def sy(P:Nat->Nat):Dm->Dm
 | .row ps=>.row (ps.map P)
 | .side ps=>.side (ps.map P)
 | .again k p=>.again k (P p)
 | d=>d
noncomputable def de(ks:List Dm)(ms:L6):List Dm:=ms.map λk=>sy (λn=>ms.idxOf n) (ks.getD k (.hold 0))
def rQ(ks:List Dm)(n:Nat):Prop:=∀d∈ks,∀l h b,d = .rise l h b->l<n
theorem Fo{ls:L4}{ps:N2}(W:eI ls ps):∀n,n<=⇑ps->rQ (cA (cb ls) (cb ps) (ps.take n)).1 ⇑ls
 | 0,_=>λd h=>by simp[cA]at h
 | n+1,hn=>by
  have g:ps[n]?⊂ps[n]:=vz hn;have i:=Fo W n ⋯;rw[take_snoc g,qZ];generalize cA (cb ls) (cb ps) (ps.take n)=st at i;unfold dC;dsimp only;split
  .exact i
  .intro d a l h b e;rcases vh.mp a with a | a
   .exact i d a l h b e
   .rw[vo.mp a]at e;generalize r:ps[n]=p at e g;let⟨q,f⟩:=p;cases f with
    | rise x v m=>
     let⟨j,o⟩:=W.r n q x v m g;have c:(Dm.rise (cF (cb ls) x) v m) = .rise l h b:=e;injection c with c;rw[<-c,jZ W.ln o];have:=(vx.mp o).1;rw[cb,vt]at this;rwa[this]
    | hold n=>cases e
    | ring x n=>cases e
    | row qs=>cases e
    | side qs=>cases e
    | again k x=>cases e
noncomputable def ir(ms:L6):List (Key×V):=ms.zipIdx.map λp=>(iK p.1,vN p.2)
def HN(ms:L6)(m:Nat):ir (ms++[m])=ir ms++[(iK m,vN ⇑ms)]:=by
 unfold ir;rw[List.zipIdx_append,vj];simp
def Iu(ms:L6):⇑(ir ms)=⇑ms:=by simp[ir]
def XA(ms:L6):(ir ms).map (·.1)=ms.map iK:=by
 unfold ir;rw[v7];have e:∀(k:Nat) (a:L6),(a.zipIdx k).map (Function.comp (λx=>x.1) λp:Nat×Nat=>(iK p.1,vN p.2))=a.map iK:=λk a=>by
  induction a generalizing k with
  | nil=>rfl
  | cons x r ih=>simp_all
 rwa[e 0 ms]
def Iv{ms:L6}(a:ms.Nodup){m:Nat}(h:m∈ms):dt (ir ms) (iK m)⊂(vN (ms.idxOf m)):=by
 erw[xw (j:=ms.idxOf m) (by rw[XA];rwa[pairwise_map.mpr (a.imp λh e=>h (BW e))]) ?_];unfold ir;have b:=idxOf_lt_length_of_mem h
 simp_all
def Cc{ms:L6}(h:ms.Pairwise (· < ·)):ms.Nodup:=h.imp λh=>vE h
def NF{H:Hp}{l an:Addr}{n:Nat}{ms:L6}{d:Dm}(o:H l⊂(.lst ((List.range n).map vN)))(m:H an⊂(.dK (ir ms)))(C:ms.Nodup)(t:∀k h b,d = .rise k h b->k<n)(v:∀j∈d.ns,j∈ms)(e:⇑d.ns<=8) :
  mM H l an (gD d) (gD (sy (λn=>ms.idxOf n) d)):=by
 have i:∀j∈d.ns,Itm H an (vN j) (vN (ms.idxOf j)):=λj q=>by
  erw[.inr ?_];have g:=du.k (k:=iK j) m;rw[Iv C (v j q)]at g;rwa[g]
 have c:∀(s:Bool) (a:L6),(∀j∈a,j∈d.ns)->⇑a<=8->mM H l an (.many s (a.map vN)) (.many s ((a.map λn=>ms.idxOf n).map vN)):=λs a w e=>by
  erw[_,by simp_all,λk x y A f=>?_,by simp_all,rfl];let⟨z,B,rfl,u⟩:=tV A;rw[vv,vv,B]at f;cases f;rwa[i z (w z u)]
 cases d with
 | hold n=>rfl
 | ring x n=>rfl
 | rise k h b=>
  have r:=t k h b rfl;rwa[.int (k:Nat),.inl #[_,_,o,rfl,L2.jV (j:=k) (by rw[vv,List.getElem?_range r];rfl)],rfl]
 | row a=>rwa[c false a (λj h=>h) e]
 | side a=>rwa[c true a (λj h=>h) e]
 | again k p=>rwa[_,i p vq,rfl]
noncomputable def iw(ls:L4)(ps:N2):Nat:=(cA (cb ls) (cb ps) ps).2.getD (⇑ps-1) 0
noncomputable def cW(ls:L4)(ps:N2):List Dm:=(cA (cb ls) (cb ps) ps).1
def Kept(ls:L4)(ps:N2)(ms:L6):Prop:=ms.Pairwise (· < ·)/\∀x,x∈ms↔Rc (cW ls ps) (iw ls ps) x
inductive iP(vs:N4)(H:Hp)(Q:VK)(xk:XK):Prop
 | mk (b pl pp) (las:L7) (pas ls) (ps:N2):vs=[.ref b]->cN H b pl pp las pas ls ps->eI ls ps->1<=⇑ps->(∀(t l f:Addr) (das:L7) (ms:L6) (H':Hp),cj H H'->H' t⊂(.tup [.ref l,.ref f])->H' l⊂(.lst (las.map V.ref))->H' f⊂(.lst (das.map V.ref))->H l=none->H f=none->l≠f->lI H' das (de (cW ls ps) ms)->Kept ls ps ms->Q (.ref t) H')->iP vs H Q xk
structure gy(ls:L4)(ps:N2):Prop where
 dw:pS (cW ls ps)
 lm:rQ (cW ls ps) ⇑ls
 nd:(cW ls ps).Nodup
 se:⇑(cW ls ps)<=61
 tp:iw ls ps<⇑(cW ls ps)
def Bf{ls:L4}{ps:N2}(W:eI ls ps)(a:1<=⇑ps):gy ls ps:=by
 have M:=wJ (cb ls) (cb ps) ⇑ps ps rfl;have d:=EJ W ⇑ps (vb _);have l:=Fo W ⇑ps (vb _);rw[v5]at d l;erw[d,l,M.nd,vW M.lk W.nI,M.lt _ ?_];unfold iw;rw[vy,vz (by rw[M.ln];lia)];rwa[getElem_mem _]
def Kept.lt{ls:L4}{ps:N2}{ms:L6}(K:Kept ls ps ms)(O:gy ls ps){x:Nat}(h:x∈ms):x<=iw ls ps:=((K.2 x).mp h).le O.dw
def Kept.len{ls:L4}{ps:N2}{ms:L6}(K:Kept ls ps ms)(O:gy ls ps):⇑ms<=61:=by
 have:=Bi (n:=iw ls ps+1) (Cc K.1) λx a=>by have:=K.lt O a;lia
 have:=O.tp;have:=O.se;lia
def Kept.sub{ls:L4}{ps:N2}{ms:L6}(K:Kept ls ps ms){x j:Nat}(h:x∈ms)(a:j∈((cW ls ps).getD x (.hold 0)).ns):j∈ms:=(K.2 j).mpr (.sub ((K.2 x).mp h) a)
def Mu{lx px:L8}{st:List Dm×L6}{p:Str×Fm}:∃j,(dC lx px st p).2=st.2++[j]/\(dC lx px st p).1[j]?⊂(mX lx px st.2 p.2)/\∀m,m<j->(dC lx px st p).1[m]?≠some (mX lx px st.2 p.2):=by
 unfold dC;dsimp only;split
 .rename_i hd;refine#[_,rfl,?_,λm a e=>?_]
  .have b:=idxOf_lt_length_of_mem hd;rw[vz b,getElem_idxOf b]
  .let⟨d,c⟩:=vx.mp e;have:=List.not_of_lt_findIdx (p:=(· == mX lx px st.2 p.2)) (xs:=st.1) a;rw[c]at this;simp at this
 .rename_i hd;erw[_,rfl,by rw[vC (vb _),uq];rfl,λm a e=>hd ?_];rw[vB a]at e;rwa[vm e]
def BX{ms:L6}{x:Nat}(h:x∈ms):ms[ms.idxOf x]?⊂x/\∀m,m<ms.idxOf x->ms[m]?≠some x:=by
 erw[?_,λm c e=>?_]
 .have a:=idxOf_lt_length_of_mem h;rw[vz a,getElem_idxOf a]
 .let⟨d,b⟩:=vx.mp e;have:=List.not_of_lt_findIdx (p:=(· == x)) (xs:=ms) c;rw[b]at this;simp at this
def Ar(P:Nat->Nat)(d:Dm):(sy P d).ns=d.ns.map P:=by cases d<;>rfl
def LZ{ls:L4}{ps:N2}{ms:L6}(O:gy ls ps)(K:Kept ls ps ms):∀d∈de (cW ls ps) ms,⇑d.ns<=8:=λd a=>by
 let⟨k,b,rfl⟩:=vK.mp a;rw[Ar,vt];have:=K.lt O b;have:=O.tp;rw[vy,vz ⋯];rwa[O.dw.l8 _ (getElem_mem _)]
noncomputable def iz(n:Nat):Str:=if n<26 then⟨#[97+n]⟩else⟨[97+n/26,97+n%26].toArray⟩
def Dp:Sp:=λvs H Q q=>∃n:Nat,vs=[.int (n:Nat)]/\n<676/\Q (.str (iz n)) H
noncomputable def pX(lx:L8):Dm->Fm
 | .hold n=>.hold n
 | .ring x n=>.ring x n
 | .rise l h n=>.rise (lx.getD l ⟨#[]⟩) h n
 | .row ps=>.row (ps.map iz)
 | .side ps=>.side (ps.map iz)
 | .again k p=>.again k (iz p)
noncomputable def gN(ls:L4)(ks:List Dm):N2:=(List.range ⇑ks).map λi=>(iz i,pX (cb ls) (ks.getD i (.hold 0)))
def yF(ls:L4)(ks:List Dm):⇑(gN ls ks)=⇑ks:=by unfold gN;rw[vt,length_range]
def Bu{ls:L4}{ks:List Dm}{i:Nat}{d:Dm}(h:ks[i]?⊂d):(gN ls ks)[i]?⊂(iz i,pX (cb ls) d):=by
 unfold gN;rw[vv,List.getElem?_range (vx.mp h).1];show some (iz i,pX (cb ls) (ks.getD i _))=_;rw[vy,h];rfl
structure mI(ls:L4)(ks:List Dm):Prop where
 dw:pS ks
 lm:rQ ks ⇑ls
 se:⇑ks<=61
 l8:⇑ls<=8
def M9{H:Hp}{l p:Addr}{ls:L4}{d:Dm}{n:Nat}(o:H l⊂(.lst ((cb ls).map V.str)))(ep:H p⊂(.lst ((List.range n).map λi=>V.str (iz i))))(t:∀k h b,d = .rise k h b->k<⇑ls)(v:∀j∈d.ns,j<n)(e:⇑d.ns<=8) :
  mM H l p (gD d) (gF (pX (cb ls) d)):=by
 have m:∀j∈d.ns,Itm H p (vN j) (.str (iz j)):=λj q=>.inl #[_,_,ep,rfl,L2.jV (j:=j) (by rw[vv,List.getElem?_range (v j q)];rfl)]
 have c:∀(s:Bool) (a:L6),(∀j∈a,j∈d.ns)->⇑a<=8->mM H l p (.many s (a.map vN)) (.many s ((a.map iz).map V.str)):=λs a w e=>by
  erw[_,by simp_all,λk x y A g=>?_,by simp_all,rfl];let⟨z,B,rfl,u⟩:=tV A;rw[vv,vv,B]at g;cases g;rwa[m z (w z u)]
 cases d with
 | hold n=>rfl
 | ring x n=>rfl
 | rise k h b=>
  have r:=t k h b rfl;have f:k<⇑(cb ls):=by rw[cb,vt];rwa[r]
  erw[.str ((cb ls).getD k ⟨#[]⟩),.inl #[_,_,o,rfl,L2.jV (j:=k) ?_],rfl];rw[vv,vy,vz f];rfl
 | row a=>rwa[c false a (λj h=>h) e]
 | side a=>rwa[c true a (λj h=>h) e]
 | again k p=>rwa[_,m p vq,rfl]
inductive g9(vs:N4)(H:Hp)(Q:VK)(xk:XK):Prop
 | mk (bx l f) (las das:L7) (ls ks):vs=[.ref bx]->H bx⊂(.tup [.ref l,.ref f])->H l⊂(.lst (las.map V.ref))->cp (fI H) las ls->H f⊂(.lst (das.map V.ref))->lI H das ks->mI ls ks->(∀(b pl pp:Addr) (pas:L7) (H':Hp),cj H H'->cN H' b pl pp las pas ls (gN ls ks)->H pl=none->H pp=none->pl≠pp->Q (.ref b) H')->g9 vs H Q xk
def N8{ms:L6}(h:ms.Pairwise (· < ·)){i n m:Nat}(hi:ms[i]?⊂m)(f:n∈ms)(d:n<m):ms.idxOf n<i:=by
 have b:=idxOf_lt_length_of_mem f;have e:=getElem_idxOf b;let⟨c,a⟩:=vx.mp hi;rcases Nat.lt_or_ge (ms.idxOf n) i with z | z
 .exact z
 .rcases Nat.lt_or_ge i (ms.idxOf n)with w | w
  .have:=pairwise_iff_getElem.mp h i _ c b w;rw[a,e]at this;lia
  .have:i=ms.idxOf n:=⋯
   subst this;rw[e]at a;lia
def Bc{ks:List Dm}{ms:L6}{i m:Nat}(h:ms[i]?⊂m):(de ks ms)[i]?⊂(sy (λn=>ms.idxOf n) (ks.getD m (.hold 0))):=by
 unfold de;rw[vv,h];rfl
def WW(ks:List Dm)(ms:L6):⇑(de ks ms)=⇑ms:=vt _
def Ef{ls:L4}{ps:N2}{ms:L6}(O:gy ls ps)(r:⇑ls<=8)(K:Kept ls ps ms):mI ls (de (cW ls ps) ms):=by
 erw[#[λi d c j g=>?_,LZ O K],λd c l h b e=>?_,by rw[WW];rwa[K.len O],r]
 .have f:=(vx.mp c).1;rw[WW]at f;have m:ms[i]?⊂ms[i]:=vz f;rw[Bc m]at c;cases c;rw[Ar]at g;let⟨n,o,rfl⟩:=vK.mp g;rwa[N8 K.1 m (K.sub (getElem_mem f) o) (O.dw.get o).1]
 .let⟨k,q,rfl⟩:=vK.mp c;have:=K.lt O q;have:=O.tp;have p:(cW ls ps).getD k (.hold 0)=(cW ls ps)[k]:=by rw[vy,vz ⋯];rfl
  rw[p]at e;have a:(cW ls ps)[k]∈cW ls ps:=getElem_mem _;generalize(cW ls ps)[k]=d' at e a;erw[O.lm d' a l h b ?_];cases d'<;>first | exact e | cases e
def Bt(lx:L8)(d:Dm):(pX lx d).ns=d.ns.map iz:=by cases d<;>rfl
def Rc.inv{ks:List Dm}{t x:Nat}(h:Rc ks t x):x=t\/∃y,Rc ks t y/\x∈(ks.getD y (.hold 0)).ns:=by
 cases h with
 | top=>rwa[.inl rfl]
 | sub h1 h2=>rwa[.inr #[_,h1,h2]]
section
variable{ls:L4}{ps:N2}{ms:L6}
def Kept.refs(K:Kept ls ps ms)(O:gy ls ps){x:Nat}{d:Dm}(a:x∈ms)(b:(cW ls ps)[x]?⊂d):∀j∈d.ns,j∈ms:=λj c=>K.sub a (by simp_all)
def Kept.named(K:Kept ls ps ms)(O:gy ls ps):(∃c,ms[c]?⊂(iw ls ps)/\c+1=⇑ms)/\∀j,j+1<⇑ms->∃(i:Nat) (d:Dm),(de (cW ls ps) ms)[i]?⊂d/\j∈d.ns:=by
 have g:iw ls ps∈ms:=(K.2 _).mpr .top;have a:ms.idxOf (iw ls ps)+1=⇑ms:=by
  have f:=idxOf_lt_length_of_mem g;have h:=getElem_idxOf f;rcases Nat.lt_or_ge (ms.idxOf (iw ls ps)+1) ⇑ms with z | z
  .have:=pairwise_iff_getElem.mp K.1 (ms.idxOf (iw ls ps)) (ms.idxOf (iw ls ps)+1) f z ⋯;have:=K.lt O (getElem_mem z);rw[h]at *;lia
  .lia
 erw[#[_,(BX g).1,a],λj p=>?_];have k:ms[j]?⊂ms[j]:=vz ⋯;have l:ms[j]∈ms:=getElem_mem _;have b:ms.idxOf ms[j]=j:=(Cc K.1).idxOf_getElem j ⋯;rcases((K.2 _).mp l).inv with e | ⟨y,n,m⟩
 .rw[e]at b;lia
 .have o:=(K.2 y).mpr n;erw[_,_,Bc (BX o).1,?_];rw[Ar];rwa[vK.mpr #[_,m,b]]
end
def LR{lx px:L8}{st:List Dm×L6}{p:Str×Fm}:∃r,(dC lx px st p).1=st.1++r:=by
 unfold dC;dsimp only;split
 .exact#[[],(append_nil _).symm]
 .exact#[_,rfl]
theorem EK(lx px:L8)(ps:N2)(n:Nat):∀k,∃r,(cA lx px (ps.take (n+k))).1=(cA lx px (ps.take n)).1++r
 | 0=>#[[],(append_nil _).symm]
 | k+1=>by
  let⟨r,h⟩:=EK lx px ps n k;rcases Nat.lt_or_ge (n+k) ⇑ps with z | z
  .rw[show n+(k+1)=(n+k)+1 by lia,take_snoc (vz z),qZ];let⟨b,a⟩:=LR (lx:=lx) (px:=px) (st:=cA lx px (ps.take (n+k))) (p:=ps[n+k])
   simp_all
  .have e:ps.take (n+(k+1))=ps.take (n+k):=by rw[take_of_length_le ⋯,take_of_length_le z]
   rw[e];rwa[r,h]
def NX{ls:L4}{ps:N2}{n x:Nat}{d:Dm}(h:(cA (cb ls) (cb ps) (ps.take n)).1[x]?⊂d):(cW ls ps)[x]?⊂d:=by
 let⟨r,e⟩:=EK (cb ls) (cb ps) ps n ⇑ps;rw[take_of_length_le ⋯]at e;unfold cW;rw[e,vB (vx.mp h).1];rwa[h]
def xt{lx px:L8}{st:List Dm×L6}{p:Str×Fm}:∃j,(dC lx px st p).2=st.2++[j]/\(dC lx px st p).1[j]?⊂(mX lx px st.2 p.2)/\((j<⇑st.1/\(dC lx px st p).1=st.1)\/(j=⇑st.1/\(dC lx px st p).1.length=⇑st.1+1)):=by
 let⟨j,a,b,q⟩:=Mu (lx:=lx) (px:=px) (st:=st) (p:=p);erw[j,a,b,?_];unfold dC at a|-;dsimp only at a|-;split
 .rename_i hd;rw[vd hd]at a;have:st.1.idxOf (mX lx px st.2 p.2)=j:=by
   have:=List.append_cancel_left a;injection this
  rwa[.inl #[this▸idxOf_lt_length_of_mem hd,rfl]]
 simp_all
def iG(R:Str->Str->Prop)(p q:Fm):Prop:=match p with
 | .row ps=>∃qs,q = .row qs/\⇑ps=⇑qs/\∀(i:Nat) (x y:Str),ps[i]?⊂x->qs[i]?⊂y->R x y
 | .side ps=>∃qs,q = .side qs/\⇑ps=⇑qs/\∀(i:Nat) (x y:Str),ps[i]?⊂x->qs[i]?⊂y->R x y
 | .again k x=>∃y,q = .again k y/\R x y
 | p=>q=p
def iG.rise{R:Str->Str->Prop}{p:Fm}{x:Str}{a b:Int}(h:iG R p (.rise x a b)):p = .rise x a b:=by
 cases p with
 | row ps=>let⟨q,e,q⟩:=h;cases e
 | side ps=>let⟨q,e,q⟩:=h;cases e
 | again k y=>let⟨q,e,q⟩:=h;cases e
 | _=>rwa[h.symm]
def dh.dU{H H':Hp}{a:Addr}{p:Str×Fm}(s:∀b xs,H b⊂.tup xs->H' b⊂.tup xs)(h:dh H a p):dh H' a p:=by
 let⟨b,c,d⟩:=h;rwa[b,s _ _ c,kW.mpr (lU.dU s (kW.mp d))]
def MJ{i j:Nat}(hi:i<676)(a:j<676)(h:iz i=iz j):i=j:=by
 unfold iz at h;split at h<;>split at h<;>(injection h with h;simp only[Array.mk.injEq,List.cons.injEq,reduceCtorEq,and_true,and_false,false_and]at h)<;>lia
def EU(ls:L4)(ks:List Dm):cb (gN ls ks)=(List.range ⇑ks).map iz:=by
 unfold cb gN;rw[v7];rfl
section
variable{ls:L4}{ks:List Dm}
def Fj(B:mI ls ks):(cb (gN ls ks)).Nodup:=by
 rw[EU];erw[pairwise_map.mpr (List.Pairwise.imp_of_mem (λ{a b} d f c e=>c (MJ ?_ ?_ e)) (nodup_range (n:=⇑ks)))]
 .have:=v4.mp d;have:=B.se;lia
 .have:=v4.mp f;have:=B.se;lia
def Fl{j:Nat}(h:j<⇑ks):(cb (gN ls ks))[j]?⊂(iz j):=by
 rw[EU,vv,List.getElem?_range h];rfl
def NS(B:mI ls ks){j:Nat}(h:j<⇑ks):cF (cb (gN ls ks)) (iz j)=j:=jZ (Fj B) (Fl h)
def OF(B:mI ls ks)(k:(cb ls).Nodup):eI ls (gN ls ks):=by
 erw[k,B.l8,Fj B,by rw[yF];rwa[B.se],λi p a=>?_,λi y x h n a=>?_]
 all_goals
  have d:=(vx.mp a).1;rw[yF]at d;have c:ks[i]?⊂ks[i]:=vz d;rw[Bu c]at a
 .cases a;refine#[λx f=>?_,?_]
  .rw[Bt]at f;let⟨j,g,rfl⟩:=vK.mp f;have:=B.dw.lt i _ c j g;rwa[j,this,Fl ⋯]
  .show(pX _ _).ns.length<=8;rw[Bt,vt];rwa[B.dw.l8 _ (getElem_mem _)]
 .injection a with a;injection a with _ a;cases e:ks[i]with
  | rise l v b=>
   rw[e]at a;injection a with h1;have m:=B.lm _ (vm c) l v b e;rwa[l,by rw[<-h1,vy,vz (by unfold cb;simp_all)];rfl]
  | _=>rw[e]at a;cases a
end
theorem Et(lx px:L8)(ps:N2)(n:Nat):∀k,∃r,(cA lx px (ps.take (n+k))).2=(cA lx px (ps.take n)).2++r
 | 0=>#[[],(append_nil _).symm]
 | k+1=>by
  let⟨r,h⟩:=Et lx px ps n k;rcases Nat.lt_or_ge (n+k) ⇑ps with z | z
  .rw[show n+(k+1)=(n+k)+1 by lia,take_snoc (vz z),qZ];let⟨j,a,q⟩:=xt (lx:=lx) (px:=px) (st:=cA lx px (ps.take (n+k))) (p:=ps[n+k])
   simp_all
  .have e:ps.take (n+(k+1))=ps.take (n+k):=by rw[take_of_length_le ⋯,take_of_length_le z]
   rw[e];rwa[r,h]
noncomputable def numOf(ls:L4)(ps:N2)(i:Nat):Nat:=(cA (cb ls) (cb ps) ps).2.getD i 0
section
variable{ls:L4}{ps:N2}{ms:L6}
def B6{n i:Nat}(a:n<=⇑ps)(h:i<n):(cA (cb ls) (cb ps) (ps.take n)).2.getD i 0=numOf ls ps i:=by
 let⟨r,e⟩:=Et (cb ls) (cb ps) ps n ⇑ps;have M:=wJ (cb ls) (cb ps) n (ps.take n) (by rw[vi];lia);rw[take_of_length_le ⋯]at e;unfold numOf;rw[e,vy,vy,vB (by rw[M.ln];rwa[h])]
def HS(W:eI ls ps){i:Nat}{p:Str×Fm}(b:ps[i]?⊂p):(cW ls ps)[numOf ls ps i]?⊂(mX (cb ls) (cb ps) (cA (cb ls) (cb ps) ps).2 p.2):=by
 have o:=(vx.mp b).1;have M1:=wJ (cb ls) (cb ps) i (ps.take i) (by rw[vi];lia);have h:cA (cb ls) (cb ps) (ps.take (i+1))=dC (cb ls) (cb ps) (cA (cb ls) (cb ps) (ps.take i)) p:=by rw[take_snoc b,qZ]
 let⟨j,c,e,q⟩:=xt (lx:=cb ls) (px:=cb ps) (st:=cA (cb ls) (cb ps) (ps.take i)) (p:=p);rw[<-h]at c e;have g:numOf ls ps i=j:=by
  rw[<-B6 (n:=i+1) ⋯ ⋯,c];have:=getD_last (l:=(cA (cb ls) (cb ps) (ps.take i)).2) (x:=j) (d:=0);rw[M1.ln]at this;rwa[this]
 rw[g];have:=NX e;rw[this];have a:∀x∈p.2.ns,(cA (cb ls) (cb ps) (ps.take i)).2.getD (cF (cb ps) x) 0=(cA (cb ls) (cb ps) ps).2.getD (cF (cb ps) x) 0:=λx m=>B6 ⋯ (W.c9 b (vK.mpr #[x,m,rfl]))
 generalize p.2=f at a;cases f with
 | row qs=>rwa[congrArg (λz=>some (Dm.row z)) (map_congr_left a)]
 | side qs=>rwa[congrArg (λz=>some (Dm.side z)) (map_congr_left a)]
 | again k x=>rwa[congrArg (λz=>some (Dm.again k z)) (a x vq)]
 | _=>rfl
structure pR(ps qs:N2)(C:Nat->Nat->Prop)(g:Nat->Nat):Prop where
 lt:∀i k,C i k->i<⇑ps/\k<⇑qs
 ex:∀k,k<⇑qs->∃i,C i k
 top:C (⇑ps-1) (⇑qs-1)
 f:∀(i k:Nat) (p q:Str×Fm),C i k->ps[i]?⊂p->qs[k]?⊂q->iG (λ_ _=>True) p.2 q.2/\cX qs q.2=(cX ps p.2).map g/\∀j∈cX ps p.2,j<i/\C j (g j)
theorem EW(n:Nat):∀(i:Nat),i<=n->∀(x:Nat),x<(cA (cb ls) (cb ps) (ps.take i)).1.length->i<=⇑ps->∃j,j<i/\numOf ls ps j=x
 | 0,_,x,h,_=>by simp[cA]at h
 | i+1,hn,x,h,hi=>by
  have g:ps[i]?⊂ps[i]:=vz hi;have M1:=wJ (cb ls) (cb ps) i (ps.take i) (by rw[vi];lia);let⟨j,b,k,c⟩:=xt (lx:=cb ls) (px:=cb ps) (st:=cA (cb ls) (cb ps) (ps.take i)) (p:=ps[i]);have e:cA (cb ls) (cb ps) (ps.take (i+1))=dC (cb ls) (cb ps) (cA (cb ls) (cb ps) (ps.take i)) ps[i]:=by rw[take_snoc g,qZ]
  rw[<-e]at b c;have a:x<(cA (cb ls) (cb ps) (ps.take i)).1.length->∃j,j<i+1/\numOf ls ps j=x:=λh=>by
   let⟨j,m,f⟩:=EW n i ⋯ x h ⋯;rwa[j,⋯,f]
  rcases c with⟨_,z⟩ | ⟨o,q⟩
  .exact a (by rw[z]at h;rwa[h])
  .rcases Nat.lt_or_ge x (cA (cb ls) (cb ps) (ps.take i)).1.length with y | y
   .exact a y
   .refine#[i,⋯,?_];rw[<-B6 (n:=i+1) ⋯ ⋯,b];have:=getD_last (l:=(cA (cb ls) (cb ps) (ps.take i)).2) (x:=j) (d:=0);rw[M1.ln]at this;lia
def NV(W:eI ls ps)(D:1<=⇑ps)(K:Kept ls ps ms):pR ps (gN ls (de (cW ls ps) ms)) (λi k=>i<⇑ps/\ms[k]?⊂(numOf ls ps i)) (λj=>ms.idxOf (numOf ls ps j)):=by
 have O:=Bf W D;have B:=Ef O W.l8 K;have z:⇑(de (cW ls ps) ms)=⇑ms:=by unfold de;rw[vt]
 have r:⇑(gN ls (de (cW ls ps) ms))=⇑ms:=by rw[yF,z]
 erw[λi k h=>#[h.1,by rw[r];rwa[(vx.mp h.2).1]],λk o=>?_,?_,λi k p q h l C=>?_]
 .rw[r]at o;have g:ms[k]<⇑(cW ls ps):=vD (K.lt O (getElem_mem o)) O.tp;let⟨j,m,u⟩:=EW (ls:=ls) (ps:=ps) ⇑ps ⇑ps (vb _) ms[k] (by rw[v5];rwa[g]) (vb _);rwa[j,m,by rw[u];rwa[vz o]]
 .let⟨⟨c,m,u⟩,_⟩:=K.named O;erw[⋯,?_];rw[r,show ⇑ms-1=c by lia];rwa[m]
 .let⟨F,g⟩:=h;have v:=HS W l;have s:=Bc (ks:=cW ls ps) g;rw[vy,v]at s;have t:=Bu (ls:=ls) s;rw[C]at t;cases t;have d:∀j∈cX ps p.2,numOf ls ps j∈ms:=λj a=>by
   erw[K.refs O (vm g) v _ ?_];let⟨x,b,rfl⟩:=vK.mp a;generalize p.2=f at b;cases f with
   | row qs=>rwa[vK.mpr #[x,b,rfl]]
   | side qs=>rwa[vK.mpr #[x,b,rfl]]
   | again k y=>rw[vo.mp b];rwa[vq]
   | _=>rwa[nomatch b]
  have w:∀j∈cX ps p.2,cF (cb (gN ls (de (cW ls ps) ms))) (iz (ms.idxOf (numOf ls ps j)))=ms.idxOf (numOf ls ps j):=λj a=>NS B (by rw[z];rwa[idxOf_lt_length_of_mem (d j a)])
  erw[?_,?_,λj a=>#[W.c9 l a,by have:=W.c9 l a;lia,(BX (d j a)).1]]
  .have A:=λx h n (e:p.2 = .rise x h n)=>W.r i p.1 x h n (by rw[l,<-e])
   show iG _ p.2 (pX (cb ls) (sy _ (mX _ _ _ p.2)));generalize p.2=f at A;cases f with
   | hold n=>rfl
   | ring x n=>rfl
   | rise x h n=>
    let⟨j,a⟩:=A x h n rfl;show Fm.rise ((cb ls).getD (cF (cb ls) x) ⟨#[]⟩) h n = .rise x h n;rw[jZ W.ln a,vy,a];rfl
   | row qs=>rwa[_,rfl,by rw[vt,vt,vt],λZ Z Z Z Z=>trivial]
   | side qs=>rwa[_,rfl,by rw[vt,vt,vt],λZ Z Z Z Z=>trivial]
   | again k x=>rwa[_,rfl,trivial]
  .unfold cX at w|-;show(pX (cb ls) (sy _ (mX _ _ _ p.2))).ns.map _=_;rw[Bt,Ar,v7,v7];have E:(mX (cb ls) (cb ps) (cA (cb ls) (cb ps) ps).2 p.2).ns=p.2.ns.map λx=>numOf ls ps (cF (cb ps) x):=by cases p.2<;>rfl
   rw[E,v7];erw[Eq.trans ?_ v7.symm];rwa[map_congr_left λx b=>w _ (vK.mpr #[x,b,rfl])]
def iG.gS{R:Str->Str->Prop}{p q:Fm}{x:Str}{a b:Int}(h:iG R p q):p = .rise x a b↔q = .rise x a b:=by
 constructor
 .rintro rfl;rwa[h]
 .rintro rfl;rwa[h.rise]
section
variable{qs:N2}{C:Nat->Nat->Prop}{g:Nat->Nat}
def Lr{M N:L1}(R:pR ps qs C g)(H:⇑M=⇑ps)(I:⇑N=⇑qs)(B:dZ ls ps M)(D:dZ ls qs N):∀i k,C i k->N.getD k []=M.getD i []:=by
 intro i
 induction i using Nat.strongRecOn with
 | ind i ih=>
  intro k s;let⟨E,F⟩:=R.lt i k s;have q:ps[i]?⊂ps[i]:=vz E;have r:qs[k]?⊂qs[k]:=vz F;have z:M[i]?⊂(M.getD i []):=by simp_all
  have A:N[k]?⊂(N.getD k []):=by simp_all
  let⟨a,b⟩:=B i _ _ q z;let⟨w,y⟩:=D k _ _ r A;let⟨u,d,t⟩:=R.f i k _ _ s q r;erw[Aj w a λv=>(y v).trans (Iff.trans ?_ (b v).symm)]
  rw[d];erw[or_congr #[?_,?_] #[?_,?_]]
  .rintro⟨G,l,m⟩;let⟨j,c,rfl⟩:=vK.mp l;let⟨o,p⟩:=t j c;rwa[j,c,by rw[<-ih j o _ p];rwa[m]]
  .rintro⟨j,c,m⟩;let⟨o,p⟩:=t j c;rwa[g j,vK.mpr #[j,c,rfl],by rw[ih j o _ p];rwa[m]]
  .rintro⟨x,h,n,e,f⟩;rwa[x,h,n,u.gS.mpr e,f]
  .rintro⟨x,h,n,e,f⟩;rwa[x,h,n,u.gS.mp e,f]
def tw(Ls:L0)(k v:Int):Prop:=∃pre e post,Ls=pre++e::post/\(k,v)∈e/\∀e'∈post,∀v',(k,v')∉e'
theorem Em{c b:Type}{f:c->b}:∀{l:List c} {pre:List b} {e:b} {a:List b},l.map f=pre++e::a->∃p x q,l=p++x::q/\p.map f=pre/\f x=e/\q.map f=a
 | [],pre,e,a,h=>by cases pre<;>simp at h
 | y::l,[],e,a,h=>by
  rw[uz,nil_append]at h;injection h with h1 h2;rwa[[],y,l,rfl,rfl,h1,h2]
 | y::l,z::pre,e,a,h=>by
  rw[uz,cons_append]at h;injection h with h1 h2;let⟨p,x,q,rfl,d,g,i⟩:=Em h2;rwa[y::p,x,q,rfl,by rw[uz,h1,d],g,i]
def Dy{E:L0}{is:L6}{k v:Int}:cQ E is k v↔tw (is.map λj=>E.getD j []) k v:=by
 constructor
 .rintro⟨c,j,a,rfl,d,f⟩;erw[c.map λj=>E.getD j [],E.getD j [],a.map λj=>E.getD j [],by rw[vj];rfl,d,λl i=>?_];let⟨g,b,rfl⟩:=vK.mp i;rwa[f g b]
 .rintro⟨c,e,a,h,d,f⟩;let⟨p,x,q,rfl,rfl,rfl,rfl⟩:=Em h;rwa[p,x,q,rfl,d,λg b=>f _ (vK.mpr #[g,b,rfl])]
def Lq{E F:L0}(R:pR ps qs C g)(B:⇑E=⇑ps)(D:⇑F=⇑qs)(w:di ls ps E)(y:di ls qs F):∀i k,C i k->F.getD k []=E.getD i []:=by
 intro i
 induction i using Nat.strongRecOn with
 | ind i ih=>
  intro k m;let⟨z,A⟩:=R.lt i k m;have h:ps[i]?⊂ps[i]:=vz z;have l:qs[k]?⊂qs[k]:=vz A;have s:E[i]?⊂(E.getD i []):=by simp_all
  have t:F[k]?⊂(F.getD k []):=by simp_all
  let⟨a,b⟩:=w i _ _ h s;let⟨q,r⟩:=y k _ _ l t;let⟨p,d,o⟩:=R.f i k _ _ m h l;erw[Ba q a λx v=>(r x v).trans (Iff.trans ?_ (b x v).symm)]
  unfold hZ;have u:(cX ps ps[i].2).map (Function.comp (λj=>F.getD j []) g)=(cX ps ps[i].2).map λj=>E.getD j []:=map_congr_left λj c=>ih j (o j c).1 _ (o j c).2
  rw[Dy,Dy,d,v7,u];erw[or_congr Iff.rfl #[?_,?_]]
  .rintro⟨x,n,e,f⟩;rwa[x,n,p.gS.mpr e,f]
  .rintro⟨x,n,e,f⟩;rwa[x,n,p.gS.mp e,f]
theorem E5:∀{l:L5},l≠[]->∃g∈l,∀x∈l,x<=g
 | [],h=>ud rfl h
 | [a],_=>#[a,vq,λx c=>by rw[vo.mp c];rwa[vA _]]
 | a::b::r,_=>by
  let⟨g,e,d⟩:=E5 (l:=b::r) (λz=>by cases z);rcases Int.le_total a g with z | z
  .exact#[g,vp _ e,λx c=>by
    rcases mem_cons.mp c with rfl | c
    .exact z
    .exact d x c]
  .exact#[a,vq,λx c=>by
    rcases mem_cons.mp c with rfl | c
    .exact vA _
    .exact Int.le_trans (d x c) z]
def E1{f:Fm}{a:L5}(h:iD f a):∃g,iC f a g:=by
 cases f with
 | side qs=>rwa[(E5 h).imp λg h=>h]
 | again k x=>let⟨y,r,rfl,q⟩:=h;rwa[k*y,y,rfl,rfl]
 | row qs=>rwa[_,rfl]
 | _=>rwa[_,rfl]
def Ka{R:Str->Str->Prop}{p q:Fm}(h:iG R p q){a:L5}:(iD p a↔iD q a)/\∀g,iC p a g↔iC q a g:=by
 cases p with
 | row ps=>let⟨j,rfl,j⟩:=h;rwa[Iff.rfl,λg=>Iff.rfl]
 | side ps=>let⟨j,rfl,j⟩:=h;rwa[Iff.rfl,λg=>Iff.rfl]
 | again k x=>let⟨j,rfl,j⟩:=h;rwa[Iff.rfl,λg=>Iff.rfl]
 | _=>rw[show q=_ from h];rwa[Iff.rfl,λg=>Iff.rfl]
def iG.uJ{R:Str->Str->Prop}{p q:Fm}{ys:L8}(h:iG R p q)(e:q = .side ys):∃xs,p = .side xs:=by
 subst e;cases p with
 | side ps=>rwa[_,rfl]
 | row ps=>let⟨j,e,j⟩:=h;cases e
 | again k x=>let⟨j,e,j⟩:=h;cases e
 | _=>cases h
def Lu{gs:L5}{w:L1}(S:oX ls ps gs w)(hl:⇑w=⇑ps)(W:dZ ls ps w)(R:pR ps qs C g)(n1:1<=⇑qs)(X:eI ls qs):∃gs' hs',oX ls qs gs' hs'/\gs'∘(⇑qs-1)=gs∘(⇑ps-1)/\⇑hs'=⇑qs/\dZ ls qs hs':=by
 have⟨d,hrep⟩:∃d:Nat->Nat,∀k,k<⇑qs->C (d k) k:=by
  have h:∀k,∃i,k<⇑qs->C i k:=λk=>by
   rcases Nat.lt_or_ge k ⇑qs with z | z
   .exact(R.ex k z).imp λi h N=>h
   .exact#[0,λh=>⋯]
  rwa[λk=>(h k).choose,λk s=>(h k).choose_spec s]
 have y:∀{α:Type} (v:Nat->α) (k i:Nat) (p q:Str×Fm),C i k->ps[i]?⊂p->qs[k]?⊂q->(∀f,f<k->∀j,C j f->v j=v (d f))->(cX ps p.2).map v=(cX qs q.2).map λf=>v (d f):=λv k i p q r hp u M=>by
  let⟨N,G,l⟩:=R.f i k p q r hp u;rw[G,v7];erw[map_congr_left λj A=>M (g j) ?_ j (l j A).2]
  rwa[X.c9 u (by rw[G];rwa[vK.mpr #[j,A,rfl]])]
 have hG:∀k,k<⇑qs->∀i,C i k->gs∘i=gs∘(d k):=by
  intro k
  induction k using Nat.strongRecOn with
  | ind k M=>
   intro s i r;have I:qs[k]?⊂qs[k]:=vz s;have D:∀i,C i k->∀g,iC qs[k].2 ((cX qs qs[k].2).map λf=>gs∘(d f)) g->g=gs∘i:=λi r g L=>by
    obtain⟨p,t⟩:∃p,ps[i]?⊂p:=#[_,vz (R.lt i k r).1]
    have B:=y (λj=>gs∘j) k i _ _ r t I λf o j l=>M f o ⋯ j l
    erw[(S.ln i _ t).2 g ?_];rw[B];rwa[((Ka (R.f i k _ _ r t I).1).2 g).mpr L]
   obtain⟨p,t⟩:∃p,ps[i]?⊂p:=#[_,vz (R.lt i k r).1]
   have B:=y (λj=>gs∘j) k i _ _ r t I λf o j l=>M f o ⋯ j l
   have Q:=(S.ln i _ t).1;rw[B]at Q;let⟨g,L⟩:=E1 ((Ka (R.f i k _ _ r t I).1).1.mp Q);rw[<-D i r g L,<-D (d k) (hrep k s) g L]
 have Z:∀k,k<⇑qs->∀i,C i k->w.getD i []=w.getD (d k) []:=by
  intro k
  induction k using Nat.strongRecOn with
  | ind k M=>
   intro s i r;have I:qs[k]?⊂qs[k]:=vz s;have D:∀i,C i k->(w.getD i []).Pairwise (· < ·)/\∀v,v∈w.getD i []↔(∃c∈(cX qs qs[k].2).map (λf=>w.getD (d f) []),v∈c)\/∃x h n,qs[k].2 = .rise x h n/\v=(cF (cb ls) x:Nat):=λi r=>by
    have hi:=(R.lt i k r).1;obtain⟨p,t⟩:∃p,ps[i]?⊂p:=#[_,vz hi]
    have B:=y (λj=>w.getD j []) k i _ _ r t I λf o j l=>M f o ⋯ j l
    have F:=(R.f i k _ _ r t I).1;let⟨a,b⟩:=W i _ (w.getD i []) t (by rw[vy,vz ⋯];rfl);erw[a,λv=>(b v).trans (or_congr ?_ ?_)]
    .rw[<-B];constructor
     .rintro⟨j,l,H⟩;rwa[_,vK.mpr #[j,l,rfl],H]
     .rintro⟨c,a0,H⟩;let⟨j,l,rfl⟩:=vK.mp a0;rwa[j,l,H]
    .constructor
     .rintro⟨x,h,n,e,J⟩;rwa[x,h,n,F.gS.mp e,J]
     .rintro⟨x,h,n,e,J⟩;rwa[x,h,n,F.gS.mpr e,J]
   have h1:=D i r;have h2:=D (d k) (hrep k s);rwa[Aj h1.1 h2.1 λv=>(h1.2 v).trans (h2.2 v).symm]
 have T:∀k,k<⇑qs->((List.range ⇑qs).map λk=>gs∘(d k)).getD k 0=gs∘(d k):=λk s=>by
  rw[vy,vv,List.getElem?_range s];rfl
 have O:∀k,k<⇑qs->((List.range ⇑qs).map λk=>w.getD (d k) []).getD k []=w.getD (d k) []:=λk s=>by
  rw[vy,vv,List.getElem?_range s];rfl
 have E:∀{k:Nat} {q:Str×Fm},qs[k]?⊂q->∀j∈cX qs q.2,j<⇑qs:=λu j l=>by
  have:=X.c9 u l;have:=(vx.mp u).1;lia
 erw[(List.range ⇑qs).map λk=>gs∘(d k),(List.range ⇑qs).map λk=>w.getD (d k) [],#[X,by rw[vt,length_range],λk s=>?_,λN nl hN k s=>?_,λk q u=>?_,λk q xs u e=>?_],?_]
 .rw[T k s];rwa[S.gb _ (R.lt _ k (hrep k s)).1]
 .rw[O k s];rwa[Lr R hl nl W hN _ k (hrep k s)]
 .have s:=(vx.mp u).1;have r:=hrep k s;obtain⟨p,t⟩:∃p,ps[d k]?⊂p:=#[_,vz (R.lt _ k r).1]
  have B:=y (λj=>gs∘j) k _ _ _ r t u λf o j l=>hG f ⋯ j l
  have Y:(cX qs q.2).map (λj=>((List.range ⇑qs).map λk=>gs∘(d k)).getD j 0)=(cX ps p.2).map λj=>gs∘j:=by
   rw[B];rwa[map_congr_left λj l=>T j (E u j l)]
  have F:=(R.f _ k _ _ r t u).1;rw[Y,T k s];rwa[(Ka F).1.mp (S.ln _ _ t).1,λg L=>(S.ln _ _ t).2 g (((Ka F).2 g).mpr L)]
 .have s:=(vx.mp u).1;have r:=hrep k s;obtain⟨p,t⟩:∃p,ps[d k]?⊂p:=#[_,vz (R.lt _ k r).1]
  have B:=y (λj=>w.getD j []) k _ _ _ r t u λf o j l=>Z f ⋯ j l
  let⟨F,G,l⟩:=R.f _ k _ _ r t u;let⟨ys,ey⟩:=F.uJ e;let⟨s1,s2⟩:=S.sd _ _ ys t ey;have Y:(cX qs q.2).map (λj=>((List.range ⇑qs).map λk=>w.getD (d k) []).getD j [])=(cX ps p.2).map λj=>w.getD j []:=by
   rw[B];rwa[map_congr_left λj l=>O j (E u j l)]
  erw[λj A=>?_,by rw[Y];rwa[s2]];rw[O j (E u j A)];rw[G]at A;let⟨U,K,rfl⟩:=vK.mp A;rw[<-Z _ (R.lt _ _ (l U K).2).2 U (l U K).2];rwa[s1 U K]
 .refine#[by rw[T _ ⋯];rwa[(hG _ ⋯ _ R.top).symm],by rw[vt,length_range],λk q ks u P=>?_];have s:=(vx.mp u).1;have r:=hrep k s;have hi:=(R.lt _ k r).1;obtain⟨p,t⟩:∃p,ps[d k]?⊂p:=#[_,vz hi]
  rw[vv,List.getElem?_range s]at P;cases P;have B:=y (λj=>w.getD j []) k _ _ _ r t u λf o j l=>Z f ⋯ j l
  have F:=(R.f _ k _ _ r t u).1;let⟨a,b⟩:=W _ _ (w.getD (d k) []) t (by rw[vy,vz ⋯];rfl);erw[a,λv=>(b v).trans (or_congr ?_ ?_)]
  .constructor
   .rintro⟨j,l,H⟩;have m:w.getD j []∈(cX qs q.2).map λf=>w.getD (d f) []:=by rw[<-B];exact vK.mpr #[j,l,rfl]
    let⟨f,o,e⟩:=vK.mp m;rwa[f,o,by rw[O f (E u f o),e];rwa[H]]
   .rintro⟨f,o,H⟩;rw[O f (E u f o)]at H;have m:w.getD (d f) []∈(cX ps p.2).map λj=>w.getD j []:=by rw[B];exact vK.mpr #[f,o,rfl]
    let⟨j,l,e⟩:=vK.mp m;rwa[j,l,by rw[e];rwa[H]]
  .constructor
   .rintro⟨x,h,n,e,J⟩;rwa[x,h,n,F.gS.mp e,J]
   .rintro⟨x,h,n,e,J⟩;rwa[x,h,n,F.gS.mpr e,J]
end
end
structure Sa where
 d:Addr
 f:Addr
 o:Addr
 s:Addr
 l:Addr
 p:Addr
 fb:L7
 la:L7
 pa:L7
noncomputable def i9(z:Sa):List (Str×V):=cE "pieces" (.ref z.p) (cE "left" (.ref z.l) (cE "sizes" (.ref z.s) (cE "forms" (.ref z.o) (cE "first" (.ref z.f) (cE "limbs" (.ref z.d) [])))))
section
variable{z:Sa}
def Jo(h:¬a=b):(cE b v r).lookup a=r.lookup a:=by rw[ZT,vc h]
def Zp:(cE a v r).lookup a⊂v:=by rw[ZT,vd rfl]
def WO:(i9 z).lookup ("pieces" : Str)=↥z.p:=Zp
def Im:(i9 z).lookup ("left" : Str)=↥z.l:=(Jo ∅).trans Zp
def zZ:(i9 z).lookup ("sizes" : Str)=↥z.s:=(Jo ∅).trans ((Jo ∅).trans Zp)
def YV:(i9 z).lookup ("forms" : Str)=↥z.o:=(Jo ∅).trans ((Jo ∅).trans ((Jo ∅).trans Zp))
def G7:(i9 z).lookup ("first" : Str)=↥z.f:=(Jo ∅).trans ((Jo ∅).trans ((Jo ∅).trans ((Jo ∅).trans Zp)))
def Xk:(i9 z).lookup ("limbs" : Str)=↥z.d:=(Jo ∅).trans ((Jo ∅).trans ((Jo ∅).trans ((Jo ∅).trans ((Jo ∅).trans Zp))))
def WN{m:Str}(a:¬m = "pieces")(b:¬m = "left")(c:¬m = "sizes")(d:¬m = "forms")(e:¬m = "first")(f:¬m = "limbs"):(i9 z).lookup m=none:=(Jo a).trans ((Jo b).trans ((Jo c).trans ((Jo d).trans ((Jo e).trans (Jo f)))))
theorem JB(f:Str)(v:V):∀r:List (Str×V),⇑(cE f v r)<=⇑r+1
 | []=>vb _
 | (g,u)::r=>by
  unfold cE;split
  .exact Nat.le_succ _
  .rw[vQ,vQ];have:=JB f v r;lia
end
def cN.less{H:Hp}(p:H a⊂.ins C dx fs)(B:cN H b pl pp las pas ls ps) :
  ∃H0:Hp,(∀H',(∀c u,c≠a->H c⊂u->H' c⊂u)->cj H0 H')/\(∀{c u},H0 c⊂u->c≠a)/\cN H0 b pl pp las pas ls ps:=by
 have e:∀{c:Addr} {f:N4},H c⊂.tup f->(λc=>if c=a then none else H c) c⊂(.tup f):=λ{c f} h=>by
  lia
 have l:∀{c:Addr} {f:N4},H c⊂.lst f->(λc=>if c=a then none else H c) c⊂(.lst f):=λ{c f} h=>by
  lia
 erw[λc=>if c=a then none else H c,λH' k c u h=>?_,λ{c u} h=>?_,e B.t,l B.l,B.la.mono λa x j=>e j,l B.p,B.pa.mono λa x j=>?_]
 .simp_all
 .lia
 .let⟨m,o,d⟩:=j;erw[m,e o,?_];cases hx2:x.2 with
  | row r=>rw[hx2]at d;let⟨c,g,i⟩:=d;rwa[c,e g,e i]
  | side r=>rw[hx2]at d;let⟨c,g,i⟩:=d;rwa[c,e g,e i]
  | hold n=>rw[hx2]at d;rwa[e d]
  | ring y n=>rw[hx2]at d;rwa[e d]
  | rise y v n=>rw[hx2]at d;rwa[e d]
  | again k y=>rw[hx2]at d;rwa[e d]
def AV(h:⇑(cE f v r)<=n)(k:n<1000):⇑(cE f v r)<1000:=vD h k
section
variable{a b c d e:Str}{u v w x y:V}
def AW:⇑(cE c w (cE b v (cE a u [])))<1000:=by
 have:=JB c w (cE b v (cE a u []));have:=JB b v (cE a u []);have:=JB a u [];simp at *;lia
def AX:⇑(cE d x (cE c w (cE b v (cE a u []))))<1000:=by
 have:=JB d x (cE c w (cE b v (cE a u [])));have:=JB c w (cE b v (cE a u []));have:=JB b v (cE a u []);have:=JB a u [];simp at *;lia
def AY:⇑(cE e y (cE d x (cE c w (cE b v (cE a u [])))))<1000:=by
 have:=JB e y (cE d x (cE c w (cE b v (cE a u []))));have:=JB d x (cE c w (cE b v (cE a u [])));have:=JB c w (cE b v (cE a u []));have:=JB b v (cE a u []);have:=JB a u [];simp at *;lia
end
section
variable{L:L8}{fs:List Fn}{M:L1}{gs:L5}{names:L8}{ls:L4}{n:Nat}
def qh{a:Type}{xs:List a}{d:a}{i:Nat}(h:i<n):(xs.take n).getD i d=xs.getD i d:=by
 simp_all
def eJ.take{f:Fn}{i:Nat}(hi:i<=n)(h:eJ L M i f):eJ L (M.take n) i f:=by
 cases f with
 | side is=>
  let⟨a,b,c,d,e⟩:=h;have g:∀j∈is,(M.take n).getD j []=M.getD j []:=λj l=>qh (by have:=c j l;lia)
  erw[a,b,c,λj l=>by rw[g j l];rwa[d j l],?_];exact(List.pairwise_iff_forall_sublist.mpr λ{x y} o=>by
   have p:x∈is:=o.subset vq;have q:y∈is:=o.subset (vp _ vq);rw[g x p,g y q];rwa[List.pairwise_iff_forall_sublist.mp e o])
 | hold m=>rwa[h]
 | ring x m=>rwa[h]
 | rise x v m=>rwa[h]
 | row is=>rwa[h]
 | again k j=>rwa[h]
def lL.take{ks:L5}{f:Fn}(c:∀j∈f.js,j<n)(h:lL L M f ks):lL L (M.take n) f ks:=by
 erw[h.1,λk=>(h.2 k).trans ?_];have:(∃j∈f.js,k∈M.getD j [])↔∃j∈f.js,k∈(M.take n).getD j []:=by
  constructor
  .rintro⟨j,a,b⟩;rwa[j,a,by rw[qh (c j a)];rwa[b]]
  .rintro⟨j,a,b⟩;rwa[j,a,by rw[qh (c j a)]at b;rwa[b]]
 rw[this]
def gf.take{g:Int}{f:Fn}(o:∀j∈f.js,j<n)(h:gf gs f g):gf (gs.take n) f g:=by
 have e:∀j∈f.js,(gs.take n).getD j 0=gs∘j:=λj a=>qh (o j a)
 cases f with
 | hold m=>rwa[h]
 | ring x m=>rwa[h]
 | rise x v m=>rwa[h]
 | row is=>
  show g=(is.map λj=>(gs.take n).getD j 0).sum;have d:is.map (λj=>(gs.take n).getD j 0)=is.map λj=>gs∘j:=map_congr_left e
  rw[d];rwa[h]
 | side is=>
  let⟨⟨j,a,i⟩,l⟩:=h;rwa[#[j,a,by rw[e j a];rwa[i]],λc b=>by rw[e c b];rwa[l c b]]
 | again k j=>
  show g=k*(gs.take n).getD j 0;rw[e j vq];rwa[h]
def ez.take(D:ez L fs M gs)(l:n<=⇑fs):ez L (fs.take n) (M.take n) (gs.take n):=by
 have m:=D.ml;have k:=D.gl;erw[by simp_all,by simp_all,λi f d=>?_,λi e=>?_]
 .have e:=(vx.mp d).1;rw[vi]at e;rw[List.getElem?_take,vd ⋯]at d;let⟨a,b,c⟩:=D.f i f d;have h:=a.js.2;rw[qh ⋯,qh ⋯];rwa[a.take ⋯,b.take λj g=>by have:=h j g;lia,c.take λj g=>by have:=h j g;lia]
 .rw[vi]at e;rw[qh ⋯];rwa[D.g i ⋯]
theorem wM{gs a:L5}:∀{is:L6} {b:Int},(∀j∈is,gs∘j=a∘j)->cU gs is b=cU a is b
 | [],_,_=>rfl
 | j::r,b,h=>by
  unfold cU;rw[h j vq,wM λk c=>h k (vp _ c)]
def GA{gs a:L5}(h:∀j∈is,gs∘j=a∘j):dq gs f is=dq a f is:=by
 unfold dq;split
 .split
  .rfl
  .rw[h _ vq]
 .exact wM h
 .rfl
def Lf{gs a:L5}(h:gs∘q.1=a∘q.1):wq gs t q=wq a t q:=by
 unfold wq dS ov eO;rw[h];split
 .rename_i y e;split at e
  .have b:=vL e;subst b;show _=_;rw[h]
  .cases e
 .rfl
theorem XN{gs a:L5}:∀{qs:List Pc},(∀q∈qs,gs∘q.1=a∘q.1)->dA gs t qs=dA a t qs
 | [],_=>rfl
 | q::r,h=>by rw[qK,qK,Lf (h q vq),XN λp b=>h p (vp _ b)]
def YZ(D:ez (cb ls) fs M gs)(e:⇑fs<=⇑names)(m:names.Nodup)(W:eI ls (cg names fs))(o:eI ls (cg names (fs.take n)))(u:n<=⇑fs):∀{i:Nat} {t:Int},i<n->reach (cg names (fs.take n)) (gs.take n) i t=reach (cg names fs) gs i t:=by
 intro i
 induction i using Nat.strongRecOn with
 | ind i ih=>
  intro t l;obtain⟨f,c⟩:∃f,fs[i]?⊂f:=#[_,vz ⋯]
  have d:(fs.take n)[i]?⊂f:=by rw[List.getElem?_take,vd l];rwa[c]
  have g:=(D.f i f c).1.js.2;have b:cP (cg names (fs.take n)) (gs.take n) i=cP (cg names fs) gs i:=by
   unfold cP;rw[qg c,qg d];show dq _ _ _=dq _ _ _;rw[zE (by rw[vi];lia) m (λj a=>by rw[vi];have:=g j a;lia),zE e m (λj a=>by have:=g j a;lia)];rwa[GA λj a=>qh (by have:=g j a;lia)]
  have k:(gs.take n).getD i 0=gs∘i:=qh l;by_cases h:gs∘i<=t\/cP (cg names fs) gs i=[]
  .rw[Jg h,Jg (by rw[k,b];rwa[h])]
  .rw[JI W h,JI o (by rw[k,b];rwa[h]),b];have p:dA (gs.take n) t (cP (cg names fs) gs i)=dA gs t (cP (cg names fs) gs i):=XN λq r=>qh (by have:=Al W r;lia)
   rw[p];exact JX λx s=>by
    have:=Qv W s;rwa[ih x.1 this ⋯]
end
noncomputable def cJ(es:Nq)(h:L5):L5:=es.foldl (λh q=>h.set q.1.toNat q.2) h
def zh(q:Int×Int)(r:Nq)(h:L5):cJ (q::r) h=cJ r (h.set q.1.toNat q.2):=rfl
theorem Qc:∀(es:Nq) (h:L5),⇑(cJ es h)=⇑h
 | [],_=>rfl
 | q::r,h=>by rw[zh,Qc r,length_set]
theorem zK:∀{es:Nq} {h:L5} {i:Nat},(∀q∈es,0<=q.1)->(∀v,((i:Int),v)∉es)->(cJ es h)[i]?=h[i]?
 | [],_,_,_,_=>rfl
 | q::r,h,i,p,n=>by
  rw[zh,zK (λx c=>p x (vp _ c)) (λv b=>n v (vp _ b))];have:q.1.toNat≠i:=λe=>by
   have d:=p q vq;have a:q.1=(i:Int):=⋯
   rwa[n q.2 (by rw[<-a];rwa[vq])]
  rw[List.getElem?_set_ne this]
theorem yX:∀{es:Nq} {h:L5} {i:Nat} {v:Int},(es.map (·.1)).Pairwise (· < ·)->(∀q∈es,0<=q.1)->((i:Int),v)∈es->i<⇑h->(cJ es h)[i]?⊂v
 | [],_,_,_,_,_,m,_=>nomatch m
 | q::r,h,i,v,pw,p,m,hi=>by
  rw[uz,vV]at pw;rw[zh];rcases mem_cons.mp m with e | m
  .subst e;rw[zK (λx a=>p x (vp _ a)) (λw b=>by
    have:=pw.1 _ (vK.mpr #[_,b,rfl]);rwa[ud this (Int.lt_irrefl _)])]
   simp_all
  .exact yX pw.2 (λx a=>p x (vp _ a)) m (by rw[length_set];rwa[hi])
def xq(d:(es.map (·.1)).Pairwise (· < ·))(p:∀q∈es,0<=q.1)(h:L5):cJ es (cJ es h)=cJ es h:=by
 erw[ext_getElem? λi=>?_]
 by_cases b:i<⇑h
 case neg=>rw[vT (by rw[Qc,Qc];lia),vT (by rw[Qc];lia)]
 by_cases c:∃v,((i:Int),v)∈es
 .let⟨v,a⟩:=c;rw[yX d p a (by rw[Qc];rwa[b]),yX d p a b]
 .rw[zK p (λv a=>c #[v,a])]
def EN(L:L8)(fs:List Fn)(n:Nat)(E:L0):Prop:=∀(i:Nat) (f:Fn),i<n->fs[i]?⊂f->((E.getD i []).map (·.1)).Pairwise (· < ·)/\∀k v,(k,v)∈E.getD i []↔cQ E f.js k v\/∃x m,f = .rise x v m/\k=(cF L x:Nat)
noncomputable def i7(L:L8)(fs:List Fn)(gs:L5)(E:L0)(h:L5)(x:Nat×Int):L5:=
 if gs∘x.1<=x.2 then cJ (E.getD x.1 []) h
 else match fs[x.1]? with
  | some (.rise y v n)=>h.set (cF L y) (Rp.ramp (h∘(cF L y)) v n x.2)
  | _=>h
noncomputable def eD(L:L8)(names:L8)(fs:List Fn)(gs:L5)(E:L0)(j:Nat)(t:Int)(h:L5):L5:=(reach (cg names fs) gs j t).foldl (i7 L fs gs E) h
noncomputable def eV(names:L8)(fs:List Fn)(gs:L5)(j:Nat)(t:Int):L8:=(reach (cg names fs) gs j t).flatMap (cZ (cg names fs))
noncomputable def oZ(names:L8)(fs:List Fn)(gs:L5)(j:Nat)(t:Int):L3:=dA gs t (cP (cg names fs) gs j)
section
variable{L:L8}{fs:List Fn}{M:L1}{gs:L5}{names:L8}{ls:L4}{n:Nat}{E:L0}
def EN.ur(D:ez L fs M gs)(u:L.Nodup)(e:EN L fs n E)(w:n<=⇑fs):∀{i:Nat},i<n->∀q∈E.getD i [],q.1∈M.getD i []:=by
 intro i
 induction i using Nat.strongRecOn with
 | ind i ih=>
  intro s q t;obtain⟨f,c⟩:∃f,fs[i]?⊂f:=#[_,vz ⋯]
  let⟨a,b,Z⟩:=D.f i f c;rcases((e i f s c).2 q.1 q.2).mp t with⟨v,j,h,o,r,_⟩ | ⟨x,m,l,p⟩
  .have d:j∈f.js:=by rw[o];simp
   have:=a.js.2 j d;rwa[(b.2 q.1).mpr (.inl #[j,d,ih j this ⋯ _ r])]
  .subst l;let⟨⟨k,g⟩,Z⟩:=a;erw[(b.2 q.1).mpr (.inr #[x,q.2,m,k,rfl,g,?_])];rw[p,jZ u g]
def EN.pos(D:ez L fs M gs)(c:L.Nodup)(e:EN L fs n E)(a:n<=⇑fs)(hi:i<n):∀q∈E.getD i [],0<=q.1:=λq b=>(D.AN i ⋯ q.1 (e.ur D c a hi q b)).1
def Xt(h:cQ E r k v):cQ E (j::r) k v:=by
 let⟨b,i,a,e,c,d⟩:=h;rwa[j::b,i,a,by rw[e];rfl,c,d]
theorem Xl:∀{js:L6} {h:L5} {i:Nat},(∀j∈js,((E.getD j []).map (·.1)).Pairwise (· < ·)/\∀q∈E.getD j [],0<=q.1)->i<⇑h->
  (∃v,cQ E js i v/\(js.foldl (λh j=>cJ (E.getD j []) h) h)[i]?⊂v)\/((∀v,¬cQ E js i v)/\(js.foldl (λh j=>cJ (E.getD j []) h) h)[i]?=h[i]?)
 | [],h,i,_,_=>.inr #[λv ⟨f,j,g,e,_⟩=>by simp at e,rfl]
 | j::r,h,i,p,hi=>by
  let⟨D,z⟩:=p j vq;rw[v8];rcases Xl (js:=r) (h:=cJ (E.getD j []) h) (i:=i) (λk B=>p k (vp _ B)) (by rw[Qc];rwa[hi])with⟨v,a,b⟩ | ⟨a,b⟩
  .exact .inl #[v,Xt a,b]
  .by_cases c:∃v,((i:Int),v)∈E.getD j []
   .let⟨v,d⟩:=c;erw[.inl #[v,#[[],j,r,rfl,d,λn t o u=>?_],by rw[b];rwa[yX D z d hi]]];rwa[no_last a t u]
   .refine .inr #[λv d=>?_,by rw[b];rwa[zK z λv d=>c #[v,d]]];let⟨f,k,g,e,x,A⟩:=d;cases f with
    | nil=>rw[nil_append]at e;cases e;rwa[c #[v,x]]
    | cons y f=>rw[cons_append]at e;cases e;rwa[a v #[f,k,g,rfl,x,A]]
where
 no_last:∀{r:L6} {i n:Nat} {o:Int},(∀v,¬cQ E r i v)->n∈r->((i:Int),o)∈E.getD n []->False
  | [],_,_,_,_,m,_=>nomatch m
  | y::r,i,n,o,a,m,d=>by
   have w:∀v,¬cQ E r i v:=λv d=>a v (Xt d)
   rcases mem_cons.mp m with e | m
   .subst e;rwa[a o #[[],n,r,rfl,d,λC s F l=>no_last w s l]]
   .exact no_last w m d
theorem Dt:∀(js:L6) (h:L5),⇑(js.foldl (λh j=>cJ (E.getD j []) h) h)=⇑h
 | [],_=>rfl
 | j::r,h=>by rw[v8,Dt r,Qc]
def EN.all(D:ez L fs M gs)(d:L.Nodup)(e:EN L fs n E)(c:n<=⇑fs)(hi:i<n)(o:fs[i]?⊂f)(u:∀x v m,f≠.rise x v m)(h:L5):cJ (E.getD i []) h=f.js.foldl (λh j=>cJ (E.getD j []) h) h:=by
 have js:=(D.f i f o).1.js.2;let⟨a,b⟩:=e i f hi o;have w:∀j∈f.js,((E.getD j []).map (·.1)).Pairwise (· < ·)/\∀q∈E.getD j [],0<=q.1:=λj s=>by
  have:=js j s;obtain⟨g,r⟩:∃g,fs[j]?⊂g:=#[_,vz ⋯]
  rwa[(e j g ⋯ r).1,e.pos D d c ⋯]
 erw[ext_getElem? λk=>?_]
 by_cases p:k<⇑h
 case neg=>rw[vT (by rw[Qc];lia),vT (by rw[Dt];lia)]
 rcases Xl w p with⟨v,l,q⟩ | ⟨l,q⟩
 .rw[q];rwa[yX a (e.pos D d c hi) ((b _ _).mpr (.inl l)) p]
 .rw[q];refine zK (e.pos D d c hi) λv t=>?_
  rcases(b _ _).mp t with z | ⟨x,m,z,_⟩
  .exact l v z
  .exact u x v m z
def EN.one(D:ez L fs M gs)(e:EN L fs n E)(o:EN L fs m E')(q:m<=n)(r:n<=⇑fs):∀i,i<m->E'.getD i []=E.getD i []:=by
 intro i
 induction i using Nat.strongRecOn with
 | ind i ih=>
  intro p;obtain⟨f,d⟩:∃f,fs[i]?⊂f:=#[_,vz ⋯]
  have g:=(D.f i f d).1.js.2;let⟨a,b⟩:=e i f ⋯ d;let⟨h,l⟩:=o i f p d;erw[Ba h a λk v=>(l k v).trans (Iff.trans ?_ (b k v).symm)]
  have ext:∀j∈f.js,E'.getD j []=E.getD j []:=λj c=>ih j (g j c) (by have:=g j c;lia)
  rwa[λz=>z.imp (yp ext) id,λz=>z.imp (yp λj c=>(ext j c).symm) id]
def EN.of(D:ez L fs M gs)(s:⇑fs<=⇑names)(w:names.Nodup)(y:n<=⇑fs)(q:cb ls'=L)(u:⇑E=⇑(cg names (fs.take n)))(h:di ls' (cg names (fs.take n)) E):EN L fs n E:=λi f o l=>by
 have e:(fs.take n)[i]?⊂f:=by rw[List.getElem?_take,vd o];rwa[l]
 have t:=(D.f i f l).1.js.2;have g:⇑(fs.take n)=n:=by rw[vi];lia
 have p:E[i]?⊂(E.getD i []):=by
  rw[vy,vz (by rw[u,j3,g];rwa[o])];rfl
 let⟨a,b⟩:=h i _ _ (qg e) p;erw[a,λk v=>(b k v).trans ?_];unfold hZ;rw[zE (by rw[g];lia) w (λj r=>by rw[g];have:=t j r;lia),q];erw[or_congr_right #[?_,?_]]
 .rintro⟨x,m,c,d⟩;erw[x,m,?_,d];cases f<;>cases c
  rfl
 .rintro⟨x,m,c,d⟩;rwa[x,m,by rw[c];rfl,d]
theorem WQ{b c a:Type}{g:b->List c}{f:a->c->a}:∀{l:List b} {h:a},(l.flatMap g).foldl f h=l.foldl (λh x=>(g x).foldl f h) h
 | [],_=>rfl
 | x::r,h=>by rw[flatMap_cons,foldl_append,v8,WQ]
theorem Xj{a b c:Type}{g:a->List b}{f:b->List c}:∀{l:List a},(l.flatMap g).flatMap f=l.flatMap λx=>(g x).flatMap f
 | []=>rfl
 | x::r=>by rw[flatMap_cons,flatMap_append,flatMap_cons,Xj]
theorem yj{b a:Type}{f g:a->b->a}:∀{l:List b} {h:a},(∀x∈l,∀h,f h x=g h x)->l.foldl f h=l.foldl g h
 | [],_,_=>rfl
 | x::r,h,e=>by rw[v8,v8,e x vq,yj λy c=>e y (vp _ c)]
def Hz{ls':L4}{E':L0}{j:Nat}{t:Int}(D:ez L fs M gs)(a:⇑fs<=⇑names)(i:names.Nodup)(d:L.Nodup)(w:⇑L<=8)(l:⇑fs<=61)(r:cb ls'=L)(v:j<n)(s:n<=⇑fs)(e:EN L fs n E)(u:E'.length=⇑(cg names (fs.take (j+1))))(h:di ls' (cg names (fs.take (j+1))) E') :
  cS ls' (cg names (fs.take (j+1))) (gs.take (j+1)) E' t=eD L names fs gs E j t (ls'.map (·.2)):=by
 subst r;have c:⇑ls'<=8:=by have:⇑(cb ls')=⇑ls':=vt _;lia
 have W:=D.wf a i d c l;have g:⇑(fs.take (j+1))=j+1:=by rw[vi];lia
 have k:=(D.take (n:=j+1) ⋯).wf (names:=names) (by rw[g];lia) i d c (by rw[g];lia);have q:=EN.one D e (EN.of D a i ⋯ rfl u h) ⋯ s;unfold cS eD;rw[j3,g];show(reach _ _ j t).foldl _ _=_;rw[YZ D a i W k ⋯ (show j<j+1 by lia)];erw[yj λx p h=>?_]
 have b:x.1<j+1:=by
  rw[<-YZ D a i W k ⋯ (show j<j+1 by lia)]at p;have:=Km k (by rw[j3,g];lia) p;rw[j3,g]at this;rwa[this]
 obtain⟨f,o⟩:∃f,fs[x.1]?⊂f:=#[_,vz ⋯]
 have m:(fs.take (j+1))[x.1]?⊂f:=by rw[List.getElem?_take,vd b];rwa[o]
 unfold gh i7;rw[qh b,q _ b,qg m,o];split
 .rfl
 .cases f<;>rfl
def Ii{j:Nat}{t:Int}(D:ez L fs M gs)(a:⇑fs<=⇑names)(e:names.Nodup)(c:L.Nodup)(r:⇑L<=8)(h:⇑fs<=61)(q:j<⇑fs):dD (cg names (fs.take (j+1))) (gs.take (j+1)) t=eV names fs gs j t:=by
 have l:cb (L.map λx=>(x,(0:Int)))=L:=by
  unfold cb;rw[v7];rwa[map_id _]
 generalize p:(L.map λx=>(x,(0:Int)))=ls' at l;subst l;have b:⇑ls'<=8:=by have:⇑(cb ls')=⇑ls':=vt _;lia
 have W:=D.wf a e c b h;have d:⇑(fs.take (j+1))=j+1:=by rw[vi];lia
 have g:=(D.take (n:=j+1) ⋯).wf (names:=names) (by rw[d];lia) e c b (by rw[d];lia);unfold dD eV;rw[j3,d];show(reach _ _ j t).flatMap _=_;rw[YZ D a e W g ⋯ (show j<j+1 by lia)];erw[JX λx o=>?_]
 have k:x.1<j+1:=by
  rw[<-YZ D a e W g ⋯ (show j<j+1 by lia)]at o;have:=Km g (by rw[j3,d];lia) o;rw[j3,d]at this;rwa[this]
 obtain⟨f,m⟩:∃f,fs[x.1]?⊂f:=#[_,vz ⋯]
 have i:(fs.take (j+1))[x.1]?⊂f:=by rw[List.getElem?_take,vd k];rwa[m]
 unfold cZ;rw[qg i,qg m]
end
section
variable{α β:Type}
theorem C7{f:β->α->β}{x:α}:∀{ys:List α} {h:β},(∀y∈ys,∀h,f (f h x) y=f (f h y) x)->f (ys.foldl f h) x=ys.foldl f (f h x)
 | [],_,_=>rfl
 | y::r,h,k=>by
  rw[v8,v8,k y vq h];rwa[C7 λz a=>k z (vp _ a)]
theorem K5{f:β->α->β}{p:α->Bool}:∀{R:List α} {h:β},R.Pairwise (λx y=>p x=false->p y=true->∀h,f (f h x) y=f (f h y) x)->
  (R.filter λx=>!p x).foldl f ((R.filter p).foldl f h)=R.foldl f h
 | [],_,_=>rfl
 | x::r,h,k=>by
  rw[vV]at k;cases e:p x with
  | true=>
   have a:(x::r).filter (λx=>!p x)=r.filter λx=>!p x:=by simp_all
   rw[a,filter_cons_of_pos e,v8,v8];rwa[K5 k.2]
  | false=>
   have a:(x::r).filter (λx=>!p x)=x::r.filter λx=>!p x:=by simp_all
   have b:(x::r).filter p=r.filter p:=by simp_all
   have c:f ((r.filter p).foldl f h) x=(r.filter p).foldl f (f h x):=C7 λy d h=>k.1 y (vP.mp d).1 e (vP.mp d).2 h
   rw[a,b,v8,v8,c];rwa[K5 k.2]
theorem K6{f:β->α->β}{p:α->Bool}:∀{R:List α} {h:β},(∀x∈R,p x=false->∀h,f h x=h)->(R.filter p).foldl f h=R.foldl f h
 | [],_,_=>rfl
 | x::r,h,k=>by
  cases e:p x with
  | true=>
   rw[filter_cons_of_pos e,v8,v8];rwa[K6 λy a=>k y (vp _ a)]
  | false=>
   rw[filter_cons_of_neg (by simp[e]),v8,k x vq e];rwa[K6 λy a=>k y (vp _ a)]
theorem YU{f:α->List β}{p:α->Bool}:∀{R:List α},(∀x∈R,p x=false->f x=[])->(R.filter p).flatMap f=R.flatMap f
 | [],_=>rfl
 | x::r,k=>by
  cases e:p x with
  | true=>
   rw[filter_cons_of_pos e,flatMap_cons,flatMap_cons,YU λy a=>k y (vp _ a)]
  | false=>
   rw[filter_cons_of_neg (by simp[e]),flatMap_cons,k x vq e,YU λy a=>k y (vp _ a)];rfl
end
section
variable{ls:L4}{ps:N2}{gs:L5}{hs:L1}{E:L0}{t:Int}
noncomputable def lu(gs:L5)(x:Nat×Int):Bool:=decide (gs∘x.1<=x.2)
noncomputable def eU(ps:N2)(gs:L5)(x:Nat×Int):Bool:=(cP ps gs x.1).isEmpty
def Dj(gs:L5)(hs:L1)(a b:Nat×Int):Prop:=lu gs a=false->∀k∈hs.getD a.1 [],k∉hs.getD b.1 []
def Dj.ov{a b:Nat×Int}(h:gs∘a.1<=a.2):Dj gs hs a b:=λz=>by
 unfold lu at z;rw[vG h]at z;cases z
def M3{l r:L3}(h:∀a∈l,gs∘a.1<=a.2)(k:⇑r<=1):(l++r).Pairwise (Dj gs hs):=by
 induction l with
 | nil=>
  match r,k with
  | [],_=>rwa[.nil]
  | [a],_=>rwa[pairwise_singleton _ _]
 | cons a l ih=>rwa[vV.mpr #[λb q=>.ov (h a vq),ih λb c=>h b (vp _ c)]]
theorem Fc:∀{is:L6} {b:Int},(∀k∈is,1<=gs∘k/\gs∘k<=10^60)->(dA gs t (cU gs is b)).Pairwise (Dj gs hs)
 | [],b,_=>.nil
 | j::r,b,hg=>by
  by_cases h:b<=t
  .rw[Kn hg h];split
   .exact vV.mpr #[λb q=>.ov (vA _),Fc λk a=>hg k (vp _ a)]
   .exact pairwise_singleton _ _
  .rw[xg (λk a=>by have:=hg k a;lia) ⋯];rwa[.nil]
theorem CN:∀{is:L6},(∀k:Int,⇑((is.map λj=>hs.getD j []).filter λks=>decide (k∈ks))<=1)->is.Pairwise λj b=>∀k∈hs.getD j [],k∉hs.getD b []
 | [],_=>.nil
 | j::r,h=>by
  erw[vV.mpr #[λb c a e d=>?_,CN λk=>?_]]
  .have:=h a
   simp_all
  .have:=h k;rw[uz,v9]at this;split at this
   .rw[vQ]at this;lia
   .exact this
def NQ(N:Sn ls ps gs hs){i:Nat}(hi:i<⇑ps)(s:0<=t):(dA gs t (cP ps gs i)).Pairwise (Dj gs hs):=by
 obtain⟨p,o⟩:∃p,ps[i]?⊂p:=#[_,vz hi]
 have l:cP ps gs i=dq gs p.2 (cX ps p.2):=by unfold cP;rw[o]
 have d:∀k∈cX ps p.2,1<=gs∘k/\gs∘k<=10^60:=λk m=>by
  have:=N.s.w.c9 o m;rwa[N.g ⋯]
 rw[l];cases e:p.2 with
 | again k x=>
  rw[e]at d;rw[show cX ps (.again k x)=[cF (cb ps) x]from rfl]at d|-;have g:=(d _ vq).1;generalize cF (cb ps) x=j at g|-;show(dA gs t ((j,1,0)::(if 1<k then[(j,k-1,gs∘j)]else[]))).Pairwise _;rw[qK,xz g s,Int.sub_zero];by_cases c:gs∘j<=t
  .rw[vd c];split
   .rw[qK,ZZ,append_nil,Bb (show gs∘j<=t from c),<-List.append_assoc];erw[M3 (λa u=>?_) (by split<;>simp)];have:a=(j,gs∘j):=by
     rcases vh.mp u with z | z
     .exact vo.mp z
     .split at z
      .exact vo.mp z
      .exact nomatch z
    rw[this];rwa[vA _]
   .exact pairwise_singleton _ _
  .rw[vc c];have z:dA gs t (if 1<k then[(j,k-1,gs∘j)]else[])=[]:=by
    split
    .exact Kv λq w=>by rw[vo.mp w];show t<gs∘j;lia
    .rfl
   rw[z];rwa[pairwise_singleton _ _]
 | row xs=>rw[e]at d;rwa[Fc d]
 | side xs=>
  let⟨q,f⟩:=N.s.sd i p xs o e;rw[e]at d f;show(dA gs t ((cX ps (.side xs)).map λj=>(j,1,0))).Pairwise _;rw[Ks (λk m=>(d k m).1) s];erw[pairwise_map.mpr ((CN f).imp λ{a b} h=>?_)];have r:∀j:Nat,(if gs∘j<=t then(j,gs∘j)else(j,t)).1=j:=λj=>by split<;>rfl
  intro q;rw[r,r];rwa[h]
 | hold n=>rwa[.nil]
 | ring x n=>rwa[.nil]
 | rise x v n=>rwa[.nil]
def NP{i:Nat}{p:Str×Fm}(b:ps[i]?⊂p){x:Nat×Int}(h:x∈dA gs t (cP ps gs i)):x.1∈cX ps p.2:=by
 let⟨q,a,e⟩:=Wk h;unfold cP at a;rw[b]at a;rw[e];rwa[Kc a]
def Df(N:Sn ls ps gs hs):∀{i:Nat} {t:Int} {x:Nat×Int},i<⇑ps->x∈reach ps gs i t->∀k∈hs.getD x.1 [],k∈hs.getD i []:=by
 intro i
 induction i using Nat.strongRecOn with
 | ind i ih=>
  intro t x c a k b;by_cases h:gs∘i<=t\/cP ps gs i=[]
  .rw[Jg h]at a;rw[vo.mp a]at b;rwa[b]
  .rw[JI N.s.w h]at a;let⟨y,e,a⟩:=mem_flatMap.mp a;have f:=Qv N.s.w e;have d:=vz c;rwa[((N.m i _ _ d (wH N.s N.hl c)).2 k).mpr (.inl #[y.1,NP d e,ih y.1 f ⋯ a k b])]
def LJ(N:Sn ls ps gs hs):∀{i:Nat} {t:Int},i<⇑ps->0<=t->(reach ps gs i t).Pairwise (Dj gs hs):=by
 intro i
 induction i using Nat.strongRecOn with
 | ind i ih=>
  intro t l r;by_cases h:gs∘i<=t\/cP ps gs i=[]
  .rw[Jg h];rwa[pairwise_singleton _ _]
  .rw[JI N.s.w h];refine List.pairwise_flatMap.mpr #[λa c=>?_,(NQ N l r).imp_of_mem λ{a b} c j d x g y o z k m f=>?_]
   .have:=Qv N.s.w c;rwa[ih a.1 this ⋯ (kE (λq n=>N.nJ n) c)]
   .have s:=Qv N.s.w c;have u:=Qv N.s.w j;have p:lu gs a=false:=by
     cases e:lu gs a with
     | false=>rfl
     | true=>
      rw[Jg (.inl (of_decide_eq_true e))]at g
      simp_all
    rwa[d p k (Df N ⋯ g k m) (Df N ⋯ o k f)]
noncomputable def mH(ls:L4)(ps:N2)(h:L5)(x:Nat×Int):L5:=match ps[x.1]? with
 | some (_,.rise y v n)=>h.set (cF (cb ls) y) (Rp.ramp (h∘(cF (cb ls) y)) v n x.2)
 | _=>h
def Bq{h:L5}{x:Nat×Int}(c:lu gs x=true):gh ls ps gs E h x=cJ (E.getD x.1 []) h:=by
 unfold gh;rw[vd (of_decide_eq_true c)];rfl
def Br{h:L5}{x:Nat×Int}(c:lu gs x=false):gh ls ps gs E h x=mH ls ps h x:=by
 unfold gh;rw[vc (of_decide_eq_false c)];rfl
theorem Dh{k:Nat}{v:Int}:∀{es:Nq} {h:L5},(∀q∈es,q.1.toNat≠k)->cJ es (h.set k v)=(cJ es h).set k v
 | [],_,_=>rfl
 | q::r,h,n=>by
  rw[zh,zh,List.set_comm _ _ (n q vq).symm];rwa[Dh λy a=>n y (vp _ a)]
theorem XG{k:Nat}:∀{es:Nq} {h:L5},(∀q∈es,q.1.toNat≠k)->(cJ es h).getD k 0=h∘k
 | [],_,_=>rfl
 | q::r,h,n=>by
  rw[zh,XG λy a=>n y (vp _ a),vy,vy,List.getElem?_set_ne (n q vq)]
def Lz(N:Sn ls ps gs hs)(b:⇑E=⇑ps)(c:di ls ps E)(hi:i<⇑ps)(a:q∈E.getD i []):q.1∈hs.getD i []:=by
 have:=N.s.mv _ (by simp_all) (EL b c) i hi;rw[<-this,vy,vv,vz ⋯];rw[vy,vz ⋯]at a;rwa[vK.mpr #[q,a,rfl]]
def Lm(N:Sn ls ps gs hs)(o:⇑E=⇑ps)(i:di ls ps E){x y:Nat×Int}(k:x.1<⇑ps)(l:y.1<⇑ps)(a:lu gs x=false)(c:lu gs y=true)(d:Dj gs hs x y)(h:L5) :
  gh ls ps gs E (gh ls ps gs E h x) y=gh ls ps gs E (gh ls ps gs E h y) x:=by
 rw[Bq c,Bq c,Br a,Br a];unfold mH;split
 .rename_i nm z v n hp;have j:((cF (cb ls) z:Nat):Int)∈hs.getD x.1 []:=((N.m x.1 _ _ hp (wH N.s N.hl k)).2 _).mpr (.inr #[z,v,n,rfl,rfl]);have g:∀q∈E.getD y.1 [],q.1.toNat≠cF (cb ls) z:=λq f e=>by
   have b:=(kT N.s.w ⋯ i y.1 q f).1;have m:=Lz N o i l f;rw[show q.1=((cF (cb ls) z:Nat):Int) by lia]at m;rwa[d a _ j m]
  rw[Dh g,XG g]
 .rfl
noncomputable def gY(ls:L4)(ps:N2)(gs:L5)(E:L0)(t:Int):L5:=((reach ps gs (⇑ps-1) t).filter (lu gs)).foldl (λh x=>cJ (E.getD x.1 []) h) (ls.map (·.2))
def Hg{x:Nat×Int}{y:Str}{v n:Int}{nm:Str}(a:ps[x.1]?⊂(nm,.rise y v n)):eU ps gs x=true:=by
 unfold eU cP;rw[a];rfl
def Hf{x:Nat×Int}{y:Str}{n:Int}{nm:Str}(a:ps[x.1]?⊂(nm,.ring y n)):eU ps gs x=true:=by
 unfold eU cP;rw[a];rfl
def Gm(N:Sn ls ps gs hs)(o:⇑E=⇑ps)(q:di ls ps E)(r:0<=t){P:L3}(l:P.filter (eU ps gs)=(reach ps gs (⇑ps-1) t).filter λx=>!lu gs x) :
  P.foldl (mH ls ps) (gY ls ps gs E t)=cS ls ps gs E t:=by
 have s:=N.ne;have i:∀x∈reach ps gs (⇑ps-1) t,x.1<⇑ps:=λx e=>Km N.s.w ⋯ e
 rw[<-K6 (p:=eU ps gs) (λx Z c h=>?_),l]
 .unfold cS gY;rw[<-K5 (p:=lu gs) (f:=gh ls ps gs E) ((LJ N (show ⇑ps-1<⇑ps by lia) r).imp_of_mem λ{a b} m n d j k h=>Lm N o q (i a m) (i b n) j k d h)];rw[yj (f:=gh ls ps gs E) (g:=mH ls ps) λx e h=>Br (by simpa using(vP.mp e).2)];rw[yj (f:=gh ls ps gs E) (g:=λh x=>cJ (E.getD x.1 []) h) λx e h=>Bq (vP.mp e).2]
 .unfold mH;split
  .rename_i hp;rw[Hg hp]at c;cases c
  .rfl
def Gk(N:Sn ls ps gs hs){P:L3}(a:P.filter (eU ps gs)=(reach ps gs (⇑ps-1) t).filter λx=>!lu gs x):P.flatMap (cZ ps)=dD ps gs t:=by
 have d:=N.ne;unfold dD;rw[<-YU (p:=eU ps gs) (λx q c=>?_),a,YU λx b c=>?_]
 .have c:lu gs x=true:=by simpa using c
  have c:=of_decide_eq_true c;have:=(N.g (Km N.s.w (show ⇑ps-1<⇑ps by lia) b)).1;unfold cZ;split
  .rw[vc ⋯]
  .rfl
 .unfold cZ;split
  .rename_i hp;rw[Hf hp]at c;cases c
  .rfl
end
structure c8(C:Addr)(H:Hp)(a:Addr)(z:Sa)(ls:L4)(ps:N2)(gs:L5)(E:L0):Prop where
 ob:∃dx,H a⊂(.ins C dx (i9 z))
 hd:H z.d⊂(.dK (gA (cb ls)))
 hf:H z.f⊂(.lst ((ls.map (·.2)).map V.int))
 ho:H z.o⊂(.lst (z.fb.map V.ref))
 fo:cp (λa p=>cw H a p.2) z.fb ps
 hs:H z.s⊂(.lst (gs.map V.int))
 hl:H z.l⊂(.lst (z.la.map V.ref))
 el:⇑E=⇑ps
 ea:mK H z.la E
 eo:di ls ps E
 hp:H z.p⊂(.lst (z.pa.map V.ref))
 pa:om H z.pa (ps.map λp=>dq gs p.2 (cX ps p.2))
def c8.same{C:Addr}{H H':Hp}{a:Addr}{z:Sa}{ls:L4}{ps:N2}{gs:L5}{E:L0}(A:c8 C H a z ls ps gs E)(s:cj H H'):c8 C H' a z ls ps gs E:=
 #[A.ob.imp λg h=>s _ _ h,s _ _ A.hd,s _ _ A.hf,s _ _ A.ho,cp.mono A.fo λa p h=>cw.same s h,s _ _ A.hs,s _ _ A.hl,A.el,cp.mono A.ea λa e ⟨c,d,f⟩=>#[c,s _ _ d,cp.mono f λb q h=>s _ _ h],A.eo,
  s _ _ A.hp,cp.mono A.pa λa e ⟨c,d,f⟩=>#[c,s _ _ d,cp.mono f λb q h=>s _ _ h]]
inductive fQ(C:Addr)(vs:N4)(H:Hp)(Q:VK)(xk:XK):Prop
 | mk (a z) (ls:L4) (ps:N2) (gs hs E t):vs=[.ref a,.int t]->c8 C H a z ls ps gs E->Sn ls ps gs hs->0<=t->t<=gs∘(⇑ps-1)->(∀(l:Addr) (H':Hp),cj H H'->H l=none->H' l⊂(.lst ((cS ls ps gs E t).map V.int))->⇑(cS ls ps gs E t)=⇑ls->Q (.ref l) H')->fQ C vs H Q xk
inductive hW(C:Addr)(vs:N4)(H:Hp)(Q:VK)(xk:XK):Prop
 | mk (a z ls) (ps:N2) (gs hs E t):vs=[.ref a,.int t]->c8 C H a z ls ps gs E->Sn ls ps gs hs->0<=t->t<=gs∘(⇑ps-1)->(∀(l:Addr) (H':Hp),cj H H'->H l=none->H' l⊂(.lst ((dD ps gs t).map V.str))->⇑(dD ps gs t)<=5000->Q (.ref l) H')->hW C vs H Q xk
def cw.put{H H':Hp}{a:Addr}{f:Fm}(k:∀b xs,H b⊂.tup xs->H' b⊂.tup xs)(h:cw H a f):cw H' a f:=by
 cases f with
 | row ps=>let⟨c,d,e⟩:=h;rwa[c,k _ _ d,k _ _ e]
 | side ps=>let⟨c,d,e⟩:=h;rwa[c,k _ _ d,k _ _ e]
 | hold n=>rwa[k _ _ h]
 | ring x n=>rwa[k _ _ h]
 | rise x v n=>rwa[k _ _ h]
 | again k' x=>rwa[k _ _ h]
theorem Ff{a:Type}{f:a->Nat}:∀{l:List a},(∀x∈l,1<=f x)->⇑l<=(l.map f).sum
 | [],_=>vb _
 | x::r,h=>by
  have c:=h x vq;have d:=Ff (l:=r) λy b=>h y (vp _ b)
  rw[uz,uy,vQ];lia
section
variable{ls:L4}{ps:N2}{gs:L5}{E:L0}{D:L3}{x:Nat×Int}
noncomputable def m3(ls:L4)(gs:L5)(E:L0)(D:L3):L5:=(D.filter (lu gs)).foldl (λh x=>cJ (E.getD x.1 []) h) (ls.map (·.2))
def WT(h:lu gs x=false):m3 ls gs E (if eU ps gs x=true then D++[x]else D)=m3 ls gs E D:=by
 split
 .unfold m3;rw[filter_append,filter_cons_of_neg (by rw[h];decide)];show(D.filter (lu gs)++[]).foldl _ _=_;rw[append_nil]
 .rfl
def WU(h:lu gs x=true):m3 ls gs E (D++[x])=cJ (E.getD x.1 []) (m3 ls gs E D):=by
 unfold m3;rw[filter_append,filter_cons_of_pos h,foldl_append];rfl
def Xy(W:eI ls ps){i:Nat}{t:Int}(c:t<gs∘i):1+((dA gs t (cP ps gs i)).map λx=>nodes ps gs x.1 x.2).sum<=nodes ps gs i t:=by
 by_cases e:cP ps gs i=[]
 .rw[e,ko (.inr e)];rwa[vb _]
 .rw[W1 W (λh=>h.elim (λz=>⋯) e)];rwa[vb _]
end
structure tH(ls:L4)(ps:N2)(gs:L5)(E:L0)(t0:Int)(H H':Hp)(p1 p2 p4:Addr)(pas tas:L7)(D P S:L3):Prop where
 sm:cj H H'
 e1:H' p1⊂(.lst ((m3 ls gs E D).map V.int))
 e2:H' p2⊂(.lst (pas.map V.ref))
 eT:H' p4⊂(.lst (tas.map V.ref))
 gP:fG H' pas P
 gT:fG H' tas S
 inv:D++S.reverse.flatMap (λx=>reach ps gs x.1 x.2)=reach ps gs (⇑ps-1) t0
 hS:∀x∈S,x.1<⇑ps/\0<=x.2
 hP:P.filter (eU ps gs)=D.filter λx=>!lu gs x
 bP:∀x∈P,x.1<⇑ps/\0<=x.2/\x.2<gs∘x.1
 AN:⇑P+(S.map λx=>nodes ps gs x.1 x.2).sum<=5000
 ll:⇑(m3 ls gs E D)=⇑ls
 hb:∀h∈m3 ls gs E D,0<=h/\h<=10^18
section
variable{L:L8}{fs:List Fn}{M:L1}{gs:L5}{names:L8}{n:Nat}{E:L0}
def Q0:eD L names fs gs E j (gs∘j) h=cJ (E.getD j []) h:=by
 unfold eD;rw[Jg (.inl (vA _))];show i7 L fs gs E h (j,gs∘j)=_;unfold i7;rw[vd (vA _)]
def yO(a:1<=gs∘j):eV names fs gs j (gs∘j)=[]:=by
 unfold eV;rw[Jg (.inl (vA _)),flatMap_cons,List.flatMap_nil,append_nil];unfold cZ;split
 .rw[vc (show¬gs∘j=0 by lia)]
 .rfl
def zY(D:ez L fs M gs)(b:⇑fs<=⇑names)(d:names.Nodup)(a:fs[k]?⊂f):cP (cg names fs) gs k=dq gs (cV names f) f.js:=by
 have js:=(D.f k f a).1.js.2;have e:=(vx.mp a).1;unfold cP;rw[qg a];show dq _ _ _=_;rw[zE b d λj c=>by have:=js j c;lia]
theorem wo:∀{is:L6} {b:Int} {i:Nat},(∀k∈is,1<=gs∘k/\gs∘k<=10^60)->b+((is.take i).map λj=>gs∘j).sum<=t->dA gs t (cU gs is b)=((is.take i).map λj=>(j,gs∘j))++dA gs t (cU gs (is.drop i) (b+((is.take i).map λj=>gs∘j).sum))
 | [],b,i,_,h=>by simp[cU,ZZ]
 | j::r,b,0,_,h=>by
  show _=[]++dA gs t (cU gs (j::r) (b+0));rw[Int.add_zero,nil_append]
 | j::r,b,i+1,hg,h=>by
  have g:=hg j vq;have d:∀l:L6,(∀k∈l,1<=gs∘k)->0<=(l.map λj=>gs∘j).sum:=λl=>by
   induction l with
   | nil=>intro q;rwa[vA _]
   | cons x l ih=>
    intro c;rw[uz,uy];have:=ih λk a=>c k (vp _ a)
    have:=c x vq;lia
  have e:=d (r.take i) λk a=>(hg k (vp _ (mem_of_mem_take a))).1
  rw[List.take_succ_cons,uz,uy]at h;rw[Kn hg ⋯,vd ⋯,List.take_succ_cons,uz,uz,uy,List.drop_succ_cons,wo (is:=r) (i:=i) (λk a=>hg k (vp _ a)) ⋯,cons_append,Int.add_assoc]
def CL(p:1<=gs∘j)(k1:1<=k)(a:0<=t)(r:t<=k*gs∘j) :
  (t/gs∘j=0/\dA gs t ((j,1,0)::(if 1<k then[(j,k-1,gs∘j)]else[]))=[(j,t%gs∘j)])\/
  (1<=t/gs∘j/\t/gs∘j<k/\∃z,(z=[]\/z=[(j,gs∘j)])/\dA gs t ((j,1,0)::(if 1<k then[(j,k-1,gs∘j)]else[]))=(j,gs∘j)::z++[(j,t%gs∘j)])\/
  (t/gs∘j=k/\∃z,(z=[]\/z=[(j,gs∘j)])/\dA gs t ((j,1,0)::(if 1<k then[(j,k-1,gs∘j)]else[]))=(j,gs∘j)::z):=by
 rw[qK,xz p a,Int.sub_zero];generalize b:gs∘j=g at *;have u:=Int.emod_add_mul_ediv t g;have v:=ve t (show g≠0 by lia);have w:=vf t (show 0<g by lia);have s:t/g<=k:=by
  have:=Int.ediv_le_ediv (show 0<g by lia) r;rw[Int.mul_ediv_cancel _ (show g≠0 by lia)]at this;rwa[this]
 have m:(t-g)/g=t/g-1:=by
  have:=Int.add_mul_ediv_right t (-1) (show g≠0 by lia);have e:t + -1*g=t-g:=⋯
  rw[e]at this;lia
 by_cases c:g<=t
 case neg=>
  have i:t/g=0:=Int.ediv_eq_zero_of_lt a ⋯;have q:t%g=t:=Int.emod_eq_of_lt a ⋯;erw[.inl #[i,?_]];rw[vc c,q];split
  .rw[qK,ZZ,D7 (show t<g by lia)];rfl
  .rw[ZZ];rfl
 have l:1<=t/g:=by
  have:=Int.ediv_le_ediv (show 0<g by lia) c;rw[Int.ediv_self (show g≠0 by lia)]at this;rwa[this]
 rw[vd c];have n:ov gs t (j,k-1,g)=t/g-1:=by
  unfold ov;show(if k-1<(t-g)/gs∘j then k-1 else(t-g)/gs∘j)=_;rw[b,m];split<;>lia
 have o:t-g-(t/g-1)*g=t%g:=by
  have:(t/g-1)*g=g*(t/g)-g:=by rw[Int.sub_mul,Int.one_mul,Int.mul_comm]
  lia
 by_cases f:1<k
 .rw[vd f,qK,ZZ,append_nil,Bb (show g<=t from c),n];show _\/(_/\_/\∃z,_/\[(j,g)]++((if 0<t/g-1 then[(j,gs∘j)]else[])++(if t/g-1<k-1 then[(j,t-g-(t/g-1)*gs∘j)]else[]))=_)\/(_/\∃z,_/\[(j,g)]++((if 0<t/g-1 then[(j,gs∘j)]else[])++(if t/g-1<k-1 then[(j,t-g-(t/g-1)*gs∘j)]else[]))=_);rw[b,o];have d:(if 0<t/g-1 then[(j,g)]else[])=[]\/(if 0<t/g-1 then[(j,g)]else[])=[(j,g)]:=by split<;>simp
  by_cases h:t/g=k
  .refine .inr (.inr #[h,_,d,?_]);rw[vc (show¬t/g-1<k-1 by lia),append_nil];rfl
  .refine .inr (.inl #[l,⋯,_,d,?_]);rw[vd (show t/g-1<k-1 by lia)];rfl
 .rw[vc f,ZZ];rwa[.inr (.inr #[⋯,[],.inl rfl,rfl])]
noncomputable def Fn.comp:Fn->Prop
 | .row _=>True
 | .side _=>True
 | .again _ _=>True
 | _=>False
def K7{js:L6}{h:L5}:(js.map λj=>(j,gs∘j)).foldl (λh x=>eD L names fs gs E x.1 x.2 h) h=js.foldl (λh j=>cJ (E.getD j []) h) h:=by
 rw[List.foldl_map];rwa[yj λj q h=>Q0]
theorem Wh:∀{js:L6},(∀j∈js,1<=gs∘j)->((js.map λj=>(j,gs∘j)).flatMap λx=>eV names fs gs x.1 x.2)=[]
 | [],_=>rfl
 | j::r,h=>by
  rw[uz,flatMap_cons,Wh λk a=>h k (vp _ a)];show eV names fs gs j (gs∘j)++[]=[]
  rw[yO (h j vq)];rfl
def X8(D:ez L fs M gs)(s:⇑fs<=⇑names)(I:names.Nodup)(p:L.Nodup)(T:⇑L<=8)(y:⇑fs<=61)(e:EN L fs n E)(H:n<=⇑fs){k:Nat}(R:k<n){f:Fn}(A:fs[k]?⊂f)(o:f.comp){t:Int}(K:0<=t)(t1:t<=gs∘k)(h:L5) :
  eD L names fs gs E k t h=(oZ names fs gs k t).foldl (λh x=>eD L names fs gs E x.1 x.2 h) h/\eV names fs gs k t=(oZ names fs gs k t).flatMap λx=>eV names fs gs x.1 x.2:=by
 have G:cb (L.map λx=>(x,(0:Int)))=L:=by
  unfold cb;rw[v7];rwa[map_id _]
 have W:eI (L.map λx=>(x,(0:Int))) (cg names fs):=ez.wf (by rw[G];rwa[D]) s I (by rw[G];rwa[p]) (by rw[vt];rwa[T]) y;let⟨u,Z,l⟩:=D.f k f A;have js:=u.js.2;have d:∀j∈f.js,1<=gs∘j/\gs∘j<=10^60:=λj b=>D.g j (by have:=js j b;lia)
 have q:=zY D s I A;have Y:∀x v m,f≠.rise x v m:=λx v m h=>by rw[h]at o;rwa[o]
 by_cases c:gs∘k<=t
 case neg=>
  have X:cP (cg names fs) gs k≠[]:=by
   rw[q];cases f with
   | row is=>
    let⟨a,_⟩:=u;cases is with
    | nil=>rwa[ud rfl a]
    | cons j r=>rwa[cons_ne_nil _ _]
   | side is=>
    let⟨a,_⟩:=u;cases is with
    | nil=>rwa[ud a nofun]
    | cons j r=>rwa[cons_ne_nil _ _]
   | again m j=>rwa[cons_ne_nil _ _]
   | hold m=>rwa[o.elim]
   | ring x m=>rwa[o.elim]
   | rise x v m=>rwa[o.elim]
  have N:=JI W (t:=t) (show¬(gs∘k<=t\/cP (cg names fs) gs k=[])from λz=>z.elim c X);unfold eD eV oZ;rw[N,WQ,Xj];rwa[rfl,rfl]
 have O:t=gs∘k:=⋯
 subst O;have lhs:=Q0 (L:=L) (names:=names) (fs:=fs) (gs:=gs) (E:=E) (j:=k) (h:=h);have rhs:eV names fs gs k (gs∘k)=[]:=yO (D.g k ⋯).1;rw[lhs,rhs,e.all D p H R A Y h];unfold oZ;rw[q];cases f with
 | row is=>
  have d:∀j∈is,1<=gs∘j/\gs∘j<=10^60:=d;have l:gs∘k=(is.map λj=>gs∘j).sum:=l;have w:dA gs (gs∘k) (dq gs (cV names (.row is)) is)=is.map λj=>(j,gs∘j):=by
   show dA gs _ (cU gs is 0)=_;rw[wo (is:=is) (i:=⇑is) d (by rw[v5];lia),v5,List.drop_length];show _++dA gs _ []=_;rw[ZZ,append_nil]
  show _=(dA gs (gs∘k) (dq gs (cV names (.row is)) is)).foldl _ h/\_=(dA gs (gs∘k) (dq gs (cV names (.row is)) is)).flatMap _;rw[w,K7,Wh (js:=is) λj b=>(d j b).1];rwa[rfl,rfl]
 | side is=>
  have d:∀j∈is,1<=gs∘j/\gs∘j<=10^60:=d;let⟨_,l⟩:=l;have w:dA gs (gs∘k) (dq gs (cV names (.side is)) is)=is.map λj=>(j,gs∘j):=by
   show dA gs _ (is.map λj=>(j,1,0))=_;rw[Ks (is:=is) (λj b=>(d j b).1) K];rwa[map_congr_left λj b=>by rw[vd (l j b)]]
  show _=(dA gs (gs∘k) (dq gs (cV names (.side is)) is)).foldl _ h/\_=(dA gs (gs∘k) (dq gs (cV names (.side is)) is)).flatMap _;rw[w,K7,Wh (js:=is) λj b=>(d j b).1];rwa[rfl,rfl]
 | again m j=>
  have l:gs∘k=m*gs∘j:=l;let⟨U,_,b⟩:=u;have F:=(d j vq).1;have em:gs∘k/gs∘j=m:=by rw[l,Int.mul_ediv_cancel _ (show gs∘j≠0 by lia)]
  obtain⟨Q,B⟩:∃g,fs[j]?⊂g:=#[_,vz ⋯]
  have C:=xq (e j Q ⋯ B).1 (e.pos D p H (show j<n by lia)) h;show[j].foldl _ h=(dA gs (gs∘k) ((j,1,0)::(if 1<m then[(j,m-1,gs∘j)]else[]))).foldl _ h/\[]=(dA gs (gs∘k) ((j,1,0)::(if 1<m then[(j,m-1,gs∘j)]else[]))).flatMap _;rcases CL F U K (show gs∘k<=m*gs∘j by lia)with⟨z,_⟩ | ⟨_,z,_⟩ | ⟨_,z,S,P⟩
  .lia
  .lia
  .rw[P];have J:eV names fs gs j (gs∘j)=[]:=yO F;rcases S with rfl | rfl
   .refine#[Q0.symm,?_];show[]=eV names fs gs j (gs∘j)++[];rw[J];rfl
   .constructor
    .show cJ (E.getD j []) h=eD L names fs gs E j (gs∘j) (eD L names fs gs E j (gs∘j) h);rw[Q0,Q0,C]
    .show[]=eV names fs gs j (gs∘j)++(eV names fs gs j (gs∘j)++[]);rw[J];rfl
 | hold m=>rwa[o.elim]
 | ring x m=>rwa[o.elim]
 | rise x v m=>rwa[o.elim]
end
noncomputable def fM(c k:Int):Int:=(c%10^30+k*k+1)*314159265358979323846264338327%(10^30+57)
def yr(c k:Int):0<=fM c k/\fM c k<10^30+57:=#[ve _ nofun,vf _ nofun]
def Kt:Sp:=λvs H Q q=>∃c k:Int,vs=[.int c,.int k]/\0<=k/\k<=10^20/\Q (.int (fM c k)) H
noncomputable def fU(x y m:Int):Int×Int×Int:=if 0<x then(x%m,x/m,y)else(fM ((y+m)*314159265358979323846264338327%(10^30+57)) m/1000%m,x,fM ((y+m)*314159265358979323846264338327%(10^30+57)) m)
def Jy(h:1<=m):0<=(fU x y m).1/\(fU x y m).1<m:=by
 unfold fU;split<;>rwa[ve _ ⋯,vf _ ⋯]
inductive fT(vs:N4)(H:Hp)(Q:VK)(xk:XK):Prop
 | mk (p x y m):vs=[.ref p,.int m]->H p⊂(.lst [.int x,.int y])->1<=m->m<=10^20->0<=y->y<10^30+57->(∀H',Ex p H H'->H' p⊂(.lst [.int (fU x y m).2.1,.int (fU x y m).2.2])->Q (.int (fU x y m).1) H')->fT vs H Q xk
noncomputable def CG:Str:=Str.ofString "abcdefghijklnopqrstuvwxyz"
noncomputable def lA(p k:Nat):Str:=Txt.slice "mm" none (some (p:Int))++(⟨#[CG.cps.toList.getD (k%25) 97]⟩:Str)++(⟨#[if k<25 then 110 else 111]⟩:Str)++Txt.slice "mm" (some (p:Int)) none
inductive gX(vs:N4)(H:Hp)(Q:VK)(xk:XK):Prop
 | mk (p k):vs=[.int (p:Nat),.int (k:Nat)]->p<3->k<50->Q (.str (lA p k)) H->gX vs H Q xk
def CY:⇑(Txt.slice x a b)<=⇑x:=Lx
noncomputable def fD(nm:L8)(gs:L5):List (Key×V):=(nm.zip gs).map λp=>(Sum.inr p.1,.int p.2)
def Zr(h:⇑nm=⇑gs):(fD nm gs).map (·.1)=nm.map Sum.inr:=by
 unfold fD;rw[v7];have e:(Function.comp (λx:Key×V=>x.1) λp:Str×Int=>((Sum.inr p.1:Key),V.int p.2))=Function.comp (λx:Str=>(Sum.inr x:Key)) Prod.fst:=rfl;rw[e,<-v7,List.map_fst_zip ⋯]
def kZ(c:nm.Nodup)(h:⇑nm=⇑gs)(b:j<⇑nm):dt (fD nm gs) (Sum.inr (nm.getD j ⟨#[]⟩))⊂(.int (gs∘j)):=by
 erw[xw (j:=j) (by rw[Zr h];rwa[pairwise_map.mpr (c.imp λh e=>h (Sum.inr.inj e))]) ?_];have a:j<⇑gs:=⋯
 have e:(nm.zip gs)[j]?⊂(nm[j],gs[j]):=List.getElem?_zip_eq_some.mpr #[vz b,vz a];unfold fD;rw[vv,e,vy,vy,vz b,vz a];rfl
inductive gW(vs:N4)(H:Hp)(Q:VK)(xk:XK):Prop
 | mk (fa d f) (nm:L8) (gs:L5) (L M):vs=[.ref fa,.ref d]->cw H fa (cV nm f)->H d⊂(.dK (fD nm gs))->nm.Nodup->⇑nm=⇑gs->eJ L M ⇑nm f->(∀j,j<⇑nm->1<=gs∘j/\gs∘j<=10^60)->(∀(g:Int) (H':Hp),cj H H'->gf gs f g->Q (.int g) H')->gW vs H Q xk
def oq(H:Hp)(as:L7)(Ms:List L8):Prop:=cp (λa ks=>H a⊂(.lst (ks.map V.str))) as Ms
noncomputable def uG:Fn->L6
 | .row is=>is
 | .side is=>is
 | _=>[]
def nj(Ms:List L8)(f:Fn)(ks:L8):Prop:=ks.Nodup/\∀s,s∈ks↔(∃j∈f.js,s∈Ms.getD j [])\/∃h n,f = .rise s h n
inductive fX(vs:N4)(H:Hp)(Q:VK)(xk:XK):Prop
 | mk (fa nl ml) (mas:L7) (f) (nm:L8) (Ms:List L8) (L M):vs=[.ref fa,.ref nl,.ref ml]->cw H fa (cV nm f)->H nl⊂(.lst (nm.map V.str))->H ml⊂(.lst (mas.map V.ref))->oq H mas Ms->nm.Nodup->Ms.length=⇑nm->⇑nm<=20->eJ L M ⇑nm f->(∀ks∈Ms,⇑ks<=8)->(∀(l:Addr) (ks:L8) (H':Hp),cj H H'->H l=none->H' l⊂(.lst (ks.map V.str))->nj Ms f ks->⇑ks<=80->Q (.ref l) H')->fX vs H Q xk
theorem A6(n:Str):∀hs:L8,oC (.str n) (hs.map V.str)=decide (n∈hs)
 | []=>by simp[oC]
 | h::r=>by
  have a:=A6 n r;unfold oC at a|-;rw[uz,any_cons,a];have e:mZ (.str h) (.str n)=decide (h=n):=by
   show(h==n)=_
   lia
  rw[e,Bool.eq_iff_iff]
  grind
theorem mh:∀hs:L8,(hs.map V.str).all fj=true
 | []=>rfl
 | h::r=>by rw[uz,all_cons,mh r];rfl
def uh{xs:L8}(d:xs.Nodup){j:Nat}(g:j<⇑xs):(xs.map V.str)[j]?⊂(.str (xs.getD j ⟨#[]⟩))/\mZ (.str (xs.getD j ⟨#[]⟩)) (.str (xs.getD j ⟨#[]⟩))=true/\∀(n:Nat) (z:V),n<j->(xs.map V.str)[n]?⊂z->mZ z (.str (xs.getD j ⟨#[]⟩))=false:=by
 have h:xs[j]?⊂(xs.getD j ⟨#[]⟩):=by simp_all
 erw[by rw[vv,h];rfl,(by show(xs.getD j ⟨#[]⟩==xs.getD j ⟨#[]⟩)=true;rwa[beq_self_eq_true _]),λn z i c=>?_];rw[vv]at c;let⟨w,f,rfl⟩:=vg.mp c;show(w==xs.getD j ⟨#[]⟩)=false;erw[beq_eq_false_iff_ne.mpr λe=>?_]
 rw[<-e]at h;have a:=jZ d f;have b:=jZ d h;lia
noncomputable def ib(L ks:L8):L5:=((List.range ⇑L).filter λi=>decide (L.getD i ⟨#[]⟩∈ks)).map λi:Nat=>(i:Int)
def yM:k∈ib L ks↔∃(i:Nat) (s:Str),L[i]?⊂s/\s∈ks/\k=(i:Int):=by
 unfold ib;constructor
 .intro h;let⟨i,d,rfl⟩:=vK.mp h;let⟨a,c⟩:=vP.mp d;have b:=v4.mp a;erw[i,L[i],vz b,?_,rfl];have:=of_decide_eq_true c;rw[vy,vz b]at this;rwa[this]
 .rintro⟨i,s,a,c,rfl⟩;have b:=(vx.mp a).1;erw[vK.mpr #[i,vP.mpr #[v4.mpr b,vG ?_],rfl]];rw[vy,a];rwa[c]
def Nh:(ib L ks).Pairwise (· < ·):=by
 unfold ib;erw[pairwise_map.mpr ?_];erw[(List.Pairwise.filter _ (List.pairwise_lt_range (n:=⇑L))).imp λ{a b} h=>?_]
 lia
def rK(L:L8)(Ms:List L8):Prop:=∀ks∈Ms,ks.Nodup/\∀s∈ks,s∈L
def rK.at'(I:rK L Ms)(j:Nat):∀s∈Ms.getD j [],s∈L:=λs a=>by
 rw[vy]at a;cases e:Ms[j]? with
 | none=>rw[e]at a;cases a
 | some ks=>rw[e]at a;rwa[(I ks (vm e)).2 s a]
def IM{a b:L8}(d:a.Nodup)(h:∀x∈a,x∈b):⇑a<=⇑b:=by
 induction a generalizing b with
 | nil=>rwa[va _]
 | cons x r ih=>
  rw[um]at d;have f:=h x vq;have:=ih (b:=b.erase x) d.2 λy g=>by
   have c:y≠x:=λe=>d.1 (e▸g)
   rwa[(List.mem_erase_of_ne c).mpr (h y (vp _ g))]
  rw[List.length_erase_of_mem f]at this;have:0<⇑b:=List.length_pos_of_mem f;rw[vQ];lia
def rK.len{L:L8}{Ms:List L8}(I:rK L Ms){ks:L8}(h:ks∈Ms):⇑ks<=⇑L:=IM (I ks h).1 (I ks h).2
def Kk{L:L8}{Ms:List L8}(j:Nat):(Ms.map (ib L)).getD j []=ib L (Ms.getD j []):=by
 rw[vy,vy,vv];cases Ms[j]? with
 | none=>
  show[]=ib L [];erw[(List.eq_nil_iff_forall_not_mem.mpr λk a=>?_).symm];let⟨q,q,q,h,q⟩:=yM.mp a;cases h
 | some x=>rfl
def Ni(h:∀s∈ks,s∈L)(n:ks≠[]):ib L ks≠[]:=λz=>by
 let⟨s,a⟩:=List.exists_mem_of_ne_nil ks n;let⟨i,b⟩:=List.mem_iff_getElem?.mp (h s a);have:=yM.mpr #[i,s,b,a,rfl];rw[z]at this;cases this
def lG(Ms:List L8)(is:L6):Prop:=(∀j∈is,Ms.getD j []≠[])/\is.Pairwise λa b=>∀s∈Ms.getD a [],¬s∈Ms.getD b []
def lG.n(I:rK L Ms)(h:lG Ms is):nX (Ms.map (ib L)) is:=by
 erw[λj g=>?_,h.2.imp λ{a b} d k f c=>?_]
 .rw[Kk];rwa[Ni (I.at' j) (h.1 j g)]
 .rw[Kk]at f c;let⟨i,s,n,o,rfl⟩:=yM.mp f;let⟨l,r,p,q,e⟩:=yM.mp c;have m:i=l:=⋯
  simp_all
def nj.n(h:nj Ms f ks):lL L (Ms.map (ib L)) f (ib L ks):=by
 erw[Nh,λk=>?_];rw[yM];constructor
 .rintro⟨i,s,a,b,rfl⟩;rcases(h.2 s).mp b with⟨j,c,g⟩ | ⟨v,n,e⟩
  .exact .inl #[j,c,by rw[Kk];rwa[yM.mpr #[i,s,a,g,rfl]]]
  .exact .inr #[s,v,n,i,e,a,rfl]
 .rintro(⟨j,c,d⟩ | ⟨x,v,n,i,e,a,rfl⟩)
  .rw[Kk]at d;let⟨i,s,a,b,rfl⟩:=yM.mp d;rwa[i,s,a,(h.2 s).mpr (.inl #[j,c,b]),rfl]
  .exact#[i,x,a,(h.2 x).mpr (.inr #[v,n,e]),rfl]
def nj.FI{L:L8}{Ms:List L8}{f:Fn}{ks:L8}{M:L1}{n:Nat}(I:rK L Ms)(p:eJ L M n f)(h:nj Ms f ks):ks.Nodup/\∀s∈ks,s∈L:=by
 erw[h.1,λs c=>?_];rcases(h.2 s).mp c with⟨j,_,b⟩ | ⟨v,n,e⟩
 .exact I.at' j s b
 .subst e;let⟨⟨i,a⟩,q⟩:=p;rwa[vm a]
def ez.AJ{L:L8}{fs:List Fn}{M:L1}{gs:L5}{f:Fn}{ks:L5}{g:Int}(D:ez L fs M gs)(q:eJ L M ⇑fs f)(t:lL L M f ks)(u:gf gs f g)(v:1<=g/\g<=10^60):ez L (fs++[f]) (M++[ks]) (gs++[g]):=by
 have r:=D.ml;have n:=D.gl;erw[by simp[r],by simp[n],λi p d=>?_,λi k=>?_]
 .by_cases k:i<⇑fs
  .rw[vB k]at d;let⟨a,b,c⟩:=D.f i p d;have l:=a.js.2;rw[QZ ⋯,QZ ⋯];rwa[a.ext ⋯,b.ext λj h=>by have:=l j h;lia,c.ext λj h=>by have:=l j h;lia]
  .rw[vC ⋯]at d;have o:i=⇑fs:=by
    have:=(vx.mp d).1;simp at this;lia
   subst o;rw[uq]at d;have e:p=f:=(vL d).symm;subst e;have l:=q.js.2;have s:(M++[ks]).getD ⇑fs []=ks:=by rw[<-r];rwa[Zq]
   have m:(gs++[g]).getD ⇑fs 0=g:=by rw[<-n];rwa[Zq]
   rw[s,m];rwa[q.ext ⋯,t.ext λj h=>by have:=l j h;lia,u.ext λj h=>by have:=l j h;lia]
 .rw[vn]at k;have k:i<⇑fs+1:=k;by_cases c:i<⇑fs
  .rw[QZ ⋯];rwa[D.g i c]
  .have e:i=⇑fs:=⋯
   subst e;have m:(gs++[g]).getD ⇑fs 0=g:=by rw[<-n];rwa[Zq]
   rw[m];rwa[v]
def Mb(p:eJ L M n f)(l:gf gs f g)(b:∀j,j<n->1<=gs∘j):1<=g:=by
 cases f with
 | hold m=>let⟨c,o⟩:=p;have e:g=m:=l;lia
 | ring x m=>let⟨c,o,Z⟩:=p;have e:g=m:=l;lia
 | rise x v m=>let⟨Z,Z,Z,c,o⟩:=p;have e:g=m:=l;lia
 | row is=>
  let⟨c,o,d⟩:=p;have e:g=(is.map λj=>gs∘j).sum:=l;have q:∀a:L6,(∀j∈a,j<n)->0<=(a.map λj=>gs∘j).sum:=λa=>by
   induction a with
   | nil=>rwa[λZ=>vA _]
   | cons j a ih=>
    intro h;rw[uz,uy];have:=b j (h j vq);have:=ih λi r=>h i (vp _ r)
    lia
  cases is with
  | nil=>rwa[ud rfl c]
  | cons j a=>
   rw[e,uz,uy];have u:=b j (d j vq);have:=q a λi r=>d i (vp _ r)
   lia
 | side is=>
  let⟨Z,Z,d,Z⟩:=p;let⟨⟨j,t,e⟩,Z⟩:=l;have:=b j (d j t);lia
 | again k j=>
  let⟨c,o,d⟩:=p;have e:g=k*gs∘j:=l;have s:=b j d;have:=Int.mul_le_mul c s nofun ⋯;lia
def gf.uniq(h:gf gs f g)(h':gf gs f g'):g=g':=by
 cases f with
 | side is=>
  let⟨⟨j,b,e⟩,m⟩:=h;let⟨⟨c,a,i⟩,d⟩:=h';have:=m c a;have:=d j b;lia
 | hold n=>rwa[Eq.trans h (Eq.symm h')]
 | ring x n=>rwa[Eq.trans h (Eq.symm h')]
 | rise x v n=>rwa[Eq.trans h (Eq.symm h')]
 | row is=>rwa[Eq.trans h (Eq.symm h')]
 | again k j=>rwa[Eq.trans h (Eq.symm h')]
def nD(xs:L8):PyData.eqv (.list (xs.map PyData.str)) (.list [])=decide (xs=[]):=by
 cases xs<;>simp[PyData.eqv,PyData.eqvAll]
def nM{xs:L8}(h:∀x∈xs,Ws.gn x=true):SeqAt.shaped (.list (xs.map PyData.str))=true:=(dV.lst (n:=0) (Di h)).ok nofun
def CI(n:Str)(a:L8):(if false=true then !oC (.str n) (a.map V.str)else oC (.str n) (a.map V.str))=decide (n∈a):=by rw[vc nofun,A6]
def CP{xs:N4}{k:Int}(h:∀v∈xs,∃w:Str,v = .str w/\Ws.gn w=true)(k0:0<=k)(k1:k<(⇑xs:Int)):∃w:Str,fi xs k⊂.str w/\Ws.gn w=true:=by
 obtain⟨j,rfl⟩:∃j:Nat,k=(j:Int):=#[k.toNat,⋯]
 have a:j<⇑xs:=⋯
 let⟨w,e,b⟩:=h xs[j] (getElem_mem a);rwa[w,L2.jV (by simp_all),b]
def DP{xs:N4}{lo hi:Nu}{v:V}(h:v∈g4 xs lo hi):v∈xs:=List.mem_of_mem_drop (mem_of_mem_take h)
def ZN{nm:L8}{j:Nat}(h:j<⇑nm):fi (nm.map V.str) ((j:Nat):Int)⊂(.str (nm.getD j ⟨#[]⟩)):=by
 erw[L2.jV ?_];rw[vv,vy,vz h];rfl
structure oW(nl ml:Addr)(mas:L7)(L nm:L8)(Ms:List L8)(H:Hp):Prop where
 en:H nl⊂(.lst (nm.map V.str))
 em:H ml⊂(.lst (mas.map V.ref))
 am:oq H mas Ms
 il:rK L Ms
 ml:Ms.length=⇑nm
 uv:⇑nm<=20
 l8:⇑L<=8
 w:∀x∈nm,Ws.gn x=true
 lw:∀x∈L,Ws.gn x=true
def oW.same{d c:Addr}{b:L7}{L nm:L8}{Ms:List L8}{H H':Hp}(N:oW d c b L nm Ms H)(s:cj H H'):oW d c b L nm Ms H':=
 #[s _ _ N.en,s _ _ N.em,N.am.mono λa x h=>s _ _ h,N.il,N.ml,N.uv,N.l8,N.w,N.lw]
def oW.mv{i h:Addr}{a:L7}{L nm:L8}{Ms:List L8}{H:Hp}(N:oW i h a L nm Ms H){j:Nat}(f:j<⇑nm):∃b,a[j]?⊂b/\H b⊂(.lst ((Ms.getD j []).map V.str))/\⇑(Ms.getD j [])<=8/\∀x∈Ms.getD j [],Ws.gn x=true:=by
 have e:Ms[j]?⊂(Ms.getD j []):=by rw[vy,vz (by rw[N.ml];rwa[f])];rfl
 let⟨b,c,d⟩:=N.am.get e;have:=N.il.len (vm e);have:=N.l8;rwa[b,c,d,⋯,λx g=>N.lw x (N.il.at' j x g)]
def vr(H:Hp)(bd:Addr)(b0 b1 b2 b3 b4:Int):Prop:=H bd⊂(.lst [.int b0,.int b1,.int b2,.int b3,.int b4])/\1<=b0/\b0<=10^18/\1<=b1/\b1<=10^18/\1<=b2/\b2<=10^18+1/\1<=b3/\b3<=10^18/\1<=b4/\b4<=10^60
def rY{a c b2 b3 b4 i:Int}(d:1<=a/\a<=10^18)(e:1<=c/\c<=10^18)(f:0<=i)(g:i<2):∃b:Int,fi [V.int a,V.int c,V.int b2,V.int b3,V.int b4] i⊂(V.int b)/\1<=b/\b<=10^18:=by
 have:i=0\/i=1:=⋯
 rcases this with rfl | rfl
 .exact#[a,rfl,d]
 .exact#[c,rfl,e]
structure sR(pl:Addr)(las:L7)(ls:L4)(H:Hp):Prop where
 el:H pl⊂(.lst (las.map V.ref))
 la:cp (fI H) las ls
 l1:1<=⇑ls
def sR.same{H H':Hp}(N:sR pl las ls H)(s:cj H H'):sR pl las ls H':=#[s _ _ N.el,N.la.mono λa x h=>s _ _ h,N.l1]
def Fb{H:Hp}(h:Q (.int (10^12)) H):rI nY (λi j=>.int (i^j.toNat)) (.int 10) (.int 12) H Q:=#[10,12,rfl,rfl,#[by decide,by decide,by decide],h]
inductive gV(vs:N4)(H:Hp)(Q:VK)(xk:XK):Prop
 | mk (nl d) (nm:L8) (gs:L5) (most):vs=[.ref nl,.ref d,.int most]->H nl⊂(.lst (nm.map V.str))->H d⊂(.dK (fD nm gs))->nm.Nodup->⇑nm=⇑gs->1<=⇑nm->⇑nm<=20->(∀j,j<⇑nm->1<=gs∘j/\gs∘j<=most)->(∀(b:Addr) (is:L6) (H':Hp),cj H H'->H' b⊂(.tup ((is.map λj=>nm.getD j ⟨#[]⟩).map V.str))->is≠[]->⇑is<=5->(∀j∈is,j<⇑nm)->Q (.ref b) H')->gV vs H Q xk
noncomputable def l0(n:Int)(len t:Nat):Nat:=(((len:Int)-1-(t:Int)*(1+n%3))%(len:Int)).toNat
noncomputable def fk(n:Int)(len:Nat)(Ms:List L8)(ro:Bool):Nat->L6×L8
 | 0=>([],[])
 | t+1=>if ro=true then(if(t:Int)<1+n/3%5 then((fk n len Ms ro t).1++[l0 n len t],(fk n len Ms ro t).2)else fk n len Ms ro t)
  else if Ms.getD (l0 n len t) []≠[]/\((Ms.getD (l0 n len t) []).filter λs=>decide (s∈(fk n len Ms ro t).2))=[]/\(fk n len Ms ro t).1.length<4 then((fk n len Ms ro t).1++[l0 n len t],(fk n len Ms ro t).2++Ms.getD (l0 n len t) [])else fk n len Ms ro t
section
variable{n:Int}{len:Nat}{Ms:List L8}{ro:Bool}
def Bs(h:1<=len):l0 n len t<len:=by
 unfold l0;have a:=ve ((len:Int)-1-(t:Int)*(1+n%3)) (show(len:Int)≠0 by lia);have b:=vf ((len:Int)-1-(t:Int)*(1+n%3)) (show(0:Int)<(len:Int) by lia);lia
def Iq(t:Nat):fk n len Ms ro (t+1)=if ro=true then(if(t:Int)<1+n/3%5 then((fk n len Ms ro t).1++[l0 n len t],(fk n len Ms ro t).2)else fk n len Ms ro t)
  else if Ms.getD (l0 n len t) []≠[]/\((Ms.getD (l0 n len t) []).filter λs=>decide (s∈(fk n len Ms ro t).2))=[]/\(fk n len Ms ro t).1.length<4 then((fk n len Ms ro t).1++[l0 n len t],(fk n len Ms ro t).2++Ms.getD (l0 n len t) [])else fk n len Ms ro t:=rfl
theorem B5(h:1<=len):∀(t:Nat) (j:Nat),j∈(fk n len Ms ro t).1->j<len
 | 0,j,hj=>nomatch hj
 | t+1,j,hj=>by
  have a:=B5 h t j;unfold fk at hj;split at hj
  .split at hj
   .rcases vh.mp hj with z | z
    .exact a z
    .rw[vo.mp z];rwa[Bs h]
   .exact a hj
  .split at hj
   .rcases vh.mp hj with z | z
    .exact a z
    .rw[vo.mp z];rwa[Bs h]
   .exact a hj
theorem ET(b:∀j,⇑(Ms.getD j [])<=8):∀t:Nat,(fk n len Ms ro t).2.length<=8*(fk n len Ms ro t).1.length
 | 0=>vb _
 | t+1=>by
  have a:=ET b t;have c:=b (l0 n len t);unfold fk;split
  .split
   .rw[vn];show(fk n len Ms ro t).2.length<=8*(_+1);lia
   .exact a
  .split
   .rw[vn,vn];show _<=8*(_+1);lia
   .exact a
theorem Wl:∀t:Nat,(fk n len Ms ro t).1.length<=t/\(fk n len Ms ro t).1.length<=5
 | 0=>#[vb _,va _]
 | t+1=>by
  let⟨a,b⟩:=Wl t;have d:=vf (n/3) (show(0:Int)<5 by decide);unfold fk;split
  .split
   .rename_i c;rw[vn];rwa[by show _+1<=_;lia,by show _+1<=5;lia]
   .lia
  .split
   .rename_i c;rw[vn];have:=c.2.2;rwa[by show _+1<=_;lia,by show _+1<=5;lia]
   .lia
theorem ES(a:ro=true):∀t:Nat,0<t->(fk n len Ms ro t).1≠[]
 | 0,h=>ud h ⋯
 | t+1,_=>by
  have b:=ve (n/3) (show(5:Int)≠0 by decide);unfold fk;rw[vd a];split
  .simp_all
  .rename_i c;rwa[ES a t ⋯]
theorem ER(g:ro=false):∀t:Nat,lG Ms (fk n len Ms ro t).1/\∀s,s∈(fk n len Ms ro t).2↔∃j∈(fk n len Ms ro t).1,s∈Ms.getD j []
 | 0=>#[#[(λj h=>nomatch h),.nil],λs=>#[(λh=>nomatch h),λ⟨j,h,_⟩=>nomatch h]]
 | t+1=>by
  let⟨e,f⟩:=ER g t;unfold fk;rw[vc (by rw[g];rwa[vF])];split
  .rename_i c;let⟨i,k,q⟩:=c;refine#[#[λj o=>?_,List.pairwise_append.mpr #[e.2,pairwise_singleton ..,λa l b m s p d=>?_]],λs=>?_]
   .rcases vh.mp o with z | z
    .exact e.1 j z
    .rw[vo.mp z];rwa[i]
   .rw[vo.mp m]at d;have:s∈(Ms.getD (l0 n len t) []).filter λs=>decide (s∈(fk n len Ms ro t).2):=vP.mpr #[d,vG ((f s).mpr #[a,l,p])]
    rw[k]at this;cases this
   simp_all
  .exact#[e,f]
end
inductive hL(vs:N4)(H:Hp)(Q:VK)(xk:XK):Prop
 | mk (n nl ml mas L) (nm:L8) (Ms kd):vs=[.int n,.ref nl,.ref ml,.str kd]->oW nl ml mas L nm Ms H->1<=⇑nm->0<=n->n<=10^40->(kd = "row"\/kd = "side")->(∀(b:Addr) (H':Hp),cj H H'->H' b⊂(.tup (((fk n ⇑nm Ms (decide (kd = "row")) ⇑nm).1.map λj=>nm.getD j ⟨#[]⟩).map V.str))->Q (.ref b) H')->hL vs H Q xk
inductive iQ(vs:N4)(H:Hp)(Q:VK)(xk:XK):Prop
 | mk (n nl ml pl bd mas las ls) (nm:L8) (Ms:List L8) (b0 b1 b2 b3 b4):vs=[.int n,.ref nl,.ref ml,.ref pl,.ref bd]->oW nl ml mas (cb ls) nm Ms H->sR pl las ls H->vr H bd b0 b1 b2 b3 b4->0<=n->n<=10^40->(∀(a:Addr) (f:Fn) (H':Hp),cj H H'->cw H' a (cV nm f)->eJ (cb ls) (Ms.map (ib (cb ls))) ⇑nm f->Q (.ref a) H')->iQ vs H Q xk
def JU(a:0<=y)(b:y<10^30+57):0<=(fU x y m).2.2/\(fU x y m).2.2<10^30+57:=by
 unfold fU;split
 .exact#[a,b]
 .exact yr _ _
def Off(p:Addr)(H0 H:Hp):Prop:=∀c u,H0 c⊂u->c≠p/\H c⊂u
def Off.ex{a H H':Hp}(o:Off p a H)(x:Ex p H H'):Off p a H':=λc u h=>#[(o c u h).1,x c u (o c u h).1 (o c u h).2]
def Off.same{a H:Hp}(o:Off p a H):cj a H:=λc u h=>(o c u h).2
inductive gI(vs:N4)(H:Hp)(Q:VK)(xk:XK):Prop
 | mk (p nl ml bd x y kd H0 mas L) (nm:L8) (Ms:List L8) (b0 b1 b2 b3 b4):vs=[.ref p,.int kd,.ref nl,.ref ml,.ref bd]->H p⊂(.lst [.int x,.int y])->0<=y->y<10^30+57->Off p H0 H->oW nl ml mas L nm Ms H0->1<=⇑nm->vr H0 bd b0 b1 b2 b3 b4->(∀(a:Addr) (f:Fn) (H':Hp),Ex p H H'->cw H' a (cV nm f)->eJ L (Ms.map (ib L)) ⇑nm f->Q (.ref a) H')->gI vs H Q xk
inductive iR(vs:N4)(H:Hp)(Q:VK)(xk:XK):Prop
 | mk (p nl ml pl bd x y H0 mas las ls) (nm:L8) (Ms:List L8) (b0 b1 b2 b3 b4):vs=[.ref p,.ref nl,.ref ml,.ref pl,.ref bd]->H p⊂(.lst [.int x,.int y])->0<=y->y<10^30+57->Off p H0 H->oW nl ml mas (cb ls) nm Ms H0->sR pl las ls H0->vr H0 bd b0 b1 b2 b3 b4->(∀(a:Addr) (f:Fn) (H':Hp),Ex p H H'->cw H' a (cV nm f)->eJ (cb ls) (Ms.map (ib (cb ls))) ⇑nm f->Q (.ref a) H')->iR vs H Q xk
def D4:∀p,p<3->(decide ((List.range 50).map (lA p)).Nodup&&((List.range 50).map (lA p)).all λx=>Ws.gn x)=true:=by trivial
def D5(d:p<3)(hi:i<50)(c:j<50)(e:lA p i=lA p j):i=j:=by
 have h:=D4 p d;rw[Bool.and_eq_true,decide_eq_true_eq]at h;have a:((List.range 50).map (lA p))[i]?⊂(lA p i):=by rw[vv,List.getElem?_range hi];rfl
 have b:((List.range 50).map (lA p))[j]?⊂(lA p i):=by rw[vv,List.getElem?_range c,e];rfl
 have f:=jZ h.1 a;have g:=jZ h.1 b;lia
def Fu(a:p<3)(hi:i<50):Ws.gn (lA p i)=true:=by
 have h:=D4 p a
 simp_all
noncomputable def nV(p m:Nat):L8:=(List.range m).map (lA p)
def E3(h:j<m):(nV p m)[j]?⊂(lA p j):=by unfold nV;rw[vv,List.getElem?_range h];rfl
def DA:nV p (m+1)=nV p m++[lA p m]:=by unfold nV;rw[range_succ,vj];rfl
def E4(c:p<3)(j:m<=9):(nV p m).Nodup/\∀x∈nV p m,Ws.gn x=true:=by
 unfold nV;erw[pairwise_map.mpr (nodup_range.imp_of_mem λ{a b} d f n e=>n (D5 c (by have:=v4.mp d;lia) (by have:=v4.mp f;lia) e)),λx h=>?_]
 .let⟨i,g,rfl⟩:=vK.mp h;have:=v4.mp g;rwa[Fu c ⋯]
noncomputable def nU(st c m k:Nat):Nat:=if k=c then k%m else st+k
noncomputable def oF(p st c m:Nat):L8:=(List.range 17).map λk=>lA p (nU st c m k)
def Er{p st c m:Nat}:⇑(oF p st c m)=17:=by unfold oF;simp_all
def Ep{p st c m k:Nat}(h:k<17):(oF p st c m).getD k ⟨#[]⟩=lA p (nU st c m k):=by
 unfold oF;rw[vy,vv,List.getElem?_range h];rfl
def EO{p st c m:Nat}(f:p<3)(q:1<=m)(r:m<=st)(h:st<=9):(oF p st c m).Nodup/\∀x∈oF p st c m,Ws.gn x=true:=by
 have b:∀k,k<17->nU st c m k<50:=λk o=>by
  unfold nU;have:=Nat.mod_lt k (show 0<m by lia);split<;>lia
 unfold oF;erw[pairwise_map.mpr (nodup_range.imp_of_mem λ{x y} a d n e=>?_),λx a=>?_]
 .have a:=v4.mp a;have d:=v4.mp d;have:=D5 f (b x a) (b y d) e;unfold nU at this;have j:=Nat.mod_lt x (show 0<m by lia);have l:=Nat.mod_lt y (show 0<m by lia);erw[n ?_];split at this<;>split at this<;>lia
 .let⟨i,g,rfl⟩:=vK.mp a;rwa[Fu f (b i (v4.mp g))]
def Gh{names:L8}{fs:List Fn}{f:Fn}:cg names (fs++[f])=cg names fs++[(names.getD ⇑fs ⟨#[]⟩,cV names f)]:=by
 unfold cg;rw[vn,vS,range_succ,vj];congr 1
 .refine map_congr_left λj a=>?_
  rw[QZ (v4.mp a)]
 .rw[uz,Zq];rfl
def xu(h:eJ L M n f):cV (names.take n) f=cV names f:=by
 have g:∀j,j<n->(names.take n).getD j ⟨#[]⟩=names.getD j ⟨#[]⟩:=λj a=>by
  simp_all
 have b:=h.js.2;cases f with
 | row is=>rwa[congrArg Fm.row (map_congr_left λj a=>g j (b j a))]
 | side is=>rwa[congrArg Fm.side (map_congr_left λj a=>g j (b j a))]
 | again k j=>rwa[congrArg (Fm.again k) (g j (b j vq))]
 | hold n=>rfl
 | ring x n=>rfl
 | rise x v n=>rfl
def IJ(h:⇑nm=⇑gs):fD (nm++[x]) (gs++[g])=fD nm gs++[(Sum.inr x,.int g)]:=by
 unfold fD;rw[List.zip_append h,vj];rfl
def Ei(h:⇑nm=⇑gs)(n:x∉nm):putK (fD nm gs) (Sum.inr x) (.int g)=fD (nm++[x]) (gs++[g]):=by
 rw[IJ h,yw];rw[Zr h]
 simp_all
def Eh(h:⇑nm=⇑gs):⇑(fD nm gs)=⇑nm:=by
 unfold fD
 simp_all
structure nO(pl nl ml d pp:Addr)(las pas mas:L7)(ls:L4)(names:L8)(fs:List Fn)(Ms:List L8)(gs:L5)(b4:Int)(H:Hp):Prop where
 n:oW nl ml mas (cb ls) (names.take ⇑fs) Ms H
 l:sR pl las ls H
 ed:H d⊂(.dK (fD (names.take ⇑fs) gs))
 ep:H pp⊂(.lst (pas.map V.ref))
 pa:cp (dh H) pas (cg names fs)
 dk:ez (cb ls) fs (Ms.map (ib (cb ls))) gs
 gb:∀j,j<⇑fs->gs∘j<=b4
 fl:⇑fs<=⇑names
def nO.same{H H':Hp}(B:nO pl nl ml d pp las pas mas ls names fs Ms gs b4 H)(s:cj H H'):nO pl nl ml d pp las pas mas ls names fs Ms gs b4 H':=
 #[B.n.same s,B.l.same s,s _ _ B.ed,s _ _ B.ep,B.pa.mono λa x h=>dh.same s h,B.dk,B.gb,B.fl]
structure pW(pl nl ml pp bd:Addr)(mas:L7):Prop where
 ln:pl≠nl
 lm:pl≠ml
 lp:pl≠pp
 nm:nl≠ml
 np:nl≠pp
 mp:ml≠pp
 bn:bd≠nl
 bm:bd≠ml
 bp:bd≠pp
 ma:∀a∈mas,a≠nl/\a≠ml/\a≠pp
def pW.add(S:pW pl nl ml pp bd mas)(h:l≠nl/\l≠ml/\l≠pp):pW pl nl ml pp bd (mas++[l]):=
 #[S.ln,S.lm,S.lp,S.nm,S.np,S.mp,S.bn,S.bm,S.bp,λa b=>by
  rcases vh.mp b with z | z
  .exact S.ma a z
  .rw[vo.mp z];rwa[h]]
def nO.add{pl n m d o J fa l c:Addr}{q i b:L7}{ls:L4}{names:L8}{fs:List Fn}{Ms:List L8}{gs:L5}{b4 g:Int}{f:Fn}{ks:L8}{H H':Hp}(B:nO pl n m d o q i b ls names fs Ms gs b4 H)(S:pW pl n m o J b)
  (U:cw H fa (cV names f)) (pre:eJ (cb ls) (Ms.map (ib (cb ls))) ⇑fs f) (G:nj Ms f ks) (F:gf gs f g) (O:g<=b4) (I:b4<=10^60) (fn:⇑fs<⇑names) (Z:⇑fs<20) (nw:∀x∈names,Ws.gn x=true)
  (k:∀x u,x≠m->x≠n->x≠o->x≠d->H x⊂u->H' x⊂u) (s:H' m⊂(.lst ((b++[l]).map V.ref))) (M:H' l⊂(.lst (ks.map V.str))) (t:H' n⊂(.lst ((names.take (⇑fs+1)).map V.str)))
  (v:H' o⊂(.lst ((i++[c]).map V.ref))) (K:H' c⊂(.tup [.str (names.getD ⇑fs ⟨#[]⟩),.ref fa])) (L:H' d⊂(.dK (fD (names.take (⇑fs+1)) (gs++[g])))) :
  nO pl n m d o q (i++[c]) (b++[l]) ls names (fs++[f]) (Ms++[ks]) (gs++[g]) b4 H':=by
 have N:=B.n;have C:∀c p,H c⊂.tup p->H' c⊂(.tup p):=λc p h=>k c _ (JC h N.em λz=>by cases z) (JC h N.en λz=>by cases z) (JC h B.ep λz=>by cases z) (JC h B.ed λz=>by cases z) h
 have E:∀{c p},c≠m->c≠n->c≠o->H c⊂.lst p->H' c⊂(.lst p):=λQ R T h=>k _ _ Q R T (JC h B.ed λz=>by cases z) h
 have r:⇑(fs++[f])=⇑fs+1:=by rw[vn];rfl
 have D:=B.dk;have Y:=G.FI N.il pre;have P:=Mb pre F λj y=>(D.g j y).1
 have gl:=D.gl;erw[#[?_,s,?_,?_,?_,?_,N.l8,λx X=>nw x (mem_of_mem_take X),N.lw],#[E S.lm S.ln S.lp B.l.el,B.l.la.mono λa x h=>C _ _ h,B.l.l1],?_,v,?_,?_,λj y=>?_,⋯]
 .rw[r];rwa[t]
 .refine cp.snoc ?_ M;rwa[cp.m6 N.am λa w ks h=>E (S.ma a w).2.1 (S.ma a w).1 (S.ma a w).2.2 h]
 .intro A W;rcases vh.mp W with z | z
  .exact N.il A z
  .rw[vo.mp z];rwa[Y]
 .have:=N.ml;rw[vi]at this|-;rw[vn,r];show _+1=_;lia
 .rw[vi];lia
 .rw[r];rwa[L]
 .rw[Gh];rwa[cp.snoc (B.pa.mono λa x h=>dh.keep C h) #[fa,K,cw.keep C U]]
 .rw[vj];rwa[D.AJ pre G.n F #[P,⋯]]
 .rw[r]at y;by_cases z:j<⇑fs
  .rw[QZ ⋯];rwa[B.gb j z]
  .have e:j=⇑gs:=⋯
   subst e;rw[Zq];rwa[O]
inductive fO(K:cG)(vs:N4)(H:Hp)(Q:VK)(xk:XK):Prop
 | mk (a bd) (ns:L5) (many b0 b1 b2 b3 b4):vs=[.ref a,.int (many:Nat),.ref bd]->cm K H a (ns.map V.int)->⇑ns<=63->2<=many->many<=16->vr H bd b0 b1 b2 b3 b4->(∀(r b pl pp:Addr) (las pas:L7) (names:L8) (ls:L4) (fs:List Fn) (M:L1) (gs:L5) (H':Hp),cj H H'->H' r⊂(.tup [.ref b,.int (gs∘(⇑fs-1))])->cN H' b pl pp las pas ls (cg names fs)->ez (cb ls) fs M gs->Sn ls (cg names fs) gs M->⇑fs=many+1->⇑names=17->names.Nodup->(∀x∈names,Ws.gn x=true)->1<=⇑ls->⇑ls<=8->(cb ls).Nodup->(∀x∈cb ls,Ws.gn x=true)->pl≠pp->(∀j,j<⇑fs->gs∘j<=b4)->Q (.ref r) H')->fO K vs H Q xk
def nO.book{H:Hp}(B:nO pl nl ml d pp las pas mas ls names fs Ms gs b4 H)(a:H b⊂(.tup [.ref pl,.ref pp])):cN H b pl pp las pas ls (cg names fs):=#[a,B.l.el,B.l.la,B.ep,B.pa]
end Rm
namespace L2
open PySem PySem.Spec PySem.W PyProof.Rows
section
variable{X:Cx}{pins:Ny}{σ:St}{H:Hp}{s:Shared}{tg:Expr}
def Inv.freeze(I:Inv X pins σ H s)(e:H a⊂.dK kvs):∃o,Inv X pins σ (upd H a (.iy o (.dK kvs))) s:=by
 let⟨z,l,t,r,o,k,j,i,g⟩:=(show cD X.prog X.w H s.heap a (.dK kvs)from I.cK a _ e)
 have f:∀b u,H b⊂u->u≠.dK kvs->b≠a:=λb u q d z=>by subst z;rw[e]at q;rwa[d (vL q).symm]
 refine#[o,I.step (h':=s.heap) (g':=s.gens) (d':=s.drawn) (t':=s.toks) (ch:=[]) (λb h=>nomatch h) (λb o Z Z Z e Z=>e) (λb o Z Z Z e Z=>#[o.slots,e]) (λb u Z Z n=>(jh λz=>by subst z;rw[e]at n;cases n).trans n) (λb u Z e=>#[u,e])
  (λb x q=>(jh (f _ _ q λz=>nomatch z)).trans q) (λb u v q=>(jh (f _ _ q λz=>nomatch z)).trans q) (λb w q=>#[#[],by rw[jh (f _ _ q λz=>nomatch z),q];simp]) (λm p=>p) (λb u q=>?_) I.bare]
 by_cases h:b=a
 .subst h;rw[jy]at q;cases q;rwa[i,z,l,t,r,o,k,j,i,g]
 .rw[jh h]at q;rwa[(I.cK b u q).iu (λc v Z q=>q) (λc q=>(jh (f _ _ q λz=>nomatch z)).trans q) λc y q=>(jh (f _ _ q λz=>nomatch z)).trans q]
def vM(as:L7)(H H':Hp):Prop:=(∀b,b∉as->H' b=H b)/\∀b∈as,∀kvs,H b⊂.dK kvs->∃o,H' b⊂(.iy o (.dK kvs))
theorem Inv.lC:∀(as:L7) {H:Hp},Inv X pins σ H s->as.Nodup->(∀b∈as,∃kvs,H b⊂.dK kvs)->∃H',Inv X pins σ H' s/\vM as H H'
 | [],H,I,_,_=>#[H,I,λZ Z=>rfl,λb c=>nomatch c]
 | a::as,H,I,nd,h=>by
  rw[um]at nd;let⟨kvs,e⟩:=h a vq;let⟨o,g⟩:=I.freeze e;have f:∀b∈as,b≠a:=λb c z=>nd.1 (by rw[<-z];rwa[c])
  let⟨H',i,d,j⟩:=Inv.lC as g nd.2 λb c=>by
   let⟨k,q⟩:=h b (vp _ c);rwa[k,(jh (f b c)).trans q]
  erw[H',i,λb c=>?_,λb c k q=>?_]
  .rw[d b λz=>c (vp _ z),jh λz=>c (by rw[z];rwa[vq])]
  .rcases mem_cons.mp c with rfl | c
   .rw[e]at q;cases q;rwa[o,(d b nd.1).trans jy]
   .exact j b c k ((jh (f b c)).trans q)
def uR(te:TE):TE:=λσ H Q=>te σ H λv H1=>∃as:L7,as.Nodup/\(∀b∈as,∃kvs,H1 b⊂.dK kvs)/\∀H2,vM as H1 H2->Q v H2
def Bz(h:PE X e te):PE X e (uR te):=by
 intro a s m H Q I q;erw[cM (h a s m H _ I q) λv o z_=>?_];obtain⟨x,n,c,l,f,j,i,k⟩:=z_
 let⟨b,d,g⟩:=c.lC f j i;rwa[x,b,d,l,k b g]
def sO(a:Addr)(o:Obj)(kvs:List (Key×V)):It:=
 #[λi H=>H a⊂(.iy o (.dK kvs))/\i<⇑kvs,λi H x H'=>H'=H/\∃q,kvs[i]?⊂q/\x=kV q.1,λi H=>H a⊂(.iy o (.dK kvs))/\⇑kvs<=i]
def WR(I:Inv X pins σ H s)(e:H a⊂(.iy o (.dK kvs)))(d:o.data = .dict es ep):⇑kvs<=sizeLine/\(a==sysModules)=false/\∃vs,KV kvs vs/\s.heap.DictAt (cv X.prog X.w) a vs ep:=by
 let⟨f,z,k,vs,r,l,j,i,b,g,c,h⟩:=(show cD X.prog X.w H s.heap a (.iy o (.dK kvs))from I.cK a _ e)
 rw[f]at b;cases b;rw[d]at c;cases c;rwa[z,k,vs,r,o,es,f,g,d,h]
def HB{P:Program}{w:World}{K:cG}{tg:Expr}(a it:Addr)(o:Obj)(kvs:List (Key×V))(es:Array DictEntry)(ep:Nat)(N:o.data = .dict es ep):Turn P w K tg (sO a o kvs) [it] it (λi h=>h.IsKeyIter it a i ⇑kvs ep) where
 mem:=by simp
 obj:=λi h f b j=>by
  have e:b=it:=by simpa using j
  subst e;let⟨o,e,c,d⟩:=f;rwa[o,e,λv z=>by rw[d]at z;cases z]
 keep:=λi h n f k=>f.at λo e=>k it (by simp) o e
 item:=by
  intro X D J C M i g s Q H E I p f F;subst D J C;let⟨G,q⟩:=F;let⟨z,Y,vs,l,r⟩:=WR I G N;have O:=vz q;let⟨y,S,T,_⟩:=l.get O;let⟨t,u,W,x,A,B⟩:=p it (by simp);rw[⇑l]at f;erw[wpAny_pyNext_dict_item f r (k:=y.1) (v:=y.2) S λL n Z m sb=>?_]
  have R:Inv X g Q H {s with heap:=n}:=I.turned (t':=s.toks) (λb o j e=>(sb.2 b j).trans e) t u x A B;erw[L,rfl,letGo_keyiter (s':={s with heap:=n}) m #[kV kvs[i].1,H,R,by rw[T];rwa[Oy Z],#[rfl,_,O,rfl],by rw[⇑l];rwa[m],λb j=>(p b j).1]]
 done:=by
  intro X D J C M i g s Q H E I p f F;subst D J C;let⟨G,q⟩:=F;let⟨z,Y,vs,l,r⟩:=WR I G N;let⟨t,u,W,x,A,B⟩:=p it (by simp);rw[⇑l]at f q;rwa[wpAny_pyNext_dict_end (I.ok.hd M) f r (vT q) λn U=>#[rfl,I.turned (t':=s.toks) (λb o j e=>U b o j e) t u x A B]]
 self:=λ_ _ _ _ _ f h=>wpAny_pyIter_keyiter f h
def ql(tl:TE):TI:=λσ H R=>tl σ H λx H1=>∃a o kvs,x = .ref a/\H1 a⊂(.iy o (.dK kvs))/\R (sO a o kvs) H1
def MW{l:Expr}{n:TE}(y:PE X l n):PI X tg l (ql n):=by
 intro g s E H R I h;erw[cM (y g s E H _ I h) λv i z_=>?_];obtain⟨x,j,c,C,B⟩:=z_
 let⟨a,o,f,e,m,q⟩:=B;subst e;cases C;let⟨A,Z,Z,Z,Z,F,t,r,d,Z,k,Z⟩:=(show cD X.prog X.w j i.heap a (.iy o (.dK f))from c.cK a _ m)
 rw[A]at d;cases d;let⟨z,u,G,D,p⟩:=WR c m k;erw[wpAny_pyIter_dict u p ?_];rw[<-⇑D];erw[i⁻¹,[i⁻¹],_,_,j,rfl,c.kept (t':=i.toks) λb o e=>vJ _ e,HB a _ o f t r k,#[_,Heap.get?_push_size _ rfl,rfl,rfl],λb w=>?_,q];have e:b=i⁻¹:=by simpa using w
 subst e;rwa[c.gz (vb _) (c.cK.fresh (vb _))]
end
def IE{a:Addr}{o:Obj}{kvs:List (Key×V)}{g:TG}{j:TS}{D:Ends}{b:St}{H:Hp}(c:Nat->St->Hp->Prop)(l:c 0 b H)(s:∀i b H,i<=⇑kvs->c i b H->H a⊂(.iy o (.dK kvs)))
  (t:∀i q b H,kvs[i]?⊂q->c i b H->g (kV q.1) b H λd H2=>j {D with nx:=c (i+1),ct:=c (i+1),bk:=D.nx} d H2) (n:∀b H,c ⇑kvs b H->D.nx b H) :
  ∃W:Nat->Nat->St->Hp->Prop,(∃m,W 0 m b H)/\∀i m b H,W i m b H->
   ((sO a o kvs).stop i H/\D.nx b H)\/((sO a o kvs).go i H/\∃N:St->Hp->Prop,(∀S' H',N S' H'->∃h,h<m/\W (i+1) h S' H')/\∀x H',(sO a o kvs).lV i H x H'->g x b H' λd H2=>j {D with nx:=N,ct:=N,bk:=D.nx} d H2):=by
 erw[λi m b H=>m=⇑kvs-i/\i<=⇑kvs/\c i b H,#[⇑kvs,by simp,va _,l],?_];rintro i m b H ⟨rfl,r,p⟩;have q:=s i b H r p;by_cases f:i<⇑kvs
 .refine .inr #[#[q,f],c (i+1),λS' H' u=>#[⇑kvs-(i+1),⋯,rfl,f,u],λx H' y=>?_];let⟨e,k,y,rfl⟩:=y;subst e;rwa[t i k b _ y p]
 .have e:i=⇑kvs:=⋯
  subst e;rwa[.inl #[#[q,vb _],n b H p]]
section
variable{σ:St}{H:Hp}{Q:VK}
def BI(h:te σ H λv H1=>∃as:L7,as.Nodup/\(∀b∈as,∃kvs,H1 b⊂.dK kvs)/\∀H2,vM as H1 H2->Q v H2):uR te σ H Q:=h
def LH{R:It->Hp->Prop}(h:tl σ H λx H1=>∃a o kvs,x = .ref a/\H1 a⊂(.iy o (.dK kvs))/\R (sO a o kvs) H1):ql tl σ H R:=h
end
noncomputable def sD(p:Str×V):Key×V:=(Sum.inr p.1,p.2)
theorem oH:∀{as:L7} {kvs:List (Str×V)},⇑as=⇑kvs->(∀(i:Nat) (a:Addr) (q:Str×V),as[i]?⊂a->kvs[i]?⊂q->∃t u,RelV q.2 u/\IsTup h a [.str q.1 t,u].toArray)->
  ∃ps:List (Key×Value),KV (kvs.map sD) ps/\⇑ps=⇑kvs/\∀(j:Nat) (kv:Key×Value),ps[j]?⊂kv->∃a key,as[j]?⊂a/\IsTup h a [key,kv.2].toArray/\gv kv.1 key=true
 | [],[],_,_=>#[[],.nil,rfl,λj kv e=>by simp at e]
 | [],_::_,l,_=>by simp at l
 | _::_,[],l,_=>by simp at l
 | a::as,q::kvs,l,f=>by
  let⟨ps,o,p,r⟩:=oH (as:=as) (kvs:=kvs) #v[l] λi a q m n=>f (i+1) a q #v[m] #v[n]
  let⟨t,u,v,e⟩:=f 0 a q rfl rfl;erw[(Sum.inr q.1,u)::ps,.cons #[rfl,v] o,by rw[vQ,p,vQ],λj kv c=>?_];cases j with
  | zero=>simp at c;subst c;rwa[a,_,rfl,e,Xs _ _]
  | succ j=>let⟨b,s,d,g,k⟩:=r j kv #v[c];rwa[b,s,#v[d],g,k]
section
variable{X:Cx}
def WG(G:X.calm=true):dE X (.type "dict") (λxs H Q=>∃(p:Addr) (as:L7) (kvs:List (Str×V)),xs=[.ref p]/\H p⊂(.lst (as.map V.ref))/\⇑as=⇑kvs/\
  (∀(i:Nat) (a:Addr) (q:Str×V),as[i]?⊂a->kvs[i]?⊂q->H a⊂(.tup [.str q.1,q.2]))/\∀d,H d=none->Q (.ref d) (upd H d (.dK (cR [] (kvs.map sD))))):=by
 intro M s σ H xs us Q I r h;let⟨p,as,kvs,rfl,Z,B,ht,q⟩:=h;let⟨u,rfl,ru⟩:=vals1 r;cases ru;let⟨z,D,n,rv,lv,e⟩:=I.j1 Z;have W:=Y1 rv;subst W;rw[vt]at z;have J:p<s⁻¹:=vI e;let⟨ps,kp,N,pt⟩:=oH (h:=s.heap) B λi a q S U=>by
  let⟨_,D,r',t'⟩:=I.cK a _ (ht i a q S U);cases r' with
  | cons ra rr=>
   cases rr with
   | cons rb rr=>
    cases rr;let⟨t1,rfl⟩:=ra;rwa[t1,_,rb,t']
 erw[callType_codes (Q₁:=λt g=>t = .ref s⁻¹/\g={s with heap:=s.heap.push {cls:=.type "dict",data:=.dict #[]}}) PySem.F.kt_called_dict (PySem.F.kt_typeCall_dict_1 (.ref p)) PySem.F.entry_dict_init (kt_code_dict_new (.ref p) #[rfl,rfl]) ?_];rintro t g ⟨rfl,rfl⟩;have c:(s.heap.push {cls:=.type "dict",data:=.dict #[]}).DictOf (cv X.prog X.w) s⁻¹ []:=Heap.DictOf.new s.heap;have v:∀b o,s.heap.get? b⊂o->(s.heap.push {cls:=.type "dict",data:=.dict #[]}).get? b⊂o:=λb o e=>vJ _ e
 generalize s.heap.push {cls:=.type "dict",data:=.dict #[]}=h0 at c v;erw[c.typeIs (s:={s with heap:=h0}),PySem.F.args_dict_init_2 _ _,?_];unfold Builtin.«dict.__init__»;erw[ug ?_];unfold Builtin.Dict.selfAndRest;erw[ug (wpAny_notOrdered_dict (c.typeIs (s:={s with heap:=h0})) ?_)];show wpAny (model X.prog X.w) _ (pure (s⁻¹,[Value.ref p])) _ _ _;erw[uf ?_];show wpAny (model X.prog X.w) _ (Builtin.Dict.updateFrom "dict.__init__" s⁻¹ (.ref p) [] .none) _ _ _;unfold Builtin.Dict.updateFrom;erw[ug (wpAny_typeOf (T:="list") #[_,v _ _ e,rfl] ?_)];rw[vd nofun];erw[ug (oG (s:={s with heap:=h0}) (v _ _ e) rfl rfl rfl (I.ok.hd G) λm tk K=>?_)];rw[vd (show(none:Nv).isNone=true from rfl)];have f:∀b o,s.heap.get? b⊂o->m.get? b⊂o:=λb o e=>K b o (v b o e)
 have k:m.DictOf (cv X.prog X.w) s⁻¹ []:=c.keep K;have w:s⁻¹<m.objs.size:=by let⟨_,_,_,hg,_⟩:=k;rwa[vI hg]
 have lp:p<m.objs.size:=vZ J w;erw[ug (wpAny_rule ?_)];erw[ug (wpAny_pyIter_list (l:=p) (items:=(as.map Value.ref).toArray) #[_,f _ _ e,rfl,n,rfl] ?_)];erw[uf #[plainId_quiet yu _,?_]];refine AS (knd:=cv X.prog X.w) (A:=X.A.in1) (d:=s⁻¹) (it:=m.objs.size) (l:=p) (items:=as.map Value.ref) (res:=.none) (I.ok.hd G) (vE w) (vO J) (vO lp) ps 0 [] _
  #[_,Heap.get?_push_size _ rfl,rfl,rfl] #[_,vJ _ (f _ _ e),rfl,n,rfl] (by rw[vt,B,N,Nat.zero_add]) (λj kv Y=>?_) (k.push _) (by rw[length_nil,N,<-B,Nat.zero_add];rwa[z]) λh2 E k2 x=>?_
 .let⟨a,ky,O,⟨o,F,P⟩,R⟩:=pt j kv Y;have L:a<s⁻¹:=vI F;rwa[a,ky,by rw[Nat.zero_add,vv,O];rfl,#[o,vJ _ (f _ _ F),P],R,vE L,vE (vZ L w)]
 .refine#[rfl,.ref s⁻¹,upd H s⁻¹ (.dK (cR [] (kvs.map sD))),I.laid (t':=E) (λb o y=>k2 b o (vE (vI y)) (vE (vZ (vI y) w)) (vJ _ (f _ _ y))) (vb _) ?_,rfl,q _ (I.cK.fresh (vb _))];have hm:=Qx (kvs.map sD) [];rw[length_nil,vt]at hm;have C:(s⁻¹==sysModules)=false:=by
   rw[beq_eq_false_iff_ne];rwa[vO I.big]
  rwa[K1 ⋯ C (kp.merge .nil) x]
end
end L2
namespace Rm
open PySem PySem.Spec PyProof.Rows L2
theorem Xw:∀{kvs:List (Key×V)} {acc:List (Key×V)} {i:Nat} {k:Key} {v:V},(kvs.map (·.1)).Nodup->kvs[i]?⊂(k,v)->dt (cR acc kvs) k⊂v
 | [],_,_,_,_,_,h=>by simp at h
 | q::r,acc,0,k,v,nd,h=>by
  have h:q=(k,v):=vL h;subst h;rw[uz,um]at nd;have:∀(r:List (Key×V)) (acc:List (Key×V)),k∉r.map (·.1)->dt (cR acc r) k=dt acc k:=λr=>by
   induction r with
   | nil=>intro acc j;rfl
   | cons p r ih=>
    intro acc h;rw[uz,mem_cons,not_or]at h;show dt (cR (putK acc p.1 p.2) r) k=_;rw[ih _ h.2,Ds,vc h.1]
  show dt (cR (putK acc k v) r) k=_;rw[this r _ nd.1,Ds,vd rfl]
 | q::r,acc,i+1,k,v,nd,h=>by
  rw[uz,um]at nd;rwa[Xw (kvs:=r) (acc:=putK acc q.1 q.2) nd.2 #v[h]]
structure AA(H:Hp)(b pl pp:Addr)(las pas:L7)(ls:L4)(names:L8)(fs:List Fn)(M:L1)(gs:L5):Prop where
 bk:cN H b pl pp las pas ls (cg names fs)
 d:ez (cb ls) fs M gs
 nd:names.Nodup
 fn:⇑fs<=⇑names
 Ab:⇑fs<=20
 f1:1<=⇑fs
def AA.forms{H:Hp}(B:AA H b pl pp las pas ls names fs M gs):∃g:Nat->Addr,∀(i:Nat) (f:Fn),fs[i]?⊂f->(∀a,pas[i]?⊂a->H a⊂(.tup [.str (names.getD i ⟨#[]⟩),.ref (g i)]))/\cw H (g i) (cV names f):=by
 have:∀i:Nat,∃d:Addr,∀f:Fn,fs[i]?⊂f->(∀a,pas[i]?⊂a->H a⊂(.tup [.str (names.getD i ⟨#[]⟩),.ref d]))/\cw H d (cV names f):=λi=>by
  cases e:fs[i]? with
  | none=>rwa[b,λf h=>by cases h]
  | some f=>
   let⟨a,m,d,k,l⟩:=B.bk.pa.get (qg (names:=names) e);erw[d,λo j=>?_];cases j;rwa[λn c=>by rw[m]at c;cases c;rwa[k],l]
 rwa[Classical.axiomOfChoice this]
noncomputable def sT(names:L8)(g:Nat->Addr)(n:Nat):List (Str×V):=(List.range n).map λi=>(names.getD i ⟨#[]⟩,.ref (g i))
def EY{g:Nat->Addr}(h:i<n):(sT names g n)[i]?⊂(names.getD i ⟨#[]⟩,.ref (g i)):=by
 unfold sT;rw[vv,List.getElem?_range h];rfl
def LS{g:Nat->Addr}(c:names.Nodup)(f:n<=⇑names)(h:j<n):dt (cR [] ((sT names g n).map sD)) (Sum.inr (names.getD j ⟨#[]⟩))⊂(.ref (g j)):=by
 erw[Xw (i:=j) ?_ (by rw[vv,EY h];rfl)];rw[v7];unfold sT;rw[v7];erw[pairwise_map.mpr (nodup_range.imp_of_mem λ{x y} a b d e=>d ?_)];have a:=v4.mp a;have b:=v4.mp b;rwa[getD_inj c ⋯ ⋯ (Sum.inr.inj e)]
def ez.AL{ls:L4}{names:L8}{fs:List Fn}{M:L1}{gs:L5}(D:ez (cb ls) fs M gs)(z:⇑ls<=8)(t:∀q∈ls,0<=q.2/\q.2<=10^18)(s:∀x∈cb ls,Ws.gn x=true)
  (A:∀x∈names,Ws.gn x=true) (B:⇑fs<=⇑names) (l:⇑fs<=61):tj ls (cg names fs):=by
 have g:∀{j:Nat},j<⇑fs->Ws.gn (names.getD j ⟨#[]⟩)=true:=λh=>A _ (getD_in ⋯)
 erw[z,λp e=>#[s _ (vK.mpr #[p,e,rfl]),(t p e).1,(t p e).2],by rw[j3];rwa[l],λp e=>?_];let⟨i,w⟩:=List.mem_iff_getElem?.mp e;let⟨f,r,rfl⟩:=Qo w;have y:=(vx.mp r).1;have a:=(D.f i f r).1;erw[g y,?_];cases f with
 | hold m=>rwa[by have:=a.1;lia,a.2]
 | ring x m=>rwa[a.2.2,by have:=a.1;lia,a.2.1]
 | rise x v m=>
  let⟨⟨j,d⟩,o,b,c,u⟩:=a;rwa[s x (vm d),o,b,⋯,u]
 | row is=>
  let⟨Z,b,c⟩:=a;erw[by rw[vt];rwa[b],λx n=>?_];let⟨j,d,rfl⟩:=vK.mp n;rwa[g (by have:=c j d;lia)]
 | side is=>
  let⟨Z,b,c,Z⟩:=a;erw[by rw[vt];rwa[b],λx n=>?_];let⟨j,d,rfl⟩:=vK.mp n;rwa[g (by have:=c j d;lia)]
 | again k j=>
  let⟨o,b,c⟩:=a;rwa[⋯,b,g ⋯]
section
variable{ls:L4}{ps qs:N2}{C:Nat->Nat->Prop}{g:Nat->Nat}{gs gs':L5}{hs hs':L1}
def X9(S:oX ls ps gs hs)(m:oX ls qs gs' hs')(R:pR ps qs C g):∀i k,C i k->gs'∘k=gs∘i:=by
 intro i
 induction i using Nat.strongRecOn with
 | ind i ih=>
  intro k e;let⟨o,p⟩:=R.lt i k e;have c:ps[i]?⊂ps[i]:=vz o;have d:qs[k]?⊂qs[k]:=vz p;let⟨t,a,f⟩:=R.f i k _ _ e c d;have n:(cX qs qs[k].2).map (λj=>gs'∘j)=(cX ps ps[i].2).map λj=>gs∘j:=by
   rw[a,v7];rwa[map_congr_left λj h=>ih j (f j h).1 (g j) (f j h).2]
  let⟨q,s⟩:=S.ln i _ c;let⟨r,b⟩:=m.ln k _ d;let⟨v,l⟩:=E1 q;rw[<-s v l];rwa[(b v (by rw[n];rwa[((Ka t).2 v).mp l])).symm]
noncomputable def pE(g:Nat->Nat)(q:Pc):Pc:=(g q.1,q.2)
def Hl{is:L6}(h:∀j∈is,gs'∘(g j)=gs∘j):∀b,cU gs' (is.map g) b=(cU gs is b).map (pE g):=by
 induction is with
 | nil=>rwa[λq=>rfl]
 | cons j r ih=>
  intro b;rw[uz,cU,cU,h j vq,ih (λj a=>h j (vp _ a))];rfl
def MR{p q:Fm}{is:L6}(a:iG (λZ Z=>True) p q)(h:∀j∈is,gs'∘(g j)=gs∘j):dq gs' q (is.map g)=(dq gs p is).map (pE g):=by
 cases p with
 | row xs=>
  let⟨b,rfl,Z⟩:=a;rwa[Hl h 0]
 | side xs=>
  let⟨b,rfl,Z⟩:=a;show(is.map g).map _=(is.map _).map _;rw[v7,v7];rfl
 | again m x=>
  let⟨y,rfl,Z⟩:=a;cases is with
  | nil=>rfl
  | cons j r=>
   show(g j,1,0)::(if 1<m then[(g j,m-1,gs'∘(g j))]else[])=((j,1,0)::(if 1<m then[(j,m-1,gs∘j)]else[])).map (pE g);rw[h j vq,uz];split<;>rfl
 | hold n=>
  have:q = .hold n:=a;subst this;show(is.map g).map _=(is.map _).map _;rw[v7,v7];rfl
 | ring x n=>
  have:q = .ring x n:=a;subst this;show(is.map g).map _=(is.map _).map _;rw[v7,v7];rfl
 | rise x v n=>
  have:q = .rise x v n:=a;subst this;show(is.map g).map _=(is.map _).map _;rw[v7,v7];rfl
noncomputable def Av(g:Nat->Nat)(x:Nat×Int):Nat×Int:=(g x.1,x.2)
theorem D8{t:Int}:∀{l:List Pc},(∀q∈l,gs'∘(g q.1)=gs∘q.1)->dA gs' t (l.map (pE g))=(dA gs t l).map (Av g)
 | [],_=>rfl
 | q::r,h=>by
  have a:=h q vq;have b:=D8 (t:=t) (l:=r) λy e=>h y (vp _ e)
  have d:ov gs' t (pE g q)=ov gs t q:=by
   unfold ov pE;dsimp only;rw[a]
  have c:dS gs' t (pE g q)=(dS gs t q).map λy=>(g y.1,y.2):=by
   unfold dS;rw[d];unfold pE;dsimp only;rw[a];split<;>rfl
  unfold dA fu at b|-;rw[uz,filterMap_cons,c,filterMap_cons];cases hp:dS gs t q with
  | none=>rwa[b]
  | some y=>
   have f:y.1=q.1:=Kl hp;show((g y.1,y.2)::_).flatMap (eO gs')=((y::_).flatMap (eO gs)).map (Av g);rw[flatMap_cons,flatMap_cons,vj,b];congr 1;unfold eO;dsimp only;rw[f,a,vj];congr 1
   .split<;>rfl
   .split<;>rfl
def G4(N:Sn ls ps gs hs)(w:Sn ls qs gs' hs')(R:pR ps qs C g):∀i k,C i k->∀t,∃zs:List ((Nat×Nat)×Int),reach ps gs i t=zs.map (λz=>(z.1.1,z.2))/\reach qs gs' k t=zs.map (λz=>(z.1.2,z.2))/\∀z∈zs,C z.1.1 z.1.2:=by
 have n:=X9 N.s w.s R;intro i
 induction i using Nat.strongRecOn with
 | ind i ih=>
  intro k d t;let⟨K,L⟩:=R.lt i k d;have s:ps[i]?⊂ps[i]:=vz K;have A:qs[k]?⊂qs[k]:=vz L;let⟨Q,p,u⟩:=R.f i k _ _ d s A;have a:cP qs gs' k=(cP ps gs i).map (pE g):=by
   unfold cP;rw[s,A];show dq gs' qs[k].2 (cX qs qs[k].2)=_;rw[p];rwa[MR Q λj M=>n j (g j) (u j M).2]
  have m:∀q∈cP ps gs i,q.1∈cX ps ps[i].2:=λq b=>by
   unfold cP at b;rw[s]at b;rwa[Kc b]
  have H:dA gs' t (cP qs gs' k)=(dA gs t (cP ps gs i)).map (Av g):=by
   rw[a];rwa[D8 λq b=>n _ _ (u _ (m q b)).2]
  by_cases c:gs∘i<=t\/cP ps gs i=[]
  .have o:gs'∘k<=t\/cP qs gs' k=[]:=by
    rw[n i k d,a]
    simp_all
   rw[Jg c,Jg o];rwa[[((i,k),t)],rfl,rfl,λz f=>by rw[vo.mp f];rwa[d]]
  .have o:¬(gs'∘k<=t\/cP qs gs' k=[]):=by
    rw[n i k d,a];rintro(z | z)
    .exact c (.inl z)
    .exact c (.inr (List.map_eq_nil_iff.mp z))
   rw[JI N.s.w c,JI w.s.w o,H];have v:∀l:L3,(∀x∈l,x.1<i/\C x.1 (g x.1))->∃zs:List ((Nat×Nat)×Int),(l.flatMap λx=>reach ps gs x.1 x.2)=zs.map (λz=>(z.1.1,z.2))/\((l.map (Av g)).flatMap λx=>reach qs gs' x.1 x.2)=zs.map (λz=>(z.1.2,z.2))/\∀z∈zs,C z.1.1 z.1.2:=λl=>by
    induction l with
    | nil=>rwa[λZ=>#[[],rfl,rfl,λz f=>nomatch f]]
    | cons x r ihl=>
     intro h;let⟨I,J⟩:=h x vq;let⟨S,B,U,D⟩:=ih x.1 I (g x.1) J x.2;let⟨T,E,F,G⟩:=ihl λy P=>h y (vp _ P)
     erw[S++T,by rw[flatMap_cons,B,E,vj],?_,λz f=>(vh.mp f).elim (D z) (G z)];rw[uz,flatMap_cons,F,vj];congr 1
   erw[v _ λx O=>?_]
   let⟨q,b,e⟩:=Wk O;rw[e];rwa[u _ (m q b)]
def NW(N:Sn ls ps gs hs)(R:pR ps qs C g)(t:1<=⇑qs)(B:eI ls qs):∃gs' hs',Sn ls qs gs' hs'/\gs'∘(⇑qs-1)=gs∘(⇑ps-1):=by
 let⟨gs',hs',o,e,j,A⟩:=Lu N.s N.hl N.m R t B;have u:=X9 N.s o R;have r:∀(k:Nat) (q:Str×Fm),qs[k]?⊂q->∃(i:Nat) (p:Str×Fm),ps[i]?⊂p/\iG (λZ Z=>True) p.2 q.2:=λk q b=>by
  have h:=(vx.mp b).1;let⟨i,d⟩:=R.ex k h;have s:=(R.lt i k d).1;rwa[i,_,vz s,(R.f i k _ _ d (vz s) b).1]
 erw[gs',hs',#[o,j,A,λk h=>?_,t,N.Au,λk y x v n b=>?_,λk y x m b=>?_],e]
 .let⟨i,d⟩:=R.ex k h;rw[u i k d];rwa[N.g1 i (R.lt i k d).1]
 .let⟨i,p,l,a⟩:=r k _ b;have D:=a.gS.mpr rfl;rwa[N.Cp i p.1 x v n (by rw[l];rwa[congrArg some (Prod.ext rfl D)])]
 .let⟨i,p,l,a⟩:=r k _ b;let⟨z,f⟩:=p;cases f with
  | again m' x'=>
   let⟨E,c,Z⟩:=a;cases c;rwa[N.CF i z x' _ l]
  | row xs=>let⟨Z,c,Z⟩:=a;cases c
  | side xs=>let⟨Z,c,Z⟩:=a;cases c
  | hold n=>rwa[ud (show Fm.again m x = .hold n from a) (λz=>nomatch z)]
  | ring w n=>rwa[ud (show Fm.again m x = .ring w n from a) (λz=>nomatch z)]
  | rise w v n=>rwa[ud (show Fm.again m x = .rise w v n from a) (λz=>nomatch z)]
def HE(N:Sn ls ps gs hs)(i:Sn ls qs gs' hs')(R:pR ps qs C g){E F:L0}(u:⇑E=⇑ps)(A:⇑F=⇑qs)(B:di ls ps E)(D:di ls qs F)(t:Int) :
  cS ls qs gs' F t=cS ls ps gs E t/\dD qs gs' t=dD ps gs t:=by
 have o:=X9 N.s i.s R;have CE:=Lq R u A B D;let⟨J,j,k,l⟩:=G4 N i R _ _ R.top t;unfold cS dD;rw[j,k];clear j k;generalize ls.map (·.2)=h
 induction J generalizing h with
 | nil=>rwa[rfl,rfl]
 | cons z r c=>
  have b:=l z vq;have c:=c λy I=>l y (vp _ I)
  let⟨G,H⟩:=R.lt _ _ b;have d:ps[z.1.1]?⊂ps[z.1.1]:=vz G;have e:qs[z.1.2]?⊂qs[z.1.2]:=vz H;let⟨a,Z⟩:=R.f _ _ _ _ b d e;have s:gh ls qs gs' F h (z.1.2,z.2)=gh ls ps gs E h (z.1.1,z.2):=by
   unfold gh;dsimp only;rw[o _ _ b,CE _ _ b,d,e];split
   .rfl
   .generalize ps[z.1.1]=p at a;generalize qs[z.1.2]=q at a;let⟨x,p⟩:=p;let⟨y,q⟩:=q;dsimp only at a|-;cases p with
    | row xs=>let⟨f,rfl,Z⟩:=a;rfl
    | side xs=>let⟨f,rfl,Z⟩:=a;rfl
    | again m x=>let⟨y,rfl,Z⟩:=a;rfl
    | hold n=>have:q = .hold n:=a;subst this;rfl
    | ring x n=>have:q = .ring x n:=a;subst this;rfl
    | rise x v n=>have:q = .rise x v n:=a;subst this;rfl
  have w:cZ qs (z.1.2,z.2)=cZ ps (z.1.1,z.2):=by
   unfold cZ;dsimp only;rw[d,e];generalize ps[z.1.1]=p at a;generalize qs[z.1.2]=q at a;let⟨x,p⟩:=p;let⟨y,q⟩:=q;dsimp only at a|-;cases p with
   | row xs=>let⟨f,rfl,Z⟩:=a;rfl
   | side xs=>let⟨f,rfl,Z⟩:=a;rfl
   | again m x=>let⟨y,rfl,Z⟩:=a;rfl
   | hold n=>have:q = .hold n:=a;subst this;rfl
   | ring x n=>have:q = .ring x n:=a;subst this;rfl
   | rise x v n=>have:q = .rise x v n:=a;subst this;rfl
  rw[uz,uz,v8,v8,flatMap_cons,flatMap_cons,s,w];rwa[(c _).1,by rw[(c h).2]]
end
end Rm
namespace L2
open PySem PySem.Spec PyProof.Rows
def Eb{K:cG}{n i j k l:Nat}(hi:i<n)(C:j<n)(D:k<n)(E:l<n):g0 n (nH K 4 (ec (cC i) (ec (cC j) (ec (cC k) (ec (cC l) nG))))):=λx G H Q q=>by
 let⟨a,B,d,f,g,v,r,h,z,w,o,c,b,p,A,y,s,t,q⟩:=q;erw[a,B,d,f,g,v,r,h,z,w,o,c,b,p,A,y,s,t,λm u F e=>?_,q];rw[List.getElem?_set_ne ⋯,List.getElem?_set_ne ⋯,List.getElem?_set_ne ⋯,List.getElem?_set_ne ⋯];rwa[e]
section
variable{X:Cx}{tg:Expr}
def qe(K:cG)(tl:TE):TI:=λσ H R=>tl σ H λx H1=>∃a,x = .ref a/\((∃xs,cm K H1 a xs)/\R (n6 K a) H1\/(∃xs,cL K H1 a xs)/\R (og K a) H1)
def De{K:cG}{b:TE}{c:St}{H:Hp}{R:It->Hp->Prop}(h:b c H λx H1=>∃a,x = .ref a/\((∃xs,cm K H1 a xs)/\R (n6 K a) H1\/(∃xs,cL K H1 a xs)/\R (og K a) H1)):qe K b c H R:=h
def MV(n:PE X l tl):PI X tg l (qe X.K tl):=by
 intro g s y H R I h;erw[cM (n g s y H _ I h) λv c z_=>?_];obtain⟨x,k,d,m,t⟩:=z_
 obtain⟨a,e,⟨⟨w,j⟩,q⟩ | ⟨⟨w,j⟩,q⟩⟩:=t
 .subst e;cases m;let⟨f,u,p,r⟩:=d.list j;erw[wpAny_pyIter_list p.isList ?_];erw[c⁻¹,[c⁻¹],_,_,k,rfl,d.kept (t':=c.toks) λb o e=>vJ _ e,XI a _,#[_,Heap.get?_push_size _ rfl,rfl,rfl],λb i=>?_,q];have e:b=c⁻¹:=by simpa using i
  subst e;rwa[d.gz (vb _) (d.cK.fresh (vb _))]
 .subst e;cases m;let⟨f,u,p,r⟩:=d.tuple j;erw[wpAny_pyIter_tuple (show c.heap.IsTuple a f.toArray from p) ?_];erw[c⁻¹,[c⁻¹],_,_,k,rfl,d.kept (t':=c.toks) λb o e=>vJ _ e,xv a _,#[_,Heap.get?_push_size _ rfl,rfl,rfl],λb i=>?_,q];have e:b=c⁻¹:=by simpa using i
  subst e;rwa[d.gz (vb _) (d.cK.fresh (vb _))]
end
open PySem PySem.Spec PySem.W PyProof.Rows
noncomputable abbrev KO:=Option Int
noncomputable def pB:KO->Value->Bool
 | some k,v=>Value.isInt k v
 | none,.none=>true
 | none,_=>false
def qF:∀{k:KO} {v:Value},pB k v=true->(∃i t,k⊂i/\v=Value.int i t)\/(k=none/\v=Value.none)
 | some i,v,h=>by
  let⟨t,e⟩:=Value.isInt_shape (k:=i) (v:=v) h;rwa[.inl #[i,t,rfl,e]]
 | none,v,h=>by
  cases v<;>first | exact .inr #[rfl,rfl] | cases h
noncomputable def OZ:KO->Int
 | some k=>hashInt k
 | none=>4238894112
def G9{P:Program}{w:World}{A:Around}{E:Nz}{s:Shared}{Q:Int->Shared->Prop}(h:Q 4238894112 {s with toks:=s.toks+1}):wpAny (model P w) A (pyHash .none) Q E s:=by
 have T:s.TypeIs .none "NoneType":=rfl;have a:[Value.none].any Value.onHeap=false:=rfl;unfold pyHash;erw[ug ?_];rw[cRoomFor,vc (by rw[a];rwa[vF])];erw[uf ?_];erw[ug (wpAny_specialOf T F.slot_NoneType_hash.lookup ?_)];show wpAny _ _ (if(some (Value.builtin "NoneType.__hash__")==some Value.none)=true then _ else _) Q E s;rw[vc (by rw[beq_builtin_none];rwa[vF])];erw[ug (wpAny_specialOf T F.slot_NoneType_hash.lookup ?_)];erw[ug (wpAny_callSpecialIfBoundUnlessNone?_slot T F.slot_NoneType_hash (wpAny_call_entry F.slot_NoneType_hash T F.entry_NoneType_hash ?_ (F.args_NoneType_hash_1 _)))];show wpAny _ _ (retInt 4238894112) _ _ s;erw[wpAny_ret_mkInt ?_];show wpAny _ _ (if(decide (-(2:Int)^63<=4238894112)&&decide ((4238894112:Int)<2^63))=true then _ else _) Q E _;rw[vd nofun];rwa[uf h]
noncomputable def gE(P:Program)(w:World):KeyKind P w KO where
 is:=pB
 hash:=OZ
 inj:=λv a b ha hb=>by
  rcases qF ha with⟨i,t,rfl,rfl⟩ | ⟨rfl,rfl⟩
  .rcases qF hb with⟨j,u,rfl,e⟩ | ⟨rfl,e⟩
   .injection e with e1 _;rw[e1]
   .exact nomatch e
  .rcases qF hb with⟨j,u,rfl,e⟩ | ⟨rfl,e⟩
   .exact nomatch e
   .rfl
 byValue:=λk v h=>by
  rcases qF h with⟨i,t,rfl,rfl⟩ | ⟨rfl,rfl⟩<;>rfl
 pyHash:=λhv h=>by
  rcases qF hv with⟨i,t,rfl,rfl⟩ | ⟨rfl,rfl⟩
  .exact wpAny_pyHash_int h
  .exact G9 h
 eqBool:=λhu hv h=>by
  rcases qF hu with⟨i,t,rfl,rfl⟩ | ⟨rfl,rfl⟩
  .rcases qF hv with⟨j,u,rfl,rfl⟩ | ⟨rfl,rfl⟩
   .refine wpAny_eqBool_int ?_;rw[show(i==j)=decide ((some i:KO)⊂j) by
     lia]
    rwa[h]
   .rw[vH (λz=>nomatch z)]at h;rwa[SeqAt.EqAt.int_none i t _ _ _ _ h]
  .rcases qF hv with⟨j,u,rfl,rfl⟩ | ⟨rfl,rfl⟩
   .rw[vH (λz=>nomatch z)]at h;rwa[SeqAt.EqAt.none_int j u _ _ _ _ h]
   .rw[vG rfl]at h;rwa[SeqAt.EqAt.same _ _ _ _ _ h]
 «strs»:=λk x t v h=>by
  rcases qF h with⟨i,u,rfl,e⟩ | ⟨rfl,e⟩<;>rwa[nomatch e]
noncomputable def kO:KO->V
 | some i=>.int i
 | none=>.dj
def Ox{k:KO}{u:Value}(r:RelV (kO k) u):pB k u=true:=by
 cases k with
 | some i=>let⟨t,rfl⟩:=(show∃t,u=Value.int i t from r);simp[pB,Value.isInt]
 | none=>cases(show u=Value.none from r);rfl
theorem Dv{P:Program}{w:World}:∀{ks:List KO} {us:L9},Vals (ks.map kO) us->ItemsAre (gE P w) ks us
 | [],_,r=>by rw[map_nil]at r;cases r;rwa[.nil]
 | k::ks,_,r=>by
  rw[uz]at r;cases r with
  | cons h t=>rwa[.cons (Ox h) (Dv t)]
def KAt(H:Hp)(b:Addr)(ks:List KO):Prop:=H b⊂(.tup (ks.map kO))
def Ce{P:Program}{w:World}{H:Hp}{h:Heap}{b:Addr}{ks:List KO}(g:fA P w H h)(e:KAt H b ks):(tupleKind (gE P w)).is h ks b:=by
 let⟨q,a,r,o,c,d,n,f⟩:=(show cD P w H h b (.tup (ks.map kO))from g b _ e)
 rwa[o,a.toArray,n,c,d,f,#v[Dv r]]
noncomputable abbrev OE:=List KO×Addr×V
def iF(xs:List OE)(ys:List (List KO×Addr×Value)):Prop:=Paired (λ(p:OE) (q:List KO×Addr×Value)=>p.1=q.1/\p.2.1=q.2.1/\RelV p.2.2 q.2.2) xs ys
noncomputable def nZ(P:Program)(w:World)(a:Addr)(xs:List OE):HO:=.ext λh=>⇑xs<=sizeLine/\(a==sysModules)=false/\∃ys:List (List KO×Addr×Value),
 iF xs ys/\(ys.map (·.1)).Nodup/\∃es ep,fJ h a es ep/\es.toList=ys.map (entryOfKey (tupleKind (gE P w)))
noncomputable def mi(xs:List OE)(k:List KO):Option OE:=xs.find? λp=>decide (p.1=k)
noncomputable def iq(xs:List OE)(k:List KO):V:=((mi xs k).map (·.2.2)).getD .dj
noncomputable def iM(xs:List OE)(k:List KO)(b:Addr)(v:V):List OE:=if(mi xs k).isSome then xs.map λp=>if p.1=k then(p.1,p.2.1,v)else p else xs++[(k,b,v)]
theorem iF.length:∀{xs:List OE} {ys:List (List KO×Addr×Value)},iF xs ys->⇑xs=⇑ys
 | _,_,.nil=>rfl
 | _,_,.cons _ t=>by rw[vQ,vQ,iF.length t]
theorem iF.all{F:List KO->Addr->Prop}:∀{xs:List OE} {ys:List (List KO×Addr×Value)},iF xs ys->(∀p∈xs,F p.1 p.2.1)->∀q∈ys,F q.1 q.2.1
 | _,_,.nil,_=>λq b=>nomatch b
 | _,_,.cons (a:=x) r t,h=>λq b=>by
  rcases mem_cons.mp b with rfl | b
  .have:=h _ vq;rw[r.1,r.2.1]at this;rwa[this]
  .exact iF.all t (λp c=>h p (vp _ c)) q b
theorem iF.sV{k:List KO}:∀{xs:List OE} {ys:List (List KO×Addr×Value)},iF xs ys->RelV (iq xs k) (((atKey ys k).map (·.2)).getD .none)/\(mi xs k).isSome=(atKey ys k).isSome
 | _,_,.nil=>#[rfl,rfl]
 | _,_,.cons (a:=x) (b:=y) (l₂:=m) (l₁:=l) r t=>by
  let⟨d,f⟩:=iF.sV (k:=k) t;unfold iq mi atKey at *;by_cases e:x.1=k
  .have c:y.1=k:=r.1▸e;rw[List.find?_cons,List.find?_cons,vG e,vG c];rwa[r.2.2,rfl]
  .have c:¬y.1=k:=r.1▸e;rw[List.find?_cons,List.find?_cons,vH e,vH c];rwa[d,f]
theorem iF.mapped{k:List KO}{v:V}{u:Value}(c:RelV v u):∀{xs:List OE} {ys:List (List KO×Addr×Value)},iF xs ys->iF (xs.map λp=>if p.1=k then(p.1,p.2.1,v)else p) (ys.map (putAt k u))
 | _,_,.nil=>.nil
 | _,_,.cons (a:=x) (b:=y) r t=>by
  erw[.cons ?_ (iF.mapped c t)];unfold putAt;dsimp only;by_cases e:x.1=k
  .rw[vd e,vd (r.1▸e)];rwa[r.1,r.2.1,c]
  .rw[vc e,vc (r.1▸e)];rwa[r]
theorem iF.snoc{k:List KO}{b:Addr}{v:V}{u:Value}(a:RelV v u):∀{xs:List OE} {ys:List (List KO×Addr×Value)},iF xs ys->iF (xs++[(k,b,v)]) (ys++[(k,b,u)])
 | _,_,.nil=>.cons #[rfl,rfl,a] .nil
 | _,_,.cons r t=>.cons r (iF.snoc a t)
def iF.put{k:List KO}{b:Addr}{v:V}{u:Value}{xs:List OE}{ys:List (List KO×Addr×Value)}(a:RelV v u)(p:iF xs ys):iF (iM xs k b v) (storedH ys k b u):=by
 unfold iM storedH;rw[(p.sV (k:=k)).2];split
 .exact p.mapped a
 .exact p.snoc a
def Dc{k:List KO}{b:Addr}{v:V}{xs:List OE}:⇑(iM xs k b v)<=⇑xs+1:=by
 unfold iM;split
 .rw[vt];lia
 .rw[vn];rwa[vb _]
section
variable{P:Program}{w:World}{H:Hp}{h:Heap}{a:Addr}{xs:List OE}
def EG(z:⇑xs<=sizeLine)(c:(a==sysModules)=false){ys:List (List KO×Addr×Value)}(r:iF xs ys)(d:(ys.map (·.1)).Nodup){es:Array DictEntry}{ep:Nat}(b:fJ h a es ep)(e:es.toList=ys.map (entryOfKey (tupleKind (gE P w)))):cD P w H h a (nZ P w a xs):=by
 erw[#[z,c,ys,r,d,es,ep,b,e],let ⟨o,ho,_⟩:=b;#[o,ho],?_];rintro f g ⟨z,c,ys,r,d,es,ep,b,e⟩ k;rwa[z,c,ys,r,d,es,ep,b.at' k,e]
end
section
variable{X:Cx}
def sE(P:Program)(w:World):TE:=λq H Q=>∀p,H p=none->Q (.ref p) (upd H p (nZ P w p []))
def ID{b:Pos}:PE X (.Dict [] [] b) (sE X.prog X.w):=λc s d H Q I h=>
 wpAny_Dict_empty #[.ref s⁻¹,_,I.laid (a:=s⁻¹) (o:=nZ X.prog X.w s⁻¹ []) (t':=s.toks) (λj j q=>vJ _ q) (vb _)
  (EG (va _) (beq_eq_false_iff_ne.mpr (Ne.symm (vE I.big))) .nil nodup_nil (es:=#[]) (ep:=0) #[_,Heap.get?_push_size _ rfl,#[rfl,rfl,rfl],rfl] rfl),rfl,h _ (I.cK.fresh (vb _))]
def ie(P:Program)(w:World)(H:Hp)(a:Addr)(xs:List OE):Prop:=H a⊂(nZ P w a xs)/\∀p∈xs,KAt H p.2.1 p.1
def Cb{d:Ny}{v:St}{H:Hp}{s:Shared}{a:Addr}{xs:List OE}(I:Inv X d v H s)(e:ie X.prog X.w H a xs):⇑xs<=sizeLine/\(a==sysModules)=false/\∃ys,iF xs ys/\s.heap.DictOfH (tupleKind (gE X.prog X.w)) a ys:=by
 let⟨e,f⟩:=e;let⟨z,l,ys,g,n,i,h,⟨o,r,j,c⟩,m⟩:=(show cD X.prog X.w H s.heap a (nZ X.prog X.w a xs)from I.cK a _ e).1;rwa[z,l,ys,g,o,i,h,r,j,c,m,λq u=>g.all (F:=λk b=>(tupleKind (gE X.prog X.w)).is s.heap k b) (λp t=>Ce I.cK (f p t)) q u,n]
def oT(P:Program)(w:World)(to ty:TE):TE:=λσ H Q=>to σ H λx H1=>∃a xs,x = .ref a/\ie P w H1 a xs/\ty σ H1 λy H2=>∃b k xs,y = .ref b/\ie P w H2 a xs/\KAt H2 b k/\Q (iq xs k) H2
def Ew{o e:Expr}{t v:TE}{c f:Pos}(L:X.A.units+1<cLine)(K:PE X o t)(J:PE X e v)(m:M1 X o "get" c e f):PE X (.Call (.Attribute o "get" c) [e] [] f) (oT X.prog X.w t v):=by
 intro g s w H Q I h;erw[wpAny_Call_method m.base m.AV m.line Az PySem.F.slot_dict_get PySem.F.type_dict_get (cM (K g s w H _ I h) λu W z_=>?_)];obtain⟨x,z,p,T,a,Z,C,d,R⟩:=z_;subst C;obtain rfl:u=Value.ref a:=T;let⟨_,_,ys,_,r⟩:=Cb p d;erw[r.typeIs,λb q=>?_,?_]
 .cases q;let⟨O,_,_,E,F,_⟩:=r;rwa[O,E,F.2.1]
 rw[m.trees];erw[Calls.callWith_builtin rfl (Calls.evalArgs_plain (Calls.spliced_cons (cM (J g W w z _ p R) λM Y z_=>?_)))];let⟨y,A,j,U,b,k,l,D,B,N,S⟩:=z_;erw[Calls.spliced_nil ?_];subst D;cases(show M=Value.ref b from U);let⟨_,G,n,P,i⟩:=Cb j B;erw[call_meetsIn PySem.F.slot_dict_get i.typeIs PySem.F.entry_dict_get (PySem.F.args_dict_get_2 _ _) (meetsH_dict_get (tupleKind (gE X.prog X.w)) a b G) #[tupleKind_room_in1 L,k,n,Ce j.cK N,i,#[iq l k,A,j.tok _,?_,S]]];rwa[(P.sV (k:=k)).1]
def IY{P:Program}{w:World}(f:X.prog=P)(g:X.w=w){o e:Expr}{c d:TE}{a b:Pos}(j:X.A.units+1<cLine)(i:PE X o c)(h:PE X e d)(m:M1 X o "get" a e b):PE X (.Call (.Attribute o "get" a) [e] [] b) (oT P w c d):=by
 subst f g;rwa[Ew j i h m]
def DU{P:Program}{w:World}{d e:TE}{c:St}{H:Hp}{Q:VK}(h:d c H λx H1=>∃a xs,x = .ref a/\ie P w H1 a xs/\e c H1 λy H2=>∃b k xs,y = .ref b/\ie P w H2 a xs/\KAt H2 b k/\Q (iq xs k) H2):oT P w d e c H Q:=h
def NJ(y:X.A.units+1<cLine):rV X (λo i v H Q=>∃a b k xs,o = .ref a/\i = .ref b/\ie X.prog X.w H a xs/\KAt H b k/\⇑xs<sizeLine/\Q (upd H a (nZ X.prog X.w a (iM xs k b v)))):=by
 intro g s M H o i v ov L u Q I D C E h;let⟨a,b,k,xs,rfl,rfl,d,B,l,q⟩:=h;cases D;cases C;let⟨z,w,F,j,m⟩:=Cb I d;have A:⇑F<=sizeLine:=by rw[<-⇑j];rwa[z]
 erw[wpAny_setItem_heap (hsz:=A) (tupleKind_room_in1 y) (Ce I.cK B) m λK c x=>#[_,?_,q]]
 let⟨f,J,G,e,n,p,r,Z,t⟩:=c;have:=Dc (xs:=xs) (k:=k) (b:=b) (v:=v);rwa[YT I (by rw[d.1];rwa[True.intro]) x #[f,e] (EG ⋯ w (j.put E) t #[f,e,n,p] r)]
mutual
theorem DV.nA{H:Hp}{d:Addr}{o:HO}(n:(∀ys,H d≠some (.lst ys))/\∀ys,H d≠some (.tup ys)):∀{v:V} {D:PyData},DV H v D->DV (upd H d o) v D
 | _,_,.dj=>.dj
 | _,_,.bl b=>.bl b
 | _,_,.int i=>.int i
 | _,_,.str x=>.str x
 | _,_,.lst e r=>.lst ((jh (λz=>n.1 _ (z▸e))).trans e) (ig.nA n r)
 | _,_,.tup e r=>.tup ((jh (λz=>n.2 _ (z▸e))).trans e) (ig.nA n r)
theorem ig.nA{H:Hp}{d:Addr}{o:HO}(n:(∀ys,H d≠some (.lst ys))/\∀ys,H d≠some (.tup ys)):∀{vs:N4} {ds:List PyData},ig H vs ds->ig (upd H d o) vs ds
 | _,_,.nil=>.nil
 | _,_,.cons a r=>.cons (DV.nA n a) (ig.nA n r)
end
def C4{xs:List OE}{k a:List KO}{b:Addr}{v:V}:iq (iM xs k b v) a=if a=k then v else iq xs a:=by
 unfold iM;by_cases z:(mi xs k).isSome=true
 .rw[vd z];unfold iq mi at *;have e:∀l:List OE,((l.map λp=>if p.1=k then(p.1,p.2.1,v)else p).find? λp=>decide (p.1=a))=(l.find? λp=>decide (p.1=a)).map λp=>if p.1=k then(p.1,p.2.1,v)else p:=λl=>by
   induction l with
   | nil=>rfl
   | cons x r ih=>
    have d:(if x.1=k then(x.1,x.2.1,v)else x).1=x.1:=by split<;>rfl
    rw[uz,List.find?_cons,List.find?_cons,d,ih];by_cases c:x.1=a
    .rw[vG c];rfl
    .rw[vH c]
  rw[e,Option.map_map];by_cases c:a=k
  .subst c;rw[vd rfl];cases f:xs.find? λp=>decide (p.1=a)with
   | none=>rw[f]at z;cases z
   | some p=>
    have this:=List.find?_some f;have this:=of_decide_eq_true this;show(if p.1=a then(p.1,p.2.1,v)else p).2.2=v;rw[vd this]
  .rw[vc c];cases f:xs.find? λp=>decide (p.1=a)with
   | none=>rfl
   | some p=>
    have this:=List.find?_some f;have this:=of_decide_eq_true this;show(if p.1=k then(p.1,p.2.1,v)else p).2.2=p.2.2;rw[vc (λz=>c (this.symm.trans z))]
 .rw[vc z];have g:mi xs k=none:=by simp_all
  unfold iq mi at *;rw[List.find?_append];by_cases c:a=k
  .subst c;rw[g,vd rfl,Option.none_or,List.find?_cons,vG rfl];rfl
  .rw[vc c,List.find?_cons,vH (λz=>c z.symm),List.find?_nil,Option.or_none]
def LB{H H':Hp}{xs:List OE}{k:List KO}{b:Addr}{v:V}(h:∀p∈xs,KAt H p.2.1 p.1)(d:KAt H b k)(t:∀c ys,H c⊂.tup ys->H' c⊂.tup ys):∀p∈iM xs k b v,KAt H' p.2.1 p.1:=λp a=>by
 unfold iM at a;split at a
 .let⟨q,e,rfl⟩:=vK.mp a;have:=t _ _ (h q e);split<;>rwa[this]
 .rcases vh.mp a with z | z
  .exact t _ _ (h p z)
  .rw[vo.mp z];rwa[t _ _ d]
end
end L2
namespace Rm
open PySem PySem.Spec PyProof.Rows L2
theorem BH:∀{l:Nq} {k v a:Int},(l.map (·.1)).Pairwise (· < ·)->(k,v)∈l->(k,a)∈l->v=a
 | [],_,_,_,_,m,_=>nomatch m
 | q::r,k,v,a,p,m,m'=>by
  rw[uz,vV]at p;rcases mem_cons.mp m with e | n<;>rcases mem_cons.mp m' with e' | n'
  .rw[<-e]at e';cases e';rfl
  .rw[<-e]at p;rwa[ud (p.1 _ (vK.mpr #[_,n',rfl])) (Int.lt_irrefl _)]
  .rw[<-e']at p;rwa[ud (p.1 _ (vK.mpr #[_,n,rfl])) (Int.lt_irrefl _)]
  .exact BH p.2 n n'
def He(r:∀j∈is,((E.getD j []).map (·.1)).Pairwise (· < ·))(a:cQ E is k v)(b:cQ E is k v'):v=v':=by
 let⟨t,j,n,e,g,q⟩:=a;let⟨o,s,i,l,d,h⟩:=b;rw[e]at l;have m:=r j (by rw[e];simp);rcases List.append_eq_append_iff.mp l with⟨f,p,c⟩ | ⟨f,p,c⟩
 .cases f with
  | nil=>
   rw[nil_append]at c;injection c with e3 e4;subst e3;rwa[BH m g d]
  | cons x f=>
   rw[cons_append]at c;injection c with e3 e4;rwa[ud d (q s (by rw[e4];simp) v')]
 .cases f with
  | nil=>
   rw[nil_append]at c;injection c with e3 e4;subst e3;rwa[BH m g d]
  | cons x f=>
   rw[cons_append]at c;injection c with e3 e4;rwa[ud g (h j (by rw[e4];simp) v)]
section
variable{L:L8}{fs:List Fn}{M:L1}{gs:L5}{names:L8}{E:L0}
open Classical in
theorem EN.ex(D:ez L fs M gs)(o:L.Nodup):∀n,n<=⇑fs->∃E:L0,⇑E=n/\EN L fs n E
 | 0,_=>#[[],rfl,λi f h=>ud h (Nat.not_lt_zero _)]
 | n+1,hn=>by
  let⟨E,O,e⟩:=EN.ex D o n ⋯;obtain⟨f,K⟩:∃f,fs[n]?⊂f:=#[_,vz ⋯]
  let⟨l,_,_⟩:=D.f n f K;have B:=l.js.2;have Q:∀k v,(cQ E f.js k v\/∃x m,f = .rise x v m/\k=(cF L x:Nat))->0<=k/\k<⇑L:=by
   rintro k v (h | ⟨x,m,rfl,rfl⟩)
   .let⟨j,d,q,F⟩:=Wj.mp #[v,h];rwa[D.AN j (by have:=B j d;lia) k (e.ur D o ⋯ (B j d) (k,q) F)]
   .let⟨⟨i,s⟩,_⟩:=l;rw[jZ o s];have:=(vx.mp s).1;lia
  have Z:∀k v q,(cQ E f.js k v\/∃x m,f = .rise x v m/\k=(cF L x:Nat))->(cQ E f.js k q\/∃x m,f = .rise x q m/\k=(cF L x:Nat))->v=q:=by
   rintro k v q (h | ⟨x,m,R,rfl⟩) (A | ⟨x',m',C,A⟩)
   .refine He (λj d=>?_) h A;obtain⟨g,p⟩:∃g,fs[j]?⊂g:=#[_,vz (by have:=B j d;lia)]
    rwa[(e j g (B j d) p).1]
   .rw[C]at h;let⟨l,j,u,z,_⟩:=h;simp[Fn.js]at z
   .rw[R]at A;let⟨l,j,u,z,_⟩:=A;simp[Fn.js]at z
   lia
  generalize U:(λk v=>(cQ E f.js k v\/∃x m,f = .rise x v m/\k=(cF L x:Nat)))=P;have w:∀k v,(cQ E f.js k v\/∃x m,f = .rise x v m/\k=(cF L x:Nat))↔P k v:=λk v=>by rw[<-U]
  generalize N:((List.range ⇑L).filterMap λi:Nat=>if h:∃v,P (i:Int) v then some ((i:Int),Classical.choose h)else none)=r;have X:∀k v,(k,v)∈r↔P k v:=λk v=>by
   rw[<-N,mem_filterMap];constructor
   .rintro⟨i,s,z⟩;split at z
    case isTrue h=>
     have z:=vL z;injection z with z1 z2;rw[<-z1,<-z2];rwa[Classical.choose_spec h]
    case isFalse h=>cases z
   .intro h;let⟨b0,b1⟩:=Q k v ((w k v).mpr h);erw[k.toNat,v4.mpr ⋯,?_];have S:((k.toNat:Nat):Int)=k:=⋯
    rw[S,dif_pos #[v,h]];have c:=Classical.choose_spec (#[v,h]:∃v,P k v);rw[Z k _ v ((w k _).mpr c) ((w k v).mpr h)]
  have Y:(r.map (·.1)).Pairwise (· < ·):=by
   rw[<-N,pairwise_map,List.pairwise_filterMap];erw[List.pairwise_lt_range.imp λ{a b} W x G y H=>?_]
   split at G
   case isFalse=>cases G
   split at H
   case isFalse=>cases H
   rw[<-vL G,<-vL H];show(a:Int)<(b:Int);lia
  have t:∀i,i<n->(E++[r]).getD i []=E.getD i []:=λi s=>by rw[vy,vy,vB ⋯]
  have I:(E++[r]).getD n []=r:=by rw[vy,vC ⋯,O,uq];rfl
  erw[E++[r],by rw[vn,O];rfl,λi g s p=>?_];have T:=(D.f i g p).1.js.2;have ex:∀j∈g.js,(E++[r]).getD j []=E.getD j []:=λj d=>t j (by have:=T j d;lia)
  have J:∀k v,(cQ E g.js k v\/∃x m,g = .rise x v m/\k=(cF L x:Nat))↔(cQ (E++[r]) g.js k v\/∃x m,g = .rise x v m/\k=(cF L x:Nat)):=λk v=>
   or_congr_left #[yp λj d=>(ex j d).symm,yp ex]
  rcases Nat.lt_or_ge i n with c | c
  .rw[t i c];let⟨a,b⟩:=e i g c p;rwa[a,λk v=>(b k v).trans (J k v)]
  .have:i=n:=⋯
   subst this;rw[K]at p;cases p;rw[I];rwa[Y,λk v=>(X k v).trans ((w k v).symm.trans (J k v))]
end
def Ly{ls:L4}{fs:List Fn}{M:L1}{gs:L5}{names:L8}(D:ez (cb ls) fs M gs)(r:⇑fs<=⇑names)(A:names.Nodup)(g:(cb ls).Nodup):∃E:L0,⇑E=⇑(cg names fs)/\di ls (cg names fs) E:=by
 let⟨E,z,e⟩:=EN.ex D g ⇑fs (vb _);erw[E,by rw[j3];rwa[z],λi p x s t=>?_];let⟨f,d,rfl⟩:=Qo s;have o:=(vx.mp d).1;have u:=(D.f i f d).1.js.2;have n:E.getD i []=x:=by rw[vy,t];rfl
 let⟨a,b⟩:=e i f o d;rw[n]at a b;erw[a,λk v=>(b k v).trans ?_];unfold hZ;rw[zE r A λj q=>by have:=u j q;lia];erw[or_congr Iff.rfl #[?_,?_]]
 .rintro⟨x,m,rfl,c⟩;rwa[x,m,rfl,c]
 .rintro⟨x,m,h,c⟩;cases f with
  | rise y w l=>
   cases h;rwa[_,_,rfl,c]
  | _=>nomatch h
def Mn{ls:L4}{ps:N2}{gs:L5}{t:Int}(B:tj ls ps):∀x∈dD ps gs t,Ws.gn x=true:=λx b=>by
 unfold dD at b;let⟨y,q,a⟩:=mem_flatMap.mp b;unfold cZ at a;cases e:ps[y.1]? with
 | none=>rw[e]at a;nomatch a
 | some p=>
  rw[e]at a;have w:=(B.pn p (vm e)).2;let⟨c,f⟩:=p;cases f with
  | ring z n=>
   dsimp only at a;split at a
   .rw[vo.mp a];rwa[w.1]
   .nomatch a
  | _=>nomatch a
end Rm
namespace L2
open PySem PySem.Spec PySem.W PyProof.Rows
section
variable{X:Cx}
def WF:dE X (.type "dict") (λxs H Q=>∃(p:Addr) (kvs:List (Key×V)),xs=[.ref p]/\(H p⊂.dK kvs\/∃o,H p⊂(.iy o (.dK kvs)))/\∀d,H d=none->Q (.ref d) (upd H d (.dK kvs))):=by
 intro f s w H xs t Q I r h;let⟨p,kvs,rfl,j,q⟩:=h;let⟨u,rfl,m⟩:=vals1 r;cases m;let⟨z,k,v,g,i⟩:=tT I.cK j;erw[kt_call_dict (knd:=cv X.prog X.w) k i (by rw[<-⇑g];rwa[z]) λn a l=>?_]
 have c:(s⁻¹==sysModules)=false:=by
  rw[beq_eq_false_iff_ne];rwa[vO I.big]
 erw[.ref s⁻¹,upd H s⁻¹ (.dK kvs),I.laid (t':=s.toks) (λb o e=>(l.2 b (vE (vI e))).trans (vJ _ e)) (vb _) (K1 z c g a),rfl,q _ (I.cK.fresh (vb _))]
end
end L2
namespace Rm
open PySem PySem.Spec PyProof.Rows L2
def pd(S:L5)(h h':L5):Prop:=⇑h=⇑h'/\∀i:Nat,(i:Int)∈S->h[i]?=h'[i]?
def hB(h:L5):Prop:=∀x∈h,0<=x/\x<=10^18
def hB.getD(b:hB h)(i:Nat):0<=h∘i/\h∘i<=10^18:=by
 rw[vy];cases e:h[i]? with
 | none=>rwa[vA _,nofun]
 | some x=>rwa[b x (vm e)]
def hB.set(b:hB h)(a:0<=v/\v<=10^18):hB (h.set i v):=λx c=>by
 rcases List.mem_or_eq_of_mem_set c with z | z
 .exact b x z
 .rw[z];rwa[a]
theorem hB.cJ:∀{es:Nq} {h:L5},hB h->(∀q∈es,0<=q.2/\q.2<=10^18)->hB (cJ es h)
 | [],_,b,_=>b
 | q::r,h,b,e=>by
  rw[zh];rwa[hB.cJ (b.set (e q vq)) λx a=>e x (vp _ a)]
section
variable{L:L8}{fs:List Fn}{M:L1}{gs:L5}{names:L8}{n:Nat}{E:L0}
def xf(D:ez L fs M gs)(h:L.Nodup)(g:fs[i]?⊂.rise y v m):((cF L y:Nat):Int)∈M.getD i []/\0<=v/\v<=10^18/\1<=m/\gs∘i=m:=by
 let⟨⟨⟨k,a⟩,b,c,d,q⟩,e,f⟩:=D.f i _ g;rwa[(e.2 _).mpr (.inr #[y,v,m,k,rfl,a,by rw[jZ h a]]),b,c,d,f]
def EN.val(D:ez L fs M gs)(e:EN L fs n E)(s:n<=⇑fs):∀{i:Nat},i<n->∀q∈E.getD i [],0<=q.2/\q.2<=10^18:=by
 intro i
 induction i using Nat.strongRecOn with
 | ind i ih=>
  intro k q o;obtain⟨f,b⟩:∃f,fs[i]?⊂f:=#[_,vz ⋯]
  let⟨a,Z,Z⟩:=D.f i f b;rcases((e i f k b).2 q.1 q.2).mp o with⟨p,j,c,g,h,_⟩ | ⟨x,m,d,r⟩
  .have l:j∈f.js:=by rw[g];simp
   have:=a.js.2 j l;rwa[ih j this ⋯ _ h]
  .subst d;rwa[a.2.1,a.2.2.1]
def Bp:⇑(i7 L fs gs E h x)=⇑h:=by
 unfold i7;split
 .exact Qc _ _
 .split
  .exact length_set ..
  .rfl
def M7(D:ez L fs M gs)(a:L.Nodup)(e:EN L fs n E)(b:n<=⇑fs){h:L5}{x:Nat×Int}(c:x.1<n){i:Nat}(hi:¬(i:Int)∈M.getD x.1 []):(i7 L fs gs E h x)[i]?=h[i]?:=by
 unfold i7;split
 .exact zK (e.pos D a b c) λv d=>hi (e.ur D a b c _ d)
 .split
  .rename_i y v m hf;refine List.getElem?_set_ne λz=>hi ?_
   rw[<-z];rwa[(xf D a hf).1]
  .rfl
def M5(D:ez L fs M gs)(g:L.Nodup)(e:EN L fs n E)(l:n<=⇑fs)(d:x.1<n)(s:∀k∈M.getD x.1 [],k∈S)(a:pd S h h'):pd S (i7 L fs gs E h x) (i7 L fs gs E h' x):=by
 erw[by rw[Bp,Bp];rwa[a.1],λi p=>?_];have q:=a.1;unfold i7;split
 .by_cases c:i<⇑h
  case neg=>rw[vT (by rw[Qc];lia),vT (by rw[Qc];lia)]
  obtain⟨f,j⟩:∃f,fs[x.1]?⊂f:=#[_,vz ⋯]
  by_cases o:∃v,((i:Int),v)∈E.getD x.1 []
  .let⟨v,b⟩:=o;rw[yX (e x.1 f d j).1 (e.pos D g l d) b c,yX (e x.1 f d j).1 (e.pos D g l d) b ⋯]
  .rw[zK (e.pos D g l d) λv b=>o #[v,b],zK (e.pos D g l d) λv b=>o #[v,b]];rwa[a.2 i p]
 .split
  .rename_i y v m j;have r:=a.2 (cF L y) (s _ (xf D g j).1);rw[vy,vy,r];by_cases c:cF L y=i
   .subst c;rw[List.getElem?_set,List.getElem?_set,vd rfl,vd rfl,q]
   .rw[List.getElem?_set_ne c,List.getElem?_set_ne c];rwa[a.2 i p]
  .exact a.2 i p
def M6(D:ez L fs M gs)(g:L.Nodup)(e:EN L fs n E)(a:n<=⇑fs)(d:x.1<n)(k:0<=x.2)(b:hB h):hB (i7 L fs gs E h x):=by
 unfold i7;split
 .exact b.cJ (e.val D a d)
 .rename_i c;split
  .rename_i y v m hf;let⟨q,i,j,f,l⟩:=xf D g hf;rwa[b.set (Bm (b.getD _) #[i,j] f k ⋯)]
  .exact b
def wm(D:ez L fs M gs)(e:⇑fs<=⇑names)(r:names.Nodup)(l:L.Nodup)(u:⇑L<=8)(g:⇑fs<=61):∀{j:Nat} {t:Int} {x:Nat×Int},j<⇑fs->x∈reach (cg names fs) gs j t->x.1<=j/\∀k∈M.getD x.1 [],k∈M.getD j []:=by
 have m:cb (L.map λx=>(x,(0:Int)))=L:=by
  unfold cb;rw[v7];rwa[map_id _]
 have W:eI (L.map λx=>(x,(0:Int))) (cg names fs):=ez.wf (by rw[m];rwa[D]) e r (by rw[m];rwa[l]) (by rw[vt];rwa[u]) g;intro j
 induction j using Nat.strongRecOn with
 | ind j ih=>
  intro t x w d;by_cases c:gs∘j<=t\/cP (cg names fs) gs j=[]
  .rw[Jg c]at d;rw[vo.mp d];rwa[vb _,λk h=>h]
  .rw[JI W c]at d;let⟨y,p,d⟩:=mem_flatMap.mp d;obtain⟨f,n⟩:∃f,fs[j]?⊂f:=#[_,vz ⋯]
   have v:=Qv W p;let⟨q,o,s⟩:=Wk p;rw[zY D e r n]at o;have i:y.1∈f.js:=by rw[s];rwa[Kc o]
   let⟨a,b⟩:=ih y.1 v ⋯ d;rwa[⋯,λk h=>((D.f j f n).2.1.2 k).mpr (.inl #[y.1,i,b k h])]
def mV(D:ez L fs M gs)(b:⇑fs<=⇑names)(i:names.Nodup)(c:L.Nodup)(h:⇑L<=8)(a:⇑fs<=61)(e:j<⇑fs)(k:0<=t)(g:x∈reach (cg names fs) gs j t):0<=x.2:=by
 have d:cb (L.map λx=>(x,(0:Int)))=L:=by
  unfold cb;rw[v7];rwa[map_id _]
 have N:Sn (L.map λx=>(x,(0:Int))) (cg names fs) gs M:=ez.sn (by rw[d];rwa[D]) b i (by rw[d];rwa[c]) (by rw[vt];rwa[h]) a ⋯ λq f=>by
  let⟨x,q,rfl⟩:=vK.mp f;rwa[(by show(0:Int)<=0;decide),(by show(0:Int)<=10^18;decide)]
 rwa[Ig N (by rw[j3];rwa[e]) k g]
def wk:⇑(eD L names fs gs E j t h)=⇑h:=by
 unfold eD;generalize reach (cg names fs) gs j t=xs
 induction xs generalizing h with
 | nil=>rfl
 | cons x r ih=>rw[v8,ih,Bp]
theorem Du(D:ez L fs M gs)(c:L.Nodup)(e:EN L fs n E)(d:n<=⇑fs){i:Nat}:∀{xs:L3} {h:L5},(∀x∈xs,x.1<n/\¬(i:Int)∈M.getD x.1 [])->(xs.foldl (i7 L fs gs E) h)[i]?=h[i]?
 | [],_,_=>rfl
 | x::r,h,hx=>by
  rw[v8,Du D c e d λy f=>hx y (vp _ f)];let⟨a,b⟩:=hx x vq;rwa[M7 D c e d a b]
theorem C5(D:ez L fs M gs)(b:L.Nodup)(e:EN L fs n E)(c:n<=⇑fs):∀{xs:L3} {h h':L5},(∀x∈xs,x.1<n/\∀k∈M.getD x.1 [],k∈S)->pd S h h'->pd S (xs.foldl (i7 L fs gs E) h) (xs.foldl (i7 L fs gs E) h')
 | [],_,_,_,a=>a
 | x::r,h,h',hx,a=>by
  rw[v8,v8];let⟨p,q⟩:=hx x vq;rwa[C5 D b e c (λy d=>hx y (vp _ d)) (M5 D b e c p q a)]
theorem C6(D:ez L fs M gs)(a:L.Nodup)(e:EN L fs n E)(c:n<=⇑fs):∀{xs:L3} {h:L5},(∀x∈xs,x.1<n/\0<=x.2)->hB h->hB (xs.foldl (i7 L fs gs E) h)
 | [],_,_,b=>b
 | x::r,h,hx,b=>by
  rw[v8];let⟨p,q⟩:=hx x vq;rwa[C6 D a e c (λy d=>hx y (vp _ d)) (M6 D a e c p q b)]
def BF(D:ez L fs M gs)(f:⇑fs<=⇑names)(m:names.Nodup)(c:L.Nodup)(l:⇑L<=8)(d:⇑fs<=61)(e:EN L fs n E)(g:n<=⇑fs){j:Nat}{t:Int}{h:L5}(o:j<n){i:Nat}(hi:¬(i:Int)∈M.getD j []):(eD L names fs gs E j t h)[i]?=h[i]?:=
 Du D c e g λx k=>by
  let⟨a,b⟩:=wm D f m c l d ⋯ k;rwa[⋯,λz=>hi (b _ z)]
def Nj(D:ez L fs M gs)(f:⇑fs<=⇑names)(l:names.Nodup)(c:L.Nodup)(k:⇑L<=8)(d:⇑fs<=61)(e:EN L fs n E)(g:n<=⇑fs)(m:j<n)(a:pd (M.getD j []) h h'):pd (M.getD j []) (eD L names fs gs E j t h) (eD L names fs gs E j t h'):=
 C5 D c e g (λx i=>by
  let⟨a,b⟩:=wm D f l c k d ⋯ i;rwa[⋯,b]) a
def Nk(D:ez L fs M gs)(f:⇑fs<=⇑names)(k:names.Nodup)(c:L.Nodup)(i:⇑L<=8)(d:⇑fs<=61)(e:EN L fs n E)(l:n<=⇑fs)(o:j<n)(m:0<=t)(b:hB h):hB (eD L names fs gs E j t h):=
 C6 D c e l (λx g=>by
  let⟨a,q⟩:=wm D f k c i d ⋯ g;rwa[⋯,mV D f k c i d ⋯ m g]) b
theorem Dk(D:ez L fs M gs)(b:⇑fs<=⇑names)(l:names.Nodup)(c:L.Nodup)(j:⇑L<=8)(a:⇑fs<=61)(e:EN L fs n E)(f:n<=⇑fs){S:L5}:∀{xs:L3} {h:L5},(∀x∈xs,x.1<n/\∀k∈M.getD x.1 [],¬k∈S)->pd S (xs.foldl (λh x=>eD L names fs gs E x.1 x.2 h) h) h
 | [],_,_=>#[rfl,λZ Z=>rfl]
 | x::r,h,hx=>by
  rw[v8];let⟨p,q⟩:=hx x vq;have g:=Dk D b l c j a e f (S:=S) (xs:=r) (h:=eD L names fs gs E x.1 x.2 h) λy m=>hx y (vp _ m)
  erw[by rw[g.1,wk],λi d=>?_];rw[g.2 i d];rwa[BF D b l c j a e f p λz=>q _ z d]
end
structure lX(L names:L8)(fs:List Fn)(M:L1)(gs:L5)(E:L0):Prop where
 D:ez L fs M gs
 mj:⇑fs<=⇑names
 nd:names.Nodup
 j0:L.Nodup
 l8:⇑L<=8
 nF:⇑fs<=17
 sW:∀j,j<⇑fs->gs∘j<=90
 e:EN L fs ⇑fs E
 w:∀j t,j<⇑fs->0<=t->⇑(eV names fs gs j t)<=5000
section
variable{L:L8}{fs:List Fn}{M:L1}{gs:L5}{names:L8}{E:L0}
noncomputable def eM(L names:L8)(fs:List Fn)(gs:L5)(E:L0)(j:Nat)(h:L5):List (L5×L8):=(List.range (gs∘j).toNat).map λb:Nat=>(eD L names fs gs E j (b:Int) h,eV names fs gs j (b:Int))
def Jp:⇑(eM L names fs gs E j h)=(gs∘j).toNat:=by unfold eM;rw[vt,length_range]
def ZV{j b:Nat}{h:L5}(a:(b:Int)<gs∘j):(eM L names fs gs E j h)[b]?⊂(eD L names fs gs E j (b:Int) h,eV names fs gs j (b:Int)):=by
 unfold eM;rw[vv,List.getElem?_range ⋯];rfl
def Be(B:lX L names fs M gs E)(c:fs[j]?⊂f)(b:f.js=[])(d:∀is,f≠.row is/\f≠.side is)(t:Int)(h:L5):eD L names fs gs E j t h=i7 L fs gs E h (j,t)/\eV names fs gs j t=cZ (cg names fs) (j,t):=by
 have a:cP (cg names fs) gs j=[]:=by
  rw[zY B.D B.mj B.nd c,b];cases f<;>rfl
 unfold eD eV;rw[Jg (.inr a)];rwa[rfl,by simp]
def Hn(B:lX L names fs M gs E)(a:fs[j]?⊂.hold n)(h:L5):eM L names fs gs E j h=List.replicate n.toNat (h,[])/\cJ (E.getD j []) h=h:=by
 have f:=(vx.mp a).1;have g:gs∘j=n:=(B.D.f j _ a).2.2;have e:E.getD j []=[]:=by
  erw[List.eq_nil_iff_forall_not_mem.mpr λq k=>?_]
  rcases((B.e j _ f a).2 q.1 q.2).mp k with⟨p,i,d,z,_⟩ | ⟨x,m,z,_⟩
  .simp[Fn.js]at z
  .cases z
 erw[?_,by rw[e];rfl];erw[ext_getElem? λb=>?_]
 rcases Nat.lt_or_ge b n.toNat with c | c
 case inr=>rw[vT (by rw[Jp,g];rwa[c]),vT (by rw[length_replicate];rwa[c])]
 let⟨l,o⟩:=Be B a rfl (λr=>#[(λz=>nomatch z),(λz=>nomatch z)]) (b:Int) h;rw[ZV ⋯,l,o,List.getElem?_replicate,vd c];unfold i7 cZ;rw[vc (by show¬gs∘j<=(b:Int);lia),a,qg a];rfl
def Ho(B:lX L names fs M gs E)(a:fs[j]?⊂.ring x n)(h:L5):eM L names fs gs E j h=(List.replicate n.toNat (h,[])).set 0 (h,[x])/\cJ (E.getD j []) h=h:=by
 have f:=(vx.mp a).1;have g:gs∘j=n:=(B.D.f j _ a).2.2;have e:E.getD j []=[]:=by
  erw[List.eq_nil_iff_forall_not_mem.mpr λq k=>?_]
  rcases((B.e j _ f a).2 q.1 q.2).mp k with⟨p,i,d,z,_⟩ | ⟨x,m,z,_⟩
  .simp[Fn.js]at z
  .cases z
 erw[?_,by rw[e];rfl];erw[ext_getElem? λb=>?_]
 rcases Nat.lt_or_ge b n.toNat with c | c
 case inr=>rw[vT (by rw[Jp,g];rwa[c]),vT (by rw[length_set,length_replicate];rwa[c])]
 let⟨l,o⟩:=Be B a rfl (λr=>#[(λz=>nomatch z),(λz=>nomatch z)]) (b:Int) h;rw[ZV ⋯,l,o];unfold i7 cZ;rw[vc (by show¬gs∘j<=(b:Int);lia),a,qg a];show some (h,if(b:Int)=0 then[x]else[])=_;by_cases z:b=0
 .subst z;rw[List.getElem?_set_self (by rw[length_replicate];rwa[c])];rfl
 .rw[List.getElem?_set_ne (λq=>z q.symm),List.getElem?_replicate,vd c,vc ⋯]
noncomputable def dX(L:L8)(x:Str)(v n:Int)(h:L5)(m:Nat):List (L5×L8):=(List.range m).map λb:Nat=>(h.set (cF L x) (Rp.ramp (h∘(cF L x)) v n (b:Int)),[])
def Hq(B:lX L names fs M gs E)(a:fs[j]?⊂.rise x v n)(h:L5):eM L names fs gs E j h=dX L x v n h n.toNat/\cJ (E.getD j []) h=h.set (cF L x) v:=by
 have t:=(vx.mp a).1;have g:gs∘j=n:=(B.D.f j _ a).2.2;let⟨e,k⟩:=B.e j _ t a;have o:E.getD j []=[(((cF L x:Nat):Int),v)]:=by
  have f:(((cF L x:Nat):Int),v)∈E.getD j []:=(k _ _).mpr (.inr #[x,n,rfl,rfl]);have d:∀q∈E.getD j [],q=(((cF L x:Nat):Int),v):=λq u=>by
   rcases(k q.1 q.2).mp u with⟨A,i,l,z,_⟩ | ⟨F,m,z,C⟩
   .simp[Fn.js]at z
   .cases z;rwa[Prod.ext C rfl]
  generalize E.getD j []=es at f d e
  match es with
  | []=>cases f
  | [q]=>rw[d q vq]
  | q::q'::r=>
   have p:=d q vq;have s:=d q' (vp _ vq);subst p;subst s;rw[uz,vV]at e;rwa[ud (e.1 _ (by rw[uz];rwa[vq])) (Int.lt_irrefl _)]
 erw[?_,by rw[o];rfl];erw[ext_getElem? λb=>?_]
 rcases Nat.lt_or_ge b n.toNat with c | c
 case inr=>rw[vT (by rw[Jp,g];rwa[c]),vT (by unfold dX;rw[vt,length_range];rwa[c])]
 let⟨w,y⟩:=Be B a rfl (λD=>#[(λz=>nomatch z),(λz=>nomatch z)]) (b:Int) h;rw[ZV ⋯,w,y];unfold i7 cZ dX;rw[vc (by show¬gs∘j<=(b:Int);lia),a,qg a,vv,List.getElem?_range c];rfl
noncomputable def g8(L names:L8)(fs:List Fn)(gs:L5)(E:L0):L6->L5->List (L5×L8)
 | [],_=>[]
 | j::r,h=>eM L names fs gs E j h++g8 L names fs gs E r (cJ (E.getD j []) h)
theorem xm:∀{is:L6} {h:L5},g8 L names fs gs E (is++[j]) h=g8 L names fs gs E is h++eM L names fs gs E j (is.foldl (λh j=>cJ (E.getD j []) h) h)
 | [],h=>by
  show eM L names fs gs E j h++[]=[]++_;rw[append_nil,nil_append];rfl
 | i::r,h=>by
  show eM L names fs gs E i h++g8 L names fs gs E (r++[j]) _=(eM L names fs gs E i h++g8 L names fs gs E r _)++_;rw[xm,List.append_assoc];rfl
theorem A8:∀{is:L6} {h:L5},(∀j∈is,0<=gs∘j)->(⇑(g8 L names fs gs E is h):Int)=(is.map λj=>gs∘j).sum
 | [],h,_=>rfl
 | i::r,h,p=>by
  show(⇑(eM L names fs gs E i h++g8 L names fs gs E r _):Int)=_;have:=p i vq;have b:=A8 (is:=r) (h:=cJ (E.getD i []) h) λj a=>p j (vp _ a)
  rw[vn,Jp,uz,uy];lia
theorem BO:∀{is:L6} {h:L5} {t:Nat},(∀j∈is,0<=gs∘j)->(t:Int)<(is.map λj=>gs∘j).sum->
  ∃(i j u:Nat),is[i]?⊂j/\((is.take i).map λj=>gs∘j).sum+u=t/\(u:Int)<gs∘j/\(g8 L names fs gs E is h)[t]?⊂(eD L names fs gs E j u ((is.take i).foldl (λh j=>cJ (E.getD j []) h) h),eV names fs gs j u)
 | [],h,t,_,z=>by
  have:(t:Int)<0:=z;lia
 | j::r,h,t,p,z=>by
  have g:=p j vq;rw[uz,uy]at z;show∃(i a u:Nat),_/\_/\_/\(eM L names fs gs E j h++g8 L names fs gs E r _)[t]?=_;rcases Int.lt_or_le (t:Int) (gs∘j)with c | c
  .refine#[0,j,t,rfl,?_,c,?_]
   .rw[List.take_zero];show(0:Int)+t=t;lia
   .rw[vB (by rw[Jp];lia),ZV c];rfl
  .let⟨i,a,u,b,l,d,e⟩:=BO (is:=r) (h:=cJ (E.getD j []) h) (t:=t-(gs∘j).toNat) (λk f=>p k (vp _ f)) ⋯;refine#[i+1,a,u,b,?_,d,?_]
   .rw[List.take_succ_cons,uz,uy];lia
   .rw[vC (by rw[Jp];lia),Jp,e];rfl
def LL(B:lX L names fs M gs E)(e:fs[k]?⊂.row is)(h:L5):eM L names fs gs E k h=g8 L names fs gs E is h/\cJ (E.getD k []) h=is.foldl (λh j=>cJ (E.getD j []) h) h:=by
 have f:=(vx.mp e).1;let⟨n,Z,g⟩:=B.D.f k _ e;have g:gs∘k=(is.map λj=>gs∘j).sum:=g;have A:∀j∈is,j<k:=n.js.2;have d:∀j∈is,1<=gs∘j/\gs∘j<=10^60:=λj a=>B.D.g j (by have:=A j a;lia)
 have l:⇑fs<=61:=by have:=B.nF;lia
 erw[?_,B.e.all B.D B.j0 (vb _) f e (λx v m z=>nomatch z) h];have F:=A8 (L:=L) (names:=names) (fs:=fs) (gs:=gs) (E:=E) (is:=is) (h:=h) λj a=>by have:=d j a;lia
 erw[ext_getElem? λb=>?_]
 rcases Nat.lt_or_ge b (gs∘k).toNat with c | c
 case inr=>rw[vT (by rw[Jp];rwa[c]),vT ⋯]
 let⟨i,j,u,p,C,D,y⟩:=BO (L:=L) (names:=names) (fs:=fs) (gs:=gs) (E:=E) (is:=is) (h:=h) (t:=b) (λj a=>by have:=d j a;lia) ⋯;let⟨r,s⟩:=X8 B.D B.mj B.nd B.j0 B.l8 l B.e (vb _) f e trivial (t:=(b:Int)) ⋯ ⋯ h;have q:=(vx.mp p).1;have o:is.drop i=j::is.drop (i+1):=by
  rw[List.drop_eq_getElem_cons q];congr 1;rwa[vL ((vz q).symm.trans p)]
 have w:oZ names fs gs k (b:Int)=((is.take i).map λj=>(j,gs∘j))++[(j,(u:Int))]:=by
  unfold oZ;rw[zY B.D B.mj B.nd e];show dA gs _ (cU gs is 0)=_;rw[wo (is:=is) (i:=i) d ⋯,o,Kn (λk f=>d k (by rw[<-o]at f;rwa[List.mem_of_mem_drop f])) ⋯,vc ⋯];congr 3;lia
 rw[ZV ⋯,y,r,s,w,foldl_append,flatMap_append,K7,Wh λj a=>(d j (mem_of_mem_take a)).1];simp
theorem WP(B:lX L names fs M gs E)(a:j<⇑fs)(h:L5):∀n:Nat,(List.replicate (n+1) j).foldl (λh j=>cJ (E.getD j []) h) h=cJ (E.getD j []) h
 | 0=>rfl
 | n+1=>by
  obtain⟨f,b⟩:∃f,fs[j]?⊂f:=#[_,vz a]
  rw[List.replicate_succ',foldl_append,WP B a h n];rwa[xq (B.e j f a b).1 (B.e.pos B.D B.j0 (vb _) a) h]
theorem Wu:∀n:Nat,((List.replicate n j).map λj=>gs∘j).sum=(n:Int)*gs∘j
 | 0=>by simp
 | n+1=>by
  rw[replicate_succ,uz,uy,Wu n,Int.natCast_add,Int.add_mul];lia
def GD(B:lX L names fs M gs E)(d:fs[k]?⊂.again m j)(h:L5):eM L names fs gs E k h=g8 L names fs gs E (List.replicate m.toNat j) h/\cJ (E.getD k []) h=(List.replicate m.toNat j).foldl (λh j=>cJ (E.getD j []) h) h:=by
 have p:=(vx.mp d).1;let⟨q,_,g⟩:=B.D.f k _ d;have g:gs∘k=m*gs∘j:=g;let⟨U,_,Z⟩:=q;have a:j<⇑fs:=⋯
 have D:=B.D.g j a;have e:⇑fs<=61:=by have:=B.nF;lia
 obtain⟨n,S⟩:∃n:Nat,m.toNat=n+1:=#[m.toNat-1,⋯]
 have J:m=((n+1:Nat):Int):=⋯
 rw[S];erw[?_,?_]
 rotate_left
 .rw[B.e.all B.D B.j0 (vb _) p d (λx v m z=>nomatch z) h,WP B a];rfl
 have s:∀i∈List.replicate (n+1) j,0<=gs∘i:=λi R=>by rw[(List.mem_replicate.mp R).2];lia
 have W:=A8 (L:=L) (names:=names) (fs:=fs) (gs:=gs) (E:=E) (is:=List.replicate (n+1) j) (h:=h) s;rw[Wu,<-J]at W;erw[ext_getElem? λb=>?_]
 rcases Nat.lt_or_ge b (gs∘k).toNat with c | c
 case inr=>rw[vT (by rw[Jp];rwa[c]),vT ⋯]
 have k0:=B.D.g k p;let⟨i,Y,u,Q,l,F,G⟩:=BO (L:=L) (names:=names) (fs:=fs) (gs:=gs) (E:=E) (is:=List.replicate (n+1) j) (h:=h) (t:=b) s (by rw[Wu,<-J];lia);let⟨T,A⟩:=vx.mp Q;rw[List.getElem_replicate]at A;subst A;rw[length_replicate]at T;rw[List.take_replicate,Nat.min_eq_left ⋯,Wu]at l;rw[List.take_replicate,Nat.min_eq_left ⋯]at G;let⟨N,O⟩:=X8 B.D B.mj B.nd B.j0 B.l8 e B.e (vb _) p d trivial (t:=(b:Int)) ⋯ ⋯ h;have X:(b:Int)/gs∘j=i:=by
  rw[<-l,Int.add_comm,Int.add_mul_ediv_right _ _ ⋯,Int.ediv_eq_zero_of_lt ⋯ F,uw]
 have C:(b:Int)%gs∘j=u:=by
  rw[<-l,Int.add_comm,Int.add_mul_emod_self_right,Int.emod_eq_of_lt ⋯ F]
 have P:oZ names fs gs k (b:Int)=dA gs b ((j,1,0)::(if 1<m then[(j,m-1,gs∘j)]else[])):=by
  unfold oZ;rw[zY B.D B.mj B.nd d];rfl
 have K:eV names fs gs j (gs∘j)=[]:=yO D.1;obtain⟨f,o⟩:∃f,fs[j]?⊂f:=#[_,vz a]
 have r:=xq (B.e j f a o).1 (B.e.pos B.D B.j0 (vb _) a) h;rw[ZV ⋯,G,N,O,P];rcases CL D.1 U (t:=(b:Int)) ⋯ ⋯with⟨z,w⟩ | ⟨z1,z2,y,H,w⟩ | ⟨z,y,H,w⟩
 .rw[w,C];have:i=0:=⋯
  subst this;simp
 .rw[w,C];obtain⟨I,rfl⟩:∃I,i=I+1:=#[i-1,⋯]
  rw[WP B a];rcases H with rfl | rfl
  .show some (eD L names fs gs E j u (eD L names fs gs E j (gs∘j) h),eV names fs gs j (gs∘j)++(eV names fs gs j u++[]))=_;rw[K,Q0,append_nil,nil_append]
  .show some (eD L names fs gs E j u (eD L names fs gs E j (gs∘j) (eD L names fs gs E j (gs∘j) h)),eV names fs gs j (gs∘j)++(eV names fs gs j (gs∘j)++(eV names fs gs j u++[])))=_;rw[K,Q0,Q0,r,append_nil,nil_append,nil_append]
 .lia
def Oj(B:lX L names fs M gs E){j:Nat}(f:j<⇑fs){t:Int}{h F:L5}(a:pd (M.getD j []) F h)(e:⇑h=⇑L){i:Nat}(hi:i<⇑L) :
  (eD L names fs gs E j t F)[i]?⊂(if(eD L names fs gs E j t h).getD i 0≠h∘i then(eD L names fs gs E j t h).getD i 0 else F∘i):=by
 have b:⇑fs<=61:=by have:=B.nF;lia
 have g:=a.1;have d:∀{l:L5},⇑l=⇑L->l[i]?⊂(l∘i):=λ{l} e=>by rw[vy,vz ⋯];rfl
 by_cases c:(i:Int)∈M.getD j []
 .rw[(Nj B.D B.mj B.nd B.j0 B.l8 b B.e (vb _) f a).2 i c,d (by rw[wk,e])];split
  .rfl
  .rename_i z;have z:=Decidable.not_not.mp z;rw[z];have:=a.2 i c;rw[d ⋯,d e]at this;rwa[this.symm]
 .rw[BF B.D B.mj B.nd B.j0 B.l8 b B.e (vb _) f c,d ⋯];have:(eD L names fs gs E j t h)[i]?=h[i]?:=BF B.D B.mj B.nd B.j0 B.l8 b B.e (vb _) f c;rw[d (by rw[wk,e]),d e]at this;rw[vc (by rw[vL this];rwa[λz=>z rfl])]
theorem Xm:∀{xs:L3} {h:L5},⇑(xs.foldl (λh x=>eD L names fs gs E x.1 x.2 h) h)=⇑h
 | [],_=>rfl
 | x::r,h=>by rw[v8,Xm,wk]
noncomputable def dJ(gs:L5)(t:Int)(j:Nat):Nat×Int:=if gs∘j<=t then(j,gs∘j)else(j,t)
def Hs(B:lX L names fs M gs E)(a:fs[k]?⊂.side is)(h:L5)(e:0<=t)(o:t<=gs∘k) :
  eD L names fs gs E k t h=(is.map (dJ gs t)).foldl (λh x=>eD L names fs gs E x.1 x.2 h) h/\eV names fs gs k t=(is.map (dJ gs t)).flatMap λx=>eV names fs gs x.1 x.2:=by
 have m:=(vx.mp a).1;let⟨d,q,g⟩:=B.D.f k _ a;have n:∀j∈is,j<k:=d.js.2;have i:∀j∈is,1<=gs∘j:=λj l=>(B.D.g j (by have:=n j l;lia)).1
 have b:⇑fs<=61:=by have:=B.nF;lia
 have c:=X8 B.D B.mj B.nd B.j0 B.l8 b B.e (vb _) m a trivial e o h;have f:oZ names fs gs k t=is.map (dJ gs t):=by
  unfold oZ;rw[zY B.D B.mj B.nd a];show dA gs _ (is.map λj=>(j,1,0))=_;rw[Ks i e];rfl
 rw[f]at c;rwa[c]
def Hw(B:lX L names fs M gs E){k:Nat}{is:L6}(n:fs[k]?⊂.side is){h:L5}{t:Int}{i j:Nat}(s:is[i]?⊂j):pd (M.getD j []) (((is.take i).map (dJ gs t)).foldl (λh x=>eD L names fs gs E x.1 x.2 h) h) h:=by
 have z:=(vx.mp n).1;let⟨l,Z,g⟩:=B.D.f k _ n;let⟨Z,Z,y,Z,o⟩:=l;have d:⇑fs<=61:=by have:=B.nF;lia
 have e:∀b,(dJ gs t b).1=b:=λb=>by unfold dJ;split<;>rfl
 erw[Dk B.D B.mj B.nd B.j0 B.l8 d B.e (vb _) λx v=>?_]
 let⟨b,c,rfl⟩:=vK.mp v;rw[e b];erw[by have:=y b (mem_of_mem_take c);lia,λq u f=>?_];let⟨a,r,m⟩:=mem_iff_getElem.mp c;rw[vi]at r;rw[getElem_take]at m;let⟨w,p⟩:=vx.mp s;have:=pairwise_iff_getElem.mp o a i ⋯ w ⋯;rw[m,p]at this;rwa[this q u f]
end
def Ej(f:L.Nodup)(o:⇑L=⇑F)(d:L[i]?⊂x)(v:Int):putK (fD L F) (Sum.inr x) (.int v)=fD L (F.set i v):=by
 let⟨s,l⟩:=vx.mp d;have r:=Zr o;have g:((fD L F).any λkv=>decide (kv.1=(Sum.inr x:Key)))=true:=by
  rw[any_eq_true];have m:(Sum.inr x:Key)∈(fD L F).map (·.1):=by rw[r];rwa[vK.mpr #[x,vm d,rfl]]
  let⟨q,p,e⟩:=vK.mp m;rwa[q,p,vG e]
 unfold putK;rw[vd g];erw[ext_getElem? λk=>?_]
 unfold fD;rw[v7,vv,vv];by_cases b:k<⇑L
 case neg=>rw[vT (by rw[length_zip];lia),vT (by rw[length_zip,length_set];lia)];rfl
 have n:k<⇑F:=⋯
 have a:k<⇑(F.set i v):=by rw[length_set];lia
 have h:(L.zip F)[k]?⊂(L[k],F[k]):=List.getElem?_zip_eq_some.mpr #[vz b,vz n];have j:(L.zip (F.set i v))[k]?⊂(L[k],(F.set i v)[k]):=List.getElem?_zip_eq_some.mpr #[vz b,vz a];rw[h,j];show some (if(Sum.inr L[k]:Key)=Sum.inr x then((Sum.inr L[k]:Key),V.int v)else((Sum.inr L[k]:Key),V.int F[k]))⊂((Sum.inr L[k]:Key),V.int (F.set i v)[k]);rw[List.getElem_set];by_cases c:i=k
 .subst c;rw[vd (by rw[l]),vd rfl]
 .rw[vc,vc c];intro z;have z:L[k]=x:=Sum.inr.inj z;rwa[c ((jZ f d).symm.trans (jZ f (by rw[vz b,z])))]
theorem WY:∀{kvs acc:List (Key×V)},((acc++kvs).map (·.1)).Nodup->cR acc kvs=acc++kvs
 | [],acc,_=>(append_nil _).symm
 | q::r,acc,h=>by
  show cR (putK acc q.1 q.2) r=_;rw[yw,WY]
  .rw[List.append_assoc];rfl
  .rw[List.append_assoc];rwa[h]
  .intro m;rw[vj,uz]at h;rwa[(nodup_append.mp h).2.2 _ m _ vq rfl]
def Ij(a:(cb ls).Nodup):cR [] ((ls.map λq=>(q.1,V.int q.2)).map sD)=fD (cb ls) (ls.map (·.2)):=by
 have e:(ls.map λq=>(q.1,V.int q.2)).map sD=fD (cb ls) (ls.map (·.2)):=by
  unfold fD cb;rw[v7,List.zip_map',v7];rfl
 rw[e,WY,nil_append];rw[nil_append,Zr (by unfold cb;rw[vt,vt])];rwa[pairwise_map.mpr (a.imp λh e=>h (Sum.inr.inj e))]
def XW(h:1<=n)(e:⇑xs=n)(a:xs[n-1]?⊂v):fi xs (-1)⊂v:=by
 have:xs=xs.take (n-1)++[v]:=by
  rw[<-take_snoc a,show n-1+1=⇑xs by lia,v5]
 rw[this];rwa[CO _ _]
def G6(x:V)(n:Nat):(List.replicate n [x]).flatten=List.replicate n x:=by
 induction n with
 | zero=>rfl
 | succ n ih=>rw[replicate_succ,flatten_cons,ih];rfl
def CW(h:⇑xs=n+1):g4 xs none (some (-1))=xs.take n:=by
 have e:HT.dO ⇑xs ⇑xs (some (-1))=n:=by
  show(if(-1:Int)<0 then((-1:Int)+(⇑xs:Int)).toNat else min (-1:Int).toNat ⇑xs)=n;rw[vd nofun];lia
 unfold g4;rw[show HT.dO ⇑xs 0 none=0 from rfl,e,List.drop_zero,Nat.sub_zero]
def mE(H:Hp)(L:L8)(a:Addr)(h:L5):Prop:=⇑h=⇑L/\hB h/\∃o,H a⊂(.iy o (.dK (fD L h)))
def gL(H:Hp)(L:L8)(a:Addr)(x:L5×L8):Prop:=∃d w,H a⊂(.tup [.ref d,.ref w])/\mE H L d x.1/\H w⊂(.lst (x.2.map V.str))
def i6(H:Hp)(L:L8)(r:Addr)(rows:List (L5×L8))(h:L5):Prop:=∃rl hd ras,H r⊂(.tup [.ref rl,.ref hd])/\H rl⊂(.lst (ras.map V.ref))/\cp (gL H L) ras rows/\mE H L hd h
section
variable{H H' H0:Hp}{L:L8}{a:Addr}{h:L5}{rl:Addr}{ds ras:L7}{rows:List (L5×L8)}
def mE.same(s:cj H H')(x:mE H L a h):mE H' L a h:=#[x.1,x.2.1,x.2.2.imp λo e=>s _ _ e]
def gL.same(s:cj H H')(r:gL H L a x):gL H' L a x:=by
 let⟨d,w,b,c,e⟩:=r;rwa[d,w,s _ _ b,c.same s,s _ _ e]
def i6.same(s:cj H H')(r:i6 H L a rows h):i6 H' L a rows h:=by
 let⟨i,g,b,c,d,e,f⟩:=r;rwa[i,g,b,s _ _ c,s _ _ d,e.mono λa x=>gL.same s,f.same s]
def mE.get(x:mE H L a h)(d:L.Nodup)(b:L[i]?⊂y):du H a (.str y) (some (.int (h∘i))):=by
 let⟨l,q,o,e⟩:=x;let⟨c,f⟩:=vx.mp b;have z:L.getD i ⟨#[]⟩=y:=by rw[vy,b];rfl
 have v:=kZ d l.symm c;rw[z]at v;rwa[.inl #[_,Sum.inr y,.inr #[o,e],rfl,v.symm]]
structure nv(H0:Hp)(L:L8)(rl:Addr)(H:Hp)(ds ras:L7)(rows:List (L5×L8)):Prop where
 s:cj H0 H
 nr:H0 rl=none
 e:H rl⊂(.lst (ras.map V.ref))
 l1:⇑ras=⇑rows
 l2:⇑ds=⇑rows
 a:∀(i:Nat) (d c:Addr) (x:L5×L8),ds[i]?⊂d->ras[i]?⊂c->rows[i]?⊂x->∃w,w≠rl/\H c⊂(.tup [.ref d,.ref w])/\H d⊂(.dK (fD L x.1))/\⇑x.1=⇑L/\hB x.1/\H w⊂(.lst (x.2.map V.str))
 nd:ds.Nodup
 nw:∀d∈ds,H0 d=none
def nv.nil(s:cj H0 H)(n:H0 rl=none)(e:H rl⊂(.lst [])):nv H0 L rl H [] [] []:=#[s,n,e,rfl,rfl,λi d c x h=>by simp at h,nodup_nil,λd h=>nomatch h]
def nv.Ax(R:nv H0 L rl H ds ras rows)(a:d∈ds):∃kvs,H d⊂(.dK kvs):=by
 let⟨i,b,e⟩:=mem_iff_getElem.mp a;have c:=R.l1;have f:=R.l2;let⟨w,q,q,z,q⟩:=R.a i d _ _ (by rw[vz b,e]) (vz ⋯) (vz ⋯);rwa[_,z]
def nv.push(R:nv H0 L rl H ds ras rows)(s:cj H H')(l:H d=none)(I:H' d⊂(.dK (fD L h)))(M:⇑h=⇑L)(a:hB h)(hw:H w=none)(J:H' w⊂(.lst (W.map V.str)))(o:H' c⊂(.tup [.ref d,.ref w])) :
  nv H0 L rl (upd H' rl (.lst ((ras++[c]).map V.ref))) (ds++[d]) (ras++[c]) (rows++[(h,W)]):=by
 have K:=s _ _ R.e;have D:w≠rl:=λz=>by rw[z,R.e]at hw;cases hw
 have e:∀{b u},H' b⊂u->b≠rl->upd H' rl (.lst ((ras++[c]).map V.ref)) b⊂u:=λa n=>(jh n).trans a
 have G:d≠rl:=λz=>by rw[z,R.e]at l;cases l
 have F:c≠rl:=λz=>by rw[z,K]at o;cases o
 have A:=R.l1;have B:=R.l2;erw[λb u a=>e (s _ _ (R.s _ _ a)) (λz=>by rw[z,R.nr]at a;cases a),R.nr,jy,?_,?_,λi m E x g j f=>?_,?_,λm p=>?_]
 .rw[vn,vn,A];rfl
 .rw[vn,vn,B];rfl
 .rcases Nat.lt_or_ge i ⇑rows with k | k
  .rw[vB ⋯]at g j f;let⟨T,C,r,t,P,Q,S⟩:=R.a i m E x g j f;refine#[T,C,e (s _ _ r) λz=>?_,e (s _ _ t) λz=>?_,P,Q,e (s _ _ S) C]
   .rw[z,R.e]at r;cases r
   .rw[z,R.e]at t;cases t
  .have q:i=⇑rows:=by
    have:=(vx.mp f).1;rw[vn]at this;have:i<⇑rows+1:=this;lia
   rw[vC ⋯,q,B,uq]at g;rw[vC ⋯,q,A,uq]at j;rw[vC ⋯,q,uq]at f;cases g;cases j;cases f;rwa[w,D,e o F,e I G,M,a,e J D]
 .refine nodup_append.mpr #[R.nd,um.mpr #[(λz=>nomatch z),nodup_nil],λx v y N z=>?_];rw[vo.mp N]at z;rw[z]at v;let⟨O,k⟩:=R.Ax v;rw[l]at k;cases k
 .rcases vh.mp p with k | k
  .exact R.nw m k
  .rw[vo.mp k];rwa[none_of R.s l]
def nv.run(R:nv H0 L rl H ds ras rows)(s:cj H H'){f:Hp}{l p j:Addr}{n:Nat}{x:L5×L8}(A:H' l⊂(.lst ((ras.take n).map V.ref)))(B:H' p⊂(.tup [.ref l,.ref j]))(C:ds[n]?⊂j)(D:rows[n]?⊂x)(m:vM ds H' f):cj H0 f/\i6 f L p (rows.take n) x.1:=by
 have G:=R.l1;have K:=R.l2;have a:∀{c u},H' c⊂u->(∀k,u≠.dK k)->f c⊂u:=λ{c u} e E=>(m.1 c λz=>by
  let⟨F,k⟩:=R.Ax z;rw[s _ _ k]at e;cases e;rwa[E _ rfl]).trans e
 have o:∀(i:Nat) (d:Addr) (x:L5×L8),ds[i]?⊂d->rows[i]?⊂x->mE f L d x.1:=λi d x b g=>by
  have q:=(vx.mp b).1;let⟨w,Z,Z,r,t,v,Z⟩:=R.a i d _ x b (vz ⋯) g;rwa[t,v,m.2 d (vm b) _ (s _ _ r)]
 erw[λc u e=>(m.1 c λz=>?_).trans (s _ _ (R.s _ _ e)),l,j,ras.take n,a B (λk z=>nomatch z),a A (λk z=>nomatch z),#[?_,λi c y b g=>?_],o n j x C D]
 .rw[R.nw c z]at e;cases e
 .rw[vi,vi,G]
 .have q:=(vx.mp b).1;rw[vi]at q;rw[List.getElem?_take_of_lt ⋯]at b g;obtain⟨d,h⟩:∃d,ds[i]?⊂d:=#[_,vz ⋯]
  let⟨w,Z,I,r,t,v,J⟩:=R.a i d c y h b g;rwa[d,w,a (s _ _ I) (λk z=>nomatch z),o i d y h g,a (s _ _ J) (λk z=>nomatch z)]
end
noncomputable def fE(L names:L8)(fs:List Fn)(gs:L5)(E:L0)(k:Nat)(h:L5)(m:Nat):List (L5×L8):=(List.range m).map λt:Nat=>(eD L names fs gs E k (t:Int) h,eV names fs gs k (t:Int))
def Lw(h:t<gs∘j):dJ gs t j=(j,t):=by unfold dJ;rw[vc ⋯]
def Lv(h:gs∘j<=t):dJ gs t j=(j,gs∘j):=by unfold dJ;rw[vd h]
def Il{a b:L5}{L:L8}(e:⇑a=⇑L)(f:⇑b=⇑L)(h:∀q,q<⇑L->a∘q=b∘q):a=b:=by
 erw[ext_getElem ⋯ λq c d=>?_]
 have:=h q ⋯;rw[vy,vy,vz c,vz d]at this;rwa[this]
inductive fW(vs:N4)(H:Hp)(Q:VK)(xk:XK):Prop
 | mk (fa hd) (L:L8) (x v) (n:Int) (h:L5):vs=[.ref fa,.ref hd]->H fa⊂(.tup [.str "raise",.str x,.int v,.int n])->mE H L hd h->L.Nodup->(∃i:Nat,L[i]?⊂x)->⇑L<=8->0<=v->v<=10^18->1<=n->n<=90->(∀(r:Addr) (H':Hp),cj H H'->i6 H' L r (dX L x v n h n.toNat) (h.set (cF L x) v)->Q (.ref r) H')->fW vs H Q xk
inductive fc(m:Nat)(vs:N4)(H:Hp)(Q:VK)(xk:XK):Prop
 | mk (b pl pp hd las pas ls) (names:L8) (fs:List Fn) (M gs) (E:L0) (h j):vs=[.ref b,.str (names.getD j ⟨#[]⟩),.ref hd]->cN H b pl pp las pas ls (cg names fs)->lX (cb ls) names fs M gs E->j<⇑fs->j<m->mE H (cb ls) hd h->(∀(r:Addr) (H':Hp),cj H H'->i6 H' (cb ls) r (eM (cb ls) names fs gs E j h) (cJ (E.getD j []) h)->Q (.ref r) H')->fc m vs H Q xk
def Es{H:Hp}:¬fc 0 vs H Q E:=λz=>by
 rcases z with⟨_,_,_,_,_,_,_,_,_,_,_,_,_,_,_,_,_,_,h,_⟩
 rwa[ud h (Nat.not_lt_zero _)]
inductive gG(m:Nat)(vs:N4)(H:Hp)(Q:VK)(xk:XK):Prop
 | mk (b pl pp hd nb las pas ls) (names:L8) (fs M gs) (E:L0) (h) (k:Nat) (is:L6):vs=[.ref b,.ref nb,.ref hd]->cN H b pl pp las pas ls (cg names fs)->lX (cb ls) names fs M gs E->fs[k]?⊂.side is->(H nb⊂(.tup (is.map λj=>.str (names.getD j ⟨#[]⟩))))->(∀j∈is,j<m)->mE H (cb ls) hd h->(∀(r:Addr) (H':Hp),cj H H'->i6 H' (cb ls) r (eM (cb ls) names fs gs E k h) (cJ (E.getD k []) h)->Q (.ref r) H')->gG m vs H Q xk
inductive iW(vs:N4)(H:Hp)(Q:VK)(xk:XK):Prop
 | mk (b pl pp las pas) (ls:L4) (names) (fs:List Fn) (M gs) (E:L0):vs=[.ref b]->cN H b pl pp las pas ls (cg names fs)->lX (cb ls) names fs M gs E->1<=⇑fs->hB (ls.map (·.2))->(∀(l:Addr) (ras:L7) (H':Hp),cj H H'->H' l⊂(.lst (ras.map V.ref))->cp (gL H' (cb ls)) ras (eM (cb ls) names fs gs E (⇑fs-1) (ls.map (·.2))++[(cJ (E.getD (⇑fs-1) []) (ls.map (·.2)),[])])->Q (.ref l) H')->iW vs H Q xk
theorem xb{pc:Nat->List Pc}:∀(n i:Nat) (t:Int),⇑(fe pc gs n i t)<=eK pc gs n i t
 | 0,i,t=>vb _
 | n+1,i,t=>by
  unfold fe eK;split
  .exact vb _
  .rw[List.length_flatMap];have:∀l:L3,(l.map λx=>⇑(fe pc gs n x.1 x.2)).sum<=(l.map λx=>eK pc gs n x.1 x.2).sum:=λl=>by
    induction l with
    | nil=>rwa[vb _]
    | cons x r ih=>
     have:=xb (pc:=pc) (gs:=gs) n x.1 x.2;rw[uz,uz,uy,uy];lia
   have:=this (dA gs t (pc i));lia
def Ih:⇑(cZ ps x)<=1:=by
 unfold cZ;split
 .split
  .exact vb _
  .exact va _
 .exact va _
def NG(N:Sn ls (cg names fs) gs M)(j:Nat)(t:Int)(f:j<⇑fs)(g:0<=t):⇑(eV names fs gs j t)<=5000:=by
 have d:∀i,i<⇑(cg names fs)->⇑(M.getD i [])<=8:=λi e=>En N.s.w N.hl N.m (wH N.s N.hl e)
 have a:=N.nodes d (i:=j) (t:=t) (by rw[j3];rwa[f]) g;have b:=xb (pc:=cP (cg names fs) gs) (gs:=gs) (j+1) j t;have c:∀l:L3,⇑(l.flatMap (cZ (cg names fs)))<=⇑l:=λl=>by
  induction l with
  | nil=>rwa[vb _]
  | cons x r ih=>
   rw[flatMap_cons,vn,vQ];have:=Ih (ps:=cg names fs) (x:=x);lia
 have c:=c (reach (cg names fs) gs j t);unfold eV;have b:⇑(reach (cg names fs) gs j t)<=Rm.nodes (cg names fs) gs j t:=b;lia
section
variable{ls:L4}{names:L8}{fs:List Fn}{M:L1}{gs:L5}{E E':L0}
def LQ(X:lX (cb ls) names fs M gs E)(f:1<=⇑fs)(d:E'.length=⇑(cg names fs))(e:di ls (cg names fs) E')(t:Int):cS ls (cg names fs) gs E' t=eD (cb ls) names fs gs E (⇑fs-1) t (ls.map (·.2)):=by
 have b:⇑fs<=61:=by have:=X.nF;lia
 have a:fs.take (⇑fs-1+1)=fs:=by rw[show ⇑fs-1+1=⇑fs by lia,v5]
 have c:gs.take (⇑fs-1+1)=gs:=by rw[show ⇑fs-1+1=⇑gs by have:=X.D.gl;lia,v5]
 have h:=Hz (ls':=ls) (E':=E') (j:=⇑fs-1) (t:=t) X.D X.mj X.nd X.j0 X.l8 b rfl (n:=⇑fs) ⋯ (vb _) X.e (by rw[a];rwa[d]) (by rw[a];rwa[e]);rw[a,c]at h;rwa[h]
end
end Rm
namespace L2
open PySem PySem.Spec PyProof.Rows
def cD.has{P:Program}{w:World}{H:Hp}{h:Heap}{a:Addr}{o:HO}(x:cD P w H h a o):∃b,h.get? a⊂b:=by
 cases o with
 | lst xs=>let⟨q,q,q,q,e⟩:=x;rwa[_,e]
 | tup xs=>let⟨q,q,q,q,e,q⟩:=x;rwa[_,e]
 | dK kvs=>let⟨q,q,q,q,o,q,q,e,q⟩:=x;rwa[_,e]
 | dT kvs=>let⟨q,q,q,q,o,q,q,e,q⟩:=x;rwa[_,e]
 | set S n=>let⟨o,q,q,q,e,q⟩:=x;rwa[_,e]
 | ins C dx fs=>let⟨q,q,q,e,q⟩:=x;rwa[_,e]
 | own y=>rwa[x]
 | xd fs=>let⟨q,⟨q,q,q,e,q⟩,q⟩:=x;rwa[_,e]
 | uF lo hi=>let⟨q,q,q,e⟩:=x;rwa[_,e]
 | iy b u=>let⟨e,q⟩:=x;rwa[_,e]
 | pO ps=>rwa[_,show h.get? a⊂_ from x]
 | met f y=>rwa[_,show h.get? a⊂_ from x]
 | ext φ=>let⟨q,e,q⟩:=x;rwa[e]
def sZ(B:Heap)(l:Nr)(a:Addr)(cls:Value)(h:Heap):Prop:=
 B.StaysIn h/\B.get? a=none/\h.FunFrames B l/\
  ((∃a0,h.TracedW B a cls a0)\/∃oe vs a0,h.get? a⊂oe/\oe.cls=cls/\oe.data = .fields vs/\vs[1]?⊂.none/\vs[0]?⊂a0)
section
variable{M:Model}{A:Around}{E:Nz}{s:Shared}{B:Heap}{env:Env}{outer:Nr}{L a:Addr}{cls:Value}{Q:Unit->Shared->Prop}
def FR(b:A.frames⊂(env::outer))(i:env.frame⊂L)(x:sZ B (env::outer) a cls s.heap)
  (h:∀h',sZ B outer a cls h'->s.heap.UpToSlots h'->Q () {s with heap:=h'}):wpAny M A (leaving env (.ref a)) Q E s:=by
 obtain⟨j,c,k,⟨a0,t⟩ | ⟨p,q,a0,o,rfl,n,m,l⟩⟩:=x
 .exact wpAny_leaving_nextW b k i t j c λh' ⟨d,⟨_,_,e⟩,f,g⟩=>h h' #[d,c,e,.inl #[a0,f]] g
 .exact wpAny_leaving_firstW (a0:=a0) b k i o j c n m l λh' ⟨d,⟨_,_,e⟩,f,g⟩=>h h' #[d,c,e,.inl #[a0,f]] g
def G0(b:A.frames⊂(env::outer))(f:env.frame⊂L)(x:sZ B (env::outer) a cls s.heap)
  (j:∀h' a0,Heap.FlyingW B (env::outer) a cls a0 h'->s.heap.UpToSlots h'->Q () {s with heap:=h'}) :
  wpAny M A (noteFrame (.ref a) env) (λZ c=>wpAny M A (setFlight (.ref a) none) Q E c) E s:=by
 obtain⟨m,g,n,⟨a0,t⟩ | ⟨z,C,a0,l,rfl,k,i,o⟩⟩:=x
 .exact wpAny_looks_onW b f #[m,g,n,t] λp q r=>wpAny_landsW q λe d h=>j e a0 d (r.trans h)
 .unfold noteFrame;simp only[f];erw[ug (wpAny_field l k i ?_)];rw[vc nofun];refine wpAny_entryW b n f l m g k (Array.getElem?_eq_some_iff.mp i).1 o λp ⟨u,v,w,y⟩=>?_
  rwa[wpAny_landsW #[u,g,v,w] λe d h=>j e a0 d (Heap.UpToSlots.trans y h)]
end
noncomputable def lB(P:Program)(w:World):nP:=λouter H s E e s'=>∃a cls H' B,e = .ref a/\s.heap.get? a=none/\s'.os=s.os/\AllBare s'.gens/\
 Un (fB outer) [] H H' s.heap s'.heap/\fA P w H' s'.heap/\H' a=none/\sZ B outer a cls s'.heap/\
 (∀b o,s'.heap.get? b⊂o->(H' b≠none\/∃o0,s.heap.get? b⊂o0)->b∉fB outer->B.get? b⊂o)/\E cls none H'
def XP(X:Cx)(pins:Ny)(σ:St)(E:XK)(e:Value)(s':Shared):Prop:=
 ∃a cls H' B,e = .ref a/\X.s₀.heap.get? a=none/\Inv X pins σ H' s'/\H' a=none/\sZ B X.stack a cls s'.heap/\
  (∀b o,s'.heap.get? b⊂o->(H' b≠none\/(∃o0,X.s₀.heap.get? b⊂o0)\/∃p∈X.pn++pins,p.1=b)->b∉fB X.stack->B.get? b⊂o)/\E cls none H'
structure Flat(X:Cx):Prop where
 ex:X.ex=[]
 oY:X.stack=X.env::X.outer
 fr:X.env.frame⊂X.env.locals
 calm:X.calm=true
section
variable{X:Cx}{pins:Ny}{σ:St}{H:Hp}{s s':Shared}{E:XK}{e:Value}
def Flat.fs(F:Flat X):fB X.stack=X.env.locals::X.fs:=by
 rw[F.oY];unfold fB;rw[filterMap_cons,F.fr];rfl
def XP.pF(F:Flat X)(I:Inv X pins σ H s)(h:lB X.prog X.w X.stack H s E e s'):XP X pins σ E e s':=by
 let⟨a,g,k,B,rfl,w,y,c,A,j,n,f,i,t⟩:=h;have r:Inv X pins σ k s':=I.pY (ch:=[]) y A j c (λb z=>ud z (by simp));have d:∀b o,X.s₀.heap.get? b⊂o->∃m,s.heap.get? b⊂m:=λb o e=>I.base.there b o e (by rw[F.ex];simp)
 erw[a,g,k,B,rfl,?_,r,n,f,λb o e q u=>i b o e ?_ u,t]
 .cases q:X.s₀.heap.get? a with
  | none=>rfl
  | some o=>let⟨m,l⟩:=d a o q;rw[w]at l;cases l
 .rcases q with q | ⟨x,q⟩ | ⟨p,v,rfl⟩
  .exact .inl q
  .exact .inr (d b x q)
  .exact .inr #[_,(I.pin p v).1]
def XP.pG{C:Addr}{us:L9}{h':Heap}{a:Addr}(F:Flat X)(I:Inv X pins σ H s)(c:Heap.MadeExcOf s.heap h' a (.ref C) us)(r:E (.ref C) none H):XP X pins σ E (.ref a) {s with heap:=h'}:=by
 let⟨t,j,y,Z⟩:=c.there;have m:Inv X pins σ H {s with heap:=h'}:=I.kept (h':=h') (t':=s.toks) c.keeps;have h:∀b o,X.s₀.heap.get? b⊂o->∃f,s.heap.get? b⊂f:=λb o e=>I.base.there b o e (by rw[F.ex];simp)
 have w:H a=none:=by
  cases q:H a with
  | none=>rfl
  | some o=>let⟨z,e⟩:=(I.cK a o q).has;rw[c.new]at e;cases e
 have k:∀d∈X.stack,∀b,d.frame⊂b->b∈fB X.stack:=λd j b i=>mem_filterMap.mpr #[d,j,i]
 erw[a,.ref C,H,PySem.W.hideAll s.heap (fB X.stack),rfl,?_,m,w,#[λb o e=>c.keeps b o (PySem.W.of_hideAll _ e),?_,?_,.inr #[_,_,.ref t,j,rfl,rfl,rfl,rfl]],λb o e q i=>?_,r]
 .cases q:X.s₀.heap.get? a with
  | none=>rfl
  | some o=>let⟨f,g⟩:=h a o q;rw[c.new]at g;cases g
 .cases q:(PySem.W.hideAll s.heap (fB X.stack)).get? a with
  | none=>rfl
  | some o=>have:=PySem.W.of_hideAll _ q;rw[c.new]at this;cases this
 .exact(PySem.W.funFrames_hide I.stack k).of_keeps λb o e Z=>#[o,c.keeps b o e,rfl]
 .refine PySem.W.hideAll_get _ ?_ i;have:∃f,s.heap.get? b⊂f:=by
   rcases q with q | ⟨x,q⟩ | ⟨p,v,rfl⟩
   .cases q':H b with
    | none=>rwa[ud q' q]
    | some u=>rwa[(I.cK b u q').has]
   .exact h b x q
   .exact#[_,(I.pin p v).1]
  let⟨f,g⟩:=this;have n:=c.keeps b f g;have l:h'.get? b⊂o:=e;rw[n]at l;cases l;rwa[g]
def XP.stays(F:Flat X){H':Hp}{B h':Heap}(I:Inv X pins σ H' s')
  (f:∀b o,s'.heap.get? b⊂o->(H' b≠none\/(∃a,X.s₀.heap.get? b⊂a)\/∃p∈X.pn++pins,p.1=b)->b∉fB X.stack->B.get? b⊂o)
  (st:B.StaysIn h') (m:s'.heap.UpToSlots h') :
  (∀b o,s'.heap.get? b⊂o->(H' b≠none\/(∃a,X.s₀.heap.get? b⊂a)\/∃p∈X.pn++pins,p.1=b)->b∉fB X.stack->h'.get? b⊂o)/\
  (∀b o,s'.heap.get? b⊂o->b∈fB X.stack->∃l,h'.get? b=some {o with slots:=l})/\fA X.prog X.w H' h':=by
 have h:∀b o,s'.heap.get? b⊂o->(H' b≠none\/(∃a,X.s₀.heap.get? b⊂a)\/∃p∈X.pn++pins,p.1=b)->b∉fB X.stack->h'.get? b⊂o:=λb o e q g=>st b o (f b o e q g)
 erw[h,λb o e g=>?_,λb u e=>?_]
 .let⟨_,n,i,k⟩:=I.stack.mem g;rw[e]at i;cases i;rwa[m b o e k]
 .have j:∀c v,H' c⊂v->c∉fB X.stack:=λc v q z=>by rw[I.iB c z]at q;cases q
  erw[(I.cK b u e).iu (λc v d q=>?_) (λZ q=>q) λZ Z q=>q]
  rcases d with rfl | d
  .exact h c v q (.inl (by rw[e];simp)) (j c u e)
  .exact h c v q (.inl (by rw[d];simp)) (j c _ d)
end
def XP.si{P:Program}{w:World}{K:cG}{r:Nw}{g:Heap}{N:L8}{i:Str}{d:Scope}{f:Addr}{l:Value}{A:Around}{c:Nr}{s s':Shared}{H:Hp}{E:XK}{σ:St}{e:Value}
  (h:XP (dG (lB P w) P w K r g N i d f l A c s H E) [] σ E e s'):(dG (lB P w) P w K r g N i d f l A c s H E).xe e s':=by
 let⟨a,R,O,B,rfl,na,I,n,Q,C,hE⟩:=h;erw[FR (L:=s⁻¹) I.ok.frames rfl Q λZ k up=>?_]
 let⟨W,Y,T⟩:=XP.stays (X:=dG (lB P w) P w K r g N i d f l A c s H E) #[rfl,rfl,rfl,rfl] I C k.1 up;have D:fB (dG (lB P w) P w K r g N i d f l A c s H E).stack=s⁻¹::fB c:=rfl;have nL:∀b o,s.heap.get? b⊂o->b≠s⁻¹:=λb o e=>vE (vI e)
 have x:∀b o,s.heap.get? b⊂o->b∉fB c->b∉fB (dG (lB P w) P w K r g N i d f l A c s H E).stack:=λb o e j z=>by
  rw[D]at z;rcases mem_cons.mp z with z | z
  .exact nL b o e z
  .exact j z
 have G:∀b:Addr,b∉(dG (lB P w) P w K r g N i d f l A c s H E).ex:=λb z=>ud (show b∈([]:L7)from z) (by simp)
 have F:∀b,b∈fB c->b∈fB (dG (lB P w) P w K r g N i d f l A c s H E).stack:=λb z=>by rw[D];rwa[vp _ z]
 erw[a,R,O,B,rfl,na,I.os,I.bare,#[λb o e m j _=>?_,λb o e m j _=>?_,λb o e m _=>I.base.free b o e m (G b),λb o e _=>?_,I.base.dU,I.base.g5,I.base.iY],T,n,k,λb o e q j=>?_,hE]
 .exact W b o (I.base.keep b o e m j (G b)) (.inr (.inl #[o,e])) (x b o e j)
 .let⟨sl,v⟩:=I.base.slot b o e m j (G b);let⟨J,y⟩:=Y b _ v (F b j);rwa[J,y]
 .let⟨t,v⟩:=I.base.there b o e (G b);by_cases j:b∈fB c
  .let⟨J,y⟩:=Y b _ v (F b j);rwa[_,y]
  .exact#[t,W b t v (.inr (.inl #[o,e])) (x b o e j)]
 .have S:∃t,s'.heap.get? b⊂t/\b∉fB (dG (lB P w) P w K r g N i d f l A c s H E).stack:=by
   rcases q with q | ⟨M,q⟩
   .cases q':O b with
    | none=>rwa[ud q' q]
    | some u=>
     let⟨ob,z⟩:=(I.cK b u q').has;rwa[ob,z,λzz=>by rw[I.iB b zz]at q';cases q']
   .let⟨t,v⟩:=I.base.there b M q (G b);rwa[t,v,x b M q j]
  let⟨t,v,nf⟩:=S;have q2:O b≠none\/(∃M,s.heap.get? b⊂M)\/∃p∈(dG (lB P w) P w K r g N i d f l A c s H E).pn++[],p.1=b:=by
   rcases q with q | q
   .exact .inl q
   .exact .inr (.inl q)
  have y:=C b t v q2 nf;have U:Z.get? b⊂o:=e;rw[k.1 b t y]at U;cases U;rwa[y]
noncomputable abbrev XS:=St->XK
noncomputable abbrev tI:=St->Hp->XK->Prop
noncomputable abbrev mR:=St->Hp->XS->Prop
def CD(X:Cx)(pins:Ny)(E:XS)(e:Value)(s':Shared):Prop:=∃S',XP X pins S' (E S') e s'
def RE(X:Cx)(e:Expr)(t:tI):Prop:=
 ∀(pins:Ny) (s:Shared) (σ:St) (H:Hp) (E:XK),Inv X pins σ H s->t σ H E->wpAny (model X.prog X.w) X.A (eval e X.env) (λq q=>False) (XP X pins σ E) s
def RS(X:Cx)(st:Stmt)(t:mR):Prop:=
 ∀(pins:Ny) (s:Shared) (σ:St) (H:Hp) (E:XS),Inv X pins σ H s->t σ H E->wpAny (model X.prog X.w) X.A (exec st X.env) (λq q=>False) (CD X pins E) s
def pV(X:Cx)(st:List Stmt)(t:mR):Prop:=
 ∀(pins:Ny) (s:Shared) (σ:St) (H:Hp) (E:XS),Inv X pins σ H s->t σ H E->wpAny (model X.prog X.w) X.A (execs st X.env) (λq q=>False) (CD X pins E) s
noncomputable def rE(t:tI):mR:=λσ H E=>t σ H (E σ)
noncomputable def Fx(tc:TT)(ta tb:mR):mR:=λσ H E=>tc σ H λb H1=>if b=true then ta σ H1 E else tb σ H1 E
noncomputable def sv:mR:=λq q q=>False
section
variable{X:Cx}{e a b c:Expr}{t:tI}{ta tb:mR}{x:Str}{pos pos':Pos}{st:Stmt}{rest l r:List Stmt}
def Mo(c:RE X e t)(d:swapsWith e none pos.line X.env=pure false:=by rfl):RS X (.Expr e pos) (rE t):=λa s b H E I h=>
 wpAny_Expr_any (wpAny_mono (c a s b H _ I h) (λj j z=>z.elim) λe f q=>#[b,q]) I.quiet d
def Hm:pV X l sv:=λq q q q q q h=>h.elim
def xh(b:RS X st ta):pV X (st::rest) ta:=λa s c H E I h=>
 wpAny_execs_cons (wpAny_mono (b a s c H E I h) (λj j z=>z.elim) λj j q=>q)
def OD{j:TT}(n:PT X.kb c j)(k:pV X l ta)(m:pV X r tb):RS X (.If c l r pos) (Fx j ta tb):=λa s b H E I h=>by
 erw[wpAny_If (wpAny_mono (n a s b H _ (I.hY _) h) (λd i z_=>?_) λq q z=>False.elim z)];obtain⟨e,f,g⟩:=z_;cases d with
 | true=>rwa[k a i b e E f.dN g]
 | false=>rwa[m a i b e E f.dN g]
end
section
variable{X:Cx}{k:Nat}{f C:Addr}{fd:FuncData}{ps:L8}{sp:Sp}{dvs:N4}{ds:L9}{E:XK}{x m:Str}{p pos apos:Pos}{e o:Expr}{es:Nt}{ta:TE}{t:TA}
def Mp{a:Ny}{g:St}{H:Hp}{s:Shared}{us:L9}{vs:N4}(F:eB X.prog X.w X.K X.mg X.base (lB X.prog X.w) k f fd ps sp)(m:dF k X.A)(i:Binds X.K fd ps ds)(j:Vals dvs ds)(c:Flat X)
  (I:Inv X a g H s) (r:Vals vs us) (h:sp (vs++dvs) H (λZ Z=>False) E):wpAny (model X.prog X.w) X.A (call (.ref f) us) (λZ Z=>False) (XP X a g E) s:=by
 have d:Vals (vs++dvs) (us++ds):=r.append j;have l:⇑(us++ds)=⇑ps:=by rw[<-⇑d];rwa[F.len _ _ _ _ h]
 erw[wpAny_call (codeAny_mono (F.run X.A X.stack s H #[us,[]] (us++ds) (vs++dvs) _ E m I.r8 (i s us I.jk l) d h) λr n b=>?_)];cases r with
 | error e=>rwa[XP.pF c I b]
 | ok c=>
  cases c with
  | ret u=>let⟨Z,Z,Z,Z,Z,Z,Z,q⟩:=b;rwa[q.elim]
  | next=>rwa[False.elim b]
  | brk=>rwa[False.elim b]
  | cont=>rwa[False.elim b]
noncomputable def rn(C:Addr)(m:Str)(sp:Sp)(dvs:N4)(ta:TE)(t:TA):tI:=λσ H E=>ta σ H λx H1=>∃a dx fs,x = .ref a/\H1 a⊂.ins C dx fs/\fs.lookup m=none/\
 t σ H1 λvs H2=>sp (x::(vs++dvs)) H2 (λq q=>False) E
def Mj{pl:Sem Bool}(K:PE X.kb o ta)(c:mJ X.K C)(n:Meth X.K C m f)(F:eB X.prog X.w X.K X.mg X.base (lB X.prog X.w) k f fd ps sp)(L:dF k X.A)(G:Binds X.K fd ps ds)(J:Vals dvs ds)(B:Flat X)(D:PA X.kb (e::es) t)
  (g:starEach (e::es) X.env=(false,eval e X.env)::starEach es X.env:=by rfl) (d:(backTo pos (starEach es X.env)).any (·.1)=false:=by rfl)
  (M:eval (.Call (.Attribute o m apos) (e::es) [] pos) X.env=(do
   let ov <-eval o X.env
   standAt apos.atName
   let (f,first) <-holding [ov] (getMethod ov m pl)
   callWith pos f first (backTo pos (starEach (e::es) X.env)) (backToKw pos (keywordEach [] X.env))):=by rfl) :
  RE X (.Call (.Attribute o m apos) (e::es) [] pos) (rn C m sp dvs ta t):=by
 intro b s p H E I h;erw[PySem.W.methodCall_KW (pl:=pl) (wpAny_mono (K b s p H _ (I.hY _) h) (λu P z_=>?_) λZ Z z=>False.elim z) M];obtain⟨x,v,i,O,a,S,T,y,w,l,q⟩:=z_;subst y;obtain rfl:u=Value.ref a:=O;erw[kj i.dN w c n l ?_];erw[PySem.W.callWith_K (first:=[.ref a]) (h₀:=X.base) I.ok.mod.sf n.kp (wpAny_mono (D pos b P p v _ i q) (λus U z_=>?_) λZ Z z=>False.elim z) g d];let⟨vs,R,j,r,N⟩:=z_;erw[j.dN.jk,?_];rwa[Mp (us:=.ref a::us) (vs:=.ref a::vs) F L G J B j.dN (.cons rfl r) N]
end
def Ik{K:cG}{h:Heap}{C:Addr}{d:L9}{a:String}(X:K.In h)(q:PySem.W.excIn K C d a=true) :
  ∃bm N nm g bs hdct sn sub ab col dd k0 k1 k2 k3 k5 mN,h.get? C⊂(excClassObj nm g C N bs bm hdct sn sub ab col dd k0 k1 k2 k3 k5 a)/\h.Ns N mN/\mN "__init__"= none/\OwnTail h d bm:=by
 unfold PySem.W.excIn at q;split at q
 .rename_i dd cd sl ho;split at q
  .rename_i C' bm k0 k1 k2 k3 n k5 hm hs;simp only[Bool.and_eq_true,beq_iff_eq,Bool.not_eq_true']at q;let⟨⟨⟨⟨⟨rfl,rfl⟩,b⟩,k⟩,c⟩,e⟩:=q;let⟨nm,bs,m,o,g,j,sn,sub,ab,col,i⟩:=cd;dsimp only at hm b c e;subst hm b;have f:sl = [k0,k1,k2,k3,some (.builtin n),k5].toArray:=by
    let⟨l⟩:=sl;simp only at hs;rw[hs]
   subst f;rwa[bm,o,nm,g,bs,j,sn,sub,ab,col,dd,k0,k1,k2,k3,k5,_,X _ _ ho,.of_isNs (PySem.W.isNs_of_in X c),PySem.W.nsMap_none_of_in X c e,PySem.W.tail_of_in X k]
  .cases q
 .cases q
noncomputable def sx(C:Addr):mR:=λσ H E=>E σ (.ref C) none H
def LK{X:Cx}{x:Str}{C:Addr}{u e j:Pos}{b c:String}{d:L9}(k:ExcBaseFacts "ValueError" b c d)(l:Flat X)(r:Gl X x)(t:X.mg x=↥C)(p:PySem.W.excIn X.K C d b=true)
  (g:(x==("__debug__" : Str))=false:=by decide):RS X (.Raise (some (.Call (.Name x u) [] [] e)) none j) (sx C):=by
 intro m s w H E I h;let⟨v,N,nm,q,bs,hdct,sn,sub,ab,col,dd,k0,k1,k2,k3,k5,mN,n,o,i,T⟩:=Ik I.jk p;refine wpAny_Raise_call_subT (C:=C) (nm:=nm) (q:=q) (N:=N) (bs:=bs) (bm:=v) (hdct:=hdct) (sn:=sn) (sub:=sub) (ab:=ab) (col:=col) (dd:=dd) (k0:=k0) (k1:=k1) (k2:=k2) (k3:=k3) (k5:=k5)
  k (mN:=mN) (T.hasType k.hasBase) (I.ok.hd l.calm) rfl i (k7 I r t #[rfl,?_] g)
 rwa[evalArgs_empty #[rfl,va _,n,o,T,λy a f=>#[w,XP.pG l I f h]]]
section
variable{P:Program}{w:World}{K:cG}{mg:Nw}{base:Heap}
def N6{k:Nat}{f:Addr}{name c:Str}{d:Arguments}{i:List Stmt}{a:Scope}{M kV m O g L oc:Value}{an od:Option Addr}
  {F:Array (Nv)} {N ps:L8} {sp:Sp} (lk:K.lookup f=some #[oc,od,.func (PySem.W.fnOf name c d i a M kV m O an g L),F]) (B:PySem.W.codeIn K g c=true) (S:cn N ps a)
  (len:∀vs H Q E,sp vs H Q E->⇑vs=⇑ps)
  (j:∀(A:Around) (outer:Nr) (s:Shared) (H:Hp) (vs:N4) (Q:VK) (E:XK),dF k (A.deeper (envOfC c a s⁻¹ f g))->sp vs H Q E->
   ∃t,pV (dG (lB P w) P w K mg base N c a f g A outer s H E) i t/\t (start N vs) H (λ_=>E)) :
  eB P w K mg base (lB P w) (k+1) f (PySem.W.fnOf name c d i a M kV m O an g L) ps sp:=by
 erw[len,λA outer s H J us vs Q E C p U r u=>?_];have X:=len _ _ _ _ u;have G:K.In s.heap:=p.mod.sf.keeps λb o e=>(p.bs b o e).1
 have D:s.heap.NoLimit:=p.mod.nolimit.keeps λb o e=>(p.bs b o e).1
 have l:∀y∈ps.zip us,a.names.lookup y.1⊂.local\/(a.names.lookup y.1⊂.cell/\((cellsFrom (s⁻¹+1) a.names []).lookup y.1).isSome=true):=λ⟨n,v⟩ hy=>by
  rcases S.par n (of_mem_zip hy).1 with q | q
  .exact .inl q
  .exact .inr #[q,PySem.W.cellsFrom_some _ _ _ (.inl q)]
 erw[codeAny_call_function C.depth (G _ _ lk) rfl S.co S.gen rfl (PySem.W.codeRec_of G B) (U _ _ _ _ ?_)];erw[wpAny_newFunctionEnv_cells S.kind l λT W R x=>?_]
 subst W;erw[D.keeps x.toInCall.keep,codeAny_func ?_];let⟨t,Z,Y⟩:=j A outer s H vs Q E (C.deeper _) u;have I:Inv (dG (lB P w) P w K mg base N c a f g A outer s H E) [] (start N vs) H R:=Xo S C.hd p X r x;rwa[wpAny_mono (Z [] R (start N vs) H _ I Y) (λ_ _ z=>z.elim) λe s' ⟨a0,q⟩=>XP.si q]
def fF.O0{x a:Str}{st:Stmt}{f:Addr}{g:FuncData}{N ps:L8}{k:Nat}{sp:Sp}(F:fF K x a st f g)(S:cn N ps (cf st))(len:∀vs H Q E,sp vs H Q E->⇑vs=⇑ps)
  (c:∀(b:Value) (A:Around) (outer:Nr) (s:Shared) (H:Hp) (vs:N4) (Q:VK) (E:XK),dF k (A.deeper (envOfC a (cf st) s⁻¹ f b))->sp vs H Q E->
   ∃t,pV (dG (lB P w) P w K mg base N a (cf st) f b A outer s H E) (dM st) t/\t (start N vs) H (λZ=>E)):eB P w K mg base (lB P w) (k+1) f g ps sp:=by
 let⟨p,q,kV,i,r,n,b,o,m,rfl,l,d⟩:=F.ex;rwa[N6 l d S len λA outer s H vs Q E j e=>c b A outer s H vs Q E j e]
end
noncomputable def sM(cls:Value)(a:Addr):Heap->Prop:=λh=>∃o vs,h.get? a⊂o/\o.cls=cls/\o.data = .fields vs
noncomputable abbrev pz(cls:Value)(a:Addr):HO:=.ext (sM cls a)
section
variable{X:Cx}{pins:Ny}{σ:St}{H:Hp}{s:Shared}
def Inv.landed{H':Hp}{B h':Heap}(F:Flat X)(I:Inv X pins σ H' s)
  (A:∀b o,s.heap.get? b⊂o->(H' b≠none\/(∃R,X.s₀.heap.get? b⊂R)\/∃p∈X.pn++pins,p.1=b)->b∉fB X.stack->B.get? b⊂o)
  (st:B.StaysIn h') (E:s.heap.UpToSlots h'):Inv X pins σ H' {s with heap:=h'}:=by
 let⟨D,J,C⟩:=XP.stays F I A st E;have w:∀b o,X.s₀.heap.get? b⊂o->b∉X.fs->b∉fB X.stack:=λb o e f z=>by
  rw[F.fs]at z;rcases mem_cons.mp z with z | z
  .exact ud (Nat.lt_of_lt_of_le (vI e) I.ok.above) (by rw[z];rwa[Nat.lt_irrefl _])
  .exact f z
 have t:∀b,b∈X.fs->b∈fB X.stack:=λb z=>by rw[F.fs];rwa[vp _ z]
 have a:∀c v,s.heap.IsCell c v->h'.IsCell c v:=λc v ⟨o,Q,G⟩=>by
  let⟨S,e⟩:=E c o Q λT q=>by rw[G]at q;cases q
  rwa[_,e,G]
 erw[I.ok,I.os,I.bare,#[λb o e n f j=>?_,λb o e n f j=>?_,I.base.free,λb o e j=>?_,I.base.dU,I.base.g5,I.base.iY],?_,λx c e=>?_,I.free,I.d0,λp H=>?_,C,I.len]
 .exact D b o (I.base.keep b o e n f j) (.inr (.inl #[o,e])) (w b o e f)
 .let⟨S,g⟩:=I.base.slot b o e n f j;let⟨y,h⟩:=J b _ g (t b f);rwa[y,h]
 .let⟨M,g⟩:=I.base.there b o e j;by_cases f:b∈X.fs
  .let⟨y,h⟩:=J b _ g (t b f);rwa[_,h]
  .exact#[M,D b M g (.inr (.inl #[o,e])) (w b o e f)]
 .let⟨m,P,O⟩:=I.loc;erw[m,E.ns P,λi x v g h N=>?_];let⟨u,r,l⟩:=O i x v g h N;erw[u,r,?_];rcases l with l | ⟨k,c,e,z⟩
  .exact .inl l
  .exact .inr #[k,c,e,a c _ z]
 .let⟨v,z⟩:=I.cell x c e;rwa[v,a c v z]
 .let⟨e,n,K,L,d⟩:=I.pin p H;erw[D p.1 p.2 e (.inr (.inr #[p,H,rfl])) ?_,n,K,L,d];rw[F.fs];intro z;rcases mem_cons.mp z with z | z
  .exact K z
  .exact L z
def Inv.known{T:Addr}{o:HO}(I:Inv X pins σ H s)(h:H T=none)(l:X.s₀.heap.get? T=none)(j:T≠X.env.locals)(i:∀x c,X.env.cells.lookup x⊂c->c≠T)(k:∀p∈X.pn++pins,p.1≠T)
  (f:cD X.prog X.w (upd H T o) s.heap T o):Inv X pins σ (upd H T o) s:=by
 have d:∀b u,H b⊂u->b≠T:=λb u e z=>by rw[z,h]at e;cases e
 have t:∀b u,X.s₀.heap.get? b⊂u->b≠T:=λb u e z=>by rw[z,l]at e;cases e
 erw[I.ok,I.os,I.bare,#[I.base.keep,I.base.slot,λb u e n m=>(jh (t b u e)).trans (I.base.free b u e n m),I.base.there,λb y e=>?_,λb u v e=>?_,λb w e=>?_],I.loc,I.cell,(jh (Ne.symm j)).trans I.free,λx c e=>(jh (i x c e)).trans (I.d0 x c e),λp g=>?_,λb u e=>?_,I.len]
 .have:=I.base.dU b y e;rwa[(jh (d _ _ this)).trans this]
 .have:=I.base.g5 b u v e;rwa[(jh (d _ _ this)).trans this]
 .let⟨a,this⟩:=I.base.iY b w e;rwa[a,(jh (d _ _ this)).trans this]
 .let⟨e,n,r⟩:=I.pin p g;rwa[e,(jh (k p g)).trans n,r]
 .by_cases z:b=T
  .subst z;rw[jy]at e;cases e;rwa[f]
  .rw[jh z]at e;rwa[(I.cK b u e).iu (λc v Z q=>q) (λc q=>(jh (d _ _ q)).trans q) λc A q=>(jh (d _ _ q)).trans q]
noncomputable abbrev Cx.gu(X:Cx)(A:Around):Cx:={X with A:=A,calm:=false,xe:=λq q=>False}
def Inv.gu(I:Inv X pins σ H s){A:Around}(a:A.frames=X.A.frames):Inv (X.gu A) pins σ H s:=
 #[#[I.ok.mod,I.ok.kind,I.ok.glob,I.ok.blt,I.ok.above,I.ok.inj,I.ok.has,I.ok.r6,(λz=>nomatch z),a.trans I.ok.frames,I.ok.oY,I.ok.Aa,I.ok.bs,I.ok.ox,I.ok.mS,I.ok.nE,I.ok.gO,I.ok.pA],I.os,I.bare,I.base,I.loc,I.cell,I.free,I.d0,I.pin,I.cK,I.len]
def Inv.so{A:Around}(I:Inv (X.gu A) pins σ H s)(a:X.Ok):Inv X pins σ H s:=#[a,I.os,I.bare,I.base,I.loc,I.cell,I.free,I.d0,I.pin,I.cK,I.len]
def HM{M:Model}{A:Around}{E:Nz}{i:Nat}{n:Str}{D:Pos}{Q:Unit->Shared->Prop}(I:Inv X pins σ H s)(N:X.N.Nodup)(hi:X.N[i]?⊂n)(O:X.env.scope.names.lookup n⊂.local)
  (h:∀s',Inv X pins (σ.set i none) H s'->Q () s'):wpAny M A (do bindName X.env n .none;unbindBehindTheSuite X.env n D) Q E s:=by
 let⟨m,F,B⟩:=id I.loc;erw[wpAny_nameGoes_keeps O F (by rw[I.ok.kind];rfl) λL v C f=>h _ ?_]
 let⟨oL,_,_,P,_⟩:=id F;have r:i<⇑σ:=by rw[I.len];rwa[(vx.mp hi).1]
 have a:fA X.prog X.w H L:=λb U e=>by
  erw[(I.cK b U e).iu (λc J l q=>(f.2 c ?_).trans q) (λ_ q=>q) λ_ _ q=>q]
  rintro rfl;rcases l with l | l
  .rw[<-l,I.free]at e;cases e
  .rw[I.free]at l;cases l
 erw[I.ok,I.os,I.bare,#[λb o e n w t=>?_,λb o e n w t=>?_,I.base.free,λb o e t=>?_,I.base.dU,I.base.g5,I.base.iY],#[_,C,λj y v' g u K=>?_],λy c e=>?_,I.free,I.d0,λp R=>?_,a,#v[I.len]]
 .exact(f.2 b (vE (Nat.lt_of_lt_of_le (vI e) I.ok.above))).trans (I.base.keep b o e n w t)
 .let⟨Y,g⟩:=I.base.slot b o e n w t;rwa[Y,(f.2 b (vE (Nat.lt_of_lt_of_le (vI e) I.ok.above))).trans g]
 .let⟨T,g⟩:=I.base.there b o e t;rwa[T,(f.2 b (vE (Nat.lt_of_lt_of_le (vI e) I.ok.above))).trans g]
 .by_cases x:j=i
  .subst x;rw[List.getElem?_set_self r]at u;cases u
  .rw[List.getElem?_set_ne (Ne.symm x)]at u;let⟨Z,W,q⟩:=B j y v' g u K;erw[Z,W,?_];rcases q with⟨k,e⟩ | ⟨k,c,e,z⟩
   .refine .inl #[k,?_];have:y≠n:=λe=>x (W2 N g (e▸hi))
    simp[this,e]
   .exact .inr #[k,c,e,z.sameBut f (I.tL y c e)]
 .let⟨J,z⟩:=I.cell y c e;rwa[J,z.sameBut f (I.tL y c e)]
 .let⟨e,n,G,S,d⟩:=I.pin p R;rwa[(f.2 p.1 G).trans e,n,G,S,d]
end
def sJ(K:cG)(c:Value)(i:Nat)(tn:TS)(tr:mR)(ts:TS):TS:=λD σ H=>
 tn D σ H\/tr σ H λS' cls q H'=>PySem.W.exmOne K cls c⊂true/\∀a,H' a=none->
  ts {nx:=λσ2 H2=>D.nx (σ2.set i none) H2,rt:=D.rt,bk:=λσ2 H2=>D.bk (σ2.set i none) H2,ct:=λσ2 H2=>D.ct (σ2.set i none) H2} (S'.set i (↥a)) (upd H' a (pz cls a))
def Nm{X:Cx}{g t:List Stmt}{b0:Stmt}{x n:Str}{C:Addr}{i:Nat}{np Z a8:Pos}{tn:TS}{tr:mR}{ts:TS}(O:Flat X)(hN:X.N.Nodup)(hi:X.N[i]?⊂n)(hl:X.env.scope.names.lookup n⊂.local)
  (hg:Gl X x) (hm:X.mg x=↥C) (hb:lM X.kb g tn) (hr:pV X g tr) (hs:∀A,lM (X.gu A) (b0::t) ts) (a4:(x==("__debug__" : Str))=false:=by decide) :
  PS X (.Try g [.ExceptHandler (some (.Name x np)) (some n) (b0::t) Z] [] [] a8) (sJ X.K (.ref C) i tn tr ts):=by
 intro b s σ H D I h;rcases h with h | h
 .refine wpAny_Try_except (wpAny_mono (hb b s σ H D (I.hY _) h) (λf s1 q=>?_) λ_ _ z=>False.elim z);have q:=q.dN;cases f with
  | next=>rwa[wpAny_execs_nil q]
  | ret v=>rwa[q]
  | brk=>rwa[q]
  | cont=>rwa[q]
 .refine wpAny_Try_except (wpAny_mono (hr b s σ H _ I h) (λ_ _ z=>z.elim) λe s1 xp=>?_);let⟨G,a,R,H',B,rfl,na,I1,nT,Q,M,U,a6⟩:=xp;have J:=Q;rw[O.oY]at J;have T:X.A.frames⊂(X.env::X.outer):=by rw[<-O.oY];exact I.ok.frames
  erw[G0 T O.fr J λh5 a0 N a2=>?_]
  have I5:Inv X b G H' {s1 with heap:=h5}:=I1.landed O M N.1 a2;have a3:Inv (X.gu (X.A.mark (↥a))) b G H' {s1 with heap:=h5}:=I5.gu rfl;have LT:PySem.W.Looks (model X.prog X.w) h5 (typeOf (.ref a)) R:=by
   let⟨ob,a5,hc⟩:=N.there;subst hc;rwa[(PySem.W.Looks.ld a5).andThen .now]
  erw[wpAny_handleBy_cons (codeAny_handlers_test (k7 (X:=X.gu (X.A.mark (↥a))) a3 hg hm ?_ a4)) (by intro q;cases q)];erw[(PySem.W.exm_one I5.jk LT U).here (codeAny_handlers_suite_as ?_)];erw[lands_againW N λh6 S a9=>?_]
  have I6:Inv X b G H' {s1 with heap:=h6}:=I1.landed O M S.1 (a2.trans a9);let⟨oe,ws,F,Y,l,_⟩:=S.first
  have I7:Inv X b G (upd H' a (pz R a)) {s1 with heap:=h6}:=by
   erw[I6.known nT na (λz=>?_) (λy c e z=>?_) (λp Z z=>?_) #[#[oe,ws,F,Y,l],#[oe,F],λh1 h2 ⟨o,vs,e1,e2,e3⟩ k=>#[o,vs,k o e1,e2,e3]]]
   .let⟨m,⟨o,es,ep,ho,W,_⟩,_⟩:=I6.loc;have j:h6.get? a⊂o:=by rw[z];exact ho
    rw[F]at j;cases j;rw[l]at W;cases W
   .let⟨v,o,ho,W⟩:=I6.cell y c e;have j:h6.get? a⊂o:=by rw[<-z];exact ho
    rw[F]at j;cases j;rw[l]at W;cases W
   .let⟨e,nn,ne,nf,_⟩:=I1.pin p Z;have a7:p.1∉fB X.stack:=by
     rw[O.fs];intro zz;rcases mem_cons.mp zz with zz | zz
     .exact ne zz
     .exact nf zz
    have:=M p.1 p.2 e (.inr (.inr #[p,Z,rfl])) a7;rw[z,Q.2.1]at this;cases this
  erw[Ku (X:=X) I7 hN hi (.inl hl) (v:=.ref a) rfl (λs8 I8=>?_) (.inr hl)];erw[wpAny_mono (hs (X.A.mark (↥a)) b s8 _ _ _ (I8.gu rfl) (a6 a nT)) (λf s9 q=>?_) λ_ _ z=>False.elim z]
  have E:∀{d:St} {K:Hp},Inv (X.gu (X.A.mark (↥a))) b d K s9->(∀P,Inv X b (d.set i none) K P->SP X b D f P)->
    wpAny (model X.prog X.w) X.A (do bindName X.env n .none;unbindBehindTheSuite X.env n Z) (λ_ a1=>SP X b D f a1) X.xe s9:=λ{d K} w k=>HM (w.so I.ok) hN hi hl k
  cases f with
  | next=>let⟨d,K,w,q⟩:=q;rwa[E w λP L=>#[_,_,L,q]]
  | brk=>let⟨d,K,w,q⟩:=q;rwa[E w λP L=>#[_,_,L,q]]
  | cont=>let⟨d,K,w,q⟩:=q;rwa[E w λP L=>#[_,_,L,q]]
  | ret u=>let⟨v,d,K,w,r,q⟩:=q;rwa[E w λP L=>#[v,_,_,L,r,q]]
def uY(K:cG)(c:Value)(i:Nat)(tn:TS)(tr:mR)(ts:TS):TS:=λD σ H=>∃Mid:St->Hp->Prop,sJ K c i tn tr ts {nx:=Mid,rt:=D.rt} σ H/\∀S' H',Mid S' H'->D.nx S' H'
def M0{X:Cx}{a b:List Stmt}{l:Stmt}{x n:Str}{C:Addr}{i:Nat}{K F g:Pos}{m:TS}{o:mR}{p:TS}(u:Flat X)(w:X.N.Nodup)(hi:X.N[i]?⊂n)(B:X.env.scope.names.lookup n⊂.local)
  (z:Gl X x) (E:X.mg x=↥C) (y:lM X.kb a m) (G:pV X a o) (J:∀A,lM (X.gu A) (l::b) p) (e:(x==("__debug__" : Str))=false:=by decide) :
  PS X (.Try a [.ExceptHandler (some (.Name x K)) (some n) (l::b) F] [] [] g) (uY X.K (.ref C) i m o p):=by
 intro c s L H D I ⟨t,h,k⟩;erw[cM (Nm u w hi B z E y G J e c s L H _ I h) λf M q=>?_]
 cases f with
 | next=>let⟨d,j,r,q⟩:=q;rwa[d,j,r,k d j q]
 | ret v=>rwa[q]
 | brk=>let⟨Z,Z,Z,q⟩:=q;rwa[q.elim]
 | cont=>let⟨Z,Z,Z,q⟩:=q;rwa[q.elim]
open PySem PySem.Spec PyProof.Rows PySem.W
structure lJ(K:Frag)(C:Addr):Prop where
 ga:findIn K (.ref C) "__getattribute__"= some (some (.builtin "BaseException.__getattribute__"))
 nh:findIn K (.ref C) "__getattr__"= some none
 cls:findIn K (.ref C) "__class__"= some (some (.builtin "object.__class__"))
 base:subIn K (.ref C) (.type "BaseException")⊂true
 obj:subIn K (.ref C) (.type "object")⊂true
 is:isClsIn K C=true
section
variable{prog:Program}{w:World}{A:Around}{E:Nz}{K:Frag}{C a:Addr}
def tW{M:Model}{h:Heap}{cls:Value}(p:sM cls a h):Looks M h (typeOf (.ref a)) cls:=by
 let⟨o,d,b,c,q⟩:=p;rwa[c▸(Looks.ld b).andThen .now]
def NR{R:Result->Shared->Prop}{h:Heap}{g:Array GenState}{d:Drawn}{t:Nat}{c:OsState}(Z:lJ K C)(X:K.In h)(p:sM (.ref C) a h)(i:R (.ok (.ret (.ref C))) #[h,g,d,t,c]) :
  codeAny (model prog w) A (.call (.builtin "getset_descriptor.__get__") #[[.builtin "object.__class__",.ref a,.ref C],[]]) R #[h,g,d,t,c]:=by
 have e:Looks (model prog w) h (typeOf (.ref a)) (.ref C):=tW p;have b:(#[h,g,d,t,c]:Shared).TypeIs (.builtin "object.__class__") "getset_descriptor":=F.typeOf_object_class;have f:Looks (model prog w) h (isSubtype (.ref C) (.type (".".intercalate ("object.__class__".cutAt '.').dropLast))) true:=by rw[F.owner_object_class];rwa[looks_subIn X Z.obj]
 erw[codeAny_call_builtin F.slot_gs_get.plain F.entry_gs_get (F.slot_gs_get.check _ _ _ _ _ _ _ _ b (F.args_gs_get _ _ _) ?_)]
 repeat (any_goals (first | assumption | with_reducible refine Looks.at e ?_ | with_reducible refine Looks.at f ?_ | wp_step))
 erw[Code.quiet_builtin _ ∅,codeAny_builtin F.entry_object_class ?_]
 repeat (any_goals (first | assumption | with_reducible refine Looks.at e ?_ | wp_step))
def Li{i:Tok}{Q:Fin->Shared->Prop}{h:Heap}{g:Array GenState}{d:Drawn}{t:Nat}{b:OsState}(Z:lJ K C)(X:K.In h)(p:sM (.ref C) a h)(m:Q (.done (.ret (.ref C))) #[h,g,d,t,b]) :
  wpAny (model prog w) A (Builtin.«object.__getattribute__» #[[.ref a,.str "__class__" i],[]]) Q E #[h,g,d,t,b]:=by
 have c:Looks (model prog w) h (typeOf (.ref a)) (.ref C):=tW p;have e:=looks_findIn (M:=model prog w) X Z.cls;have f:(#[h,g,d,t,b]:Shared).TypeIs (.builtin "object.__class__") "getset_descriptor":=F.typeOf_object_class;have j:=F.typeOf_object_class;have k:=F.slot_gs_get.lookup;have l:=F.slot_gs_set.lookup
 repeat (any_goals (first | assumption | with_reducible refine Looks.at c ?_ | with_reducible refine Looks.at e ?_ | wp_step))
 erw[NR Z X p ?_]
 repeat (any_goals (first | assumption | wp_step))
def Lg{M:Model}{b:Value}{Q:Unit->Shared->Prop}{h:Heap}{g:Array GenState}{d:Drawn}{t:Nat}{e:OsState}(Z:lJ K C)(X:K.In h)(p:sM (.ref C) a h)(k:Q () #[h,g,d,t,e]) :
  wpAny M A (checkBuiltinCall "BaseException.__getattribute__" #[[.ref a,b],[]]) Q E #[h,g,d,t,e]:=by
 have j:builtinKind "BaseException.__getattribute__"= some .slot:=by trivial
 have c:splitId "BaseException.__getattribute__"= some ("BaseException","__getattribute__"):=by trivial
 have f:Looks M h (typeOf (.ref a)) (.ref C):=tW p;have i:Looks M h (isSubtype (.ref C) (.type "BaseException")) true:=looks_subIn X Z.base;have l:=F.args_bexc_ga (.ref a) b;simp only[checkBuiltinCall,j,c];erw[ug ?_];unfold isInstance
 repeat (first | with_reducible refine Looks.at f ?_ | with_reducible refine Looks.at i ?_ | wp_step)
 rwa[k]
def Lh{Q:Option Value->Shared->Prop}{s:Shared}(Z:lJ K C)(X:K.In s.heap)(p:sM (.ref C) a s.heap)(q:Q (↥C) {s with toks:=s.toks+1}) :
  wpAny (model prog w) A (getAttr? (.ref a) "__class__") Q E s:=by
 let⟨h,g,d,t,i⟩:=s;have c:Looks (model prog w) h (typeOf (.ref a)) (.ref C):=tW p;have e:=looks_findIn (M:=model prog w) X Z.ga;have L2:=looks_findIn (M:=model prog w) X Z.nh;have f:=F.attr_ValueError.ga.bind (.ref a);have b:(Value.builtin "BaseException.__getattribute__"== Value.builtin "object.__getattribute__")=false:=by trivial
 unfold getAttr? getAttrBy? getAttrBy;erw[ug (wpAny_mkText (ug (wpAny_attempt (wpAny_holding (ug (c.at (ug (e.at ?_))))))))];dsimp only;rw[show(onTheHeap (Value.ref C)&&Value.builtin "BaseException.__getattribute__"== Value.builtin "object.__getattribute__")=false from by rw[b];rfl];simp only[Bool.false_eq_true,if_false];unfold getAttrByItsOwn hookBefore;rw[show onTheHeap (Value.ref C)=true from rfl];simp only[if_true];erw[ug (L2.at ?_)];erw[ug (wpAny_attempt (wpAny_holding ?_))];unfold callGetattribute;simp only[Bool.false_and,Bool.false_eq_true,if_false];unfold boundAndCalled
 repeat (any_goals (first | assumption | wp_step))
 erw[codeAny_call_builtin F.attr_ValueError.ga.plain F.entry_bexc_ga (Lg Z X p (Li Z X p ?_))]
 repeat (any_goals (first | assumption | wp_step))
def Dx(Z:lJ K C):KitX K (.ref a) (.ref C) (sM (.ref C) a) where
 ty:=λY Y Y p=>tW p
 it:=λY Y X Y=>by
  have b:(clsIn K C).isSome=true:=Z.is;unfold clsIn at b;split at b
  .rename_i c' d' cd' sl' ho;intro g j i m k q;unfold isType loadHead;rwa[ug (wpAny_loadPart (k _ _ (X _ _ ho)) (uf q))]
  .cases b
 ne:=λh f l d n o X c=>by
  have b:(clsIn K C).isSome=true:=Z.is;erw[Bool.eq_false_iff.mpr λq=>?_]
  have e:C=f:=Value.ref.inj (beq_iff_eq.mp q);subst e;unfold clsIn at b;split at b
  .rename_i c' d' cd' sl' ho;have z:=(X _ _ ho).symm.trans c;cases z
  .cases b
 ca:=λX p k=>Lh Z X p k
end
section
variable{X:Cx}
def rm(K:Frag)(xs:N4)(H:Hp)(Q:VK):Prop:=∃a C d u b,xs=[.ref a,d]/\H a⊂(pz (.ref C) a)/\lJ K C/\RelV d u/\kitOne K (.ref C) u⊂b/\Q (.bl b) H
def Xc:dE X (.builtin "isinstance") (rm X.K):=by
 intro l s B H A x Q I r h;let⟨a,C,d,u,b,rfl,n,Z,g,e,q⟩:=h;let⟨v,c,rfl,o,f⟩:=vals2 r;cases(show v=Value.ref a from o);let⟨p,Y,Y⟩:=(show cD X.prog X.w H s.heap a (pz (.ref C) a)from I.cK a _ n)
 have m:kitOne X.K (.ref C) c⊂b:=by
  cases d with
  | ref D=>cases(show c=Value.ref D from f);cases(show u=Value.ref D from g);rwa[e]
  | ty T=>cases(show c=Value.type T from f);cases(show u=Value.type T from g);rwa[e]
  | dj=>cases(show u=Value.none from g);cases(show c=Value.none from f);rwa[e]
  | bl y=>cases(show u=Value.bool y from g);cases(show c=Value.bool y from f);rwa[e]
  | int i=>let⟨t,z⟩:=(show∃t,u=Value.int i t from g);let⟨k,j⟩:=(show∃t,c=Value.int i t from f);subst z j;unfold kitOne at e|-;rw[vc (by intro h;cases beq_iff_eq.mp h)]at e|-;rwa[e]
  | str i=>let⟨t,z⟩:=(show∃t,u=Value.str i t from g);let⟨k,j⟩:=(show∃t,c=Value.str i t from f);subst z j;unfold kitOne at e|-;rw[vc (by intro h;cases beq_iff_eq.mp h)]at e|-;rwa[e]
  | me i=>let⟨t,z⟩:=(show∃t,u=Value.bytes i t from g);let⟨k,j⟩:=(show∃t,c=Value.bytes i t from f);subst z j;unfold kitOne at e|-;rw[vc (by intro h;cases beq_iff_eq.mp h)]at e|-;rwa[e]
  | tM i=>let⟨t,z⟩:=(show∃t,u=Value.float i t from g);let⟨k,j⟩:=(show∃t,c=Value.float i t from f);subst z j;unfold kitOne at e|-;rw[vc (by intro h;cases beq_iff_eq.mp h)]at e|-;rwa[e]
 rwa[kia_one (Dx Z) I.jk p m (λz=>nomatch z) λw=>#[.bl b,H,I.tok _,rfl,q]]
def DW{a C:Addr}{d:V}{u:Value}{b:Bool}{K:Frag}{H:Hp}{Q:VK}(c:H a⊂(pz (.ref C) a))(Z:lJ K C)(e:kitOne K (.ref C) u⊂b)(q:Q (.bl b) H)(f:RelV d u:=by rfl):rm K [.ref a,d] H Q:=#[a,C,d,u,b,rfl,c,Z,f,e,q]
def uD(K:Frag)(xs:N4)(H:Hp)(Q:VK):Prop:=∃(a C tp:Addr) (cs:L7) (b:Bool),xs=[.ref a,.ref tp]/\H a⊂(pz (.ref C) a)/\lJ K C/\H tp⊂(.tup (cs.map V.ref))/\kitAny K (.ref C) (cs.map Value.ref)⊂b/\Q (.bl b) H
theorem xy:∀{a:L7} {us:L9},Vals (a.map V.ref) us->us=a.map Value.ref
 | [],_,.nil=>rfl
 | _::_,_,.cons r t=>by rw[xy t];cases r;rfl
def KM:dE X (.builtin "isinstance") (uD X.K):=by
 intro g s K H J G Q I r h;let⟨a,C,c,i,b,rfl,k,Z,m,e,q⟩:=h;let⟨v,B,rfl,A,x⟩:=vals2 r;cases(show v=Value.ref a from A);cases(show B=Value.ref c from x);let⟨p,Y,Y⟩:=(show cD X.prog X.w H s.heap a (pz (.ref C) a)from I.cK a _ k)
 let⟨Y,t,y,⟨o,j,d,n,f⟩⟩:=(show cD X.prog X.w H s.heap c (.tup (i.map V.ref))from I.cK c _ m)
 have l:=xy y;subst l;let⟨D,E,u,w⟩:=o;dsimp only at d f;subst d f;rwa[kia_tup (Dx Z) I.jk p j e (λz=>nomatch z) λF=>#[.bl b,H,I.tok _,rfl,q]]
def xD:bootBuiltins "ValueError"= some (.type "ValueError"):=by trivial
def Ie{t:mR}{a S':St}{H:Hp}{E:XS}(e:a=S')(h:t S' H E):t a H E:=by subst e;rwa[h]
def ND{e:TT}{c d:mR}{a:St}{H:Hp}{E:XS}(h:e a H λb H1=>if b=true then c a H1 E else d a H1 E):Fx e c d a H E:=h
def OC{t:tI}{a:St}{H:Hp}{E:XS}(h:t a H (E a)):rE t a H E:=h
def LI{C:Addr}{m:Str}{sp:Sp}{b:N4}{d:TE}{t:TA}{c:St}{H:Hp}{E:XK} (h:d c H λx H1=>∃a dx fs,x = .ref a/\H1 a⊂.ins C dx fs/\fs.lookup m=none/\
 t c H1 λvs H2=>sp (x::(vs++b)) H2 (λq q=>False) E):rn C m sp b d t c H E:=h
def Mi{K:Frag}{c:Value}{i:Nat}{g:TS}{d:mR}{e:TS}{D:Ends}{f:St}{H:Hp} (h:d f H λS' cls q H'=>exmOne K cls c⊂true/\∀a,H' a=none->
  e {nx:=λb H2=>D.nx (b.set i none) H2,rt:=D.rt,bk:=λb H2=>D.bk (b.set i none) H2,ct:=λb H2=>D.ct (b.set i none) H2} (S'.set i (↥a)) (upd H' a (pz cls a))):sJ K c i g d e D f H:=.inr h
end
end L2
namespace Rm
open PySem PySem.Spec PyProof.Rows L2
noncomputable def mU(pc:Nat->List Pc)(gs:L5):Nat->Nat->Int->L3
 | 0,_,_=>[]
 | n+1,i,t=>if gs∘i<=t then[]else(i,t)::(dA gs t (pc i)).flatMap λx=>mU pc gs n x.1 x.2
noncomputable def mT(ps:N2)(gs:L5)(i:Nat)(t:Int):L3:=mU (cP ps gs) gs (i+1) i t
section
variable{ls:L4}{ps:N2}{gs:L5}{hs:L1}
theorem DK(W:eI ls ps):∀{n m i:Nat} {t:Int},i<n->i<m->mU (cP ps gs) gs n i t=mU (cP ps gs) gs m i t
 | 0,_,_,_,h,_=>ud h (Nat.not_lt_zero _)
 | _,0,_,_,_,h=>ud h (Nat.not_lt_zero _)
 | n+1,m+1,i,t,h1,h2=>by
  unfold mU;split
  .rfl
  .congr 1;exact JX λx a=>by
    have:=Qv W a;rwa[DK W ⋯ ⋯]
def W8{i:Nat}{t:Int}(h:gs∘i<=t):mT ps gs i t=[]:=by
 unfold mT mU;rw[vd h]
def An(W:eI ls ps){i:Nat}{t:Int}(h:¬gs∘i<=t):mT ps gs i t=(i,t)::(dA gs t (cP ps gs i)).flatMap λx=>mT ps gs x.1 x.2:=by
 unfold mT;rw[mU,vc h];congr 1;exact JX λx a=>by
  have:=Qv W a;rwa[DK W ⋯ ⋯]
theorem WM{p n:Type}{f:p->List n}{x:n}:∀{l:List p} {pre e:List n},l.flatMap f=pre++x::e->∃c∈l,∃a b r,f c=a++x::b/\e=b++r
 | [],pre,e,h=>by cases pre<;>simp at h
 | c::l,pre,e,h=>by
  rw[flatMap_cons]at h;rcases List.append_eq_append_iff.mp h with⟨i,o,g⟩ | ⟨i,o,g⟩
  .let⟨d,m,a,b,r,j,k⟩:=WM g;rwa[d,vp _ m,a,b,r,j,k]
  .cases i with
   | nil=>
    rw[nil_append]at g;let⟨d,m,a,b,r,j,k⟩:=WM (pre:=[]) (show l.flatMap f=[]++x::e from g.symm);rwa[d,vp _ m,a,b,r,j,k]
   | cons y i=>
    rw[cons_append]at g;injection g with e3 e4;rwa[c,vq,pre,i,l.flatMap f,by rw[o,e3],e4]
def Mm{q:Pc}{t r:Int}{y:nR}(e:nu gs q)(h:dS gs t q⊂y)(a:y.2.2.2⊂r):0<=r/\r<gs∘y.1:=by
 unfold dS at h;split at h
 .rename_i c;cases h;dsimp only at a|-;split at a
  .rename_i d;cases a;let⟨Z,f,Z⟩:=e;have b:ov gs t q=(t-q.2.2)/gs∘q.1:=by
    unfold ov at d|-;split
    .rename_i z;rw[vd z]at d;lia
    .rfl
   rw[b,Int.mul_comm];have g:=ve (t-q.2.2) (show gs∘q.1≠0 by lia);have i:=vf (t-q.2.2) (show 0<gs∘q.1 by lia);have j:=Int.emod_add_mul_ediv (t-q.2.2) (gs∘q.1);lia
  .cases a
 .cases h
def MY(N:Sn ls ps gs hs):∀{i:Nat} {t:Int} {pre d:L3} {x:Nat×Int},mT ps gs i t=pre++x::d->∀y∈fu gs x.2 (cP ps gs x.1),∀r,y.2.2.2⊂r->(y.1,r)∈d:=by
 have W:=N.s.w;intro i
 induction i using Nat.strongRecOn with
 | ind i ih=>
  intro t pre d x h y g r f;by_cases c:gs∘i<=t
  .rw[W8 c]at h;cases pre<;>simp at h
  .rw[An W c]at h;cases pre with
   | nil=>
    rw[nil_append]at h;injection h with h1 h2;subst h1;let⟨q,n,e⟩:=Ke g;have u:=Mm (N.nJ n) e f;have o:(y.1,r)∈dA gs t (cP ps gs i):=by
     unfold dA;erw[mem_flatMap.mpr #[y,g,?_]];unfold eO;rw[f];rwa[mem_append_right _ (vo.mpr rfl)]
    rw[<-h2];erw[mem_flatMap.mpr #[_,o,?_]];show(y.1,r)∈mT ps gs y.1 r;rw[An W ⋯];rwa[vq]
   | cons p pre=>
    rw[cons_append]at h;injection h with h1 h2;let⟨j,m,a,b,s,k,l⟩:=WM h2;have:=ih j.1 (Qv W m) k y g r f;rw[l];rwa[mem_append_left _ this]
inductive fq(C:Addr)(vs:N4)(H:Hp)(Q:VK)(xk:XK):Prop
 | mk (a z) (ls:L4) (ps:N2) (gs hs E t):vs=[.ref a,.int t]->c8 C H a z ls ps gs E->Sn ls ps gs hs->0<=t->t<=gs∘(⇑ps-1)->(∀(r l1 l2:Addr) (as:L7) (P:L3) (H':Hp),cj H H'->H l1=none->H l2=none->H' r⊂(.tup [.ref l1,.ref l2])->H' l1⊂(.lst ((gY ls ps gs E t).map V.int))->⇑(gY ls ps gs E t)=⇑ls->(∀h∈gY ls ps gs E t,0<=h/\h<=10^18)->H' l2⊂(.lst (as.map V.ref))->l1≠l2->fG H' as P->⇑P<=5000->(∀x∈P,x.1<⇑ps/\0<=x.2/\x.2<gs∘x.1)->P.filter (eU ps gs)=((reach ps gs (⇑ps-1) t).filter λx=>!lu gs x)->P=mT ps gs (⇑ps-1) t->Q (.ref r) H')->fq C vs H Q xk
noncomputable def fy(f:Nat->Int->PyData)(y:nR):PyData:=match y.2.2.2 with | some r=>f y.1 r | none=>.none
noncomputable def gq(ls:L4)(ps:N2)(gs:L5)(st:L5):Nat->Nat->Int->PyData
 | 0,_,_=>.none
 | n+1,i,t=>match ps[i]? with
  | some (_,.rise x _ _)=>.tuple [.int t,.int (st∘(cF (cb ls) x))]
  | some (_,.hold _)=>.tuple [.int t]
  | some (_,.ring _ _)=>.tuple [.int t]
  | some (_,.side _)=>.tuple ((fu gs t (cP ps gs i)).map (fy (gq ls ps gs st n)))
  | some (_,_)=>.tuple [.int ((fu gs t (cP ps gs i)).map λy=>y.2.2.1).sum,(((fu gs t (cP ps gs i)).map (fy (gq ls ps gs st n))).getLast?).getD .none]
  | none=>.none
noncomputable def dB(ls:L4)(ps:N2)(gs:L5)(st:L5)(i:Nat)(t:Int):PyData:=gq ls ps gs st (i+1) i t
def BG(W:eI ls ps){i:Nat}{t:Int}{y:nR}(h:y∈fu gs t (cP ps gs i)):y.1<i:=by
 let⟨q,a,e⟩:=Ke h;rw[Kl e];rwa[Al W a]
theorem DF{st:L5}(W:eI ls ps):∀{n m i:Nat} {t:Int},i<n->i<m->gq ls ps gs st n i t=gq ls ps gs st m i t
 | 0,_,_,_,h,_=>ud h (Nat.not_lt_zero _)
 | _,0,_,_,_,h=>ud h (Nat.not_lt_zero _)
 | n+1,m+1,i,t,h1,h2=>by
  have e:(fu gs t (cP ps gs i)).map (fy (gq ls ps gs st n))=(fu gs t (cP ps gs i)).map (fy (gq ls ps gs st m)):=map_congr_left λy a=>by
   have:=BG W a;unfold fy;split
   .exact DF W ⋯ ⋯
   .rfl
  unfold gq;split<;>first | rfl | rw[e]
def Bl{st:L5}(W:eI ls ps){i:Nat}{t:Int}:(fu gs t (cP ps gs i)).map (fy (gq ls ps gs st i))=(fu gs t (cP ps gs i)).map (fy (dB ls ps gs st)):=map_congr_left λy a=>by
 have:=BG W a;unfold fy;split
 .exact DF W ⋯ ⋯
 .rfl
def DI{st:L5}{i:Nat}{t:Int}{nm x:Str}{v n:Int}(h:ps[i]?⊂(nm,.rise x v n)):dB ls ps gs st i t = .tuple [.int t,.int (st∘(cF (cb ls) x))]:=by unfold dB gq;rw[h]
def DG{st:L5}{i:Nat}{t:Int}{nm:Str}{n:Int}(h:ps[i]?⊂(nm,.hold n)):dB ls ps gs st i t = .tuple [.int t]:=by unfold dB gq;rw[h]
def DH{st:L5}{i:Nat}{t:Int}{nm x:Str}{n:Int}(h:ps[i]?⊂(nm,.ring x n)):dB ls ps gs st i t = .tuple [.int t]:=by unfold dB gq;rw[h]
def DJ{st:L5}(W:eI ls ps){i:Nat}{t:Int}{nm:Str}{xs:L8}(h:ps[i]?⊂(nm,.side xs)):dB ls ps gs st i t = .tuple ((fu gs t (cP ps gs i)).map (fy (dB ls ps gs st))):=by
 rw[<-Bl W];unfold dB gq;rw[h]
noncomputable def mW(Y:List nR)(F:Nat->Int->PyData):PyData:=.tuple [.int (Y.map λy=>y.2.2.1).sum,((Y.map (fy F)).getLast?).getD .none]
def Ey{st:L5}(W:eI ls ps){i:Nat}{t:Int}{nm:Str}{xs:L8}(h:ps[i]?⊂(nm,.row xs)):dB ls ps gs st i t=mW (fu gs t (cP ps gs i)) (dB ls ps gs st):=by
 unfold mW;rw[<-Bl W];unfold dB gq;rw[h]
def XE{st:L5}(W:eI ls ps){i:Nat}{t:Int}{nm x:Str}{k:Int}(h:ps[i]?⊂(nm,.again k x)):dB ls ps gs st i t=mW (fu gs t (cP ps gs i)) (dB ls ps gs st):=by
 unfold mW;rw[<-Bl W];unfold dB gq;rw[h]
def dV.none{n:Nat}:dV n .none:=#[rfl,va _]
def Mt{f:Nat->Int->PyData}{n:Nat}{y:nR}(h:∀r,dV n (f y.1 r)):dV n (fy f y):=by
 unfold fy;split
 .exact h _
 .exact dV.none
def DY{n:Nat}{a b:PyData}(c:dV n a)(d:dV n b):dV (n+1) (.tuple [a,b]):=dV.tup (forall_mem_cons.mpr #[c,forall_mem_cons.mpr #[d,λq h=>nomatch h]])
def MX{st:L5}(W:eI ls ps):∀{i:Nat} {t:Int},dV (i+1) (dB ls ps gs st i t):=by
 intro i
 induction i using Nat.strongRecOn with
 | ind i ih=>
  intro t;have c:dV (i+1) (.tuple [.int t]):=(show dV 1 (.tuple [.int t])from dV.tup (n:=0) (forall_mem_cons.mpr #[dV.int,λq h=>nomatch h])).mono ⋯;have b:∀y∈fu gs t (cP ps gs i),dV i (fy (dB ls ps gs st) y):=λy a=>by
   have:=BG W a;rwa[Mt λr=>(ih y.1 this).mono ⋯]
  have g:dV (i+1) (mW (fu gs t (cP ps gs i)) (dB ls ps gs st)):=by
   erw[DY (dV.int.mono (va _)) ?_];cases e:((fu gs t (cP ps gs i)).map (fy (dB ls ps gs st))).getLast? with
   | none=>rwa[dV.none]
   | some d=>
    let⟨y,a,rfl⟩:=vK.mp (List.mem_of_getLast? e);rwa[b y a]
  cases e:ps[i]? with
  | none=>unfold dB gq;rw[e];rwa[dV.none]
  | some p=>
   let⟨l,f⟩:=p;cases f with
   | hold n=>rw[DG e];rwa[c]
   | ring x n=>rw[DH e];rwa[c]
   | rise x v n=>rw[DI e];rwa[(DY (n:=0) dV.int dV.int).mono ⋯]
   | side xs=>
    rw[DJ W e];exact dV.tup λd j=>by
     let⟨y,a,rfl⟩:=vK.mp j;rwa[b y a]
   | row xs=>rw[Ey W e];rwa[g]
   | again k x=>rw[XE W e];rwa[g]
noncomputable def lz(ls:L4)(ps:N2)(gs:L5)(E:L0)(t:Int):PyData:=if gs∘(⇑ps-1)<=t then .none else dB ls ps gs (gY ls ps gs E t) (⇑ps-1) t
def I0{E:L0}{t:Int}(W:eI ls ps)(a:1<=⇑ps):dV 61 (lz ls ps gs E t):=by
 unfold lz;split
 .exact dV.none
 .have:=W.nI;rwa[(MX W).mono ⋯]
def KidsP(H:Hp)(xs:List OE)(F:Nat->Int->PyData)(Y:List nR):Prop:=∀y∈Y,DV H (iq xs [some (y.1:Int),y.2.2.2]) (fy F y)
end
def E8{ls:L4}{ps:N2}{gs:L5}{g:L1}(N:Sn ls ps gs g){i:Nat}{t:Int}{nm:Str}{f:Fm}(a:ps[i]?⊂(nm,f))(l:0<=t)(c:(∃xs,f = .row xs)\/∃k x,f = .again k x):fu gs t (cP ps gs i)≠[]:=by
 have d:=(vx.mp a).1;have m:=N.g1 i d;obtain⟨j,r,e⟩:∃(j:Nat) (r:List Pc),cP ps gs i=(j,1,0)::r:=by
  unfold cP;rw[a];rcases c with⟨xs,rfl⟩ | ⟨k,x,rfl⟩
  .cases ei:cX ps (.row xs)with
   | nil=>
    have h:=(N.s.ln i _ a).2 0 (by show(0:Int)=_;dsimp only;rw[ei];rfl);lia
   | cons j r=>
    erw[j,cU gs r (0+gs∘j),?_];show cU gs (cX ps (.row xs)) 0=_;rw[ei];rfl
  .exact#[_,_,rfl]
 rw[e];unfold fu;have b:dS gs t (j,1,0)⊂(j,0,ov gs t (j,1,0),if ov gs t (j,1,0)<1 then some (t-0-ov gs t (j,1,0)*gs∘j)else none):=by
  unfold dS;rw[vd l]
 rw[filterMap_cons,b];rwa[λz=>nomatch z]
def AR{C G:Prop}(a:C->G)(b:(C->G)->G):G:=b a
def IK{a:Type}{l:List a}{d:a}(h:l≠[]):∃x,l.getLast?⊂x/\l[⇑l-1]?⊂x:=by
 erw[l.getLast h,List.getLast?_eq_some_getLast h,?_];rw[<-List.getLast?_eq_getElem?];rwa[List.getLast?_eq_some_getLast h]
theorem C1{H:Hp}:∀{xs:N4} {ds:List PyData} {v:V} {d:PyData},ig H xs ds->DV H v d->ig H (xs++[v]) (ds++[d])
 | _,_,_,_,.nil,k=>.cons k .nil
 | _,_,_,_,.cons a r,k=>.cons a (C1 r k)
theorem EH{H:Hp}:∀{xs:N4} {ds:List PyData} {i:Nat} {d:PyData},ig H xs ds->ds[i]?⊂d->∃v,xs[i]?⊂v/\DV H v d
 | _,_,i,_,.nil,h=>by simp at h
 | _,_,0,_,.cons a r,h=>by
  simp at h;subst h;rwa[_,rfl,a]
 | _,_,i+1,_,.cons a r,h=>by
  let⟨v,b,c⟩:=EH r #v[h];rwa[v,#v[b],c]
theorem BV{H:Hp}:∀{xs:N4} {ds:List PyData},ig H xs ds->⇑xs=⇑ds
 | _,_,.nil=>rfl
 | _,_,.cons _ r=>by rw[vQ,vQ,BV r]
inductive hU(P:Program)(w:World)(C:Addr)(vs:N4)(H:Hp)(Q:VK)(xk:XK):Prop
 | mk (a l d z) (ls:L4) (ps:N2) (gs hs E) (st:L5) (xs i t):vs=[.ref a,.ref l,.ref d,.int (i:Nat),.int t]->c8 C H a z ls ps gs E->Sn ls ps gs hs->H l⊂(.lst (st.map V.int))->⇑st=⇑ls->ie P w H d xs->i<⇑ps->0<=t->t<gs∘i->KidsP H xs (dB ls ps gs st) (fu gs t (cP ps gs i))->(∀(v:V) (H':Hp),cj H H'->DV H' v (dB ls ps gs st i t)->Q v H')->hU P w C vs H Q xk
inductive hQ(C:Addr)(vs:N4)(H:Hp)(Q:VK)(xk:XK):Prop
 | mk (a z ls) (ps:N2) (gs hs E t):vs=[.ref a,.int t]->c8 C H a z ls ps gs E->Sn ls ps gs hs->0<=t->t<=gs∘(⇑ps-1)->(∀(v:V) (H':Hp),cj H H'->DV H' v (lz ls ps gs E t)->Q v H')->hQ C vs H Q xk
noncomputable def lO(st:Addr)(L t:Int):List (Str×V):=cE "now" (.int t) (cE "last" (.int L) (cE "stage" (.ref st) []))
def kh{st:Addr}{L t:Int}:(lO st L t).lookup ("stage" : Str)=↥st:=(Jo ∅).trans ((Jo ∅).trans Zp)
def K4{st:Addr}{L t:Int}:(lO st L t).lookup ("last" : Str)= ~~~L:=(Jo ∅).trans Zp
def Zo{st:Addr}{L t:Int}:(lO st L t).lookup ("now" : Str)= ~~~t:=Zp
def C3{st:Addr}{L t u:Int}:cE "now" (.int u) (lO st L t)=lO st L u:=by
 have a:¬(("stage" : Str) = "now"):=by trivial
 have b:¬(("last" : Str) = "now"):=by trivial
 have c:¬(("stage" : Str) = "last"):=by trivial
 unfold lO;simp only[cE,if_neg a,if_neg b,if_neg c,if_true]
def zk{st:Addr}{L t:Int}{m:Str}(a:¬m = "now")(b:¬m = "last")(c:¬m = "stage"):(lO st L t).lookup m=none:=(Jo a).trans ((Jo b).trans ((Jo c).trans rfl))
structure dP(CM CS:Addr)(H:Hp)(m st:Addr)(z:Sa)(ls:L4)(ps:N2)(gs:L5)(E:L0)(t:Int):Prop where
 ob:∃dx,H m⊂(.ins CM dx (lO st (gs∘(⇑ps-1)) t))
 sg:c8 CS H st z ls ps gs E
 ne:m≠st
def c8.but{o:Addr}{H H':Hp}{m st:Addr}{z:Sa}{ls:L4}{ps:N2}{gs:L5}{E:L0}{C r:Addr}{fs:List (Str×V)}(l:H m⊂.ins C r fs)(s:m≠st)(A:c8 o H st z ls ps gs E)(k:∀c u,c≠m->H c⊂u->H' c⊂u):c8 o H' st z ls ps gs E:=by
 have n:∀{c:Addr} {f:N4},H c⊂.tup f->H' c⊂(.tup f):=λh=>k _ _ (λz=>by rw[z,l]at h;cases h) h
 have d:∀{c:Addr} {f:N4},H c⊂.lst f->H' c⊂(.lst f):=λh=>k _ _ (λz=>by rw[z,l]at h;cases h) h
 erw[A.ob.imp λr h=>k _ _ (Ne.symm s) h,k _ _ (λz=>by have:=A.hd;rw[z,l]at this;cases this) A.hd,d A.hf,d A.ho,cp.mono A.fo λa p h=>kW.mpr (lU.dU (λZ Z e=>n e) (kW.mp h)),d A.hs,d A.hl,A.el,cp.mono A.ea λa e ⟨g,i,j⟩=>#[g,d i,cp.mono j λb q h=>n h],A.eo,d A.hp,cp.mono A.pa λa e ⟨g,i,j⟩=>#[g,d i,cp.mono j λb q h=>n h]]
def dP.same{a b:Addr}{H H':Hp}{m st:Addr}{z:Sa}{ls:L4}{ps:N2}{gs:L5}{E:L0}{t:Int}(A:dP a b H m st z ls ps gs E t)(s:cj H H'):dP a b H' m st z ls ps gs E t:=#[A.ob.imp λc h=>s _ _ h,A.sg.same s,A.ne]
def dP.but{a b:Addr}{H H':Hp}{m n st:Addr}{z:Sa}{ls:L4}{ps:N2}{gs:L5}{E:L0}{t:Int}{C d:Addr}{fs:List (Str×V)}(A:dP a b H m st z ls ps gs E t)(e:H n⊂.ins C d fs)(f:m≠n)(g:n≠st)(k:∀c u,c≠n->H c⊂u->H' c⊂u):dP a b H' m st z ls ps gs E t:=#[A.ob.imp λd h=>k _ _ f h,A.sg.but e g k,A.ne]
inductive iV(CM CS:Addr)(vs:N4)(H:Hp)(Q:VK)(xk:XK):Prop
 | mk (m st z ls) (ps:N2) (gs hs E t):vs=[.ref m]->dP CM CS H m st z ls ps gs E t->Sn ls ps gs hs->0<=t->t<gs∘(⇑ps-1)->(∀(l:Addr) (H':Hp),(∀c u,c≠m->H c⊂u->H' c⊂u)->H l=none->dP CM CS H' m st z ls ps gs E (t+1)->H' l⊂(.lst ((dD ps gs (t+1)).map V.str))->Q (.ref l) H')->iV CM CS vs H Q xk
inductive gU(CM CS:Addr)(vs:N4)(H:Hp)(Q:VK)(xk:XK):Prop
 | mk (m st z ls) (ps:N2) (gs E t b):vs=[.ref m,.int b]->dP CM CS H m st z ls ps gs E t->0<=b->b<=gs∘(⇑ps-1)->(∀(H':Hp),(∀c u,c≠m->H c⊂u->H' c⊂u)->dP CM CS H' m st z ls ps gs E b->Q .dj H')->gU CM CS vs H Q xk
inductive iO(CM CS:Addr)(vs:N4)(H:Hp)(Q:VK)(xk:XK):Prop
 | mk (m st z ls ps gs E t):vs=[.ref m]->dP CM CS H m st z ls ps gs E t->Q (.int t) H->iO CM CS vs H Q xk
inductive eX(CM CS:Addr)(vs:N4)(H:Hp)(Q:VK)(xk:XK):Prop
 | mk (m st z) (ls:L4) (ps:N2) (gs hs E t):vs=[.ref m]->dP CM CS H m st z ls ps gs E t->Sn ls ps gs hs->0<=t->t<=gs∘(⇑ps-1)->(∀(l:Addr) (H':Hp),cj H H'->H l=none->H' l⊂(.lst ((cS ls ps gs E t).map V.int))->⇑(cS ls ps gs E t)=⇑ls->Q (.ref l) H')->eX CM CS vs H Q xk
inductive iU(CM CS:Addr)(vs:N4)(H:Hp)(Q:VK)(xk:XK):Prop
 | mk (m st z ls) (ps:N2) (gs hs E t):vs=[.ref m]->dP CM CS H m st z ls ps gs E t->Sn ls ps gs hs->0<=t->t<=gs∘(⇑ps-1)->(∀(v:V) (H':Hp),cj H H'->DV H' v (lz ls ps gs E t)->Q v H')->iU CM CS vs H Q xk
inductive iS(CM CS:Addr)(vs:N4)(H:Hp)(Q:VK)(xk:XK):Prop
 | mk (m st z) (ls:L4) (ps:N2) (gs hs E t):vs=[.ref m]->dP CM CS H m st z ls ps gs E t->Sn ls ps gs hs->0<=t->t<=gs∘(⇑ps-1)->(∀(r l:Addr) (v:V) (H':Hp),cj H H'->H' r⊂(.tup [.int t,.ref l,v])->H' l⊂(.tup ((cS ls ps gs E t).map V.int))->⇑(cS ls ps gs E t)=⇑ls->DV H' v (lz ls ps gs E t)->Q (.ref r) H')->iS CM CS vs H Q xk
noncomputable def oD(ls:L4)(ps:N2)(gs:L5)(E:L0)(t:Int):PyData:=.tuple [.int t,.tuple ((cS ls ps gs E t).map PyData.int),lz ls ps gs E t]
def Eg{H:Hp}{ls:L4}{ps:N2}{gs:L5}{E:L0}{t:Int}{r l:Addr}{v:V}(a:H r⊂(.tup [.int t,.ref l,v]))(b:H l⊂(.tup ((cS ls ps gs E t).map V.int)))(c:DV H v (lz ls ps gs E t)):DV H (.ref r) (oD ls ps gs E t):=
 .tup a (.cons (.int _) (.cons (.tup b (kS _)) (.cons c .nil)))
def LN{n:Nat}(ks:L5):dV (n+1) (.tuple (ks.map PyData.int)):=(dV.tup (n:=0) λd a=>by
 let⟨i,q,rfl⟩:=vK.mp a;rwa[dV.int]).mono ⋯
def Hv{n:Nat}(ks:L5):dV (n+1) (.list (ks.map PyData.int)):=(dV.lst (n:=0) λd a=>by
 let⟨i,q,rfl⟩:=vK.mp a;rwa[dV.int]).mono ⋯
def II{ls:L4}{ps:N2}{gs:L5}{E:L0}{t:Int}(W:eI ls ps)(a:1<=⇑ps):dV 62 (oD ls ps gs E t):=
 dV.tup (n:=61) (forall_mem_cons.mpr #[dV.int.mono (va _),forall_mem_cons.mpr #[LN _,forall_mem_cons.mpr #[I0 W a,λq h=>nomatch h]]])
def cN.dU{H H':Hp}{b pl i:Addr}{d e:L7}{ls:L4}{ps:N2}(B:cN H b pl i d e ls ps)(f:∀c xs,H c⊂.tup xs->H' c⊂.tup xs)(g:∀c xs,H c⊂.lst xs->H' c⊂.lst xs):cN H' b pl i d e ls ps:=
 #[f _ _ B.t,g _ _ B.l,B.la.mono λa x h=>f _ _ h,g _ _ B.p,B.pa.mono λa x h=>dh.dU f h]
def Dg{L:L8}{names:L8}{fs:List Fn}{M:L1}{gs:L5}{E:L0}(X:lX L names fs M gs E)(b:1<=⇑fs)(t:Int):dD (cg names fs) gs t=eV names fs gs (⇑fs-1) t:=by
 have a:⇑fs<=61:=by have:=X.nF;lia
 have h:=Ii (j:=⇑fs-1) (t:=t) X.D X.mj X.nd X.j0 X.l8 a ⋯;rw[show ⇑fs-1+1=⇑fs by lia,v5,show ⇑fs=⇑gs from X.D.gl.symm,v5]at h;rw[h,X.D.gl]
def My{H:Hp}{L:L8}{names:L8}{fs:List Fn}{gs:L5}{E:L0}{a:L7}{h:L5}(f:1<=gs∘(⇑fs-1)){u:Nat}(i:(u:Int)<=gs∘(⇑fs-1))
  (R:cp (gL H L) a (eM L names fs gs E (⇑fs-1) h++[(cJ (E.getD (⇑fs-1) []) h,[])])):∃b,a[u]?⊂b/\gL H L b (eD L names fs gs E (⇑fs-1) (u:Int) h,eV names fs gs (⇑fs-1) (u:Int)):=by
 have d:=R.1;rw[vn,Jp]at d;have d:⇑a=(gs∘(⇑fs-1)).toNat+1:=d;obtain⟨b,e⟩:∃b,a[u]?⊂b:=#[_,vz ⋯]
 erw[b,e,R.2 u b _ e ?_];by_cases c:(u:Int)<gs∘(⇑fs-1)
 .rw[vB (by rw[Jp];lia)];rwa[ZV c]
 .have g:(u:Int)=gs∘(⇑fs-1):=⋯
  rw[vC (by rw[Jp];lia),Jp,show u-(gs∘(⇑fs-1)).toNat=0 by lia,g,Q0,yO f];rfl
def gL.m5{H H':Hp}{L:L8}{a:Addr}{x:L5×L8}(k:∀(c:Addr) (u:HO),(∀C d fs,u≠.ins C d fs)->H c⊂u->H' c⊂u)(r:gL H L a x):gL H' L a x:=by
 let⟨d,w,b,⟨g,h,o,e⟩,f⟩:=r;rwa[d,w,k _ _ (λq q q z=>nomatch z) b,#[g,h,o,k _ _ (λq q q z=>nomatch z) e],k _ _ (λq q q z=>nomatch z) f]
def Dl(CM CS NB:Addr):Sp:=λvs H Q xk=>∃(m st:Addr) (z:Sa) (ls:L4) (ps:N2) (gs:L5) (E:L0) (t b:Int),vs=[.ref m,.int b]/\dP CM CS H m st z ls ps gs E t/\(b<0\/gs∘(⇑ps-1)<b)/\xk (.ref NB) none H
structure iE(H:Hp)(z:Sa):Prop where
 d:H z.d=none
 f:H z.f=none
 o:H z.o=none
 s:H z.s=none
 l:H z.l=none
 p:H z.p=none
 la:∀a∈z.la,H a=none
 pa:∀a∈z.pa,H a=none
def iE.less{H H':Hp}{z:Sa}(N:iE H' z)(s:cj H H'):iE H z:=
 #[none_of s N.d,none_of s N.f,none_of s N.o,none_of s N.s,none_of s N.l,none_of s N.p,λa h=>none_of s (N.la a h),λa h=>none_of s (N.pa a h)]
def c8.zy{s:Addr}{g H H':Hp}{c st:Addr}{z:Sa}{ls:L4}{ps:N2}{gs:L5}{E:L0}{xs ys:N4}(A:c8 s H st z ls ps gs E)(N:iE g z)(v:g c⊂.lst xs)(t:H c⊂.lst ys)(k:∀b u,b≠c->H b⊂u->H' b⊂u):c8 s H' st z ls ps gs E:=by
 have r:∀{b:Addr} {xs:N4},H b⊂.tup xs->H' b⊂(.tup xs):=λh=>k _ _ (λz=>by rw[z,t]at h;cases h) h
 have d:∀{b:Addr} {u:HO},g b=none->H b⊂u->H' b⊂u:=λn h=>k _ _ (λz=>by rw[z,v]at n;cases n) h
 erw[A.ob.imp λw h=>k _ _ (λz=>by rw[z,t]at h;cases h) h,d N.d A.hd,d N.f A.hf,d N.o A.ho,cp.mono A.fo λa p h=>kW.mpr (lU.dU (λZ Z e=>r e) (kW.mp h)),d N.s A.hs,d N.l A.hl,A.el,#[A.ea.1,λi a e f o=>?_],A.eo,d N.p A.hp,#[A.pa.1,λi a e f o=>?_]]
 .let⟨j,l,m⟩:=A.ea.2 i a e f o;rwa[j,d (N.la a (vm f)) l,cp.mono m λb q h=>r h]
 .let⟨j,l,m⟩:=A.pa.2 i a e f o;rwa[j,d (N.pa a (vm f)) l,cp.mono m λb q h=>r h]
def dP.zy{a d:Addr}{e H H':Hp}{c m st:Addr}{z:Sa}{ls:L4}{ps:N2}{gs:L5}{E:L0}{t:Int}{xs ys:N4}(A:dP a d H m st z ls ps gs E t)(N:iE e z)(g:e c⊂.lst xs)(f:H c⊂.lst ys)(k:∀b u,b≠c->H b⊂u->H' b⊂u):dP a d H' m st z ls ps gs E t:=
 #[A.ob.imp λi h=>k _ _ (λz=>by rw[z,f]at h;cases h) h,A.sg.zy N g f k,A.ne]
inductive hI(C:Addr)(vs:N4)(H:Hp)(Q:VK)(xk:XK):Prop
 | mk (a dx b pl pp las pas ls ps gs hs):vs=[.ref a,.ref b]->H a⊂(.ins C dx [])->cN H b pl pp las pas ls ps->Sn ls ps gs hs->(∀(z:Sa) (E:L0) (H':Hp),(∀c u,c≠a->H c⊂u->H' c⊂u)->c8 C H' a z ls ps gs E->iE H z->Q .dj H')->hI C vs H Q xk
inductive hH(CM CS:Addr)(vs:N4)(H:Hp)(Q:VK)(xk:XK):Prop
 | mk (m dx bx l f) (las das:L7) (ls ks gs hs):vs=[.ref m,.ref bx]->H m⊂(.ins CM dx [])->H bx⊂(.tup [.ref l,.ref f])->H l⊂(.lst (las.map V.ref))->cp (fI H) las ls->H f⊂(.lst (das.map V.ref))->lI H das ks->mI ls ks->Sn ls (gN ls ks) gs hs->(∀(st:Addr) (z:Sa) (E:L0) (H':Hp),(∀c u,c≠m->H c⊂u->H' c⊂u)->H st=none->dP CM CS H' m st z ls (gN ls ks) gs E 0->iE H z->Q .dj H')->hH CM CS vs H Q xk
def iI{K:cG}{t x:Value}{l:L9}(h:PySem.W.kitOne K t x⊂false)(r:PySem.W.kitAny K t l⊂false):PySem.W.kitAny K t (x::l)⊂false:=by
 unfold PySem.W.kitAny;rw[h];rwa[r]
inductive fS(CM CS:Addr)(vs:N4)(H:Hp)(Q:VK)(xk:XK):Prop
 | mk (m st z ls) (ps:N2) (gs hs E t b):vs=[.ref m,.int b]->dP CM CS H m st z ls ps gs E t->Sn ls ps gs hs->0<=t->t<=gs∘(⇑ps-1)->(b<0\/gs∘(⇑ps-1)<b)->(∀H',cj H H'->Q (.bl true) H')->fS CM CS vs H Q xk
inductive gJ(CM CS:Addr)(vs:N4)(H:Hp)(Q:VK)(xk:XK):Prop
 | mk (m st l ra pl z) (las ras:L7) (ls) (ps:N2) (gs hs E t ws):vs=[.ref m,.int t,.ref l,.ref pl]->dP CM CS H m st z ls ps gs E t->Sn ls ps gs hs->0<=t->t<=gs∘(⇑ps-1)->H l⊂(.lst (ras.map V.ref))->fi (ras.map V.ref) t=↥ra->gL H (cb ls) ra (cS ls ps gs E t,ws)->H pl⊂(.lst (las.map V.ref))->cp (fI H) las ls->(∀H',cj H H'->Q (.bl true) H')->gJ CM CS vs H Q xk
def KN(H H':Hp):Prop:=∀(c:Addr) (u:HO),(∀C d fs,u≠.ins C d fs)->H c⊂u->H' c⊂u
def KN.of{H H':Hp}(s:cj H H'):KN H H':=λc u q h=>s c u h
def KN.trans{H d H':Hp}(a:KN H d)(b:KN d H'):KN H H':=λc u n h=>b c u n (a c u n h)
def KN.one{H H':Hp}{m C a:Addr}{fs:List (Str×V)}(b:H m⊂.ins C a fs)(k:∀c u,c≠m->H c⊂u->H' c⊂u):KN H H':=λc u n h=>k c u (λe=>by rw[e,b]at h;cases h;rwa[n _ _ _ rfl]) h
def KN.l{H H':Hp}{c:Addr}{xs:N4}(k:KN H H')(h:H c⊂.lst xs):H' c⊂(.lst xs):=k _ _ (λq q q z=>nomatch z) h
def KN.t{H H':Hp}{c:Addr}{xs:N4}(k:KN H H')(h:H c⊂.tup xs):H' c⊂(.tup xs):=k _ _ (λq q q z=>nomatch z) h
def KN.seq{K:cG}{H H':Hp}{a:Addr}{xs:N4}(e:KN H H')(h:cm K H a xs):cm K H' a xs:=by
 rcases h with(h | ⟨o,h⟩) | h
 .exact .inl (.inl (e.l h))
 .exact .inl (.inr #[o,e _ _ (λq q q z=>nomatch z) h])
 .exact .inr h
def KN.bk{H H':Hp}{b pl d:Addr}{a c:L7}{ls:L4}{ps:N2}(k:KN H H')(B:cN H b pl d a c ls ps):cN H' b pl d a c ls ps:=B.dU (λq q h=>k.t h) λq q h=>k.l h
structure FG(ls:L4)(ps:N2)(gs:L5)(hs:L1)(E:L0)(L:Int)(R:Nat->L5×L8):Prop where
 N:Sn ls ps gs hs
 l:gs∘(⇑ps-1)=L
 r:∀u:Nat,(cS ls ps gs E u,dD ps gs u)=R u
noncomputable def oJ(ls:L4)(names:L8)(fs:List Fn)(gs:L5)(EE:L0)(u:Nat):L5×L8:=(eD (cb ls) names fs gs EE (⇑fs-1) u (ls.map (·.2)),eV names fs gs (⇑fs-1) u)
def E7{ls:L4}{names:L8}{fs:List Fn}{M:L1}{gs:L5}{h:L0}(N:Sn ls (cg names fs) gs M)(X:lX (cb ls) names fs M gs h)(i:1<=⇑fs)(q:⇑ls<=8){ms:L6}(K:Kept ls (cg names fs) ms) :
  ∃a b,mI ls (de (cW ls (cg names fs)) ms)/\Sn ls (gN ls (de (cW ls (cg names fs)) ms)) a b/\∀E,⇑E=⇑(gN ls (de (cW ls (cg names fs)) ms))->di ls (gN ls (de (cW ls (cg names fs)) ms)) E->FG ls (gN ls (de (cW ls (cg names fs)) ms)) a b E (gs∘(⇑fs-1)) (oJ ls names fs gs h):=by
 have W:=N.s.w;have m:⇑(cg names fs)=⇑fs:=j3;have O:=Bf W ⋯;have f:=Ef O q K;have l:=OF f W.ln;have g:=NV W ⋯ K;have p:⇑(de (cW ls (cg names fs)) ms)=⇑ms:=WW _ _;let⟨⟨c,n,o⟩,Z⟩:=K.named O;have w:⇑(gN ls (de (cW ls (cg names fs)) ms))=⇑ms:=(yF _ _).trans p;let⟨a,b,d,e⟩:=NW N g ⋯ l;let⟨F,j,k⟩:=Ly (names:=names) X.D X.mj X.nd X.j0;erw[a,b,f,d,λE r s=>#[d,by rw[e,m],λu=>?_]];let⟨t,v⟩:=HE N d g (E:=F) (F:=E) j r k s u;rw[t,v,LQ X i j k,Dg X i];rfl
end Rm
namespace L2
inductive dY(a0 a1:Prop):Prop | mk:a0->a1->dY a0 a1
inductive mO(a0 a1 a2:Prop):Prop | mk:a0->a1->a2->mO a0 a1 a2
inductive fH(a0 a1 a2 a3:Prop):Prop | mk:a0->a1->a2->a3->fH a0 a1 a2 a3
inductive mP(a0 a1 a2 a3 a4:Prop):Prop | mk:a0->a1->a2->a3->a4->mP a0 a1 a2 a3 a4
inductive i3(a0 a1 a2 a3 a4 a5:Prop):Prop | mk:a0->a1->a2->a3->a4->a5->i3 a0 a1 a2 a3 a4 a5
inductive rM(a0 a1 a2 a3 a4 a5 a6:Prop):Prop | mk:a0->a1->a2->a3->a4->a5->a6->rM a0 a1 a2 a3 a4 a5 a6
inductive tq(a0 a1 a2 a3 a4 a5 a6 a7 a8:Prop):Prop | mk:a0->a1->a2->a3->a4->a5->a6->a7->a8->tq a0 a1 a2 a3 a4 a5 a6 a7 a8
inductive pT(a0 a1 a2 a3 a4 a5 a6 a7 a8 a9 a10 a11 a12 a13:Prop):Prop | mk:a0->a1->a2->a3->a4->a5->a6->a7->a8->a9->a10->a11->a12->a13->pT a0 a1 a2 a3 a4 a5 a6 a7 a8 a9 a10 a11 a12 a13
inductive dW{α0:Type}(p:α0->Prop):Prop | mk (x0) (h:p x0):dW p
inductive gM{α0 α1:Type}(p:α0->α1->Prop):Prop | mk (x0 x1) (h:p x0 x1):gM p
inductive i5{α0 α1 α2:Type}(p:α0->α1->α2->Prop):Prop | mk (x0 x1 x2) (h:p x0 x1 x2):i5 p
inductive lK{α0 α1 α2 α3:Type}(p:α0->α1->α2->α3->Prop):Prop | mk (x0 x1 x2 x3) (h:p x0 x1 x2 x3):lK p
inductive oh{α0 α1 α2 α3 α4:Type}(p:α0->α1->α2->α3->α4->Prop):Prop | mk (x0 x1 x2 x3 x4) (h:p x0 x1 x2 x3 x4):oh p
inductive tu{α0 α1 α2 α3 α4 α5:Type}(p:α0->α1->α2->α3->α4->α5->Prop):Prop | mk (x0 x1 x2 x3 x4 x5) (h:p x0 x1 x2 x3 x4 x5):tu p
inductive rN{α0 α1 α2 α3 α4 α5 α6:Type}(p:α0->α1->α2->α3->α4->α5->α6->Prop):Prop | mk (x0 x1 x2 x3 x4 x5 x6) (h:p x0 x1 x2 x3 x4 x5 x6):rN p
inductive pj{α0 α1 α2 α3 α4 α5 α6 α7:Type}(p:α0->α1->α2->α3->α4->α5->α6->α7->Prop):Prop | mk (x0 x1 x2 x3 x4 x5 x6 x7) (h:p x0 x1 x2 x3 x4 x5 x6 x7):pj p
inductive rO{α0 α1 α2 α3 α4 α5 α6 α7 α8:Type}(p:α0->α1->α2->α3->α4->α5->α6->α7->α8->Prop):Prop | mk (x0 x1 x2 x3 x4 x5 x6 x7 x8) (h:p x0 x1 x2 x3 x4 x5 x6 x7 x8):rO p
inductive pU{α0 α1 α2 α3 α4 α5 α6 α7 α8 α9:Type}(p:α0->α1->α2->α3->α4->α5->α6->α7->α8->α9->Prop):Prop | mk (x0 x1 x2 x3 x4 x5 x6 x7 x8 x9) (h:p x0 x1 x2 x3 x4 x5 x6 x7 x8 x9):pU p
end L2
def L2.dQ(a:sc.kind = .function:=by rfl)(b:sc.isCoroutine=false:=by rfl)(c:sc.isGenerator=false:=by rfl)(d:N.Nodup:=by trivial)(e:N.take ⇑P=P:=by rfl)(f:∀x∈P,sc.names.lookup x⊂.local\/sc.names.lookup x⊂.cell:=by trivial)(g:∀y∈sc.names,y.2≠.free:=by trivial):L2.cn N P sc:=#[a,b,c,d,e,f,g]
structure PySem.W.Fast:Prop where
  (tw9796524405576097336 tw11786797597139331036 tw4634992333278644771 tw16224722164157864031 tw6826027835916747041 tw4543945006599509181 tw1582391975125787842 tw9764850886681768477 tw14765260991354245734 tw4204881776268734144 tw6362655442745551715 tw7717332067982644372 tw14060539409014854659 tw14164963408078196324 tw15569741450138733190 tw534088858720831083 tw958582350405678884 tw16574631420129279411 tw6136765583300539459 tw13205803924685926316 tw17211640469228602316 tw12361077798209251270 tw14758736102422206459 tw11194021207193396244 tw15038922767742103869 tw16641597089722469087 tw18082249102541580963 tw9589966911939993182 tw12829805603599239042 tw8691152498857031733 tw11439949880852278076 tw2865765933492071015 tw9208318484323541410 tw8990789469894894778 tw10487806624744214143 tw11589994962450246517 tw14145213014106740302 tw12123598299274766930 tw13005965322036428167 tw16802718361295493479 tw11028387969834435944 tw14403963236408512401 tw13164587816622613417 tw3425424812953412476 tw12262729310815887179 tw11618530482495414165 tw18269571945265908812 tw12131339080071450613 tw6031574111684721244 tw303274933930995340 tw4534471327354818940 tw6441285029321505071 tw7635726384121273114 tw2834322995434296738 tw11093567387375707646 tw48429497011869307 tw25825818202370481 tw939176211552301761 tw9380612971240306457 tw2954140515072758744 tw2783910528565103139 tw2672085773564743505 tw13442706780948053373 tw2948667873520040849 tw9413501580374302639 tw11226229185213149084 tw9284745507660600312 tw12006714166826187923 tw10183585174376539569 tw1339317937947627935 tw8573655440531139607 tw16687507601326683132 tw3543417180375128534 tw10357467774892461609 tw681935419812188487 tw14062754278767177219 tw8832562884559864069 tw1434277019217359590 tw15950033121588705923 tw7249919762821187965 tw2878356901468920589 tw4931299334844476913 tw6403416420546642636 tw13603662621407576107 tw5038980406726399612 tw2507366159130870168 tw11790292677575952348 tw12967215854201908254 tw3142393114875442898 tw18075245231074988040 tw10729539793038044741 tw5103318568276087422 tw15722409671545873757 tw6186030129952816861 tw2034393623820387830 tw10138524679595497988 tw3495982287629579796 tw932696349620279005 tw9008999414303084539 tw13045855711735099033 tw10687864209357777287 tw7585386759096989532 tw12524917328776454254 tw2858629791584251638 tw8026785584445738714 tw11022207700544656463 tw14144124907444583682 tw12198977074752692575 tw4455091659611608084 tw3509065480648882801 tw17736564017827752795 tw9330263514870956740 tw11417720889074890178 tw17791744756411977745 tw12578686070126980889 tw6342975332372977328 tw12563842886449977360 tw5026435793312681051 tw18418840431636047817 tw14372361355853316424 tw17100570222124839761 tw2306195174574100297 tw17789502177269482640 tw3106778276268534655 tw594484141557127097 tw829574353990270152 tw10326182454692359231 tw4804627107618246091 tw4750320109546048450 tw9854124601254469881 tw8187837572773853415 tw10450127304782794711 tw2642730517015072289 tw3416271584199023335 tw13157516623820475584 tw1972378999127969647 tw5776151857343213344 tw13821606454682359612 tw13237065265439929492 tw14593520865889842264 tw11980387707167453304 tw11265391762710675639 tw12040127752817206399 tw4267278623472691916 tw17718048810420378564 tw14856178415109298108 tw15582130516932351677 tw14222203968062300060 tw13001191912186598440 tw3431086122608544899 tw6496383688787008510 tw13189760970865257564 tw8779228996951962632 tw853107672457001434 tw4060594210510416739 tw10889567415511971042 tw14616666831978056193 tw15848242669285112988 tw2021475942964267985 tw4346278906111729395 tw4107816975205294104 tw13406159815499307161 tw1074306144845771831 tw7733607599684862976 tw11249326332802277262 tw359545536337642128 tw6900783791931869659 tw1637647837035240600 tw10366502005567651066 tw12086750407883921877 tw9423153312200487021 tw10679795330300717929 tw7160928071285017934 tw10234520568873537020 tw17131402681936582536 tw3697255770390096666 tw3683567925535730060 tw4504793731722730528 tw4081410309421168804 tw1457270460371496903 tw11185133454811885936 tw11320969418958146313 tw4223006804495777099 tw9885363500417662216 tw4267522279589062834 tw17352419711009976920 tw13133661993093507239 tw4900066869916532238 tw11969834418000293463 tw4123933899289843760 tw2988834563213728378 tw6526000042482466570 tw8729538640004018020 tw12037839120208006077 tw7533064649543443022 tw6534569759284441461 tw694914243206013855 tw17692867902129064384 tw13838348747234702045 tw2154678329001722285 tw3969193181663203326 tw7544395185049014632 tw16892486029328611088 tw5176454058210300396 tw6373346548137440359 tw4836646890349393905 tw8821312829731390038 tw8077921025063631167 tw7467847018527934678 tw5496944913846495218 tw3589208309165107807 tw14552362531173947599 tw14523636239150710850 tw9566848640775840852 tw15201510712789600157 tw14444150013094242775 tw69475807530015171 tw5063626282979975710 tw17604249057356398124 tw17578054246337691733 tw1565934795222286832 tw8581417118271770929 tw4009620828523423369 tw8937518711866211009 tw11353853191610556016 tw8494208272170622808 tw10808306742117466631 tw5110576423779106685 tw9037817741308925124 tw1089379103960171156 tw6374596629685023295 tw9793085505378092584 tw2044488076768347554 tw3059930955917787537 tw3642606971647144727 tw4472565004049130044 tw323572042386995637 tw10786486846199208902 tw771493725812643322 tw4934681788153146820 tw1638324982646725848 tw1513183399259312245 tw2505321009805022387 tw16651983501264192029 tw7523572196226627431 tw10056198883092316185 tw14267702653303446796 tw3501152108901284524 tw299758797066957911 tw11171079364666910314 tw4692623185321956930 tw2217490972683967690 tw4447235564601648036 tw2648360261742194370 tw7852026508943641336 tw12392272791602732540 tw6077264197542608405 tw8807946050222643471 tw9350406829825239769 tw7922588296437412904 tw5060347625664075707 tw16497288797217603907 tw2598425566722625267 tw16594248101671666086 tw17900311513728708903 tw130969863650988149 tw12819497376170491810 tw14422404411463453448 tw4727262932851979235 tw10451860126786179983 tw4665234500918372356 tw4919860875347002522 tw10447711995622957672 tw8044165504859961783 tw16900667953248606761 tw5696057077055842193 tw14003671143017731237 tw12999901322924859677 tw8926158688012521558 tw3404331409316474995 tw15798864352785712385 tw9283489650851970185 tw16764121682227598346 tw5319448355768112346 tw6103617770905254565 tw2235786570581087581 tw4811289707330175013 tw17586773612783573125 tw12167906929304413922 tw6104181058630951194 tw11791674326027623803 tw691775758707935139 tw437245013237150760 tw882612452073599499 tw3011720464895156963 tw9752400315064104147 tw15395714304369599047 tw16229388073070707939 tw13109351587768789952 tw13210766686981760748 tw13031617822277155045 tw4368998788971411311 tw1154771620215715107 tw2566615322693454115 tw7584115218707823758 tw16414172564456005416 tw13493955324394902994 tw3309873408926294848 tw3017117234863953719 tw4726334667571476627 tw16237906341811577841 tw15414100369520034158 tw12895773686170822027 tw12934526651417217795 tw13294970584594328731 tw3129375179057746362 tw6591324591754952980 tw14569125356535847587 tw14434494734384129609 tw2683661576418741829 tw17222325128511561374 tw4100430766861867038:True)
namespace L2
open PySem PySem.Spec PyProof.Rows
structure fg(K:cG)(mg:Nw)(x:Str)(st:Stmt)(f:Addr)(d:FuncData)(ps:L8):Prop where
  F:fF K x x st f d
  m:mg x=↥f
  B:Binds K d ps []
def jq{X:Cx}{x:Str}{st:Stmt}{f:Addr}{d:FuncData}{ps:L8}{j k:Nat}{sp:Sp}{e:Expr}{es:Nt}{p a:Pos}{t:TA}(D:fg X.K X.mg x st f d ps)(F:eB X.prog X.w X.K X.mg X.base pQ j f d ps sp)(n:dF k X.A)(g:PA X (e::es) t)(m:j<=k:=by decide)(l:Gl X x:=by rfl)(b:(x==("__debug__" : Str))=false:=by decide)(i:starEach (e::es) X.env=(false,eval e X.env)::starEach es X.env:=by rfl)(c:(backTo a (starEach es X.env)).any (·.1)=false:=by rfl):PE X (.Call (.Name x p) (e::es) [] a) (oO sp [] E0 t):=Kj (F.mono m) n l D.m D.F.kp D.B .nil dn g b i c
end L2
set_option hygiene false
local macro_rules | `(tactic| rotate_right $n) => do
  let k:=n.getNat
  if k<100 then Lean.Macro.throwUnsupported
  let a<-`(some _)
  let b<-`(none)
  let xs:=Array.replicate (k/100) a++Array.replicate (k%100) b
  `(tactic| (refine L2.jB (S':=[$xs,*]) rfl ?_;try dsimp only[L2.dG,L2.Cx.kb]))
set_option hygiene true
local macro_rules | `(tactic| specialize $e) => do
  let i:=λ(k:String)=>Lean.mkIdent (Lean.Name.mkSimple k)
  `(tactic| (refine $e (fun $(i "vs") $(i "H") $(i "Q") $(i "E") $(i "h")=>?_) (fun $(i "cdv") $(i "A") $(i "outer") $(i "s") $(i "H") $(i "vs") $(i "Q") $(i "E") $(i "hr") $(i "h")=>?_);(focus cases $(i "h"):ident;subst_vars;rfl);have $(i "sz"):ident:(10000:Nat)<PySem.sizeLine:=by decide))
def Rm.cu{b:Bool}{A B:Prop}(h:B)(e:b=false:=by trivial):if b=true then A else B:=Rm.fC e h
def Rm.cT{b:Bool}{A B:Prop}(h:A)(e:b=true:=by trivial):if b=true then A else B:=Rm.lF e h
namespace K43
def kdD:Array (List Char):=(("=70; arfl =700 =70² =70. ajd =702 =701 =70< =D0& =70F a2 a~4 a3 a5 a4 a~2 bj4 =¥0` =A0O bpv bjg =§0ů ajG a1 a6 =g0Ƶ =Ȋ0& =80ȗ =¼0( cjb =Ŭ0ɍ =¦1ů =ą0ĸ =º2` a7 ajE.nd =A1A =70j =H0O =V1? =З0ȸ =ș0Ț =70Ā dcI =H2? =R0ǂ dju a!book ajS.nd =ƪ3ơ =Ʃ2Ʈ =Ñ0ǔ =D0* =70Í b[ =Џ0ɗ =º2C =Ô0Ĵ c[ =¦1C =¦1» =50: =D0= =Л0Й =80V =70ā dji ahr a!found a8 a!_law_j =ȉ3C =М0Ǚ =Ò1( =J3O =О0ì =80[ a!form ajY.nd azM.nd =ȶ0« =Ñ0ǂ =Ì0ȑ =Р03 bzn a.nil a!_law_names a!_law_some =Ò1: =º2» =Ö1O =ȉ3` =У0& =¥0» bjH cja bjK aQu adn aJt.nd =ț0h =ĵ3Ó =ą0Ƶ =K0Ù =Ó1µ ==0' =§0C a0 ezG aZU ccY awK aJm.nd m[ a!_law_rows =ȭ2h =¦1` =R0ǔ =Ñ0Ź =D0% =Ь0ɐ =u0# =Ū0ƥ =Э0ʥ ==0> =Ю0ɯ =ƪ3Ȝ ahr.units azJ.nd a[ bjW aZY.nd bku bPW.pt a10 a13 a15 bkx =R2( =U0ƫ =Ќ0ű =ȫ0$ =Г13 =Ƣ18 =И0² =ȥ0/ =}0, =U2( =ȓ3ʎ =Ȓ0B =Ú0ń =v0½ =д0Ȟ =е0ʩ =]2& =50) ==0# =J4H =U0ö =и4h =R0ƈ =80Ƨ =A18 bwe ayt b:i a!number a!name f[ a!row a!moves aQG.nd a!inside aqH.nd aQb.nd ay6 aJJ.nd aJ1.nd a!_law_movers a!_law_kind a!_law_used a!_law_at a!_law_twice a!_law_form_here aJ0.nd a9 a11 a!_law_book_here a!_law_heights aJa.nd =g2( =¬29 =R1R =Ȕ0Ɏ =ƨ0& =ķ1Z =Ć3µ =~3# =р0_ =­0' =­0& =}0¾ =K1ġ =с0Ǚ =U29 =º2a =D0' =ʝ0Æ =ч0ì =ш0ɷ =R0Ħ =R0Ź =80ɦ =70Į =g1# d[ a!limbs aY0.nd aY8 i[ cYu aT.WD akK azm aZb.nd aT.jQ e< aQr.nd a!_law_name ctU bxa a12 a16 a!_law_limb aT.QT aQw =Ų0µ =ū4ų =J4? =ŭ1ȩ =Т0Z ajp a!other dWm aT.ZO aT.QL axJ aT.qQ aAh ayJ aYM.nd aq4 fAm aY7 aT.Ao aX0 a!part h[ a!length cWi bYR aT.Ap aX1 cZx aJS.nd a!_law_one bAk aWt a!_law_known aQ3.nd a!_law_pool a!_law_bounds a!_law_times a!_law_many aJT.nd aT.zr aGa aT.zq aFY aqI.nd a!_law_runs a!_law_now a!_law_words a!_law_behind a!_law_there jKj aZG.nd aT.jI aqJ.nd aT.qR awX =Ћ1$ =ĳ2ĳ =Ѝ1Ȳ =Ȧ0ȧ dBZ ajc azp.nd aPassesOwn.never cjA aJe aT.ZJ aGb dW7 ayU.nd ayV.nd aJc a!height aZa dBE aT.Ca aT.We aIA a!limb a!left bBD ckr bKQ aT.B9 aBw bKP ayK a!sizes jBj aBA fW9 aT.Zv bW3.mono aT.Z0 cQ1 bxh aT.zO axH aWE aT.B8 aBv a14 bBz ayW.nd aT.zL aT.Zd aKM cBy bBC aT.Wd aIz =Ȗ0Ƭ =ɛ2Ʈ =Ȑ6Ķ =ɉ0$ =Ъ0ˋ =Ğ1ğ =Ы0« =б1Ŧ djO ejt aj5 a~0 aFe ajw awc b:ow b:ci a!parts a~3 aT.Yo ajv b:v aT.kc aGu aT.CQ aXa a!forms a!kept a!anew a!place dqG aT.Xb aT.XF aj7 dDL aFq akC.nd a!numbers aAz axj.nd aT.Bn aMM ejr ayd.nd ayx aqk aT.ke aGw b^1 cE6 aT.Xx ajP aFd j[ a!_law_number azI aT.jN aFZ aQA cXd aT.Yb aFX aT.yC axG aWF aQz aT.qw.m aT.qw.F.kp aT.qw.B bWG a!_law_inner a!_law_more ayT.nd e[ a!begin a!over a!rest ayz eEb aT.Zu bkq.mono aT.ZI aT.yY bwS.mono aT.y9 bwR.mono aXc a!_law_machine a!_law_beat a!_law_limbs a!_law_due eEu aT.xU bY3.mono aT.WZ aT.Zc aPySem.F.slot_list_clear aPySem.F.type_list_clear aDC aT.yZ bwU.mono aT.Ya aT.Z1 aW6 =Ȱ13 =ɼ1$ =ɖ5C =ȋ0ł =É0Ȍ =В0ȣ =E2& =Ж0ư =Ɛ1ʐ =Ñ0¨ =Ŏ1ʍ =в1ƴ =ɱ0$ bck bjz aMP b:K aK bJx a~1 fj6 aJW aT.yE aZj hJL fcq.of bcf aZW bJ3 b^5 d< dj2 aJZ fj9 cJA fzV ejq aIC dMU fjD aG2 aT.JQ aJk bGK aZP dJM czH aQd aNa eqG b.ref at.Qs aT.X5 fMT dI9 aMZ a~5 dHV bNp dNc bxE aT.EA aMN fjo b.inr aT.xN aGU gGB ajU aQl aWn a!box a!names cYW dqj aT.xR aGW gJ2 aq5 aq7 ajM aWo dqP aPySem.F.slot_dict_update aPySem.F.type_dict_update aHL bGJ bX6 aPySem.F.slot_dict_items aPySem.F.type_dict_items aIp aWp bOq ayv a!move azX aT.DM aIB aT.kF axI aT.wB aGd aYy gNl b.inl aOa aZX aT.wC aGe dya a!self aT.xO aGV aT.wD aGf cJh aT.Lj bKf.mono aT.Io aT.Kw aT.xM aGS aMQ cNA aPySem.F.slot_list_pop aPySem.F.type_list_pop aOl aPySem.F.slot_list_extend aPySem.F.type_list_extend aHJ aT.CK aHR dYz aset_list jyL bQB dHX aN9 aT.Kb bKg.mono aT.Kx dOD fLK aPySem.F.excBase_ValueError aT.yA aHm lYY azW bwd aPySem.F.slot_list_index aPySem.F.type_list_index aHK aGg dNf aT.Gy aKq.nd aT.JE axF aT.Y6 aW5 aT.Jr awV aT.yf aKi aT.ye aKh aT.wy aFW aQD a!_law_run_here bMW aOz bwW.mono bNat.le_succ_of_le ahrl aT.QK.m aT.QK.F.kp aT.QK.B ayR axB aT.zi.m aT.zi.F.kp aT.zi.B aNb bMV bQD.mono bNat.le_succ aT.qw aNQQ aT.EB aMO aT.Y2 bY4.mono aT.ka a!stage a!starts a!gone a!pins iIY b:P aP b:w aw aID aT.xT aGz bNJ eEw aT.xS aGX izF aT.wP bwT.mono aT.Ww kM0 aT.FU bMo jMj bwb.mono at.Wf aT.IW at.X2 aT.MD at.X3 aT.ME at.X4 aT.MF at.kL aT.Hk at.kM aT.HF at.kN aT.HG at.kP aT.HH at.Wg aT.IX at.YQ aT.GR at.yG aT.Gp at.jX fMS b.ty a!ValueError aT.XY axD azo aYL.nd aT.wO bwQ.mono aT.Wv bG3 aT.wx aFV aT.wA aF0 dHU =Ȩ2Ƴ =Ȫ1$ =l2ȳ =ȍ2ə =Ў1ɘ =Ȣ4Ƴ =А3$ =Б2$ =ȝ4C =ȡ3Ȏ =Д2$ =Е1Ʊ =ȷ1( =µ1Ū =ƶ0Ȼ =Ⱥ3$ =К13 =ȏ1ǚ =Ɉ3Ƥ =Н2$ =ɓ2C =П1ľ =ƣ6× =С4Ø =ɶ2$ =Ģ7ˎ =Ф6i =Х5r =Ц4ˍ =Ч3Ň =Ш2ó =Щ1ˌ =Ȭ4$ =Ʀ1ɑ =E1ʦ =Ñ1( =˛7© =Я6z =а4h =Õ2ȵ =Õ2Ƞ =г1ȟ =ȏ1ʪ =ʏ8C =ж7© =з6z =ƣ6^ =й9Ū =к8; =л7Ū =м6² =н4ɒ =о5/ =п4/ =E1ǚ =ʛ8ȕ =т7$ =у4Ȏ =ф3$ =х2Ʊ =ц1ư =_1S".splitOn " ").map (·.toList)).toArray
def kdA(c:Char):Nat:=let n:=c.toNat;if n<92 then n-35 else if n<127 then n-36 else if n<768 then n-70 else n-326
def kdR:Nat→Nat→Nat
 | 0,_=>0
 | n+1,k=>match kdD[k]! with
  | ['=',p,_,c]=>kdR n (kdA p)+kdR n (kdA c)-1
  | c::_=>c.toNat-97
  | _=>0
open Lean in
def kdM(Z:Array Term):Nat→Nat→Array Term→MacroM Term
 | 0,_,_=>Macro.throwUnsupported
 | n+1,k,a=>match kdD[k]! with
  | ['=',p,i,c]=>do
   let i:=i.toNat-48
   let m:=i+kdR 99 (kdA c)
   let x←kdM Z n (kdA c) (a.extract i m)
   kdM Z n (kdA p) (a.extract 0 i++#[x]++a.extract m a.size)
  | _::c::r=>
   let s:=String.ofList r
   match c with
   | '!'=>return Syntax.mkStrLit s
   | '~'=>return Z[s.toNat!]!
   | ':'=>return ⟨mkNode ``Parser.Term.namedArgument [mkAtom "(",mkIdent s.toName,mkAtom ":=",a[0]!,mkAtom ")"].toArray⟩
   | '['=>`([$a,*])
   | '<'=>`(⟨$a,*⟩)
   | '^'=>s.toNat!.foldM (λ_ _ x=>`(fun _=>$x)) a[0]!
   | '.'=>return Syntax.mkApp ⟨mkNode ``Parser.Term.dotIdent [mkAtom ".",mkIdent s.toName].toArray⟩ a
   | _=>return if c.isDigit then Syntax.mkNumLit (String.ofList (c::r)) else Syntax.mkApp (mkIdent (String.ofList (c::r)).toName) a
  | _=>Macro.throwUnsupported
open Lean in
def kdP(Z:Array Term):Nat→List Char→MacroM (Term×List Char)
 | n+1,c::l=>do
  let mut l:=l
  let mut a:=#[]
  for _ in [:kdR 99 (kdA c)] do
   let (x,r)←kdP Z n l
   a:=a.push x
   l:=r
  return (←kdM Z 99 (kdA c) a,l)
 | _,_=>Macro.throwUnsupported
open Lean in
local macro_rules | `(#v[$s:str]) => do return (←kdP [←`(_),←`(by with_unfolding_all rfl),←`(by rfl),←`(∅),←`(nofun),←`(by simp)].toArray 9999 s.getString.toList).1
noncomputable section
set_option hygiene false
local macro_rules | `($n <* $f $as*) => `(eB P w K mg base pQ $n $f $as*)
set_option hygiene true
open PySem L2 Rm
def top(i:Nat):Stmt:=PySem.Challenge.pw_camplay_k43_refused_and_apart.main.body.getD i (.Pass #[0,0,0,0])
open Lean in
local macro_rules | `(#print $s:str) => do
 let c←(s.getString.splitOn ";").mapM λx=>do
  let w:=x.splitOn " "
  let i:=λk=>mkIdent (w.getD k "").toName
  let q:=λk=>Syntax.mkNumLit k
  let l:Array Term:=((w.drop 4).map λs=>Syntax.mkStrLit (s.replace "'" "_law_")).toArray
  let p:=l.extract 0 (w.getD 3 "").toNat!
  let z←match (w.getD 2 "").splitOn "," with
   | [a,b]=>`(inClass (top $(q a)) $(q b))
   | a=>`(top $(q a[0]!))
  return mkNullNode [←`(abbrev $(i 0):ident:Stmt:=$z),←`(def $(i 1):ident:cn [$l,*] [$p,*] (cf $(i 0)):=dQ)].toArray
 return mkNullNode c.toArray
#print "yS zp 16 1 named numbers number one;kz Gi 17 1 form;ZW FN 20 3 form limbs parts;BM Y0 21 1 book limbs numbers known name form;wp yU 22 2 forms drum needed number other;Wn zJ 23 1 book found forms kept limbs anew place number;wt yV 24 1 number name;Za kC 25 1 box limbs names;Wo YM 27 1 book numbers found name form;BL ZY 28 1 book limbs found part inside form left other;Wp xj 29 1 book found left;zX yd 30 3 row moves limbs number limb;YI FO 31 2 form inside;yx QG 32 1 book moves found row inside form length;BN Mq 34 4 start goal beats j;YJ qH 36 3 form inside sizes part later found begin;ZX FP 37 2 book sizes;kA Qb 38 3 pieces sizes gone found part turns begin over rest;xi Zb 40 3 pieces sizes gone found part begin over rest;qk Ko 41,0 2 self book;yc JJ 41,1 2 self beat starts playing todo now limb height;QF Ja 41,2 2 self beat scene heights part gone form limb;ze JS 41,3 2 self beat words part gone form;yz yW 43 5 stage starts inside part gone form found pins;wu ZG 44 2 stage beat scene found part gone;QE Y5 45,0 2 self box;ZC Wb 45,1 1 self;Zz y8 45,2 2 self beat;Zy wY 45,3 1 self;Q2 kB 45,4 1 self;ZB Wa 45,5 1 self;ZA wZ 45,6 1 self;ZD Wc 47 2 'script 'k;yP xK 48 2 'cell 'k;YG FL 49 2 'place 'k;zW J1 50 4 'number 'names 'movers 'kind 'some 'used 'j 'at 'twice;YC Qr 51 5 'number 'names 'movers 'limbs 'bounds 'kind 'more 'beats 'at;zI FK 52 2 'form_here 'known;yQ J0 53 3 'form_here 'names 'movers 'inner 'found 'name 'one;YD Q3 54 3 'names 'known 'most 'some 'total 'name;YE Kq 55 2 'pool 'many 'found;QA Jm 56 5 'pool 'kind 'names 'movers 'bounds 'times 'many 'some 'used 'j 'at 'twice;zg JT 57 5 'pool 'names 'movers 'limbs 'bounds 'kind 'beats 'limb 'some;zf jE 58 3 'script 'many 'bounds 'pool 'place 'limbs 'k 'called 'ended 'names 'movers 'known 'parts 'cell 'own 'form_here 'name;YB jS 59 3 'script 'many 'bounds 'head 'limbs 'k 'height 'names 'movers 'known 'parts 'number 'form_here 'name;Qz jY 60 3 'book_here 'names 'heights 'runs 'rows 'j 'now 'words 'some 'behind 'there 'limb;ZE qI 61 2 'form_here 'heights 'rows 'start 'j 'now;yR Jt 62 3 'book_here 'name 'heights 'form_here 'rows 'inner 'one 'more;YF yT 63 1 'book_here 'rows 'heights;ZF qJ 64 2 'machine 'beat 'error 'kept e;zo YL 65 4 'machine 'beat 'rows 'limbs 'due;Cf zM 66 1 'script 'many 'book_here 'beats 'rows 'far 'machine 'handed 'other 'beat 'there 'wrong"
set_option genInjectivity false in
set_option genSizeOf false in
structure Ad where
 qA:Addr
 qE:FuncData
 Zh:Addr
 Zl:FuncData
 QI:Addr
 QJ:FuncData
 Bo:Addr
 BU:FuncData
 KI:Addr
 KW:FuncData
 XQ:Addr
 AZ:FuncData
 YO:Addr
 YS:FuncData
 KH:Addr
 KU:FuncData
 kI:Addr
 kR:FuncData
 XR:Addr
 Ac:FuncData
 XT:Addr
 A0:FuncData
 zR:Addr
 zT:FuncData
 ZK:Addr
 ZR:FuncData
 KJ:Addr
 KY:FuncData
 XU:Addr
 Ae:FuncData
 ZL:Addr
 ZS:FuncData
 Yn:Addr
 Yt:FuncData
 Zi:Addr
 Zm:FuncData
 WC:Addr
 WK:FuncData
 qc:Addr
 Qm:FuncData
 qN:Addr
 qO:FuncData
 qy:Addr
 qC:FuncData
 Qk:Addr
 Qn:FuncData
 KL:Addr
 K0:FuncData
 KK:Addr
 KZ:FuncData
 JG:Addr
 qB:FuncData
 QR:Addr
 QW:FuncData
 Jj:Addr
 Jl:FuncData
 qS:Addr
 qW:FuncData
 JP:Addr
 JR:FuncData
 QQ:Addr
 QV:FuncData
 QP:Addr
 QU:FuncData
 qd:Addr
 qf:FuncData
 qz:Addr
 qD:FuncData
 zx:Addr
 zD:FuncData
 zQ:Addr
 zS:FuncData
 Yl:Addr
 Yq:FuncData
 zu:Addr
 zB:FuncData
 QS:Addr
 QX:FuncData
 zt:Addr
 zA:FuncData
 zw:Addr
 zC:FuncData
 Z4:Addr
 Z7:FuncData
 zb:Addr
 zd:FuncData
 za:Addr
 zc:FuncData
 Yk:Addr
 Yp:FuncData
 Z3:Addr
 Z6:FuncData
 qT:Addr
 qX:FuncData
 qU:Addr
 qY:FuncData
 Ym:Addr
 Yr:FuncData
 Zg:Addr
 Zk:FuncData
 Z5:Addr
 Z8:FuncData
 tZ:Addr
 sX:FuncData
 jF:Addr
 jC:Addr
 jX:Addr
 wF:Addr
 kP:Addr
 kN:Addr
 kM:Addr
 kL:Addr
 X4:Addr
 X3:Addr
 X2:Addr
 Wf:Addr
 yG:Addr
 YQ:Addr
 Wg:Addr
 XJ:Value
 Qs:Addr
class Txt(K:cG)(mg:Nw)(t:Ad):Prop where
 QL:fg K mg "numbers_of" yS t.qA t.qE ["named"]
 kc:fg K mg "names_in" kz t.Zh t.Zl ["form"]
 ZJ:fg K mg "form_with" ZW t.QI t.QJ ["form","limbs","parts"]
 EA:fg K mg "made" BM t.Bo t.BU ["book"]
 xN:fg K mg "come_to" wp t.KI t.KW ["forms","drum"]
 Wd:fg K mg "drums" Wn t.XQ t.AZ ["book"]
 xR:fg K mg "name_of" wt t.YO t.YS ["number"]
 xM:fg K mg "book_of" Za t.KH t.KU ["box"]
 We:fg K mg "inner" Wo t.kI t.kR ["book"]
 Bn:fg K mg "ends" BL t.XR t.Ac ["book"]
 DM:fg K mg "moved" Wp t.XT t.A0 ["book"]
 kF:fg K mg "check_side" zX t.zR t.zT ["row","moves","limbs"]
 wB:fg K mg "length_of" YI t.ZK t.ZR ["form","inside"]
 xO:fg K mg "lengths" yx t.KJ t.KY ["book"]
 EB:fg K mg "ramp" BN t.XU t.Ae ["start","goal","beats","j"]
 wC:fg K mg "pieces_in" YJ t.ZL t.ZS ["form","inside","sizes"]
 wD:fg K mg "pieces_of" ZX t.Yn t.Yt ["book","sizes"]
 ke:fg K mg "progress" kA t.Zi t.Zm ["pieces","sizes","gone"]
 CK:fg K mg "within" xi t.WC t.WK ["pieces","sizes","gone"]
 Ky:fF K "__init__" "Stage.__init__" qk t.qc t.Qm
 O4:Meth K t.jF "__init__" t.qc
 Kw:Binds K t.Qm ["self","book"] []
 xA:fF K "scene" "Stage.scene" yc t.qN t.qO
 Zv:Meth K t.jF "scene" t.qN
 Z0:Binds K t.qO ["self","beat"] []
 kg:fF K "heights_at" "Stage.heights_at" QF t.qy t.qC
 Y2:Meth K t.jF "heights_at" t.qy
 ka:Binds K t.qC ["self","beat"] []
 Kz:fF K "words_at" "Stage.words_at" ze t.Qk t.Qn
 Kb:Meth K t.jF "words_at" t.Qk
 Kx:Binds K t.Qn ["self","beat"] []
 xT:fg K mg "pins_of" yz t.KL t.K0 ["stage","starts","inside","part","gone"]
 xS:fg K mg "pins_at" wu t.KK t.KZ ["stage","beat"]
 kf:fF K "__init__" "Machine.__init__" QE t.JG t.qB
 O3:Meth K t.jC "__init__" t.JG
 Zc:Binds K t.qB ["self","box"] []
 WA:fF K "step" "Machine.step" ZC t.QR t.QW
 yZ:Meth K t.jC "step" t.QR
 Ya:Binds K t.QW ["self"] []
 Yd:fF K "jump" "Machine.jump" Zz t.Jj t.Jl
 zL:Meth K t.jC "jump" t.Jj
 Zd:Binds K t.Jl ["self","beat"] []
 Wx:fF K "beat" "Machine.beat" Zy t.qS t.qW
 wO:Meth K t.jC "beat" t.qS
 Wv:Binds K t.qW ["self"] []
 kG:fF K "heights" "Machine.heights" Q2 t.JP t.JR
 Zu:Meth K t.jC "heights" t.JP
 ZI:Binds K t.JR ["self"] []
 Wz:fF K "pins" "Machine.pins" ZB t.QQ t.QV
 wP:Meth K t.jC "pins" t.QQ
 Ww:Binds K t.QV ["self"] []
 Wy:fF K "kept" "Machine.kept" ZA t.QP t.QU
 yY:Meth K t.jC "kept" t.QP
 y9:Binds K t.QU ["self"] []
 Jr:fg K mg "_law_cell_at" ZD t.qd t.qf ["_law_script","_law_k"]
 JE:fg K mg "_law_mixed" yP t.qz t.qD ["_law_cell","_law_k"]
 zr:fg K mg "_law_word" YG t.zx t.zD ["_law_place","_law_k"]
 zO:fg K mg "_law_named" zW t.zQ t.zS ["_law_number","_law_names","_law_movers","_law_kind"]
 wy:fg K mg "_law_form" YC t.Yl t.Yq ["_law_number","_law_names","_law_movers","_law_limbs","_law_bounds"]
 zq:fg K mg "_law_long" zI t.zu t.zB ["_law_form_here","_law_known"]
 yC:fg K mg "_law_moves" yQ t.QS t.QX ["_law_form_here","_law_names","_law_movers"]
 Yb:fg K mg "_law_last" YD t.zt t.zA ["_law_names","_law_known","_law_most"]
 jN:fg K mg "_law_take" YE t.zw t.zC ["_law_pool","_law_many"]
 Y6:fg K mg "_law_naming" QA t.Z4 t.Z7 ["_law_pool","_law_kind","_law_names","_law_movers","_law_bounds"]
 yf:fg K mg "_law_form_told" zg t.zb t.zd ["_law_pool","_law_names","_law_movers","_law_limbs","_law_bounds"]
 ye:fg K mg "_law_book_told" zf t.za t.zc ["_law_script","_law_many","_law_bounds"]
 wx:fg K mg "_law_book" YB t.Yk t.Yp ["_law_script","_law_many","_law_bounds"]
 zi:fg K mg "_law_beside" Qz t.Z3 t.Z6 ["_law_book_here","_law_names","_law_heights"]
 QK:fg K mg "_law_climbed" ZE t.qT t.qX ["_law_form_here","_law_heights"]
 qw:fg K mg "_law_run" yR t.qU t.qY ["_law_book_here","_law_name","_law_heights"]
 wA:fg K mg "_law_told" YF t.Ym t.Yr ["_law_book_here"]
 qR:fg K mg "_law_refused" ZF t.Zg t.Zk ["_law_machine","_law_beat"]
 Z1:fg K mg "_law_stands" zo t.Z5 t.Z8 ["_law_machine","_law_beat","_law_rows","_law_limbs"]
 B7:fg K mg "law" Cf t.tZ t.sX ["_law_script"]
 jQ:mJ K t.jF
 Lj:Mk K t.jF t.qc
 Io:mg "Stage"= ↥t.jF
 Qy:dg K t.jF "limbs"
 zl:dg K t.jF "first"
 JY:dg K t.jF "forms"
 Ji:dg K t.jF "sizes"
 zU:dg K t.jF "left"
 Qa:dg K t.jF "pieces"
 jI:mJ K t.jC
 xU:Mk K t.jC t.JG
 WZ:mg "Machine"= ↥t.jC
 Jz:dg K t.jC "stage"
 qi:dg K t.jC "last"
 Jb:dg K t.jC "now"
 Xx:mg "NoBeat"= ↥t.jX
 FU:mg "PlayError"= ↥t.wF
 HH:mg "NoPins"= ↥t.kP
 HG:mg "NoName"= ↥t.kN
 HF:mg "NoLimb"= ↥t.kM
 Hk:mg "NoBook"= ↥t.kL
 MF:mg "Long"= ↥t.X4
 ME:mg "Idle"= ↥t.X3
 MD:mg "Done"= ↥t.X2
 IW:mg "Broad"= ↥t.Wf
 Gp:mg "TwoHands"= ↥t.yG
 GR:mg "TooLong"= ↥t.YQ
 IX:mg "NoRow"= ↥t.Wg
 yA:W.excIn K t.jX [.type "ValueError",.type "Exception",.type "BaseException",.type "object"] "ValueError.__new__"= true
 yB:lJ K t.jX
 JD:W.exmOne K (.ref t.jX) (.ref t.wF)⊂true
 qr:W.kitOne K (.ref t.jX) (.ref t.kP)⊂false
 qq:W.kitOne K (.ref t.jX) (.ref t.kN)⊂false
 qp:W.kitOne K (.ref t.jX) (.ref t.kM)⊂false
 qo:W.kitOne K (.ref t.jX) (.ref t.kL)⊂false
 Qi:W.kitOne K (.ref t.jX) (.ref t.X4)⊂false
 Qh:W.kitOne K (.ref t.jX) (.ref t.X3)⊂false
 Qg:W.kitOne K (.ref t.jX) (.ref t.X2)⊂false
 qL:W.kitOne K (.ref t.jX) (.ref t.Wf)⊂false
 JK:W.kitOne K (.ref t.jX) (.ref t.yG)⊂false
 JV:W.kitOne K (.ref t.jX) (.ref t.YQ)⊂false
 qM:W.kitOne K (.ref t.jX) (.ref t.Wg)⊂false
 Ju:W.kitOne K (.ref t.jX) (.type "ValueError")⊂true
 qm:W.kitOne K (.ref t.jX) (.ref t.jX)⊂true
 XY:mg "ValueError"= none
 B8:mg "abs"= none
 WD:mg "dict"= none
 ZO:mg "enumerate"= none
 QT:mg "isinstance"= none
 JQ:mg "len"= none
 Yo:mg "list"= none
 Ao:mg "max"= none
 Ap:mg "min"= none
 qQ:mg "range"= none
 Gy:mg "reversed"= none
 CQ:mg "sorted"= none
 B9:mg "sum"= none
 yE:mg "tuple"= none
 Ca:mg "zip"= none
 Xb:mg "FIGURES"= some t.XJ
 XF:RelV (.str "abcdefghijklmnopqrstuvwxyz") t.XJ
 X5:mg "MOST_NAMES"= ↥t.Qs
 Qq:rX K t.Qs [("row",.flat (.int 8)),("side",.flat (.int 4))]
instance:Nonempty Ad:=⟨by constructor<;>rwa[default]⟩
structure Bd where(P:Program)(w:World)(K:cG)(mg:Nw)(base:Heap)(t:Ad)
def gB(b:Bd):Prop:=Txt b.K b.mg b.t->eB b.P b.w b.K b.mg b.base pQ 39 b.t.tZ b.t.sX ["_law_script"] (Pr.hJ b.K)
instance:Nonempty Bd:=⟨#[PySem.Challenge.pw_camplay_k43_refused_and_apart,#[λq q=>0,{strHash:=λq=>0,shareClass:=λq=>0,mergeTok:=id,idOf:=λq=>0,idOfShared:=λq q=>0,followText:=λq=>false,idOfImm:=λq=>0}],[],λq=>none,{},Classical.choice inferInstance]⟩
@[irreducible]noncomputable def cB:Bd:=Classical.epsilon λb=>¬gB b
def P:=cB.P
def w:=cB.w
def K:=cB.K
def mg:=cB.mg
def base:=cB.base
def t:=cB.t
section
variable[T:Txt K mg t]
def Gb:1<*t.QI t.QJ ["form","limbs","parts"] (fP):=by
 specialize T.ZJ.F.ok FN;let⟨a,l,p,g,G,rfl,f,v,q⟩:=h;erw[_,#v["A®RȘ5,ĝŮM$«,³ƭ&y(´P®¤,,gŮM$«',KÅƯ,b:5,ßĊĹ.ȤƦrƲê,ƦrƲĝŮM$«&&"],?_]
 rotate_right 300
 have I:(200:Nat)<sizeLine:=by decide
 cases g with
 | oK r vs=>
  cases v;cases r with
  | false=>
   have c:H a⊂(.tup (.str "hold"::vs)):=f;exists eQ (cL.of c) (iH) ?_;exists cu ?_;exists eQ (cL.of c) (iH) ?_;exists cu ?_;exists eQ (cL.of c) (iH) ?_;exists#[ub,?_];sleep 1;erw[p1,_,rfl,.inr (cL.of t1),rfl,rfl,_,rfl,?_];erw[cu ?_];ac_nf;rwa[q a H1 s1 (s1 _ _ c)]
  | true=>
   have c:H a⊂(.tup (.str "ring"::vs)):=f;exists eQ (cL.of c) (iH) ?_;exists cu ?_;exists eQ (cL.of c) (iH) ?_;exists cu ?_;exists eQ (cL.of c) (iH) ?_;exists#[ub,?_];sleep 1;erw[p1,_,rfl,.inr (cL.of t1),rfl,rfl,_,rfl,?_];erw[cu ?_];ac_nf;rwa[q a H1 s1 (s1 _ _ c)]
 | rise x h n=>
  have c:H a⊂(.tup [.str "raise",x,h,n]):=f;let⟨y,B,rfl⟩:=v;exists cx c ?_;exists cT ?_;exists cx c ?_;exists cx c ?_;erw[Ag B ?_];exists#[ub,?_];sleep 1;exists#[a,_,rfl,cL.of (s1 _ _ c),(by show¬(HT.dO 4 0 (some 2)=0/\HT.dO 4 4 none=4);decide),?_];sleep 2;erw[p1,p2,_,_,rfl,rfl,cL.of (s2 _ _ t1),cL.of t2,(λz=>by cases z),?_,?_,?_]
  .show 2+2<=sizeLine;lia
  .intro z;cases z
  intro Z;sleep 3;rwa[q p3 H3 (s1.trans (s2.trans s3)) t3]
 | again k x=>
  have c:H a⊂(.tup [.str "again",k,x]):=f;let⟨y,B,rfl⟩:=v;exists cx c ?_;exists cu ?_;exists cx c ?_;exists cT ?_;exists cx c ?_;exists cx c ?_;exists cx c ?_;erw[Ag B ?_];exists#[ua,?_];sleep 1;rwa[q p1 H1 s1 t1]
 | many s xs=>
  let⟨j,D,C,J,rfl⟩:=v;cases s with
  | false=>
   let⟨b,c,m⟩:=f;have c:H a⊂(.tup [.str "row",.ref b]):=c;exists cx c ?_;exists cu ?_;exists cx c ?_;exists cu ?_;exists cx c ?_;exists#[ub,?_];sleep 1;erw[p1,_,rfl,.inr (cL.of t1),rfl,rfl,_,rfl,?_];erw[cT ?_];exists cx (s1 _ _ c) ?_;exists cx (s1 _ _ c) ?_;erw[b,rfl,#[_,cL.of (s1 _ _ m)],?_];erw[yg (xs:=xs) (λi e d=>e=j.take i/\H1=d) #[rfl,rfl] ?_ ?_ ?_]
   .rintro i e d _ ⟨rfl,rfl⟩;rwa[cL.of (s1 _ _ m)]
   .rintro i x e d o ⟨rfl,rfl⟩;have F:=(vx.mp o).1;have u:j[i]?⊂j[i]:=vz ⋯;erw[Js (S':=[none,some _]) rfl ?_];exists dR ?_;exists Ag ((C i x _ o u).same s1) ?_;erw[by rw[vi];lia,?_,rfl];rw[take_snoc u]
   rintro e d ⟨rfl,rfl⟩;rw[<-D,v5];erw[⋯,?_];sleep 2;exists#[p2,_,rfl,.inl #[cm.of t2,?_]];sleep 3;exists#[ub,?_];sleep 4;rwa[q p4 H4 (s1.trans (s2.trans (s3.trans s4))) #[p3,t4,s4 _ _ t3]]
  | true=>
   let⟨b,c,m⟩:=f;have c:H a⊂(.tup [.str "side",.ref b]):=c;exists cx c ?_;exists cu ?_;exists cx c ?_;exists cu ?_;exists cx c ?_;exists#[ub,?_];sleep 1;erw[p1,_,rfl,.inr (cL.of t1),rfl,rfl,_,rfl,?_];erw[cT ?_];exists cx (s1 _ _ c) ?_;exists cx (s1 _ _ c) ?_;erw[b,rfl,#[_,cL.of (s1 _ _ m)],?_];erw[yg (xs:=xs) (λi e d=>e=j.take i/\H1=d) #[rfl,rfl] ?_ ?_ ?_]
   .rintro i e d _ ⟨rfl,rfl⟩;rwa[cL.of (s1 _ _ m)]
   .rintro i x e d o ⟨rfl,rfl⟩;have F:=(vx.mp o).1;have u:j[i]?⊂j[i]:=vz ⋯;erw[Js (S':=[none,some _]) rfl ?_];exists dR ?_;exists Ag ((C i x _ o u).same s1) ?_;erw[by rw[vi];lia,?_,rfl];rw[take_snoc u]
   rintro e d ⟨rfl,rfl⟩;rw[<-D,v5];erw[⋯,?_];sleep 2;exists#[p2,_,rfl,.inl #[cm.of t2,?_]];sleep 3;exists#[ub,?_];sleep 4;rwa[q p4 H4 (s1.trans (s2.trans (s3.trans s4))) #[p3,t4,s4 _ _ t3]]
def xJ:1<*t.qA t.qE ["named"] (df):=by
 specialize T.QL.F.ok zp;let⟨l,M,xs,rfl,B,U,R,X,D,q⟩:=h;erw[_,#v["¬;Űëĺ3ĻC&^.Ű0Űè#¾'#"],?_]
 rotate_right 103
 ac_nf;walk_at"f d hd H1 s1 t1";exists#[l,_,rfl,cm.of (s1 _ _ B),?_];erw[kU (xs:=M.map V.ref) (λi p c=>gM λ(m n:N5)=>dY (p=[↥l,↥d,m,n]) (cj H c/\c d⊂(.dK (gA (xs.take i))))) #[_,_,rfl,s1,t1] ?_ ?_ ?_]
 .rintro i p c _ ⟨m,n,rfl,g,f⟩;rwa[cm.of (g _ _ B)]
 .rintro i v p c P L G ⟨m,n,rfl,g,f⟩ J Y;rw[vv]at G;let⟨a,x,rfl⟩:=vg.mp G;have Z:=(vx.mp x).1;have C:xs[i]?⊂xs[i]:=vz ⋯;let⟨r,O⟩:=R i a _ x C;have I:=g.trans J;have o:⇑(xs.take i)=i:=by rw[vi];lia
  erw[JN (cL.of Y) ?_];exists cx (I _ _ O) ?_;erw[d,_,rfl,gw.k (k:=Sum.inr xs[i]) (J _ _ f) (by rw[Iw,o];lia),?_];have S:(Sum.inr xs[i]:Key)∉(gA (xs.take i)).map (·.1):=λz=>by
   rw[XB]at z;let⟨y,W,e⟩:=vK.mp z;have N:y=xs[i]:=Sum.inr.inj e;subst N;let⟨j,F,e⟩:=mem_iff_getElem.mp W;rw[getElem_take]at e;rw[o]at F;rwa[ud e (pairwise_iff_getElem.mp X j i ⋯ ⋯ F)]
  erw[_,_,rfl,λb u h=>(jh (je h hd)).trans (I _ _ h),?_];rw[jy,yw S,take_snoc C,HP,o]
 rintro S' c ⟨m,n,rfl,g,f⟩;rw[vt,U,v5]at f;ac_nf;rwa[q d c g hd f]
def MN:2<*t.Bo t.BU ["book"] (lT):=by
 specialize T.EA.F.ok Y0;let⟨b,pl,pp,a1,a2,l,f,rfl,B,W,n1,q⟩:=h;erw[_,#v["o;Ġ]ļĽ,.Ġë¬0ĠȮ4,^2Ġ1Ġè')ȯÆ%`ČŴŵ*'Ŭȱ%5Ȕȴ$%u'c,L"],?_]
 rotate_right 105
 have a3:=W.nI;have pa:=B.pa.1;have la:=B.la.1;have l8:=W.l8;have R:⇑(cb f)=⇑f:=vt _;exists cx B.t ?_;exists#[pl,a1,cb l,rfl,B.l,by rw[cb,vt];rwa[la],λi a x ea ex=>?_,W.ln,by rw[cb,vt];lia,λd H1 U hd ed=>?_]
 .unfold cb at ex;rw[vv]at ex;let⟨p,ep,rfl⟩:=vg.mp ex;rwa[_,B.la.2 i a p ea ep]
 ac_nf;walk_at"f d2 hd2 H2 s2 t2";exists LG ?_;walk_at"f d3 hd3 H3 s3 t3";have n3:=none_of s2 hd3;have L:=s2.trans s3;have I:d2≠d3:=je t2 hd3;exists cx (L _ _ (U _ _ B.t)) ?_;erw[pp,rfl,#[_,cm.of (L _ _ (U _ _ B.p))],?_];refine JH (xs:=a2.map V.ref) (λi σ v=>i5 λ(Z o5:N5) (xs:List NE)=>fH (σ=[↥b,↥d,↥d2,↥d3,Z,o5]) (cj H1 v) (v d2⊂(.dK (gC ((cb f).take i) (cA (cb l) (cb f) (f.take i)).2))) (v d3⊂(mD P w d3 xs)/\ij v xs (cA (cb l) (cb f) (f.take i)).1))
  #[_,_,[],rfl,L,s3 _ _ t2,t3,#[rfl,λi d h=>by simp[cA]at h]] ?_ ?_ ?_
 .rintro i σ v _ ⟨Z,o5,xs,rfl,C,_⟩;rwa[cm.of (C _ _ (U _ _ B.p))]
 .rintro i x σ v hx ⟨Z,o5,xs,rfl,C,m,D,N⟩;let⟨a,p,rfl,Y,fb,G,hf⟩:=B.pa.cO hx;have hi:=(vx.mp Y).1;have S:=U.trans C;have M:=wJ (cb l) (cb f) i (f.take i) (by rw[vi];lia);have mp:=IQ (H:=v) W Y M.ln (C _ _ ed) m;have F:=N.1;have lk:=M.lk;have O:(cb f)[i]?⊂p.1:=by unfold cb;rw[vv,Y];rfl
  have hk:(Sum.inr p.1:Key)∉(gC ((cb f).take i) (cA (cb l) (cb f) (f.take i)).2).map (·.1):=λz=>by
   rw[XC (by rw[vi,M.ln];lia)]at z;let⟨y,hy,e⟩:=vK.mp z;have e':y=p.1:=Sum.inr.inj e;subst e';let⟨j,hj,e⟩:=mem_iff_getElem.mp hy;rw[vi]at hj;rw[getElem_take]at e;let⟨h2,m⟩:=vx.mp O;rwa[ud (e.trans m.symm) (pairwise_iff_getElem.mp W.pn j i ⋯ h2 ⋯)]
  have nl:⇑(gC ((cb f).take i) (cA (cb l) (cb f) (f.take i)).2)<sizeLine:=by
   rw[Iy (by rw[vi,M.ln];lia),vi];lia
  have et:(cb f).take (i+1)=(cb f).take i++[p.1]:=take_snoc O;have em:cA (cb l) (cb f) (f.take (i+1))=dC (cb l) (cb f) (cA (cb l) (cb f) (f.take i)) p:=by rw[take_snoc Y,qZ]
  rw[et,em];have ll:⇑((cb f).take i)=(cA (cb l) (cb f) (f.take i)).2.length:=by rw[vi,M.ln];lia
  generalize cA (cb l) (cb f) (f.take i)=st at *;erw[JN (cL.of (S _ _ G)) ?_];exists Mh ?_;exists#[d3,xs,rfl,D,?_];exists#[fb,d,d2,_,_,rfl,kW.mp (cw.same S hf),mp,λc H4 o gc=>?_];exists#[d3,xs,rfl,o _ _ D,?_];ac_nf;have r:=N.dU λb xs h=>o b (.tup xs) h
  let⟨f1,f2⟩:=r.found (d:=mX (cb l) (cb f) st.2 p.2) M.nd;erw[xs,c,_,_,rfl,o _ _ D,r.nat,EM gc,⋯,λp' a0=>?_,λhn=>?_]
  .let⟨hm,hv⟩:=f1 p' a0;rw[hv];exists#[d2,_,rfl,gw.k (k:=Sum.inr p.1) (o _ _ m) nl,?_];unfold dC;dsimp only;rw[vd hm];erw[_,_,xs,rfl,λc u h=>(jh (je h hd2)).trans ((C.trans o) _ _ h),?_,(jh I.symm).trans (o _ _ D),r.dU λb xs h=>(jh (JC h (o _ _ m) (λz=>by cases z))).trans h];rw[jy,yw hk,XD ll];rfl
  .have hm:=f2 hn;exists#[d2,_,rfl,gw.k (k:=Sum.inr p.1) ((jh I).trans (o _ _ m)) nl,?_];unfold dC;dsimp only;rw[vc hm];have tk:∀b ys,H4 b⊂.tup ys->upd (upd H4 d3 (mD P w d3 (xs++[(kD (mX (cb l) (cb f) st.2 p.2),c,.int (⇑xs:Nat))]))) d2 (.dK (putK (gC ((cb f).take i) st.2) (Sum.inr p.1) (.int (⇑xs:Nat)))) b⊂(.tup ys):=λb ys h=>(jh (JC h (o _ _ m) (λz=>by cases z))).trans ((jh (JC h (o _ _ D) (λz=>by cases z))).trans h)
   erw[_,_,xs++[(kD (mX (cb l) (cb f) st.2 p.2),c,.int (⇑xs:Nat))],rfl,λc u h=>(jh (je h hd2)).trans ((jh (je h n3)).trans ((C.trans o) _ _ h)),?_,(jh I.symm).trans jy,?_]
   .rw[jy,yw hk,XD ll,F];rfl
   .rw[F];rw[F]at tk;rwa[(r.dU tk).snoc (lU.dU tk gc)]
 rintro S' v ⟨Z,o5,xs,rfl,C,m,D,N⟩;rw[vt,pa,v5]at m N;rw[<-R,v5]at m;have S:=U.trans C;exists#[d3,xs,rfl,D,?_];walk_at"f l5 hl5 H5 s5 t5";ac_nf;have J:=S.trans s5;let⟨a,ha,fb,G,hf⟩:=B.pa.get (i:=⇑f-1) (x:=f[⇑f-1]) (vz ⋯);erw[cx (J _ _ B.t) ?_];exists cz (cm.of (J _ _ B.p)) (EC (n:=⇑f) n1 (by rw[vt];rwa[pa]) (by rw[vv,ha];rfl)) ?_;exists cx (J _ _ G) ?_;have M:=wJ (cb l) (cb f) ⇑f f rfl;have g:du H5 d2 (.str f[⇑f-1].1) (some (vN ((cA (cb l) (cb f) f).2.getD (⇑f-1) 0))):=by
  have g:=du.k (k:=Sum.inr f[⇑f-1].1) (s5 _ _ m);rw[DD (j:=⇑f-1) (R.trans M.ln.symm) W.pn (by unfold cb;rw[vv,vz ⋯];rfl)]at g;rwa[g]
 erw[d2,_,rfl,g,?_];exists#[ub,?_];sleep 6;have X:=s5.trans s6;rwa[q p6 l5 (xs.map λq=>q.2.1) H6 (S.trans X) t6 (by rw[v7];rwa[s6 _ _ t5]) (lI.of (N.dU λb xs h=>X _ _ h))]
def Gu:1<*t.Zh t.Zl ["form"] (fY):=by
 specialize T.kc.F.ok Gi;let⟨a,g,rfl,d,q⟩:=h;erw[_,#v["AKÅȹ,dȼȽ,?ŶÙ³ƭ&y(´¥ů"],?_]
 rotate_right 100
 have f:(200:Nat)<sizeLine:=by decide
 cases g with
 | oK r vs=>
  cases r with
  | false=>
   have c:H a⊂(.tup (.str "hold"::vs)):=d;exists eQ (cL.of c) (iH) ?_;exists#[_,_,_,rfl,rfl,T.Qq,?_];exists cu ?_;exists eQ (cL.of c) (iH) ?_;exists cu ?_;exists#[va _,?_];walk_at"f b hb H1 s1 t1";rwa[q b H1 s1 t1]
  | true=>
   have c:H a⊂(.tup (.str "ring"::vs)):=d;exists eQ (cL.of c) (iH) ?_;exists#[_,_,_,rfl,rfl,T.Qq,?_];exists cu ?_;exists eQ (cL.of c) (iH) ?_;exists cu ?_;exists#[va _,?_];walk_at"f b hb H1 s1 t1";rwa[q b H1 s1 t1]
 | rise x h n=>
  have c:H a⊂(.tup [.str "raise",x,h,n]):=d;exists cx c ?_;exists#[_,_,_,rfl,rfl,T.Qq,?_];exists cu ?_;exists cx c ?_;exists cu ?_;exists#[va _,?_];walk_at"f b hb H1 s1 t1";rwa[q b H1 s1 t1]
 | again k x=>
  have c:H a⊂(.tup [.str "again",k,x]):=d;exists cx c ?_;exists#[_,_,_,rfl,rfl,T.Qq,?_];exists cu ?_;exists cx c ?_;exists cT ?_;exists#[a,_,rfl,cL.of c,(by show¬(HT.dO 3 0 (some 2)=0/\HT.dO 3 3 none=3);decide),?_];walk_at"f b hb H1 s1 t1";rwa[q b H1 s1 t1]
 | many s xs=>
  let⟨b,c,e⟩:=d;cases s with
  | false=>
   have c:H a⊂(.tup [.str "row",.ref b]):=c;exists cx c ?_;exists#[_,_,_,rfl,rfl,T.Qq,?_];exists cT ?_;exists cx c ?_;rwa[q b H (cj.refl _) e]
  | true=>
   have c:H a⊂(.tup [.str "side",.ref b]):=c;exists cx c ?_;exists#[_,_,_,rfl,rfl,T.Qq,?_];exists cT ?_;exists cx c ?_;rwa[q b H (cj.refl _) e]
def GU:2<*t.KI t.KW ["forms","drum"] (lS):=by
 specialize T.xN.F.ok yU;let⟨f,a0,o,e,rfl,ef,dr,D,tl,a2,q⟩:=h;erw[_,#v["¬.ŷȾȿ#ġɀ$$Ɂ/ɂ3ľ»#LLµ0ŷeɃɄ«%'8¯ê]ƷƸ=&%2ŷè')ġlɅ$ƹƺ'"],?_]
 rotate_right 203
 have fl:=dr.1;exists Mg λd hd=>?_
 exists#[jy,[(iK e,.bl true)],rfl,(by show 1<=15;decide),?_];rw[Mz];have O:cj H (upd H d (.dK (cR [] [(iK e,.bl true)]))):=Wr hd rfl;have e0:upd H d (.dK (cR [] [(iK e,.bl true)])) d⊂(.dK [(iK e,.bl true)]):=jy;generalize upd H d (.dK (cR [] [(iK e,.bl true)]))=H0 at O e0|-;exists#[(e:Int),-1,rfl,#[⋯,⋯,⋯,⋯],?_];have en:((e:Int) - -1).toNat=e+1:=⋯
 rw[en];refine IF (λi r R=>lK λ(o3 p:N5) (m:List (Key×V)) (S:L6)=>fH (r=[↥f,some (vN e),↥d,o3,p]) (cj H R) (R d⊂.dK m) (KySet m S/\lH o e i S))
  #[_,_,_,[e],rfl,O,e0,#[rfl,by simp],#[λx v=>by rw[vo.mp v];rwa[.top],vo.mpr rfl,λy Z hi=>ud hi (by rw[vo.mp Z];lia)]] ?_ ?_
 .rintro i r R hi ⟨o3,p,m,S,rfl,F,J,C,G⟩;obtain⟨y,Z⟩:∃y:Nat,(e:Int)-(i:Int)=(y:Int):=#[e-i,⋯]
  have yi:y+i=e:=⋯
  rw[Z];have yk:o[y]?⊂o[y]:=vz ⋯;let⟨fa,Y,X⟩:=dr.get yk;ac_nf;have g:=du.k (k:=iK y) J;erw[d,_,rfl,g,?_];rw[C.mem];erw[_,rfl,?_];erw[cH (λW=>?_) (λW=>?_)]
  .exists cz (cm.of (F _ _ ef)) (jV (j:=y) (by rw[vv,Y];rfl)) ?_;exists#[fa,_,rfl,X.same F,λb H1 s1 U=>?_];rw[Ow]at U;have eg:o.getD y (.hold 0)=o[y]:=by rw[vy,yk];rfl
   have cy:=G.yes D W yi;rw[eg]at cy;have n8:=D.l8 _ (getElem_mem ⋯:o[y]∈o);erw[b,rfl,#[_,cL.of U],?_];refine Ea (xs:=o[y].ns.map vN) (λj r L=>gM λ(p:N5) (a:List (Key×V))=>mO (r=[↥f,some (vN e),↥d,some (.int (y:Nat)),p]) (∀c u,c≠d->H1 c⊂u->L c⊂u) (L d⊂.dK a/\KySet a (lN S (o[y].ns.take j))))
    #[_,m,rfl,λc u _ h=>h,s1 _ _ J,C] ?_ ?_ ?_
   .rintro j r L _ ⟨p,a,rfl,N,I,B⟩;rwa[cL.of (N _ _ (JC U (s1 _ _ J) (λz=>by cases z)) U)]
   .rintro j x r L v ⟨p,a,rfl,N,I,B⟩;let⟨z,M,rfl,a1⟩:=tV v;have hj:=(vx.mp M).1;have kl:=B.len;have sl:⇑(lN S (o[y].ns.take j))<=e+1:=Bi B.2 λx v=>by
     rcases Zw.mp v with h | h
     .have:=(G.rc x h).le D;lia
     .have:=D.lt y _ yk x (mem_of_mem_take h);lia
    exists#[d,_,rfl,gw.k (k:=iK z) I ⋯,?_];erw[_,_,rfl,λc u n h=>(jh n).trans (N _ _ n h),jy,?_];rw[take_snoc M,GY];rwa[B.put z _]
   rintro r L ⟨p,a,rfl,N,I,B⟩;rw[vt,v5]at B;rwa[_,_,a,_,rfl,λc u h=>N _ _ (je h hd) (s1 _ _ (F _ _ h)),I,B,cy]
  .ac_nf;rwa[_,_,m,S,rfl,F,J,C,G.no W yi]
 rintro r R ⟨o3,p,m,S,rfl,F,J,C,G⟩;have sl:⇑S<=e+1:=Bi C.2 λx v=>by have:=(G.rc x v).le D;lia
 exists#[d,m,S.map (λn:Nat=>(n:Int)),rfl,J,by rw[C.1,v7];rfl,by rw[vt];lia,λl ms hl pm od=>?_];let⟨ns,e1,I,e3⟩:=Gj pm od C.2;rw[e1];rwa[q l ns _ (F.trans (Wr hl rfl)) (none_of F hl) jy I λx=>(e3 x).trans G.all]
def Iz:3<*t.XQ t.AZ ["book"] (iP):=by
 specialize T.Wd.F.ok zJ;let⟨b,pl,pp,a5,a6,r,D,rfl,B,W,n1,q⟩:=h;erw[_,#v["J;ÇáɆɇp.ÇD#J0ÇEɊɋ'D#p2ÇɌ$3ƴ3ľCB,Pp1ÇëÓĺ3ĻC%^<ÇFÇè*-+5Ĉ,ķíĞ21.ɏĢSiƻƼğƽƾí4%ĢSiƻƼğƽƾíČŴŵgģM$%&'"],?_]
 rotate_right 107
 have O:=Bf W n1;have a4:=O.se;have tp:=O.tp;have la:=B.la.1;have l8:=W.l8;exists#[b,pl,pp,a5,a6,r,D,rfl,B,W,n1,λtt f a0 H1 s1 et ef dr=>?_];exists cx et ?_;exists cx et ?_;exists#[f,a0,cW r D,iw r D,rfl,ef,dr,O.dw,tp,a4,λl2 ms H2 s2 a8 N m1 m2=>?_];have Z:Kept r D ms:=#[m1,m2]
 have a9:=Z.len O;have nd:=Cc m1;have J:=s1.trans s2;exists OB ?_;exists cx (J _ _ B.t) ?_;erw[_,_,rfl,.inl #[_,cm.of (J _ _ B.l),rfl],?_];rw[vt,la];exists#[⇑r,rfl,⋯,?_];sleep 3;ac_nf;walk_at"f d4 hd4 H4 s4 t4";exists#[l2,_,rfl,cm.of (s4 _ _ (s3 _ _ N)),?_];erw[kU (xs:=ms.map vN) (λi σ F=>gM λ(o6 o7:N5)=>dY (σ=[↥b,↥tt,↥f,↥l2,↥p3,↥d4,o6,o7]) (cj H3 F/\F d4⊂(.dK (ir (ms.take i))))) #[_,_,rfl,s4,t4] ?_ ?_ ?_]
 .rintro i σ F _ ⟨o6,o7,rfl,R,S⟩;rwa[cm.of (R _ _ (s3 _ _ N))]
 .rintro i v σ F T' a7 hx ⟨o6,o7,rfl,R,S⟩ sP tP;let⟨m,C,rfl,I⟩:=tV hx;have hi:=(vx.mp C).1;have tl:⇑(ms.take i)=i:=by rw[vi];lia
  erw[JN (cL.of tP) ?_];exists#[d4,_,rfl,gw.k (k:=iK m) (sP _ _ S) (by rw[Iu,tl];lia),?_];have hk:iK m∉(ir (ms.take i)).map (·.1):=λz=>by
   rw[XA]at z;let⟨y,hy,e⟩:=vK.mp z;have e':=BW e;subst e';let⟨j,hj,e⟩:=mem_iff_getElem.mp hy;rw[tl]at hj;rw[getElem_take]at e;let⟨h2,N⟩:=vx.mp C;rwa[ud (e.trans N.symm) (pairwise_iff_getElem.mp nd j i ⋯ h2 hj)]
  erw[_,_,rfl,λc u h=>(jh (je h hd4)).trans (sP _ _ (R _ _ h)),?_];rw[jy,yw hk,take_snoc C,HN,tl];rfl
 rintro S' H5 ⟨o6,o7,rfl,R,S⟩;rw[vt,v5]at S;have Y:=s3.trans R;have G:=J.trans Y;exists cx (G _ _ B.t) ?_;erw[pl,_,rfl,.inl (cm.of (G _ _ B.l)),?_];sleep 6;have L:=Y.trans s6;have X:=G.trans s6;exists#[l2,rfl,#[_,cm.of (L _ _ N)],?_];erw[Jw (xs:=ms.map vN) (λi ys F=>dW λ(o:L7)=>dY (ys=o.map V.ref) (cj H6 F/\lI F o ((de (cW r D) ms).take i))) #[[],rfl,cj.refl _,.nil] ?_ ?_ ?_]
 .rintro i ys F _ ⟨o,rfl,g,p⟩;rwa[cm.of (g _ _ (L _ _ N))]
 .rintro i x ys F hx ⟨o,rfl,g,p⟩;let⟨m,C,rfl,I⟩:=tV hx;have hi:=(vx.mp C).1;have mt:=Z.lt O I;have mk:(cW r D)[m]?⊂(cW r D)[m]:=vz ⋯;have eg:(cW r D).getD m (.hold 0)=(cW r D)[m]:=by rw[vy,mk];rfl
  let⟨fa,a2,a1⟩:=dr.get mk;have sH:=L.trans g;have U:=getElem_mem ⋯ (l:=cW r D) (n:=m);have gm:=NF (H:=F) (l:=p3) (an:=d4) (n:=⇑r) (ms:=ms) (d:=(cW r D)[m]) (g _ _ (s6 _ _ (R _ _ t3))) (g _ _ (s6 _ _ S)) nd (O.lm _ U) (λj hj=>Z.sub I (by rw[eg];rwa[hj])) (O.dw.l8 _ U);erw[Js (S':=[none,some _,some _,some _]) rfl ?_];exists dR ?_;exists cz (cm.of (sH _ _ (s2 _ _ ef))) (jV (j:=m) (by rw[vv,a2];rfl)) ?_;exists#[fa,p3,d4,_,_,rfl,(a1.same s2).same sH,gm,λc H7 s7 gc=>?_];have dl:=p.1;rw[vi]at dl;erw[by rw[vt];lia,o++[c],by rw[vj];rfl,g.trans s7,?_];rw[take_snoc (x:=sy (λn=>ms.idxOf n) (cW r D)[m]) (by unfold de;rw[vv,C,<-eg];rfl)];rwa[cp.snoc (cp.mono p λa d h=>h.same s7) gc]
 rintro ys F ⟨o,rfl,g,p⟩;have kl:⇑(de (cW r D) ms)=⇑(ms.map vN):=by unfold de;rw[vt,vt]
 rw[<-kl,v5]at p;have dl:=p.1;rw[kl,vt]at dl;erw[by rw[vt];lia,?_];sleep 8;exists#[ub,?_];sleep 9;have aa:=g.trans s8;have M:=s8.trans s9;rwa[q p9 p6 p8 o ms H9 (X.trans (g.trans M)) t9 (M _ _ (g _ _ t6)) (s9 _ _ t8) (none_of G hp6) (none_of (X.trans g) hp8) (je (g _ _ t6) hp8) (cp.mono p λa d h=>h.same M) Z]
def GW:1<*t.YO t.YS ["number"] (Dp):=by
 erw[T.xR.F.ok yV (λl H Q E h=>?_) (λf A e s H l Q E p h=>?_)]
 .let⟨N,rfl,k,q⟩:=h;rfl
 let⟨N,rfl,k,q⟩:=h;erw[_,#v["ĵ;ŸgĿƿ3ǀǁv&ǃűÚǄ&6²Ÿ½&8O;ŸRŀgĿƿ3ǀǁv&##"],?_]
 rotate_right 101
 have r:(200:Nat)<sizeLine:=by decide
 exists#[_,_,_,rfl,rfl,∅,E2 ⋯ ⋯,?_];exists#[λn S' d=>gM λ(a:Nat) (b:Str)=>fH (S'=[some (.int (a:Nat)),some (.str b)]) (d=H) (n=a) ((a<26->b=iz N)/\(26<=a->a=N/\b=⟨#[97+N%26]⟩)),#[N,N,_,rfl,rfl,rfl,λh=>?_,λh=>#[rfl,?_]],?_]
 .unfold iz;rw[vd h,show((N:Int)%26).toNat=N by lia]
 .rw[show((N:Int)%26).toNat=N%26 by lia]
 rintro n S' d ⟨a,b,rfl,rfl,m,g,j⟩;exists cH (λc=>?_) (λc=>?_)
 .let⟨o,rfl⟩:=j ⋯;erw[_,λS' d h=>h,?_];exists#[_,_,_,rfl,rfl,∅,E2 ⋯ ⋯,?_];exists#[_,_,rfl,rfl,(by show 1+1<=sizeLine;lia),?_];erw[a/26,⋯,a/26,_,rfl,rfl,rfl,λh=>?_,λh=>ud h ⋯];unfold iz;rw[vc ⋯,show((a:Int)/26%26).toNat=N/26 by lia];rfl
 .rw[g ⋯];ac_nf;rwa[q]
def GS:2<*t.KH t.KU ["box"] (g9):=by
 specialize T.xM.F.ok kC;let⟨bx,l,f,D,N,ls,y,rfl,L,S,la,R,dr,O,q⟩:=h;erw[_,#v["Pp;ǅčîźÈŻ¿4,¿¿&p.ǅķíÈŻ¿xB,¿áɔɕ5Ĉ,čîr_;.Ż¿ż3Ž`',¿¿5&~Ŵŵ#'%"],?_]
 rotate_right 102
 have a2:=O.se;have l8:=O.l8;have a0:=la.1;have dl:=dr.1;have F:⇑(cb ls)=⇑ls:=vt _;exists cx L ?_;erw[l,rfl,#[_,cm.of S],?_];erw[Jw (xs:=D.map V.ref) (λi m e=>m=((cb ls).take i).map V.str/\H=e) #[rfl,rfl] ?_ ?_ ?_]
 .rintro i m e _ ⟨rfl,rfl⟩;rwa[cm.of S]
 .rintro i x m e hx ⟨rfl,rfl⟩;let⟨a,p,rfl,hp,W⟩:=la.cO hx;have Y:=(vx.mp hp).1;erw[Js (S':=[none,none]) rfl ?_];erw[JN (cL.of W) ?_];exists dR ?_;exists#[by rw[vt,vi];lia,?_,rfl];rw[take_snoc (x:=p.1) (by unfold cb;rw[vv,hp];rfl),vj];rfl
 rintro m e ⟨rfl,rfl⟩;have U:⇑(D.map V.ref)=⇑(cb ls):=by rw[vt,F];rwa[a0]
 rw[U,v5];erw[by rw[vt,F];lia,?_];sleep 1;exists cx (s1 _ _ L) ?_;erw[_,_,rfl,.inl #[_,cm.of (s1 _ _ R),rfl],?_];rw[vt,dl];exists#[_,rfl,⋯,⋯,?_];erw[yH (λi m e=>m=(List.range i).map (λk=>V.str (iz k))/\H1=e) #[rfl,rfl] ?_ ?_]
 .rintro i m e Y ⟨rfl,rfl⟩;rw[show(0:Int)+(i:Nat)=(i:Nat)from uw _];erw[Js (S':=[none]) rfl ?_];exists dR ?_;exists#[i,rfl,⋯,?_];erw[by rw[vt,length_range];lia,?_,rfl];rw[range_succ,vj];rfl
 rintro m e ⟨rfl,rfl⟩;rw[show((⇑y:Nat):Int).toNat=⇑y from Int.toNat_natCast _];erw[by rw[vt,length_range];lia,?_];sleep 2;have o:=s1.trans s2;exists cx (o _ _ L) ?_;erw[l,_,rfl,.inl (cm.of (o _ _ S)),?_];sleep 3;have g:=o.trans s3;exists cx (g _ _ L) ?_;ac_nf;have z:=s3 _ _ t2;erw[p2,f,_,_,rfl,cm.of z,cm.of (g _ _ R),?_];erw[CV (xs:=(List.range ⇑y).map λk=>V.str (iz k)) (zs:=N.map V.ref) (λi m e=>dW λ(b:L7)=>dY (m=b.map V.ref) (cj H3 e/\cp (dh e) b ((gN ls y).take i))) (by rw[vt,vt,length_range];rwa[dl.symm]) #[[],rfl,cj.refl _,.nil] ?_ ?_ ?_]
 .rintro i m e _ ⟨b,rfl,r,_⟩;rwa[cm.of (r _ _ z),cm.of (r _ _ (g _ _ R))]
 .rintro i u v m e T' M hu hv ⟨b,rfl,r,B⟩ sP tP;rw[vv]at hu;let⟨k,Z,rfl⟩:=vg.mp hu;have Y:i<⇑y:=by
   have:=(vx.mp Z).1;rw[length_range]at this;rwa[this]
  rw[List.getElem?_range Y]at Z;cases Z;let⟨a,d,rfl,X,gd⟩:=dr.cO hv;have sA:=r.trans sP;have a1:=g.trans sA;have C:=vm X;have pl:=B.1;rw[vi,yF]at pl;have gm:=M9 (H:=M) (l:=p1) (p:=p2) (ls:=ls) (d:=d) (n:=⇑y) (sA _ _ (s3 _ _ (s2 _ _ t1))) (sA _ _ z) (O.lm d C) (λj hj=>by have:=O.dw.lt i d X j hj;lia) (O.dw.l8 d C);erw[Js (S':=[none,none,some _,some _]) rfl ?_];erw[JN (cL.of tP) ?_];exists dR ?_;exists#[a,p1,p2,_,_,rfl,gd.same a1,gm,λc H4 s4 gc=>?_];exists#[ub,?_];sleep 5;have sB:=sP.trans (s4.trans s5);erw[by rw[vt];lia,b++[p5],by rw[vj];rfl,r.trans sB,?_];rw[take_snoc (Bu X)];rwa[cp.snoc (cp.mono B λa x h=>dh.same sB h) #[c,t5,kW.mpr (gc.same s5)]]
 rintro m e ⟨b,rfl,r,B⟩;have kl:⇑(gN ls y)=⇑((List.range ⇑y).map λk=>V.str (iz k)):=by rw[yF,vt,length_range]
 rw[<-kl,v5]at B;have pl:=B.1;rw[yF]at pl;erw[by rw[vt];lia,?_];sleep 6;exists#[ub,?_];sleep 7;have J:=s6.trans s7;have I:=r.trans J;have G:=g.trans I;rwa[q p7 p3 p6 b H7 G #[t7,I _ _ t3,la.mono λa x h=>G _ _ h,s7 _ _ t6,B.mono λa x h=>dh.same J h] (none_of o hp3) (none_of (g.trans r) hp6) (je (r _ _ t3) hp6)]
def IA:2<*t.kI t.kR ["book"] (fR):=by
 specialize T.We.F.ok YM;let⟨b,pl,pp,a1,I,ls,o,rfl,B,W,q⟩:=h;erw[_,#v["Ap;Ł]ļĽ,Ć.Ł4,^0Ł2Łq'ĊĹ;ɚïSǆiîrê]ƷƸ)ïSǆiîrÀ&'"],?_]
 rotate_right 104
 have a2:=W.nI;have pa:=B.pa.1;exists cx B.t ?_;exists#[pp,I,cb o,rfl,B.p,by rw[cb,vt];rwa[pa],λi a x ea X=>?_,W.pn,by rw[cb,vt];lia,λd H1 J hd ed=>?_]
 .unfold cb at X;rw[vv]at X;let⟨p,ep,rfl⟩:=vg.mp X;let⟨fb,hb,_⟩:=B.pa.2 i a p ea ep;rwa[_,hb]
 exists#[va _,?_];walk_at"f l hl H2 s2 t2";have nl:=none_of J hl;have L:=J.trans s2;exists cx (L _ _ B.t) ?_;erw[pp,rfl,#[_,cm.of (L _ _ B.p)],?_];refine JH (xs:=I.map V.ref) (λi σ f=>i5 λ(m:L7) (O R:N5)=>fH (σ=[↥b,↥d,↥l,O,R]) (cj H1 f) (f l⊂(.lst (m.map V.ref))) ((∀a∈m,H a=none/\a≠l)/\fV f m ((o.take i).map λp=>(cX o p.2).map λj:Nat=>(j:Int))))
  #[[],_,_,rfl,s2,t2,(λa h=>nomatch h),.nil] ?_ ?_ ?_
 .rintro i σ f _ ⟨m,O,R,rfl,v,z,G,C⟩;rwa[cm.of ((J.trans v) _ _ B.p)]
 .rintro i x σ f N ⟨m,O,R,rfl,v,z,G,C⟩;let⟨a,p,rfl,hp,fb,Z,hf⟩:=B.pa.cO N;have hi:=(vx.mp hp).1;have s0:=J.trans v;let⟨wn,w8⟩:=W.f i p hp;have a0:=C.1;rw[vt,vi]at a0;erw[JN (cL.of (s0 _ _ Z)) ?_];exists#[.inl #[rfl,_,cm.of z],?_];exists#[fb,Rm.gF p.2,rfl,kW.mp (cw.same s0 hf),λc D S M=>?_];have M:D c⊂(.tup (p.2.ns.map V.str)):=by rw[M];cases p.2<;>rfl
  erw[c,rfl,#[_,cL.of M],?_];erw[yg (xs:=p.2.ns.map V.str) (λj U f=>U=((p.2.ns.take j).map λx=>(cF (cb o) x:Int)).map V.int/\D=f) #[rfl,rfl] ?_ ?_ ?_]
  .rintro j U f _ ⟨rfl,rfl⟩;rwa[cL.of M]
  .rintro j x U f N ⟨rfl,rfl⟩;rw[vv]at N;let⟨y,Y,rfl⟩:=vg.mp N;have hj:=(vx.mp Y).1;let⟨k,hk,ek⟩:=wn y (vm Y);erw[Js (S':=[none,some _]) rfl ?_];exists dR ?_;ac_nf;have g:du D d (.str y) (some (.int (k:Nat))):=by
    have g:=du.k (k:=Sum.inr y) ((v.trans S) _ _ ed);rw[Yx W.pn ek]at g;rwa[g]
   erw[d,_,rfl,g,?_];erw[by rw[vt,vt,vi];lia,?_,rfl];rw[take_snoc Y,vj,vj,<-jZ W.pn ek];rfl
  rintro U f ⟨rfl,rfl⟩;rw[show(p.2.ns.map V.str).length=⇑p.2.ns from vt _,v5];erw[by rw[vt,vt];lia,?_];sleep 4;have r:=S.trans s4;exists#[l,_,_,rfl,rfl,r _ _ z,by rw[vt];lia,?_];have F:p4≠l:=(je (S _ _ z) hp4).symm;have n4:H p4=none:=none_of (s0.trans S) hp4;erw[m++[p4],_,_,rfl,λc u h=>(jh (je h hl)).trans ((v.trans r) _ _ h),?_,λc n=>?_,?_]
  .rw[jy,vj];rfl
  .rcases vh.mp n with e | e
   .exact G c e
   .rw[vo.mp e];rwa[n4,F]
  .rw[take_snoc hp,vj];erw[cp.snoc (cp.m6 C λc n ks h=>(jh (G c n).2).trans (r _ _ h)) ?_];have eq:List.map (λj:Nat=>(j:Int)) (cX o p.2)=p.2.ns.map λx=>(cF (cb o) x:Int):=by
    unfold cX;rw[v7];rfl
   show upd H4 l _ p4⊂(.lst (List.map V.int (List.map (λj:Nat=>(j:Int)) (cX o p.2))));rw[jh F,t4,eq]
 rintro S' D ⟨m,O,R,rfl,v,z,G,C⟩;rw[vt,pa,v5]at C;ac_nf;rwa[q l m D (J.trans v) nl z (λa ha=>(G a ha).1) C]
def MM:3<*t.XR t.Ac ["book"] (iA):=by
 specialize T.Bn.F.ok ZY;let⟨b,pl,pp,an,au,ls,ps,rfl,B,W,q⟩:=h;erw[_,#v["6;Ê]ļĽ,Ć.Êż3Ž`,ážſ^0Ê2Êo1Ê¾<ÊëHÖ}XƧ+ÀXX¯4)FÊ8ÉȋǇɜɝɞ+Õɟ$Ĥĥ°-q'lɠ$ƹƺŃǇɡɢɣ+'"],?_]
 rotate_right 107
 have aK:=W.nI;have l8:=W.l8;have pa:=B.pa.1;have la:=B.la.1;exists cx B.t ?_;exists#[pl,an,cb ls,rfl,B.l,by rw[cb,vt];rwa[la],λi a x ea ex=>?_,W.ln,by rw[cb,vt];lia,λd H1 s1 hd ed=>?_]
 .unfold cb at ex;rw[vv]at ex;let⟨p,ep,rfl⟩:=vg.mp ex;rwa[_,B.la.2 i a p ea ep]
 exists#[va _,?_];walk_at"f l hl H2 s2 t2";have nl:=none_of s1 hl;have ac:=s1.trans s2;have aD:d≠l:=je ed hl;exists cx (ac _ _ B.t) ?_;exists#[b,pl,pp,an,au,ls,ps,rfl,B.same ac,W,λli am H3 s3 al af aF lia=>?_];ac_nf;have F:=ac.trans s3;have ao:=lia.1;rw[vt]at ao;have aG:li≠l:=λz=>by rw[z,t2]at al;cases al
 erw[pp,li,_,_,rfl,cm.of (F _ _ B.p),cm.of af,?_];have a9:∀{c u},H c⊂u->c≠l:=λh=>je h nl
 have t3:H3 l⊂(.lst []):=s3 _ _ t2;refine LV (xs:=au.map V.ref) (ys:=am.map V.ref) (λi σ H'=>rN λ(X:L7) (E:L0) (o3 o4 o5 o6 O:N5)=>i3 (σ=[↥b,↥d,↥l,o3,o4,o5,o6,O]) (∀c u,c≠l->H3 c⊂u->H' c⊂u) (H' l⊂(.lst (X.map V.ref))) (∀a∈X,H a=none/\a≠l) (⇑E=i) (mK H' X E/\di ls ps E))
  (by rw[vt,vt];lia) #[[],[],_,_,_,_,_,rfl,λc u _ h=>h,t3,(λa h=>nomatch h),rfl,.nil,λi p e _ h=>by simp at h] ?_ ?_ ?_
 .rintro i σ H' _ ⟨X,E,o3,o4,o5,o6,O,rfl,sm,e1,na,lE,aE,oE⟩;rwa[cm.of (sm _ _ (a9 B.p) (F _ _ B.p)),cm.of (sm _ _ aG af)]
 .rintro i u v σ H' P U hu hv ⟨X,E,o3,o4,o5,o6,O,rfl,sm,e1,na,lE,aE,oE⟩ sP tP;let⟨a,p,rfl,hp,fb,ag,hf⟩:=B.pa.cO hu;let⟨ia,is,rfl,ak,ay⟩:=lia.cO hv;rw[vv,hp]at ak;cases ak;have hi:=(vx.mp hp).1;have aA:ia∈am:=by
   rw[vv]at hv;let⟨a',ea,e'⟩:=vg.mp hv;injection e' with e';subst e';rwa[vm ea]
  have aq:ia≠l:=λz=>by have:=aF ia aA;rw[z,t2]at this;cases this
  have C:∀c u,c≠l->H3 c⊂u->U c⊂u:=λc u Y h=>sP _ _ (sm _ _ Y h)
  have ah:U a=_:=C _ _ (a9 ag) (F _ _ ag);have Z:U ia=_:=C _ _ aq ay;have aw:U d=_:=C _ _ aD (s3 _ _ (s2 _ _ ed));have I:=sP _ _ e1;have a3:cw U fb p.2:=by
   have J:=cw.same F hf;generalize p.2=f at J;have np:∀{c:Addr} {xs:N4},H3 c⊂.tup xs->c≠l:=λh=>JC h t3 (λz=>by cases z)
   cases f with
   | row ps=>let⟨c,y,M⟩:=J;rwa[c,C _ _ (np y) y,C _ _ (np M) M]
   | side ps=>let⟨c,y,M⟩:=J;rwa[c,C _ _ (np y) y,C _ _ (np M) M]
   | hold n=>rwa[C _ _ (np J) J]
   | ring x n=>rwa[C _ _ (np J) J]
   | rise x g n=>rwa[C _ _ (np J) J]
   | again x n=>rwa[C _ _ (np J) J]
  have w8:=(W.f i p hp).2;have wr:=λx h n (e:p.2 = .rise x h n)=>W.r i p.1 x h n (by rw[hp,<-e])
  have aB:=λj=>W.c9 (j:=j) hp
  have ad:=kT W ⋯ oE;have ae:∀(j:Nat) (e:Nq),E[j]?⊂e->⇑e<=8:=λj e h=>C2 W ⋯ oE h
  erw[JN (cL.of tP) ?_];exists cx ah ?_;ac_nf;walk_at"f dl hdl H5 s5 t5";exists#[λS' H6=>S'=[↥b,↥d,↥l,↥a,↥ia,↥fb,↥dl,O]/\cj U H6/\H6 dl⊂(.dK ((sh ls p.2).map lD)),?_,?_]
  rotate_left
  .by_cases a6:∃x h n,p.2 = .rise x h n
   .let⟨x,h,n,e⟩:=a6;rw[e]at a3;have a4:H5 fb⊂(.tup [.str "raise",.str x,.int h,.int n]):=s5 _ _ a3;let⟨j,N⟩:=wr x h n e;exists cx a4 ?_;exists cT ?_;exists cx a4 ?_;exists cx a4 ?_;have g:du H5 d (.str x) (some (.int (j:Nat))):=by
     have g:=du.k (k:=Sum.inr x) (s5 _ _ aw);rw[Yx W.ln N]at g;rwa[g]
    erw[d,_,rfl,g,?_];erw[dl,_,rfl,gw.k (k:=Sum.inl (j:Int)) t5 (by show 0<sizeLine;lia),?_];erw[rfl,λc u h=>(jh (je h hdl)).trans (s5 _ _ h),?_];rw[jy,e];show _⊂(HO.dK [lD ((cF (cb ls) x:Nat),h)]);rw[jZ W.ln N];rfl
   .let⟨k,xs,hk,dk⟩:=Dw a3 λx v n e=>a6 #[x,v,n,e]
    exists eQ (cL.of (s5 _ _ hk)) (iH) ?_;exists fC dk ?_;exists#[rfl,s5,?_];rw[Ma λx v n e=>a6 #[x,v,n,e]];rwa[t5]
  rintro S' H6 ⟨rfl,s6,t6⟩;ac_nf;have ai:=s6 _ _ Z;have a8:∀{c u},U c⊂u->c≠dl:=λh=>je h hdl
  erw[ia,rfl,#[_,cm.of ai],?_];refine JH (xs:=((cX ps p.2).map λj:Nat=>(j:Int)).map V.int) (λt σ H7=>gM λ(m:Nq) (O:N5)=>mP (σ=[↥b,↥d,↥l,↥a,↥ia,↥fb,↥dl,O]) (cj U H7) (H7 dl⊂(.dK (m.map lD))) ((m.map (·.1)).Nodup) (∀k v,(k,v)∈m↔cQ E ((cX ps p.2).take t) k v\/(k,v)∈sh ls p.2))
   #[_,_,rfl,s6,t6,Oh _,λk v=>#[.inr,λh=>h.elim (λ⟨ab,j,a1,e,_⟩=>by cases ab<;>simp at e) id]] ?_ ?_ ?_
  .rintro t σ H7 _ ⟨m,O,rfl,G,t7,D,m7⟩;rwa[cm.of (G _ _ Z)]
  .rintro t x σ H7 hx ⟨m,O,rfl,G,t7,D,m7⟩;rw[vv,vv]at hx;let⟨jj,az,rfl⟩:=vg.mp hx;let⟨j,N,rfl⟩:=vg.mp az;have aI:=aB j (vm N);have e0:sh ls p.2=[]:=by
    rcases Og (ps:=ps) (ls:=ls) p.2 with z | z
    .rw[z]at N;simp at N
    .exact z
   rw[e0]at m7;have hE:E[j]?⊂(E.getD j []):=by rw[vy,vz ⋯];rfl
   let⟨aj,ax,bs,a2,R⟩:=aE.get hE;have ap:((E.getD j []).map (·.1)).Nodup:=((oE j _ _ (vz ⋯) hE).1).imp λh=>Int.ne_of_lt h
   have e8:=ae j _ hE;have k8:⇑m<=8:=by
    have z:=YX (n:=⇑ls) D λk hk=>by
     let⟨L,a5,rfl⟩:=vK.mp hk;rcases(m7 L.1 L.2).mp a5 with⟨ab,i',a1,_,o,_⟩ | o
     .exact ad i' _ o
     .exact nomatch o
    rw[vt]at z;lia
   exists#[.inr (.inr (.inl #[rfl,.inl #[_,t7]])),?_];exists cz (cm.of (G _ _ I)) (ZM (i:=(j:Int)) ⋯ ax) ?_;exists#[aj,bs,E.getD j [],rfl,G _ _ (sP _ _ a2),R.1,λi' c L y M=>G _ _ (sP _ _ (R.2 i' c L y M)),?_];walk_at"f d2 hd2 H8 s8 t8";ac_nf;rw[show([]:List (Key×V))=([]:Nq).map lD from rfl,km,GQ ap]at t8;have n2:dl≠d2:=je t7 hd2;erw[dl,d2,_,_,rfl,rfl,s8 _ _ t7,t8,n2,by rw[vt,vt];lia,?_];rw[km];let⟨mn,mm⟩:=Xv D ap;erw[fL m (E.getD j []),_,rfl,λc u h=>(jh (a8 h)).trans (s8 _ _ (G _ _ h)),jy,mn,λk v=>?_];rw[mm,m7,e0,take_snoc N,Hd];constructor
   .rintro(h | ⟨y,h | h⟩)
    .exact .inl (.inl h)
    .exact .inl (.inr #[y,h])
    .exact nomatch h
   .rintro((h | ⟨y,h⟩) | h)
    .exact .inl h
    .exact .inr #[y,.inl h]
    .exact nomatch h
  rintro S' H7 ⟨m,aJ,rfl,G,t7,D,m7⟩;rw[vt,vt,v5]at m7;have k8:⇑m<=8:=by
   have z:=YX (n:=⇑ls) D λk hk=>by
    let⟨L,a5,rfl⟩:=vK.mp hk;rcases(m7 L.1 L.2).mp a5 with⟨ab,i',a1,_,o,_⟩ | o
    .exact ad i' _ o
    .let⟨x,n,e,ek⟩:=Bh.mp o;let⟨j,N⟩:=wr x _ n e;have h3:=Ee (vm N);have h4:⇑(cb ls)=⇑ls:=vt _;rw[ek];lia
   rw[vt]at z;lia
  exists#[.inl #[rfl,_,cm.of (G _ _ I)],?_];exists#[.inr (.inr (.inl #[rfl,.inl #[_,t7]])),dl,_,rfl,rfl,t7,?_];walk_at"f vw hvw H8 s8 t8";exists#[vw,dl,m,rfl,t8,s8 _ _ t7,⋯,λr cs ms H9 s9 a7 e9 n9 a0 pw aC av=>?_];ac_nf;have aH:=aE.1;erw[l,_,_,rfl,rfl,s9 _ _ (s8 _ _ (G _ _ I)),by rw[vt];lia,?_];have S:=G.trans (s8.trans s9);have aa:r≠l:=(je (s8 _ _ (G _ _ I)) a7).symm;have nr:H r=none:=by
   cases z:H r with
   | none=>rfl
   | some u=>rw[s8 _ _ (G _ _ (C _ _ aa (F _ _ z)))]at a7;cases a7
  have ar:∀{c:Addr} {xs:N4},H9 c⊂.tup xs->c≠l:=λh=>JC h (S _ _ I) (λz=>by cases z)
  erw[X++[r],E++[ms],_,_,_,_,_,rfl,λc u Y h=>(jh Y).trans (S _ _ (C _ _ Y h)),?_,λc Y=>?_,by rw[vn,lE];rfl,?_,?_]
  .rw[jy,vj];rfl
  .rcases vh.mp Y with z | z
   .exact na c z
   .rw[vo.mp z];rwa[nr,aa]
  .refine cp.snoc (cp.m6 aE λc Y e h=>?_) ?_
   .let⟨bs,a2,R⟩:=h;erw[bs,(jh (na c Y).2).trans (S _ _ (sP _ _ a2)),cp.mono R λc' L h'=>?_];have h9:=S _ _ (sP _ _ h');rwa[(jh (ar h9)).trans h9]
   .exact#[cs,(jh aa).trans e9,aC,λi' c L y M=>(jh (ar (av i' c L y M))).trans (av i' c L y M)]
  .refine di.snoc W oE (p:=p) (by rw[lE];rwa[hp]) ?_ λk v=>?_
   .exact Hy (a0.map _) D pw
   .rw[a0.mem_iff,m7];rwa[λh=>h.imp id Bh.mp,λh=>h.imp id Bh.mpr]
 rintro S' H' ⟨X,E,o3,o4,o5,o6,O,rfl,sm,e1,na,lE,aE,oE⟩;rw[vt]at lE;ac_nf;rwa[q l X E H' (λc u h=>sm _ _ (a9 h) (F _ _ h)) nl e1 (λa ha=>(na a ha).1) ⋯ aE oE]
def IB:4<*t.XT t.A0 ["book"] (iT):=by
 specialize T.DM.F.ok xj;let⟨b,pl,pp,Y,a2,ls,ps,rfl,B,W,q⟩:=h;erw[_,#v["ċ;ǈ4áǉǊ.ǈq#čƀźÈɤĞSiƁ4'ĞSiƁĞSiƁ&#"],?_]
 rotate_right 102
 have a5:=W.nI;exists#[va _,?_];walk_at"f l hl H1 s1 t1";exists#[b,pl,pp,Y,a2,ls,ps,rfl,B.same s1,W,λe as E H2 s2 he ee ne lE aE oE=>?_];have I:=aE.1;have a3:=s1.trans s2;have l2:H2 l⊂(.lst []):=s2 _ _ t1;have a1:l≠e:=λz=>by rw[z,he]at t1;cases t1
 erw[e,rfl,#[_,cm.of ee],?_];refine JH (xs:=as.map V.ref) (λi σ n=>gM λ(g:L7) (F:N5)=>fH (σ=[↥b,↥l,F]) (∀c u,c≠l->H2 c⊂u->n c⊂u) (n l⊂(.lst (g.map V.ref))) ((∀c∈g,H1 c=none/\c≠l)/\fV n g ((E.take i).map λe=>e.map (·.1))))
  #[[],_,rfl,λc u _ h=>h,l2,(λc h=>nomatch h),.nil] ?_ ?_ ?_
 .rintro i σ n _ ⟨g,F,rfl,m,p,C,r⟩;rwa[cm.of (m _ _ a1.symm ee)]
 .rintro i x σ n S ⟨g,F,rfl,m,p,C,r⟩;let⟨a,M,rfl,f,J,O,D⟩:=aE.cO S;have hi:=(vx.mp f).1;have X:=r.1;rw[vt,vi]at X;have am:a∈as:=by
   rw[vv]at S;let⟨a',ea,L⟩:=vg.mp S;injection L with L;subst L;rwa[vm ea]
  have Z:a≠l:=λz=>by have:=ne a am;rw[z,t1]at this;cases this
  have v:n a⊂(.lst (J.map V.ref)):=m _ _ Z O;have a4:=(oE i _ M (vz ⋯) f).1;have N:=C2 W ⋯ oE f;exists#[.inl #[rfl,_,cm.of p],?_];exists#[a,rfl,#[_,cm.of v],?_];erw[Jw (xs:=J.map V.ref) (λj G d=>G=((M.take j).map (·.1)).map V.int/\n=d) #[rfl,rfl] ?_ ?_ ?_]
  .rintro j G d _ ⟨rfl,rfl⟩;rwa[cm.of v]
  .rintro j x G d U ⟨rfl,rfl⟩;let⟨c,kv,rfl,y,R⟩:=D.cO U;have hj:=(vx.mp y).1;have a0:c≠l:=λz=>by rw[z,l2]at R;cases R
   erw[Js (S':=[none,none]) rfl ?_];erw[JN (cL.of (m _ _ a0 R)) ?_];exists dR ?_;exists#[by rw[vt,vt,vi];lia,?_,rfl];rw[take_snoc y,vj,vj];rfl
  rintro G d ⟨rfl,rfl⟩;rw[show(J.map V.ref).length=⇑M by rw[vt];rwa[D.1],v5];erw[by rw[vt,vt];lia,?_];sleep 4;exists#[l,_,_,rfl,rfl,s4 _ _ p,by rw[vt];lia,?_];have o:p4≠l:=(je p hp4).symm;have n4:H1 p4=none:=by
   cases z:H1 p4 with
   | none=>rfl
   | some u=>rw[m _ _ o (s2 _ _ z)]at hp4;cases hp4
  erw[g++[p4],_,rfl,λc u k h=>(jh k).trans (s4 _ _ (m _ _ k h)),?_,λc k=>?_,?_]
  .rw[jy,vj];rfl
  .rcases vh.mp k with z | z
   .exact C c z
   .rw[vo.mp z];rwa[n4,o]
  .rw[take_snoc f,vj];rwa[cp.snoc (cp.m6 r λc k ks h=>(jh (C c k).2).trans (s4 _ _ h)) ((jh o).trans t4)]
 rintro S' H3 ⟨g,F,rfl,m,p,C,r⟩;rw[vt,I,v5]at r;exists q l g (E.map λe=>e.map (·.1)) H3 (λc u h=>m _ _ (je h hl) (a3 _ _ h)) hl p (λc k=>none_of s1 (C c k).1) (by rw[vt];rwa[lE]) r (EL lE oE)
def xI:1<*t.zR t.zT ["row","moves","limbs"] (ff):=by
 specialize T.kF.F.ok yd;let⟨r,l,L,J,F,M,rfl,B,D,X,O,g,G,q⟩:=h;erw[_,#v["éVÅɥÆ9#ěÓĺ3ĻC'ÔŲǋì0ǌ$Ƥĳ2ǌųeÝBȐZɧZ0ɨïðñğíƀØ4#ŭ×ïðñğíƀƂÅƃM$#&ġě"],?_]
 rotate_right 302
 have m:=D.1;exists#[va _,?_];sleep 0;exists#[p0,l,J,M,rfl,rfl,t0,s0 _ _ B,m,λi b e R S=>s0 _ _ (D.2 i b e R S),?_];exists fC (any_empty X) ?_;exists#[L,_,rfl,cm.of (s0 _ _ g),?_];erw[kU (xs:=F.map V.ref) (λi I f=>gM λ(p u:N5)=>I=[~~~r,↥l,↥L,p,u]/\cj H f) #[_,_,rfl,s0] ?_ ?_ ?_]
 .rintro i I f _ ⟨p,u,rfl,n⟩;rwa[cm.of (n _ _ g)]
 .rintro i v I f P N hx ⟨p,u,rfl,n⟩ Y Z;have y:=n.trans Y;erw[JN (cL.of Z) ?_];exists#[l,rfl,#[_,cm.of (y _ _ B)],?_];refine Jw (xs:=J.map V.ref) (λj z c=>⇑z=⇑((M.take j).filter λe=>decide ((i:Int)∈e))/\N=c) #[rfl,rfl] ?_ ?_ ?_
  .rintro j z c _ ⟨_,rfl⟩;rwa[cm.of (y _ _ B)]
  .rintro j x z c C ⟨o,rfl⟩;let⟨a,e,rfl,k,U⟩:=D.cO C;erw[Js (S':=[none,some _]) rfl ?_];exists#[a,_,rfl,.inl (cm.of (y _ _ U)),rfl,pZ e,?_];rw[FH];ac_nf;have W:⇑((M.take j).filter λe=>decide ((i:Int)∈e))<=8:=vW (length_filter_le _ _) (vW (List.length_take_le' _ _) O);refine cH (λd=>?_) (λd=>?_)
   .exists#[⋯,?_,rfl];rw[take_snoc k,filter_append,v9,vd (vG d),vn,vn,o];rfl
   .refine#[?_,rfl];rw[take_snoc k,filter_append,v9,vc #v[d],vn,o];rfl
  rintro z c ⟨o,rfl⟩;rw[vt,m,v5]at o;have o1:=G (i:Int);erw[⋯,?_];sleep 2;exists#[_,_,rfl,.inl #[_,cm.of t2,rfl],?_];exists cH (λd=>?_) (λd=>?_)
  .exfalso;lia
  .ac_nf;rwa[_,_,rfl,y.trans s2]
 rintro S' f ⟨p,u,rfl,n⟩;rwa[q f n]
def Gd:1<*t.ZK t.ZR ["form","inside"] (fv):=by
 specialize T.wB.F.ok FO;let⟨a,l,f,j,rfl,d,i,e,q⟩:=h;erw[_,#v["A®lƄ$ƅƆ#P®lƇ$Ņņ#®ę,­#gĸ&L"],?_]
 rotate_right 200
 have B:(200:Nat)<sizeLine:=by decide
 cases f with
 | hold n=>
  have c:H a⊂(.tup _):=d;exists cx c ?_;exists cu ?_;exists cx c ?_;exists cu ?_;exists cx c ?_;exists cu ?_;exists cx c ?_;rwa[q _ rfl]
 | ring x n=>
  have c:H a⊂(.tup _):=d;exists cx c ?_;exists cu ?_;exists cx c ?_;exists cu ?_;exists cx c ?_;exists cu ?_;exists cx c ?_;rwa[q _ rfl]
 | rise x v n=>
  have c:H a⊂(.tup _):=d;exists cx c ?_;exists cu ?_;exists cx c ?_;exists cu ?_;exists cx c ?_;exists cu ?_;exists cx c ?_;rwa[q _ rfl]
 | row ps=>
  let⟨b,c,p⟩:=d;exists cx c ?_;exists cT ?_;exists#[l,j,rfl,cm.of i,?_];rwa[q _ rfl]
 | side ps=>
  let⟨b,c,p⟩:=d;exists cx c ?_;exists cu ?_;exists cx c ?_;exists cT ?_;exists#[l,j,rfl,cm.of i,length_pos_iff.mpr e,λg m o=>?_];rwa[q g #[m,o]]
 | again k x=>
  have c:H a⊂(.tup _):=d;let⟨y,r,rfl,u,z,C,D⟩:=e;exists cx c ?_;exists cu ?_;exists cx c ?_;exists cu ?_;exists cx c ?_;exists cT ?_;exists cx c ?_;exists cz (cm.of i) (iH) ?_;ac_nf;rwa[q _ #[y,rfl,rfl]]
def GV:5<*t.KJ t.KY ["book"] (gH):=by
 specialize T.xO.F.ok QG;let⟨b,pl,pp,Z,a7,ls,F,gs,hs,rfl,B,S,q⟩:=h;erw[_,#v["Ap;òáɩɪPp.ò9Óĺ3ĻCážſ^0ò2òJ1òc,%Ö}XÉ~ɫɬ%ĊŇ;ǍňSñiðórŉ4)ňSñiðórŉĝģM$&,J<òEɭɮ*ĊŇ.ǍňSñiðórŉ4)ňSñiðórŉĝģM$&VUń+Äěq'+'"],?_]
 rotate_right 106
 have W:=S.w;have pa:=B.pa.1;have gl:=S.gl;have aw:=W.nI;exists#[b,pl,pp,Z,a7,_,_,rfl,B,W,λlm ab M H1 s1 ar ae av Ml aM oM=>?_];have mg:=S.mv M Ml oM;have aq:=aM.1;exists#[va _,?_];walk_at"f l hl H2 s2 t2";have nl:=none_of s1 hl;have a8:=s1.trans s2;exists#[b,pl,pp,Z,a7,_,_,rfl,B.same a8,W,λli a3 H3 s3 a2 a1 al lia=>?_];ac_nf;have a9:=a8.trans s3;have ao:=s2.trans s3;have J:=lia.1;rw[vt]at J;have am:li≠l:=λz=>by rw[z,t2]at a2;cases a2
 have t3:H3 l⊂(.lst []):=s3 _ _ t2;have a6:∀{c u},H c⊂u->c≠l:=λh=>je h nl
 have an:∀{c u},H1 c⊂u->c≠l:=λh=>je h hl
 erw[li,_,rfl,cm.of a1,?_];refine kU (xs:=a3.map V.ref) (λi σ r=>lK λ(o3 o4 o5 o6:N5)=>dY (σ=[↥b,↥lm,↥l,o3,o4,o5,o6]) ((∀c u,c≠l->H3 c⊂u->r c⊂u)/\r l⊂(.lst ((gs.take i).map V.int))))
  #[_,_,_,_,rfl,λc u _ h=>h,t3] ?_ ?_ ?_
 .rintro i σ r _ ⟨o3,o4,o5,o6,rfl,sm,e1⟩;rwa[cm.of (sm _ _ am a1)]
 .rintro i v σ r P C hv ⟨o3,o4,o5,o6,rfl,sm,e1⟩ sP tP;let⟨X,as,rfl,O,ah⟩:=lia.cO hv;have hi:i<⇑F:=by
   have:=(vx.mp O).1;rw[vt]at this;rwa[this]
  obtain⟨p,hp⟩:∃p,F[i]?⊂p:=#[_,vz hi]
  rw[vv,hp]at O;cases O;let⟨a,ea,fb,af,hf⟩:=B.pa.get hp;have aj:X∈a3:=by
   rw[vv]at hv;let⟨a',ad,e'⟩:=vg.mp hv;injection e' with e';subst e';rwa[vm ad]
  have a5:X≠l:=λz=>by have:=al X aj;rw[z,t2]at this;cases this
  have k4:∀c u,c≠l->H3 c⊂u->C c⊂u:=λc u I h=>sP _ _ (sm _ _ I h)
  have y:∀c u,H c⊂u->C c⊂u:=λc u h=>k4 _ _ (a6 h) (a9 _ _ h)
  have a4:∀c u,H1 c⊂u->C c⊂u:=λc u h=>k4 _ _ (an h) (ao _ _ h)
  have o:C X⊂(.lst (((cX F p.2).map λj:Nat=>(j:Int)).map V.int)):=k4 _ _ a5 ah;have ac:=sP _ _ e1;have m:cw C fb p.2:=cw.same y hf;have Y:=λj=>W.c9 (j:=j) hp
  have w8:⇑(cX F p.2)<=8:=by unfold cX;rw[vt];rwa[(W.f i p hp).2]
  let⟨lp,ak⟩:=S.ln i p hp;have au:=S.gb i hi;erw[JN (cL.of tP) ?_];exists cx (y _ _ B.t) ?_;exists cz (cm.of (y _ _ B.p)) (ZM (i:=(i:Int)) ⋯ ea) ?_;exists cx (y _ _ af) ?_;exists#[λS' H5=>S'=[↥b,↥lm,↥l,~~~i,↥X,↥fb,o6]/\cj C H5,?_,?_]
  rotate_left
  .by_cases U:∃qs,p.2 = .side qs
   .let⟨qs,e⟩:=U;have ap:=S.sd i p qs hp e;generalize cX F p.2=is at o Y ap w8;rw[e]at m;let⟨nb,ag,_⟩:=m;exists cx ag ?_;exists cT ?_;exists#[X,rfl,#[_,cm.of o],?_];have aa:∀j∈is,∃c,ab[j]?⊂c/\C c⊂(.lst ((hs.getD j []).map V.int)):=λj D=>by
     have jl:=Y j D;let⟨c,I,h1⟩:=aM.get (i:=j) (x:=M.getD j []) (by rw[vy,vz ⋯];rfl);rw[mg j ⋯]at h1;rwa[c,I,a4 _ _ h1]
    erw[Jw (xs:=(is.map λj:Nat=>(j:Int)).map V.int) (λt G r=>dW λ(L:L7)=>dY (G=L.map V.ref) (fV C L ((is.take t).map λj=>hs.getD j [])/\C=r)) #[[],rfl,.nil,rfl] ?_ ?_ ?_]
    .rintro t G r _ ⟨L,rfl,lc,rfl⟩;rwa[cm.of o]
    .rintro t x G r hx ⟨L,rfl,lc,rfl⟩;rw[vv,vv]at hx;let⟨jj,R,rfl⟩:=vg.mp hx;let⟨j,D,rfl⟩:=vg.mp R;let⟨c,I,h1⟩:=aa j (vm D);have a0:=lc.1;rw[vt,vi]at a0;erw[Js (S':=[none,some _]) rfl ?_];exists dR ?_;exists cz (cm.of (a4 _ _ ae)) (ZM (i:=(j:Int)) ⋯ I) ?_;erw[by rw[vt];lia,L++[c],by rw[vj];rfl,?_,rfl];rw[take_snoc D,vj];rwa[cp.snoc lc h1]
    rintro G r ⟨L,rfl,lc,rfl⟩;rw[vt,vt,v5]at lc;have a0:=lc.1;rw[vt]at a0;erw[by rw[vt];lia,?_];sleep 5;exists cx (s5 _ _ (y _ _ B.t)) ?_;exists#[_,p5,pl,L,Z,(is.map λj=>hs.getD j []),rfl,t5,cp.mono lc λc ks h=>s5 _ _ h,λks ai=>?_,by rw[vt];lia,s5 _ _ (y _ _ B.l),ap.2,λH6 s6=>?_]
    .let⟨j,D,rfl⟩:=vK.mp ai;rwa[ap.1 j D]
    ac_nf;rwa[rfl,s5.trans s6]
   .have kd:∃k xs,C fb⊂(.tup (.str k::xs))/\decide (k=("side" : Str))=false:=by
     generalize p.2=f at m U;cases f with
     | side qs=>rwa[ud #[qs,rfl] U]
     | hold n=>rwa[_,_,m,by trivial]
     | ring x n=>rwa[_,_,m,by trivial]
     | rise x v n=>rwa[_,_,m,by trivial]
     | row qs=>let⟨_,h1,_⟩:=m;rwa[_,_,h1,by trivial]
     | again k x=>rwa[_,_,m,by trivial]
    let⟨k,xs,hk,dk⟩:=kd;exists eQ (cL.of hk) (iH) ?_;exists fC dk ?_;ac_nf;rwa[rfl,cj.refl _]
  rintro S' H5 ⟨rfl,s5⟩;exists#[X,rfl,#[_,cm.of (s5 _ _ o)],?_];have N:=s5 _ _ ac;erw[Jw (xs:=((cX F p.2).map λj:Nat=>(j:Int)).map V.int) (λt G r=>G=(((cX F p.2).take t).map λj=>gs∘j).map V.int/\H5=r) #[rfl,rfl] ?_ ?_ ?_]
  .rintro t G r _ ⟨rfl,rfl⟩;rwa[cm.of (s5 _ _ o)]
  .rintro t x G r hx ⟨rfl,rfl⟩;rw[vv,vv]at hx;let⟨jj,R,rfl⟩:=vg.mp hx;let⟨j,D,rfl⟩:=vg.mp R;have jl:=Y j (vm D);erw[Js (S':=[none,some _]) rfl ?_];exists dR ?_;exists cz (cm.of N) (Cd ⋯ jl) ?_;erw[by rw[vt,vt,vi];lia,?_,rfl];rw[take_snoc D,vj,vj];rfl
  rintro G r ⟨rfl,rfl⟩;rw[show(((cX F p.2).map λj:Nat=>(j:Int)).map V.int).length=⇑(cX F p.2) by rw[vt,vt],v5];erw[by rw[vt,vt];lia,?_];sleep 6;exists#[fb,p6,p.2,_,rfl,cw.same (s5.trans s6) m,t6,lp,λg hg=>?_];have eg:=ak g hg;subst eg;exists cH (λd=>?_) (λd=>?_)
  .exfalso;lia
  exists#[.inl #[rfl,_,cm.of (s6 _ _ N)],?_];exists#[l,_,_,rfl,rfl,s6 _ _ N,by rw[vt,vi];lia,?_];erw[_,_,_,_,rfl,λc u I h=>(jh I).trans (s6 _ _ (s5 _ _ (k4 _ _ I h))),?_];rw[jy,LX ⋯,vj];rfl
 rintro S' r ⟨o3,o4,o5,o6,rfl,sm,e1⟩;rw[vt,J,<-gl,v5]at e1;ac_nf;rwa[q l r (λc u h=>sm _ _ (a6 h) (a9 _ _ h)) nl e1]
def Ge:1<*t.ZL t.ZS ["form","inside","sizes"] (fw):=by
 specialize T.wC.F.ok qH;let⟨a,l,s0,f,g,C,rfl,o,el,es,i8,hj,a2,q⟩:=h;erw[_,#v["HVÙĵ0ô­#O2ôŶÝ,±¤%Ȓ,°%9ç±¤%(()O1ô9¬<ô(4#µ0ôA[*¤%(+eÙ8ɰì<ô$ȕ°%ɲ*"],?_]
 rotate_right 304
 have S:∀j,j<⇑C->C[j]?⊂(C∘j):=λj h=>by
  rw[vy,vz h];rfl
 by_cases ha:∃k x,f = .again k x
 .let⟨k,x,rfl⟩:=ha;have o:H a⊂(.tup [.str "again",.int k,.str x]):=o;let⟨j,r,rfl⟩:=List.exists_cons_of_ne_nil (a2 k x rfl);have lj:=hj j vq;exists cx o ?_;exists cT ?_;exists cz (cm.of el) (iH) ?_;exists cx o ?_;exists cH (λc=>?_) (λc=>?_)
  .exists cx o ?_;exists cz (cm.of es) (jV (j:=j) (by rw[vv,S j lj];rfl)) ?_;exists#[ua,?_];sleep 1;exists#[uc,?_];sleep 2;exists#[ua,?_];sleep 3;exists#[uc,?_];sleep 4;exists#[p4,p2,_,_,rfl,rfl,t4,s4 _ _ (s3 _ _ t2),ub,?_];sleep 5;have O:=s1.trans (s2.trans (s3.trans (s4.trans s5)));erw[q p5 [p3,p1] _ O (none_of (s1.trans (s2.trans (s3.trans s4))) hp5) t5 ?_];show h7 H5 _ ((j,1,0)::(if 1<k then[(j,k-1,C∘j)]else[]));rw[vd c];rwa[.cons (s5 _ _ (s4 _ _ t3)) (.cons (s5 _ _ (s4 _ _ (s3 _ _ (s2 _ _ t1)))) .nil)]
  .exists#[va _,?_];sleep 2;exists#[ua,?_];sleep 3;exists#[uc,?_];sleep 4;exists#[p4,p2,_,_,rfl,rfl,t4,s4 _ _ (s3 _ _ t2),uc,?_];sleep 5;have O:=s2.trans (s3.trans (s4.trans s5));erw[q p5 [p3] _ O (none_of (s2.trans (s3.trans s4)) hp5) t5 ?_];show h7 H5 _ ((j,1,0)::(if 1<k then[(j,k-1,C∘j)]else[]));rw[vc c];rwa[.cons (s5 _ _ (s4 _ _ t3)) .nil]
 have a3:∃W xs,H a⊂(.tup (.str W::xs))/\decide (W=("again" : Str))=false/\((decide (W=("row" : Str))=true/\∃xs,f = .row xs)\/(decide (W=("row" : Str))=false/\∀g,dq C f g=g.map λj=>(j,1,0))):=by
  cases f with
  | hold n=>rwa[_,_,o,by trivial,.inr #[by trivial,λ_=>rfl]]
  | ring x n=>rwa[_,_,o,by trivial,.inr #[by trivial,λ_=>rfl]]
  | rise x v n=>rwa[_,_,o,by trivial,.inr #[by trivial,λ_=>rfl]]
  | row ps=>let⟨b,F,_⟩:=o;rwa[_,_,F,by trivial,.inl #[by trivial,_,rfl]]
  | side ps=>let⟨b,F,_⟩:=o;rwa[_,_,F,by trivial,.inr #[by trivial,λ_=>rfl]]
  | again k x=>rwa[ud #[k,x,rfl] ha]
 let⟨W,xs,Z,dk,y⟩:=a3;exists eQ (cL.of Z) (iH) ?_;exists fC dk ?_;exists#[va _,?_];walk_at"f p hp H1 s1 t1";ac_nf;have np:∀{c u},H c⊂u->c≠p:=λh=>je h hp
 erw[l,rfl,#[_,cm.of (s1 _ _ el)],?_];refine JH (xs:=(g.map λj:Nat=>(j:Int)).map V.int) (λi σ I=>lK λ(o3:N5) (D:Int) (d:L7) (B:List Pc)=>i3 (σ=[↥a,↥l,↥s0,o3,none,↥p,~~~D]) (cj H I) (I p⊂(.lst (d.map V.ref))) (⇑d=i) (h7 I d B) (((∃xs,f = .row xs)->cU C g 0=B++cU C (g.drop i) D)/\(¬(∃xs,f = .row xs)->D=0/\B=(g.take i).map λj=>(j,1,0))))
  #[_,0,[],[],rfl,s1,t1,rfl,.nil,λ_=>rfl,λ_=>#[rfl,rfl]] ?_ ?_ ?_
 .rintro i σ I _ ⟨o3,D,d,B,rfl,X,J,la,hq,F,U⟩;rwa[cm.of (X _ _ el)]
 .rintro i v σ I hv ⟨o3,D,d,B,rfl,X,J,la,hq,F,U⟩;rw[vv,vv]at hv;let⟨jj,a1,rfl⟩:=vg.mp hv;let⟨j,G,rfl⟩:=vg.mp a1;have il:=(vx.mp G).1;have ed:g.drop i=j::g.drop (i+1):=by
   let⟨h,rfl⟩:=vx.mp G;rwa[List.drop_eq_getElem_cons h]
  have lj:=hj j (vm G);exists#[.inl #[rfl,_,cm.of J],?_];exists#[ua,?_];sleep 2;exists#[p,_,_,rfl,rfl,s2 _ _ J,by rw[vt];lia,?_];have n2:p2≠p:=λz=>by rw[z,s2 _ _ J]at t2;cases t2
  have s3:cj H (upd H2 p (.lst (d.map V.ref++[.ref p2]))):=λc u h=>(jh (np h)).trans (s2 _ _ (X _ _ h))
  have e3:upd H2 p (.lst (d.map V.ref++[.ref p2])) p⊂(.lst ((d++[p2]).map V.ref)):=by rw[jy,vj];rfl
  have M:h7 (upd H2 p (.lst (d.map V.ref++[.ref p2]))) (d++[p2]) (B++[(j,1,D)]):=by
   erw[cp.snoc (cp.mono hq λc x h=>?_) ((jh n2).trans t2)];rwa[(jh (λz=>by rw[z,J]at h;cases h)).trans (s2 _ _ h)]
  generalize upd H2 p (.lst (d.map V.ref++[.ref p2]))=H3 at s3 e3 M|-;exists eQ (cL.of (s3 _ _ Z)) (iH) ?_;ac_nf;rcases y with⟨Y,m,R⟩ | ⟨Y,L⟩
  .refine lF Y ?_;exists cz (cm.of (s3 _ _ es)) (jV (j:=j) (by rw[vv,S j lj];rfl)) ?_;exists#[_,_,d++[p2],B++[(j,1,D)],rfl,s3,e3,by rw[vn,la];rfl,M,λh=>?_,λh=>ud #[m,R] h];rw[F h,ed,List.append_assoc];rfl
  .refine fC Y ?_;exists#[_,_,d++[p2],B++[(j,1,D)],rfl,s3,e3,by rw[vn,la];rfl,M,λh=>?_,λh=>?_]
   .let⟨m,R⟩:=h;subst R;have:=L [0,0];let⟨bb,a0,_⟩:=o;rw[a0]at Z;cases Z;rwa[ud Y ∅]
   .let⟨b0,eq⟩:=U h;erw[b0,?_];rw[take_snoc G,vj,eq,b0];rfl
 rintro S' I ⟨o3,D,d,B,rfl,X,J,la,hq,F,U⟩;rw[show((g.map λj:Nat=>(j:Int)).map V.int).length=⇑g by rw[vt,vt]]at F U;exists q p d I X hp J ?_;have e:dq C f g=B:=by
  by_cases N:∃xs,f = .row xs
  .let⟨m,rfl⟩:=N;show cU C g 0=B;rw[F #[m,rfl],List.drop_length];rwa[append_nil _]
  .rcases y with⟨_,m,R⟩ | ⟨_,L⟩
   .exact ud #[m,R] N
   .rw[L,(U N).2,v5]
 rw[e];rwa[hq]
def Gf:3<*t.Yn t.Yt ["book","sizes"] (fx):=by
 specialize T.wD.F.ok FP;let⟨b,pl,pp,s0,Z,C,ls,D,gs,rfl,B,W,es,gl,q⟩:=h;erw[_,#v["?čŇóZ;ɳ_SƉż3Ž`,ážſ_SƉ_SƉČɴɵąŊM$&'"],?_];erw[jB (S':=[some _,some _]) rfl ?_]
 try dsimp only[dG,Cx.kb]
 have a3:=W.nI;have pa:=B.pa.1;exists cx B.t ?_;exists#[b,pl,pp,Z,C,ls,D,rfl,B,W,λli Y H3 F a0 n a2 lia=>?_];ac_nf;have y:=lia.1;rw[vt]at y;erw[pp,li,_,_,rfl,cm.of (F _ _ B.p),cm.of n,?_];erw[CV (xs:=C.map V.ref) (zs:=Y.map V.ref) (λi J m=>dW λ(d:L7)=>fH (J=d.map V.ref) (⇑d=i) (cj H3 m) ((∀a∈d,H a=none)/\om m d ((D.take i).map λp=>dq gs p.2 (cX D p.2)))) (by rw[vt,vt];lia) #[[],rfl,rfl,cj.refl _,(λa h=>nomatch h),.nil] ?_ ?_ ?_]
 .rintro i J m _ ⟨d,rfl,G,g,I,l⟩;rwa[cm.of (g _ _ (F _ _ B.p)),cm.of (g _ _ n)]
 .rintro i u v J m T0 H4 hu hv ⟨d,rfl,G,g,I,l⟩ sP tP;have hi:=(vx.mp hu).1;rw[vt]at hi;let⟨a,p,rfl,r,fb,R,hf⟩:=B.pa.cO hu;let⟨ia,is,rfl,o,S⟩:=lia.cO hv;rw[vv,r]at o;cases o;have a1:=(vx.mp r).1;have s4:=g.trans sP;have f:=F.trans s4;have i8:⇑(cX D p.2)<=8:=by unfold cX;rw[vt];exact(W.f i p r).2
  erw[Js (S':=[none,none,some _]) rfl ?_];erw[JN (cL.of tP) ?_];exists dR ?_;exists cx (f _ _ R) ?_;exists#[fb,ia,s0,p.2,cX D p.2,gs,rfl,cw.same f hf,s4 _ _ S,f _ _ es,i8,λj hj=>by have:=W.c9 r hj;lia,λk x e=>by rw[e];rwa[cons_ne_nil _ _],λp5 L H5 s5 U e5 X=>?_];erw[by rw[vt];lia,d++[p5],by rw[vj];rfl,by rw[vn,G];rfl,s4.trans s5,λc hc=>(vh.mp hc).elim (I c) λz=>by rw[vo.mp z];rwa[none_of f U],?_];rw[take_snoc r,vj];erw[cp.snoc (cp.mono l λc x h=>?_) #[L,e5,X]];let⟨M,N,O⟩:=h;rwa[M,s5 _ _ (sP _ _ N),cp.mono O λc x h=>s5 _ _ (sP _ _ h)]
 rintro J m ⟨d,rfl,G,g,I,l⟩;rw[vt]at G l;erw[by rw[vt];lia,?_];sleep 4;erw[q _ d _ (F.trans (g.trans s4)) (none_of (F.trans g) hp4) t4 ?_ I];rw[pa,v5]at l;erw[cp.mono l λc x h=>?_]
 let⟨M,N,O⟩:=h;rwa[M,s4 _ _ N,cp.mono O λc x h=>s4 _ _ h]
def Kf:6<*t.qc t.Qm ["self","book"] (hI t.jF):=by
 specialize T.Ky.ok Ko;let⟨a,r,b,pl,pp,j,I,Z,ps,gs,hs,rfl,ha,B,N,q⟩:=h;erw[_,#v["A£]ļĽD#H£čîźÈǎĘ4D#ĘĘ#£čîrÈǎĘ4D#ĘĘ#H£]ɸɹ#£]ǉǊ#8£Eɺɻ#>"],?_]
 rotate_right 200
 have W:=N.s.w;have gl:=N.s.gl;have l8:=W.l8;have ae:=W.nI;have la:=B.la.1;have ac:=B.pa.1;let⟨H0,M,n0,B0⟩:=B.less ha;have z0:cj H0 H:=M H λc u _ h=>h
 exists cx B.t ?_;exists#[pl,j,cb Z,rfl,B.l,by rw[cb,vt];rwa[la],λi a x ea ex=>?_,W.ln,by rw[cb,vt];lia,λd H1 s1 hd ed=>?_]
 .unfold cb at ex;rw[vv]at ex;let⟨p,ep,rfl⟩:=vg.mp ex;rwa[_,B.la.2 i a p ea ep]
 exists#[a,_,r,[],rfl,s1 _ _ ha,T.jQ,T.Qy,(by show 0<1000;decide),?_];have nd:d≠a:=λz=>by rw[z,ha]at hd;cases hd
 generalize e2:upd H1 a _=H2;have k2:∀c u,c≠a->H1 c⊂u->H2 c⊂u:=λc u n h=>e2▸(jh n).trans h
 have a2:=qV e2;clear e2;have z2:cj H0 H2:=M H2 λc u n h=>k2 _ _ n (s1 _ _ h)
 have B2:=B0.same z2;exists cx B2.t ?_;exists#[pl,rfl,#[_,cm.of B2.l],?_];erw[Jw (xs:=j.map V.ref) (λi L y=>L=((Z.map (·.2)).take i).map V.int/\H2=y) #[rfl,rfl] ?_ ?_ ?_]
 .rintro i L y _ ⟨rfl,rfl⟩;rwa[cm.of B2.l]
 .rintro i v L y hv ⟨rfl,rfl⟩;let⟨a,p,rfl,hp,U⟩:=B2.la.cO hv;have hi:=(vx.mp hp).1;erw[Js (S':=[none,none]) rfl ?_];erw[JN (cL.of U) ?_];exists dR ?_;exists#[by rw[vt,vi,vt];lia,?_,rfl];rw[take_snoc (show(Z.map (·.2))[i]?⊂p.2 by rw[vv,hp];rfl),vj];rfl
 rintro L y ⟨rfl,rfl⟩;rw[show(j.map V.ref).length=⇑(Z.map (·.2)) by rw[vt,vt];rwa[la],v5];erw[by rw[vt,vt];lia,?_];sleep 3;exists#[a,_,r,_,rfl,s3 _ _ a2,T.jQ,T.zl,AV (JB _ _ _) nofun,?_];have n3:p3≠a:=λz=>by rw[z,a2]at hp3;cases hp3
 generalize e4:upd H3 a _=H4;have k4:∀c u,c≠a->H3 c⊂u->H4 c⊂u:=λc u n h=>e4▸(jh n).trans h
 have a4:=qV e4;clear e4;have z4:cj H0 H4:=λc u h=>k4 _ _ (n0 h) (s3 _ _ (z2 _ _ h))
 have B4:=B0.same z4;exists cx B4.t ?_;exists#[pp,rfl,#[_,cm.of B4.p],?_];erw[Jw (xs:=I.map V.ref) (λi L y=>dW λ(f:L7)=>dY (L=f.map V.ref) (cp (λa p=>cw H4 a p.2) f (ps.take i)/\H4=y)) #[[],rfl,.nil,rfl] ?_ ?_ ?_]
 .rintro i L y _ ⟨f,rfl,O,rfl⟩;rwa[cm.of B4.p]
 .rintro i v L y hv ⟨f,rfl,O,rfl⟩;let⟨a',p,rfl,hp,fb,U,hf⟩:=B4.pa.cO hv;have hi:=(vx.mp hp).1;have a5:=O.1;rw[vi]at a5;erw[Js (S':=[none,none]) rfl ?_];erw[JN (cL.of U) ?_];exists dR ?_;exists#[by rw[vt];lia,f++[fb],by rw[vj];rfl,?_,rfl];rw[take_snoc hp];rwa[cp.snoc O hf]
 rintro L y ⟨f,rfl,O,rfl⟩;rw[vt,ac,v5]at O;have fl:=O.1;erw[by rw[vt];lia,?_];sleep 5;exists#[a,_,r,_,rfl,s5 _ _ a4,T.jQ,T.JY,vD (JB _ _ _) (vD (Nat.succ_le_succ (JB _ _ _)) nofun),?_];have n5:p5≠a:=λz=>by rw[z,a4]at hp5;cases hp5
 generalize e6:upd H5 a _=H6;have k6:∀c u,c≠a->H5 c⊂u->H6 c⊂u:=λc u n h=>e6▸(jh n).trans h
 have a6:=qV e6;clear e6;have z6:cj H0 H6:=λc u h=>k6 _ _ (n0 h) (s5 _ _ (z4 _ _ h))
 exists#[b,pl,pp,j,I,Z,ps,gs,hs,rfl,B0.same z6,N.s,λl7 H7 s7 X e7=>?_];exists#[a,_,r,_,rfl,s7 _ _ a6,T.jQ,T.Ji,AW,?_];have n7:l7≠a:=λz=>by rw[z,a6]at X;cases X
 generalize e8:upd H7 a _=H8;have k8:∀c u,c≠a->H7 c⊂u->H8 c⊂u:=λc u n h=>e8▸(jh n).trans h
 have a8:=qV e8;clear e8;have z8:cj H0 H8:=λc u h=>k8 _ _ (n0 h) (s7 _ _ (z6 _ _ h))
 exists#[b,pl,pp,j,I,Z,ps,rfl,B0.same z8,W,λl9 as E H9 s9 Y e9 na lE aE oE=>?_];exists#[a,_,r,_,rfl,s9 _ _ a8,T.jQ,T.zU,AX,?_];have n9:l9≠a:=λz=>by rw[z,a8]at Y;cases Y
 generalize S:upd H9 a _=H10;have C:∀c u,c≠a->H9 c⊂u->H10 c⊂u:=λc u n h=>S▸(jh n).trans h
 have g:=qV S;clear S;have ad:cj H0 H10:=λc u h=>C _ _ (n0 h) (s9 _ _ (z8 _ _ h))
 have w7:∀c u,c≠a->H7 c⊂u->H10 c⊂u:=λc u n h=>C _ _ n (s9 _ _ (k8 _ _ n h))
 exists#[a,_,r,_,_,rfl,g,T.jQ,T.Ji,(Jo ∅).trans Zp,?_];exists#[b,pl,pp,l7,j,I,Z,ps,gs,rfl,B0.same ad,W,w7 _ _ n7 e7,gl,λF m l J o a7 a0 a1=>?_];exists#[a,_,r,_,rfl,J _ _ g,T.jQ,T.Qa,AY,?_];have a9:F≠a:=λz=>by rw[z,g]at o;cases o
 have D:∀c u,c≠a->l c⊂u->upd l a (.ins t.jF r (i9 #[d,p3,p5,l7,l9,F,f,as,m])) c⊂u:=λc u n h=>(jh n).trans h
 have u9:∀c u,c≠a->H9 c⊂u->upd l a (.ins t.jF r (i9 #[d,p3,p5,l7,l9,F,f,as,m])) c⊂u:=λc u n h=>D _ _ n (J _ _ (C _ _ n h))
 have u7:∀c u,c≠a->H7 c⊂u->_⊂u:=λc u n h=>u9 _ _ n (s9 _ _ (k8 _ _ n h))
 have u5:∀c u,c≠a->H5 c⊂u->_⊂u:=λc u n h=>u7 _ _ n (s7 _ _ (k6 _ _ n h))
 have u3:∀c u,c≠a->H3 c⊂u->_⊂u:=λc u n h=>u5 _ _ n (s5 _ _ (k4 _ _ n h))
 have u1:∀c u,c≠a->H1 c⊂u->_⊂u:=λc u n h=>u3 _ _ n (s3 _ _ (k2 _ _ n h))
 have nq:∀{c:Addr} {xs:N4},l c⊂.lst xs->c≠a:=λh z=>by rw[z,J _ _ g]at h;cases h
 have ab:∀{c:Addr} {xs:N4},l c⊂.tup xs->c≠a:=λh z=>by rw[z,J _ _ g]at h;cases h
 have nt:∀{c:Addr} {xs:N4},H9 c⊂.tup xs->c≠a:=λh z=>by rw[z,s9 _ _ a8]at h;cases h
 have nl:∀{c:Addr} {xs:N4},H9 c⊂.lst xs->c≠a:=λh z=>by rw[z,s9 _ _ a8]at h;cases h
 have aa:∀{c:Addr} {xs:N4},H4 c⊂.tup xs->c≠a:=λh z=>by rw[z,a4]at h;cases h
 have R:∀{G:Hp} {u0:HO} {c:Addr},G a⊂u0->(∀c u,c≠a->H c⊂u->G c⊂u)->G c=none->H c=none:=λ{G u0 c} ga k n=>by
  cases e:H c with
  | none=>rfl
  | some u=>
   by_cases z:c=a
   .rw[z,ga]at n;cases n
   .rw[k _ _ z e]at n;cases n
 have w2:∀c u,c≠a->H c⊂u->H2 c⊂u:=λc u n h=>k2 _ _ n (s1 _ _ h)
 have w4:∀c u,c≠a->H c⊂u->H4 c⊂u:=λc u n h=>k4 _ _ n (s3 _ _ (w2 _ _ n h))
 have w6:∀c u,c≠a->H c⊂u->H6 c⊂u:=λc u n h=>k6 _ _ n (s5 _ _ (w4 _ _ n h))
 have w8:∀c u,c≠a->H c⊂u->H8 c⊂u:=λc u n h=>k8 _ _ n (s7 _ _ (w6 _ _ n h))
 have a3:∀c u,c≠a->H c⊂u->H10 c⊂u:=λc u n h=>C _ _ n (s9 _ _ (w8 _ _ n h))
 exact q #[d,p3,p5,l7,l9,F,f,as,m] E _ (λc u n h=>u1 _ _ n (s1 _ _ h)) #[#[r,jy],u1 _ _ nd ed,u3 _ _ n3 t3,u5 _ _ n5 t5,cp.mono O λc p h=>cw.put (λb xs hb=>u5 _ _ (aa hb) (s5 _ _ hb)) h,u7 _ _ n7 e7,u9 _ _ n9 e9,lE,
  cp.mono aE λc e ⟨bs,h1,h2⟩=>#[bs,u9 _ _ (nl h1) h1,cp.mono h2 λb q h=>u9 _ _ (nt h) h],oE,D _ _ a9 a7,cp.mono a0 λc e ⟨bs,h1,h2⟩=>#[bs,D _ _ (nq h1) h1,cp.mono h2 λb q h=>D _ _ (ab h) h]] #[hd,R a2 w2 hp3,R a4 w4 hp5,R a6 w6 X,R a8 w8 Y,R g a3 o,λc h=>R a8 w8 (na c h),λc h=>R g a3 (a1 c h)]
def Y3:8<*t.JG t.qB ["self","box"] (hH t.jC t.jF):=by
 specialize T.kf.ok Y5;let⟨m,a,bx,l,f,g,y,I,Y,O,hs,rfl,R,et,el,la,ef,dr,Bx,N,q⟩:=h;erw[_,#v["H£Ɗɽɾ/h3ɿʀz©C]ʁʂ#£=Ȋ>L8£("],?_]
 rotate_right 200
 have nm:∀{c:Addr} {xs:N4},H c⊂.lst xs->c≠m:=λh z=>by rw[z,R]at h;cases h
 exists#[bx,l,f,g,y,I,Y,rfl,et,el,la,ef,dr,Bx,λb pl pp J L j B1 _ _ _=>?_];ac_nf;intro o B p F ne;have r:cj L (upd (upd L B (.own o)) o (.ins t.jF B [])):=λc u h=>(jh (je h p)).trans ((jh (je h F)).trans h)
 have d:=j _ _ R;erw[o,B,b,pl,pp,g,J,I,_,O,hs,rfl,jy,B1.same r,N,λz E k S Z nz=>#[rfl,?_]];have i:m≠o:=je d p;have e:k m⊂(.ins t.jC a []):=S _ _ i (r _ _ d);have G:∀c u,H c⊂u->k c⊂u:=λc u h=>S _ _ (je (j _ _ h) p) (r _ _ (j _ _ h))
 exists#[m,_,a,[],rfl,e,T.jI,T.Jz,(by show 0<1000;decide),?_];generalize C:upd k m _=H4;have x:=qV C;have U:∀c u,c≠m->k c⊂u->H4 c⊂u:=λc u n h=>C▸(jh n).trans h
 clear C;have v:=Z.but e i U;let⟨dz,oz⟩:=v.ob;exists#[m,_,a,_,_,rfl,x,T.jI,T.Jz,Zp,?_];exists#[o,_,dz,_,_,rfl,oz,T.jQ,T.Ji,zZ,?_];exists cz (cm.of v.hs) (DN N.ne N.s.gl) ?_;exists#[m,_,a,_,rfl,x,T.jI,T.qi,(by show 1<1000;decide),?_];generalize D:upd H4 m _=H5;have M:=qV D;have W:∀c u,c≠m->H4 c⊂u->H5 c⊂u:=λc u n h=>D▸(jh n).trans h
 clear D;exists#[m,_,a,_,rfl,M,T.jI,T.Jb,(by show 2<1000;decide),?_];have X:∀c u,c≠m->H5 c⊂u->upd H5 m (.ins t.jC a (lO o (O∘(⇑(gN I Y)-1)) 0)) c⊂u:=λc u n h=>(jh n).trans h
 erw[q o z E _ (λc u n h=>X _ _ n (W _ _ n (U _ _ n (G _ _ h)))) (none_of j p) #[#[a,jy],(v.but x i W).but M i X,i] ((nz.less r).less j)]
def Gw:1<*t.Zi t.Zm ["pieces","sizes","gone"] (eZ):=by
 specialize T.ke.F.ok Qb;let⟨l,s0,b,bs,O,a,rfl,S,W,U,q8,ok,t1,t2,q⟩:=h;erw[_,#v["Ć0õ4&Ôĳ2õĴ1õ<õeU¶+'oFõ¢ŋ$ŌōćŹ¨'+ã)*jõŶå-*ć¨¨'+ę-ã)Ƌq%¥a)+-I%"],?_]
 rotate_right 306
 have B:∀j,j<⇑a->a[j]?⊂(a∘j):=λj h=>by
  rw[vy,vz h];rfl
 have bl:=W.1;exists#[va _,?_];walk_at"f p hp H1 s1 e1";have Y:∀{c u},H c⊂u->c≠p:=λh=>je h hp
 exists#[l,rfl,#[_,cm.of (s1 _ _ S)],?_];refine JH (xs:=bs.map V.ref) (λi R m=>tu λ(F G I J L:N5) (d:L7)=>fH (R=[↥l,↥s0,~~~b,↥p,F,G,I,J,L]) (cj H m) (m p⊂(.lst (d.map V.ref))) (⇑d<=i/\oj m d (fu a b (O.take i))))
  #[_,_,_,_,_,[],rfl,s1,e1,vb _,.nil] ?_ ?_ ?_
 .rintro i R m _ ⟨F,G,I,J,L,d,rfl,k,e,X,n⟩;rwa[cm.of (k _ _ S)]
 .rintro i v R m hv ⟨F,G,I,J,L,d,rfl,k,e,X,n⟩;let⟨c,x,rfl,N,hc⟩:=W.cO hv;have hi:=(vx.mp N).1;have C:=ok x (vm N);have D:=C;let⟨Z,g1,g2,n1,n2,b1,b2⟩:=D;have g:fu a b (O.take (i+1))=fu a b (O.take i)++(dS a b x).toList:=by
   rw[take_snoc N];unfold fu;rw[List.filterMap_append];congr 1
  erw[NC (cL.of (k _ _ hc)) ?_];exists cH (λr=>?_) (λr=>?_)
  .have a1:=EX C r;exists cz (cm.of (k _ _ U)) (jV (j:=x.1) (by rw[vv,B _ Z];rfl)) ?_;ac_nf;have eo:(if x.2.1<(b-x.2.2)/a∘x.1 then x.2.1 else(b-x.2.2)/a∘x.1)=ov a b x:=rfl;have a0:(if(b-x.2.2)/a∘x.1>x.2.1 then x.2.1 else(b-x.2.2)/a∘x.1)=ov a b x:=rfl;erw[_,_,rfl,?_];rw[eo];exists cH (λM=>?_) (λM=>?_)
   .exists cz (cm.of (k _ _ U)) (jV (j:=x.1) (by rw[vv,B _ Z];rfl)) ?_;exists#[.inl #[rfl,_,cm.of e],?_];exists#[uA,?_];walk_at"f 2 e";exists#[p,_,_,rfl,rfl,s2 _ _ e,by rw[vt];lia,?_];have o:p2≠p:=λz=>by rw[z,s2 _ _ e]at e2;cases e2
    erw[_,_,_,_,_,d++[p2],rfl,λc u h=>(jh (Y h)).trans (s2 _ _ (k _ _ h)),by rw[jy,vj];rfl,by rw[vn];show ⇑d+1<=_;lia,?_];have f:dS a b x⊂(x.1,x.2.2,ov a b x,some (b-x.2.2-ov a b x*a∘x.1)):=by
     unfold dS;rw[vd r,vd M]
    rw[g,f];erw[cp.snoc (cp.mono n λc y h=>?_) ((jh o).trans e2)];rwa[(jh (λz=>by rw[z,e]at h;cases h)).trans (s2 _ _ h)]
   .exists#[.inl #[rfl,_,cm.of e],?_];exists#[uA,?_];walk_at"f 2 e";exists#[p,_,_,rfl,rfl,s2 _ _ e,by rw[vt];lia,?_];have o:p2≠p:=λz=>by rw[z,s2 _ _ e]at e2;cases e2
    erw[_,_,_,_,_,d++[p2],rfl,λc u h=>(jh (Y h)).trans (s2 _ _ (k _ _ h)),by rw[jy,vj];rfl,by rw[vn];show ⇑d+1<=_;lia,?_];have f:dS a b x⊂(x.1,x.2.2,ov a b x,none):=by
     unfold dS;rw[vd r,vc M]
    rw[g,f];erw[cp.snoc (cp.mono n λc y h=>?_) ((jh o).trans e2)];rwa[(jh (λz=>by rw[z,e]at h;cases h)).trans (s2 _ _ h)]
  .exists#[_,_,_,_,_,d,rfl,k,e,⋯,?_];have f:dS a b x=none:=by
    unfold dS;rw[vc r]
   rw[g,f];show oj m d (_++[]);rw[append_nil];rwa[n]
 rintro S' m ⟨F,G,I,J,L,d,rfl,k,e,X,n⟩;rw[vt,bl,v5]at n;ac_nf;rwa[q p d m k hp e n]
def HR:2<*t.WC t.WK ["pieces","sizes","gone"] (hV):=by
 specialize T.CK.F.ok Zb;let⟨l,S,n,bs,C,gs,rfl,el,hq,Y,q8,ok,t1,t2,q⟩:=h;erw[_,#v["Ć0ħ4ČǏǐ&'Ôū2ħ1ħĴ<ħFħAÖÝ+[%âã)eUʃ-Ƌq%â-%"],?_]
 rotate_right 305
 have a0:∀j,j<⇑gs->gs[j]?⊂(gs∘j):=λj h=>by
  rw[vy,vz h];rfl
 exists#[va _,?_];walk_at"f p hp H1 s1 e1";have np:∀{c u},H c⊂u->c≠p:=λh=>je h hp
 exists#[l,S,n,bs,C,gs,rfl,s1 _ _ el,cp.mono hq λc x h=>s1 _ _ h,s1 _ _ Y,q8,ok,t1,t2,λl2 W H2 s2 J e2 G=>?_];have a4:=El (gs:=gs) (t:=n) C;have U:=G.1;have a1:l2≠p:=λz=>by rw[z,e1]at J;cases J
 have D:=s2 _ _ e1;exists#[l2,rfl,#[_,cm.of e2],?_];refine JH (xs:=W.map V.ref) (λi σ f=>oh λ(M N O R:N5) (e:L7)=>fH (σ=[↥l,↥S,~~~n,↥p,M,N,O,R]) (∀c u,c≠p->H2 c⊂u->f c⊂u) (f p⊂(.lst (e.map V.ref))) (⇑e<=2*i/\fG f e (((fu gs n C).take i).flatMap (eO gs))))
  #[_,_,_,_,[],rfl,λc u _ h=>h,D,vb _,.nil] ?_ ?_ ?_
 .rintro i σ f _ ⟨M,N,O,R,e,rfl,m,g,la,B⟩;rwa[cm.of (m _ _ a1 e2)]
 .rintro i v σ f hv ⟨M,N,O,R,e,rfl,m,g,la,B⟩;let⟨c,y,rfl,hy,b⟩:=G.cO hv;have hi:=(vx.mp hy).1;have a2:c≠p:=λz=>by rw[z,D]at b;cases b
  let⟨x,hx,ex⟩:=Ke (vm hy);have y1:y.1<⇑gs:=by rw[Kl ex];rwa[(ok x hx).1]
  have k:((fu gs n C).take (i+1)).flatMap (eO gs)=((fu gs n C).take i).flatMap (eO gs)++eO gs y:=by
   rw[take_snoc hy,flatMap_append,flatMap_cons,List.flatMap_nil,append_nil]
  have Z:f S⊂(.lst (gs.map V.int)):=m _ _ (np Y) (s2 _ _ (s1 _ _ Y));erw[BJ (cL.of (m _ _ a2 b)) ?_];exists#[λS' H3=>dW λ(a:L7)=>fH (S'=[↥l,↥S,~~~n,↥p,some (.int (y.1:Nat)),~~~y.2.1,~~~y.2.2.1,some (pI y.2.2.2)]) (∀c u,c≠p->f c⊂u->H3 c⊂u) (H3 p⊂(.lst (a.map V.ref))) (⇑a<=2*i+1/\fG H3 a (((fu gs n C).take i).flatMap (eO gs)++(if 0<y.2.2.1 then[(y.1,gs∘y.1)]else[]))),?_,?_]
  rotate_left
  .exists cH (λX=>?_) (λX=>?_)
   .exists#[.inl #[rfl,_,cm.of g],?_];exists cz (cm.of Z) (jV (j:=y.1) (by rw[vv,a0 _ y1];rfl)) ?_;exists#[ub,?_];walk_at"f p2 hp2 H3 s3 e3";exists#[p,_,_,rfl,rfl,s3 _ _ g,by rw[vt];lia,?_];have o:p2≠p:=λz=>by rw[z,s3 _ _ g]at e3;cases e3
    erw[e++[p2],rfl,λc u b h=>(jh b).trans (s3 _ _ h),by rw[jy,vj];rfl,by rw[vn];show ⇑e+1<=_;lia,?_];rw[vd X];erw[cp.snoc (cp.mono B λc y h=>?_) ((jh o).trans e3)];rwa[(jh (λz=>by rw[z,g]at h;cases h)).trans (s3 _ _ h)]
   .exists#[e,rfl,λc u _ h=>h,g,⋯,?_];rw[vc X,append_nil];rwa[B]
  rintro S' H3 ⟨a,rfl,L,d,a3,I⟩;have F:eO gs y=(if 0<y.2.2.1 then[(y.1,gs∘y.1)]else[])++(match y.2.2.2 with | some r=>[(y.1,r)] | none=>[]):=rfl;cases er:y.2.2.2 with
  | none=>
   exists#[rfl,_,rfl,?_];erw[fC (by simp[pI]) ?_];exists#[_,_,_,_,a,rfl,λc u b h=>L _ _ b (m _ _ b h),d,⋯,?_];rw[k,F,er,append_nil];rwa[I]
  | some r=>
   exists#[rfl,_,rfl,?_];erw[lF (by simp[pI]) ?_];exists#[.inl #[rfl,_,cm.of d],?_];exists#[ub,?_];walk_at"f p2 hp2 H4 s4 e4";exists#[p,_,_,rfl,rfl,s4 _ _ d,by rw[vt];lia,?_];have o:p2≠p:=λz=>by rw[z,s4 _ _ d]at e4;cases e4
   erw[_,_,_,_,a++[p2],rfl,λc u b h=>(jh b).trans (s4 _ _ (L _ _ b (m _ _ b h))),by rw[jy,vj];rfl,by rw[vn];show ⇑a+1<=_;lia,?_];rw[k,F,er,<-List.append_assoc];erw[cp.snoc (cp.mono I λc y h=>?_) ((jh o).trans e4)];rwa[(jh (λz=>by rw[z,d]at h;cases h)).trans (s4 _ _ h)]
 rintro S' f ⟨M,N,O,R,e,rfl,m,g,la,B⟩;rw[vt,U,v5]at B;ac_nf;rwa[q p e f (λc u h=>m _ _ (np h) (s2 _ _ (s1 _ _ h))) hp g B]
def W3:3<*t.qN t.qO ["self","beat"] (fq t.jF):=by
 specialize T.xA.ok JJ;let⟨a,z,O,ps,gs,hs,E,t0,rfl,A,N,t1,t2,q⟩:=h;erw[_,#v["AVËƌ¶¶(#ÃLěo.÷Ĉ>0÷9ĵ2÷±5Ü>#ǃűʄ)Ǒ$61÷Ńłʅʆʇ)8ƩåXÃXé[%*ȍʈʉʊ)ǒ~ʋʌÃX>XyL8Ó4ÃX^<÷F÷8Û-'+5'%"],?_]
 rotate_right 206
 have W:=N.s.w;have gl:=N.s.gl;have ne:=N.ne;have b1:=W.nI;have lE:=A.el;have M8:∀i,i<⇑ps->⇑(hs.getD i [])<=8:=λi hi=>En W N.hl N.m (wH N.s N.hl hi)
 have ad:fi (gs.map V.int) (-1)⊂(.int (gs∘(⇑ps-1))):=DN ⋯ (by rw[gl]);have aQ:∀j,j<⇑ps->gs[j]?⊂(gs∘j):=λj h=>N.Cd h
 let⟨dx,ob⟩:=A.ob;exists cH (λ_=>?_) (λc=>ud t1 c);exists#[a,_,dx,_,_,rfl,ob,T.jQ,T.Ji,zZ,?_];exists cz (cm.of A.hs) (ad) ?_;exists mu (λz=>ud t2 z) (λ_=>?_);exists#[a,_,dx,_,_,rfl,ob,T.jQ,T.zl,G7,?_];exists#[z.f,_,rfl,.inl (cm.of A.hf),?_];walk_at"f 1 e";exists#[va _,?_];walk_at"f 2 e";have aj:=s1.trans s2;exists#[a,_,dx,_,_,rfl,aj _ _ ob,T.jQ,T.Ji,zZ,?_];exists#[_,_,rfl,.inl #[_,cm.of (aj _ _ A.hs),rfl],?_];rw[vt,gl];exists#[ub,?_];walk_at"f 3 e";exists#[uc,?_];walk_at"f 4 e";rw[show((⇑ps:Nat):Int)-1=((⇑ps-1:Nat):Int) by lia]at e3;have aI:=aj.trans s3;have aW:=aI.trans s4;have af:p1≠p2:=je e1 hp2;have ag:p1≠p4:=je (s3 _ _ (s2 _ _ e1)) hp4;have ah:p2≠p4:=je (s3 _ _ e2) hp4;have m1:∀{c u},H c⊂u->c≠p1:=λh=>je h hp1
 have m2:∀{c u},H c⊂u->c≠p2:=λh=>je (s1 _ _ h) hp2
 have m4:∀{c u},H c⊂u->c≠p4:=λh=>je (aI _ _ h) hp4
 have aH:=N.nodes M8 (i:=⇑ps-1) (t:=t0) ⋯ t1;have aK:∀h∈O.map (·.2),0<=h/\h<=10^18:=λh hh=>by
  let⟨q0,aS,rfl⟩:=vK.mp hh;rwa[N.Au q0 aS]
 exists#[λm σ B=>pj λ(o5 J L:N5) (d g:L7) (D P S:L3)=>mO (σ=[↥a,~~~t0,↥p1,↥p2,↥p4,o5,J,L]) (tH O ps gs E t0 H B p1 p2 p4 d g D P S) (P++S.reverse.flatMap (λx=>mT ps gs x.1 x.2)=mT ps gs (⇑ps-1) t0/\m=(S.map λx=>nodes ps gs x.1 x.2).sum),
  #[_,none,none,none,[],[p3],[],[],[(⇑ps-1,t0)],rfl,#[aW,s4 _ _ (s3 _ _ (s2 _ _ e1)),s4 _ _ (s3 _ _ e2),e4,.nil,cp.snoc (as:=[]) (xs:=[]) .nil (s4 _ _ e3),by simp,λx hx=>by rw[vo.mp hx];rwa[by show ⇑ps-1<_;lia,t1],rfl,(λx hx=>nomatch hx),#v[aH],by show(O.map (·.2)).length=_;rw[vt],aK],by simp,rfl],?_]
 rintro m σ B ⟨o5,J,L,d,g,D,P,S,rfl,Sc,a0,rfl⟩;let⟨sm,am,ao,eT,gP,gT,G,hS,hP,bP,aM,ll,hb⟩:=Sc;have a7:⇑S<=(S.map λx=>nodes ps gs x.1 x.2).sum:=Ff λx _=>Xz (ps:=ps) (gs:=gs) x.1 x.2
 have pl:=gP.1;have tl:=gT.1;exists#[_,.inl #[_,cm.of eT,rfl],?_];rcases List.eq_nil_or_concat S with rfl | ⟨S0,x,rfl⟩
 .have et:g=[]:=List.length_eq_zero_iff.mp tl;subst et;erw[gQ ?_];ac_nf;rw[show([]:L3).reverse.flatMap (λx=>reach ps gs x.1 x.2)=[]from rfl,append_nil]at G;subst G;have b0:([].map λx:Nat×Int=>nodes ps gs x.1 x.2).sum=0:=rfl;erw[ub,?_];walk_at"f 5 e";rwa[q p5 p1 p2 d P H5 (sm.trans s5) hp1 (none_of s1 hp2) e5 (s5 _ _ am) ll hb (s5 _ _ ao) af (cp.mono gP λc y h=>s5 _ _ h) ⋯ bP hP #v[a0]]
 rw[List.concat_eq_append]at *;let⟨b,l,rfl,ay,aB⟩:=cp.last gT;rw[vj]at eT|-;erw[lF (by simp) ?_];let⟨x1,x2⟩:=hS x (mem_append_right _ vq);have aA:∀y∈S0,y.1<⇑ps/\0<=y.2:=λy hy=>hS y (mem_append_left _ hy)
 rw[List.reverse_append,flatMap_append,vj,sum_append]at *;have aZ:=Xz (ps:=ps) (gs:=gs) x.1 x.2;have au:([x].map λx:Nat×Int=>nodes ps gs x.1 x.2).sum=nodes ps gs x.1 x.2:=by simp
 have aa:([x].reverse.flatMap λx=>reach ps gs x.1 x.2)=reach ps gs x.1 x.2:=by simp
 rw[au]at a7 aM|-;have b2:S0.length<=5000:=by rw[vn]at a7;lia
 have b3:=ay.1;have X:([x].reverse.flatMap λx=>mT ps gs x.1 x.2)=mT ps gs x.1 x.2:=by simp
 rw[aa]at G;rw[X]at a0;refine#[λσ B=>pj λ(o5 J L:N5) (d g:L7) (D P S:L3)=>mO (σ=[↥a,~~~t0,↥p1,↥p2,↥p4,o5,J,L]) (tH O ps gs E t0 H B p1 p2 p4 d g D P S) (P++S.reverse.flatMap (λx=>mT ps gs x.1 x.2)=mT ps gs (⇑ps-1) t0/\(S.map λx=>nodes ps gs x.1 x.2).sum<(S0.map λx=>nodes ps gs x.1 x.2).sum+nodes ps gs x.1 x.2),
  (by rintro S' B ⟨o5,J,L,d,g,D,P,S,h1,h2,hq,h3⟩;rwa[_,h3,o5,J,L,d,g,D,P,S,h1,h2,hq,rfl]),?_]
 exists#[.inl #[rfl,_,cm.of eT],?_];erw[p4,_,.ref l,rfl,rfl,eT,by simp,?_];rw[show((b.map V.ref)++[l].map V.ref).dropLast=b.map V.ref by simp];have a1:∀{c:Addr} {xs:N4},B c⊂.tup xs->c≠p4:=λh z=>by rw[z,eT]at h;cases h
 have s5:cj H (upd B p4 (.lst (b.map V.ref))):=λc u h=>(jh (m4 h)).trans (sm _ _ h)
 have a8:upd B p4 (.lst (b.map V.ref)) p4⊂(.lst (b.map V.ref)):=jy;have U:=(jh (o:=HO.lst (b.map V.ref)) ag).trans am;have C:=(jh (o:=HO.lst (b.map V.ref)) ah).trans ao;have ab:fG (upd B p4 (.lst (b.map V.ref))) d P:=cp.mono gP λc y h=>(jh (a1 h)).trans h
 have ac:fG (upd B p4 (.lst (b.map V.ref))) b S0:=cp.mono ay λc y h=>(jh (a1 h)).trans h
 have n:=(jh (o:=HO.lst (b.map V.ref)) (a1 aB)).trans aB;generalize upd B p4 (.lst (b.map V.ref))=H5 at s5 a8 U C ab ac n|-;clear a1;have aP:H5 z.s⊂(.lst (gs.map V.int)):=s5 _ _ A.hs;have aF:=s5 _ _ ob;exists cx n ?_;exists#[a,_,dx,_,_,rfl,aF,T.jQ,T.Ji,zZ,?_];exists cx n ?_;exists cz (cm.of aP) (jV (j:=x.1) (by rw[vv,aQ _ x1];rfl)) ?_;ac_nf;obtain⟨p,hp⟩:∃p,ps[x.1]?⊂p:=#[_,vz x1]
 have ar:cP ps gs x.1=dq gs p.2 (cX ps p.2):=by unfold cP;rw[hp]
 erw[cH (λc1=>?_) (λc1=>?_)]
 .have a2:lu gs x=false:=vH ⋯;have aR:(ps.map λp=>dq gs p.2 (cX ps p.2))[x.1]?⊂(cP ps gs x.1):=by rw[vv,hp,ar];rfl
  let⟨al,aO,bs,Z,hq⟩:=A.pa.get aR;have aX:=(N.g x1).2;have aU:⇑(cP ps gs x.1)<=8:=by rw[ar];rwa[Dz (N.i8 hp)]
  have wl:=MC (gs:=gs) (t:=x.2) (cP ps gs x.1);exists#[.inl #[rfl,_,cm.of C],?_];exists#[p2,_,_,rfl,rfl,C,by rw[vt];lia,?_];have ai:∀{c:Addr} {xs:N4},H5 c⊂.tup xs->c≠p2:=λh z=>by rw[z,C]at h;cases h
  have s6:cj H (upd H5 p2 (.lst (d.map V.ref++[.ref l]))):=λc u h=>(jh (m2 h)).trans (s5 _ _ h)
  have ap:upd H5 p2 (.lst (d.map V.ref++[.ref l])) p2⊂(.lst ((d++[l]).map V.ref)):=by rw[jy,vj];rfl
  have an:=(jh (o:=HO.lst (d.map V.ref++[.ref l])) af).trans U;have a9:=(jh (o:=HO.lst (d.map V.ref++[.ref l])) ah.symm).trans a8;have R:=(jh (o:=HO.lst (d.map V.ref++[.ref l])) (ai n)).trans n;have av:fG (upd H5 p2 (.lst (d.map V.ref++[.ref l]))) (d++[l]) (P++[x]):=cp.snoc (cp.mono ab λc y h=>(jh (ai h)).trans h) R;have az:fG (upd H5 p2 (.lst (d.map V.ref++[.ref l]))) b S0:=cp.mono ac λc y h=>(jh (ai h)).trans h
  generalize upd H5 p2 (.lst (d.map V.ref++[.ref l]))=H6 at s6 ap an a9 R av az|-;exists#[.inl #[rfl,_,cm.of a9],?_];exists#[a,_,dx,_,_,rfl,s6 _ _ ob,T.jQ,T.Qa,WO,?_];exists cx R ?_;exists cz (cm.of (s6 _ _ A.hp)) (ZM (i:=(x.1:Int)) ⋯ aO) ?_;exists#[a,_,dx,_,_,rfl,s6 _ _ ob,T.jQ,T.Ji,zZ,?_];exists cx R ?_;exists#[al,z.s,x.2,bs,cP ps gs x.1,gs,rfl,s6 _ _ Z,cp.mono hq λc y h=>s6 _ _ h,s6 _ _ A.hs,aU,λq hq=>N.nJ hq,x2,⋯,λlw aJ H7 s7 aY ew hw=>?_];exists#[rfl,lw,_,rfl,cm.of ew,?_];walk_at"f lr hlr H8 s8 e8";have r:=s7.trans s8;have aq:=r _ _ a9;have b4:=hw.1;erw[p4,lr,_,_,rfl,rfl,aq,e8,by rw[vt,length_reverse,vt];lia,?_];have a5:∀{c:Addr} {xs:N4},H8 c⊂.tup xs->c≠p4:=λh z=>by rw[z,aq]at h;cases h
  have aw:=λ(c:Addr) (y:Nat×Int) (h:H6 c⊂(.tup [.int (y.1:Nat),.int y.2]))=>(jh (o:=HO.lst (b.map V.ref++(aJ.map V.ref).reverse)) (a5 (r _ _ h))).trans (r _ _ h)
  have aL:∀y∈P++[x],y.1<⇑ps/\0<=y.2/\y.2<gs∘y.1:=λy hy=>by
   rcases vh.mp hy with h | h
   .exact bP y h
   .rw[vo.mp h];rwa[x1,x2,c1]
  erw[_,_,_,d++[l],b++aJ.reverse,if eU ps gs x=true then D++[x]else D,P++[x],S0++(dA gs x.2 (cP ps gs x.1)).reverse,rfl,#[λc u h=>(jh (m4 h)).trans (r _ _ (s6 _ _ h)),?_,(jh ah).trans (r _ _ ap),by rw[jy,vj,map_reverse],cp.mono av aw,?_,?_,?_,?_,aL,?_,?_,?_],?_,?_]
  .rw[WT a2];rwa[(jh ag).trans (r _ _ an)]
  .exact cp.app (cp.mono az aw) (cp.mono (cp.rev hw) λc y h=>(jh (a5 (s8 _ _ h))).trans (s8 _ _ h))
  .rw[List.reverse_append,List.reverse_reverse,flatMap_append,<-G];by_cases lf:eU ps gs x=true
   .have c2:cP ps gs x.1=[]:=List.isEmpty_iff.mp lf;rw[vd lf,c2,Jg (.inr c2),List.append_assoc];rfl
   .have c2:¬(gs∘x.1<=x.2\/cP ps gs x.1=[]):=λh=>h.elim ⋯ λe=>lf (List.isEmpty_iff.mpr e)
    rw[vc lf,JI W c2]
  .intro y hy;rcases vh.mp hy with h | h
   .exact aA y h
   .have h:=mem_reverse.mp h;have:=Qv W h;rwa[⋯,kE (λq hq=>N.nJ hq) h]
  .rw[filter_append,hP];by_cases lf:eU ps gs x=true
   .rw[vd lf,filter_append,filter_cons_of_pos lf,filter_cons_of_pos (by rw[a2];rfl)];rfl
   .rw[vc lf,filter_cons_of_neg lf];rwa[append_nil _]
  .have:=Xy W (i:=x.1) (t:=x.2) c1;rw[vj,sum_append,map_reverse,List.sum_reverse,vn];show ⇑P+1+_<=_;lia
  .rw[WT a2];rwa[ll]
  .rw[WT a2];rwa[hb]
  .rw[List.reverse_append,List.reverse_reverse,flatMap_append,<-a0,An W (i:=x.1) (t:=x.2) ⋯,List.append_assoc];rfl
  .have:=Xy W (i:=x.1) (t:=x.2) c1;rw[vj,sum_append,map_reverse,List.sum_reverse];lia
 .have a3:lu gs x=true:=vG ⋯;have hE:E[x.1]?⊂(E.getD x.1 []):=by rw[vy,vz ⋯];rfl
  let⟨ae,aN,bs,Z,aG⟩:=A.ea.get hE;have ak:=kT W ⋯ A.eo x.1;have eb:=NY N lE A.eo x1;have a4:=s5 _ _ Z;exists#[a,_,dx,_,_,rfl,aF,T.jQ,T.zU,Im,?_];exists cx n ?_;exists cz (cm.of (s5 _ _ A.hl)) (ZM (i:=(x.1:Int)) ⋯ aN) ?_;erw[ae,rfl,#[_,cm.of a4],?_];have aV:=aG.1;have aT:ae≠p1:=m1 Z;refine JH (xs:=bs.map V.ref) (λk σ H7=>gM λ(J L:N5)=>fH (σ=[↥a,~~~t0,↥p1,↥p2,↥p4,↥l,J,L]) (∀c u,c≠p1->H5 c⊂u->H7 c⊂u) (H7 p1⊂(.lst ((cJ ((E.getD x.1 []).take k) (m3 O gs E D)).map V.int))) (⇑(cJ ((E.getD x.1 []).take k) (m3 O gs E D))=⇑O/\(∀h∈cJ ((E.getD x.1 []).take k) (m3 O gs E D),0<=h/\h<=10^18)))
   #[_,_,rfl,λc u _ h=>h,U,ll,hb] ?_ ?_ ?_
  .rintro k σ H7 _ ⟨J,L,rfl,f,F,_⟩;rwa[cm.of (f _ _ aT a4)]
  .rintro k v σ H7 hv ⟨J,L,rfl,f,F,I,Y⟩;let⟨c',y,rfl,hy,aC⟩:=aG.cO hv;have aD:=vm hy;have yb:=ak y aD;have yh:=eb y aD;erw[JN (cL.of (f _ _ (m1 aC) (s5 _ _ aC))) ?_];ac_nf;have M:cJ ((E.getD x.1 []).take (k+1)) (m3 O gs E D)=(cJ ((E.getD x.1 []).take k) (m3 O gs E D)).set y.1.toNat y.2:=by
    unfold cJ;rw[take_snoc hy,foldl_append];rfl
   erw[p1,_,_,y.1.toNat,rfl,rfl,F,FJ yb.1 (by rw[vt,I];rwa[yb.2]),?_];erw[_,_,rfl,λc u hc h=>(jh hc).trans (f _ _ hc h),jy.trans ?_,by rw[M,length_set];rwa[I],λh hh=>?_]
   .rw[M,map_set]
   .rw[M]at hh;rcases List.mem_or_eq_of_mem_set hh with z | z
    .exact Y h z
    .rw[z];rwa[yh]
  rintro S' H7 ⟨J,L,rfl,f,F,I,Y⟩;rw[vt,aV,v5]at F I Y;have aE:∀{c:Addr} {xs:N4},H5 c⊂.tup xs->c≠p1:=λh z=>by rw[z,U]at h;cases h
  have a6:gs∘x.1<=x.2:=⋯
  erw[_,_,_,d,b,D++[x],P,S0,rfl,#[λc u h=>f _ _ (m1 h) (s5 _ _ h),?_,f _ _ af.symm C,f _ _ ag.symm a8,cp.mono ab λc y h=>f _ _ (aE h) h,cp.mono ac λc y h=>f _ _ (aE h) h,?_,aA,?_,bP,⋯,?_,?_],by rw[<-a0,W8 a6,nil_append],⋯]
  .rw[WU a3];rwa[F]
  .rw[<-G,Jg (.inl a6),List.append_assoc]
  .rw[hP,filter_append,filter_cons_of_neg (by rw[a3];decide)];rwa[(append_nil _).symm]
  .rw[WU a3];rwa[I]
  .rw[WU a3];rwa[Y]
def Kg:4<*t.Qk t.Qn ["self","beat"] (hW t.jF):=by
 specialize T.Kz.ok JS;let⟨a,z,ls,j,gs,hs,E,t0,rfl,A,N,t1,t2,q⟩:=h;erw[_,#v["Ć.ŏ4Dæ&ĨƍƎ/Ə#^0ŏ2ŏ61ŏÃ%ew}Xn)q'X'"],?_]
 rotate_right 204
 let⟨dx,ob⟩:=A.ob;exists#[va _,?_];walk_at"f p1 hp1 H0 s0 e0";exists#[a,dx,_,rfl,s0 _ _ ob,WN ∅ ∅ ∅ ∅ ∅ ∅,?_];exists#[a,z,ls,j,gs,hs,E,t0,rfl,A.same s0,N,t1,t2,λr l1 l2 as P H1 s1 a0 I C M ll hb h2 a1 gP pl bP hP _=>?_];have F:=Gk N hP;have J:=s0.trans s1;have e1:=s1 _ _ e0;have m1:∀{c u},H c⊂u->c≠p1:=λh=>je h hp1
 have n2:l2≠p1:=λe=>by rw[e,e0]at I;cases I
 have al:=gP.1;have wl:∀xs:L3,⇑(xs.flatMap (cZ j))<=⇑xs:=λxs=>by
  induction xs with
  | nil=>rwa[vb _]
  | cons x r ih=>
   rw[flatMap_cons,vn,vQ];have:⇑(cZ j x)<=1:=by
    unfold cZ;split
    .split<;>simp
    .exact va _
   lia
 exists cx C ?_;erw[l2,rfl,#[_,cm.of h2],?_];refine JH (xs:=as.map V.ref) (λi σ m=>i5 λ(O R S:N5)=>dY (σ=[↥a,~~~t0,↥p1,O,R,S]) ((∀c u,c≠p1->H1 c⊂u->m c⊂u)/\m p1⊂(.lst (((P.take i).flatMap (cZ j)).map V.str))))
  #[_,_,_,rfl,λc u _ h=>h,e1] ?_ ?_ ?_
 .rintro i σ m _ ⟨O,R,S,rfl,o,B⟩;rwa[cm.of (o _ _ n2 h2)]
 .rintro i v σ m hv ⟨O,R,S,rfl,o,B⟩;let⟨c,x,rfl,Y,D⟩:=gP.cO hv;have hi:=(vx.mp Y).1;let⟨x1,x0,x2⟩:=bP x (vm Y);obtain⟨p,X⟩:∃p,j[x.1]?⊂p:=#[_,vz x1]
  let⟨W,U,hf⟩:=A.fo.get X;have l:(P.take (i+1)).flatMap (cZ j)=(P.take i).flatMap (cZ j)++cZ j x:=by
   rw[take_snoc Y,flatMap_append,flatMap_cons,List.flatMap_nil,append_nil]
  have n3:∀{c u},H c⊂u->m c⊂u:=λh=>o _ _ (m1 h) (J _ _ h)
  have nc:c≠p1:=λz=>by rw[z,e1]at D;cases D
  have g:cw m W p.2:=cw.put (λb xs hb=>n3 hb) hf;erw[JN (cL.of (o _ _ nc D)) ?_];exists#[a,_,dx,_,_,rfl,n3 ob,T.jQ,T.JY,YV,?_];exists cz (cm.of (n3 A.ho)) (ZM (i:=(x.1:Int)) ⋯ U) ?_;ac_nf;by_cases d:∃y n,p.2 = .ring y n
  .let⟨y,n,C⟩:=d;rw[C]at g;have G:m W⊂(.tup [.str "ring",.str y,.int n]):=g;have L:cZ j x=if x.2=0 then[y]else[]:=by
    unfold cZ;rw[X];let⟨pn,pf⟩:=p;have C:pf = .ring y n:=C;subst C;rfl
   erw[cx G ?_];exists cT ?_;exists cH (λc=>?_) (λc=>?_)
   .exists#[.inl #[rfl,_,cm.of B],?_];exists cx G ?_;have:=wl (P.take i);rw[vi]at this;erw[p1,_,_,rfl,rfl,B,by rw[vt];lia,?_];erw[_,_,_,rfl,λc u D h=>(jh D).trans (o _ _ D h),jy.trans ?_];rw[l,L,vd c,vj];rfl
   .exists#[_,_,_,rfl,o,?_];rw[l,L,vc c,append_nil];rwa[B]
  .have L:cZ j x=[]:=by
    unfold cZ;rw[X];let⟨pn,pf⟩:=p;cases pf with
    | ring y n=>rwa[ud #[y,n,rfl] d]
    | _=>rfl
   have Z:∃k xs,m W⊂(.tup (.str k::xs))/\decide (k=("ring" : Str))=false:=by
    generalize p.2=f at g d;cases f with
    | hold n=>rwa[_,_,g,by trivial]
    | ring y n=>rwa[ud #[y,n,rfl] d]
    | rise y v n=>rwa[_,_,g,by trivial]
    | row j=>let⟨b',M,_⟩:=g;rwa[_,_,M,by trivial]
    | side j=>let⟨b',M,_⟩:=g;rwa[_,_,M,by trivial]
    | again k y=>rwa[_,_,g,by trivial]
   let⟨k,xs,hk,dk⟩:=Z;erw[eQ (cL.of hk) (iH) ?_];exists fC dk ?_;exists#[_,_,_,rfl,o,?_];rw[l,L,append_nil];rwa[B]
 rintro S' m ⟨O,R,S,rfl,o,B⟩;rw[vt,al,v5,F]at B;ac_nf;have w1:=wl P;rw[F]at w1;rwa[q p1 m (λc u h=>o _ _ (m1 h) (J _ _ h)) hp1 B ⋯]
def wU:5<*t.QR t.QW ["self"] (iV t.jC t.jF):=by
 specialize T.WA.ok Wb;let⟨m,j,z,p,r,o,G,E,k,rfl,A,N,J,L,q⟩:=h;erw[_,#v["PVÒ>>ěʑ&(ʒæ>Ĩʓʔ/ʕ>"],?_]
 rotate_right 100
 let⟨a,b⟩:=A.ob;exists#[m,_,a,_,_,rfl,b,T.jI,T.Jb,Zo,?_];exists#[m,_,a,_,_,rfl,b,T.jI,T.qi,K4,?_];exists cH (λc=>ud c ⋯) (λZ=>?_);exists#[_,rfl,m,_,a,_,_,rfl,b,T.jI,T.Jb,Zo,k,1,rfl,rfl,a,_,b,(by show 3<1000;decide),?_];rw[C3];generalize g:upd H m _=H1;have d:=qV g;have i:∀c u,c≠m->H c⊂u->H1 c⊂u:=λc u n h=>g▸(jh n).trans h
 have D:∀c,H1 c=none->H c=none:=λc h=>by
  by_cases z:c=m
  .rw[z,d]at h;cases h
  .cases e:H c with
   | none=>rfl
   | some u=>rw[i c u z e]at h;cases h
 clear g;have f:dP t.jC t.jF H1 m j z p r o E (k+1):=#[#[a,d],A.sg.but b A.ne i,A.ne]
 let⟨B,I⟩:=f.sg.ob;exists#[m,_,a,_,_,rfl,d,T.jI,T.Jz,kh,?_];erw[j,B,_,rfl,I,WN ∅ ∅ ∅ ∅ ∅ ∅,?_];exists#[m,_,a,_,_,rfl,d,T.jI,T.Jb,Zo,?_];ac_nf;rwa[j,z,p,r,o,G,E,k+1,rfl,f.sg,N,⋯,⋯,λl x v F C Z=>q l x (λc u n h=>v _ _ (i _ _ n h)) (D l F) (f.same v) C]
def wb:eB P w K mg base (lB P w) 1 t.Jj t.Jl ["self","beat"] (Dl t.jC t.jF t.jX):=by
 erw[T.Yd.O0 y8 (λo H Q E h=>?_) (λd A a s H o Q E p h=>?_)]
 .let⟨m,l,z,i,k,f,E0,n,b,rfl,A,g,q⟩:=h;rfl
 let⟨m,l,z,i,k,f,E0,n,b,rfl,A,g,q⟩:=h;erw[_,#v["ƑʖËƌ¶¶(#>Ƒʗʘĩ$$$$3Ǔʙʚ"],?_]
 erw[Ie (S':=[some _,some _]) rfl ?_];let⟨e,j⟩:=A.ob;erw[ND ?_];exists cH (λc=>?_) (λc=>?_)
 .exists#[m,_,e,_,_,rfl,j,T.jI,T.qi,K4,?_];exists mu (λz=>?_) (λz=>ud z ⋯);rwa[q]
 .exact#[false,rfl,q]
def wR:1<*t.Jj t.Jl ["self","beat"] (gU t.jC t.jF):=by
 specialize T.Yd.ok y8;let⟨m,k,z,i,j,g,E,l,b,rfl,A,e,f,q⟩:=h;erw[_,#v["éVËƌ¶¶(#>ě£#"],?_]
 rotate_right 200
 let⟨a,d⟩:=A.ob;exists cH (λZ=>?_) (λc=>ud e c);exists#[m,_,a,_,_,rfl,d,T.jI,T.qi,K4,?_];exists mu (λz=>ud f z) (λZ=>?_);exists#[m,_,a,_,rfl,d,T.jI,T.Jb,(by show 3<1000;decide),?_];rw[C3];erw[q _ (λc u n h=>(jh n).trans h) #[#[a,jy],A.sg.but d A.ne λc u n h=>(jh n).trans h,A.ne]]
def wV:1<*t.qd t.qf ["_law_script","_law_k"] (Pr.eN K):=by
 specialize T.Jr.F.ok Wc;let⟨a,g,k,rfl,b,f,d,q⟩:=h;erw[_,#v["AKå#B&=&#?("],?_]
 rotate_right 200
 exists#[_,_,rfl,.inl #[_,b,rfl],?_];exists cH (λc=>?_) (λc=>?_)
 .ac_nf;rwa[a,_,k,_,rfl,rfl,b,Pr.Ln d (by rw[vt]at c;rwa[c]),q]
 .ac_nf;have e:Pr.cell g k=0:=by
   rw[vt]at c;unfold Pr.cell;rw[vy,vT ⋯];rfl
  rw[e]at q;rwa[q]
def xF:1<*t.qz t.qD ["_law_cell","_law_k"] (Kt):=by
 erw[T.JE.F.ok xK (λf H Q E h=>?_) (λe A d s H f Q E g h=>?_)]
 .let⟨c,k,rfl,a,b,q⟩:=h;rfl
 let⟨c,k,rfl,a,b,q⟩:=h;erw[_,#v["?QÑĦW¼Q&Äę##WÄ"],?_];erw[jB (S':=[some _,some _]) rfl ?_]
 try dsimp only[dG,Cx.kb]
 have j:=ve c (show(10^30:Int)≠0 by decide);have l:=vf c (show(0:Int)<10^30 by decide);have i:0<=k*k/\k*k<=10^40:=#[Int.mul_nonneg a a,by have:=Int.mul_le_mul b b a nofun;lia]
 ac_nf;rwa[q]
def Ga:1<*t.zx t.zD ["_law_place","_law_k"] (gX):=by
 specialize T.zr.F.ok FL;let⟨p,k,rfl,f,e,q⟩:=h;erw[_,#v["?Rŀćŀŀ³Ǖ:´y&gĿ:v#gĿ:½#³Ǖ:y&´"],?_];erw[jB (S':=[some _,some _]) rfl ?_]
 try dsimp only[dG,Cx.kb]
 have j:(200:Nat)<sizeLine:=by decide
 have b:(Str.ofString "abcdefghijklnopqrstuvwxyz").cps.toList[((k%25:Nat):Int).toNat]?⊂(CG.cps.toList.getD (k%25) 97):=by
  have l:(Str.ofString "abcdefghijklnopqrstuvwxyz").cps.toList.length=25:=by trivial
  show _⊂((Str.ofString "abcdefghijklnopqrstuvwxyz").cps.toList.getD (k%25) 97);rw[Int.toNat_natCast,vy,vz ⋯];rfl
 have g:(Txt.slice (Str.ofString "mm") none (some ((p:Nat):Int))).length<=4:=vW CY ∅;have i:(Txt.slice (Str.ofString "mm") (some ((p:Nat):Int)) none).length<=4:=vW CY ∅;have a:∀c,⇑(⟨#[c]⟩:Str)=1:=λc=>rfl
 exists#[∅,?_];ac_nf;rw[show((k:Nat):Int)%25=((k%25:Nat):Int) by lia];erw[_,_,_,rfl,rfl,∅,HD ⋯ b,?_];erw[_,_,rfl,rfl,by rw[a];lia,?_];ac_nf;have d:fi (Str.ofString "nopq").cps.toList (((k:Nat):Int)/25)⊂(if k<25 then 110 else 111):=by
  by_cases c:k<25
  .rw[vd c,show((k:Nat):Int)/25=0 by lia];decide +kernel
  .rw[vc c,show((k:Nat):Int)/25=1 by lia];decide +kernel
 erw[_,_,(if k<25 then 110 else 111),rfl,rfl,∅,?_,?_]
 .exact d
 erw[_,_,rfl,rfl,by rw[Str.length_append,a,a];lia,?_];exists#[∅,?_];erw[_,_,rfl,rfl,by rw[Str.length_append,Str.length_append,a,a];lia,?_];rwa[q]
def xH:1<*t.zQ t.zS ["_law_number","_law_names","_law_movers","_law_kind"] (hL):=by
 specialize T.zO.F.ok J1;let⟨n,nl,ml,a1,L,m,Ms,o,rfl,N,n1,n0,n2,hk,q⟩:=h;erw[_,#v["62ø9Pp1ø9¯xB#<ø6FøQR¨Ü#ę+@v&B#HėjZŐZ1ʜǖǗ{ùú|ûküýØø4°-ŭ×ǖǗ{ùú|ûküýƂÅƃM$&#&Öw}%å+@Þ&[)ã-eÌƐ}%ƐēĖ°-ȑēőÆIÚöB)é[)ã-p1øç*°-ß)"],?_]
 rotate_right 405
 have a4:=N.uv;have m8:∀j,⇑(Ms.getD j [])<=8:=λj=>by
  by_cases h:j<⇑m
  .exact(N.mv h).choose_spec.2.2.1
  .rw[vy,vT (by have:=N.ml;lia)];rwa[va _]
 exists#[va _,?_];walk_at"f ps hps H1 s1 t1";exists#[va _,?_];walk_at"f pu hpu H2 s2 t2";have R:=s1.trans s2;have B:∀{c u},H c⊂u->c≠ps:=λh=>je h hps
 have a3:pu≠ps:=(je t1 hpu).symm;exists#[_,_,rfl,.inl #[_,cm.of (R _ _ N.en),rfl],?_];rw[vt];exists#[_,rfl,⋯,⋯,?_];erw[Qp (λt σ p=>lK λ(o6 o7 o8:N5) (e:Addr)=>fH (σ=[~~~n,↥nl,↥ml,some (.str o),↥ps,↥e,o6,o7,o8]) (e≠ps) (∀c u,H c⊂u->p c⊂u) (p ps⊂(.lst (((fk n ⇑m Ms (decide (o = "row")) t).1.map λj=>m.getD j ⟨#[]⟩).map V.str))/\p e⊂(.lst ((fk n ⇑m Ms (decide (o = "row")) t).2.map V.str)))) #[_,_,_,pu,rfl,a3,R,s2 _ _ t1,t2] ?_ ?_]
 .rintro t σ H3 ht ⟨o6,o7,o8,e,rfl,g,C,I,X⟩;have m0:=ve n (show(3:Int)≠0 by decide);have m1:=vf n (show(0:Int)<3 by decide);exists#[_,_,rfl,.inl #[_,cm.of (C _ _ N.en),rfl],?_];rw[vt];exists#[_,_,rfl,.inl #[_,cm.of (C _ _ N.en),rfl],?_];rw[vt];ac_nf;have J:((⇑m:Int)-1-(0+(t:Int))*(1+n%3))%(⇑m:Int)=((l0 n ⇑m t:Nat):Int):=by
   unfold l0;have a:=ve ((⇑m:Int)-1-(t:Int)*(1+n%3)) (show(⇑m:Int)≠0 by lia);rw[uw];lia
  rw[J];have W:=Bs (n:=n) (t:=t) n1;have d:=Iq (n:=n) (len:=⇑m) (Ms:=Ms) (ro:=decide (o = "row")) t;have us:=ET (n:=n) (len:=⇑m) (ro:=decide (o = "row")) m8 t;have sl:=Wl (n:=n) (len:=⇑m) (Ms:=Ms) (ro:=decide (o = "row")) t;generalize fk n ⇑m Ms (decide (o = "row")) t=S at I X d us sl;generalize l0 n ⇑m t=j at W d|-;clear J;let⟨ma,a0,v,a2,mw⟩:=N.mv W;have aM:fi (a1.map V.ref) ((j:Nat):Int)=↥ma:=jV (by rw[vv,a0];rfl);erw[cz (cm.of (C _ _ N.em)) (aM) ?_];erw[ma,rfl,#[_,cm.of (C _ _ v)],?_];erw[Jw (xs:=(Ms.getD j []).map V.str) (λi ys p=>ys=(((Ms.getD j []).take i).filter λs=>decide (s∈S.2)).map V.str/\H3=p) #[rfl,rfl] ?_ ?_ ?_]
  .rintro i ys p _ ⟨rfl,rfl⟩;rwa[cm.of (C _ _ v)]
  .rintro i x ys p Y ⟨rfl,rfl⟩;rw[vv]at Y;let⟨k,M,rfl⟩:=vg.mp Y;have ik:=(vx.mp M).1;erw[Js (S':=[none,some _]) rfl ?_];exists#[e,_,rfl,.inl (cm.of X),rfl,mh _,?_];rw[CI];ac_nf;rw[take_snoc M,filter_append];have lf:⇑(((Ms.getD j []).take i).filter λs=>decide (s∈S.2))<=8:=vW (length_filter_le _ _) (by rw[vi];lia);refine cH (λc=>?_) (λc=>?_)
   .exists#[by rw[vt];lia,?_,rfl];rw[vj,v9,vd (vG c),filter_nil];rfl
   .refine#[?_,rfl];rw[v9,vc (by rw[vH c];rwa[vF]),filter_nil,append_nil]
  rintro ys p ⟨rfl,rfl⟩;rw[show((Ms.getD j []).map V.str).length=⇑(Ms.getD j []) from vt _,v5];have lf:⇑((Ms.getD j []).filter λs=>decide (s∈S.2))<=8:=vW (length_filter_le _ _) a2;have wf:∀x∈(Ms.getD j []).filter (λs=>decide (s∈S.2)),Ws.gn x=true:=λx Y=>mw x (vP.mp Y).1
  erw[by rw[vt];lia,?_];sleep 5;have k5:cj H H5:=λc u h=>s5 _ _ (C _ _ h)
  have y:=s5 _ _ I;have r:=s5 _ _ X;have n5:p5≠ps:=(je I hp5).symm;exists#[λS' p=>dW λ(U:L6)=>fH (S'=[~~~n,↥nl,↥ml,some (.str o),↥ps,↥e,some (.int (0+(t:Int))),some (.int (j:Nat)),↥p5]) (∀c u,c≠ps->H5 c⊂u->p c⊂u) (p ps⊂(.lst ((U.map λj=>m.getD j ⟨#[]⟩).map V.str))) ((o = "row"->U=(fk n ⇑m Ms (decide (o = "row")) (t+1)).1/\(fk n ⇑m Ms (decide (o = "row")) (t+1)).2=S.2)/\(o≠"row"->U=S.1)),?_,?_]
  rotate_left
  .exists cH (λc=>?_) (λc=>?_)
   .rw[vd (vG c)]at d;exists cH (λc2=>?_) (λc2=>?_)
    .rw[vd ⋯]at d;exists#[.inl #[rfl,_,cm.of y],?_];exists cz (cm.of (k5 _ _ N.en)) (ZN W) ?_;exists#[ps,_,_,rfl,rfl,y,by rw[vt,vt];lia,?_];erw[S.1++[j],rfl,λc u hc h=>(jh hc).trans h,?_,λ_=>by rw[d];rwa[rfl,rfl],λh=>ud c h];rw[jy,vj,vj];rfl
    .rw[vc ⋯]at d;ac_nf;rwa[S.1,rfl,λc u _ h=>h,y,λ_=>by rw[d];rwa[rfl,rfl],λh=>ud c h]
   .ac_nf;rwa[S.1,rfl,λc u _ h=>h,y,λh=>ud h c,λ_=>rfl]
  rintro S' H6 ⟨U,rfl,G,D,O,F⟩;have l:cj H H6:=λc u h=>G _ _ (B h) (k5 _ _ h)
  exists cH (λc=>?_) (λc=>?_)
  .have nr:o≠"row":=λz=>by rw[z]at c;exact ud c ∅
   obtain rfl:=F nr;rw[vc (by rw[vH nr];rwa[vF])]at d;exists cz (cm.of (l _ _ N.em)) (aM) ?_;exists#[va _,?_];sleep 7;erw[_,_,.lst (s7 _ _ (l _ _ v)) (QY _),sY t7,nM mw,nK,?_];rw[nD];exists mu (λd1=>?_) (λd1=>?_)
   .exists#[va _,?_];sleep 8;have f:=s7.trans s8;erw[_,_,.lst (f _ _ (G _ _ n5 t5)) (QY _),sY t8,nM wf,nK,?_];rw[nD];exists cH (λd2=>?_) (λd2=>?_)
    .exists#[_,_,rfl,.inl #[_,cm.of (f _ _ D),rfl],?_];rw[vt,vt];exists cH (λd3=>?_) (λd3=>?_)
     .rw[vd #[d1,d2,⋯]]at d;exists#[.inl #[rfl,_,cm.of (f _ _ D)],?_];exists cz (cm.of (f _ _ (l _ _ N.en))) (ZN W) ?_;exists#[ps,_,_,rfl,rfl,f _ _ D,by rw[vt,vt];lia,?_];generalize eG:upd H8 ps _=H9;have e9:H9 ps⊂(.lst (((S.1++[j]).map λj=>m.getD j ⟨#[]⟩).map V.str)):=by
       rw[vj,vj];rwa[qV eG]
      have Z:∀c u,c≠ps->H6 c⊂u->H9 c⊂u:=λc u hc h=>eG▸(jh hc).trans (f c u h)
      clear eG;exists cz (cm.of (Z _ _ (B N.em) (l _ _ N.em))) (aM) ?_;erw[e,ma,_,_,rfl,rfl,Z _ _ g (G _ _ g r),Z _ _ (B v) (l _ _ v),by rw[vt,vt];lia,?_];sleep 10;exists#[_,_,_,p10,rfl,(je e9 hp10).symm,λc u h=>s10 _ _ (Z _ _ (B h) (l _ _ h)),by rw[d];rwa[s10 _ _ e9],by rw[d,vj];rwa[t10]]
     .rw[vc (λz=>d3 ⋯)]at d;ac_nf;rwa[_,_,_,e,rfl,g,λc u h=>f _ _ (l _ _ h),by rw[d];rwa[f _ _ D],by rw[d];rwa[f _ _ (G _ _ g r)]]
    .rw[vc (λz=>d2 z.2.1)]at d;ac_nf;rwa[_,_,_,e,rfl,g,λc u h=>f _ _ (l _ _ h),by rw[d];rwa[f _ _ D],by rw[d];rwa[f _ _ (G _ _ g r)]]
   .rw[vc (λz=>z.1 d1)]at d;ac_nf;rwa[_,_,_,e,rfl,g,λc u h=>s7 _ _ (l _ _ h),by rw[d];rwa[s7 _ _ D],by rw[d];rwa[s7 _ _ (G _ _ g r)]]
  .have cr:o = "row":=hk.resolve_right c;let⟨r1,r2⟩:=O cr;ac_nf;rwa[_,_,_,e,rfl,g,l,by rw[<-r1];rwa[D],by rw[r2];rwa[G _ _ g r]]
 .rintro σ p ⟨o6,o7,o8,e,rfl,g,C,I,X⟩;exists#[ps,_,rfl,.inl #[cm.of I,?_]];walk_at"f b hb H3 s3 t3";rwa[q b H3 (λc u h=>s3 _ _ (C _ _ h)) t3]
def FW:2<*t.Yl t.Yq ["_law_number","_law_names","_law_movers","_law_limbs","_law_bounds"] (iQ):=by
 specialize T.wy.F.ok Qr;let⟨n,C,I,pl,bd,p,ac,B,d,Ms,b0,b1,b2,b3,b4,rfl,N,L,Bd,n0,n2,q⟩:=h;erw[_,#v["61Īv&o<Ī½&FĪ@QĚ&Ä=)Þ&H¡wēőÆ#Ý*1ĪÞ&KÚö*¥a:c%Q+B%Q½+­)-HKn*¤:=ćƈƈ§`::³Œ#´y(±:v+-Kn*bĔƒƓ+#':PKwn*ÝBĔƒƓ+#':bĔƒƓ+#':Vn*6jĪR¨Ü#Q+¢ŋ$Ōō(B#?¤:@QĚ&Ä­)ãIb-"],?_]
 rotate_right 504
 have ad:=N.uv;have l1:=L.l1;have a1:=L.la.1;let⟨eb,O,R,S,U,a2,a3,a4,a5,a6,a7⟩:=Bd;have k0:=ve n (show(8:Int)≠0 by decide);have k1:=vf n (show(0:Int)<8 by decide);have i0:=ve (n/8) (show(2:Int)≠0 by decide);have i1:=vf (n/8) (show(0:Int)<2 by decide);let⟨m,X,a8,a9⟩:=rY (b2:=b2) (b3:=b3) (b4:=b4) #[O,R] #[S,U] i0 i1;have m0:0<=n/100:=⋯
 have m1:n/100<=10^40:=⋯
 have v0:=ve (n/10^12) (show m≠0 by lia);have v1:=vf (n/10^12) (show 0<m by lia);exists Fb ?_;exists cz (cm.of eb) (X) ?_;exists#[λS' H'=>dW λ(y:Int)=>fH (S'=[~~~n,↥C,↥I,↥pl,↥bd,~~~y,some (.int (n/100)),some (.int (1+n/10^12%m)),none]) (cj H H') (0<=y) (y<8/\(4<y->1<=⇑d)),?_,?_]
 rotate_left
 .exists#[va _,?_];walk_at"f e3 he3 H3 s3 t3";erw[_,_,.lst (s3 _ _ N.en) (QY _),sY t3,nM N.w,nK,?_];rw[nD];exists cH (λc=>?_) (λc=>?_)
  .exists cH (λc2=>?_) (λc2=>?_)
   .ac_nf;have F:=ve (n/16) (show(5:Int)≠0 by decide);have w1:=vf (n/16) (show(0:Int)<5 by decide);rwa[_,rfl,s3,F,⋯,λh=>ud h ⋯]
   .ac_nf;rwa[_,rfl,s3,k0,k1,λh=>ud h c2]
  .ac_nf;rwa[_,rfl,s3,k0,k1,λ_=>length_pos_iff.mpr c]
 rintro S' H1 ⟨y,rfl,f,aa,ab,kn⟩;have l:=N.same f;have g:=L.same f;have u:=f _ _ eb;exists cH (λc=>?_) (λc=>?_)
 .exists#[_,_,rfl,.inl #[_,cm.of g.el,rfl],?_];rw[vt,a1];ac_nf;have F:=ve (n/100) (show(⇑B:Int)≠0 by lia);have w1:=vf (n/100) (show(0:Int)<(⇑B:Int) by lia);generalize n/100%(⇑B:Int)=r at F w1|-;obtain⟨j,rfl⟩:∃j:Nat,r=(j:Int):=#[r.toNat,⋯]
  have x:j<⇑B:=⋯
  let⟨lk,Z,Y⟩:=g.la.get (vz x);erw[cz (cm.of g.el) (jV (j:=j) (by rw[vv,Z];rfl)) ?_];exists cx Y ?_;exists cz (cm.of u) rfl ?_;ac_nf;have h0:=ve (n/100/10) (show b2≠0 by lia);have h1:=vf (n/100/10) (show 0<b2 by lia);erw[uA,?_];walk_at"f b6 hb6 H6 s6 t6";erw[q b6 (.rise B[j].1 (n/100/10%b2) (1+n/10^12%m)) H6 (f.trans s6) t6 #[#[j,?_],h0,⋯,⋯,⋯]];unfold cb;rw[vv,vz x];rfl
 exists cH (λc4=>?_) (λc4=>?_)
 .exists#[ub,?_];walk_at"f b3 hb3 H3 s3 t3";exists#[C,_,rfl,cm.of (s3 _ _ l.en),?_];walk_at"f b4 hb4 H4 s4 t4";have cl:=ZQ (d.map V.str) none (some 1);rw[vt]at cl;erw[b3,b4,_,_,rfl,rfl,s4 _ _ t3,t4,by show 2+_<=sizeLine;lia,?_];walk_at"f b5 hb5 H5 s5 t5";exists#[uc,?_];walk_at"f b6 hb6 H6 s6 t6";erw[b5,b6,_,_,rfl,rfl,s6 _ _ t5,t6,by rw[vn];show 2+_+1<=sizeLine;lia,?_];walk_at"f b7 hb7 H7 s7 t7";ac_nf;have F:=ve (n/100) (show(3:Int)≠0 by decide);have w1:=vf (n/100) (show(0:Int)<3 by decide);have a0:∀v∈[V.str "ding",V.str "dong"]++g4 (d.map V.str) none (some 1)++[V.str "din"],∃w:Str,v = .str w/\Ws.gn w=true:=λv hv=>by
   rcases vh.mp hv with z | z
   .rcases vh.mp z with z | z
    .rcases mem_cons.mp z with rfl | z
     .exact#[_,rfl,by trivial]
     .rw[vo.mp z];rwa[_,rfl,by trivial]
    .let⟨J,o,rfl⟩:=vK.mp (DP z);rwa[J,rfl,N.w J o]
   .rw[vo.mp z];rwa[_,rfl,by trivial]
  let⟨J,o,ww⟩:=CP (k:=n/100%3) a0 F (by rw[vn,vn];show _<(((2+_+1:Nat)):Int);lia);erw[cz (cm.of t7) (o) ?_];exists#[ua,?_];walk_at"f b8 hb8 H8 s8 t8";rwa[q b8 (.ring J (1+n/10^12%m)) H8 (f.trans (s3.trans (s4.trans (s5.trans (s6.trans (s7.trans s8)))))) t8 #[⋯,⋯,ww]]
 exists cH (λc5=>?_) (λc5=>?_)
 .have e:=kn ⋯;exists#[_,C,I,p,_,d,Ms,"row",rfl,l,e,m0,m1,.inl rfl,λb2 H2 D W=>?_];exists#[ub,?_];walk_at"f b6 hb6 H6 s6 t6";have ln:=Wl (n:=n/100) (len:=⇑d) (Ms:=Ms) (ro:=decide (("row" : Str) = "row")) ⇑d;erw[q b6 (.row (fk (n/100) ⇑d Ms (decide (("row" : Str) = "row")) ⇑d).1) H6 (f.trans (D.trans s6)) #[b2,t6,s6 _ _ W] #[ES ∅ _ e,⋯,B5 e _]]
 exists cH (λc6=>?_) (λc6=>?_)
 .have e:=kn ⋯;exists#[_,C,I,p,_,d,Ms,"side",rfl,l,e,m0,m1,.inr rfl,λb2 H2 D W=>?_];have ln:=Wl (n:=n/100) (len:=⇑d) (Ms:=Ms) (ro:=decide (("side" : Str) = "row")) ⇑d;erw[_,_,rfl,.inr #[_,cL.of W,rfl],?_];rw[vt,vt];exists cH (λc7=>?_) (λc7=>?_)
  .exists#[_,C,I,p,_,d,Ms,"side",rfl,l.same D,e,m0,m1,.inr rfl,λb3 H3 s3 e3=>?_];exists#[ub,?_];walk_at"f b6 hb6 H6 s6 t6";erw[q b6 (.side (fk (n/100) ⇑d Ms (decide (("side" : Str) = "row")) ⇑d).1) H6 (f.trans (D.trans (s3.trans s6))) #[b3,t6,s6 _ _ e3] #[⋯,⋯,B5 e _,(ER ∅ _).1.n N.il]]
  .exists cH (λG=>?_) (λG=>?_)
   .exact ud G ⋯
   exists#[ub,?_];walk_at"f b6 hb6 H6 s6 t6";rwa[q b6 (.hold (1+n/10^12%m)) H6 (f.trans (D.trans s6)) t6 #[⋯,⋯]]
 erw[gQ ?_];exists cH (λG=>?_) (λG=>?_)
 .have e:=kn ⋯;exists#[_,_,rfl,.inl #[_,cm.of l.en,rfl],?_];rw[vt];exists#[_,_,rfl,.inl #[_,cm.of l.en,rfl],?_];rw[vt];erw[_,_,rfl,?_];dsimp only;ac_nf;obtain⟨j,ej,x⟩:∃j:Nat,(⇑d:Int)-1-n/100%(if(⇑d:Int)<3 then(⇑d:Int)else 3)=(j:Int)/\j<⇑d:=by
   have a:=ve (n/100) (show(if(⇑d:Int)<3 then(⇑d:Int)else 3)≠0 by split<;>lia);have b:=vf (n/100) (show 0<(if(⇑d:Int)<3 then(⇑d:Int)else 3) by split<;>lia);generalize n/100%(if(⇑d:Int)<3 then(⇑d:Int)else 3)=z at a b|-;erw[((⇑d:Int)-1-z).toNat,?_,?_]
   .split at b<;>lia
   .split at b<;>lia
  rw[ej];erw[Fb ?_];exists cz (cm.of u) rfl ?_;ac_nf;have h0:=ve (n/10^12) (show b3≠0 by lia);have h1:=vf (n/10^12) (show 0<b3 by lia);erw[cz (cm.of l.en) (ZN x) ?_];exists#[ua,?_];walk_at"f b6 hb6 H6 s6 t6";rwa[q b6 (.again (1+n/10^12%b3) j) H6 (f.trans s6) t6 #[⋯,⋯,x]]
 exists#[ub,?_];walk_at"f b6 hb6 H6 s6 t6";rwa[q b6 (.hold (1+n/10^12%m)) H6 (f.trans s6) t6 #[⋯,⋯]]
def FY:1<*t.zu t.zB ["_law_form_here","_law_known"] (gW):=by
 specialize T.zq.F.ok FK;let⟨C,d,f,o,F,L,M,rfl,y,J,U,W,p,N,q⟩:=h;erw[_,#v["A®lƄ$ƅƆĊī;ǘ_þœê,_þœÀ&P®lƇ$ŅņĊī;ǘ_þœê,_þœÀ&®ę,À,gĸ&Ü&"],?_]
 rotate_right 200
 have u:∀j,j<⇑o->du H d (.str (o.getD j ⟨#[]⟩)) (some (.int (F∘j))):=λj l=>by
  have g:=du.k (k:=Sum.inr (o.getD j ⟨#[]⟩)) J;rw[kZ U W l]at g;rwa[g]
 let⟨D,c⟩:=p.js;cases f with
 | hold n=>
  have a:H C⊂(.tup _):=y;exists cx a ?_;exists cu ?_;exists cx a ?_;exists cu ?_;exists cx a ?_;exists cu ?_;exists#[_,_,rfl,.inr #[_,cL.of a,rfl],?_];exists cx a ?_;rwa[q _ H (cj.refl _) rfl]
 | ring x n=>
  have a:H C⊂(.tup _):=y;exists cx a ?_;exists cu ?_;exists cx a ?_;exists cu ?_;exists cx a ?_;exists cu ?_;exists#[_,_,rfl,.inr #[_,cL.of a,rfl],?_];exists cx a ?_;rwa[q _ H (cj.refl _) rfl]
 | rise x h n=>
  have a:H C⊂(.tup _):=y;exists cx a ?_;exists cu ?_;exists cx a ?_;exists cu ?_;exists cx a ?_;exists cu ?_;exists#[_,_,rfl,.inr #[_,cL.of a,rfl],?_];exists cx a ?_;rwa[q _ H (cj.refl _) rfl]
 | row is=>
  let⟨b,a,z⟩:=y;have D:⇑is<=8:=D;have c:∀j∈is,j<⇑o:=c;exists cx a ?_;exists cT ?_;exists cx a ?_;erw[b,rfl,#[_,cL.of z],?_];erw[yg (xs:=(is.map λj=>o.getD j ⟨#[]⟩).map V.str) (λt r m=>r=((is.take t).map λj=>F∘j).map V.int/\H=m) #[rfl,rfl] ?_ ?_ ?_]
  .rintro t r m _ ⟨rfl,rfl⟩;rwa[cL.of z]
  .rintro t v r m B ⟨rfl,rfl⟩;rw[vv,vv]at B;let⟨x,G,rfl⟩:=vg.mp B;let⟨j,l,rfl⟩:=vg.mp G;have S:=(vx.mp l).1;erw[Js (S':=[none,↥d]) rfl ?_];exists dR ?_;exists#[d,_,rfl,u j (c j (vm l)),?_];erw[by rw[vt,vt,vi];lia,?_,rfl];rw[take_snoc l,vj,vj];rfl
  rintro r m ⟨rfl,rfl⟩;rw[show((is.map λj=>o.getD j ⟨#[]⟩).map V.str).length=⇑is by rw[vt,vt],v5];erw[by rw[vt,vt];lia,?_];sleep 1;exists#[p1,_,rfl,cm.of t1,?_];rwa[q _ H1 s1 rfl]
 | side is=>
  let⟨b,a,z⟩:=y;have D:⇑is<=8:=D;have c:∀j∈is,j<⇑o:=c;have Y:=p.1;exists cx a ?_;exists cu ?_;exists cx a ?_;exists cT ?_;exists cx a ?_;erw[b,rfl,#[_,cL.of z],?_];erw[yg (xs:=(is.map λj=>o.getD j ⟨#[]⟩).map V.str) (λt r m=>r=((is.take t).map λj=>F∘j).map V.int/\H=m) #[rfl,rfl] ?_ ?_ ?_]
  .rintro t r m _ ⟨rfl,rfl⟩;rwa[cL.of z]
  .rintro t v r m B ⟨rfl,rfl⟩;rw[vv,vv]at B;let⟨x,G,rfl⟩:=vg.mp B;let⟨j,l,rfl⟩:=vg.mp G;have S:=(vx.mp l).1;erw[Js (S':=[none,↥d]) rfl ?_];exists dR ?_;exists#[d,_,rfl,u j (c j (vm l)),?_];erw[by rw[vt,vt,vi];lia,?_,rfl];rw[take_snoc l,vj,vj];rfl
  rintro r m ⟨rfl,rfl⟩;rw[show((is.map λj=>o.getD j ⟨#[]⟩).map V.str).length=⇑is by rw[vt,vt],v5];erw[by rw[vt,vt];lia,?_];sleep 1;exists#[p1,_,rfl,cm.of t1,by rw[vt];lia,λg O R=>?_];let⟨j,l,e⟩:=vK.mp O;rwa[q g H1 s1 #[#[j,l,e.symm],λj l=>R _ (vK.mpr #[j,l,rfl])]]
 | again k j=>
  have a:H C⊂(.tup _):=y;have I:=c j vq;have X:=N j I;have Z:=p.1;have k2:=p.2.1;exists cx a ?_;exists cu ?_;exists cx a ?_;exists cu ?_;exists cx a ?_;exists cT ?_;exists cx a ?_;exists cx a ?_;exists#[d,_,rfl,u j I,?_];ac_nf;rwa[q _ H (cj.refl _) rfl]
def xG:1<*t.QS t.QX ["_law_form_here","_law_names","_law_movers"] (fX):=by
 specialize T.yC.F.ok J0;let⟨C,G,R,a7,f,I,Ms,L,M,rfl,X,en,em,aM,nd,ln,ac,J,k4,q⟩:=h;erw[_,#v["H®±,O0ÿ9H¡ÌĬÙĭÙ0ÿĈ,¡Ù0ÿ±,ċ2ÿ4%1ÿ8¯4°Ȍʞʟʠ#*<ÿeÅʡ+)q)+)"],?_]
 rotate_right 304
 cases f
 case rise x h n=>
  have o:H C⊂(.tup _):=X;exists cx o ?_;exists cT ?_;exists cx o ?_;exists#[uc,?_];sleep 1;erw[q p1 [x] H1 s1 hp1 t1 #[pairwise_singleton _ _,λs=>?_] (by show 1<=80;decide)];rw[vo];constructor
  .rintro rfl;rwa[.inr #[h,n,rfl]]
  .rintro(⟨j,hj,_⟩ | ⟨h',n',e⟩)
   .exact nomatch hj
   .injection e with e1;rwa[e1.symm]
 case' hold n=>
  have o:H C⊂(.tup _):=X;exists cx o ?_;exists cu ?_;exists#[va _,?_];sleep 1;have l:=s1 _ _ o;exists#[λS' g=>dW λ(d:Addr)=>dY (S'=[↥C,↥G,↥R,↥d,none,none,none]) (cj H g/\g d⊂(.lst (((uG (Fn.hold n)).map λj=>I.getD j ⟨#[]⟩).map V.str))),?_,?_]
  rotate_left
  .exists cx l ?_;exists cu ?_;exists cx l ?_;exists cu ?_;ac_nf;rwa[p1,rfl,s1,t1]
  rintro S' H2 ⟨p2,rfl,m,e2⟩;have r:=m _ _ o;exists#[λS' g=>dW λ(d:Addr)=>dY (S'=[↥C,↥G,↥R,↥d,none,none,none]) (cj H g/\g d⊂(.lst (((Fn.hold n).js.map λj=>I.getD j ⟨#[]⟩).map V.str))),?_,?_]
  rotate_left
  .exists cx r ?_;exists cu ?_;ac_nf;rwa[p2,rfl,m,e2]
  rintro S' H3 ⟨d,rfl,D,O⟩;have W:∀Z u1 u2,(Fn.hold n)≠.rise Z u1 u2:=λ_ _ _ z=>by cases z
  clear X;generalize(Fn.hold n)=f at O W J q
 case' ring x n=>
  have o:H C⊂(.tup _):=X;exists cx o ?_;exists cu ?_;exists#[va _,?_];sleep 1;have l:=s1 _ _ o;exists#[λS' g=>dW λ(d:Addr)=>dY (S'=[↥C,↥G,↥R,↥d,none,none,none]) (cj H g/\g d⊂(.lst (((uG (Fn.ring x n)).map λj=>I.getD j ⟨#[]⟩).map V.str))),?_,?_]
  rotate_left
  .exists cx l ?_;exists cu ?_;exists cx l ?_;exists cu ?_;ac_nf;rwa[p1,rfl,s1,t1]
  rintro S' H2 ⟨p2,rfl,m,e2⟩;have r:=m _ _ o;exists#[λS' g=>dW λ(d:Addr)=>dY (S'=[↥C,↥G,↥R,↥d,none,none,none]) (cj H g/\g d⊂(.lst (((Fn.ring x n).js.map λj=>I.getD j ⟨#[]⟩).map V.str))),?_,?_]
  rotate_left
  .exists cx r ?_;exists cu ?_;ac_nf;rwa[p2,rfl,m,e2]
  rintro S' H3 ⟨d,rfl,D,O⟩;have W:∀Z u1 u2,(Fn.ring x n)≠.rise Z u1 u2:=λ_ _ _ z=>by cases z
  clear X;generalize(Fn.ring x n)=f at O W J q
 case' row is=>
  let⟨b,o,hb⟩:=X;exists cx o ?_;exists cu ?_;exists#[va _,?_];sleep 1;have l:=s1 _ _ o;exists#[λS' g=>dW λ(d:Addr)=>dY (S'=[↥C,↥G,↥R,↥d,none,none,none]) (cj H g/\g d⊂(.lst (((uG (Fn.row is)).map λj=>I.getD j ⟨#[]⟩).map V.str))),?_,?_]
  rotate_left
  .exists cx l ?_;exists cT ?_;erw[dR ?_];exists cx l ?_;exists#[b,_,rfl,.inr (cL.of (s1 _ _ hb)),?_];sleep 2;ac_nf;rwa[p2,rfl,s1.trans s2,t2]
  rintro S' H2 ⟨p2,rfl,m,e2⟩;have r:=m _ _ o;exists#[λS' g=>dW λ(d:Addr)=>dY (S'=[↥C,↥G,↥R,↥d,none,none,none]) (cj H g/\g d⊂(.lst (((Fn.row is).js.map λj=>I.getD j ⟨#[]⟩).map V.str))),?_,?_]
  rotate_left
  .exists cx r ?_;exists cu ?_;ac_nf;rwa[p2,rfl,m,e2]
  rintro S' H3 ⟨d,rfl,D,O⟩;have W:∀Z u1 u2,(Fn.row is)≠.rise Z u1 u2:=λ_ _ _ z=>by cases z
  generalize(Fn.row is)=f at O W J q;clear o hb
 case' side is=>
  let⟨b,o,hb⟩:=X;exists cx o ?_;exists cu ?_;exists#[va _,?_];sleep 1;have l:=s1 _ _ o;exists#[λS' g=>dW λ(d:Addr)=>dY (S'=[↥C,↥G,↥R,↥d,none,none,none]) (cj H g/\g d⊂(.lst (((uG (Fn.side is)).map λj=>I.getD j ⟨#[]⟩).map V.str))),?_,?_]
  rotate_left
  .exists cx l ?_;exists cu ?_;exists cx l ?_;exists cT ?_;exists cx l ?_;exists#[b,_,rfl,.inr (cL.of (s1 _ _ hb)),?_];sleep 2;ac_nf;rwa[p2,rfl,s1.trans s2,t2]
  rintro S' H2 ⟨p2,rfl,m,e2⟩;have r:=m _ _ o;exists#[λS' g=>dW λ(d:Addr)=>dY (S'=[↥C,↥G,↥R,↥d,none,none,none]) (cj H g/\g d⊂(.lst (((Fn.side is).js.map λj=>I.getD j ⟨#[]⟩).map V.str))),?_,?_]
  rotate_left
  .exists cx r ?_;exists cu ?_;ac_nf;rwa[p2,rfl,m,e2]
  rintro S' H3 ⟨d,rfl,D,O⟩;have W:∀Z u1 u2,(Fn.side is)≠.rise Z u1 u2:=λ_ _ _ z=>by cases z
  generalize(Fn.side is)=f at O W J q;clear o hb
 case' again k j=>
  have o:H C⊂(.tup _):=X;exists cx o ?_;exists cu ?_;exists#[va _,?_];sleep 1;have l:=s1 _ _ o;exists#[λS' g=>dW λ(d:Addr)=>dY (S'=[↥C,↥G,↥R,↥d,none,none,none]) (cj H g/\g d⊂(.lst (((uG (Fn.again k j)).map λj=>I.getD j ⟨#[]⟩).map V.str))),?_,?_]
  rotate_left
  .exists cx l ?_;exists cu ?_;exists cx l ?_;exists cu ?_;ac_nf;rwa[p1,rfl,s1,t1]
  rintro S' H2 ⟨p2,rfl,m,e2⟩;have r:=m _ _ o;exists#[λS' g=>dW λ(d:Addr)=>dY (S'=[↥C,↥G,↥R,↥d,none,none,none]) (cj H g/\g d⊂(.lst (((Fn.again k j).js.map λj=>I.getD j ⟨#[]⟩).map V.str))),?_,?_]
  rotate_left
  .exists cx r ?_;exists cT ?_;exists cx r ?_;exists#[uc,?_];sleep 3;ac_nf;rwa[p3,rfl,m.trans s3,t3]
  rintro S' H3 ⟨d,rfl,D,O⟩;have W:∀Z u1 u2,(Fn.again k j)≠.rise Z u1 u2:=λ_ _ _ z=>by cases z
  clear X;generalize(Fn.again k j)=f at O W J q
 all_goals
  let⟨j8,a8⟩:=J.js;exists#[va _,?_];walk_at"f pf hpf H4 s4 t4";have a3:=D.trans s4;have mf:∀{c u},H c⊂u->c≠pf:=λh=>je (D _ _ h) hpf
  have a9:d≠pf:=je O hpf;have aa:=aM.1;exists#[d,rfl,#[_,cm.of (s4 _ _ O)],?_];erw[JH (xs:=(f.js.map λj=>I.getD j ⟨#[]⟩).map V.str) (λt σ g=>i5 λ(o5 Y:N5) (U:L8)=>i3 (σ=[↥C,↥G,↥R,↥d,↥pf,o5,Y]) (∀c u,c≠pf->H4 c⊂u->g c⊂u) (g pf⊂(.lst (U.map V.str))) U.Nodup (⇑U<=8*t) (∀s,s∈U↔∃j∈f.js.take t,s∈Ms.getD j [])) #[_,_,[],rfl,λc u _ h=>h,t4,.nil,vb _,λs=>#[(λh=>nomatch h),λ⟨j,hj,_⟩=>nomatch hj]] ?_ ?_ ?_]
  .rintro t σ g _ ⟨o5,Y,U,rfl,sm,_⟩;rwa[cm.of (sm _ _ a9 (s4 _ _ O))]
  .rintro t v σ H5 hv ⟨o5,Y,U,rfl,sm,e5,a2,kl,S⟩;rw[vv,vv]at hv;let⟨x,hx,rfl⟩:=vg.mp hv;let⟨j,hj,rfl⟩:=vg.mp hx;have tl:=(vx.mp hj).1;have jl:=a8 j (vm hj);let⟨l1,l2,l3⟩:=uh nd jl;have a4:Ms[j]?⊂(Ms.getD j []):=by rw[vy,vz ⋯];rfl
   have ab:=k4 _ (vm a4);obtain⟨ma,a5⟩:∃ma,a7[j]?⊂ma:=#[_,vz ⋯]
   have a0:=aM.2 j ma _ a5 a4;have k5:∀{c u},H c⊂u->H5 c⊂u:=λh=>sm _ _ (mf h) (a3 _ _ h)
   exists#[.inl #[rfl,_,cm.of (k5 en)],?_];exists#[G,_,.str _,.str _,j,rfl,rfl,cm.of (k5 en),rfl,mh _,l1,l2,l3,?_];exists cz (cm.of (k5 em)) (jV (show(a7.map V.ref)[j]?=↥ma by rw[vv,a5];rfl)) ?_;erw[ma,rfl,#[_,cm.of (k5 a0)],?_];erw[JH (xs:=(Ms.getD j []).map V.str) (λu σ g=>gM λ(Y:N5) (B:L8)=>i3 (σ=[↥C,↥G,↥R,↥d,↥pf,some (.str (I.getD j ⟨#[]⟩)),Y]) (∀c u,c≠pf->H4 c⊂u->g c⊂u) (g pf⊂(.lst (B.map V.str))) B.Nodup (⇑B<=8*t+u) (∀s,s∈B↔s∈U\/s∈(Ms.getD j []).take u)) #[_,U,rfl,sm,e5,a2,kl,λs=>#[.inl,λh=>h.elim id λh=>nomatch h]] ?_ ?_ ?_]
   .rintro u σ g _ ⟨Y,B,rfl,N,_⟩;rwa[cm.of (N _ _ (mf a0) (a3 _ _ a0))]
   .rintro u v σ H6 hv ⟨Y,B,rfl,N,e6,F,a6,p⟩;rw[vv]at hv;let⟨y,hy,rfl⟩:=vg.mp hv;have ul:=(vx.mp hy).1;exists#[pf,_,rfl,.inl (cm.of e6),rfl,mh _,?_];rw[vd rfl,A6];erw[_,rfl,?_];refine mu (λc=>?_) (λc=>?_)
    .exists#[.inl #[rfl,_,cm.of e6],?_];exists#[pf,_,_,rfl,rfl,e6,by rw[vt];lia,?_];erw[_,B++[y],rfl,λc u hc h=>(jh hc).trans (N _ _ hc h),by rw[jy,vj];rfl,nodup_append.mpr #[F,pairwise_singleton _ _,λa o b hb e=>c (by rw[<-vo.mp hb,<-e];rwa[o])],by rw[vn,vS];lia,λs=>?_];rw[vh,p,vo,take_snoc hy,vh,vo,or_assoc]
    .exists#[_,B,rfl,N,e6,F,⋯,λs=>?_];rw[p,take_snoc hy,vh,vo];erw[λh=>h.elim .inl λh=>.inr (.inl h),?_];rintro(h | h | rfl)
     .exact .inl h
     .exact .inr h
     .exact(p _).mp c
   .rintro σ H6 ⟨Y,B,rfl,N,e6,F,a6,p⟩;rw[vt]at a6 p;rw[v5]at p;exists#[_,_,B,rfl,N,e6,F,⋯,λs=>?_];rw[p,S,take_snoc hj];constructor
    .rintro(⟨j',a1,h⟩ | h)
     .exact#[j',mem_append_left _ a1,h]
     .exact#[j,mem_append_right _ vq,h]
    .rintro⟨j',a1,h⟩;rcases vh.mp a1 with z | z
     .exact .inl #[j',z,h]
     .rw[vo.mp z]at h;rwa[.inr h]
  .rintro σ H5 ⟨o5,Y,U,rfl,sm,e5,a2,kl,S⟩;rw[show((f.js.map λj=>I.getD j ⟨#[]⟩).map V.str).length=⇑f.js by rw[vt,vt]]at kl S;rw[v5]at S;ac_nf;rwa[q pf U H5 (λc u h=>sm _ _ (mf h) (a3 _ _ h)) (none_of D hpf) e5 #[a2,λs=>(S s).trans #[.inl,λh=>h.elim id λ⟨h',n',e⟩=>ud e (W _ _ _)]] ⋯]
def FX:1<*t.zt t.zA ["_law_names","_law_known","_law_most"] (gV):=by
 specialize T.Yb.F.ok Q3;let⟨X,d,f,S,B,rfl,N,M,nd,ng,n1,a0,gb,q⟩:=h;erw[_,#v["60Ŕ9¬2Ŕ(ʢ3ʣC&µ1ŔewÚöB%U¶¼)À*'é[%*O2Ŕ¼)À*ß%"],?_]
 rotate_right 303
 have p:∀(h:Hp) j,h d⊂(.dK (fD f S))->j<⇑f->du h d (.str (f.getD j ⟨#[]⟩)) (some (.int (S∘j))):=λh j eh hj=>by
  have g:=du.k (k:=Sum.inr (f.getD j ⟨#[]⟩)) eh;rw[kZ nd ng hj]at g;rwa[g]
 exists#[va _,?_];walk_at"f ps hps H1 s1 t1";have l:∀{c u},H c⊂u->c≠ps:=λh=>je h hps
 exists#[X,_,rfl,cm.of (s1 _ _ N),?_];erw[LU (xs:=f.map V.str) (λt J m=>i5 λ(G:N5) (e:L6) (a:Int)=>i3 (J=[↥X,↥d,~~~B,↥ps,~~~a,G]) (∀c u,c≠ps->H1 c⊂u->m c⊂u) (m ps⊂(.lst ((e.map λj=>f.getD j ⟨#[]⟩).map V.str))) (⇑e<=5) (∀j∈e,j<⇑f) ((t=0->e=[]/\a=0)/\(0<t->e≠[]))) #[_,[],0,rfl,λc u _ h=>h,t1,va _,(λj h=>nomatch h),λ_=>#[rfl,rfl],λh=>ud h ⋯] ?_ ?_ ?_]
 .rintro t J m _ ⟨G,e,a,rfl,n,_⟩;rwa[cm.of (n _ _ (l N) (s1 _ _ N))]
 .rintro t v J m hi D ⟨G,e,a,rfl,n,o,F,r,Y,I⟩;rw[vt]at hi D;rw[vv]at D;let⟨x,W,rfl⟩:=vg.mp D;have ej:x=f.getD (⇑f-1-t) ⟨#[]⟩:=by rw[vy,W];rfl
  subst ej;have y:⇑f-1-t<⇑f:=⋯
  clear W D;generalize ⇑f-1-t=j at y|-;have k':∀{c u},H c⊂u->m c⊂u:=λh=>n _ _ (l h) (s1 _ _ h)
  have g:=gb j y;exists#[_,_,rfl,.inl #[_,cm.of o,rfl],?_];rw[vt,vt];exists cH (λc=>?_) (λc=>?_)
  .exists#[d,_,rfl,p m j (k' M) y,?_];exists cH (λR=>?_) (λR=>?_)
   .exists#[.inl #[rfl,_,cm.of o],?_];exists#[ps,_,_,rfl,rfl,o,by rw[vt,vt];lia,?_];generalize L:upd m ps _=H2;have Z:H2 ps⊂(.lst (((e++[j]).map λj=>f.getD j ⟨#[]⟩).map V.str)):=by
     rw[vj,vj];rwa[qV L]
    have C:∀c u,c≠ps->H1 c⊂u->H2 c⊂u:=λc u U h=>L▸(jh U).trans (n c u U h)
    clear L;exists#[d,_,rfl,p H2 j (C _ _ (l M) (s1 _ _ M)) y,?_];exists#[_,e++[j],_,rfl,C,Z,by rw[vn];show _+1<=5;lia,λj' O=>?_,λh=>ud h ⋯,λ_ h=>by simp at h];rcases vh.mp O with z | z
    .exact r j' z
    .rw[vo.mp z];rwa[y]
   .exists#[_,e,a,rfl,n,o,F,r,λh=>ud h ⋯,λ_ h=>?_];rcases Nat.eq_zero_or_pos t with z | z
    .let⟨_,rfl⟩:=Y z;rwa[R ⋯]
    .exact I z h
  .exists#[_,e,a,rfl,n,o,F,r,λh=>ud h ⋯,λ_ h=>?_];rw[h]at c;rwa[c (by show((0:Nat):Int)<5;lia)]
 .rintro J m ⟨G,e,a,rfl,n,o,F,r,Y,I⟩;rw[vt]at I;exists#[ps,_,rfl,.inl #[cm.of o,?_]];walk_at"f b hb H3 s3 t3";rwa[q b e H3 (λc u h=>s3 _ _ (n _ _ (l h) (s1 _ _ h))) t3 (I ⋯) F r]
def FZ:2<*t.zw t.zC ["_law_pool","_law_many"] (fT):=by
 specialize T.jN.F.ok Kq;let⟨p,x,y,m,rfl,b,z,n,B,C,q⟩:=h;erw[_,#v["AVÝďĵ.ʤQď#ÛĚď#&('PÛQÑĦ¼ď#WÄ&(ÛÂď#&(Q½ď#"],?_]
 rotate_right 201
 exists cz (cm.of b) rfl ?_;exists cH (λc=>?_) (λc=>?_)
 .have e:fU x y m=(x%m,x/m,y):=vd ⋯;rw[e]at q;exists cz (cm.of b) rfl ?_;exists cz (cm.of b) rfl ?_;exists#[p,_,_,0,rfl,rfl,b,rfl,?_];ac_nf;rwa[q _ (λc u d h=>(jh d).trans h) jy]
 .have e:fU x y m=(fM ((y+m)*314159265358979323846264338327%(10^30+57)) m/1000%m,x,fM ((y+m)*314159265358979323846264338327%(10^30+57)) m):=vc ⋯;rw[e]at q;exists cz (cm.of b) rfl ?_;exists#[p,_,_,1,rfl,rfl,b,rfl,?_];have o:=ve ((y+m)*314159265358979323846264338327) (show(10^30+57:Int)≠0 by decide);have r:=vf ((y+m)*314159265358979323846264338327) (show(0:Int)<10^30+57 by decide);generalize(y+m)*314159265358979323846264338327%(10^30+57)=v at o r q|-;generalize a:upd H p _=H1;have f:H1 p⊂(.lst [.int x,.int v]):=qV a;have k:∀c u,c≠p->H c⊂u->H1 c⊂u:=λc u d h=>a▸(jh d).trans h
  clear a;exists cz (cm.of f) rfl ?_;exists#[v,m,rfl,⋯,n,?_];exists#[p,_,_,1,rfl,rfl,f,rfl,?_];generalize a:upd H1 p _=H2;have g:H2 p⊂(.lst [.int x,.int (fM v m)]):=qV a;have l:∀c u,c≠p->H c⊂u->H2 c⊂u:=λc u d h=>a▸(jh d).trans (k c u d h)
  clear a;exists cz (cm.of g) rfl ?_;ac_nf;rwa[q _ l g]
def W5:3<*t.Z4 t.Z7 ["_law_pool","_law_kind","_law_names","_law_movers","_law_bounds"] (gI):=by
 specialize T.Y6.F.ok Jm;let⟨p,nl,ml,bd,x,y,kd,H0,am,L,v,G,b0,b1,b2,b3,b4,rfl,ep,y0,y1,M,N,n1,Bd,q⟩:=h;erw[_,#v["HVn#61·@m­)?¤:*°mB'Vn#6<·@m(?bßķk_.²Ǜ¸ŕú{ùŖŗŘ|ûküýx+¸ŕú{ùŖŗŘ|ûküýĝģM$Ē'ŬǜM$#JF·9pj·9P¯x@m(Ā·JÍ·mB'ėāZŐZjǛ¸ŕú{ùŖŗŘ|ûküýØ·4=%Yŭ×¸ŕú{ùŖŗŘ|ûküýƂÅƃM$&#&ewēĖ=%YēőÆfé[-°Ypj·çI=%YKÚöB-b@m­)bß-"],?_]
 rotate_right 507
 have aA:=N.uv;let⟨eb,ae,aq,ar,as,au,av,a9,aw,ax,ay⟩:=Bd;exists cH (λc=>?_) (λc=>?_)
 .exists cz (cm.of (M _ _ eb).2) rfl ?_;ac_nf;have r:=Jy (x:=x) (y:=y) a9;erw[p,x,y,_,rfl,ep,a9,⋯,y0,y1,λH1 x1 e1=>?_];have o:=JU (x:=x) (m:=b3) y0 y1;have o1:=M.ex x1;exists#[_,_,rfl,.inl #[_,cm.of (o1 _ _ N.en).2,rfl],?_];rw[vt];exists#[p,_,_,_,rfl,e1,⋯,⋯,o.1,o.2,λH2 x2 e2=>?_];have r2:=Jy (x:=(fU x y b3).2.1) (y:=(fU x y b3).2.2) (m:=(⇑v:Int)) ⋯;have o2:=o1.ex x2;generalize fU (fU x y b3).2.1 (fU x y b3).2.2 (⇑v:Int)=T2 at r2 e2|-;obtain⟨j,ej⟩:∃j:Nat,T2.1=(j:Int):=#[T2.1.toNat,⋯]
  rw[ej]at r2|-;have F:j<⇑v:=⋯
  erw[cz (cm.of (o2 _ _ N.en).2) (ZN F) ?_];exists#[ua,?_];walk_at"f b6 hb6 H6 s6 t6";rwa[q b6 (.again (1+(fU x y b3).1) j) H6 (x1.trans (x2.trans (.of s6))) t6 #[⋯,⋯,F]]
 exists cH (λc5=>?_) (λc5=>?_)
 .ac_nf;have r:=Jy (x:=x) (y:=y) (m:=5) ⋯;have o:=JU (x:=x) (m:=5) y0 y1;erw[p,x,y,_,rfl,ep,⋯,⋯,y0,y1,λH1 x1 e1=>?_];generalize fU x y 5=T at r o e1|-;have o1:=M.ex x1;exists#[_,rfl,⋯,⋯,?_];refine yH (λi ys C=>i5 λ(f:L6) (x y:Int)=>i3 (ys=f.map (λj=>V.str (v.getD j ⟨#[]⟩))) (⇑f=i) (∀j∈f,j<⇑v) (Ex p H1 C) (C p⊂(.lst [.int x,.int y])) (0<=y/\y<10^30+57)) #[[],_,_,rfl,rfl,(λj h=>nomatch h),.refl _,e1,o] ?_ ?_
  .rintro i ys C hi ⟨f,x2,y2,rfl,il,F,xx,ai,yy⟩;have o2:=o1.ex xx;erw[Js (S':=[none,some _,some _]) rfl ?_];exists dR ?_;exists#[_,_,rfl,.inl #[_,cm.of (o2 _ _ N.en).2,rfl],?_];rw[show(v.map V.str).length=⇑v from vt _];ac_nf;have r2:=Jy (x:=x2) (y:=y2) (m:=(⇑v:Int)) ⋯;have e:=JU (x:=x2) (m:=(⇑v:Int)) yy.1 yy.2;erw[p,x2,y2,_,rfl,ai,⋯,⋯,yy.1,yy.2,λH3 x3 e3=>?_];generalize fU x2 y2 (⇑v:Int)=T2 at r2 e e3|-;obtain⟨j,ej⟩:∃j:Nat,T2.1=(j:Int):=#[T2.1.toNat,⋯]
   rw[ej]at r2|-;have jn:j<⇑v:=⋯
   erw[cz (cm.of (o2.ex x3 _ _ N.en).2) (ZN jn) ?_];erw[by rw[vt];lia,f++[j],_,_,by rw[vj];rfl,by rw[vn,il];rfl,λZ g=>?_,xx.trans x3,e3,e];rcases vh.mp g with z | z
   .exact F Z z
   .rw[vo.mp z];rwa[jn]
  rintro ys H3 ⟨f,x3,y3,rfl,il,F,xx,az,yy⟩;erw[by rw[vt];lia,?_];walk_at"f b hb H4 s4 t4";exists#[b,_,rfl,.inl #[cm.of t4,?_]];walk_at"f b5 hb5 H5 s5 t5";exists#[ub,?_];walk_at"f b6 hb6 H6 s6 t6";erw[q b6 (.row f) H6 (x1.trans (xx.trans (.of (s4.trans (s5.trans s6))))) #[b5,t6,?_] #[λz=>?_,⋯,F]]
  .rw[s6 _ _ t5,v7];rfl
  .rw[z]at il;have:(0:Nat)=_:=il;lia
 exists#[va _,?_];walk_at"f ps hps H1 s1 t1";exists#[va _,?_];walk_at"f pu hpu H2 s2 t2";have a6:=s1.trans s2;have a2:ps≠p:=(je ep hps).symm;have ad:pu≠p:=(je (s1 _ _ ep) hpu).symm;have ac:∀{c u},H c⊂u->c≠ps:=λh=>je h hps
 have ao:pu≠ps:=(je t1 hpu).symm;ac_nf;have r:=Jy (x:=x) (y:=y) (m:=3) ⋯;have o:=JU (x:=x) (m:=3) y0 y1;erw[p,x,y,_,rfl,a6 _ _ ep,⋯,⋯,y0,y1,λH3 x3 e3=>?_];generalize fU x y 3=T at r o e3|-;have o3:Off p H0 H3:=λc u h=>#[(M c u h).1,x3 _ _ (M c u h).1 (a6 _ _ (M c u h).2)]
 have af:=x3 _ _ a2 (s2 _ _ t1);have ag:=x3 _ _ ad t2;have aj:∀{c u},c≠p->H c⊂u->H3 c⊂u:=λn h=>x3 _ _ n (a6 _ _ h)
 exists#[_,rfl,⋯,⋯,?_];erw[Qp (λt σ C=>pj λ(o9 a4 a5:N5) (d:Addr) (f:L6) (D:L8) (x y:Int)=>pT (σ=[↥p,~~~kd,↥nl,↥ml,↥bd,none,none,↥ps,↥d,o9,a4,a5]) (d≠ps) (d≠p) (Ex p H C) (C ps⊂(.lst ((f.map λj=>v.getD j ⟨#[]⟩).map V.str))) (C d⊂(.lst (D.map V.str))) (C p⊂(.lst [.int x,.int y])) (0<=y) (y<10^30+57) (⇑f<=t) (⇑D<=8*t) (∀j∈f,j<⇑v) (lG G f) (∀s,s∈D↔∃j∈f,s∈G.getD j [])) #[_,_,_,pu,[],[],_,_,rfl,ao,ad,λc u n h=>aj n h,af,ag,e3,o.1,o.2,vb _,vb _,(λj h=>nomatch h),#[(λj h=>nomatch h),.nil],λs=>#[(λh=>nomatch h),λ⟨j,h,_⟩=>nomatch h]] ?_ ?_]
 .rintro t σ H4 ht ⟨o9,a4,a5,d,f,D,x4,y4,rfl,a1,a0,B,I,a3,e4,R,S,il,ul,F,ap,J⟩;have t4:t<4:=⋯
  have o4:=M.ex B;exists#[_,_,rfl,.inl #[_,cm.of (o4 _ _ N.en).2,rfl],?_];rw[vt];ac_nf;have r2:=Jy (x:=x4) (y:=y4) (m:=(⇑v:Int)) ⋯;have e:=JU (x:=x4) (m:=(⇑v:Int)) R S;erw[p,x4,y4,_,rfl,e4,⋯,⋯,R,S,λH5 x5 e5=>?_];generalize fU x4 y4 (⇑v:Int)=T2 at r2 e e5|-;obtain⟨j,ej⟩:∃j:Nat,T2.1=(j:Int):=#[T2.1.toNat,⋯]
  rw[ej]at r2|-;have al:j<⇑v:=⋯
  have a7:=B.trans x5;have o5:=M.ex a7;have U:=x5 _ _ a2 I;have W:=x5 _ _ a0 a3;clear x5 B o4 I a3 e4 R S;let⟨ma,ak,X,an,mw⟩:=N.mv al;have aM:fi (am.map V.ref) ((j:Nat):Int)=↥ma:=jV (by rw[vv,ak];rfl);exists cz (cm.of (o5 _ _ N.em).2) (aM) ?_;erw[ma,rfl,#[_,cm.of (o5 _ _ X).2],?_];erw[Jw (xs:=(G.getD j []).map V.str) (λi ys C=>ys=(((G.getD j []).take i).filter λs=>decide (s∈D)).map V.str/\H5=C) #[rfl,rfl] ?_ ?_ ?_]
  .rintro i ys C _ ⟨rfl,rfl⟩;rwa[cm.of (o5 _ _ X).2]
  .rintro i x ys C hx ⟨rfl,rfl⟩;rw[vv]at hx;let⟨k,aa,rfl⟩:=vg.mp hx;have ik:=(vx.mp aa).1;erw[Js (S':=[none,some _]) rfl ?_];exists#[d,_,rfl,.inl (cm.of W),rfl,mh _,?_];rw[CI];ac_nf;rw[take_snoc aa,filter_append];have lf:⇑(((G.getD j []).take i).filter λs=>decide (s∈D))<=8:=vW (length_filter_le _ _) (by rw[vi];lia);refine cH (λc=>?_) (λc=>?_)
   .exists#[by rw[vt];lia,?_,rfl];rw[vj,v9,vd (vG c),filter_nil];rfl
   .refine#[?_,rfl];rw[v9,vc (by rw[vH c];rwa[vF]),filter_nil,append_nil]
  rintro ys C ⟨rfl,rfl⟩;rw[show((G.getD j []).map V.str).length=⇑(G.getD j []) from vt _,v5];have lf:⇑((G.getD j []).filter λs=>decide (s∈D))<=8:=vW (length_filter_le _ _) an;have wf:∀x∈(G.getD j []).filter (λs=>decide (s∈D)),Ws.gn x=true:=λx hx=>mw x (vP.mp hx).1
  erw[by rw[vt];lia,?_];walk_at"f p5 hp5 H6 s6 t6";have o6:=o5.ex (.of s6);exists cz (cm.of (o6 _ _ N.em).2) (aM) ?_;exists#[va _,?_];sleep 7;have O:=s6.trans s7;erw[_,_,.lst (s7 _ _ (o6 _ _ X).2) (QY _),sY t7,nM mw,nK,?_];rw[nD];exists mu (λd1=>?_) (λd1=>?_)
  .exists#[va _,?_];sleep 8;have l:=O.trans s8;have a8:=a7.trans (.of l);erw[_,_,.lst (s8 _ _ (s7 _ _ t6)) (QY _),sY t8,nM wf,nK,?_];rw[nD];exists cH (λd2=>?_) (λd2=>?_)
   .exists#[.inl #[rfl,_,cm.of (l _ _ U)],?_];ac_nf;have o8:=M.ex a8;erw[cz (cm.of (o8 _ _ N.en).2) (ZN al) ?_];exists#[ps,_,_,rfl,rfl,l _ _ U,by rw[vt,vt];lia,?_];generalize eG:upd H8 ps _=H9;have e9:H9 ps⊂(.lst (((f++[j]).map λj=>v.getD j ⟨#[]⟩).map V.str)):=by
     rw[vj,vj];rwa[qV eG]
    have k9:∀c u,c≠ps->H8 c⊂u->H9 c⊂u:=λc u hc h=>eG▸(jh hc).trans h
    clear eG;have n9:∀{c u},H0 c⊂u->H9 c⊂u:=λ{c u} h=>k9 _ _ (ac (M _ _ h).2) (o8 _ _ h).2
    exists cz (cm.of (n9 N.em)) (aM) ?_;erw[d,ma,_,_,rfl,rfl,k9 _ _ a1 (l _ _ W),n9 X,by rw[vt,vt];lia,?_];sleep 10;ac_nf;have ah:=s10 _ _ (k9 _ _ a2.symm (l _ _ e5));erw[_,_,_,p10,f++[j],D++G.getD j [],_,_,rfl,(je e9 hp10).symm,(je (k9 _ _ a2.symm (l _ _ e5)) hp10).symm,λc u n h=>s10 _ _ (k9 _ _ (ac h) (a8 _ _ n h)),s10 _ _ e9,by rw[vj];rwa[t10],ah,e.1,e.2,by rw[vn];show _+1<=_;lia,by rw[vn];lia,λZ g=>?_,#[λZ g=>?_,List.pairwise_append.mpr #[ap.2,pairwise_singleton ..,λa ha b hb s Y ab=>?_]],λs=>?_]
    .rcases vh.mp g with z | z
     .exact F Z z
     .rw[vo.mp z];rwa[al]
    .rcases vh.mp g with z | z
     .exact ap.1 Z z
     .rw[vo.mp z];rwa[d1]
    .rw[vo.mp hb]at ab;have:s∈(G.getD j []).filter λs=>decide (s∈D):=vP.mpr #[ab,vG ((J s).mpr #[a,ha,Y])]
     rw[d2]at this;cases this
    .rw[vh,J];constructor
     .rintro(⟨Z,g,Y⟩ | Y)
      .exact#[Z,mem_append_left _ g,Y]
      .exact#[_,mem_append_right _ vq,Y]
     .rintro⟨Z,g,Y⟩;rcases vh.mp g with z | z
      .exact .inl #[Z,z,Y]
      .rw[vo.mp z]at Y;rwa[.inr Y]
   .ac_nf;rwa[_,_,_,d,f,D,_,_,rfl,a1,a0,a8,l _ _ U,l _ _ W,l _ _ e5,e.1,e.2,⋯,⋯,F,ap,J]
  .ac_nf;rwa[_,_,_,d,f,D,_,_,rfl,a1,a0,a7.trans (.of O),O _ _ U,O _ _ W,O _ _ e5,e.1,e.2,⋯,⋯,F,ap,J]
 rintro σ H4 ⟨o9,a4,a5,d,f,D,x4,y4,rfl,a1,a0,B,I,a3,e4,R,S,il,ul,F,ap,J⟩;exists#[_,_,rfl,.inl #[_,cm.of I,rfl],?_];rw[vt,vt];exists cH (λc2=>?_) (λc2=>?_)
 .ac_nf;have o4:=M.ex B;erw[cz (cm.of (o4 _ _ eb).2) rfl ?_];ac_nf;have r2:=Jy (x:=x4) (y:=y4) ae;erw[p,x4,y4,_,rfl,e4,⋯,⋯,R,S,λH5 x5 e5=>?_];exists#[ub,?_];walk_at"f b6 hb6 H6 s6 t6";rwa[q b6 (.hold (1+(fU x4 y4 b0).1)) H6 (B.trans (x5.trans (.of s6))) t6 #[⋯,⋯]]
 exists#[ps,_,rfl,.inl #[cm.of I,?_]];walk_at"f b5 hb5 H5 s5 t5";exists#[ub,?_];walk_at"f b6 hb6 H6 s6 t6";rwa[q b6 (.side f) H6 (B.trans (.of (s5.trans s6))) #[b5,t6,s6 _ _ t5] #[⋯,⋯,F,ap.n N.il]]
def Ki:4<*t.zb t.zd ["_law_pool","_law_names","_law_movers","_law_limbs","_law_bounds"] (iR):=by
 specialize T.yf.F.ok JT;let⟨p,nl,ml,pl,bd,x,y,H0,aa,ac,F,X,Ms,b0,b1,b2,b3,b4,rfl,ep,y0,y1,of,N,R,Bd,q⟩:=h;erw[_,#v["61řm(HKwÝ*ēĖ#ºʧʨ¦&a*#')O<ř@m=)m(PVÚö*6Fřc%mB%?¥a:-m­)+Vn*6jřç§»:::³Œ#´y(?¤:=ImBI+b+"],?_]
 rotate_right 504
 have ad:=N.uv;let⟨eb,l,n,o,u,S,a0,a1,a2,a3,a4⟩:=Bd;ac_nf;have r:=Jy (x:=x) (y:=y) (m:=8) ⋯;have b:=JU (x:=x) (m:=8) y0 y1;erw[p,x,y,_,rfl,ep,⋯,⋯,y0,y1,λH1 x1 e1=>?_];generalize fU x y 8=T at r b e1|-;have o1:=of.ex x1;exists cH (λc=>?_) (λc=>?_)
 .exists#[va _,?_];walk_at"f e3 he3 H3 s3 t3";have o3:=o1.ex (.of s3);erw[_,_,.lst (o3 _ _ N.en).2 (QY _),sY t3,nM N.w,nK,?_];rw[nD];exists mu (λd=>?_) (λd=>?_)
  .ac_nf;rwa[p,nl,ml,bd,_,_,_,H0,aa,_,X,Ms,b0,b1,b2,b3,b4,rfl,s3 _ _ e1,b.1,b.2,o3,N,length_pos_iff.mpr d,#[eb,l,n,o,u,S,a0,a1,a2,a3,a4],λa f H' x' hf ab=>q a f H' (x1.trans ((Ex.of s3).trans x')) hf ab]
  .ac_nf;have G:=Jy (x:=T.2.1) (y:=T.2.2) (m:=2) ⋯;have e:=JU (x:=T.2.1) (m:=2) b.1 b.2;erw[p,_,_,_,rfl,s3 _ _ e1,⋯,⋯,b.1,b.2,λH4 Z U=>?_];generalize fU T.2.1 T.2.2 2=T2 at G e U|-;have o4:=o3.ex Z;let⟨L,C,B,a5⟩:=rY (b2:=b2) (b3:=b3) (b4:=b4) #[l,n] #[o,u] G.1 G.2;erw[cz (cm.of (o4 _ _ eb).2) (C) ?_];ac_nf;have r3:=Jy (x:=T2.2.1) (y:=T2.2.2) (m:=L) B;erw[p,_,_,_,rfl,U,⋯,⋯,e.1,e.2,λH5 x5 W=>?_];exists cH (λc3=>?_) (λc3=>?_)
   .exact ud c3 ⋯
   exists cH (λc4=>?_) (λc4=>?_)
   .exact ud c4 ⋯
   exists#[ub,?_];walk_at"f b6 hb6 H6 s6 t6";rwa[q b6 (.hold (1+(fU T2.2.1 T2.2.2 L).1)) H6 (x1.trans ((Ex.of s3).trans (Z.trans (x5.trans (.of s6))))) t6 #[⋯,⋯]]
 erw[gQ ?_];ac_nf;have G:=Jy (x:=T.2.1) (y:=T.2.2) (m:=2) ⋯;have e:=JU (x:=T.2.1) (m:=2) b.1 b.2;erw[p,_,_,_,rfl,e1,⋯,⋯,b.1,b.2,λH4 Z U=>?_];generalize fU T.2.1 T.2.2 2=T2 at G e U|-;have o4:=o1.ex Z;let⟨L,C,B,a5⟩:=rY (b2:=b2) (b3:=b3) (b4:=b4) #[l,n] #[o,u] G.1 G.2;erw[cz (cm.of (o4 _ _ eb).2) (C) ?_];ac_nf;have r3:=Jy (x:=T2.2.1) (y:=T2.2.2) (m:=L) B;have g:=JU (x:=T2.2.1) (m:=L) e.1 e.2;erw[p,_,_,_,rfl,U,⋯,⋯,e.1,e.2,λH5 x5 W=>?_];generalize fU T2.2.1 T2.2.2 L=T3 at r3 g W|-;have o5:=o4.ex x5;have I:=x1.trans (Z.trans x5);have l1:=R.l1;have a9:=R.la.1;have l8:=N.l8;rw[show(cb F).length=⇑F from vt _]at l8;exists cH (λc3=>?_) (λc3=>?_)
 .exists#[_,_,rfl,.inl #[_,cm.of (o5 _ _ R.el).2,rfl],?_];rw[vt,a9];ac_nf;have O:=Jy (x:=T3.2.1) (y:=T3.2.2) (m:=(⇑F:Int)) ⋯;have J:=JU (x:=T3.2.1) (m:=(⇑F:Int)) g.1 g.2;erw[p,_,_,_,rfl,W,⋯,⋯,g.1,g.2,λH6 x6 e6=>?_];generalize fU T3.2.1 T3.2.2 (⇑F:Int)=T4 at O J e6|-;obtain⟨j,ej⟩:∃j:Nat,T4.1=(j:Int):=#[T4.1.toNat,⋯]
  rw[ej]at O|-;have jl:j<⇑F:=⋯
  have o6:=o5.ex x6;let⟨lk,a7,a6⟩:=R.la.get (vz jl);erw[cz (cm.of (o6 _ _ R.el).2) (jV (j:=j) (by rw[vv,a7];rfl)) ?_];exists eQ (cL.of (o6 _ _ a6).2) rfl ?_;exists cz (cm.of (o6 _ _ eb).2) rfl ?_;ac_nf;have r5:=Jy (x:=T4.2.1) (y:=T4.2.2) (m:=b2) S;erw[p,_,_,_,rfl,e6,⋯,⋯,J.1,J.2,λH7 x7 e7=>?_];generalize fU T4.2.1 T4.2.2 b2=T5 at r5 e7|-;exists#[uA,?_];walk_at"f b6 hb6 H8 s8 t8";erw[q b6 (.rise F[j].1 T5.1 (1+T3.1)) H8 (I.trans (x6.trans (x7.trans (.of s8)))) t8 #[#[j,?_],r5.1,⋯,⋯,⋯]];unfold cb;rw[vv,vz jl];rfl
 exists cH (λc4=>?_) (λc4=>?_)
 .exists#[ua,?_];walk_at"f b3' hb3' H6 s6 t6";exists#[nl,_,rfl,cm.of (s6 _ _ (o5 _ _ N.en).2),?_];walk_at"f b4' hb4' H7 s7 t7";have cl:=ZQ (X.map V.str) none (some 1);rw[vt]at cl;erw[b3',b4',_,_,rfl,rfl,s7 _ _ t6,t7,by show 3+_<=sizeLine;lia,?_];walk_at"f b5' hb5' H8 s8 t8";have Y:=s6.trans (s7.trans s8);have n5:b5'≠p:=(je (s7 _ _ (s6 _ _ W)) hb5').symm;exists#[_,_,rfl,.inl #[_,cm.of t8,rfl],?_];ac_nf;have O:=Jy (x:=T3.2.1) (y:=T3.2.2) (m:=((([V.str "ding",V.str "dong",V.str "din"]++g4 (X.map V.str) none (some 1)).length:Nat):Int)) (by rw[vn];show 1<=(((3+_:Nat)):Int);lia);erw[p,_,_,_,rfl,Y _ _ W,by rw[vn];show 1<=(((3+_:Nat)):Int);lia,by rw[vn];show(((3+_:Nat)):Int)<=_;lia,g.1,g.2,λH9 x9 e9=>?_];generalize fU T3.2.1 T3.2.2 ((([V.str "ding",V.str "dong",V.str "din"]++g4 (X.map V.str) none (some 1)).length:Nat):Int)=T4 at O e9|-;have a8:∀v∈[V.str "ding",V.str "dong",V.str "din"]++g4 (X.map V.str) none (some 1),∃w:Str,v = .str w/\Ws.gn w=true:=λv hv=>by
   rcases vh.mp hv with z | z
   .rcases mem_cons.mp z with rfl | z
    .exact#[_,rfl,by trivial]
    .rcases mem_cons.mp z with rfl | z
     .exact#[_,rfl,by trivial]
     .rw[vo.mp z];rwa[_,rfl,by trivial]
   .let⟨w',D,rfl⟩:=vK.mp (DP z);rwa[w',rfl,N.w w' D]
  let⟨w',D,ww⟩:=CP (k:=T4.1) a8 O.1 O.2;erw[cz (cm.of (x9 _ _ n5 t8)) (D) ?_];exists#[ua,?_];walk_at"f b8 hb8 H10 s10 t10";rwa[q b8 (.ring w' (1+T3.1)) H10 (I.trans ((Ex.of Y).trans (x9.trans (.of s10)))) t10 #[⋯,⋯,ww]]
 exists#[ub,?_];walk_at"f b6 hb6 H6 s6 t6";rwa[q b6 (.hold (1+T3.1)) H6 (I.trans (.of s6)) t6 #[⋯,⋯]]
def Kh:5<*t.za t.zc ["_law_script","_law_many","_law_bounds"] (fO K):=by
 specialize T.ye.F.ok jE;let⟨a,bd,ns,B,b0,b1,b2,b3,b4,rfl,hS,au,m2,b6,Bd,q⟩:=h;erw[_,#v["60G§`½lƔƕƖà((o2GĒ%(1G9H¯x@Ē%(<Gq*5EŚś)+Ē%ĎOFGĒ%Wę(#ojGĒ%(ĀG9oÍG9āGëċĮGxW#<G6ÎGlƔƕƖà@+JƗG§`7ÎÂ7Î@+Öå7ÎÄÛ(7Ɨ(äÏGºʫʬ¦7ƗaNY*'¡wÒ+#nIÏGb~ǝǞNfĎ¡UńEŜŝ7ÏfĎÏGb([Y~ǟǠ7ÏNYäįGEŚś)@+¡Ò+-įGc*Q+B*[N7į[Ĝ57į7Ïèf7įEŜŝ7Ïf55*Ĝuf=N#"],?_]
 rotate_right 314
 let⟨eb,aD,aE,aF,aG,al,aH,aI,aJ,am,an⟩:=Bd;exists#[a,ns,_,rfl,hS,au,⋯,?_];erw[_,rfl,?_];exists#[ub,?_];walk_at"f po hpo H1 s1 t1";generalize(if Pr.cell ns 0<0 then -Pr.cell ns 0 else Pr.cell ns 0)/2=x0 at t1;ac_nf;have r1:=Jy (x:=x0) (y:=7) (m:=3) ⋯;have y1:=JU (x:=x0) (y:=7) (m:=3) nofun nofun;erw[po,_,_,_,rfl,t1,⋯,⋯,⋯,⋯,λH2 x2 e2=>?_];generalize fU x0 7 3=T1 at r1 y1 e2|-;obtain⟨p,e3⟩:∃p:Nat,T1.1=(p:Int):=#[T1.1.toNat,⋯]
 have hp:p<3:=⋯
 have s2:cj H H2:=λc u h=>x2 _ _ (je h hpo) (s1 _ _ h)
 rw[e3];clear s1 x2;exists#[va _,?_];walk_at"f pl hpl H3 s3 t3";have a0:pl≠po:=(je e2 hpl).symm;ac_nf;have r2:=Jy (x:=T1.2.1) (y:=T1.2.2) (m:=4) ⋯;have y2:=JU (x:=T1.2.1) (m:=4) y1.1 y1.2;erw[po,_,_,_,rfl,s3 _ _ e2,⋯,⋯,y1.1,y1.2,λH4 x4 e4=>?_];generalize fU T1.2.1 T1.2.2 4=T2 at r2 y2 e4|-;have s4:cj H H4:=λc u h=>x4 _ _ (je h hpo) (s3 _ _ (s2 _ _ h))
 have t4:=x4 _ _ a0 t3;have av:H pl=none:=none_of s2 hpl;clear s2 s3 x4 t3 hpl;exists#[_,rfl,⋯,⋯,?_];erw[Qp (λi σ H'=>oh λ(o6:N5) (D:L7) (o:L4) (x y:Int)=>tq (σ=[↥a,some (.int (B:Nat)),↥bd,↥po,some (.int (p:Nat)),↥pl,o6,none,none,none,none,none,none,none,none,none,none]) (cj H H') (H' pl⊂(.lst (D.map V.ref))) (cp (fI H') D o) (cb o=nV p i) (⇑o=i) (∀q∈o,0<=q.2/\q.2<=10^18) (H' po⊂(.lst [.int x,.int y])) (0<=y/\y<10^30+57)) #[_,[],[],_,_,rfl,s4,t4,.nil,rfl,rfl,(λq h=>nomatch h),e4,y2] ?_ ?_]
 .rintro i σ H' hi ⟨o6,D,o,x,y,rfl,F,el,la,nm,ll,lh,ep,y0,a2⟩;have i4:i<4:=⋯
  have ax:=la.1;exists#[.inl #[rfl,_,cm.of el],?_];exists#[p,i,by rw[uw];rfl,hp,⋯,?_];exists cz (cm.of (F _ _ eb)) rfl ?_;ac_nf;have r3:=Jy (x:=x) (y:=y) (m:=b2) al;have y3:=JU (x:=x) (m:=b2) y0 a2;erw[po,_,_,_,rfl,ep,⋯,⋯,y0,a2,λH2 x2 e2=>?_];generalize fU x y b2=T3 at r3 y3 e2|-;have kp:∀c xs,H' c⊂.tup xs->H2 c⊂(.tup xs):=λc xs h=>x2 _ _ (JC h ep λz=>by cases z) h
  have ap:=x2 _ _ a0 el;exists#[ub,?_];sleep 3;exists#[pl,_,_,rfl,rfl,s3 _ _ ap,by rw[vt];lia,?_];have kt:∀c xs,H3 c⊂.tup xs->upd H3 pl (.lst (D.map V.ref++[.ref p3])) c⊂(.tup xs):=λc xs h=>(jh (JC h (s3 _ _ ap) λz=>by cases z)).trans h
  erw[_,D++[p3],o++[(lA p i,T3.1)],_,_,rfl,λc u h=>?_,by rw[jy,vj];rfl,(la.mono λc x h=>kt _ _ (s3 _ _ (kp _ _ h))).snoc (kt _ _ t3),?_,by rw[vn,ll];rfl,λq hq=>?_,(jh a0.symm).trans (s3 _ _ e2),y3]
  .exact(jh (je h av)).trans (s3 _ _ (x2 _ _ (je h hpo) (F _ _ h)))
  .rw[DA,<-nm];unfold cb;rw[vj];rfl
  .rcases vh.mp hq with z | z
   .exact lh q z
   .rw[vo.mp z];rwa[r3.1,by show T3.1<=10^18;lia]
 rintro S' H5 ⟨o6,D,o,x,y,rfl,aA,aq,ad,nm,ll,lh,a3,y0,a2⟩;clear s4 t4 e4 e2 H2 H3 H4;have m1:1<=⇑o:=⋯
 have m4:⇑o<=4:=⋯
 replace nm:cb o=nV p ⇑o:=by rw[nm,ll]
 let⟨ae,lW⟩:=E4 (m:=⇑o) hp ⋯;rw[<-nm]at ae lW;clear ll;have Ll:⇑(cb o)=⇑o:=vt _;have ax:=ad.1;ac_nf;have r3:=Jy (x:=x) (y:=y) (m:=2*(B:Int)+2) ⋯;have y3:=JU (x:=x) (m:=2*(B:Int)+2) y0 a2;erw[po,_,_,_,rfl,a3,⋯,⋯,y0,a2,λH6 x6 e6=>?_];generalize fU x y (2*(B:Int)+2)=T3 at r3 y3 e6|-;have r4:=Jy (x:=T3.2.1) (y:=T3.2.2) (m:=2) ⋯;exists#[po,_,_,_,rfl,e6,⋯,⋯,y3.1,y3.2,λH2 x7 e7=>?_];generalize fU T3.2.1 T3.2.2 2=T4 at r4 e7|-;have F:cj H H2:=λc u h=>x7 _ _ (je h hpo) (x6 _ _ (je h hpo) (aA _ _ h))
 have el:=x7 _ _ a0 (x6 _ _ a0 aq);have la:cp (fI H2) D o:=ad.mono λc x h=>x7 _ _ (JC h a3 λz=>by cases z) (x6 _ _ (JC h a3 λz=>by cases z) h)
 clear aA aq ad x6 x7 e6 e7 a3 H5 H6;obtain⟨O,aO⟩:∃O:Nat,T3.1=(O:Int):=#[T3.1.toNat,⋯]
 rw[aO];generalize T4.1=en4;let⟨nd,nW⟩:=EO (p:=p) (st:=5) (c:=O) (m:=⇑o) hp m1 ⋯ ⋯;have ng:∀{k:Nat},k<17->(oF p 5 O ⇑o).getD k ⟨#[]⟩=lA p (nU 5 O ⇑o k):=λh=>Ep h
 have nL:=Er (p:=p) (st:=5) (c:=O) (m:=⇑o);generalize oF p 5 O ⇑o=names at nd nW ng nL;exists#[va _,?_];walk_at"f nl hnl H3 s3 t3";exists#[va _,?_];walk_at"f ml hml H4 s4 t4";ac_nf;walk_at"f d hd' H5 s5 t5";exists#[va _,?_];walk_at"f pp hpp H6 s6 t6";have aj:=s4.trans (s5.trans s6);have a8:=s3.trans aj;have BB:nO pl nl ml d pp D [] [] o names [] [] [] b4 H6:=by
  erw[#[aj _ _ t3,s6 _ _ (s5 _ _ t4),.nil,(λks hk=>nomatch hk),rfl,va _,⋯,(λx hx=>nomatch hx),lW],#[a8 _ _ el,la.mono λc x h=>a8 _ _ h,m1],s6 _ _ t5,t6,.nil,#[rfl,rfl,(λi f h=>by simp at h),λi h=>ud h (Nat.not_lt_zero i)],λj Y=>ud Y (Nat.not_lt_zero j),va _]
 have SS:pW pl nl ml pp bd []:=#[je el hnl,je (s3 _ _ el) hml,je (s5 _ _ (s4 _ _ (s3 _ _ el))) hpp,je t3 hml,je (s5 _ _ (s4 _ _ t3)) hpp,je (s5 _ _ t4) hpp,je (F _ _ eb) hnl,je (s3 _ _ (F _ _ eb)) hml,je (s5 _ _ (s4 _ _ (s3 _ _ (F _ _ eb)))) hpp,(λx hx=>nomatch hx)]
 have aS:H nl=none:=none_of F hnl;have aR:H ml=none:=none_of (F.trans s3) hml;have aQ:H d=none:=none_of (F.trans (s3.trans s4)) hd';have aT:H pp=none:=none_of (F.trans (s3.trans (s4.trans s5))) hpp;have aY:=F.trans a8;clear a8 aj t3 t4 t5 t6 el la F s3 s4 s5 s6 hnl hml hd' hpp;exists#[_,rfl,⋯,⋯,?_];refine Qp (λi σ H'=>pU λ(o5 ah ai a6 R:N5) (M G:L7) (v:List Fn) (W:List L8) (X:L5)=>fH (σ=[↥a,some (.int (B:Nat)),↥bd,↥po,some (.int (p:Nat)),↥pl,o5,some (.int (O:Nat)),~~~en4,↥nl,↥ml,↥d,↥pp,ah,ai,a6,R]) (cj H H') (nO pl nl ml d pp D M G o names v W X b4 H') (pW pl nl ml pp bd G/\⇑v=i))
  #[_,_,_,_,_,[],[],[],[],[],rfl,aY,BB,SS,rfl] ?_ ?_
 .rintro i σ H7 hi ⟨o5,ah,ai,a6,R,M,G,v,W,X,rfl,F,C,S,fl⟩;have aV:i<17:=⋯
  have tl:⇑(names.take ⇑v)=⇑v:=by rw[vi];lia
  have b8:⇑M=⇑v:=C.pa.1.trans j3;have gl:=C.dk.gl;have Ml:⇑W=⇑v:=by have:=C.n.ml;lia
  have b7:⇑G=⇑v:=by have:=C.n.am.1;lia
  have U:(names.take ⇑v).Nodup:=nd.sublist (take_sublist _ _);have af:∀j,j<⇑v->1<=X∘j/\X∘j<=b4:=λj Y=>#[(C.dk.g j Y).1,C.gb j Y]
  exists#[a,ns,_,rfl,F.seq hS,au,⋯,?_];erw[_,rfl,?_];ac_nf;generalize(if Pr.cell ns (1+(0+(i:Int)))<0 then -Pr.cell ns (1+(0+(i:Int)))else Pr.cell ns (1+(0+(i:Int))))=num;erw[_,_,rfl,⋯,⋯,?_];have nb:=yr num (1+(0+(i:Int)));generalize fM num (1+(0+(i:Int)))=yo at nb|-;exists#[ub,?_];walk_at"f ow how Ha sa ta";exists#[λS' H'=>dW λ(xo:Int)=>dY (S'=[↥a,some (.int (B:Nat)),↥bd,↥po,some (.int (p:Nat)),↥pl,some (.int (0+(i:Int))),some (.int (O:Nat)),~~~en4,↥nl,↥ml,↥d,↥pp,~~~num,↥ow,a6,R]) (cj H7 H'/\H' ow⊂(.lst [.int xo,.int yo])),?_,?_]
  rotate_left
  .exists cH (λc=>?_) (λc=>?_)
   .exists#[ow,_,_,0,rfl,rfl,ta,rfl,?_];rwa[0,rfl,λc u h=>(jh (je h how)).trans (sa _ _ h),jy]
   .ac_nf;rwa[num,rfl,sa,ta]
  rintro S' Hb ⟨xo,rfl,sb,tb⟩;have ob:Off ow H7 Hb:=λc u h=>#[je h how,sb _ _ h]
  exists#[ow,nl,ml,pl,bd,xo,yo,H7,G,D,o,names.take ⇑v,W,b0,b1,b2,b3,b4,rfl,tb,nb.1,nb.2,ob,C.n,C.l,#[F _ _ eb,aD,aE,aF,aG,al,aH,aI,aJ,am,an],λar f0 H8 x8 aa N=>?_];have s8:cj H7 H8:=(ob.ex x8).same;rw[tl]at N;have C8:=C.same s8;exists#[λS' H'=>gM λ(fa:Addr) (f:Fn)=>mO (S'=[↥a,some (.int (B:Nat)),↥bd,↥po,some (.int (p:Nat)),↥pl,some (.int (0+(i:Int))),some (.int (O:Nat)),~~~en4,↥nl,↥ml,↥d,↥pp,~~~num,↥ow,↥fa,R]) (cj H8 H') (cw H' fa (cV (names.take ⇑v) f)/\eJ (cb o) (W.map (ib (cb o))) ⇑v f),?_,?_]
  rotate_left
  .exists cH (λc=>?_) (λc=>?_)
   .exists cH (λc2=>?_) (λc2=>?_)
    .exists cz (cm.of (s8 _ _ (F _ _ eb))) rfl ?_;exists#[nl,d,names.take ⇑v,X,b4,rfl,C8.n.en,C8.ed,U,⋯,⋯,⋯,λj Y=>af j ⋯,λb is H9 s9 e9 ne l5 jl=>?_];exists#[ub,?_];walk_at"f fa hfa H10 s10 t10";ac_nf;rwa[fa,.row is,rfl,s9.trans s10,#[b,t10,s10 _ _ e9],ne,⋯,λj Y=>by have:=jl j Y;lia]
    .ac_nf;rwa[ar,f0,rfl,cj.refl _,aa,N]
   .ac_nf;rwa[ar,f0,rfl,cj.refl _,aa,N]
  rintro S' H9 ⟨as,f1,rfl,s9,ab,a1⟩;have C9:=C8.same s9;have ak:=F.trans (s8.trans s9);clear C8 C aa N s8 s9 F;exists#[λS' H'=>i5 λ(fa:Addr) (f:Fn) (g:Int)=>mP (S'=[↥a,some (.int (B:Nat)),↥bd,↥po,some (.int (p:Nat)),↥pl,some (.int (0+(i:Int))),some (.int (O:Nat)),~~~en4,↥nl,↥ml,↥d,↥pp,~~~num,↥ow,↥fa,R]) (cj H9 H') (cw H' fa (cV (names.take ⇑v) f)) (eJ (cb o) (W.map (ib (cb o))) ⇑v f) (gf X f g/\g<=b4),?_,?_]
  rotate_left
  .exists#[as,d,f1,names.take ⇑v,X,cb o,W.map (ib (cb o)),rfl,ab,C9.ed,U,⋯,by rw[tl];rwa[a1],λj Y=>by have:=af j ⋯;lia,λg H10 s10 lg=>?_];exists cz (cm.of (s10 _ _ (ak _ _ eb))) rfl ?_;exists cH (λc=>?_) (λc=>?_)
   .exists#[ub,?_];walk_at"f fa hfa H11 s11 t11";ac_nf;rwa[fa,.hold 1,1,rfl,s10.trans s11,t11,#[by decide,by decide],rfl,am]
   .ac_nf;rwa[as,f1,g,rfl,s10,cw.same s10 ab,a1,lg,⋯]
  rintro S' H10 ⟨fa,f,g,rfl,s10,hf,a7,lg,gb⟩;have n:=C9.same s10;have az:=ak.trans s10;clear C9 ab a1 s10 ak;exists#[.inl #[rfl,_,cm.of n.n.em],?_];exists#[fa,nl,ml,G,f,names.take ⇑v,W,cb o,W.map (ib (cb o)),rfl,hf,n.n.en,n.n.em,n.n.am,U,⋯,⋯,by rw[tl];rwa[a7],λks hk=>by have:=n.n.il.len hk;lia,λl ks H11 s11 hl el mv kl=>?_];exists#[ml,_,_,rfl,rfl,s11 _ _ n.n.em,by rw[vt];lia,?_];generalize I:upd H11 ml _=H12;have aK:H12 ml⊂(.lst ((G++[l]).map V.ref)):=by rw[vj];rwa[qV I]
  have aw:∀c u,c≠ml->H11 c⊂u->H12 c⊂u:=λc u hc h=>I▸(jh hc).trans h
  clear I;have k2:∀c u,c≠ml->H10 c⊂u->H12 c⊂u:=λc u hc h=>aw c u hc (s11 _ _ h)
  have L:∀{c u},H10 c⊂u->l≠c:=λh=>(je h hl).symm
  have ao:=aw _ _ (L n.n.em) el;have a4:d≠ml:=JC n.ed n.n.em (λz=>by cases z);have a5:d≠nl:=JC n.ed n.n.en (λz=>by cases z);have ag:d≠pp:=JC n.ed n.ep (λz=>by cases z);exists#[p,5+i,by rw[show(5+(0+(i:Int)))=((5+i:Nat):Int) by lia];rfl,hp,⋯,?_];exists#[λS' H'=>S'=[↥a,some (.int (B:Nat)),↥bd,↥po,some (.int (p:Nat)),↥pl,some (.int (0+(i:Int))),some (.int (O:Nat)),~~~en4,↥nl,↥ml,↥d,↥pp,~~~num,↥ow,↥fa,some (.str (names.getD ⇑v ⟨#[]⟩))]/\H12=H',?_,?_]
  rotate_left
  .have nk:=ng aV;rw[<-fl]at nk;exists cH (λc=>?_) (λc=>?_)
   .have ic:i=O:=⋯
    exists#[_,_,rfl,.inl #[_,cm.of (k2 _ _ S.lm n.l.el),rfl],?_];rw[vt,ax];ac_nf;rw[show(0+(i:Int))%(⇑o:Int)=((i%⇑o:Nat):Int) by rw[uw];rwa[(Int.natCast_emod _ _).symm]];have jm:=Nat.mod_lt i (show 0<⇑o by lia);let⟨lk,aU,aP⟩:=n.l.la.get (vz jm);have a9:H10 lk⊂(.tup [.str (o[i%⇑o]).1,.int (o[i%⇑o]).2]):=aP;erw[cz (cm.of (k2 _ _ S.lm n.l.el)) (jV (j:=i%⇑o) (by rw[vv,aU];rfl)) ?_];exists cx (k2 _ _ (JC a9 n.n.em λz=>by cases z) a9) ?_;exists#[?_,rfl];have ew:(o[i%⇑o]).1=lA p (i%⇑o):=by
     have h1:(cb o)[i%⇑o]?⊂(o[i%⇑o]).1:=by unfold cb;rw[vv,vz jm];rfl
     rw[nm,E3 jm]at h1;rwa[(vL h1).symm]
    rw[nk,fl];unfold nU;rw[vd ic,ew]
   .exists#[?_,rfl];rw[nk,fl];unfold nU;rw[vc ⋯]
  rintro S' aZ ⟨rfl,rfl⟩;exists#[.inl #[rfl,_,cm.of (k2 _ _ S.nm n.n.en)],?_];exists#[nl,_,_,rfl,rfl,k2 _ _ S.nm n.n.en,by rw[vt];lia,?_];generalize I:upd H12 nl _=H13;have aL:H13 nl⊂(.lst ((names.take (⇑v+1)).map V.str)):=by
   rw[take_snoc (show names[⇑v]?⊂(names.getD ⇑v ⟨#[]⟩) by rw[vy,vz ⋯];rfl),vj];rwa[qV I]
  have ac:∀c u,c≠nl->H12 c⊂u->H13 c⊂u:=λc u hc h=>I▸(jh hc).trans h
  clear I;have b5:fi ((names.take (⇑v+1)).map V.str) (0+(i:Int))⊂(.str (names.getD ⇑v ⟨#[]⟩)):=by
   rw[<-fl,uw];erw[jV ?_];rw[vv,List.getElem?_take_of_lt ⋯,vy,vz ⋯];rfl
  have k3:∀c u,c≠ml->c≠nl->H10 c⊂u->H13 c⊂u:=λc u h1 h2 h=>ac c u h2 (k2 c u h1 h)
  exists#[.inl #[rfl,_,cm.of (k3 _ _ S.mp.symm S.np.symm n.ep)],?_];exists#[ub,?_];walk_at"f c hc H14 s14 t14";exists#[pp,_,_,rfl,rfl,s14 _ _ (k3 _ _ S.mp.symm S.np.symm n.ep),by rw[vt];lia,?_];generalize I:upd H14 pp _=H15;have aM:H15 pp⊂(.lst ((M++[c]).map V.ref)):=by rw[vj];rwa[qV I]
  have Z:∀c u,c≠pp->H14 c⊂u->H15 c⊂u:=λc u hc h=>I▸(jh hc).trans h
  clear I;have k4:∀c u,c≠ml->c≠nl->c≠pp->H10 c⊂u->H15 c⊂u:=λc u h1 h2 h3 h=>Z c u h3 (s14 _ _ (k3 c u h1 h2 h))
  have kt:∀c xs,H10 c⊂.tup xs->H15 c⊂(.tup xs):=λc xs h=>k4 c _ (JC h n.n.em λz=>by cases z) (JC h n.n.en λz=>by cases z) (JC h n.ep λz=>by cases z) h
  have aX:c≠pp:=(je (k3 _ _ S.mp.symm S.np.symm n.ep) hc).symm;exists#[fa,d,f,names.take ⇑v,X,cb o,W.map (ib (cb o)),rfl,cw.keep kt hf,k4 _ _ a4 a5 ag n.ed,U,⋯,by rw[tl];rwa[a7],λj Y=>by have:=af j ⋯;lia,λg' aC ay aW=>?_];obtain rfl:=lg.uniq aW;exists#[d,_,rfl,gw.k (k:=Sum.inr (names.getD ⇑v ⟨#[]⟩)) (ay _ _ (k4 _ _ a4 a5 ag n.ed)) (by rw[Eh ⋯];lia),?_];have xn:names.getD ⇑v ⟨#[]⟩∉names.take ⇑v:=λz=>by
   let⟨j,Y,e⟩:=mem_iff_getElem.mp z;rw[getElem_take]at e;have jl:j<⇑v:=by rw[tl]at Y;rwa[Y]
   have e2:names[j]?⊂(names.getD ⇑v ⟨#[]⟩):=by rw[vz ⋯,e]
   have e3:names[⇑v]?⊂(names.getD ⇑v ⟨#[]⟩):=by rw[vy,vz ⋯];rfl
   have:=jZ nd e2;have:=jZ nd e3;lia
  rw[Ei ⋯ xn];generalize I:upd aC d _=H17;have aN:H17 d⊂(.dK (fD (names.take (⇑v+1)) (X++[g]))):=by
   rw[take_snoc (show names[⇑v]?⊂(names.getD ⇑v ⟨#[]⟩) by rw[vy,vz ⋯];rfl)];rwa[qV I]
  have J:∀c u,c≠d->H15 c⊂u->H17 c⊂u:=λc u hc h=>I▸(jh hc).trans (ay _ _ h)
  clear I;have aB:=n.add (fa:=fa) (l:=l) (c:=c) (f:=f) (ks:=ks) (g:=g) (H':=H17) S (by rw[<-xu a7];rwa[hf]) a7 mv lg gb an ⋯ ⋯ nW (λx u h1 h2 h3 h4 h=>J _ _ h4 (k4 _ _ h1 h2 h3 h)) (J _ _ a4.symm (Z _ _ S.mp (s14 _ _ (ac _ _ S.nm.symm aK)))) (J _ _ (L n.ed) (Z _ _ (L n.ep) (s14 _ _ (ac _ _ (L n.n.en) ao)))) (J _ _ a5.symm (Z _ _ S.np (s14 _ _ aL))) (J _ _ ag.symm aM) (J _ _ (JC t14 (s14 _ _ (k3 _ _ a4 a5 n.ed)) λz=>by cases z) (Z _ _ aX t14)) aN;rwa[_,_,_,_,_,M++[c],G++[l],v++[f],W++[ks],X++[g],rfl,λx u h=>J _ _ (je h aQ) (k4 _ _ (je h aR) (je h aS) (je h aT) (az _ _ h)),aB,S.add #[L n.n.en,L n.n.em,L n.ep],by rw[vn,fl];rfl]
 rintro S' H7 ⟨o5,ah,ai,a6,R,M,G,v,W,X,rfl,F,C,S,fl⟩
 replace fl:⇑v=B+1:=⋯
 have gl:=C.dk.gl;have tl:⇑(names.take ⇑v)=⇑v:=by rw[vi];lia
 have U:(names.take ⇑v).Nodup:=nd.sublist (take_sublist _ _);exists#[ub,?_];walk_at"f b hbb H8 s8 t8";have C8:=C.same s8;exists cz (cm.of C8.n.en) (ZN (j:=B) ⋯) ?_;have g:=du.k (k:=Sum.inr ((names.take ⇑v).getD B ⟨#[]⟩)) C8.ed;rw[kZ U ⋯ ⋯]at g;erw[d,_,rfl,g,?_];exists#[ub,?_];walk_at"f r hr' H9 s9 t9";rwa[q r b pl pp D M names o v _ X H9 (F.trans (s8.trans s9)) (by rw[show ⇑v-1=B by lia];rwa[t9]) ((C8.book t8).same s9) C.dk (C.dk.sn C.fl nd ae ⋯ ⋯ ⋯ lh) fl nL nd nW m1 ⋯ ae lW S.lp C.gb]
def FV:6<*t.Yk t.Yp ["_law_script","_law_many","_law_bounds"] (fO K):=by
 specialize T.wx.F.ok jS;let⟨a,bd,ns,y,b0,b1,b2,b3,b4,rfl,hS,a1,m2,aS,Bd,q⟩:=h;erw[_,#v["AKUǄlƔƕƖà(ÄČʭʮ&'o0TÂÂà(((2T9H¯x@Þ%1T6<TQĚ%=§a((((*Ďq)5EŚśv%*+OFT9ojT9ĀTëċÍTxW#1T6āTÂÂà@*@*@*äĮTºʯʰ¦fa-I)'¡wÒ*#nÞ%ĮTb~ǝǞ-NĎ¡UńEŜŝĜNĎĮTb([I~ǟǠĜ-IäÎTEŚśv%@*¡wÒ*Q½%W#nÞ%ÎTc)Q*B)[-7Î[Y5=-*ĜèN=-*EŜŝĜN5âYuN=-#"],?_]
 rotate_right 311
 have au:=Bd;let⟨eb,ax,ay,az,aA,aB,aC,aD,aE,al,am⟩:=Bd;exists#[a,ns,_,rfl,hS,a1,⋯,?_];erw[_,rfl,?_];exists cH (λc=>?_) (λc=>?_)
 .ac_nf;rwa[a,bd,ns,y,b0,b1,b2,b3,b4,rfl,hS,a1,m2,aS,au,q]
 clear c;exists#[a,ns,_,rfl,hS,a1,⋯,?_];exists#[_,_,rfl,⋯,⋯,?_];exists#[_,_,rfl,⋯,⋯,?_];have hb:=yr (fM (Pr.cell ns 0) 0) 90;generalize fM (fM (Pr.cell ns 0) 0) 90=hd at hb|-;obtain⟨p,e3⟩:∃p:Nat,hd%3=(p:Int):=#[(hd%3).toNat,⋯]
 have hp:p<3:=⋯
 exists#[va _,?_];walk_at"f pl hpl H1 s1 t1";exists#[_,rfl,⋯,⋯,?_];erw[Qp (λi σ H'=>lK λ(o5 o6:N5) (D:L7) (o:L4)=>rM (σ=[↥a,some (.int (y:Nat)),↥bd,~~~hd,↥pl,o5,o6,none,none,none,none,none,none,none]) (cj H H') (H' pl⊂(.lst (D.map V.ref))) (cp (fI H') D o) (cb o=nV p i) (⇑o=i) (∀q∈o,0<=q.2/\q.2<=10^18)) #[_,_,[],[],rfl,s1,t1,.nil,rfl,rfl,(λq h=>nomatch h)] ?_ ?_]
 .rintro i σ H' hi ⟨o5,o6,D,o,rfl,F,Y,la,nm,ll,lh⟩;have i4:i<4:=⋯
  have ar:=la.1;obtain⟨w',aP,w1,w2⟩:∃w':Int,fi [V.int 100,V.int 1000,V.int 10000,V.int 100000] (0+(i:Int))= ~~~w'/\100<=w'/\w'<=100000:=by
   have:i=0\/i=1\/i=2\/i=3:=⋯
   rcases this with rfl | rfl | rfl | rfl
   .exact#[100,rfl,by decide,by decide]
   .exact#[1000,rfl,by decide,by decide]
   .exact#[10000,rfl,by decide,by decide]
   .exact#[100000,rfl,by decide,by decide]
  exists#[uA,?_];sleep 2;exists cz (cm.of t2) (aP) ?_;exists cz (cm.of (s2 _ _ (F _ _ eb))) rfl ?_;ac_nf;have v0:=ve (hd/w') (show b2≠0 by lia);have v1:=vf (hd/w') (show 0<b2 by lia);generalize hd/w'%b2=v at v0 v1|-;erw[.inl #[rfl,_,cm.of (s2 _ _ Y)],?_];exists#[p,i,by rw[e3,uw];rfl,hp,⋯,?_];exists#[ub,?_];sleep 3;have a5:=s2.trans s3;exists#[pl,_,_,rfl,rfl,a5 _ _ Y,by rw[vt];lia,?_];have kt:∀c xs,H3 c⊂.tup xs->upd H3 pl (.lst (D.map V.ref++[.ref p3])) c⊂(.tup xs):=λc xs h=>(jh (JC h (a5 _ _ Y) λz=>by cases z)).trans h
  erw[_,_,D++[p3],o++[(lA p i,v)],rfl,λc u h=>?_,by rw[jy,vj];rfl,(la.mono λc x h=>kt _ _ (a5 _ _ h)).snoc (kt _ _ t3),?_,by rw[vn,ll];rfl,λq hq=>?_]
  .refine(jh ?_).trans (a5 _ _ (F _ _ h));rwa[je h hpl]
  .rw[DA,<-nm];unfold cb;rw[vj];rfl
  .rcases vh.mp hq with z | z
   .exact lh q z
   .rw[vo.mp z];rwa[v0,by show v<=10^18;lia]
 rintro S' H2 ⟨o5,o6,D,o,rfl,F,Y,la,nm,ll,lh⟩;have m1:1<=⇑o:=⋯
 have m4:⇑o<=4:=⋯
 replace nm:cb o=nV p ⇑o:=by rw[nm,ll]
 let⟨ac,lW⟩:=E4 (m:=⇑o) hp ⋯;rw[<-nm]at ac lW;clear ll s1 t1 H1;have Ll:⇑(cb o)=⇑o:=vt _;have ar:=la.1;obtain⟨cc,aN⟩:∃cc:Nat,∀i:Nat,i<=y->(i=cc↔((i:Int)=hd/48%((y:Int)+1)/\hd/24%2=0)):=by
  have u0:=ve (hd/48) (show((y:Int)+1)≠0 by lia);have u1:=vf (hd/48) (show(0:Int)<(y:Int)+1 by lia);by_cases c:hd/24%2=0
  .exact#[(hd/48%((y:Int)+1)).toNat,λi hi=>⋯]
  .exact#[100,λi hi=>⋯]
 let⟨nd,nW⟩:=EO (p:=p) (st:=5) (c:=cc) (m:=⇑o) hp m1 ⋯ ⋯;have ng:∀{k:Nat},k<17->(oF p 5 cc ⇑o).getD k ⟨#[]⟩=lA p (nU 5 cc ⇑o k):=λh=>Ep h
 have nL:=Er (p:=p) (st:=5) (c:=cc) (m:=⇑o);generalize oF p 5 cc ⇑o=names at nd nW ng nL;exists#[va _,?_];walk_at"f nl hnl H3 s3 t3";exists#[va _,?_];walk_at"f ml hml H4 s4 t4";ac_nf;walk_at"f d hd' H5 s5 t5";exists#[va _,?_];walk_at"f pp hpp H6 s6 t6";have ai:=s4.trans (s5.trans s6);have a6:=s3.trans ai;have BB:nO pl nl ml d pp D [] [] o names [] [] [] b4 H6:=by
  erw[#[ai _ _ t3,s6 _ _ (s5 _ _ t4),.nil,(λks hk=>nomatch hk),rfl,va _,⋯,(λx hx=>nomatch hx),lW],#[a6 _ _ Y,la.mono λc x h=>a6 _ _ h,m1],s6 _ _ t5,t6,.nil,#[rfl,rfl,(λi f h=>by simp at h),λi h=>ud h (Nat.not_lt_zero i)],λj X=>ud X (Nat.not_lt_zero j),va _]
 have SS:pW pl nl ml pp bd []:=#[je Y hnl,je (s3 _ _ Y) hml,je (s5 _ _ (s4 _ _ (s3 _ _ Y))) hpp,je t3 hml,je (s5 _ _ (s4 _ _ t3)) hpp,je (s5 _ _ t4) hpp,je (F _ _ eb) hnl,je (s3 _ _ (F _ _ eb)) hml,je (s5 _ _ (s4 _ _ (s3 _ _ (F _ _ eb)))) hpp,(λx hx=>nomatch hx)]
 have aL:H nl=none:=none_of F hnl;have aK:H ml=none:=none_of (F.trans s3) hml;have aJ:H d=none:=none_of (F.trans (s3.trans s4)) hd';have aM:H pp=none:=none_of (F.trans (s3.trans (s4.trans s5))) hpp;have aU:=F.trans a6;clear a6 ai t3 t4 t5 t6 Y la F s3 s4 s5 s6 hnl hml hd' hpp;exists#[_,rfl,⋯,⋯,?_];refine Qp (λi σ H'=>rO λ(o5 af ag Z:N5) (M G:L7) (B:List Fn) (U:List L8) (W:L5)=>fH (σ=[↥a,some (.int (y:Nat)),↥bd,~~~hd,↥pl,o5,o6,↥nl,↥ml,↥d,↥pp,af,ag,Z]) (cj H H') (nO pl nl ml d pp D M G o names B U W b4 H') (pW pl nl ml pp bd G/\⇑B=i))
  #[_,_,_,_,[],[],[],[],[],rfl,aU,BB,SS,rfl] ?_ ?_
 .rintro i σ H7 hi ⟨o5,af,ag,Z,M,G,B,U,W,rfl,F,C,S,fl⟩;have aQ:i<17:=⋯
  have tl:⇑(names.take ⇑B)=⇑B:=by rw[vi];lia
  have aX:⇑M=⇑B:=C.pa.1.trans j3;have gl:=C.dk.gl;have Ml:⇑U=⇑B:=by have:=C.n.ml;lia
  have aW:⇑G=⇑B:=by have:=C.n.am.1;lia
  have R:(names.take ⇑B).Nodup:=nd.sublist (take_sublist _ _);have ad:∀j,j<⇑B->1<=W∘j/\W∘j<=b4:=λj X=>#[(C.dk.g j X).1,C.gb j X]
  exists#[a,ns,_,rfl,F.seq hS,a1,⋯,?_];exists#[_,_,rfl,⋯,⋯,?_];exists#[_,_,rfl,⋯,⋯,?_];have nb:=yr (fM (Pr.cell ns (1+(0+(i:Int)))) (1+(0+(i:Int)))) (91+(0+(i:Int)));generalize fM (fM (Pr.cell ns (1+(0+(i:Int)))) (1+(0+(i:Int)))) (91+(0+(i:Int)))=num at nb|-;exists#[num,nl,ml,pl,bd,G,D,o,names.take ⇑B,U,b0,b1,b2,b3,b4,rfl,C.n,C.l,#[F _ _ eb,ax,ay,az,aA,aB,aC,aD,aE,al,am],⋯,⋯,λao f0 H8 s8 a9 N=>?_];rw[tl]at N;have C8:=C.same s8;exists#[λS' H'=>gM λ(fa:Addr) (f:Fn)=>mO (S'=[↥a,some (.int (y:Nat)),↥bd,~~~hd,↥pl,some (.int (0+(i:Int))),o6,↥nl,↥ml,↥d,↥pp,~~~num,↥fa,Z]) (cj H8 H') (cw H' fa (cV (names.take ⇑B) f)/\eJ (cb o) (U.map (ib (cb o))) ⇑B f),?_,?_]
  rotate_left
  .exists cH (λc=>?_) (λc=>?_)
   .exists cH (λc2=>?_) (λc2=>?_)
    .exists cz (cm.of (s8 _ _ (F _ _ eb))) rfl ?_;exists#[nl,d,names.take ⇑B,W,b4,rfl,C8.n.en,C8.ed,R,⋯,⋯,⋯,λj X=>ad j ⋯,λb is H9 s9 e9 ne l5 jl=>?_];exists#[ub,?_];walk_at"f fa hfa H10 s10 t10";ac_nf;rwa[fa,.row is,rfl,s9.trans s10,#[b,t10,s10 _ _ e9],ne,⋯,λj X=>by have:=jl j X;lia]
    .ac_nf;rwa[ao,f0,rfl,cj.refl _,a9,N]
   .ac_nf;rwa[ao,f0,rfl,cj.refl _,a9,N]
  rintro S' H9 ⟨ap,f1,rfl,s9,aa,a0⟩;have C9:=C8.same s9;have aj:=F.trans (s8.trans s9);clear C8 C a9 N s8 s9 F;exists#[λS' H'=>i5 λ(fa:Addr) (f:Fn) (g:Int)=>mP (S'=[↥a,some (.int (y:Nat)),↥bd,~~~hd,↥pl,some (.int (0+(i:Int))),o6,↥nl,↥ml,↥d,↥pp,~~~num,↥fa,Z]) (cj H9 H') (cw H' fa (cV (names.take ⇑B) f)) (eJ (cb o) (U.map (ib (cb o))) ⇑B f) (gf W f g/\g<=b4),?_,?_]
  rotate_left
  .exists#[ap,d,f1,names.take ⇑B,W,cb o,U.map (ib (cb o)),rfl,aa,C9.ed,R,⋯,by rw[tl];rwa[a0],λj X=>by have:=ad j ⋯;lia,λg H10 s10 lg=>?_];exists cz (cm.of (s10 _ _ (aj _ _ eb))) rfl ?_;exists cH (λc=>?_) (λc=>?_)
   .exists#[ub,?_];walk_at"f fa hfa H11 s11 t11";ac_nf;rwa[fa,.hold 1,1,rfl,s10.trans s11,t11,#[by decide,by decide],rfl,al]
   .ac_nf;rwa[ap,f1,g,rfl,s10,cw.same s10 aa,a0,lg,⋯]
  rintro S' H10 ⟨fa,f,g,rfl,s10,hf,a4,lg,gb⟩;have n:=C9.same s10;have as:=aj.trans s10;clear C9 aa a0 s10 aj;exists#[.inl #[rfl,_,cm.of n.n.em],?_];exists#[fa,nl,ml,G,f,names.take ⇑B,U,cb o,U.map (ib (cb o)),rfl,hf,n.n.en,n.n.em,n.n.am,R,⋯,⋯,by rw[tl];rwa[a4],λks hk=>by have:=n.n.il.len hk;lia,λl ks H11 s11 hl Y mv kl=>?_];exists#[ml,_,_,rfl,rfl,s11 _ _ n.n.em,by rw[vt];lia,?_];generalize I:upd H11 ml _=H12;have aF:H12 ml⊂(.lst ((G++[l]).map V.ref)):=by rw[vj];rwa[qV I]
  have aq:∀c u,c≠ml->H11 c⊂u->H12 c⊂u:=λc u hc h=>I▸(jh hc).trans h
  clear I;have k2:∀c u,c≠ml->H10 c⊂u->H12 c⊂u:=λc u hc h=>aq c u hc (s11 _ _ h)
  have L:∀{c u},H10 c⊂u->l≠c:=λh=>(je h hl).symm
  have an:=aq _ _ (L n.n.em) Y;have a2:d≠ml:=JC n.ed n.n.em (λz=>by cases z);have a3:d≠nl:=JC n.ed n.n.en (λz=>by cases z);have ae:d≠pp:=JC n.ed n.ep (λz=>by cases z);exists#[p,5+i,by rw[e3,show(5+(0+(i:Int)))=((5+i:Nat):Int) by lia];rfl,hp,⋯,?_];exists#[λS' H'=>S'=[↥a,some (.int (y:Nat)),↥bd,~~~hd,↥pl,some (.int (0+(i:Int))),o6,↥nl,↥ml,↥d,↥pp,~~~num,↥fa,some (.str (names.getD ⇑B ⟨#[]⟩))]/\H12=H',?_,?_]
  rotate_left
  .have hz:=aN i ⋯;have nk:=ng aQ;rw[<-fl]at nk;exists cH (λc=>?_) (λc=>?_)
   .exists cH (λc2=>?_) (λc2=>?_)
    .have ic:i=cc:=hz.mpr #[⋯,c2];exists#[_,_,rfl,.inl #[_,cm.of (k2 _ _ S.lm n.l.el),rfl],?_];rw[vt,ar];ac_nf;rw[show(0+(i:Int))%(⇑o:Int)=((i%⇑o:Nat):Int) by rw[uw];rwa[(Int.natCast_emod _ _).symm]];have jm:=Nat.mod_lt i (show 0<⇑o by lia);let⟨lk,aO,aI⟩:=n.l.la.get (vz jm);have a7:H10 lk⊂(.tup [.str (o[i%⇑o]).1,.int (o[i%⇑o]).2]):=aI;erw[cz (cm.of (k2 _ _ S.lm n.l.el)) (jV (j:=i%⇑o) (by rw[vv,aO];rfl)) ?_];exists cx (k2 _ _ (JC a7 n.n.em λz=>by cases z) a7) ?_;exists#[?_,rfl];have ew:(o[i%⇑o]).1=lA p (i%⇑o):=by
      have h1:(cb o)[i%⇑o]?⊂(o[i%⇑o]).1:=by unfold cb;rw[vv,vz jm];rfl
      rw[nm,E3 jm]at h1;rwa[(vL h1).symm]
     rw[nk,fl];unfold nU;rw[vd ic,ew]
    .exists#[?_,rfl];rw[nk,fl];unfold nU;rw[vc (λz=>c2 (hz.mp z).2)]
   .exists#[?_,rfl];rw[nk,fl];unfold nU;rw[vc (λz=>c (by have:=(hz.mp z).1;lia))]
  rintro S' aV ⟨rfl,rfl⟩;exists#[.inl #[rfl,_,cm.of (k2 _ _ S.nm n.n.en)],?_];exists#[nl,_,_,rfl,rfl,k2 _ _ S.nm n.n.en,by rw[vt];lia,?_];generalize I:upd H12 nl _=H13;have a8:H13 nl⊂(.lst ((names.take (⇑B+1)).map V.str)):=by
   rw[take_snoc (show names[⇑B]?⊂(names.getD ⇑B ⟨#[]⟩) by rw[vy,vz ⋯];rfl),vj];rwa[qV I]
  have ab:∀c u,c≠nl->H12 c⊂u->H13 c⊂u:=λc u hc h=>I▸(jh hc).trans h
  clear I;have ak:fi ((names.take (⇑B+1)).map V.str) (0+(i:Int))⊂(.str (names.getD ⇑B ⟨#[]⟩)):=by
   rw[<-fl,uw];erw[jV ?_];rw[vv,List.getElem?_take_of_lt ⋯,vy,vz ⋯];rfl
  have k3:∀c u,c≠ml->c≠nl->H10 c⊂u->H13 c⊂u:=λc u h1 h2 h=>ab c u h2 (k2 c u h1 h)
  exists#[.inl #[rfl,_,cm.of (k3 _ _ S.mp.symm S.np.symm n.ep)],?_];exists cz (cm.of a8) (ak) ?_;exists#[ub,?_];walk_at"f c hc H14 s14 t14";exists#[pp,_,_,rfl,rfl,s14 _ _ (k3 _ _ S.mp.symm S.np.symm n.ep),by rw[vt];lia,?_];generalize I:upd H14 pp _=H15;have aG:H15 pp⊂(.lst ((M++[c]).map V.ref)):=by rw[vj];rwa[qV I]
  have O:∀c u,c≠pp->H14 c⊂u->H15 c⊂u:=λc u hc h=>I▸(jh hc).trans h
  clear I;have k4:∀c u,c≠ml->c≠nl->c≠pp->H10 c⊂u->H15 c⊂u:=λc u h1 h2 h3 h=>O c u h3 (s14 _ _ (k3 c u h1 h2 h))
  have kt:∀c xs,H10 c⊂.tup xs->H15 c⊂(.tup xs):=λc xs h=>k4 c _ (JC h n.n.em λz=>by cases z) (JC h n.n.en λz=>by cases z) (JC h n.ep λz=>by cases z) h
  have aT:c≠pp:=(je (k3 _ _ S.mp.symm S.np.symm n.ep) hc).symm;exists#[fa,d,f,names.take ⇑B,W,cb o,U.map (ib (cb o)),rfl,cw.keep kt hf,k4 _ _ a2 a3 ae n.ed,R,⋯,by rw[tl];rwa[a4],λj X=>by have:=ad j ⋯;lia,λg' aw ah aR=>?_];obtain rfl:=lg.uniq aR;exists cz (cm.of (ah _ _ (O _ _ S.np (s14 _ _ a8)))) (ak) ?_;erw[d,_,rfl,gw.k (k:=Sum.inr (names.getD ⇑B ⟨#[]⟩)) (ah _ _ (k4 _ _ a2 a3 ae n.ed)) (by rw[Eh ⋯];lia),?_];have xn:names.getD ⇑B ⟨#[]⟩∉names.take ⇑B:=λz=>by
   let⟨j,X,e⟩:=mem_iff_getElem.mp z;rw[getElem_take]at e;have jl:j<⇑B:=by rw[tl]at X;rwa[X]
   have e2:names[j]?⊂(names.getD ⇑B ⟨#[]⟩):=by rw[vz ⋯,e]
   have e3:names[⇑B]?⊂(names.getD ⇑B ⟨#[]⟩):=by rw[vy,vz ⋯];rfl
   have:=jZ nd e2;have:=jZ nd e3;lia
  rw[Ei ⋯ xn];generalize I:upd aw d _=H17;have aH:H17 d⊂(.dK (fD (names.take (⇑B+1)) (W++[g]))):=by
   rw[take_snoc (show names[⇑B]?⊂(names.getD ⇑B ⟨#[]⟩) by rw[vy,vz ⋯];rfl)];rwa[qV I]
  have J:∀c u,c≠d->H15 c⊂u->H17 c⊂u:=λc u hc h=>I▸(jh hc).trans (ah _ _ h)
  clear I;have av:=n.add (fa:=fa) (l:=l) (c:=c) (f:=f) (ks:=ks) (g:=g) (H':=H17) S (by rw[<-xu a4];rwa[hf]) a4 mv lg gb am ⋯ ⋯ nW (λx u h1 h2 h3 h4 h=>J _ _ h4 (k4 _ _ h1 h2 h3 h)) (J _ _ a2.symm (O _ _ S.mp (s14 _ _ (ab _ _ S.nm.symm aF)))) (J _ _ (L n.ed) (O _ _ (L n.ep) (s14 _ _ (ab _ _ (L n.n.en) an)))) (J _ _ a3.symm (O _ _ S.np (s14 _ _ a8))) (J _ _ ae.symm aG) (J _ _ (JC t14 (s14 _ _ (k3 _ _ a2 a3 n.ed)) λz=>by cases z) (O _ _ aT t14)) aH;rwa[_,_,_,_,M++[c],G++[l],B++[f],U++[ks],W++[g],rfl,λx u h=>J _ _ (je h aJ) (k4 _ _ (je h aK) (je h aL) (je h aM) (as _ _ h)),av,S.add #[L n.n.en,L n.n.em,L n.ep],by rw[vn,fl];rfl]
 rintro S' H7 ⟨o5,af,ag,Z,M,G,B,U,W,rfl,F,C,S,fl⟩
 replace fl:⇑B=y+1:=⋯
 have gl:=C.dk.gl;have tl:⇑(names.take ⇑B)=⇑B:=by rw[vi];lia
 have R:(names.take ⇑B).Nodup:=nd.sublist (take_sublist _ _);exists#[ub,?_];walk_at"f b hbb H8 s8 t8";have C8:=C.same s8;exists cz (cm.of C8.n.en) (ZN (j:=y) ⋯) ?_;have g:=du.k (k:=Sum.inr ((names.take ⇑B).getD y ⟨#[]⟩)) C8.ed;rw[kZ R ⋯ ⋯]at g;erw[d,_,rfl,g,?_];exists#[ub,?_];walk_at"f r hr' H9 s9 t9";rwa[q r b pl pp D M names o B _ W H9 (F.trans (s8.trans s9)) (by rw[show ⇑B-1=y by lia];rwa[t9]) ((C8.book t8).same s9) C.dk (C.dk.sn C.fl nd ac ⋯ ⋯ ⋯ lh) fl nL nd nW m1 ⋯ ac lW S.lp C.gb]
def wW:1<*t.qT t.qX ["_law_form_here","_law_heights"] (fW):=by
 specialize T.QK.F.ok qI;let⟨fa,z,L,x,v,n,h,rfl,r,J,Y,⟨a,f⟩,l8,v0,v1,n1,a0,q⟩:=h;erw[_,#v["6.Ş9¬0ŞÀ,xW,µ2ŞJ1ŞÕǡĤĥ#Ƨ*,¼%ĚćĦ¨,%),q'5*9Ƙ5³Œ'´yLc'L"],?_]
 rotate_right 204
 have U:=J.1;have hb:=J.2.1;have g:=jZ Y f;have il:=(vx.mp f).1;have gb:=hb.getD a;exists#[va _,?_];walk_at"f rl hrl H1 s1 t1";exists cx (s1 _ _ r) ?_;erw[z,_,rfl,(J.same s1).get Y f,?_];exists cx (s1 _ _ r) ?_;exists#[_,rfl,⋯,⋯,?_];erw[Qp (λi σ I=>lK λ(Z o5:N5) (m b:L7)=>σ=[↥fa,↥z,↥rl,some (.int (h∘a)),Z,o5]/\nv H L rl I m b (dX L x v n h i)) #[_,_,[],[],rfl,nv.nil s1 hrl t1] ?_ ?_]
 .rintro i σ I hi ⟨Z,o5,m,b,rfl,R⟩;have N:=R.s;have l1:=R.l1;have C:⇑(dX L x v n h i)=i:=by unfold dX;rw[vt,length_range]
  ac_nf;let⟨_,_,o,eo⟩:=J.same N;erw[z,_,rfl,.inr #[o,eo],?_];walk_at"f d hd' H2 s2 t2";exists cx (s2 _ _ (N _ _ r)) ?_;exists cx (s2 _ _ (N _ _ r)) ?_;exists cx (s2 _ _ (N _ _ r)) ?_;have kl:⇑(fD L h)=⇑L:=by unfold fD;rw[vt,length_zip,U,Nat.min_self]
  erw[d,_,rfl,gw.k (k:=Sum.inr x) t2 ⋯,?_];rw[Ej Y U.symm f];have M:cj I (upd H2 d (.dK (fD L (h.set a (h∘a+(v-h∘a)*(0+(i:Int))/n))))):=λc u hc=>(jh (je hc hd')).trans (s2 _ _ hc)
  have t3:upd H2 d (.dK (fD L (h.set a (h∘a+(v-h∘a)*(0+(i:Int))/n)))) d=_:=jy;generalize upd H2 d _=H3 at M t3|-;exists#[.inl #[rfl,_,cm.of (M _ _ R.e)],?_];exists#[va _,?_];walk_at"f w hw H4 s4 t4";exists#[ub,?_];walk_at"f c hc H5 s5 t5";have F:=s4.trans s5;have D:=M.trans F;exists#[rl,_,_,rfl,rfl,D _ _ R.e,by rw[vt];lia,?_];rw[uw]at t3;have rb:=Bm gb #[v0,v1] n1 (j:=(i:Int)) ⋯ ⋯;have R':=R.push (h:=h.set a (h∘a+(v-h∘a)*(i:Int)/n)) (W:=[]) D hd' (F _ _ t3) (by rw[length_set,U]) (hb.set rb) (none_of M hw) (s5 _ _ t4) t5;erw[_,_,m++[d],b++[c],rfl,?_];have S:dX L x v n h (i+1)=dX L x v n h i++[(h.set a (h∘a+(v-h∘a)*(i:Int)/n),[])]:=by
   unfold dX;rw[range_succ,vj,g];rfl
  rw[S];rw[vj]at R';rwa[R']
 .rintro σ I ⟨Z,o5,m,b,rfl,R⟩;have nn:(n+1).toNat=n.toNat+1:=⋯
  rw[nn]at R;have C:⇑(dX L x v n h (n.toNat+1))=n.toNat+1:=by unfold dX;rw[vt,length_range]
  have l1:=R.l1;have l2:=R.l2;obtain⟨dl,B⟩:∃dl,m[n.toNat]?⊂dl:=#[_,vz ⋯]
  obtain⟨cl,y⟩:∃cl,b[n.toNat]?⊂cl:=#[_,vz ⋯]
  have hx:(dX L x v n h (n.toNat+1))[n.toNat]?⊂(h.set a v,[]):=by
   unfold dX;rw[vv,List.getElem?_range ⋯,g];show some (h.set a (Rp.ramp (h∘a) v n ((n.toNat:Nat):Int)),[])=_;rw[show((n.toNat:Nat):Int)=n by lia];unfold Rp.ramp;rw[Int.mul_ediv_cancel _ ⋯];congr 2;congr 1;lia
  let⟨wl,_,O,_⟩:=R.a _ _ _ _ B y hx;exists BI ?_;exists#[rl,_,rfl,cm.of R.e,?_];rw[CW (n:=n.toNat) (by rw[vt];lia),<-map_take];walk_at"f l hl' H6 s6 t6";exists cz (cm.of (s6 _ _ R.e)) (XW (n:=n.toNat+1) ⋯ (by rw[vt];lia) (by rw[vv,Nat.add_sub_cancel,y];rfl)) ?_;exists cx (s6 _ _ O) ?_;exists#[ub,?_];walk_at"f p hp H7 s7 t7";have G:=s6.trans s7;erw[m,R.nd,λd z=>?_,λH8 fz=>?_]
  .let⟨X,e⟩:=R.Ax z;rwa[X,G _ _ e]
  .let⟨k1,k2⟩:=R.run G (s7 _ _ t6) t7 B hx fz;have S:(dX L x v n h (n.toNat+1)).take n.toNat=dX L x v n h n.toNat:=by
    unfold dX;rw[<-map_take,List.take_range,Nat.min_eq_left ⋯]
   rw[S]at k2;erw[q p H8 k1 ?_];rw[g];rwa[k2]
def W4{rd rl:Nat}(hrl:1<=rl)(QD:rl<*t.qU t.qY ["_law_book_here","_law_name","_law_heights"] (fc rd)):(rl+1)<*t.Z3 t.Z6 ["_law_book_here","_law_names","_law_heights"] (gG rd):=by
 specialize T.zi.F.ok jY;let⟨b,pl,pp,hd,nb,aB,aD,f,a,D,M,gs,E,h,k,is,rfl,B,X,hf,en,jm,Hh,q⟩:=h;erw[_,#v["Aė0Zī_².Ǣ¸Ă{ăş¹kŠš|ŢţİØsê#Ķ×¸Ă{ăş¹kŠš|ŢţİŤʱh3ǣǤǥz©»#&'ċ2sx@lƇ$ŅņķʲÈǢ¸Ă{ăş¹kŠš|Ţţİ4%¸Ă{ăş¹kŠš|ŢţİŬǜM$ąŊM$&1s6<sÕǡĤĥ'JFs9Ó4%^jsĀsJÍsNƢå*BI6ÍscI*8OFsç-cI*8¯ʳ'āseUʴuYfu'fè+fuYfq)5+-Ƙ5³Œ)´yLc)L"],?_]
 rotate_right 309
 have sz:(50000:Nat)<sizeLine:=by decide
 have hk:=(vx.mp hf).1;have aJ:=X.nF;let⟨aE,_,ln⟩:=X.D.f k _ hf;let⟨i2,i8,a7,_⟩:=aE;let⟨⟨jx,az,aI⟩,ai⟩:=ln;have gk:=X.D.g k hk;have aH:=X.sW k hk;have hl:=Hh.1;have ay:⇑D<=61:=⋯
 have gj:∀j∈is,1<=gs∘j/\gs∘j<=90:=λj S=>#[(X.D.g j (by have:=a7 j S;lia)).1,X.sW j (by have:=a7 j S;lia)]
 exists#[nb,rfl,#[_,cL.of en],?_];erw[yg (xs:=is.map λj=>V.str (a.getD j ⟨#[]⟩)) (λi ys I=>dW λ(rs:L7)=>dY (ys=rs.map V.ref) (cj H I/\cp (λr j=>i6 I (cb f) r (eM (cb f) a D gs E j h) (cJ (E.getD j []) h)) rs (is.take i))) #[[],rfl,cj.refl _,.nil] ?_ ?_ ?_]
 .rintro i ys I _ ⟨rs,rfl,sm,al⟩;rwa[cL.of (sm _ _ en)]
 .rintro i v ys I hv ⟨rs,rfl,sm,al⟩;rw[vv]at hv;let⟨j,S,rfl⟩:=vg.mp hv;have U:=vm S;have a8:=al.1;rw[vi]at a8;erw[Js (S':=[none,↥b,↥hd]) rfl ?_];exists dR ?_;exists#[b,pl,pp,hd,aB,aD,f,a,D,M,gs,E,h,j,rfl,B.same sm,X,by have:=a7 j U;lia,jm j U,Hh.same sm,λr H2 s2 RA=>?_];erw[by rw[vt];lia,rs++[r],by rw[vj];rfl,sm.trans s2,?_];rw[take_snoc S];rwa[(al.mono λr j=>i6.same s2).snoc RA]
 rintro ys H2 ⟨rs,rfl,aG,al⟩;rw[vt,v5]at al;have a8:=al.1;erw[by rw[vt];lia,?_];walk_at"f pr hpr H3 s3 t3";have ah:=al.mono λr j=>i6.same s3
 have ar:=aG.trans s3;have ac:=Hh.same ar;clear al;exists#[va _,?_];walk_at"f rl hrl H4 s4 t4";exists#[pr,rfl,#[_,cm.of (s4 _ _ t3)],?_];erw[Jw (xs:=rs.map V.ref) (λi ys I=>ys=((is.take i).map λj=>gs∘j).map V.int/\H4=I) #[rfl,rfl] ?_ ?_ ?_]
 .rintro i ys I _ ⟨rfl,rfl⟩;rwa[cm.of (s4 _ _ t3)]
 .rintro i v ys I hv ⟨rfl,rfl⟩;let⟨r,j,rfl,S,k1⟩:=ah.cO hv;let⟨ad,a6,ap,k1,k2,k3,k4⟩:=k1;have U:=vm S;have g:=gj j U;erw[Js (S':=[none]) rfl ?_];exists dR ?_;exists cx (s4 _ _ k1) ?_;exists#[_,_,rfl,.inl #[_,cm.of (s4 _ _ k2),rfl],?_];erw[by rw[vt,vt,vi];lia,?_,rfl];have l3:=k3.1;rw[Jp]at l3;rw[take_snoc S,vj,vj,vt,l3,show(((gs∘j).toNat:Nat):Int)=gs∘j by lia];rfl
 rintro ys I ⟨rfl,rfl⟩;rw[show(rs.map V.ref).length=⇑is from(vt _).trans a8,v5];erw[by rw[vt,vt];lia,?_];walk_at"f pm hpm H5 s5 t5";exists#[pm,_,rfl,cm.of t5,by rw[vt];lia,λm hm mx=>?_];have em:m=gs∘k:=by
  let⟨j,S,rfl⟩:=vK.mp hm;have a1:=ai j S;have a2:=mx (gs∘jx) (vK.mpr #[jx,az,rfl]);lia
 subst em;exists#[_,rfl,⋯,⋯,?_];erw[Qp (λi Z I=>rO λ(o5 o6 o7 o8 o9 O C:N5) (ds a0:L7)=>Z=[↥b,↥nb,↥hd,↥pr,↥rl,o5,o6,o7,o8,o9,O,C]/\nv H3 (cb f) rl I ds a0 (fE (cb f) a D gs E k h i)) #[_,_,_,_,_,_,_,[],[],rfl,nv.nil (s4.trans s5) hrl (s5 _ _ t4)] ?_ ?_]
 .rintro i Z H6 hi ⟨o5,o6,o7,o8,o9,O,C,ds,a0,rfl,R⟩;have sm:=R.s;have l1:=R.l1;have aq:⇑(fE (cb f) a D gs E k h i)=i:=by unfold fE;rw[vt,length_range]
  let⟨_,hb,o,eo⟩:=ac.same sm;exists#[hd,_,rfl,.inr #[o,eo],?_];walk_at"f d hd7 H7 s7 t7";exists#[va _,?_];walk_at"f w0 hw0 H8 s8 t8";have as:=s7.trans s8;rw[uw];exists#[pr,rfl,#[_,cm.of (as _ _ (sm _ _ t3))],?_];refine JH (xs:=rs.map V.ref) (λu Z I=>rN λ(o8 o9 O C:N5) (w:Addr) (W:L8) (F:L5)=>rM (Z=[↥b,↥nb,↥hd,↥pr,↥rl,some (.int (i:Nat)),↥d,↥w,o8,o9,O,C]) (cj H6 I) (I d⊂(.dK (fD (cb f) F))) (H6 w=none) (I w⊂(.lst (W.map V.str))) (⇑W<=5000*u) (F=((is.take u).map (dJ gs (i:Int))).foldl (λh x=>eD (cb f) a D gs E x.1 x.2 h) h/\W=((is.take u).map (dJ gs (i:Int))).flatMap λx=>eV a D gs x.1 x.2))
   #[_,_,_,_,w0,[],h,rfl,as,s8 _ _ t7,none_of s7 hw0,t8,va _,rfl,rfl] ?_ ?_ ?_
  .rintro u Z I _ ⟨o8,o9,O,C,w,W,F,rfl,L,_⟩;rwa[cm.of (L _ _ (sm _ _ t3))]
  .rintro u v Z H9 hv ⟨o8,o9,O,C,w,W,F,rfl,L,ed,nw,ew,wl,eF,eW⟩;let⟨r,j,rfl,S,RA⟩:=ah.cO hv;have U:=vm S;have ul:=(vx.mp S).1;have jf:j<⇑D:=by have:=a7 j U;lia
   have g:=gj j U;have aF:=sm.trans L;let⟨ad,a6,ap,k1,k2,k3,k4⟩:=RA.same aF;have l3:=k3.1;rw[Jp]at l3;have fl:⇑F=⇑(cb f):=by
    rw[eF,<-hl];rwa[Xm]
   erw[JN (cL.of k1) ?_];exists#[λS' I=>gM λ(w' th:Addr)=>i3 (S'=[↥b,↥nb,↥hd,↥pr,↥rl,some (.int (i:Nat)),↥d,↥w',↥ad,↥a6,↥th,C]) (cj H6 I) (I d⊂(.dK (fD (cb f) F))) (H6 w'=none) (I w'⊂(.lst ((W++eV a D gs (dJ gs (i:Int) j).1 (dJ gs (i:Int) j).2).map V.str))) (⇑(W++eV a D gs (dJ gs (i:Int) j).1 (dJ gs (i:Int) j).2)<=5000*(u+1)/\mE I (cb f) th (eD (cb f) a D gs E (dJ gs (i:Int) j).1 (dJ gs (i:Int) j).2 h)),?_,?_]
   rotate_left
   .exists#[_,_,rfl,.inl #[_,cm.of k2,rfl],?_];rw[vt];exists cH (λc=>?_) (λc=>?_)
    .have c:(i:Int)<gs∘j:=⋯
     rw[Lw c];let⟨ra,an,dd,ww,n1,n2,n3⟩:=k3.get (ZV c);have n3:H9 ww⊂(.lst ((eV a D gs j (i:Int)).map V.str)):=n3;have wj:=X.w j (i:Int) jf ⋯;exists cz (cm.of k2) (jV (j:=i) (by rw[vv,an];rfl)) ?_;exists cx n1 ?_;exists cz (cm.of k2) (jV (j:=i) (by rw[vv,an];rfl)) ?_;exists cx n1 ?_;erw[w,ww,_,_,rfl,rfl,ew,n3,by rw[vt,vt];lia,?_];walk_at"f w2 hw2 H10 s10 t10";ac_nf;rwa[w2,dd,rfl,L.trans s10,s10 _ _ ed,none_of L hw2,by rw[t10,vj],by show(W++eV a D gs j (i:Int)).length<=_;rw[vn];lia,n2.same s10]
    .have c:gs∘j<=(i:Int):=⋯
     rw[Lv c];exists#[w,a6,rfl,L,ed,nw,?_,?_,?_]
     .rw[yO g.1,append_nil];rwa[ew]
     .rw[yO g.1,append_nil];lia
     .rw[Q0];rwa[k4]
   rintro S' H10 ⟨w',th,rfl,ab,ed,aC,a5,av,HT⟩;have e1:(dJ gs (i:Int) j).1=j:=by unfold dJ;split<;>rfl
   have ag:=Hw X hf (h:=h) (t:=(i:Int)) S;rw[<-eF]at ag;rw[e1]at HT;have mr:=λ{q:Nat} (hq:q<⇑(cb f))=>Oj X jf (t:=(dJ gs (i:Int) j).2) ag hl hq
   have ao:((is.take (u+1)).map (dJ gs (i:Int))).foldl (λh x=>eD (cb f) a D gs E x.1 x.2 h) h=eD (cb f) a D gs E j (dJ gs (i:Int) j).2 F:=by
    rw[take_snoc S,vj,foldl_append,<-eF];show eD _ _ _ _ _ (dJ gs (i:Int) j).1 _ _=_;rw[e1]
   have aw:W++eV a D gs (dJ gs (i:Int) j).1 (dJ gs (i:Int) j).2=((is.take (u+1)).map (dJ gs (i:Int))).flatMap λx=>eV a D gs x.1 x.2:=by
    rw[take_snoc S,vj,flatMap_append,<-eW];simp
   rw[aw]at a5 av;generalize hG:eD (cb f) a D gs E j (dJ gs (i:Int) j).2 F=G at mr ao;generalize eD (cb f) a D gs E j (dJ gs (i:Int) j).2 h=tv at HT mr;have Gl:⇑G=⇑(cb f):=by rw[<-hG,wk,fl]
   let⟨_,_,o',a4⟩:=ac.same (sm.trans ab);exists LH ?_;exists#[hd,o',_,rfl,a4,?_];refine IE (λv Z I=>gM λ(C:N5) (F':L5)=>i3 (Z=[↥b,↥nb,↥hd,↥pr,↥rl,some (.int (i:Nat)),↥d,↥w',↥ad,↥a6,↥th,C]) (cj H6 I) (∀c u,c≠d->H10 c⊂u->I c⊂u) (I d⊂(.dK (fD (cb f) F'))) (F'.length=⇑(cb f)) (∀q,q<⇑(cb f)->F'∘q=if q<v then G∘q else F∘q))
    #[_,F,rfl,ab,λc u _ h=>h,ed,fl,λq _=>by rw[vc (Nat.not_lt_zero _)]] ?_ ?_ ?_
   .rintro v Z I _ ⟨C,F',rfl,J,kp,_⟩;rwa[kp _ _ (λz=>by rw[z,ed]at a4;cases a4) a4]
   .rintro v qv Z ae hq ⟨C,F',rfl,J,kp,N,Y,a3⟩;have kk:=Zr (nm:=cb f) (gs:=h) hl.symm;have vl:v<⇑(cb f):=by
     have:=(vx.mp hq).1;have e2:=congrArg List.length kk;rw[vt,vt]at e2;lia
    obtain⟨y,hy⟩:∃y,(cb f)[v]?⊂y:=#[_,vz vl]
    have ek:qv.1=Sum.inr y:=by
     have e1:((fD (cb f) h).map (·.1))[v]?⊂qv.1:=by rw[vv,hq];rfl
     rw[kk,vv,hy]at e1;rwa[(vL e1).symm]
    rw[ek];show cC 11 (.str y) _ _ _;have a9:mE ae (cb f) th tv:=by
     let⟨a1,a2,o2,e2⟩:=HT;rwa[a1,a2,o2,kp _ _ (λz=>by rw[z,ed]at e2;cases e2) e2]
    have af:=ac.same (sm.trans J);have kl:⇑(fD (cb f) F')<=8:=by
     have e2:=congrArg List.length (Zr (nm:=cb f) (gs:=F') Y.symm);rw[vt,vt]at e2;have:=X.l8;lia
    have mq:∀{q:Nat},q<⇑(cb f)->G∘q=if tv∘q≠h∘q then tv∘q else F∘q:=λ{q} hq=>by
     rw[vy,mr hq];rfl
    exists#[th,_,rfl,a9.get X.j0 hy,?_];exists#[hd,_,rfl,af.get X.j0 hy,?_];exists mu (λc=>?_) (λc=>?_)
    .exists#[th,_,rfl,a9.get X.j0 hy,?_];exists#[d,_,rfl,gw.k (k:=Sum.inr y) N ⋯,?_];rw[Ej X.j0 Y.symm hy];erw[_,F'.set v (tv∘v),rfl,λc u hc=>(jh (je hc hd7)).trans (J _ _ hc),λc u hc h=>(jh hc).trans (kp c u hc h),jy,by rw[length_set,Y],λq hq=>?_];by_cases z:v=q
     .subst z;rw[vy,List.getElem?_set_self ⋯,vd (Nat.lt_succ_self _),mq hq,vd c];rfl
     .rw[vy,List.getElem?_set_ne z,<-vy,a3 q hq];by_cases z2:q<v
      .rw[vd z2,vd ⋯]
      .rw[vc z2,vc ⋯]
    .exists#[_,F',rfl,J,kp,N,Y,λq am=>?_];rw[a3 q am];by_cases z:q=v
     .subst z;rw[vc (Nat.lt_irrefl _),vd (Nat.lt_succ_self _),mq am,vc (λz=>z c)]
     .by_cases z2:q<v
      .rw[vd z2,vd ⋯]
      .rw[vc z2,vc ⋯]
   .rintro Z ae ⟨C,F',rfl,J,kp,N,Y,a3⟩;have kk:=congrArg List.length (Zr (nm:=cb f) (gs:=h) hl.symm);rw[vt,vt]at kk;have eG:F'=G:=Il Y Gl λq hq=>by rw[a3 q hq,vd ⋯]
    rw[eG]at N;rwa[_,_,_,_,w',_,G,rfl,J,N,aC,kp _ _ (λz=>by rw[z,ed]at a5;cases a5) a5,av,ao.symm,rfl]
  .rintro Z H9 ⟨o8,o9,O,C,w,W,F,rfl,L,ed,nw,ew,wl,eF,eW⟩;rw[show(rs.map V.ref).length=⇑is from(vt _).trans a8]at eF eW wl;rw[v5]at eF eW;let⟨c1,c2⟩:=Hs X hf h (t:=(i:Int)) ⋯ ⋯;rw[<-c1]at eF;rw[<-c2]at eW;subst eF;subst eW;have pb:=Nk X.D X.mj X.nd X.j0 X.l8 ay X.e (vb _) (j:=k) (t:=(i:Int)) hk ⋯ hb;exists#[.inl #[rfl,_,cm.of (L _ _ R.e)],?_];exists#[ub,?_];walk_at"f c hc H10 s10 t10";have aa:=L.trans s10;exists#[rl,_,_,rfl,rfl,aa _ _ R.e,by rw[vt];lia,?_];have R':=R.push aa hd7 (s10 _ _ ed) (wk.trans hl) pb nw (s10 _ _ ew) t10;erw[_,_,_,_,_,_,_,ds++[d],a0++[c],rfl,?_];have er:fE (cb f) a D gs E k h (i+1)=fE (cb f) a D gs E k h i++[(eD (cb f) a D gs E k (i:Int) h,eV a D gs k (i:Int))]:=by
    unfold fE;rw[range_succ,vj];rfl
   rw[er];rw[vj]at R';rwa[R']
 .rintro Z H6 ⟨o5,o6,o7,o8,o9,O,C,ds,a0,rfl,R⟩;have nn:(1+gs∘k).toNat=(gs∘k).toNat+1:=⋯
  rw[nn]at R;have aq:⇑(fE (cb f) a D gs E k h ((gs∘k).toNat+1))=(gs∘k).toNat+1:=by unfold fE;rw[vt,length_range]
  have l1:=R.l1;have l2:=R.l2;obtain⟨dl,ak⟩:∃dl,ds[(gs∘k).toNat]?⊂dl:=#[_,vz ⋯]
  obtain⟨cl,aj⟩:∃cl,a0[(gs∘k).toNat]?⊂cl:=#[_,vz ⋯]
  have hx:(fE (cb f) a D gs E k h ((gs∘k).toNat+1))[(gs∘k).toNat]?⊂(cJ (E.getD k []) h,eV a D gs k (gs∘k)):=by
   unfold fE;rw[vv,List.getElem?_range ⋯];show some (eD _ _ _ _ _ _ (((gs∘k).toNat:Nat):Int) _,eV _ _ _ _ (((gs∘k).toNat:Nat):Int))=_;rw[show(((gs∘k).toNat:Nat):Int)=gs∘k by lia,Q0]
  let⟨wl,_,ax,_⟩:=R.a _ _ _ _ ak aj hx;exists BI ?_;exists#[rl,_,rfl,cm.of R.e,?_];rw[CW (n:=(gs∘k).toNat) (by rw[vt];lia),<-map_take];walk_at"f l hl' H7 s7 t7";exists cz (cm.of (s7 _ _ R.e)) (XW (n:=(gs∘k).toNat+1) ⋯ (by rw[vt];lia) (by rw[vv,Nat.add_sub_cancel,aj];rfl)) ?_;exists cx (s7 _ _ ax) ?_;exists#[ub,?_];walk_at"f p hp H8 s8 t8";have au:=s7.trans s8;erw[ds,R.nd,λd hd=>?_,λH9 fz=>?_]
  .let⟨aA,e⟩:=R.Ax hd;rwa[aA,au _ _ e]
  .let⟨k1,k2⟩:=R.run au (s8 _ _ t7) t8 ak hx fz;have er:(fE (cb f) a D gs E k h ((gs∘k).toNat+1)).take (gs∘k).toNat=eM (cb f) a D gs E k h:=by
    unfold fE eM;rw[<-map_take,List.take_range,Nat.min_eq_left ⋯]
   rw[er]at k2;rwa[q p H9 (ar.trans k1) k2]
def xC:1<*t.qU t.qY ["_law_book_here","_law_name","_law_heights"] (fc 0):=by
 erw[T.qw.F.ok Jt (λc H Q E h=>?_) (λb A a s H c Q E d h=>?_)]
 .exact ud h (Es)
 .exact ud h (Es)
def Gs{rd rl:Nat}(hrl:1<=rl)(xB:(rl+1)<*t.Z3 t.Z6 ["_law_book_here","_law_names","_law_heights"] (gG rd))(QD:rl<*t.qU t.qY ["_law_book_here","_law_name","_law_heights"] (fc rd)):(rl+2)<*t.qU t.qY ["_law_book_here","_law_name","_law_heights"] (fc (rd+1)):=by
 specialize T.qw.F.ok Jt;let⟨b,pl,pp,J,a6,R,O,d,N,M,W,E,h,j,rfl,B,X,jl,jm,Hh,q⟩:=h;erw[_,#v["ä0ªuÕǦ$Ĥĥ,#KĐŤʵʶʷh3ʸʹʺz©`%'VÌĬĐĭĐPė2ZkZ.ʻĢĂīăþ¹ǧŐǨØªxgĸ%Ü%Ķ×ĢĂīăþ¹ǧŐǨ5#9ÖĐÛ5'±¾)(â'KĐŤʼh3ʽʾʿz©»&¾'J1ª¾¡Đ1ªRˀ±¾¾ċ2ªˁ*<ªéŎŤ˂˃Ƭh3ǣǤǥz©»&+'ÔĳFªŲǋì.ª$ƤųO2ªç)-â'"],?_]
 rotate_right 305
 have ad:⇑R=⇑N:=B.pa.1.trans j3;have af:=X.nF;have DB:AA H b pl pp a6 R O d N M W:=#[B,X.D,X.nd,X.mj,⋯,⋯]
 let⟨g,hg⟩:=DB.forms;have ab:∀j,j<⇑N->N[j]?⊂(N.getD j (.hold 0)):=λj hj=>by rw[vy,vz hj];rfl
 exists cx B.t ?_;erw[pp,R,sT d g ⇑N,rfl,B.p,by unfold sT;rw[vt,length_range];rwa[ad],λi a q' h1 h2=>?_,?_]
 .have il:i<⇑N:=by have:=(vx.mp h1).1;lia
  rw[EY il]at h2;cases h2;rwa[(hg i _ (ab i il)).1 a h1]
 walk_at"f fd hfd H1 s1 t1";ac_nf;have gF:du H1 fd (.str (d.getD j ⟨#[]⟩)) (some (.ref (g j))):=by
  have z:=du.k (k:=Sum.inr (d.getD j ⟨#[]⟩)) t1;rw[LS X.nd X.mj jl]at z;rwa[z]
 erw[fd,_,rfl,gF,?_];have F:=ab j jl;let⟨a0,mv,ln⟩:=X.D.f j _ F;have hF:=cw.same s1 (hg j _ F).2;have gj:=X.D.g j jl;have ag:=X.sW j jl;have D:=Hh.same s1;have G:=a0.js.2;generalize N.getD j (.hold 0)=f at F a0 mv ln hF G;cases f with
 | rise x v n=>
  have l:H1 (g j)⊂(.tup _):=hF;let⟨ex,v0,v1,n1,n2⟩:=a0;have ln:W∘j=n:=ln;let⟨eR,eS⟩:=Hq X F h;exists cx l ?_;exists cT ?_;exists#[_,_,_,x,v,n,h,rfl,l,D,X.j0,ex,X.l8,v0,v1,n1,⋯,λr I s2 RA=>?_];erw[q r I (s1.trans s2) ?_];rw[eR,eS];rwa[RA]
 | hold n=>
  have l:H1 (g j)⊂(.tup _):=hF;have ln:W∘j=n:=ln;let⟨eR,eS⟩:=Hn X F h;exists cx l ?_;exists cu ?_;exists cx l ?_;exists cT ?_;erw[dR ?_];exists#[_,_,rfl,.inr #[_,cL.of l,rfl],?_];exists cx l ?_;exists#[_,rfl,⋯,⋯,?_];erw[yH (λu ys I=>dW λ(e:L7)=>dY (ys=e.map V.ref) (cj H1 I/\cp (gL I (cb O)) e (List.replicate u (h,[])))) #[[],rfl,cj.refl _,.nil] ?_ ?_]
  .rintro u ys I hu ⟨e,rfl,p,y⟩;have l2:=y.1;rw[length_replicate]at l2;erw[Js (S':=[none,↥J]) rfl ?_];exists dR ?_;exists#[va _,?_];sleep 3;exists#[ub,?_];sleep 4;erw[by rw[vt];lia,e++[p4],by rw[vj];rfl,p.trans (s3.trans s4),?_];rw[List.replicate_succ'];rwa[(y.mono λa x=>gL.same (s3.trans s4)).snoc #[J,p3,t4,D.same (p.trans (s3.trans s4)),s4 _ _ t3]]
  rintro ys I ⟨e,rfl,p,y⟩;have l2:=y.1;rw[length_replicate]at l2;erw[by rw[vt];lia,?_];walk_at"f rl hrl H3 s3 t3";have a3:=p.trans s3;have a5:=a3 _ _ l;exists#[λS' o=>S'=[↥b,some (.str (d.getD j ⟨#[]⟩)),↥J,some (.ref (g j)),↥rl,none,none,none]/\H3=o,?_,?_]
  rotate_left
  .exists cx a5 ?_;exists cu ?_;ac_nf;rwa[rfl,rfl]
  rintro S' o ⟨rfl,rfl⟩;exists#[ub,?_];sleep 5;erw[q p5 H5 (s1.trans (a3.trans s5)) ?_];rw[eR,eS];rwa[rl,J,e,t5,s5 _ _ t3,y.mono λa x=>gL.same (s3.trans s5),D.same (a3.trans s5)]
 | ring x n=>
  have l:H1 (g j)⊂(.tup _):=hF;have ln:W∘j=n:=ln;let⟨eR,eS⟩:=Ho X F h;exists cx l ?_;exists cu ?_;exists cx l ?_;exists cu ?_;exists cx l ?_;exists cT ?_;exists#[_,_,rfl,.inr #[_,cL.of l,rfl],?_];exists cx l ?_;exists#[_,rfl,⋯,⋯,?_];erw[yH (λu ys I=>dW λ(e:L7)=>dY (ys=e.map V.ref) (cj H1 I/\cp (gL I (cb O)) e (List.replicate u (h,[])))) #[[],rfl,cj.refl _,.nil] ?_ ?_]
  .rintro u ys I hu ⟨e,rfl,p,y⟩;have l2:=y.1;rw[length_replicate]at l2;erw[Js (S':=[none,↥J]) rfl ?_];exists dR ?_;exists#[va _,?_];sleep 3;exists#[ub,?_];sleep 4;erw[by rw[vt];lia,e++[p4],by rw[vj];rfl,p.trans (s3.trans s4),?_];rw[List.replicate_succ'];rwa[(y.mono λa x=>gL.same (s3.trans s4)).snoc #[J,p3,t4,D.same (p.trans (s3.trans s4)),s4 _ _ t3]]
  rintro ys I ⟨e,rfl,p,y⟩;have l2:=y.1;rw[length_replicate]at l2;erw[by rw[vt];lia,?_];walk_at"f rl hrl H3 s3 t3";have a3:=p.trans s3;have a5:=a3 _ _ l;exists#[λS' o=>dW λL=>mO (S'=[↥b,some (.str (d.getD j ⟨#[]⟩)),↥J,some (.ref (g j)),↥rl,none,none,none]) (cj H1 o) (o rl⊂(.lst (L.map V.ref))/\cp (gL o (cb O)) L ((List.replicate n.toNat (h,[])).set 0 (h,[x]))),?_,?_]
  rotate_left
  .exists cx a5 ?_;exists cT ?_;exists cx a5 ?_;exists#[uc,?_];walk_at"f w0 hw0 H4 s4 t4";exists#[ub,?_];walk_at"f c0 hc0 H5 s5 t5";have aa:=s4.trans s5;ac_nf;have up:∀{b' u},H5 b'⊂u->b'≠rl->upd H5 rl (.lst ((e.map V.ref).set 0 (.ref c0))) b'⊂u:=λY n=>(jh n).trans Y
   have sU:cj I (upd H5 rl (.lst ((e.map V.ref).set 0 (.ref c0)))):=λc u hc=>up (aa _ _ (s3 _ _ hc)) (je hc hrl)
   erw[rl,_,_,0,rfl,rfl,aa _ _ t3,(by unfold my;rw[vd nofun,vd (by rw[vt];lia)];rfl),e.set 0 c0,rfl,λc u hc=>sU _ _ (p _ _ hc),by rw[jy,map_set],?_];erw[(y.mono λa x=>gL.same sU).set #[J,w0,up t5 (λz=>?_),(D.same p).same sU,up (s5 _ _ t4) (λz=>?_)]]
   .rw[z,aa _ _ t3]at t5;cases t5
   .rw[z,t3]at hw0;cases hw0
  rintro S' H6 ⟨L,rfl,s6,t6,ac⟩;exists#[ub,?_];sleep 7;erw[q p7 H7 (s1.trans (s6.trans s7)) ?_];rw[eR,eS];rwa[rl,J,L,t7,s7 _ _ t6,ac.mono λa x=>gL.same s7,D.same (s6.trans s7)]
 | side is=>
  let⟨U,l,Y⟩:=hF;exists cx l ?_;exists cu ?_;exists cx l ?_;exists cu ?_;exists cx l ?_;exists cu ?_;exists cx l ?_;exists cT ?_;exists cx l ?_;exists#[b,pl,pp,J,U,a6,R,O,d,N,M,W,E,h,j,is,rfl,B.same s1,X,F,by rw[Y,v7];rfl,λi Z=>by have:=G i Z;lia,D,λr I s2 RA=>q r I (s1.trans s2) RA]
 | row is=>
  let⟨U,l,Y⟩:=hF;have ah:⇑is<=8:=a0.2.1;have G:∀i∈is,i<j:=G;have Y:H1 U⊂(.tup (is.map λj=>V.str (d.getD j ⟨#[]⟩))):=by rw[Y,v7];rfl
  let⟨eR,eS⟩:=LL X F h;exists cx l ?_;exists cu ?_;exists cx l ?_;exists cu ?_;exists cx l ?_;exists cu ?_;exists cx l ?_;exists cu ?_;exists cx l ?_;exists#[λS' o=>S'=[↥b,some (.str (d.getD j ⟨#[]⟩)),↥J,some (.ref (g j)),none,↥U,none,none]/\H1=o,?_,?_]
  rotate_left
  .exists cx l ?_;exists cu ?_;ac_nf;rwa[rfl,rfl]
  rintro S' o ⟨rfl,rfl⟩;exists#[va _,?_];sleep 5;have a2:=s1.trans s5;exists De ?_;exists#[U,rfl,.inr #[#[_,cL.of (s5 _ _ Y)],?_]];erw[Ea (xs:=is.map λj=>V.str (d.getD j ⟨#[]⟩)) (λt σ o=>oh λ(o6 o7:N5) (rl m:Addr) (e:L7)=>mP (σ=[↥b,some (.str (d.getD j ⟨#[]⟩)),↥m,some (.ref (g j)),↥rl,↥U,o6,o7]) (cj H5 o) (o rl⊂(.lst (e.map V.ref))) (cp (gL o (cb O)) e (g8 (cb O) d N W E ((is).take t) h)) (⇑e<=90*t/\mE o (cb O) m (((is).take t).foldl (λh j=>cJ (E.getD j []) h) h))) #[_,_,p5,J,[],rfl,cj.refl _,t5,.nil,va _,D.same s5] ?_ ?_ ?_]
  .rintro t σ o _ ⟨o6,o7,rl,m,e,rfl,S,_⟩;rwa[cL.of (S _ _ (s5 _ _ Y))]
  .rintro t v σ H6 hv ⟨o6,o7,rl,m,e,rfl,S,e1,y,a8,C⟩;rw[vv]at hv;let⟨i,Z,rfl⟩:=vg.mp hv;have tl:=(vx.mp Z).1;have il:=G i (vm Z);exists#[b,pl,pp,m,a6,R,O,d,N,M,W,E,_,i,rfl,B.same (a2.trans S),X,⋯,⋯,C,λr H7 s7 RA=>?_];let⟨a9,a7,a1,k1,k2,k3,k4⟩:=RA;have l2:=k3.1;have g2:=X.sW i ⋯;rw[Jp]at l2;erw[JN (cL.of k1) ?_];exists#[rl,a9,_,_,rfl,rfl,s7 _ _ e1,k2,by rw[vt,vt];lia,?_];sleep 8;have a4:=s7.trans s8;refine#[_,_,p8,a7,e++a1,rfl,S.trans a4,by rw[t8,vj],?_,by rw[vn];lia,?_]
   .rw[take_snoc Z,xm];rwa[(y.mono λa x=>gL.same a4).app (k3.mono λa x=>gL.same s8)]
   .rw[take_snoc Z,foldl_append];rwa[k4.same s8]
  .rintro σ H6 ⟨o6,o7,rl,m,e,rfl,S,e1,y,a8,C⟩;rw[vt,v5]at y C;exists#[ub,?_];sleep 9;erw[q p9 H9 (a2.trans (S.trans s9)) ?_];rw[eR,eS];rwa[rl,m,e,t9,s9 _ _ e1,y.mono λa x=>gL.same s9,C.same s9]
 | again k i=>
  have l:H1 (g j)⊂(.tup _):=hF;let⟨k1,k2,ik⟩:=a0;have ln:W∘j=k*W∘i:=ln;have gi:=X.D.g i ⋯;have ai:k<=90:=by
   have:=Int.mul_le_mul_of_nonneg_left gi.1 (show 0<=k by lia);lia
  have G:∀i'∈List.replicate k.toNat i,i'<j:=λi' h'=>by rw[(List.mem_replicate.mp h').2];rwa[ik]
  have ae:⇑(List.replicate k.toNat i)=k.toNat:=length_replicate;let⟨eR,eS⟩:=GD X F h;exists cx l ?_;exists cu ?_;exists cx l ?_;exists cu ?_;exists cx l ?_;exists cu ?_;exists cx l ?_;exists cu ?_;exists cx l ?_;exists#[λS' o=>dW λU=>dY (S'=[↥b,some (.str (d.getD j ⟨#[]⟩)),↥J,some (.ref (g j)),none,↥U,none,none]) (cj H1 o/\o U⊂(.lst ((List.replicate k.toNat i).map λj=>V.str (d.getD j ⟨#[]⟩)))),?_,?_]
  rotate_left
  .exists cx l ?_;exists cT ?_;exists cx l ?_;exists#[uc,?_];sleep 3;exists cx (s3 _ _ l) ?_;erw[p3,_,_,rfl,rfl,t3,⋯,⋯,by show 1*_<=_;lia,?_];sleep 4;rw[G6]at t4;ac_nf;rwa[p4,rfl,s3.trans s4,by rw[t4,List.map_replicate]]
  rintro S' H4 ⟨U,rfl,s4,Y⟩;exists#[va _,?_];sleep 5;have a2:=s1.trans (s4.trans s5);exists De ?_;exists#[U,rfl,.inl #[#[_,cm.of (s5 _ _ Y)],?_]];erw[JH (xs:=(List.replicate k.toNat i).map λj=>V.str (d.getD j ⟨#[]⟩)) (λt σ o=>oh λ(o6 o7:N5) (rl m:Addr) (e:L7)=>mP (σ=[↥b,some (.str (d.getD j ⟨#[]⟩)),↥m,some (.ref (g j)),↥rl,↥U,o6,o7]) (cj H5 o) (o rl⊂(.lst (e.map V.ref))) (cp (gL o (cb O)) e (g8 (cb O) d N W E ((List.replicate k.toNat i).take t) h)) (⇑e<=90*t/\mE o (cb O) m (((List.replicate k.toNat i).take t).foldl (λh j=>cJ (E.getD j []) h) h))) #[_,_,p5,J,[],rfl,cj.refl _,t5,.nil,va _,(D.same s4).same s5] ?_ ?_ ?_]
  .rintro t σ o _ ⟨o6,o7,rl,m,e,rfl,S,_⟩;rwa[cm.of (S _ _ (s5 _ _ Y))]
  .rintro t v σ H6 hv ⟨o6,o7,rl,m,e,rfl,S,e1,y,a8,C⟩;rw[vv]at hv;let⟨i,Z,rfl⟩:=vg.mp hv;have tl:=(vx.mp Z).1;have il:=G i (vm Z);exists#[b,pl,pp,m,a6,R,O,d,N,M,W,E,_,i,rfl,B.same (a2.trans S),X,⋯,⋯,C,λr H7 s7 RA=>?_];let⟨a9,a7,a1,k1,k2,k3,k4⟩:=RA;have l2:=k3.1;have g2:=X.sW i ⋯;rw[Jp]at l2;erw[JN (cL.of k1) ?_];exists#[rl,a9,_,_,rfl,rfl,s7 _ _ e1,k2,by rw[vt,vt];lia,?_];sleep 8;have a4:=s7.trans s8;refine#[_,_,p8,a7,e++a1,rfl,S.trans a4,by rw[t8,vj],?_,by rw[vn];lia,?_]
   .rw[take_snoc Z,xm];rwa[(y.mono λa x=>gL.same a4).app (k3.mono λa x=>gL.same s8)]
   .rw[take_snoc Z,foldl_append];rwa[k4.same s8]
  .rintro σ H6 ⟨o6,o7,rl,m,e,rfl,S,e1,y,a8,C⟩;rw[vt,v5]at y C;exists#[ub,?_];sleep 9;erw[q p9 H9 (a2.trans (S.trans s9)) ?_];rw[eR,eS];rwa[rl,m,e,t9,s9 _ _ e1,y.mono λa x=>gL.same s9,C.same s9]
theorem yN:∀n,(1+2*n)<*t.qU t.qY ["_law_book_here","_law_name","_law_heights"] (fc n)
 | 0=>xC
 | n+1=>Gs (Nat.le_add_right _ _) (W4 (Nat.le_add_right _ _) (yN n)) (yN n)
def NQQ:37<*t.qU t.qY ["_law_book_here","_law_name","_law_heights"] (fc 18):=yN 18
def F0:38<*t.Ym t.Yr ["_law_book_here"] (iW):=by
 specialize T.wA.F.ok yT;let⟨b,L,pp,j,k,m,names,e,M,gs,E,rfl,B,X,Y,hb,q⟩:=h;erw[_,#v["AŎ~˄˅&c,LƘÕǦ$Ĥĥ,^;ǩ.ǩ?ç#±5'9"],?_]
 rotate_right 102
 have C:⇑k=⇑e:=B.pa.1.trans j3;have Z:=X.nF;have a0:=X.sW (⇑e-1) ⋯;obtain⟨f,hf⟩:∃f,e[⇑e-1]?⊂f:=#[_,vz ⋯]
 let⟨la,v,fb,U,_⟩:=B.pa.get (qg (names:=names) hf);exists cx B.t ?_;exists cz (cm.of B.p) (XW (n:=⇑e) Y (by rw[vt];rwa[C]) (by rw[vv,v];rfl)) ?_;exists cx U ?_;exists BI ?_;exists cx B.t ?_;exists#[L,j,m.map λq=>(q.1,V.int q.2),rfl,B.l,by rw[vt];rwa[B.la.1],λi a q' h1 I=>?_,?_]
 .rw[vv]at I;let⟨y,hy,rfl⟩:=vg.mp I;rwa[B.la.2 i a y h1 hy]
 rw[Ij X.j0];walk_at"f d hd H1 s1 t1";erw[[d],um.mpr #[(λz=>nomatch z),nodup_nil],λc hc=>by rw[vo.mp hc];rwa[_,t1],λF G=>?_];let⟨o,W⟩:=G.2 d vq _ t1;have N:cj H F:=λc u hc=>(G.1 c λz=>by rw[vo.mp z,hd]at hc;cases hc).trans (s1 _ _ hc)
 have O:mE F (cb m) d (m.map (·.2)):=#[by unfold cb;rw[vt,vt],hb,o,W]
 exists#[b,L,pp,d,j,k,m,names,e,M,gs,E,_,⇑e-1,rfl,B.same N,X,⋯,⋯,O,λr H3 s3 S=>?_];let⟨rl,p,D,k1,k2,J,k4⟩:=S;have l3:=J.1;rw[Jp]at l3;erw[JN (cL.of k1) ?_];exists#[va _,?_];walk_at"f w hw H4 s4 t4";exists#[ub,?_];walk_at"f c hc H5 s5 t5";exists#[uc,?_];walk_at"f l1 hl1 H6 s6 t6";have l:=s4.trans (s5.trans s6);erw[rl,l1,_,_,rfl,rfl,l _ _ k2,t6,by rw[vt];show _+1<=_;lia,?_];walk_at"f l2 hl2 H7 s7 t7";have g:=l.trans s7;erw[q l2 (D++[c]) H7 (N.trans (s3.trans g)) (by rw[t7,vj];rfl) ?_];rwa[(J.mono λa x=>gL.same g).snoc #[p,w,s7 _ _ (s6 _ _ t5),k4.same g,s7 _ _ (s6 _ _ (s5 _ _ t4))]]
def MO:1<*t.XU t.Ae ["start","goal","beats","j"] (Pr.DZ):=by
 erw[T.EB.F.ok Mq (λf H Q E h=>?_) (λd A a s H f Q E i h=>?_)]
 .let⟨e,g,b,j,rfl,c,q⟩:=h;rfl
 let⟨e,g,b,j,rfl,c,q⟩:=h;erw[_,#v["?¼&ĚćĦ¨#&%'"],?_];erw[jB (S':=[some _,some _,some _,some _]) rfl ?_]
 try dsimp only[dG,Cx.kb]
 unfold Pr.B4 at c;ac_nf;rwa[q]
def Y4:4<*t.qy t.qC ["self","beat"] (fQ t.jF):=by
 specialize T.kg.ok Ja;let⟨a,z,d,f,F,hs,E,I,rfl,A,N,t1,t2,q⟩:=h;erw[_,#v["6.Ąæ&ĨƍƎ/Ə#¬0Ąĕ4ĕ^2Ą1Ą6<ĄÃ)e}D+6FĄu>D+8ÛĔˆˇ=%-D+D+*%-%"],?_]
 rotate_right 206
 have W:=N.s.w;have lE:=A.el;let⟨dx,ob⟩:=A.ob;exists#[a,dx,_,rfl,ob,WN ∅ ∅ ∅ ∅ ∅ ∅,?_];exists#[a,z,d,f,F,hs,E,I,rfl,A,N,t1,t2,λr M l2 as P H1 s1 S a5 er h1 C m h2 a4 gP pl bP hP _=>?_];have a1:=Gm N lE A.eo t1 hP;exists cx er ?_;exists cx er ?_;have m1:∀{c u},H c⊂u->c≠M:=λh=>je h S
 have al:=gP.1;erw[l2,rfl,#[_,cm.of h2],?_];refine JH (xs:=as.map V.ref) (λi σ l=>lK λ(Y Z o6 o7:N5)=>fH (σ=[↥a,~~~I,↥r,↥M,Y,Z,o6,o7]) (∀c u,c≠M->H1 c⊂u->l c⊂u) (l M⊂(.lst (((P.take i).foldl (mH d f) (gY d f F E I)).map V.int))) (⇑((P.take i).foldl (mH d f) (gY d f F E I))=⇑d/\(∀h∈((P.take i).foldl (mH d f) (gY d f F E I)),0<=h/\h<=10^18)))
  #[_,_,_,_,rfl,λc u _ h=>h,h1,C,m] ?_ ?_ ?_
 .rintro i σ l _ ⟨Y,Z,o6,o7,rfl,G,D,_⟩;rwa[cm.of (G _ _ a4.symm h2)]
 .rintro i v σ l hv ⟨Y,Z,o6,o7,rfl,G,D,C,m⟩;let⟨c,x,rfl,hx,O⟩:=gP.cO hv;let⟨x1,x0,x2⟩:=bP x (vm hx);obtain⟨p,hp⟩:∃p,f[x.1]?⊂p:=#[_,vz x1]
  let⟨fb,a0,hf⟩:=A.fo.get hp;have U:(P.take (i+1)).foldl (mH d f) (gY d f F E I)=mH d f ((P.take i).foldl (mH d f) (gY d f F E I)) x:=by
   rw[take_snoc hx,foldl_append];rfl
  rw[U];generalize(P.take i).foldl (mH d f) (gY d f F E I)=hts at D C m|-;have X:∀{c u},H c⊂u->l c⊂u:=λh=>G _ _ (m1 h) (s1 _ _ h)
  have nc:c≠M:=λz=>by rw[z,h1]at O;cases O
  have J:cw l fb p.2:=cw.put (λb xs m=>X m) hf;erw[JN (cL.of (G _ _ nc O)) ?_];exists#[a,_,dx,_,_,rfl,X ob,T.jQ,T.JY,YV,?_];exists cz (cm.of (X A.ho)) (ZM (i:=(x.1:Int)) ⋯ a0) ?_;ac_nf;by_cases L:∃y v n,p.2 = .rise y v n
  .let⟨y,v,n,e⟩:=L;rw[e]at J;have B:f[x.1]?⊂(p.1,.rise y v n):=by rw[hp,<-e]
   let⟨k,R⟩:=W.r x.1 p.1 y v n B;have ek:=jZ W.ln R;have kl:k<⇑d:=by have:=(vx.mp R).1;rw[cb,vt]at this;rwa[this]
   have o:l fb⊂(.tup [.str "raise",.str y,.int v,.int n]):=J;have gx:F∘x.1=n:=((N.s.ln x.1 (p.1,.rise y v n) B).2 n (show iC (.rise y v n) _ n from rfl)).symm;have eA:mH d f hts x=hts.set k (Rp.ramp (hts∘k) v n x.2):=by
    unfold mH;rw[B];show hts.set (cF (cb d) y) (Rp.ramp (hts∘(cF (cb d) y)) v n x.2)=_;rw[ek]
   erw[cx o ?_];exists cT ?_;exists#[a,_,dx,_,_,rfl,X ob,T.jQ,T.Qy,Xk,?_];exists cx o ?_;have g:du l z.d (.str y) (some (.int (k:Nat))):=by
    have g:=du.k (k:=Sum.inr y) (X A.hd);rw[Yx W.ln R]at g;rwa[g]
   erw[z.d,_,rfl,g,?_];ac_nf;have hh:hts[k]?⊂(hts∘k):=by rw[vy,vz ⋯];rfl
   erw[cz (cm.of D) (jV (j:=k) (by rw[vv,hh];rfl)) ?_];exists cx o ?_;exists cx o ?_;ac_nf;have h0:=m _ (vm hh);let⟨v0,v1,n1,n2⟩:=N.Cp x.1 p.1 y v n B;erw[_,_,_,_,rfl,by unfold Pr.B4;lia,?_];exists#[M,_,_,k,rfl,rfl,D,by unfold my;simp[C,kl],?_];rw[eA];erw[_,_,_,_,rfl,λc u O h=>(jh O).trans (G _ _ O h),jy.trans (by rw[map_set]),by rw[length_set];rwa[C],λh a2=>?_];rcases List.mem_or_eq_of_mem_set a2 with z | z
   .exact m h z
   .rw[z];rwa[Bm h0 #[v0,v1] n1 x0 ⋯]
  .have eA:mH d f hts x=hts:=by
    unfold mH;rw[hp];let⟨pn,pf⟩:=p;cases pf with
    | rise y v n=>rwa[ud #[y,v,n,rfl] L]
    | _=>rfl
   let⟨k,xs,R,dk⟩:=Dw J λy v n e=>L #[y,v,n,e]
   erw[eQ (cL.of R) (iH) ?_];exists fC dk ?_;ac_nf;rw[eA];rwa[_,_,_,_,rfl,G,D,C,m]
 rintro S' l ⟨Y,Z,o6,o7,rfl,G,D,C,m⟩;rw[vt,al,v5,a1]at D C;ac_nf;rwa[q M l (λc u h=>G _ _ (m1 h) (s1 _ _ h)) S D C]
def kq:5<*t.JP t.JR ["self"] (eX t.jC t.jF):=by
 specialize T.kG.ok kB;let⟨m,c,z,i,k,f,g,E,l,rfl,A,N,n,o,q⟩:=h;erw[_,#v["?æ>Ĩˈˉ/ˊ>"],?_];erw[jB (S':=[some _]) rfl ?_]
 try dsimp only[dG,Cx.kb]
 let⟨a,b⟩:=A.ob;let⟨e,j⟩:=A.sg.ob;exists#[m,_,a,_,_,rfl,b,T.jI,T.Jz,kh,?_];erw[c,e,_,rfl,j,WN ∅ ∅ ∅ ∅ ∅ ∅,?_];exists#[m,_,a,_,_,rfl,b,T.jI,T.Jb,Zo,?_];ac_nf;rwa[c,z,i,k,f,g,E,l,rfl,A.sg,N,n,o,q]
def Gz:2<*t.KL t.K0 ["stage","starts","inside","part","gone"] (hU P w t.jF):=by
 specialize T.xT.F.ok yW;let⟨a,l,d,z,ls,o,e,hs,E,st,xs,i,I,rfl,A,N,el,sl,hd,hi,t1,t2,kd,q⟩:=h;erw[_,#v["ä1ƙÃ%K}Xâãu>XKÅƯXb:¥C)O<ƙ~ǏǐÃ%>)PėFǪĹǫǬǭZ.Ǯƥǯ////ƙ4+ĶÔū²Á;ÁĴ.Á0Áˏːˑ˒˓$$«)5&%ĩ$$$$K}Xß-5lƄ$ƅƆƣǪĹǫǬǭÈǮƥǯ////4+Ôū²Á;ÁĴ.Á0Á'=-L"],?_]
 rotate_right 503
 have W:=N.s.w;have ah:=W.nI;let⟨dx,ob⟩:=A.ob;obtain⟨p,m⟩:∃p,o[i]?⊂p:=#[_,vz hi]
 let⟨fb,a6,R⟩:=A.fo.get m;have af:=(N.g hi).2;have a0:cP o e i=dq e p.2 (cX o p.2):=by unfold cP;rw[m]
 have a9:(o.map λp=>dq e p.2 (cX o p.2))[i]?⊂(cP o e i):=by rw[vv,m,a0];rfl
 let⟨al,a5,bs,a7,hq⟩:=A.pa.get a9;have a3:⇑(cP o e i)<=8:=by rw[a0];rwa[Dz (N.i8 m)]
 have yl:⇑(fu e I (cP o e i))<=8:=vW (List.length_filterMap_le _ _) a3;exists#[a,_,dx,_,_,rfl,ob,T.jQ,T.JY,YV,?_];exists cz (cm.of A.ho) (jV (j:=i) (by rw[vv,a6];rfl)) ?_;exists AR (C:=∃(f:Str) (tl:N4),H fb⊂(.tup (.str f::tl))/\(f = "row"\/f = "side"\/f = "again")/\((f = "side"/\dB ls o e st i I = .tuple ((fu e I (cP o e i)).map (fy (dB ls o e st))))\/(¬f = "side"/\fu e I (cP o e i)≠[]/\dB ls o e st i I=mW (fu e I (cP o e i)) (dB ls o e st)))) (λhg=>?_) (λM=>?_)
 .let⟨f,tl,r,u,hD⟩:=hg;have nr:¬f = "raise":=by rcases u with h | h | h<;>(rw[h];decide +kernel)
  have nh:¬f = "hold":=by rcases u with h | h | h<;>(rw[h];decide +kernel)
  have ng:¬f = "ring":=by rcases u with h | h | h<;>(rw[h];decide +kernel)
  erw[eQ (cL.of r) (iH) ?_];exists fC (vH nr) ?_;exists eQ (cL.of r) (iH) ?_;exists#[ub,?_];walk_at"f 1 e";erw[p1,_,rfl,.inr (cL.of e1),rfl,rfl,_,rfl,?_];erw[fC (by rcases u with h | h | h<;>(subst h;decide +kernel)) ?_];exists#[a,_,dx,_,_,rfl,s1 _ _ ob,T.jQ,T.Qa,WO,?_];exists cz (cm.of (s1 _ _ A.hp)) (ZM (i:=(i:Int)) ⋯ a5) ?_;exists#[a,_,dx,_,_,rfl,s1 _ _ ob,T.jQ,T.Ji,zZ,?_];exists#[al,z.s,I,bs,cP o e i,e,rfl,s1 _ _ a7,cp.mono hq λc y h=>s1 _ _ h,s1 _ _ A.hs,a3,λq hq=>N.nJ hq,t1,⋯,λlp U H2 s2 ag ep D=>?_];have F:=s1.trans s2;have S:=D.1;have a1:ie P w H2 d xs:=#[F _ _ hd.1,λp m=>F _ _ (hd.2 p m)]
  generalize eY:fu e I (cP o e i)=Y at hD D S yl kd;exists#[lp,rfl,#[_,cm.of ep],?_];erw[Jw (xs:=U.map V.ref) (λk J B=>cj H2 B/\ig B J ((Y.take k).map (fy (dB ls o e st)))) #[cj.refl _,.nil] ?_ ?_ ?_]
  .rintro k J B _ ⟨Z,_⟩;rwa[cm.of (Z _ _ ep)]
  .rintro k v J B hv ⟨Z,L⟩;let⟨c,y,rfl,hy,hc⟩:=D.cO hv;have hk:=(vx.mp hy).1;have ae:=BV L;rw[vt,vi]at ae;erw[Js (S':=[none,none,none,none,↥d]) rfl ?_];erw[BJ (cL.of (Z _ _ hc)) ?_];exists dR ?_;exists DU ?_;ac_nf;have O:ie P w B d xs:=#[Z _ _ a1.1,λp m=>Z _ _ (a1.2 p m)]
   erw[d,xs,rfl,O,?_];exists#[ub,?_];walk_at"f 3 e";erw[p3,[some (y.1:Int),y.2.2.2],xs,rfl,#[s3 _ _ O.1,λp m=>s3 _ _ (O.2 p m)],?_,?_]
   .show H3 p3=_;rw[e3];cases y.2.2.2<;>rfl
   erw[⋯,Z.trans s3,?_];rw[take_snoc hy,vj];rwa[C1 (L.mono s3) (((kd y (vm hy)).mono F).mono (Z.trans s3))]
  rintro J H3 ⟨s3,L⟩;rw[vt,S,v5]at L;have a4:=BV L;rw[vt]at a4;erw[⋯,?_];walk_at"f lq hlq H4 s4 e4";have G:=s3.trans s4;have X:=F.trans G;exists eQ (cL.of (X _ _ r)) (iH) ?_;ac_nf;rcases hD with⟨ht,hD⟩ | ⟨ht,yn,hD⟩
  .refine lF (vG ht) ?_;exists#[lq,_,rfl,.inl #[cm.of e4,?_]];walk_at"f 5 e";erw[q (.ref p5) H5 (X.trans s5) ?_];rw[hD];rwa[.tup e5 ((L.mono s4).mono s5)]
  .refine fC (vH ht) ?_;exists#[lp,rfl,#[_,cm.of (G _ _ ep)],?_];refine Jw (xs:=U.map V.ref) (λk J B=>J=((Y.take k).map λy=>y.2.2.1).map V.int/\H4=B) #[rfl,rfl] ?_ ?_ ?_
   .rintro k J B _ ⟨rfl,rfl⟩;rwa[cm.of (G _ _ ep)]
   .rintro k v J B hv ⟨rfl,rfl⟩;let⟨c,y,rfl,hy,hc⟩:=D.cO hv;have hk:=(vx.mp hy).1;erw[Js (S':=[none,none,none,none]) rfl ?_];erw[BJ (cL.of (G _ _ hc)) ?_];exists dR ?_;exists#[by rw[vt,vt,vi];lia,?_,rfl];rw[take_snoc hy,vj,vj];rfl
   rintro zs B ⟨rfl,rfl⟩;rw[show(U.map V.ref).length=⇑Y from(vt _).trans S,v5];erw[by rw[vt,vt];lia,?_];walk_at"f 5 e";erw[p5,_,rfl,cm.of e5,?_];have ad:Y.map (fy (dB ls o e st))≠[]:=λz=>yn (List.map_eq_nil_iff.mp z)
   let⟨x,ab,ac⟩:=IK (d:=PyData.none) ad;let⟨v,a2,aa⟩:=EH L ac;rw[vt]at a2;have y1:1<=⇑Y:=length_pos_iff.mpr yn;exists cz (cm.of (s5 _ _ e4)) (EC (n:=⇑Y) y1 a4 a2) ?_;exists#[ub,?_];walk_at"f 6 e";erw[q (.ref p6) H6 (X.trans (s5.trans s6)) ?_];rw[hD];unfold mW;rw[ab];rwa[.tup e6 (.cons (.int _) (.cons (((aa.mono s4).mono s5).mono s6) .nil))]
 .let⟨nm,fm⟩:=p;dsimp only at R;cases fm with
  | rise x v n=>
   have r:H fb⊂(.tup [.str "raise",.str x,.int v,.int n]):=R;let⟨j,hj⟩:=W.r i nm x v n m;have a8:=(vx.mp hj).1;rw[cb,vt]at a8;have g:=du.k (k:=Sum.inr x) A.hd;rw[Yx W.ln hj]at g;erw[cx r ?_];exists cT ?_;exists#[a,_,dx,_,_,rfl,ob,T.jQ,T.Qy,Xk,?_];exists cx r ?_;erw[z.d,_,rfl,g,?_];erw[cz (cm.of el) (jV (j:=j) (by rw[vv,vz ⋯];rfl)) ?_];exists#[ub,?_];walk_at"f 1 e";erw[q (.ref p1) H1 s1 ?_];rw[DI m,jZ W.ln hj,vy,vz ⋯];rwa[.tup e1 (.cons (.int _) (.cons (.int _) .nil))]
  | hold n=>
   have r:H fb⊂(.tup [.str "hold",.int n]):=R;erw[cx r ?_];exists cu ?_;exists cx r ?_;exists#[ub,?_];walk_at"f 1 e";erw[p1,_,rfl,.inr (cL.of e1),rfl,rfl,_,rfl,?_];erw[cT ?_];exists#[uc,?_];walk_at"f 2 e";erw[q (.ref p2) H2 (s1.trans s2) ?_];rw[DG m];rwa[.tup e2 (.cons (.int _) .nil)]
  | ring x n=>
   have r:H fb⊂(.tup [.str "ring",.str x,.int n]):=R;erw[cx r ?_];exists cu ?_;exists cx r ?_;exists#[ub,?_];walk_at"f 1 e";erw[p1,_,rfl,.inr (cL.of e1),rfl,rfl,_,rfl,?_];erw[cT ?_];exists#[uc,?_];walk_at"f 2 e";erw[q (.ref p2) H2 (s1.trans s2) ?_];rw[DH m];rwa[.tup e2 (.cons (.int _) .nil)]
  | row xs2=>
   let⟨b,r,h2⟩:=R;rwa[M #[_,_,r,.inl rfl,.inr #[by trivial,E8 N m t1 (.inl #[_,rfl]),Ey W m]]]
  | side xs2=>
   let⟨b,r,h2⟩:=R;rwa[M #[_,_,r,.inr (.inl rfl),.inl #[rfl,DJ W m]]]
  | again k x=>
   have r:H fb⊂(.tup [.str "again",.int k,.str x]):=R;rwa[M #[_,_,r,.inr (.inr rfl),.inr #[by trivial,E8 N m t1 (.inr #[_,_,rfl]),XE W m]]]
def GX:4<*t.KK t.KZ ["stage","beat"] (hQ t.jF):=by
 specialize T.xS.F.ok ZG;let⟨a,z,S,f,o,hs,E,I,rfl,A,N,t1,t2,q⟩:=h;erw[_,#v["6.ťæ&ĨƍƎ/Ə#¬0ť˔4ǒĕyL^2ť1ť8ȓº˕˖¦&aĕ%)*%â*˗«˘«%5Ü>#ĩ$$$$"],?_]
 rotate_right 204
 have W:=N.s.w;have ne:=N.ne;let⟨dx,ob⟩:=A.ob;exists#[a,dx,_,rfl,ob,WN ∅ ∅ ∅ ∅ ∅ ∅,?_];exists#[a,z,S,f,o,hs,E,I,rfl,A,N,t1,t2,λr l1 l2 as l H1 s1 a7 a8 er h1 ll hb h2 a9 gP pl bP hP eP=>?_];ac_nf;dsimp only[dG,Cx.kb];intro d U;have M:cj H1 (upd H1 d (nZ P w d [])):=Wr U rfl;have ed:ie P w (upd H1 d (nZ P w d [])) d []:=#[jy,λp L=>nomatch L]
 have a2:d≠l1:=λz=>by rw[z,h1]at U;cases U
 generalize a1:upd H1 d (nZ P w d [])=H2 at M ed|-;clear a1;have a6:=s1.trans M;have al:=gP.1;exists cx (M _ _ er) ?_;exists#[rfl,l2,_,rfl,cm.of (M _ _ h2),?_];walk_at"f lr hlr H3 s3 e3";have Z:=a6.trans s3;have a5:lr≠d:=λz=>by rw[z,ed.1]at hlr;cases hlr
 rw[<-map_reverse]at e3;erw[lr,rfl,#[_,cm.of e3],?_];have gR:fG H3 as.reverse l.reverse:=cp.mono (cp.rev gP) λc y h=>s3 _ _ (M _ _ h)
 refine JH (xs:=as.reverse.map V.ref) (λk σ j=>i5 λ(o4 o5:N5) (xs:List OE)=>i3 (σ=[↥a,~~~I,↥r,↥d,o4,o5]) (∀c u,c≠d->H3 c⊂u->j c⊂u) (ie P w j d xs) (⇑xs<=k) ((∀x∈l.reverse.take k,DV j (iq xs [some (x.1:Int),some x.2]) (dB S f o (gY S f o E I) x.1 x.2))) ((∀(y:KO),iq xs [y,none] = .dj)/\(k=0->xs=[])))
  #[_,_,[],rfl,λc u _ h=>h,#[s3 _ _ ed.1,λp L=>nomatch L],vb _,(λx B=>nomatch B),λy=>rfl,λ_=>rfl] ?_ ?_ ?_
 .rintro k σ j _ ⟨o4,o5,xs,rfl,G,_⟩;rwa[cm.of (G _ _ a5 e3)]
 .rintro k v σ j hv ⟨o4,o5,xs,rfl,G,B,xl,m,J,_⟩;let⟨c,x,rfl,g,hc⟩:=gR.cO hv;have hk:=(vx.mp g).1;rw[length_reverse]at hk;let⟨x1,x2,x3⟩:=bP x (mem_reverse.mp (vm g));have kd:∀{c:Addr} {u:HO},H c⊂u->j c⊂u:=λ{c u} h=>G _ _ (λz=>by rw[z]at h;rwa[ud (s1 _ _ h) (by rw[U];simp)]) (Z _ _ h)
  have sH:cj H j:=λc u h=>kd h
  have nt:∀{c:Addr} {O:N4},H3 c⊂.tup O->j c⊂(.tup O):=λ{c O} h=>G _ _ (λz=>by rw[z,s3 _ _ ed.1]at h;cases h) h
  have X:KidsP j xs (dB S f o (gY S f o E I)) (fu o x.2 (cP f o x.1)):=λy hy=>by
   unfold fy;cases hr:y.2.2.2 with
   | none=>rw[J];rwa[.dj]
   | some r0=>
    let⟨e1,R⟩:=vx.mp g;have a0:mT f o (⇑f-1) I=l.take (⇑l-1-k)++x::(l.reverse.take k).reverse:=by
     rw[<-eP,List.take_reverse,List.reverse_reverse];have a3:l[⇑l-1-k]?⊂x:=by
      rw[List.getElem?_reverse ⋯]at g;rwa[g]
     have:=List.take_append_drop (⇑l-1-k) l;rw[List.drop_eq_getElem_cons ⋯,(vx.mp a3).2,show ⇑l-1-k+1=⇑l-k by lia]at this;rwa[this.symm]
    rwa[m _ (mem_reverse.mp (MY N a0 y hy r0 hr))]
  erw[JN (cL.of (nt hc)) ?_];exists cx (nt (s3 _ _ (M _ _ er))) ?_;exists#[a,l1,d,z,S,f,o,hs,E,_,xs,x.1,x.2,rfl,A.same sH,N,G _ _ (Ne.symm a2) (s3 _ _ (M _ _ h1)),ll,B,x1,x2,x3,X,λv H4 s4 dv=>?_];exists#[ub,?_];walk_at"f kt hkt H5 s5 e5";have F:=s4.trans s5;have C:ie P w H5 d xs:=#[F _ _ B.1,λp L=>F _ _ (B.2 p L)]
  erw[d,kt,[some (x.1:Int),some x.2],xs,rfl,rfl,C,e5,⋯,?_];dsimp only[dG,Cx.kb];have aa:=Dc (xs:=xs) (k:=[some (x.1:Int),some x.2]) (b:=kt) (v:=v);have a4:∀c O,H5 c⊂.tup O->upd H5 d (nZ P w d (iM xs [some (x.1:Int),some x.2] kt v)) c⊂(.tup O):=λc O h=>(jh (λz=>by rw[z,C.1]at h;cases h)).trans h
  have Y:∀{v':V} {D:PyData},DV H5 v' D->DV (upd H5 d (nZ P w d (iM xs [some (x.1:Int),some x.2] kt v))) v' D:=λh=>h.nA (by rw[C.1];rwa[(λ_ z=>nomatch z),(λ_ z=>nomatch z)])
  erw[_,_,_,rfl,λc u n h=>(jh n).trans (F _ _ (G _ _ n h)),#[jy,LB C.2 e5 a4],⋯,λy hy=>?_,λy=>?_,λz=>⋯]
  .rw[C4];rw[take_snoc g]at hy;split
   .rename_i e;injection e with e1 R;injection R with R _;have e1:(y.1:Int)=x.1:=vL e1;have R:y.2=x.2:=vL R;rw[R,show y.1=x.1 by lia];rwa[Y (dv.mono s5)]
   .rename_i ne';rcases vh.mp hy with h | h
    .exact Y ((m y h).mono F)
    .rw[vo.mp h]at ne';rwa[ud rfl ne']
  .rw[C4,vc (λz=>nomatch z)];rwa[J y]
 rintro σ j ⟨o4,o5,xs,rfl,G,B,xl,m,J,hz⟩;have kd:∀{c:Addr} {u:HO},H c⊂u->j c⊂u:=λ{c u} h=>G _ _ (λz=>by rw[z]at h;rwa[ud (s1 _ _ h) (by rw[U];simp)]) (Z _ _ h)
 have sH:cj H j:=λc u h=>kd h
 have fl:=A.fo.1;rw[vt,length_reverse,al,take_of_length_le (by rw[length_reverse];lia)]at m;rw[vt,length_reverse,al]at hz xl;exists DU ?_;exists#[d,xs,rfl,B,?_];exists#[a,_,dx,_,_,rfl,sH _ _ ob,T.jQ,T.JY,YV,?_];exists#[_,_,rfl,.inl #[_,cm.of (sH _ _ A.ho),rfl],?_];rw[vt,fl];exists#[ub,?_];walk_at"f 7 e";erw[p7,[some ((⇑f-1:Nat):Int),some I],xs,rfl,#[s7 _ _ B.1,λp L=>s7 _ _ (B.2 p L)],?_,?_]
 .rw[show((⇑f:Nat):Int)-1=((⇑f-1:Nat):Int) by lia]at e7;rwa[e7]
 erw[q _ H7 (sH.trans s7) ?_];unfold lz;by_cases c:o∘(⇑f-1)<=I
 .rw[vd c];rw[W8 c]at eP;rw[hz (by rw[eP];rfl)];rwa[.dj]
 .rw[vc c];erw[(m (⇑f-1,I) (mem_reverse.mpr ?_)).mono s7];rw[eP,An W c];rwa[vq]
def wT:5<*t.QQ t.QV ["self"] (iU t.jC t.jF):=by
 specialize T.Wz.ok Wa;let⟨m,i,z,f,g,d,e,E,j,rfl,A,N,k,l,q⟩:=h;erw[_,#v["?E˙˚>>"],?_];erw[jB (S':=[some _]) rfl ?_]
 try dsimp only[dG,Cx.kb]
 let⟨a,b⟩:=A.ob;exists#[m,_,a,_,_,rfl,b,T.jI,T.Jz,kh,?_];exists#[m,_,a,_,_,rfl,b,T.jI,T.Jb,Zo,?_];ac_nf;rwa[i,z,f,g,d,e,E,j,rfl,A.sg,N,k,l,q]
def wS:6<*t.QP t.QU ["self"] (iS t.jC t.jF):=by
 specialize T.Wy.ok wZ;let⟨m,j,z,f,g,d,e,E,k,rfl,A,N,l,n,q⟩:=h;erw[_,#v["?¤>ßĉǰǱ/ǲĉ˜˝/˞"],?_];erw[jB (S':=[some _]) rfl ?_]
 try dsimp only[dG,Cx.kb]
 have G:(200:Nat)<sizeLine:=by decide
 let⟨b,c⟩:=A.ob;exists#[m,_,b,_,_,rfl,c,T.jI,T.Jb,Zo,?_];exists#[m,b,_,rfl,c,zk ∅ ∅ ∅,?_];erw[m,j,z,f,g,d,e,E,k,rfl,A,N,l,n,λy D C x u B=>?_];exists#[y,_,rfl,.inl #[cm.of u,?_]];walk_at"f 2 e";have a:=C.trans s2;exists#[m,b,_,rfl,a _ _ c,zk ∅ ∅ ∅,?_];erw[m,j,z,f,g,d,e,E,k,rfl,A.same a,N,l,n,λv F i r=>?_];exists#[ua,?_];walk_at"f 4 e";rwa[q p4 p2 v H4 (a.trans (i.trans s4)) e4 (s4 _ _ (i _ _ e2)) B (r.mono s4)]
def wX:7<*t.Zg t.Zk ["_law_machine","_law_beat"] (fS t.jC t.jF):=by
 specialize T.qR.F.ok qJ;let⟨m,I,z,C,F,gs,S,E,l,b,rfl,A,N,O,R,D,q⟩:=h;erw[_,#v["6.ŧƋJ0ŧĉǳǴ/ǵ˟ì2ĩ$$$$ŧ$$3ˠ8Éæ&ŦƚǶ/ƛ#Ƒˡˢ&Ŧƚˣ/hƛzĩ$$$$C#Ǒ8O.ŧ)PđÌĬÐ¢ƜıĲ'¥adˤ˥d˦˧d˨˩d˪˫ĭÐ¢ƜıĲ'¥adˬ˭dˮ˯d˰˱d˲˳đÌĬÐ¢ƜıĲ'¤d˴˵d˶˷d˸˹ĭUĖĉǳǴ/ǵ%Ɲ¢ǷıĲ'd˺Ǔƞ¢ǷıĲ'˻ƶ˼˽3˾˿$"],?_]
 rotate_right 203
 have ne:=N.ne;have W:=N.s.w;let⟨p,U⟩:=A.ob;exists#[m,p,_,rfl,U,zk ∅ ∅ ∅,?_];erw[m,I,z,C,F,gs,S,E,l,rfl,A,N,O,R,λX l1 v1 Z G e1 r a0 n=>?_];ac_nf;have J:=A.same G;have j:=G _ _ U;erw[λS' L=>dW λ(e:Addr)=>dY (S'=[↥m,~~~b,↥e,↥X,none]) (cj Z L/\L e⊂(pz (.ref t.jX) e)),?_,?_]
 .refine Mi ?_;erw[OC (LI ?_)];exists#[m,p,_,rfl,j,zk ∅ ∅ ∅,?_];exists#[m,I,z,C,F,gs,E,l,b,rfl,J,D,T.JD,λe he=>?_];refine jB (S':=[↥m,~~~b,some .dj,↥X,↥e]) rfl ?_
  try dsimp only[dG,Cx.kb]
  ac_nf;rwa[e,rfl,λc u h=>(jh (je h he)).trans h,jy]
 rintro S' H2 ⟨e,rfl,s2,k⟩;exists#[uA,?_];sleep 3;exists#[e,t.jX,p3,[t.Wf,t.X2,t.X3,t.X4],false,rfl,s3 _ _ k,T.yB,t3,iI T.qL (iI T.Qg (iI T.Qh (iI T.Qi rfl))),?_];erw[_,rfl,gQ ?_];exists#[uA,?_];sleep 4;exists#[e,t.jX,p4,[t.kL,t.kM,t.kN,t.kP],false,rfl,s4 _ _ (s3 _ _ k),T.yB,t4,iI T.qo (iI T.qp (iI T.qq (iI T.qr rfl))),?_];erw[_,rfl,gQ ?_];exists#[ua,?_];sleep 5;exists#[e,t.jX,p5,[t.Wg,t.YQ,t.yG],false,rfl,s5 _ _ (s4 _ _ (s3 _ _ k)),T.yB,t5,iI T.qM (iI T.JV (iI T.JK rfl)),?_];erw[_,rfl,gQ ?_];have f:=s2.trans (s3.trans (s4.trans s5));ac_nf;have y:=s5 _ _ (s4 _ _ (s3 _ _ k));erw[m,p,_,rfl,f _ _ j,zk ∅ ∅ ∅,?_];erw[m,I,z,C,F,gs,S,E,l,rfl,J.same f,N,O,R,λp6 l6 v6 H6 Y e6 x _ o=>?_];ac_nf;have d:=f.trans Y;have B:=II (gs:=gs) (E:=E) (t:=l) W ⋯;erw[_,_,Eg e6 x o,Eg (d _ _ e1) (d _ _ r) (n.mono d),B.ok nofun,B.ok nofun,?_];rw[SeqAt.eqv_refl _ B.1];exists gQ ?_;ac_nf;have g:=Y _ _ y;erw[DW g T.yB T.qm ?_];erw[_,rfl,dR ?_];exists DW g T.yB T.Ju ?_;rwa[q H6 (G.trans d)]
def wQ:1<*t.qS t.qW ["self"] (iO t.jC t.jF):=by
 specialize T.Wx.ok wY;let⟨m,f,z,d,e,c,E,g,rfl,A,q⟩:=h;erw[_,#v["?>"],?_];erw[jB (S':=[some _]) rfl ?_]
 try dsimp only[dG,Cx.kb]
 let⟨a,b⟩:=A.ob;exists#[m,_,a,_,_,rfl,b,T.jI,T.Jb,Zo,?_];rwa[q]
def W6:6<*t.Z5 t.Z8 ["_law_machine","_law_beat","_law_rows","_law_limbs"] (gJ t.jC t.jF):=by
 specialize T.Z1.F.ok YL;let⟨m,D,l,ra,pl,z,j,a1,b,f,e,hs,E,c,ws,rfl,A,N,X,Y,S,L,R,p,y,q⟩:=h;erw[_,#v["Aė2Zİ_.;ЀïǸǹ¹ǺǻØЁ4%Ķ×ïǸǹ¹ǺǻuąŊM$ĝģM$'ąŊM$&?ƝǼƫĉЂЃ/Є#ơƞǼőÆĉǰǱ/ǲ)ơ"],?_]
 rotate_right 401
 let⟨o,B⟩:=A.ob;have W:=N.s.w;have l8:=W.l8;let⟨d,w',M,r,ew⟩:=R;have sl:⇑(cS b f e E c)=⇑b:=r.1.trans (by unfold cb;rw[vt]);exists#[pl,rfl,#[_,cm.of p],?_];erw[Jw (xs:=j.map V.ref) (λu k G=>k=((cS b f e E c).take u).map V.int/\H=G) #[rfl,rfl] ?_ ?_ ?_]
 .rintro u k G _ ⟨rfl,rfl⟩;rwa[cm.of p]
 .rintro u v k G hv ⟨rfl,rfl⟩;let⟨a,⟨nm,h⟩,rfl,x,Z⟩:=y.cO hv;have hu:=(vx.mp x).1;have su:(cS b f e E c)[u]?⊂((cS b f e E c).getD u 0):=by rw[vy,vz ⋯];rfl
  erw[Js (S':=[none,↥l,~~~c]) rfl ?_];exists dR ?_;exists cz (cm.of S) (L) ?_;exists eQ (cL.of M) (iH) ?_;exists eQ (cL.of Z) (iH) ?_;erw[d,_,rfl,r.get W.ln (i:=u) (by unfold cb;rw[vv,x];rfl),?_];erw[by rw[vt,vi];lia,?_,rfl];rw[take_snoc su,vj];rfl
 rintro k G ⟨rfl,rfl⟩;rw[show(j.map V.ref).length=⇑(cS b f e E c) by rw[vt,y.1];lia,v5];erw[by rw[vt];lia,?_];sleep 3;exists#[m,o,_,rfl,s3 _ _ B,zk ∅ ∅ ∅,?_];erw[m,D,z,b,f,e,E,c,rfl,A.same s3,?_];exists lF (vG rfl) ?_;exists#[m,o,_,rfl,s3 _ _ B,zk ∅ ∅ ∅,?_];erw[m,D,z,b,f,e,hs,E,c,rfl,A.same s3,N,X,Y,λl1 F C a0 O U=>?_];ac_nf;have g:=Hv (n:=1) (cS b f e E c);erw[_,_,DV.lst O (kS _),DV.lst (C _ _ t3) (kS _),g.ok nofun,g.ok nofun,?_];rw[SeqAt.eqv_refl _ g.1];rwa[q F (s3.trans C)]
def Oo:39<*t.tZ t.sX ["_law_script"] (Pr.hJ K):=by
 specialize T.B7.F.ok zM;let⟨a,J,rfl,hS,ak,hB,q⟩:=h;erw[_,#v["J;t¢Ѕ$Ņņ(¢ŋ$ŌōÜ&(ŎČІЇ&§¦(a((((^.t0to2t]ЈЉ'1tÂà((o<tƊǽǾ/h3ǿȀz©C]ƟƠ'Ft5ĈD]ƟƠ'ĈD]ƟƠ'JjtƊǽǾ/h3ǿȀz©C-ÉŃłȁȂȃD-PÉŃłȁȂȃD-¯Њ3ľ`(W%ĀtäÍtQÂà@vN@NW%đUĖƨ+Ȅȅ/Ȇc)NÉæIŦƚǶ/ƛYƢwåY%UĖƨIȄȅ/Ȇc)WY?ġHđËÐĔȇȈ+N)ĕđËÐĔȇȈI¢ŋ$ŌōWY%)ĕenvN6āt=§aLW%R¨L*¼W%*ÞN8đÌĬËÐEŨũ+fĭËÐEŨũIfƝEŨũIW%ƞEŨũ+L"],?_]
 rotate_right 111
 exists#[_,_,rfl,.inl #[_,hS,rfl],?_];rw[vt];exists#[_,_,rfl,?_];exists#[_,_,rfl,?_];obtain⟨j,em,b6,aI⟩:∃j:Nat,(if(2:Int)<(if(16:Int)<(⇑J:Int)-1 then 16 else(⇑J:Int)-1)then(if(16:Int)<(⇑J:Int)-1 then 16 else(⇑J:Int)-1)else 2)=(j:Int)/\2<=j/\j<=16:=by
  erw[(if(2:Int)<(if(16:Int)<(⇑J:Int)-1 then 16 else(⇑J:Int)-1)then(if(16:Int)<(⇑J:Int)-1 then 16 else(⇑J:Int)-1)else 2).toNat,?_,?_,?_]<;>(split<;>split<;>lia)
 rw[em];exists#[(by show 5<=sizeLine;lia),?_];walk_at"f bd hbd H1 s1 t1";exists#[a,bd,J,j,4,9,7,4,90,rfl,s1.seq hS,ak,b6,aI,#[t1,by decide,by decide,by decide,by decide,by decide,by decide,by decide,by decide,by decide,by decide],λr b pl pp C a7 f g I M gs H2 s2 aD Bk D N fl nL nd nW l1 l8 aH lW bw gb=>?_];clear em;have aa:=s1.trans s2;have dl:⇑(cg f I)=⇑I:=j3;have W:=N.s.w;have bo:=D.AL l8 N.Au lW nW ⋯ ⋯;have gp:=D.g (⇑I-1) ⋯;have aR:=gb (⇑I-1) ⋯;let⟨EE,_,eE⟩:=EN.ex D aH ⇑I (vb _);have X:lX (cb g) f I M gs EE:=#[D,⋯,nd,aH,by unfold cb;rw[vt];rwa[l8],⋯,gb,eE,NG N]
 have hb:Rm.hB (g.map (·.2)):=λx hx=>by let⟨q,hq,rfl⟩:=vK.mp hx;rwa[N.Au q hq]
 generalize eL:gs∘(⇑I-1)=L at gp aD aR;erw[JN (cL.of aD) ?_];exists#[b,pl,pp,C,a7,g,f,I,M,gs,EE,rfl,Bk,X,⋯,hb,λrl aq Hr sr S R=>?_];have Bk:=Bk.same sr;have aa:=aa.trans sr;exists#[a,J,_,rfl,aa.seq hS,ak,⋯,?_];exists#[_,_,rfl,⋯,⋯,?_];have nb:=yr (Pr.cell J 1) 30;generalize fM (Pr.cell J 1) 30=far at nb|-;exists#[b,pl,pp,C,a7,g,_,rfl,Bk,W,⋯,λtb lb fb aS ms H3 s3 et el ef _ _ _ dr Kd=>?_];let⟨g1,h1,aA,N1,P1⟩:=E7 N X ⋯ l8 Kd;generalize de (cW g (cg f I)) ms=k1 at *;have G:=Bk.same s3;ac_nf;intro m dm hm b3 bu;have s4:cj H3 (upd (upd H3 dm (.own m)) m (.ins t.jC dm [])):=λc u h=>(jh (je h hm)).trans ((jh (je h b3)).trans h)
 erw[m,dm,tb,lb,fb,C,aS,g,k1,g1,h1,rfl,jy,s4 _ _ et,s4 _ _ el,G.la.mono λb x h=>s4 _ _ h,s4 _ _ ef,cp.mono dr λa d h=>h.same s4,aA,N1,λst z E H5 k5 bq A5 _=>#[rfl,?_]];have s5:cj H3 H5:=λc u h=>k5 _ _ (je h hm) (s4 _ _ h)
 have PA:=P1 E A5.sg.el A5.sg.eo;have ab:=s3.trans s5;have U:=Bk.same ab;clear P1 aA N1 Kd dr ef el et s4 k5 G;exists#[b,pl,pp,C,a7,g,_,rfl,U,W,⋯,λbx b5 bm bc bt H6 s6 aX aW bk _ _ _ bg bf=>?_];exists cx aX ?_;erw[b5,_,rfl,.inl (cm.of aW),?_];walk_at"f p1 hp1 H7 s7 t7";exists#[b,pl,pp,C,a7,g,_,rfl,U.same (s6.trans s7),W,⋯,λbz bs b1 aB b7 H8 s8 aY bl aV _ _ _ aT aQ=>?_];let⟨g3,h3,aP,N3,P3⟩:=E7 N X ⋯ l8 aQ;generalize de (cW g (cg f I)) b7=k3 at *;exists cx aY ?_;erw[b1,_,rfl,.inl (cm.of aV),?_];walk_at"f p2 hp2 H9 s9 t9";exists#[ub,?_];walk_at"f p3 hp3 H10 s10 t10";ac_nf;intro o ai ho b4 bv
 have l:cj H10 (upd (upd H10 ai (.own o)) o (.ins t.jC ai [])):=λc u h=>(jh (je h ho)).trans ((jh (je h b4)).trans h)
 have F:=s8.trans (s9.trans s10);have p:=s6.trans (s7.trans F);have az:=U.same p;erw[o,ai,p3,p1,p2,C,aB,g,k3,g3,h3,rfl,jy,l _ _ t10,l _ _ (F _ _ t7),az.la.mono λb x h=>l _ _ h,l _ _ (s10 _ _ t9),cp.mono aT λa d h=>(h.same (s9.trans s10)).same l,aP,N3,λsu y E' a3 aE al a1 nz=>#[rfl,?_]];have Z:cj H10 a3:=λc u h=>aE _ _ (je h ho) (l _ _ h)
 have O:=P3 E' a1.sg.el a1.sg.eo;let⟨bh,a6⟩:=A5.ob;let⟨bj,aM⟩:=A5.sg.ob;have mo:m≠o:=je (p _ _ a6) ho;have aK:o≠st:=Ne.symm (je (p _ _ aM) ho);have b8:m≠su:=λe=>by rw[e]at a6;rw[l _ _ (p _ _ a6)]at al;cases al
 have n1:H5 p1=none:=none_of s6 hp1;have n2:H5 p2=none:=none_of (s6.trans (s7.trans s8)) hp2;have b9:p1≠p2:=je (s8 _ _ t7) hp2;have q1:=Z _ _ (F _ _ t7);have q2:=Z _ _ (s10 _ _ t9);have q3:=Z _ _ t10;have sc:cj H5 a3:=p.trans Z;exists cx q3 ?_;exists#[.inl #[rfl,_,cm.of q1],p1,_,rfl,rfl,q1,?_];generalize aj:upd a3 p1 _=H13;have Y:∀c u,c≠p1->a3 c⊂u->H13 c⊂u:=λc u n h=>aj▸(jh n).trans h
 have r1:=qV aj;clear aj;have av:=a1.zy nz (l _ _ (F _ _ t7)) q1 Y;have r2:=Y _ _ (Ne.symm b9) q2;have r3:=Y _ _ (λe=>by rw[e,q1]at q3;cases q3) q3;exists cx r3 ?_;exists#[.inl #[rfl,_,cm.of r2],p2,_,rfl,rfl,r2,?_];generalize aC:upd H13 p2 _=H14;have am:∀c u,c≠p2->H13 c⊂u->H14 c⊂u:=λc u n h=>aC▸(jh n).trans h
 clear aC;have aw:=av.zy nz (l _ _ (s10 _ _ t9)) r2 am;have a0:cj H5 H14:=λc u h=>am _ _ (je h n2) (Y _ _ (je h n1) (sc _ _ h))
 have AM:=A5.same a0;have Bk:=U.same a0;have S:=a0 _ _ (ab _ _ S);have s0:cj H H14:=aa.trans (ab.trans a0);have a8:∀u:Nat,(u:Int)<=L->∃ra,fi (aq.map V.ref) (u:Int)=↥ra/\gL H14 (cb g) ra (oJ g f I gs EE u):=λu hu=>by
  let⟨ra,e,r⟩:=My (by rw[eL];rwa[gp.1]) (by rw[eL];rwa[hu]) R;rwa[ra,jV (by rw[vv,e];rfl),(r.same ab).same a0]
 rw[eL]at PA O;clear A5 a1 av nz q1 q2 q3 r1 r2 r3 Y am l al aE Z t7 t9 t10 az U p F a6 aM;exists#[1,L+1,rfl,#[⋯,⋯,⋯,⋯],?_];have wz:∀u:Nat,dV 2 (.list ((oJ g f I gs EE u).2.map PyData.str)):=λu=>dV.lst (n:=1) λd hd=>by
  let⟨n,hn,rfl⟩:=vK.mp hd;erw[Di (xs:=[_]) (λy hy=>?_) _ (vo.mpr rfl)];rw[vo.mp hy];have h:∀x∈dD (cg f I) gs (u:Int),Ws.gn x=true:=Mn bo;rw[Dg X ⋯]at h;rwa[h n hn]
 refine Qp (λi σ H'=>lK λ(u:Int) (o9 ao a5:N5)=>mP (σ=[↥a,~~~j,↥b,~~~L,↥rl,~~~far,↥m,↥p3,↥o,o9,ao,a5]) (0<=u) (u<=L) (KN H14 H') (dP t.jC t.jF H' m st z g (gN g k1) g1 E (i:Nat)/\dP t.jC t.jF H' o su y g (gN g k3) g3 E' u))
  #[0,_,_,_,rfl,vA _,⋯,.of (cj.refl _),AM,aw] ?_ ?_
 .clear AM aw;rintro i σ H' hi ⟨u,o9,ao,a5,rfl,u0,u1,kn,AM,AO⟩;have hi:i<(L+1-1).toNat:=hi;rw[show(1:Int)+(i:Nat)=((i+1:Nat):Int) by lia];have b2:=kn.seq (s0.seq hS);exists#[a,J,_,rfl,b2,ak,⋯,?_];exists#[_,_,rfl,⋯,⋯,?_];have ba:=yr (Pr.cell J (1+((i+1:Nat):Int)%20)) (100+((i+1:Nat):Int));generalize fM (Pr.cell J (1+((i+1:Nat):Int)%20)) (100+((i+1:Nat):Int))=mx at ba|-;ac_nf;have aO:=ve mx (show L+1≠0 by lia);have bb:=vf mx (show 0<L+1 by lia);generalize mx%(L+1)=th at aO bb|-;let⟨dx,ob⟩:=AM.ob;let⟨dy,oo⟩:=AO.ob;erw[m,dx,_,rfl,ob,zk ∅ ∅ ∅,?_];erw[m,st,z,g,_,g1,h1,E,(i:Nat),rfl,AM,PA.N,⋯,by rw[PA.l];lia,λl1 H1 q1 bn A1 e1=>?_];have an:=kn.trans (.one ob q1);have ae:=AO.but ob (Ne.symm mo) b8 q1;let⟨ra,ar,k⟩:=a8 (i+1) ⋯;let⟨dd,ww,er,eh,ew⟩:=k.m5 an;have a9:=congrArg Prod.snd (PA.r (i+1));have e1:H1 l1⊂(.lst ((oJ g f I gs EE (i+1)).2.map V.str)):=by rw[<-a9];exact e1
  exists cz (cm.of (an.l S)) (ar) ?_;exists cx er ?_;erw[_,_,DV.lst e1 (QY _),DV.lst ew (QY _),(wz (i+1)).ok nofun,(wz (i+1)).ok nofun,?_];rw[SeqAt.eqv_refl _ (wz (i+1)).1];exists gQ ?_;exists#[o,dy,_,rfl,q1 _ _ (Ne.symm mo) oo,zk ∅ ∅ ∅,?_];exists#[o,su,y,g,_,g3,E',u,th,rfl,ae,aO,by rw[O.l];lia,λH2 q2 A2=>?_];let⟨bi,aJ⟩:=ae.ob;have aF:=an.trans (.one aJ q2);have ax:dP t.jC t.jF H2 m st z g (gN g k1) g1 E ((i+1:Nat):Int):=A1.but aJ mo aK q2;clear A1 AO ae AM er eh ew e1 a9 k ar;exists#[λS' H'=>S'=[↥a,~~~j,↥b,~~~L,↥rl,~~~far,↥m,↥p3,↥o,some (.int ((i+1:Nat):Int)),~~~th,a5]/\KN H14 H'/\dP t.jC t.jF H' m st z g (gN g k1) g1 E ((i+1:Nat):Int)/\dP t.jC t.jF H' o su y g (gN g k3) g3 E' (if th<L then th+1 else L),?_,?_]
  rotate_left
  .exists cH (λc=>?_) (λc=>?_)
   .ac_nf;let⟨aU,ap⟩:=A2.ob;erw[o,aU,_,rfl,ap,zk ∅ ∅ ∅,?_];obtain⟨v,rfl⟩:∃v:Nat,th=(v:Int):=#[th.toNat,⋯]
    erw[o,su,y,g,_,g3,h3,E',(v:Int),rfl,A2,O.N,⋯,by rw[O.l];lia,λl3 H3 q3 bp A3 e3=>?_];have B:=aF.trans (.one ap q3);let⟨rb,br,k⟩:=a8 (v+1) ⋯;let⟨dd,ww,er,eh,ew⟩:=k.m5 B;have a9:=congrArg Prod.snd (O.r (v+1));have e3:H3 l3⊂(.lst ((oJ g f I gs EE (v+1)).2.map V.str)):=by rw[<-a9];rwa[e3]
    exists cz (cm.of (B.l S)) (br) ?_;exists cx er ?_;erw[_,_,DV.lst e3 (QY _),DV.lst ew (QY _),(wz (v+1)).ok nofun,(wz (v+1)).ok nofun,?_];rw[SeqAt.eqv_refl _ (wz (v+1)).1];erw[_,rfl,gQ ?_];erw[rfl,B,ax.but ap mo aK q3,?_];rw[vd c];rwa[A3]
   .refine gQ ?_;erw[rfl,aF,ax,?_];rw[vc c];rw[show th=L by lia]at A2;rwa[A2]
  rintro S' H3 ⟨rfl,B,ac,af⟩;have G:=B.bk Bk;exists cx G.t ?_;let⟨ra,ar,k⟩:=a8 (i+1) ⋯;have RR:=k.m5 B;rw[<-PA.r (i+1)]at RR;erw[m,st,rl,ra,pl,z,C,aq,g,_,g1,h1,E,((i+1:Nat):Int),_,rfl,ac,PA.N,⋯,by rw[PA.l];lia,B.l S,ar,RR,G.l,G.la,λH4 s4=>?_];exists gQ ?_;obtain⟨w2,aZ,w0,w1⟩:∃w2:Nat,(if th<L then th+1 else L)=(w2:Int)/\(w2:Int)<=L/\(if L<th+1 then L else th+1)=(w2:Int):=#[(if th<L then th+1 else L).toNat,by split<;>lia,by split<;>lia,by split<;>split<;>lia]
  rw[aZ]at af;have a4:=B.trans (.of s4);have ay:=ac.same s4;have ag:=af.same s4;have a2:=a4.bk Bk;clear RR k ar ac af G;exists#[_,_,rfl,?_];rw[w1];exists cx a2.t ?_;let⟨ra,ar,k⟩:=a8 w2 w0;have RR:=k.m5 a4;rw[<-O.r w2]at RR;erw[o,su,rl,ra,pl,y,C,aq,g,_,g3,h3,E',(w2:Int),_,rfl,ag,O.N,⋯,by rw[O.l];rwa[w0],a4.l S,ar,RR,a2.l,a2.la,λbe as=>?_];exists gQ ?_;have aG:=a4.trans (.of as);have ad:=ay.same as;have ah:=ag.same as;clear RR k ar ay ag a2;exists cH (λc=>?_) (λc=>?_)
  .exists#[uA,?_];sleep 6;ac_nf;obtain⟨wg,b0,aL⟩:∃wg:Int,fi [V.int (-1),V.int (L+1),V.int (-1-far),V.int (L+1+far)] (((i+1:Nat):Int)/9%4)= ~~~wg/\(wg<0\/L<wg):=by
    have r:((i+1:Nat):Int)/9%4=0\/((i+1:Nat):Int)/9%4=1\/((i+1:Nat):Int)/9%4=2\/((i+1:Nat):Int)/9%4=3:=⋯
    rcases r with e | e | e | e<;>rw[e]
    .exact#[_,rfl,⋯]
    .exact#[_,rfl,⋯]
    .exact#[_,rfl,⋯]
    .exact#[_,rfl,⋯]
   erw[cz (cm.of t6) (b0) ?_];exists#[m,st,z,g,_,g1,h1,E,_,wg,rfl,ad.same s6,PA.N,⋯,by rw[PA.l];lia,by rw[PA.l];rwa[aL],λH7 s7=>?_];exists gQ ?_;ac_nf;have aN:=s6.trans s7;erw[o,su,y,g,_,g3,h3,E',_,wg,rfl,ah.same aN,O.N,⋯,by rw[O.l];rwa[w0],by rw[O.l];rwa[aL],λH8 s8=>?_];exists gQ ?_;ac_nf;have au:=aN.trans s8;rwa[_,_,_,_,rfl,⋯,w0,aG.trans (.of au),ad.same au,ah.same au]
  .ac_nf;rwa[_,_,_,_,rfl,⋯,w0,aG,ad,ah]
 rintro σ H' ⟨u,o9,ao,a5,rfl,u0,u1,kn,AM,AO⟩;exists#[o,su,y,g,_,g3,h3,E',u,_,rfl,AO,O.N,u0,by rw[O.l];rwa[u1],by rw[O.l];lia,λH6 s6=>?_];erw[_,rfl,dR ?_];exists#[m,st,z,g,_,g1,h1,E,_,_,rfl,AM.same s6,PA.N,⋯,by rw[PA.l];lia,by rw[PA.l];lia,λH7 s7=>?_];rwa[q _]
end
section
theorem fin{P:Program}{w:World}{K:cG}{mg:Nw}{base:Heap}{t:Ad}(T:Txt K mg t):eB P w K mg base pQ 39 t.tZ t.sX ["_law_script"] (Pr.hJ K):=by
 erw[Classical.byContradiction λh=>?_]
 have z:=Classical.epsilon_spec (p:=λb=>¬gB b) #[#[P,w,K,mg,base,t],λz=>h (z T)]
 rw[show Classical.epsilon (λb=>¬gB b)=cB by unfold cB;rfl]at z
 rwa[z (λT=>@Oo T)]
end
@[elab_as_elim] theorem uu1{P:L9->Prop}(us:L9)(hl:⇑us=1)(h:∀a0,P [a0]):P us:=by
 cases us with
 | nil=>cases hl
 | cons a r=>cases r with
  | nil=>rwa[h a]
  | cons b s=>cases hl
def l4{K:cG}{x q:Str}{st:Stmt}{f:Addr}{k:FuncData}{l:Str}(F:fF K x q st f k)(h:∀(kV j o:Value) (an:Option Addr) (i m:Value) (a0:Value),bindArgs (W.fnOf x q (eC st) (dM st) (cf st) .none kV j o an i m) #[[a0],[]]=pure ([l].zip [a0]):=by intros;rfl):Binds K k [l] []:=F.binds λa b c d e g p n=>uu1 p n (h a b c d e g)
@[elab_as_elim] theorem uu2{P:L9->Prop}(us:L9)(hl:⇑us=2)(h:∀a0 a1,P [a0,a1]):P us:=by
 cases us with
 | nil=>cases hl
 | cons a r=>rwa[@uu1 (λr=>P (a::r)) r (Nat.succ.inj hl) (h a)]
def md{K:cG}{x q:Str}{st:Stmt}{f:Addr}{l:FuncData}{m n:Str}(F:fF K x q st f l)(h:∀(kV j r:Value) (an:Option Addr) (i o:Value) (a0 k:Value),bindArgs (W.fnOf x q (eC st) (dM st) (cf st) .none kV j r an i o) #[[a0,k],[]]=pure ([m,n].zip [a0,k]):=by intros;rfl):Binds K l [m,n] []:=F.binds λa b c d e g s p=>uu2 s p (h a b c d e g)
@[elab_as_elim] theorem uu3{P:L9->Prop}(us:L9)(hl:⇑us=3)(h:∀a0 a1 a2,P [a0,a1,a2]):P us:=by
 cases us with
 | nil=>cases hl
 | cons a r=>rwa[@uu2 (λr=>P (a::r)) r (Nat.succ.inj hl) (h a)]
def ou{K:cG}{x q:Str}{st:Stmt}{f:Addr}{m:FuncData}{n o p:Str}(F:fF K x q st f m)(h:∀(kV j t:Value) (an:Option Addr) (i r:Value) (a0 k l:Value),bindArgs (W.fnOf x q (eC st) (dM st) (cf st) .none kV j t an i r) #[[a0,k,l],[]]=pure ([n,o,p].zip [a0,k,l]):=by intros;rfl):Binds K m [n,o,p] []:=F.binds λa b c d e g u s=>uu3 u s (h a b c d e g)
@[elab_as_elim] theorem uu4{P:L9->Prop}(us:L9)(hl:⇑us=4)(h:∀a0 a1 a2 a3,P [a0,a1,a2,a3]):P us:=by
 cases us with
 | nil=>cases hl
 | cons a r=>rwa[@uu3 (λr=>P (a::r)) r (Nat.succ.inj hl) (h a)]
def AK{K:cG}{x q:Str}{st:Stmt}{f:Addr}{n:FuncData}{o p r s:Str}(F:fF K x q st f n)(h:∀(kV j v:Value) (an:Option Addr) (i t:Value) (a0 k l m:Value),bindArgs (W.fnOf x q (eC st) (dM st) (cf st) .none kV j v an i t) #[[a0,k,l,m],[]]=pure ([o,p,r,s].zip [a0,k,l,m]):=by intros;rfl):Binds K n [o,p,r,s] []:=F.binds λa b c d e g w u=>uu4 w u (h a b c d e g)
@[elab_as_elim] theorem uu5{P:L9->Prop}(us:L9)(hl:⇑us=5)(h:∀a0 a1 a2 a3 a4,P [a0,a1,a2,a3,a4]):P us:=by
 cases us with
 | nil=>cases hl
 | cons a r=>rwa[@uu4 (λr=>P (a::r)) r (Nat.succ.inj hl) (h a)]
def ym{K:cG}{x q:Str}{st:Stmt}{f:Addr}{o:FuncData}{p r s t u:Str}(F:fF K x q st f o)(h:∀(kV j y:Value) (an:Option Addr) (i v:Value) (a0 k l m n:Value),bindArgs (W.fnOf x q (eC st) (dM st) (cf st) .none kV j y an i v) #[[a0,k,l,m,n],[]]=pure ([p,r,s,t,u].zip [a0,k,l,m,n]):=by intros;rfl):Binds K o [p,r,s,t,u] []:=F.binds λa b c d e g z w=>uu5 z w (h a b c d e g)
abbrev Ng(K:cG)(x:Str)(f:Addr):Prop:=W.nsIn K mainGlobals x⊂(some (.ref f))
abbrev N0(K:cG)(x:Str):Prop:=W.nsIn K mainGlobals x⊂none
abbrev Nn(K:cG)(C:Addr)(x:Str):Prop:=W.findIn K (.ref C) x⊂none
abbrev Nx(K:cG)(C:Addr)(x:Str)(f:Addr):Prop:=W.findIn K (.ref C) x⊂(some (.ref f))
abbrev fh(K:cG)(x:Str)(st:Stmt)(f:Addr)(d:FuncData):Prop:=fF K x x st f d
set_option autoImplicit true in
def NO{K:cG}{h:Heap}{mg:Nw}(X:K.In h)(G:h.Ns mainGlobals mg)
  {b:Addr}
  (y:Ng K "Machine" b) (D:W.plainGet K b Str.empty=true) (A:W.hasDictIn K b=true) (E:W.plainOver K b=true) (F:W.findIn K (.ref b) "__setattr__"= some (some (.builtin "object.__setattr__"))) (C:W.makesIn K b=true) (B:W.keepIn K (.ref b)=true) (Jz:Nn K b "stage") (qi:Nn K b "last") (Jb:Nn K b "now")
  {c:Addr}
  (Z:Ng K "Stage" c) (ae:W.plainGet K c Str.empty=true) (ab:W.hasDictIn K c=true) (af:W.plainOver K c=true) (ag:W.findIn K (.ref c) "__setattr__"= some (some (.builtin "object.__setattr__"))) (ad:W.makesIn K c=true) (ac:W.keepIn K (.ref c)=true) (Qy:Nn K c "limbs") (zl:Nn K c "first") (JY:Nn K c "forms") (Ji:Nn K c "sizes") (zU:Nn K c "left") (Qa:Nn K c "pieces")
  (a1:Ng K "numbers_of" f1) (F1:fh K "numbers_of" yS f1 d1)
  (a2:Ng K "names_in" f2) (F2:fh K "names_in" kz f2 d2)
  (a3:Ng K "form_with" f3) (F3:fh K "form_with" ZW f3 d3)
  (a4:Ng K "made" f4) (F4:fh K "made" BM f4 d4)
  (a5:Ng K "come_to" f5) (F5:fh K "come_to" wp f5 d5)
  (a6:Ng K "drums" f6) (F6:fh K "drums" Wn f6 d6)
  (a7:Ng K "name_of" f7) (F7:fh K "name_of" wt f7 d7)
  (a8:Ng K "book_of" f8) (F8:fh K "book_of" Za f8 d8)
  (a9:Ng K "inner" f9) (F9:fh K "inner" Wo f9 d9)
  (b6:Ng K "ends" f10) (aw:fh K "ends" BL f10 d10)
  (b7:Ng K "moved" f11) (ax:fh K "moved" Wp f11 d11)
  (b8:Ng K "check_side" f12) (ay:fh K "check_side" zX f12 d12)
  (b9:Ng K "length_of" f13) (az:fh K "length_of" YI f13 d13)
  (ba:Ng K "lengths" f14) (aA:fh K "lengths" yx f14 d14)
  (bb:Ng K "ramp" f15) (aB:fh K "ramp" BN f15 d15)
  (bc:Ng K "pieces_in" f16) (aC:fh K "pieces_in" YJ f16 d16)
  (bd:Ng K "pieces_of" nF) (aD:fh K "pieces_of" ZX nF d17)
  (be:Ng K "progress" f18) (aE:fh K "progress" kA f18 d18)
  (bf:Ng K "within" f19) (aF:fh K "within" xi f19 d19)
  (b2:Nx K c "__init__" Ab) (b4:W.isFn K (.ref Ab)=true) (ak:fF K "__init__" "Stage.__init__" qk Ab d20)
  (bg:Nx K c "scene" f21) (bM:W.isFn K (.ref f21)=true) (al:fF K "scene" "Stage.scene" yc f21 d21)
  (bh:Nx K c "heights_at" f22) (bN:W.isFn K (.ref f22)=true) (am:fF K "heights_at" "Stage.heights_at" QF f22 d22)
  (bi:Nx K c "words_at" f23) (bO:W.isFn K (.ref f23)=true) (an:fF K "words_at" "Stage.words_at" ze f23 d23)
  (bj:Ng K "pins_of" f24) (aG:fh K "pins_of" yz f24 d24)
  (bk:Ng K "pins_at" f25) (aH:fh K "pins_at" wu f25 d25)
  (b3:Nx K b "__init__" f26) (b5:W.isFn K (.ref f26)=true) (ao:fF K "__init__" "Machine.__init__" QE f26 d26)
  (bl:Nx K b "step" f27) (bP:W.isFn K (.ref f27)=true) (ap:fF K "step" "Machine.step" ZC f27 d27)
  (bm:Nx K b "jump" f28) (bQ:W.isFn K (.ref f28)=true) (aq:fF K "jump" "Machine.jump" Zz f28 d28)
  (bn:Nx K b "beat" f29) (bR:W.isFn K (.ref f29)=true) (ar:fF K "beat" "Machine.beat" Zy f29 d29)
  (bo:Nx K b "heights" f30) (bS:W.isFn K (.ref f30)=true) (as:fF K "heights" "Machine.heights" Q2 f30 d30)
  (bp:Nx K b "pins" f31) (bT:W.isFn K (.ref f31)=true) (au:fF K "pins" "Machine.pins" ZB f31 d31)
  (bq:Nx K b "kept" f32) (bU:W.isFn K (.ref f32)=true) (av:fF K "kept" "Machine.kept" ZA f32 d32)
  (br:Ng K "_law_cell_at" f33) (aI:fh K "_law_cell_at" ZD f33 d33)
  (bs:Ng K "_law_mixed" f34) (aJ:fh K "_law_mixed" yP f34 d34)
  (bt:Ng K "_law_word" f35) (aK:fh K "_law_word" YG f35 d35)
  (bu:Ng K "_law_named" f36) (aL:fh K "_law_named" zW f36 d36)
  (bv:Ng K "_law_form" f37) (aM:fh K "_law_form" YC f37 d37)
  (bw:Ng K "_law_long" f38) (aN:fh K "_law_long" zI f38 d38)
  (bx:Ng K "_law_moves" f39) (aO:fh K "_law_moves" yQ f39 d39)
  (bz:Ng K "_law_last" f40) (aP:fh K "_law_last" YD f40 d40)
  (bA:Ng K "_law_take" f41) (aQ:fh K "_law_take" YE f41 d41)
  (bB:Ng K "_law_naming" f42) (aR:fh K "_law_naming" QA f42 d42)
  (bC:Ng K "_law_form_told" f43) (aS:fh K "_law_form_told" zg f43 d43)
  (bD:Ng K "_law_book_told" f44) (aT:fh K "_law_book_told" zf f44 d44)
  (bE:Ng K "_law_book" f45) (aU:fh K "_law_book" YB f45 d45)
  (bF:Ng K "_law_beside" f46) (aV:fh K "_law_beside" Qz f46 d46)
  (bG:Ng K "_law_climbed" f47) (aW:fh K "_law_climbed" ZE f47 d47)
  (bH:Ng K "_law_run" f48) (aX:fh K "_law_run" yR f48 d48)
  (bI:Ng K "_law_told" f49) (aY:fh K "_law_told" YF f49 d49)
  (bJ:Ng K "_law_refused" f50) (aZ:fh K "_law_refused" ZF f50 d50)
  (bK:Ng K "_law_stands" f51) (b0:fh K "_law_stands" zo f51 d51)
  (bL:Ng K "law" f52) (b1:fh K "law" Cf f52 d52)
  {w:Tok}
  (Y:W.nsIn K mainGlobals "FIGURES"= some (some (.str "abcdefghijklmnopqrstuvwxyz" w)))
  {Qs:Addr}
  (p:Ng K "MOST_NAMES" Qs) (kk_MOST_NAMES:rX K Qs [("row",.flat (.int 8)),("side",.flat (.int 4))])
  {a:Addr}
  {d:Addr}
  {l:Addr}
  {k:Addr}
  {j:Addr}
  {i:Addr}
  {s:Addr}
  {r:Addr}
  {q:Addr}
  {m:Addr}
  {f:Addr}
  {g:Addr}
  {n:Addr}
  (Q:Ng K "NoBeat" a)
  (o:Ng K "PlayError" d)
  (U:Ng K "NoPins" l)
  (T:Ng K "NoName" k)
  (S:Ng K "NoLimb" j)
  (R:Ng K "NoBook" i)
  (aj:Ng K "Long" s)
  (ai:Ng K "Idle" r)
  (ah:Ng K "Done" q)
  (a0:Ng K "Broad" m)
  (u:Ng K "TwoHands" f)
  (z:Ng K "TooLong" g)
  (aa:Ng K "NoRow" n)
  (yA:W.excIn K a [.type "ValueError",.type "Exception",.type "BaseException",.type "object"] "ValueError.__new__"= true)
  (J:W.findIn K (.ref a) "__getattribute__"= some (some (.builtin "BaseException.__getattribute__")))
  (N:Nn K a "__getattr__")
  (I:W.findIn K (.ref a) "__class__"= some (some (.builtin "object.__class__")))
  (H:W.subIn K (.ref a) (.type "BaseException")⊂true)
  (P:W.subIn K (.ref a) (.type "object")⊂true)
  (L:W.isClsIn K a=true)
  (JD:W.exmOne K (.ref a) (.ref d)⊂true)
  (qr:W.kitOne K (.ref a) (.ref l)⊂false)
  (qq:W.kitOne K (.ref a) (.ref k)⊂false)
  (qp:W.kitOne K (.ref a) (.ref j)⊂false)
  (qo:W.kitOne K (.ref a) (.ref i)⊂false)
  (Qi:W.kitOne K (.ref a) (.ref s)⊂false)
  (Qh:W.kitOne K (.ref a) (.ref r)⊂false)
  (Qg:W.kitOne K (.ref a) (.ref q)⊂false)
  (qL:W.kitOne K (.ref a) (.ref m)⊂false)
  (JK:W.kitOne K (.ref a) (.ref f)⊂false)
  (JV:W.kitOne K (.ref a) (.ref g)⊂false)
  (qM:W.kitOne K (.ref a) (.ref n)⊂false)
  (Ju:W.kitOne K (.ref a) (.type "ValueError")⊂true)
  (qm:W.kitOne K (.ref a) (.ref a)⊂true)
  (z0:N0 K "ValueError") (z1:N0 K "abs") (z2:N0 K "dict") (z3:N0 K "enumerate") (z4:N0 K "isinstance") (z5:N0 K "len") (z6:N0 K "list") (z7:N0 K "max") (z8:N0 K "min") (z9:N0 K "range") (bV:N0 K "reversed") (bW:N0 K "sorted") (bX:N0 K "sum") (bY:N0 K "tuple") (bZ:N0 K "zip") :
  ∃t:Ad,Txt K mg t:=by
 have M:∀{x v},W.nsIn K mainGlobals x⊂(some v)->mg x⊂v:=λe=>W.mg_of X G e
 have O:∀{x},N0 K x->mg x=none:=λe=>W.mg_none_of X G e
 rwa[#[f1,_,f2,_,f3,_,f4,_,f5,_,f6,_,f7,_,f8,_,f9,_,f10,_,f11,_,f12,_,f13,_,f14,_,f15,_,f16,_,nF,_,f18,_,f19,_,Ab,_,f21,_,f22,_,f23,_,f24,_,f25,_,f26,_,f27,_,f28,_,f29,_,f30,_,f31,_,f32,_,f33,_,f34,_,f35,_,f36,_,f37,_,f38,_,f39,_,f40,_,f41,_,f42,_,f43,_,f44,_,f45,_,f46,_,f47,_,f48,_,f49,_,f50,_,f51,_,f52,_,c,b,a,d,l,k,j,i,s,r,q,m,f,g,n,_,_],#[#[F1,M a1,l4 F1],#[F2,M a2,l4 F2],#[F3,M a3,ou F3],#[F4,M a4,l4 F4],#[F5,M a5,md F5],#[F6,M a6,l4 F6],#[F7,M a7,l4 F7],#[F8,M a8,l4 F8],#[F9,M a9,l4 F9],#[aw,M b6,l4 aw],#[ax,M b7,l4 ax],#[ay,M b8,ou ay],#[az,M b9,md az],#[aA,M ba,l4 aA],#[aB,M bb,AK aB],#[aC,M bc,ou aC],#[aD,M bd,md aD],#[aE,M be,ou aE],#[aF,M bf,ou aF],ak,#[b2,b4,ak.kp],md ak,al,#[bg,bM,al.kp],md al,am,#[bh,bN,am.kp],md am,an,#[bi,bO,an.kp],md an,#[aG,M bj,ym aG],#[aH,M bk,md aH],ao,#[b3,b5,ao.kp],md ao,ap,#[bl,bP,ap.kp],l4 ap,aq,#[bm,bQ,aq.kp],md aq,ar,#[bn,bR,ar.kp],l4 ar,as,#[bo,bS,as.kp],l4 as,au,#[bp,bT,au.kp],l4 au,av,#[bq,bU,av.kp],l4 av,#[aI,M br,md aI],#[aJ,M bs,md aJ],#[aK,M bt,md aK],#[aL,M bu,AK aL],#[aM,M bv,ym aM],#[aN,M bw,md aN],#[aO,M bx,ou aO],#[aP,M bz,ou aP],#[aQ,M bA,md aQ],#[aR,M bB,ym aR],#[aS,M bC,ym aS],#[aT,M bD,ou aT],#[aU,M bE,ou aU],#[aV,M bF,ou aV],#[aW,M bG,md aW],#[aX,M bH,ou aX],#[aY,M bI,l4 aY],#[aZ,M bJ,md aZ],#[b0,M bK,AK b0],#[b1,M bL,l4 b1],#[ae,ab,af,ag],#[ad,b2,b4,ac],M Z,Qy,zl,JY,Ji,zU,Qa,#[D,A,E,F],#[C,b3,b5,B],M y,Jz,qi,Jb,M Q,M o,M U,M T,M S,M R,M aj,M ai,M ah,M a0,M u,M z,M aa,yA,#[J,N,I,H,P,L],JD,qr,qq,qp,qo,Qi,Qh,Qg,qL,JK,JV,qM,Ju,qm,O z0,O z1,O z2,O z3,O z4,O z5,O z6,O z7,O z8,O z9,O bV,O bW,O bX,O bY,O bZ,M Y,#[_,rfl],M p,kk_MOST_NAMES]]
end
end K43
open PySem PySem.W PyProof.Rows
set_option maxRecDepth 100000 in
set_option maxHeartbeats 0 in
theorem PySem.Challenge.cw_camplay_k43_refused_and_apart_holds : PySem.Challenge.rw_camplay_k43_refused_and_apart.Holds := by
 w_on;o_law;k_head;(case hw=>w_witness2)
 k_fill
 erw[L2.Le (l:=PySem.Challenge.rw_camplay_k43_refused_and_apart) (n:=63) (k:=39) (x:="_law_script") (CX:=L2.pQ) (sp:=Pr.hJ) rfl nofun rfl #[rfl,by decide,by decide] (λw h Y=>PySem.W.kIn_of Y) ?F (λK H a ns hl hb hO hS=>#[a,ns,rfl,hS,hl,hb,λ_=>rfl]) (λ_ _ _ _ z=>z)]
 case F=>
  intro w mg fa h KX G hmg;have TT:∃t:K43.Ad,K43.Txt (L2.KOf KX) mg t:=by
   dsimp only[L2.KOf];refine' K43.NO KX G ?_ ?_ ?_ ?_ ?_ ?_ ?_ ?_ ?_ ?_ ?_ ?_ ?_ ?_ ?_ ?_ ?_ ?_ ?_ ?_ ?_ ?_ ?_ ?_ (L2.jL ?_ ?_ ?_) ?_ (L2.jL ?_ ?_ ?_) ?_ (L2.jL ?_ ?_ ?_) ?_ (L2.jL ?_ ?_ ?_) ?_ (L2.jL ?_ ?_ ?_) ?_ (L2.jL ?_ ?_ ?_) ?_ (L2.jL ?_ ?_ ?_) ?_ (L2.jL ?_ ?_ ?_) ?_ (L2.jL ?_ ?_ ?_) ?_ (L2.jL ?_ ?_ ?_) ?_ (L2.jL ?_ ?_ ?_) ?_ (L2.jL ?_ ?_ ?_) ?_ (L2.jL ?_ ?_ ?_) ?_ (L2.jL ?_ ?_ ?_) ?_ (L2.jL ?_ ?_ ?_) ?_ (L2.jL ?_ ?_ ?_) ?_ (L2.jL ?_ ?_ ?_) ?_ (L2.jL ?_ ?_ ?_) ?_ (L2.jL ?_ ?_ ?_) ?_ ?_ (L2.jL ?_ ?_ ?_) ?_ ?_ (L2.jL ?_ ?_ ?_) ?_ ?_ (L2.jL ?_ ?_ ?_) ?_ ?_ (L2.jL ?_ ?_ ?_) ?_ (L2.jL ?_ ?_ ?_) ?_ (L2.jL ?_ ?_ ?_) ?_ ?_ (L2.jL ?_ ?_ ?_) ?_ ?_ (L2.jL ?_ ?_ ?_) ?_ ?_ (L2.jL ?_ ?_ ?_) ?_ ?_ (L2.jL ?_ ?_ ?_) ?_ ?_ (L2.jL ?_ ?_ ?_) ?_ ?_ (L2.jL ?_ ?_ ?_) ?_ ?_ (L2.jL ?_ ?_ ?_) ?_ (L2.jL ?_ ?_ ?_) ?_ (L2.jL ?_ ?_ ?_) ?_ (L2.jL ?_ ?_ ?_) ?_ (L2.jL ?_ ?_ ?_) ?_ (L2.jL ?_ ?_ ?_) ?_ (L2.jL ?_ ?_ ?_) ?_ (L2.jL ?_ ?_ ?_) ?_ (L2.jL ?_ ?_ ?_) ?_ (L2.jL ?_ ?_ ?_) ?_ (L2.jL ?_ ?_ ?_) ?_ (L2.jL ?_ ?_ ?_) ?_ (L2.jL ?_ ?_ ?_) ?_ (L2.jL ?_ ?_ ?_) ?_ (L2.jL ?_ ?_ ?_) ?_ (L2.jL ?_ ?_ ?_) ?_ (L2.jL ?_ ?_ ?_) ?_ (L2.jL ?_ ?_ ?_) ?_ (L2.jL ?_ ?_ ?_) ?_ (L2.jL ?_ ?_ ?_) ?_ (L2.jL ?_ ?_ ?_) ?_ ?_ ?kk_MOST_NAMES ?_ ?_ ?_ ?_ ?_ ?_ ?_ ?_ ?_ ?_ ?_ ?_ ?_ ?yA ?_ ?_ ?_ ?_ ?_ ?_ ?JD ?qr ?qq ?qp ?qo ?Qi ?Qh ?Qg ?qL ?JK ?JV ?qM ?Ju ?qm ?_ ?_ ?_ ?_ ?_ ?_ ?_ ?_ ?_ ?_ ?_ ?_ ?_ ?_ ?_
   any_goals first | (show PySem.W.nsIn _ _ _=_;k_is) | (show PySem.W.findIn _ _ _=_;k_is) | k_is
   (case kk_MOST_NAMES=>(show PyProof.Rows.KTD.tabLook _ _ _ _=true);kernel_rfl)
   (case yA=>k_exc)
   (case JD=>kts_exm)
   (case qr=>kit_is)
   (case qq=>kit_is)
   (case qp=>kit_is)
   (case qo=>kit_is)
   (case Qi=>kit_is)
   (case Qh=>kit_is)
   (case Qg=>kit_is)
   (case qL=>kit_is)
   (case JK=>kit_is)
   (case JV=>kit_is)
   (case qM=>kit_is)
   (case Ju=>kit_is)
   (case qm=>kit_is)
  let⟨t,T⟩:=TT;let⟨_,_,kV,dc,pm,an,cd,ct,_,e,_⟩:=T.B7.F.ex;have e0:=hmg.symm.trans T.B7.m;cases e0;erw[t.sX,λs v=>?_,λbase _ _=>K43.fin T];rw[e];rwa[.of_eq rfl]
#print axioms PySem.Challenge.cw_camplay_k43_refused_and_apart_holds
